/-
  The contract of sector's Write. No statement of the seat is proved here.
-/
import Derived.Test.YtlpjeopeboemmaaDoorDisk
namespace Go.Proofs.YtlpjeopeboemmaaDoor
open Go Go.RowKit

theorem take_list {α : Type} {l r : List α} {i : Nat} {x : α} (h : l.drop i = x :: r) : (l.toArray)[i]? = some x := by
  have := congrArg List.head? h
  rw [List.head?_drop] at this
  simpa using this

/-- a whole list laid over a row, cell by cell -/
theorem fold_get (cs : List Value) : ∀ (z : Array Value) (o k : Nat), o + cs.length ≤ z.size →
    (List.foldl (fun (a : Array Value) (x : Value × Nat) => a.setIfInBounds x.2 x.1) z (cs.zipIdx o))[k]? = if o ≤ k ∧ k < o + cs.length then cs[k - o]? else z[k]? := by
  induction cs with
  | nil => intro z o k _; rw [if_neg (by simp)]; rfl
  | cons v r ih =>
    intro z o k hz
    simp only [List.length_cons] at hz
    rw [List.zipIdx_cons, List.foldl_cons, ih _ _ _ (by simp; omega)]
    simp only [List.length_cons]
    by_cases h1 : k = o
    · subst h1
      rw [if_neg (by omega), if_pos (by omega)]
      simp [show k < z.size by omega]
    · by_cases h2 : o + 1 ≤ k ∧ k < o + 1 + r.length
      · rw [if_pos h2, if_pos (by omega), show k - o = (k - (o + 1)) + 1 by omega, List.getElem?_cons_succ]
      · rw [if_neg h2, if_neg (by omega), Array.getElem?_setIfInBounds, if_neg (by omega)]
theorem fold_whole (cs : List Value) (z : Array Value) (h : z.size = cs.length) : List.foldl (fun (a : Array Value) (x : Value × Nat) => a.setIfInBounds x.2 x.1) z cs.zipIdx = cs.toArray := by
  apply Array.ext_getElem?
  intro k
  rw [fold_get cs z 0 k (by omega)]
  by_cases hk : k < cs.length
  · rw [if_pos (by omega)]; simp
  · rw [if_neg (by omega), Array.getElem?_eq_none (by omega), Array.getElem?_eq_none (by simp; omega)]

theorem wpList_copy64 {P : Program} {ops : Array Oper} {rest : List Oper} {o : Oper} {a : Act} {w : World} {Q : Exit → Act → World → Prop} (hgd : o.guard = none) (d s : Operand) (t : TypeId)
    (ho : o.op = .call { callee := .builtin .copy, args := #[d, s], argTypes := #[t, t] }) (el : TypeId) (hu : P.underlying t = some (.slice el)) (hsz : (P.info? el).map (·.size) = some 1)
    (gv : Nat) (e : TypeId) (hd : a.eval d = .slice (some ⟨gv, 0, none⟩) 64 64) (hb : Blk w gv e (Array.replicate 64 (.int .u8 0)))
    (A : Option Addr) (n c : Nat) (bs : List UInt8) (hs : a.eval s = .slice A n c) (hn : n = bs.length) (hl : bs.length ≤ 64) (hr : Rd w A (bs.map bv))
    (h : ∀ w', Blk w' gv e ((pad bs).map bv).toArray → Only (fun k => k = gv) w w' → wpList P ops Q rest (a.put o.dst (.int .i64 (bs.length : Int))) w') : wpList P ops Q (o :: rest) a w := by
  subst hn
  have hmin : Nat.min bs.length 64 = bs.length := Nat.min_eq_left hl
  have hrun : (Builtin.copy_ #[t, t] o.type #[.slice (some ⟨gv, 0, none⟩) 64 64, .slice A bs.length c]).run P w = .ok (goInt bs.length) (w.setCells gv 0 (bs.map bv)) := by
    rcases A with _ | ad
    · have hnil : bs = [] := by
        rcases bs with _ | ⟨b, r⟩
        · rfl
        · obtain ⟨ad, h0, _⟩ := hr 0 _ rfl
          cases h0
      subst hnil
      exact run_copy_none w t t o.type el _ _ _ _ _ _ hu hsz rfl
    · have := run_copy_cells (P := P) w t t o.type el gv 0 64 64 ad bs.length c (bs.map bv) hu hsz (by rw [List.length_map, hmin]) (fun j v hv => by
          obtain ⟨ad', h1, h2⟩ := hr j v hv
          injection h1 with h1
          subst h1
          exact h2) (fun j hj => ((hb.there 0 64 (by simp)) j (by rw [List.length_map] at hj; omega)).1) (fun j hj => ((hb.there 0 64 (by simp)) j (by rw [List.length_map] at hj; omega)).2) (bvs_one _)
      rw [List.length_map] at this
      exact this
  have hblk : Blk (w.setCells gv 0 (bs.map bv)) gv e ((pad bs).map bv).toArray := by
    obtain ⟨cs', h1, h2, h3, h4⟩ := Blk.setCells (bs.map bv) 0 hb (by simp; omega)
    have : cs' = ((pad bs).map bv).toArray := by
      apply Array.ext_getElem?
      intro k
      rcases Nat.lt_or_ge k bs.length with hk | hk
      · have := h3 k (bv bs[k]) (by simp [hk])
        rw [Nat.zero_add] at this
        rw [this]
        rw [List.getElem?_toArray, List.getElem?_map, pad, List.getElem?_append_left hk, List.getElem?_eq_getElem hk]
        rfl
      · rw [h4 k (.inr (by simpa using hk))]
        simp only [List.getElem?_toArray, List.getElem?_map, pad, List.getElem?_append_right hk, Array.getElem?_replicate, List.getElem?_replicate]
        by_cases h64 : k < 64
        · rw [if_pos h64, if_pos (by omega)]; rfl
        · rw [if_neg h64, if_neg (by omega)]; rfl
    rw [← this]
    exact h1
  refine wpList_plain hgd fun K hK => ?_
  unfold Oper.wp execOp
  simp only [ho, resolve, invoke, builtin, Sem.run_bind, Sem.run_pure, Result.andThen_ok, List.map_toArray, List.map_cons, List.map_nil, hd, hs, hrun]
  exact hK _ _ (h _ hblk ((Only.refl (fun k => k = gv) w).setCells (.inl rfl) _ _))

theorem tick_lo {l : Int} (h : -1 ≤ l) : -1 ≤ tick l := by unfold tick; split <;> omega
theorem tick_hi {l : Int} (h : l ≤ 9223372036854775807) : tick l ≤ 9223372036854775807 := by unfold tick; split <;> omega

/-- what a Write leaves behind -/
theorem write_fin {w w3 w4 w6 : World} {fp : Nat → Prop} {g gc : Nat} {S : Sec} {l : Int} {B : Nat → Option Addr} {C : Nat → Nat} (h3 : Lay w3 fp g gc S l B C) (hbel : Below w.heap.size w w3) {i : Nat} (hi : i < S.length) (v : List UInt8) (hv : v.length = 64) (o : Obj) (A' : Option Addr) (m c' : Nat)
    (hm : m = S[i].length) (ho : Only (inA (B i)) (w3.alloc o).drew w4) (hr : RowO w4 91 64 A' m c' (S[i].tail.flatten.map bv ++ v.map bv)) (hA : ∀ k, inA A' k → inA (B i) k ∨ ((w3.alloc o).drew.heap.size ≤ k ∧ k < w4.heap.size))
    (ho6 : Only (fun k => k = g) (w4.setCells gc (i * 65 + 64) [.slice A' m c']) w6) (hb6 : Blk w6 g 88 #[.slice (some ⟨gc, 0, none⟩) S.length S.length, litV (tick l), leftV (tick l)]) :
    Imp w6 (More fp w w6) g (S.set i (S[i] ++ [v])) (tick l) ∧ Only fp w w6 := by
  subst hm
  have hs3 : w3.heap.size ≤ (w3.alloc o).drew.heap.size := by show _ ≤ (w3.alloc o).heap.size; rw [World.size_alloc]; omega
  have ho34 : Only (inA (B i)) w3 w4 := (((Only.refl (inA (B i)) w3).alloc o).drew).trans ho (fun _ _ h => h)
  have hp := h3.push hi v hv A' c' ho34 (by rw [List.map_append]; exact hr) (fun k hk => by
    rcases hA k hk with h1 | h1
    · exact .inl h1
    · exact .inr ⟨by omega, h1.2⟩)
  have hlen : (S.set i (S[i] ++ [v])).length = S.length := by simp
  have hf := hp.fuse (tick l) (tick_lo h3.lo) (tick_hi h3.hi) ho6 (by rw [hlen]; exact hb6)
  have z1 := hbel.size
  have z2 := ho34.size
  have z3 : w4.heap.size ≤ w6.heap.size := by
    have := ho6.size
    have h4 := ((Only.refl (fun k => k = gc) w4).setCells (.inl rfl) [Value.slice A' S[i].length c'] (i * 65 + 64)).size
    omega
  refine ⟨⟨gc, _, _, hf.mono (fun k hk _ => ?_)⟩, ?_⟩
  · rcases hk with hk | hk
    · exact .inl hk
    · exact .inr (by omega)
  · have e1 : Only fp w w3 := Only.of_ext hbel
    have e2 : Only fp w w4 := e1.trans ho34 (fun k _ hk => h3.fB i k hi hk)
    have e3 : Only fp w (w4.setCells gc (i * 65 + 64) [.slice A' S[i].length c']) := e2.setCells (.inl h3.fgc) _ _
    exact e3.trans ho6 (fun k _ hk => by subst hk; exact h3.fg)

set_option maxRecDepth 100000 in
set_option maxHeartbeats 2000000 in
theorem write_any {w : World} {fp : Nat → Prop} {g gc : Nat} {S : Sec} {l : Int} {B : Nat → Option Addr} {C : Nat → Nat} (h : Lay w fp g gc S l B C) (hs : Small 999999 S) (i : Nat) (hi : i < S.length) (A : Option Addr) (n c : Nat) (bs : List UInt8) (hn : n = bs.length) (hl : bs.length ≤ 64) (hr : Rd w A (bs.map bv)) (h0 : l ≠ 0) :
    Calls Tryd.prog 27 #[.pointer (some ⟨g, 0, none⟩), .int .i64 (i : Int), .slice A n c] w fun e w' => e = .returned (.int .i64 0) ∧ Imp w' (More fp w w') g (S.set i (S[i] ++ [pad bs])) (tick l) ∧ Only fp w w' := by
  subst hn
  have hz := zeros_ver
  have hburnt : decide (l = 0) = false := by simpa using h0
  have hhas : decide (0 ≤ (i : Int) ∧ (i : Int) < (S.length : Int)) = true := by simp; omega
  have hle : (bs.length : Int) ≤ 64 := by omega
  have hsz8 : (Tryd.prog.info? 5).map (·.size) = some 1 := by kernel_rfl
  go_enter Tryd.func27, Tryd.ntmps27
  go_wp2_with fail
  refine (burnt_any g _ l w h.dsk h.lo h.hi).mono ?_
  rintro e w2 ⟨rfl, rfl⟩
  rw [hburnt]
  go_wp2_with fail
  refine (has_any h (i : Int)).mono ?_
  rintro e w2 ⟨rfl, rfl⟩
  rw [hhas]
  go_wp2_with (skip
               refine wpList_copy64 rfl (.tmp 23) (.tmp 24) _ rfl _ Tryd.underlying22 hsz8 w.heap.size 91 rfl (Blk.new _ _ _) A _ c bs rfl rfl hl (hr.alloc _) ?_
               intro w3 hb3 ho3)
  have hbel3 : Below w.heap.size w w3 := by
    refine ((Below.refl w.heap.size w).alloc (Nat.le_refl _) _).trans (ho3.below (fun k hk => by omega) ?_)
    rw [World.size_alloc]; omega
  have h3 := h.ext hbel3
  have hc3 := h3.cel i hi
  have hpad := pad_length hl
  have hrow3 : w3.cell? ⟨gc, i * 65 + 64, none⟩ = some (.slice (B i) (S[i].length - 1) (C i)) := hc3.row
  have hgv : w.heap.size ≠ g ∧ w.heap.size ≠ gc := ⟨by have := h.dsk.lt; omega, by have := (h.cel i hi).lt; omega⟩
  go_wp2_with fail
  have hSK : ∀ w' : World, (∀ k, k = g ∨ k = w.heap.size → w'.heap[k]? = w3.heap[k]?) → w'.cell? ⟨g, 0, none⟩ = some (.slice (some ⟨gc, 0, none⟩) S.length S.length) ∧ w'.rangeAt w.heap.size 0 ((pad bs).map bv) := fun w' hw' =>
    ⟨(World.cell?_of_block (a := ⟨g, 0, none⟩) (hw' g (.inl rfl))).trans (h3.dsk.cell 0), fun j u hu => by
      have h5 : Blk w' w.heap.size _ _ := (hw' w.heap.size (.inr rfl)).trans hb3
      rw [h5.cell]; simpa using hu⟩
  have hSK := Lib.hid hSK
  have u68 : Tryd.prog.underlying 91 = some (.array 64 5) := Tryd.underlying91
  have s68 : (Tryd.prog.info? 91).map (·.size) = some ((pad bs).map bv).length := by rw [size_ver]; simp [hpad]
  have hrow3' : (w3.alloc (.cells ((pad bs).map bv).toArray 91)).cell? ⟨gc, i * 65 + 64, none⟩ = some (.slice (B i) (S[i].length - 1) (C i)) := (hc3.alloc _).row
  have hdskf := Lib.hid (show ∀ (w4 : World) (v : Value), (∀ k, k = g ∨ k = w.heap.size → w4.heap[k]? = w3.heap[k]?) → Blk (w4.setCell ⟨gc, i * 65 + 64, none⟩ v) g 88 #[.slice (some ⟨gc, 0, none⟩) S.length S.length, litV l, leftV l] from fun w4 v h4 => Blk.far (show Blk w4 g _ _ from (h4 g (.inl rfl)).trans h3.dsk) h3.ne v)
  have f3 : w3.frozen? ⟨gc, i * 65 + 64, none⟩ = false := (h3.there hi 64 (by omega)).2
  have hfold := fold_whole ((pad bs).map bv) #[Value.int IntKind.u8 0, Value.int IntKind.u8 0, Value.int IntKind.u8 0, Value.int IntKind.u8 0, Value.int IntKind.u8 0, Value.int IntKind.u8 0, Value.int IntKind.u8 0, Value.int IntKind.u8 0, Value.int IntKind.u8 0, Value.int IntKind.u8 0, Value.int IntKind.u8 0, Value.int IntKind.u8 0, Value.int IntKind.u8 0, Value.int IntKind.u8 0, Value.int IntKind.u8 0, Value.int IntKind.u8 0, Value.int IntKind.u8 0, Value.int IntKind.u8 0, Value.int IntKind.u8 0, Value.int IntKind.u8 0, Value.int IntKind.u8 0, Value.int IntKind.u8 0, Value.int IntKind.u8 0, Value.int IntKind.u8 0, Value.int IntKind.u8 0, Value.int IntKind.u8 0, Value.int IntKind.u8 0, Value.int IntKind.u8 0, Value.int IntKind.u8 0, Value.int IntKind.u8 0, Value.int IntKind.u8 0, Value.int IntKind.u8 0, Value.int IntKind.u8 0, Value.int IntKind.u8 0, Value.int IntKind.u8 0, Value.int IntKind.u8 0, Value.int IntKind.u8 0, Value.int IntKind.u8 0, Value.int IntKind.u8 0, Value.int IntKind.u8 0, Value.int IntKind.u8 0, Value.int IntKind.u8 0, Value.int IntKind.u8 0, Value.int IntKind.u8 0, Value.int IntKind.u8 0, Value.int IntKind.u8 0, Value.int IntKind.u8 0, Value.int IntKind.u8 0, Value.int IntKind.u8 0, Value.int IntKind.u8 0, Value.int IntKind.u8 0, Value.int IntKind.u8 0, Value.int IntKind.u8 0, Value.int IntKind.u8 0, Value.int IntKind.u8 0, Value.int IntKind.u8 0, Value.int IntKind.u8 0, Value.int IntKind.u8 0, Value.int IntKind.u8 0, Value.int IntKind.u8 0, Value.int IntKind.u8 0, Value.int IntKind.u8 0, Value.int IntKind.u8 0, Value.int IntKind.u8 0] (by simp [hpad])
  have hal : ∀ k, k = g ∨ k = w.heap.size → (w3.alloc (.cells ((pad bs).map bv).toArray 91)).heap[k]? = w3.heap[k]? := fun k hk => Below.heap_alloc w3 _ k (by
    rcases hk with hk | hk <;> rw [hk]
    · exact h3.dsk.lt
    · exact hb3.lt)
  have hal := Lib.hid hal
  have hone := Lib.hid (bvs_one (pad bs))
  have hfar := h3.far hi
  have hgvB : ¬ inA (B i) w.heap.size := fun hk => by
    have := (h.cel i hi).own.lt hk
    omega
  have hAB := Lib.hid (show ∀ k, k = g ∨ k = w.heap.size → ¬ inA (B i) k from fun k hk => by
    rcases hk with hk | hk <;> rw [hk]
    · exact hfar.2
    · exact hgvB)
  have hlt3 := Lib.hid (show ∀ k, k = g ∨ k = w.heap.size → k < (w3.alloc (.cells ((pad bs).map bv).toArray 91)).heap.size from fun k hk => by
    rw [World.size_alloc]
    rcases hk with hk | hk <;> rw [hk]
    · have := h3.dsk.lt; omega
    · have := hb3.lt; omega)
  have hcB := Lib.hid (show ∀ w4 : World, Only (inA (B i)) (w3.alloc (.cells ((pad bs).map bv).toArray 91)).drew w4 → w4.heap[gc]? = w3.heap[gc]? from fun w4 ho => by
    have hl := hc3.lt
    refine (ho.block gc ?_ hfar.1).trans (Below.heap_alloc w3 _ gc hl)
    show gc < (w3.alloc _).heap.size
    rw [World.size_alloc]; omega)
  have hsm := hs S[i] (List.getElem_mem hi)
  have hlen1 := List.length_pos_iff.2 hc3.ne
  have hm1 : (S[i].length - 1) + 1 ≤ maxLen := by unfold maxLen; omega
  have hm2 : ((S[i].length - 1) + 1) * 64 ≤ 140737488355328 := by omega
  have hstore := Lib.hid (show ∀ (w4 : World) (v : Value), (∀ k, k = g ∨ k = w.heap.size → w4.heap[k]? = w3.heap[k]?) → ∀ k, k = g ∨ k = w.heap.size → (w4.setCell ⟨gc, i * 65 + 64, none⟩ v).heap[k]? = w3.heap[k]? from fun w4 v h4 k hk => by
    refine (Below.heap_setCell w4 ⟨gc, i * 65 + 64, none⟩ v k ?_).trans (h4 k hk)
    rcases hk with hk | hk <;> rw [hk]
    · exact h3.ne
    · exact hgv.2)
  refine wp_region_held_drew (S := fun w' => w'.cell? ⟨g, 0, none⟩ = some (.slice (some ⟨gc, 0, none⟩) S.length S.length) ∧ w'.rangeAt w.heap.size 0 ((pad bs).map bv)) (by kernel_rfl) ?_ (fun hHeld => ?_)
  · exact hSK.out _ (fun k hk => rfl)
  refine wpAnyH_take (i := 0) (v := ?_) (take_list rfl) (by kernel_rfl) (by kernel_rfl) (by kernel_rfl) (fun _ _ _ h => h) (Or.inl ⟨by rfl, ?_⟩) (by assumption) ?_
  rotate_left
  · intro w hSw
    try dsimp only at hSw
    first | (go_simp; done) | (go_simp; with_reducible rfl)
  try simp only [Act.put, List.setIfInBounds_toArray, List.set_cons_zero, List.set_cons_succ]
  refine wpAnyH_take (i := 1) (v := ?_) (take_list rfl) (by kernel_rfl) (by kernel_rfl) (by kernel_rfl) (fun _ _ _ h => h) (Or.inl ⟨by rfl, ?_⟩) (by assumption) ?_
  rotate_left
  · intro w hSw
    try dsimp only at hSw
    first | (go_simp; done) | (go_simp; with_reducible rfl)
  try simp only [Act.put, List.setIfInBounds_toArray, List.set_cons_zero, List.set_cons_succ]
  refine wpAnyH_take (i := 2) (v := ?_) (take_list rfl) (by kernel_rfl) (by kernel_rfl) (by kernel_rfl) (fun _ _ _ h => h) (Or.inl ⟨by rfl, ?_⟩) (by assumption) ?_
  rotate_left
  · intro w hSw
    try dsimp only at hSw
    first | (go_simp; done) | (go_simp; with_reducible rfl)
  try simp only [Act.put, List.setIfInBounds_toArray, List.set_cons_zero, List.set_cons_succ]
  refine wpAnyH_take (i := 3) (v := ?_) (take_list rfl) (by kernel_rfl) (by kernel_rfl) (by kernel_rfl) (fun _ _ _ h => h) (Or.inl ⟨by rfl, ?_⟩) (by assumption) ?_
  rotate_left
  · intro w hSw
    try dsimp only at hSw
    first | (go_simp; done) | (go_simp; with_reducible rfl)
  try simp only [Act.put, List.setIfInBounds_toArray, List.set_cons_zero, List.set_cons_succ]
  refine wpAnyH_take (i := 4) (v := ?_) (take_list rfl) (by kernel_rfl) (by kernel_rfl) (by kernel_rfl) (fun _ _ _ h => h) (Or.inl ⟨by rfl, ?_⟩) (by assumption) ?_
  rotate_left
  · intro w hSw
    try dsimp only at hSw
    first | (go_simp; done) | (go_simp; with_reducible rfl)
  try simp only [Act.put, List.setIfInBounds_toArray, List.set_cons_zero, List.set_cons_succ]
  refine wpAnyH_take (i := 5) (v := ?_) (take_list rfl) (by kernel_rfl) (by kernel_rfl) (by kernel_rfl) (fun _ _ _ h => h) (Or.inl ⟨by rfl, ?_⟩) (by assumption) ?_
  rotate_left
  · intro w hSw
    try dsimp only at hSw
    first | (go_simp; done) | (go_simp; with_reducible rfl)
  try simp only [Act.put, List.setIfInBounds_toArray, List.set_cons_zero, List.set_cons_succ]
  refine wpAnyH_take (i := 6) (v := ?_) (take_list rfl) (by kernel_rfl) (by kernel_rfl) (by kernel_rfl) (fun _ _ _ h => h) (Or.inl ⟨by rfl, ?_⟩) (by assumption) ?_
  rotate_left
  · intro w hSw
    try dsimp only at hSw
    first | (go_simp; done) | (go_simp; with_reducible rfl)
  try simp only [Act.put, List.setIfInBounds_toArray, List.set_cons_zero, List.set_cons_succ]
  refine wpAnyH_take (i := 7) (v := ?_) (take_list rfl) (by kernel_rfl) (by kernel_rfl) (by kernel_rfl) (fun _ _ _ h => h) (Or.inl ⟨by rfl, ?_⟩) (by assumption) ?_
  rotate_left
  · intro w hSw
    try dsimp only at hSw
    first | (go_simp; done) | (go_simp; with_reducible rfl)
  try simp only [Act.put, List.setIfInBounds_toArray, List.set_cons_zero, List.set_cons_succ]
  refine wpAnyH_take (i := 8) (v := ?_) (take_list rfl) (by kernel_rfl) (by kernel_rfl) (by kernel_rfl) (fun _ _ _ h => h) (Or.inl ⟨by rfl, ?_⟩) (by assumption) ?_
  rotate_left
  · intro w hSw
    try dsimp only at hSw
    first | (go_simp; done) | (go_simp; with_reducible rfl)
  try simp only [Act.put, List.setIfInBounds_toArray, List.set_cons_zero, List.set_cons_succ]
  refine wpAnyH_take (i := 9) (v := ?_) (take_list rfl) (by kernel_rfl) (by kernel_rfl) (by kernel_rfl) (fun _ _ _ h => h) (Or.inl ⟨by rfl, ?_⟩) (by assumption) ?_
  rotate_left
  · intro w hSw
    try dsimp only at hSw
    first | (go_simp; done) | (go_simp; with_reducible rfl)
  try simp only [Act.put, List.setIfInBounds_toArray, List.set_cons_zero, List.set_cons_succ]
  refine wpAnyH_take (i := 10) (v := ?_) (take_list rfl) (by kernel_rfl) (by kernel_rfl) (by kernel_rfl) (fun _ _ _ h => h) (Or.inl ⟨by rfl, ?_⟩) (by assumption) ?_
  rotate_left
  · intro w hSw
    try dsimp only at hSw
    first | (go_simp; done) | (go_simp; with_reducible rfl)
  try simp only [Act.put, List.setIfInBounds_toArray, List.set_cons_zero, List.set_cons_succ]
  refine wpAnyH_take (i := 11) (v := ?_) (take_list rfl) (by kernel_rfl) (by kernel_rfl) (by kernel_rfl) (fun _ _ _ h => h) (Or.inl ⟨by rfl, ?_⟩) (by assumption) ?_
  rotate_left
  · intro w hSw
    try dsimp only at hSw
    first | (go_simp; done) | (go_simp; with_reducible rfl)
  try simp only [Act.put, List.setIfInBounds_toArray, List.set_cons_zero, List.set_cons_succ]
  refine' wpAnyH_take (i := 13) (v := _) (take_list rfl) (by kernel_rfl) (by kernel_rfl) (by kernel_rfl) (fun _ _ _ h => h) (yieldsIf_load_mid (by rfl) _ _ rfl _ _ rfl _ _ ?hS13 ?hu13 ?hd13 ?hi13) (by assumption) ?rest13
  case hS13 => intro w hSw; (try dsimp only at hSw); go_split_ands; assumption
  case hu13 => assumption
  case hd13 => rfl
  case hi13 => assumption
  try simp only [Act.put, List.setIfInBounds_toArray, List.set_cons_zero, List.set_cons_succ]
  refine wpAnyH_ready (rs := [12, 14]) (by kernel_rfl) (by simp) ?_
  refine AllReadyH.cons (take_list rfl) (fun K hK => ?_) ?_
  · skip
    go_simp
    refine hK.out _ _ ?_ (fun hHeld => ?_)
    · try dsimp only
      exact hSK.out _ (fun k hk => rfl)
    clear hK K
    refine wpAnyH_ready (rs := [14]) (by kernel_rfl) (by simp) ?_
    refine AllReadyH.cons (take_list rfl) (fun K hK => ?_) ?_
    · skip
      go_simp
      refine hK.out _ _ ?_ (fun hHeld => ?_)
      · try dsimp only
        exact hSK.out _ (fun k hk => hal.out k hk)
      clear hK K
      refine wpAnyH_ready (rs := [15]) (by kernel_rfl) (by simp) ?_
      refine AllReadyH.cons (take_list rfl) (fun K hK => ?_) ?_
      · skip
        refine step_appO _ rfl (.tmp 38) (.tmp 40) _ rfl _ _ 64 64 Tryd.underlying92 info_ver rfl (B i) _ (C i) _ rfl ((hc3.own.alloc _).drew) (some ⟨w3.heap.size, 0, none⟩) 1 1 ((pad bs).map bv) rfl ?_ ?_ hone.out ?_ hm1 hm2 ?_
        · rw [List.length_map, hpad]
        · exact (Rd.lit w3 ((pad bs).map bv).toArray _).drew
        · intro h; cases h
        intro A4 c4 w4 hrow4 ho4 hA4
        have q4 : ∀ k, k = g ∨ k = w.heap.size → w4.heap[k]? = w3.heap[k]? := fun k hk => (ho4.block k (hlt3.out k hk) (hAB.out k hk)).trans (hal.out k hk)
        have p4 : w4.cell? ⟨gc, i * 65 + 64, none⟩ = some (.slice (B i) (S[i].length - 1) (C i)) := (World.cell?_of_block (hcB.out w4 ho4)).trans hrow3
        have p5 : w4.frozen? ⟨gc, i * 65 + 64, none⟩ = false := (World.frozen?_of_block (hcB.out w4 ho4)).trans f3
        refine hK.out _ _ ?_ (fun hHeld => ?_)
        · try dsimp only
          exact hSK.out _ (fun k hk => q4 k hk)
        clear hK K
        refine wpAnyH_take (i := 16) (v := ?_) (take_list rfl) (by kernel_rfl) (by kernel_rfl) (by kernel_rfl) (fun _ _ _ h => h) (Or.inl ⟨by rfl, ?_⟩) (by assumption) ?_
        rotate_left
        · intro w hSw
          try dsimp only at hSw
          first | (go_simp; done) | (go_simp; with_reducible rfl)
        try simp only [Act.put, List.setIfInBounds_toArray, List.set_cons_zero, List.set_cons_succ]
        refine wpAnyH_take (i := 17) (v := ?_) (take_list rfl) (by kernel_rfl) (by kernel_rfl) (by kernel_rfl) (fun _ _ _ h => h) (Or.inl ⟨by rfl, ?_⟩) (by assumption) ?_
        rotate_left
        · intro w hSw
          try dsimp only at hSw
          first | (go_simp; done) | (go_simp; with_reducible rfl)
        try simp only [Act.put, List.setIfInBounds_toArray, List.set_cons_zero, List.set_cons_succ]
        refine wpAnyH_ready (rs := [18]) (by kernel_rfl) (by simp) ?_
        refine AllReadyH.cons (take_list rfl) (fun K hK => ?_) ?_
        · skip
          go_simp
          refine hK.out _ _ ?_ (fun hHeld => ?_)
          · try dsimp only
            exact hSK.out _ (fun k hk => hstore.out _ _ q4 k hk)
          clear hK K
          refine wpAnyH_done (by kernel_rfl) ?_ _
          go_wp2_with fail
          refine (count_any g _ l _ (hdskf.out _ _ q4) h.lo h.hi h0).mono ?_
          rintro e w6 ⟨rfl, ho6, hb6⟩
          go_wp2
          go_ret
          exact ⟨rfl, write_fin h3 hbel3 hi (pad bs) hpad _ A4 _ c4 (by omega) ho4 hrow4 hA4 ho6 hb6⟩
        exact AllReadyH.nil
      exact AllReadyH.nil
    exact AllReadyH.nil
  refine AllReadyH.cons (take_list rfl) (fun K hK => ?_) ?_
  · skip
    go_simp
    refine hK.out _ _ ?_ (fun hHeld => ?_)
    · try dsimp only
      exact hSK.out _ (fun k hk => hal.out k hk)
    clear hK K
    refine wpAnyH_ready (rs := [12]) (by kernel_rfl) (by simp) ?_
    refine AllReadyH.cons (take_list rfl) (fun K hK => ?_) ?_
    · skip
      go_simp
      refine hK.out _ _ ?_ (fun hHeld => ?_)
      · try dsimp only
        exact hSK.out _ (fun k hk => hal.out k hk)
      clear hK K
      refine wpAnyH_ready (rs := [15]) (by kernel_rfl) (by simp) ?_
      refine AllReadyH.cons (take_list rfl) (fun K hK => ?_) ?_
      · skip
        refine step_appO _ rfl (.tmp 38) (.tmp 40) _ rfl _ _ 64 64 Tryd.underlying92 info_ver rfl (B i) _ (C i) _ rfl ((hc3.own.alloc _).drew) (some ⟨w3.heap.size, 0, none⟩) 1 1 ((pad bs).map bv) rfl ?_ ?_ hone.out ?_ hm1 hm2 ?_
        · rw [List.length_map, hpad]
        · exact (Rd.lit w3 ((pad bs).map bv).toArray _).drew
        · intro h; cases h
        intro A4 c4 w4 hrow4 ho4 hA4
        have q4 : ∀ k, k = g ∨ k = w.heap.size → w4.heap[k]? = w3.heap[k]? := fun k hk => (ho4.block k (hlt3.out k hk) (hAB.out k hk)).trans (hal.out k hk)
        have p4 : w4.cell? ⟨gc, i * 65 + 64, none⟩ = some (.slice (B i) (S[i].length - 1) (C i)) := (World.cell?_of_block (hcB.out w4 ho4)).trans hrow3
        have p5 : w4.frozen? ⟨gc, i * 65 + 64, none⟩ = false := (World.frozen?_of_block (hcB.out w4 ho4)).trans f3
        refine hK.out _ _ ?_ (fun hHeld => ?_)
        · try dsimp only
          exact hSK.out _ (fun k hk => q4 k hk)
        clear hK K
        refine wpAnyH_take (i := 16) (v := ?_) (take_list rfl) (by kernel_rfl) (by kernel_rfl) (by kernel_rfl) (fun _ _ _ h => h) (Or.inl ⟨by rfl, ?_⟩) (by assumption) ?_
        rotate_left
        · intro w hSw
          try dsimp only at hSw
          first | (go_simp; done) | (go_simp; with_reducible rfl)
        try simp only [Act.put, List.setIfInBounds_toArray, List.set_cons_zero, List.set_cons_succ]
        refine wpAnyH_take (i := 17) (v := ?_) (take_list rfl) (by kernel_rfl) (by kernel_rfl) (by kernel_rfl) (fun _ _ _ h => h) (Or.inl ⟨by rfl, ?_⟩) (by assumption) ?_
        rotate_left
        · intro w hSw
          try dsimp only at hSw
          first | (go_simp; done) | (go_simp; with_reducible rfl)
        try simp only [Act.put, List.setIfInBounds_toArray, List.set_cons_zero, List.set_cons_succ]
        refine wpAnyH_ready (rs := [18]) (by kernel_rfl) (by simp) ?_
        refine AllReadyH.cons (take_list rfl) (fun K hK => ?_) ?_
        · skip
          go_simp
          refine hK.out _ _ ?_ (fun hHeld => ?_)
          · try dsimp only
            exact hSK.out _ (fun k hk => hstore.out _ _ q4 k hk)
          clear hK K
          refine wpAnyH_done (by kernel_rfl) ?_ _
          go_wp2_with fail
          refine (count_any g _ l _ (hdskf.out _ _ q4) h.lo h.hi h0).mono ?_
          rintro e w6 ⟨rfl, ho6, hb6⟩
          go_wp2
          go_ret
          exact ⟨rfl, write_fin h3 hbel3 hi (pad bs) hpad _ A4 _ c4 (by omega) ho4 hrow4 hA4 ho6 hb6⟩
        exact AllReadyH.nil
      exact AllReadyH.nil
    exact AllReadyH.nil
  exact AllReadyH.nil

theorem write_dead {w : World} {fp : Nat → Prop} {g gc : Nat} {S : Sec} {l : Int} {B : Nat → Option Addr} {C : Nat → Nat} (h : Lay w fp g gc S l B C) (i : Int) (A : Option Addr) (n c : Nat) (h0 : l = 0) :
    Calls Tryd.prog 27 #[.pointer (some ⟨g, 0, none⟩), .int .i64 i, .slice A n c] w fun e w' => e = .returned (.int .i64 6) ∧ w = w' := by
  have hburnt : decide (l = 0) = true := by simpa using h0
  go_enter Tryd.func27, Tryd.ntmps27
  go_wp2_with fail
  refine (burnt_any g _ l w h.dsk h.lo h.hi).mono ?_
  rintro e w2 ⟨rfl, rfl⟩
  rw [hburnt]
  go_wp2
  go_ret
  exact ⟨rfl, rfl⟩
theorem write_bad {w : World} {fp : Nat → Prop} {g gc : Nat} {S : Sec} {l : Int} {B : Nat → Option Addr} {C : Nat → Nat} (h : Lay w fp g gc S l B C) (i : Int) (A : Option Addr) (n c : Nat) (h0 : l ≠ 0) (hbad : ¬ (0 ≤ i ∧ i < (S.length : Int)) ∨ 64 < n) :
    Calls Tryd.prog 27 #[.pointer (some ⟨g, 0, none⟩), .int .i64 i, .slice A n c] w fun e w' => e = .returned (.int .i64 1) ∧ w = w' := by
  have hburnt : decide (l = 0) = false := by simpa using h0
  by_cases hh : 0 ≤ i ∧ i < (S.length : Int)
  · have hhas : decide (0 ≤ i ∧ i < (S.length : Int)) = true := decide_eq_true hh
    have hn : (64 : Int) < (n : Int) := by
      rcases hbad with h1 | h1
      · exact absurd hh h1
      · omega
    go_enter Tryd.func27, Tryd.ntmps27
    go_wp2_with fail
    refine (burnt_any g _ l w h.dsk h.lo h.hi).mono ?_
    rintro e w2 ⟨rfl, rfl⟩
    rw [hburnt]
    go_wp2_with fail
    refine (has_any h i).mono ?_
    rintro e w2 ⟨rfl, rfl⟩
    rw [hhas]
    go_wp2
    go_ret
    exact ⟨rfl, rfl⟩
  · have hhas : decide (0 ≤ i ∧ i < (S.length : Int)) = false := decide_eq_false hh
    clear hbad
    go_enter Tryd.func27, Tryd.ntmps27
    go_wp2_with fail
    refine (burnt_any g _ l w h.dsk h.lo h.hi).mono ?_
    rintro e w2 ⟨rfl, rfl⟩
    rw [hburnt]
    go_wp2_with fail
    refine (has_any h i).mono ?_
    rintro e w2 ⟨rfl, rfl⟩
    rw [hhas]
    go_wp2
    go_ret
    exact ⟨rfl, rfl⟩

theorem Imp.more {w w' : World} {fp : Nat → Prop} {g : Nat} {S : Sec} {l : Int} (h : Imp w' fp g S l) : Imp w' (More fp w w') g S l := h.mono fun _ hk _ => .inl hk
theorem writeS_ok {S : Sec} {l : Int} {i : Nat} {bs : List UInt8} (hi : i < S.length) (hl : bs.length ≤ 64) (h0 : l ≠ 0) : writeCode S.length l (i : Int) bs = 0 ∧ writeS S l (i : Int) bs = S.set i (S[i] ++ [pad bs]) := by
  have h1 : writeCode S.length l (i : Int) bs = 0 := by unfold writeCode; rw [if_neg h0, if_neg (by omega)]
  refine ⟨h1, ?_⟩
  unfold writeS
  rw [if_pos h1, Int.toNat_natCast, List.getD_eq_getElem?_getD, List.getElem?_eq_getElem hi]
  rfl
def writeL (n : Nat) (l i : Int) (bs : List UInt8) : Int := if writeCode n l i bs = 0 then tick l else l

/-- Write, whatever comes in -/
theorem write_all {w : World} {fp : Nat → Prop} {g : Nat} {S : Sec} {l : Int} (h : Imp w fp g S l) (hs : Small 999999 S) (i : Int) (A : Option Addr) (n c : Nat) (bs : List UInt8) (hn : n = bs.length) (hr : Rd w A (bs.map bv)) :
    Calls Tryd.prog 27 #[.pointer (some ⟨g, 0, none⟩), .int .i64 i, .slice A n c] w fun e w' => e = .returned (.int .i64 (writeCode S.length l i bs)) ∧ Imp w' (More fp w w') g (writeS S l i bs) (writeL S.length l i bs) ∧ Only fp w w' := by
  obtain ⟨gc, B, C, h⟩ := h
  by_cases h0 : l = 0
  · refine (write_dead h i A n c h0).mono ?_
    rintro e w' ⟨rfl, rfl⟩
    have e1 : writeCode S.length l i bs = 6 := by unfold writeCode; rw [if_pos h0]
    unfold writeS writeL
    rw [e1]
    exact ⟨rfl, Imp.more ⟨gc, B, C, h⟩, Only.refl _ _⟩
  · by_cases hbad : ¬ (0 ≤ i ∧ i < (S.length : Int)) ∨ 64 < n
    · refine (write_bad h i A n c h0 hbad).mono ?_
      rintro e w' ⟨rfl, rfl⟩
      have e1 : writeCode S.length l i bs = 1 := by unfold writeCode; rw [if_neg h0, if_pos (by omega)]
      unfold writeS writeL
      rw [e1]
      exact ⟨rfl, Imp.more ⟨gc, B, C, h⟩, Only.refl _ _⟩
    · obtain ⟨k, rfl⟩ : ∃ k : Nat, i = (k : Int) := ⟨i.toNat, by omega⟩
      have hk : k < S.length := by omega
      obtain ⟨e1, e2⟩ := writeS_ok (S := S) (l := l) (bs := bs) hk (by omega) h0
      refine (write_any h hs k hk A n c bs hn (by omega) hr h0).mono ?_
      rintro e w' ⟨rfl, h1, h2⟩
      unfold writeL
      rw [e1, e2]
      exact ⟨rfl, h1, h2⟩
end Go.Proofs.YtlpjeopeboemmaaDoor
