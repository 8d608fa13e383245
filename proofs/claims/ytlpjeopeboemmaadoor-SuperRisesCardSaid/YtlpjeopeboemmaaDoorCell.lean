/-
  The contracts of sector's cell and fuse. No statement of the seat is proved here.
-/
import Derived.Test.YtlpjeopeboemmaaDoorRow
import Derived.Test.YtlpjeopeboemmaaDoorRows
import Derived.Deep.RegionHeldLaw
import Derived.Deep.DeepCutAuto
import Derived.Deep.CutBlock
import Derived.Deep.WholeRow
namespace Go.Proofs.YtlpjeopeboemmaaDoor
open Go Go.RowKit

theorem info_ver : (Tryd.prog.info? 91).map (fun i => (i.zero, i.size, i.bytes)) = some (some (.agg (Array.replicate 64 (.int .u8 0))), 64, 64) := by kernel_rfl
theorem size_ver : (Tryd.prog.info? 91).map (·.size) = some 64 := by kernel_rfl
theorem size_cell : (Tryd.prog.info? 94).map (·.size) = some 65 := by kernel_rfl

/-- A sector in block 'gc' from offset 'o' on: its versions 'vs', those behind the first one in the row of 'A'. -/
structure CelAt (w : World) (gc o : Nat) (vs : List (List UInt8)) (A : Option Addr) (c : Nat) : Prop where
  ne : vs ≠ []
  len : ∀ v ∈ vs, v.length = 64
  head : w.rangeAt gc o ((vs.headD []).map bv)
  row : w.cell? ⟨gc, o + 64, none⟩ = some (.slice A (vs.length - 1) c)
  own : RowO w 91 64 A (vs.length - 1) c (vs.tail.flatten.map bv)

theorem zeros_ver : ∀ w, (zeroValue 91).run Tryd.prog w = .ok (.agg (Array.replicate 64 (.int .u8 0))) w := fun w => by kernel_rfl


/-- a whole value into the variable that was made last -/
theorem wpList_store_new {P : Program} {ops : Array Oper} {rest : List Oper} {op : Oper} {a : Act} {w : World} {Q : Exit → Act → World → Prop} (hgd : op.guard = none) (ty : TypeId) (x y : Operand) (ho : op.op = .store ty x y)
    (c c' : Array Value) (hx : a.eval x = .pointer (some ⟨w.heap.size, 0, none⟩)) (hy : a.eval y = .agg c') (hi : (P.info? ty).map (·.size) = some c'.size) (hs : c.size = c'.size) (h1 : c'.all (·.oneCell') = true)
    (h : wpList P ops Q rest (a.put op.dst undef) (w.alloc (.cells c' ty))) : wpList P ops Q (op :: rest) a (w.alloc (.cells c ty)) :=
  wpList_plain hgd fun K hK => by
    unfold Oper.wp execOp
    simp only [ho, hx, hy, run_storeAt_new (P := P) w ty c c' hi hs h1, Result.andThen_ok, Sem.run_bind, Sem.run_pure]
    exact hK _ _ h

theorem CelAt.lenHead {w : World} {gc o : Nat} {vs : List (List UInt8)} {A : Option Addr} {c : Nat} (h : CelAt w gc o vs A c) : (vs.headD []).length = 64 := by
  rcases vs with _ | ⟨v, r⟩
  · exact absurd rfl h.ne
  · exact h.len v (by simp)

theorem results_cell {P : Program} {fn : Func} {t : Tmp} {ty : TypeId} (h : fn.results = #[.cell t ty]) (tmps : Array Value) (w : World) (g : Nat) (e : TypeId) (cs : Array Value) (n : Nat) (e' : TypeId)
    (ht : tmps.getD t undef = .pointer (some ⟨g, 0, none⟩)) (hb : Blk w g e cs) (hu : P.underlying ty = some (.array n e')) (hi : (P.info? ty).map (·.size) = some cs.size) : (results fn tmps).run P w = .ok (.agg cs) w := by
  have hl := run_loadVar_row (P := P) w g e ty cs (0, 0) _ hb hu rfl hi
  rw [Array.getD_eq_getD_getElem?] at ht
  simp [results, h, ht, asAddr, hl]

theorem flat64 {l : List (List UInt8)} (hl : ∀ v ∈ l, v.length = 64) : ∀ (k j : Nat), j < 64 → l.flatten[k * 64 + j]? = (l[k]?).bind (·[j]?) := by
  induction l with
  | nil => intro k j _; simp
  | cons v r ih =>
    intro k j hj
    have hv : v.length = 64 := hl v (by simp)
    rcases k with _ | k
    · rw [List.flatten_cons, List.getElem?_append_left (by omega)]
      simp
    · rw [List.flatten_cons, List.getElem?_append_right (by omega), hv, show (k + 1) * 64 + j - 64 = k * 64 + j by omega, ih (fun x hx => hl x (by simp [hx])) k j hj]
      simp
theorem flat64_length {l : List (List UInt8)} (hl : ∀ v ∈ l, v.length = 64) : l.flatten.length = l.length * 64 := by
  induction l with
  | nil => rfl
  | cons v r ih =>
    rw [List.flatten_cons, List.length_append, ih (fun x hx => hl x (by simp [hx])), hl v (by simp), List.length_cons]
    omega

section
variable {S : Nat → Prop} {w w' : World} {gc o : Nat} {vs : List (List UInt8)} {A : Option Addr} {c : Nat}
theorem CelAt.keep (h : CelAt w gc o vs A c) (hb : w'.heap[gc]? = w.heap[gc]?) (hk : ∀ k, inA A k → w'.heap[k]? = w.heap[k]?) : CelAt w' gc o vs A c :=
  ⟨h.ne, h.len, fun j v hv => (World.cell?_of_block hb).trans (h.head j v hv), (World.cell?_of_block hb).trans h.row, h.own.keep hk⟩
theorem CelAt.lt (h : CelAt w gc o vs A c) : gc < w.heap.size := World.block_lt_of_cell? w _ h.row
theorem CelAt.ext (h : CelAt w gc o vs A c) (hb : Below w.heap.size w w') : CelAt w' gc o vs A c := h.keep (hb.block _ h.lt) fun k hk => hb.block _ (h.own.lt hk)
theorem CelAt.alloc (h : CelAt w gc o vs A c) (ob : Obj) : CelAt (w.alloc ob) gc o vs A c := h.ext ((Below.refl _ _).alloc (Nat.le_refl _) ob)
theorem CelAt.drewN (h : CelAt w gc o vs A c) (n : Nat) : CelAt (w.drewN n) gc o vs A c := ⟨h.ne, h.len, h.head, h.row, h.own⟩
theorem CelAt.drew (h : CelAt w gc o vs A c) : CelAt w.drew gc o vs A c := ⟨h.ne, h.len, h.head, h.row, h.own⟩
/-- version k of those behind the first -/
theorem CelAt.later (h : CelAt w gc o vs A c) {k : Nat} (hk : k + 1 < vs.length) : ∃ g off, A = some ⟨g, off, none⟩ ∧ w.rangeAt g (off + k * 64) (vs[k + 1].map bv) := by
  rcases h.own.2 with ⟨_, h1, _⟩ | ⟨g, off, cs, hA, _, _, hb, _, hc⟩
  · omega
  · refine ⟨g, off, hA, fun j v hv => ?_⟩
    have hv64 := h.len vs[k + 1] (List.getElem_mem hk)
    have hj : j < 64 := by
      have := (List.getElem?_eq_some_iff.1 hv).1
      rwa [List.length_map, hv64] at this
    rw [hb.cell, Nat.add_assoc]
    refine hc _ _ ?_
    rw [List.getElem?_map, flat64 (fun v hv => h.len v (List.mem_of_mem_tail hv)) k j hj, List.getElem?_tail, List.getElem?_eq_getElem hk]
    rw [List.getElem?_map] at hv
    exact hv
end

set_option maxRecDepth 100000 in
theorem at_any (gc o : Nat) (vs : List (List UInt8)) (A : Option Addr) (c : Nat) (k : Nat) (w : World) (h : CelAt w gc o vs A c) (hk : k < vs.length) (hb : vs.length ≤ 1000000) :
    Calls Tryd.prog 47 #[.pointer (some ⟨gc, o, none⟩), .int .i64 (k : Int)] w fun e w' => e = .returned (.agg ((vs[k].map bv).toArray)) ∧ Below w.heap.size w w' := by
  have hz := zeros_ver
  have hv := h.len vs[k] (List.getElem_mem hk)
  have hi : (Tryd.prog.info? 91).map (·.size) = some (vs[k].map bv).toArray.size := by rw [size_ver]; simp [hv]
  have hi' : (Tryd.prog.info? 91).map (·.size) = some (vs[k].map bv).length := by rw [size_ver]; simp [hv]
  have hsz : (Array.replicate 64 (Value.int .u8 0)).size = (vs[k].map bv).toArray.size := by simp [hv]
  have h1 : (vs[k].map bv).toArray.all (·.oneCell') = true := all_oneCell_toArray (bvs_one _)
  have fin : Below w.heap.size w (w.alloc (.cells (vs[k].map bv).toArray 91)) := (Below.refl _ _).alloc (Nat.le_refl _) _
  rcases k with _ | k
  · have hr : w.rangeAt gc o (vs[0].map bv) := by
      have := h.head
      rcases vs with _ | ⟨v, r⟩
      · exact absurd rfl h.ne
      · exact this
    have hr' := World.rangeAt_alloc hr (Obj.cells (Array.replicate 64 (Value.int IntKind.u8 0)) 91)
    clear hb
    go_enter Tryd.func47, Tryd.ntmps47
    go_wp2_with (first | (refine wpList_load_mid rfl 91 _ rfl gc o rfl _ _ hr' Tryd.underlying91 rfl hi' ?_) | (refine wpList_store_new rfl 91 _ _ rfl _ _ rfl rfl hi hsz h1 ?_))
    exact bodyPost_ret (results_cell rfl _ _ w.heap.size 91 _ 64 5 rfl (Blk.new _ _ _) Tryd.underlying91 hi) rfl ⟨rfl, fin⟩
  · obtain ⟨g, off, rfl, hr⟩ := h.later hk
    have hr' := World.rangeAt_alloc hr (Obj.cells (Array.replicate 64 (Value.int IntKind.u8 0)) 91)
    have hrow := (h.alloc (Obj.cells (Array.replicate 64 (Value.int IntKind.u8 0)) 91)).row
    have hk' : (k : Int) < ((vs.length - 1 : Nat) : Int) := by omega
    have hkb : k ≤ 1000000 := by omega
    clear hb
    go_enter Tryd.func47, Tryd.ntmps47
    go_wp2_with (first | (refine wpList_load_mid rfl 91 _ rfl g (off + k * 64) rfl _ _ hr' Tryd.underlying91 rfl hi' ?_) | (refine wpList_store_new rfl 91 _ _ rfl _ _ rfl rfl hi hsz h1 ?_))
    exact bodyPost_ret (results_cell rfl _ _ w.heap.size 91 _ 64 5 rfl (Blk.new _ _ _) Tryd.underlying91 hi) rfl ⟨rfl, fin⟩

theorem waits_any (gc o : Nat) (vs : List (List UInt8)) (A : Option Addr) (c : Nat) (w : World) (h : CelAt w gc o vs A c) (hb : vs.length ≤ 1000000) :
    Calls Tryd.prog 65 #[.pointer (some ⟨gc, o, none⟩)] w fun e w' => e = .returned (.bool (decide (1 < vs.length))) ∧ w = w' := by
  have hrow := h.row
  go_enter Tryd.func65, Tryd.ntmps65
  go_wp2
  go_ret
  refine ⟨?_, rfl⟩
  show Ending.returned (.bool (decide (0 < vs.length - 1))) = _
  rw [show decide (0 < vs.length - 1) = decide (1 < vs.length) by simp only [decide_eq_decide]; omega]

set_option maxRecDepth 100000 in
theorem now_any (gc o : Nat) (vs : List (List UInt8)) (A : Option Addr) (c : Nat) (w : World) (h : CelAt w gc o vs A c) (v : List UInt8) (hv : vs.getLast? = some v) (hb : vs.length ≤ 1000000) :
    Calls Tryd.prog 63 #[.pointer (some ⟨gc, o, none⟩)] w fun e w' => e = .returned (.agg ((v.map bv).toArray)) ∧ Below w.heap.size w w' := by
  have hz := zeros_ver
  have hne := List.length_pos_iff.2 h.ne
  obtain rfl : vs[vs.length - 1] = v := by
    rw [List.getLast?_eq_getElem?, List.getElem?_eq_getElem (by omega)] at hv
    injection hv
  have hv64 := h.len vs[vs.length - 1] (List.getElem_mem _)
  have hi : (Tryd.prog.info? 91).map (·.size) = some (vs[vs.length - 1].map bv).toArray.size := by rw [size_ver]; simp [hv64]
  have hsz : (Array.replicate 64 (Value.int .u8 0)).size = (vs[vs.length - 1].map bv).toArray.size := by simp [hv64]
  have h1 : (vs[vs.length - 1].map bv).toArray.all (·.oneCell') = true := all_oneCell_toArray (bvs_one _)
  have hrow := (h.alloc (Obj.cells (Array.replicate 64 (Value.int IntKind.u8 0)) 91)).row
  have hcall := at_any gc o vs A c (vs.length - 1) _ (h.alloc (Obj.cells (Array.replicate 64 (Value.int IntKind.u8 0)) 91)) (by omega) hb
  go_enter Tryd.func63, Tryd.ntmps63
  go_wp2_with fail
  refine hcall.mono ?_
  rintro e w2 ⟨rfl, hb2⟩
  have hblk : Blk w2 w.heap.size 91 (Array.replicate 64 (Value.int .u8 0)) := (Blk.new w 91 (Array.replicate 64 (Value.int .u8 0))).ext hb2
  have hth : w2.there w.heap.size 0 (vs[vs.length - 1].map bv).toArray.size := hblk.there 0 _ (by simp [hv64])
  have hnew : Blk (w2.setCells w.heap.size 0 (vs[vs.length - 1].map bv)) w.heap.size 91 (vs[vs.length - 1].map bv).toArray := hblk.whole _ (by simp [hv64])
  have hbel : Below w.heap.size w (w2.setCells w.heap.size 0 (vs[vs.length - 1].map bv)) := by
    refine below_setCells (Nat.le_refl _) _ _ (((Below.refl _ _).alloc (Nat.le_refl _) (Obj.cells (Array.replicate 64 (Value.int IntKind.u8 0)) 91)).trans (hb2.mono ?_))
    rw [World.size_alloc]; omega
  clear hb2 hblk hcall hrow
  go_wp2_with (refine wpList_store_mid rfl 91 _ _ rfl w.heap.size 0 _ rfl rfl hth hi h1 ?_)
  exact bodyPost_ret (results_cell rfl _ _ w.heap.size 91 _ 64 5 rfl hnew Tryd.underlying91 hi) rfl ⟨rfl, hbel⟩

theorem wpList_build {P : Program} {ops : Array Oper} {rest : List Oper} {op : Oper} {a : Act} {w : World} {Q : Exit → Act → World → Prop} (hgd : op.guard = none) (ty : TypeId) (x : Operand) (ho : op.op = .build ty #[(0, x)])
    (v v' : Value) (hx : a.eval x = v) (hr : (Instr.build ty #[(0, v)]).run P w = .ok v' w) (h : wpList P ops Q rest (a.put op.dst v') w) : wpList P ops Q (op :: rest) a w :=
  wpList_plain hgd fun K hK => by
    unfold Oper.wp execOp
    simp [ho, hx, hr]
    exact hK _ _ h

/-- the cells of a sector of one version -/
def oneCells (v : List UInt8) : List Value := v.map bv ++ [.slice none 0 0]
theorem build_cell (cs : List Value) (hl : cs.length = 64) (w : World) : (Instr.build 94 #[(0, .agg cs.toArray)]).run Tryd.prog w = .ok (.agg (cs ++ [Value.slice none 0 0]).toArray) w := by
  obtain ⟨f, rfl⟩ : ∃ f : Nat → Value, cs = (List.range 64).map f := ⟨fun i => cs.getD i default, List.ext_getElem? fun i => by
    rcases Nat.lt_or_ge i 64 with h | h
    · simp [h, hl]
    · rw [List.getElem?_eq_none (by omega), List.getElem?_eq_none (by simpa using h)]⟩
  kernel_rfl

set_option maxRecDepth 100000 in
theorem settle_any (gc o : Nat) (v : List UInt8) (w : World) (hv : v.length = 64) (hth : w.there gc o 65) (hlt : gc < w.heap.size) :
    Calls Tryd.prog 46 #[.pointer (some ⟨gc, o, none⟩), .agg (v.map bv).toArray] w fun e w' => e = .returned (.tuple #[]) ∧ w' = (w.alloc (.cells (v.map bv).toArray 91)).setCells gc o (oneCells v) := by
  have hbuild := build_cell (v.map bv) (by simp [hv])
  have hi : (Tryd.prog.info? 91).map (·.size) = some (v.map bv).toArray.size := by rw [size_ver]; simp [hv]
  have hi2 : (Tryd.prog.info? 94).map (·.size) = some (oneCells v).toArray.size := by rw [size_cell]; simp [oneCells, hv]
  have h1 : (oneCells v).toArray.all (·.oneCell') = true := all_oneCell_toArray (fun u hu => by
    rcases List.mem_append.1 hu with hu | hu
    · exact bvs_one _ u hu
    · simp at hu; subst hu; rfl)
  have hth' : (w.alloc (.cells (v.map bv).toArray 91)).there gc o (oneCells v).toArray.size := by
    have := World.there_alloc hth (.cells (v.map bv).toArray 91)
    simpa [oneCells, hv] using this
  have hld := Blk.new w 91 (v.map bv).toArray
  unfold oneCells at *
  go_enter Tryd.func46, Tryd.ntmps46
  go_wp2_with (first | (refine wpList_build rfl 94 (.tmp 5) rfl (.agg (v.map bv).toArray) _ rfl (hbuild _) ?_) | (refine wpList_load_row rfl 91 _ rfl w.heap.size rfl 91 _ (0, 0) _ hld Tryd.underlying91 rfl hi ?_) | (refine wpList_store_mid rfl 94 _ _ rfl gc o _ rfl rfl hth' hi2 h1 ?_))
  go_end0
  exact ⟨rfl, rfl⟩

/-! ### The fuse: 'l' things may still be done; below 0: no fuse -/
def litV (l : Int) : Value := .bool (decide (0 ≤ l))
def leftV (l : Int) : Value := .int .i64 (max l 0)
theorem burnt_any (g : Nat) (v : Value) (l : Int) (w : World) (hb : Blk w g 88 #[v, litV l, leftV l]) (hl : -1 ≤ l) (hl2 : l ≤ 9223372036854775807) :
    Calls Tryd.prog 58 #[.pointer (some ⟨g, 1, none⟩)] w fun e w' => e = .returned (.bool (decide (l = 0))) ∧ w = w' := by
  have h1 : w.cell? ⟨g, 1, none⟩ = some (.bool (decide (0 ≤ l))) := hb.cell 1
  have h2 : w.cell? ⟨g, 2, none⟩ = some (.int .i64 (max l 0)) := hb.cell 2
  by_cases h0 : 0 ≤ l
  · rw [decide_eq_true h0] at h1
    rw [Int.max_eq_left h0] at h2
    go_enter Tryd.func58, Tryd.ntmps58
    go_wp2
    go_ret
    exact ⟨rfl, rfl⟩
  · rw [decide_eq_false h0] at h1
    have hne : decide (l = 0) = false := by simp; omega
    rw [hne]
    clear h2
    go_enter Tryd.func58, Tryd.ntmps58
    go_wp2
    go_ret
    exact ⟨rfl, rfl⟩

/-- what is left behind one thing more -/
def tick (l : Int) : Int := if 0 < l then l - 1 else l
theorem count_any (g : Nat) (v : Value) (l : Int) (w : World) (hb : Blk w g 88 #[v, litV l, leftV l]) (hl : -1 ≤ l) (hl2 : l ≤ 9223372036854775807) (h0 : l ≠ 0) :
    Calls Tryd.prog 60 #[.pointer (some ⟨g, 1, none⟩)] w fun e w' => e = .returned (.tuple #[]) ∧ Only (fun k => k = g) w w' ∧ Blk w' g 88 #[v, litV (tick l), leftV (tick l)] := by
  have h1 : w.cell? ⟨g, 1, none⟩ = some (.bool (decide (0 ≤ l))) := hb.cell 1
  have h2 : w.cell? ⟨g, 2, none⟩ = some (.int .i64 (max l 0)) := hb.cell 2
  have hf : w.frozen? ⟨g, 2, none⟩ = false := hb.free 2
  by_cases hp : 0 ≤ l
  · rw [decide_eq_true hp] at h1
    rw [Int.max_eq_left hp] at h2
    go_enter Tryd.func60, Tryd.ntmps60
    go_wp2
    go_end0
    refine ⟨rfl, (Only.refl (fun k => k = g) w).setCell (p := ⟨g, 2, none⟩) (.inl rfl) _, ?_⟩
    have := hb.put 2 (.int .i64 (l - 1))
    have e1 : tick l = l - 1 := by unfold tick; rw [if_pos (by omega)]
    rw [e1]
    have e2 : litV (l - 1) = litV l := by unfold litV; rw [decide_eq_true hp, decide_eq_true (by omega)]
    have e3 : leftV (l - 1) = .int .i64 (l - 1) := by unfold leftV; rw [Int.max_eq_left (by omega)]
    rw [e2, e3]
    exact this
  · rw [decide_eq_false hp] at h1
    have e1 : tick l = l := by unfold tick; rw [if_neg (by omega)]
    rw [e1]
    clear h2 hf
    go_enter Tryd.func60, Tryd.ntmps60
    go_wp2
    go_end0
    exact ⟨rfl, Only.refl _ _, hb⟩
end Go.Proofs.YtlpjeopeboemmaaDoor
