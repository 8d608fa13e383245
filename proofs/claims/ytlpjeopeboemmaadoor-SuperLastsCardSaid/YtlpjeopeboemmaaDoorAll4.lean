/-
  Texts of this claim, joined (part 4): contracts and lemmas that the last text goes by. No statement of the seat is proved here.
-/
import Derived.Test.YtlpjeopeboemmaaDoorAll3
import Derived.Test.YtlpjeopeboemmaaDoorAll1
import Derived.Test.YtlpjeopeboemmaaDoorAll2
/-
  The contract of the reference's Write. No statement of the seat is proved here.
-/
namespace Go.Proofs.YtlpjeopeboemmaaDoor
open Go Go.RowKit

theorem info_u8' : (Tryd.prog.info? 5).map (fun i => (i.zero, i.size, i.bytes)) = some (some (.int .u8 0), 1, 1) := by kernel_rfl
theorem info_str : (Tryd.prog.info? 9).map (fun i => (i.zero, i.size, i.bytes)) = some (some (.string ByteArray.empty), 1, 16) := by kernel_rfl
theorem make_zeros (W : World) (t : Nat) (h : t ≤ 4096) : (Instr.makeSlice 22 (.int .i64 (t : Int)) (.int .i64 (t : Int))).run Tryd.prog W =
    .ok (.slice (some ⟨W.heap.size, 0, none⟩) t t) (W.alloc (.cells (madeCells #[.int .u8 0] t) 5)) := by
  obtain ⟨i, hi, hz, hsz, hby⟩ := info_parts info_u8'
  have hr := run_make (P := Tryd.prog) W 22 5 i _ Tryd.underlying22 hi hz .i64 .i64 (t : Int) (t : Int) (by omega) (by omega) (by rw [hby]; omega) (by omega)
  simp only [Int.toNat_natCast, hsz, Nat.mul_one] at hr
  exact hr
theorem zeros_str (W : World) (t : Nat) : (convert 22 9 (.slice (some ⟨W.heap.size, 0, none⟩) t t)).run Tryd.prog (W.alloc (.cells (madeCells #[.int .u8 0] t) 5)).drew = .ok (.string ⟨(List.replicate t (0 : UInt8)).toArray⟩) (W.alloc (.cells (madeCells #[.int .u8 0] t) 5)).drew := by
  refine conv_bytes _ _ t t (List.replicate t 0) (by simp) ?_
  have h := Rd.lit W (madeCells #[.int .u8 0] t) 5
  rw [toList_madeCells_one] at h
  have e : (List.replicate t (0 : UInt8)).map bv = List.replicate t (.int .u8 0) := by rw [List.map_replicate]; rfl
  rw [e]
  exact h.drew
theorem cat_pad (bs : List UInt8) : (⟨bs.toArray⟩ : ByteArray) ++ ⟨Array.replicate (64 - bs.length) (0 : UInt8)⟩ = ⟨(pad bs).toArray⟩ := by
  apply ByteArray.ext
  rw [ByteArray.data_append]
  simp [pad]

/-- what a Write leaves behind -/
theorem rwrite_fin {w w1 w4 : World} {fp : Nat → Prop} {g : Nat} {S : Sec} {t : Int} {b o c0 : Nat} {B : Nat → Option Addr} {C : Nat → Nat} (h : RLay w1 fp g S t (some ⟨b, o, none⟩) c0 B C) (ho1 : Only fp w w1) {i : Nat} (hi : i < S.length) (v : List UInt8) (hv : v.length = 64) (O1 O2 : Obj) (A' : Option Addr) (c' : Nat)
    (hr : RowO w4 9 1 A' (S[i].length + 1) c' (S[i].map strV ++ [.string ⟨v.toArray⟩])) (ho : Only (inA (B i)) ((w1.alloc O1).alloc O2).drew w4) (hA : ∀ k, inA A' k → inA (B i) k ∨ (((w1.alloc O1).alloc O2).drew.heap.size ≤ k ∧ k < w4.heap.size)) :
    Ending.returned (.int .i64 0) = .returned (.int .i64 0) ∧ Ref (w4.setCell ⟨b, o + i, none⟩ (.slice A' (S[i].length + 1) c')) (More fp w (w4.setCell ⟨b, o + i, none⟩ (.slice A' (S[i].length + 1) c'))) g (S.set i (S[i] ++ [v])) t ∧ Only fp w (w4.setCell ⟨b, o + i, none⟩ (.slice A' (S[i].length + 1) c')) := by
  have hs : ((w1.alloc O1).alloc O2).drew.heap.size = w1.heap.size + 2 := by
    show ((w1.alloc O1).alloc _).heap.size = _
    rw [World.size_alloc, World.size_alloc]
  have ho14 : Only (inA (B i)) w1 w4 := ((((Only.refl (inA (B i)) w1).alloc O1).alloc O2).drew).trans ho (fun _ _ h => h)
  have hwf := h.wf S[i] (List.getElem_mem hi)
  have hp := h.put hi (S[i] ++ [v]) ⟨by simp, fun u hu => by
    rcases List.mem_append.1 hu with hu | hu
    · exact hwf.2 u hu
    · simp at hu; subst hu; exact hv⟩ A' c' ho14 (by rw [List.map_append, List.length_append]; exact hr) (fun k hk => by
    rcases hA k hk with h1 | h1
    · exact .inl h1
    · exact .inr ⟨by omega, h1.2⟩) rfl
  rw [List.length_append] at hp
  have hb : fp b := h.fA b ((inA_some _ _ _ _).2 rfl)
  have z1 := ho1.size
  have z2 := ho14.size
  have zw : (w4.setCell ⟨b, o + i, none⟩ (.slice A' (S[i].length + 1) c')).heap.size = w4.heap.size := by simp [World.setCell]
  refine ⟨rfl, ⟨_, _, _, _, hp.mono (fun k hk _ => ?_)⟩, (ho1.trans ho14 (fun k _ hk => h.fB i k hi hk)).setCell (p := ⟨b, o + i, none⟩) (.inl hb) _⟩
  rcases hk with hk | hk
  · exact .inl hk
  · exact .inr (by rw [zw]; omega)

set_option maxRecDepth 100000 in
set_option maxHeartbeats 4000000 in
theorem rwrite_any {w : World} {fp : Nat → Prop} {g : Nat} {S : Sec} {l : Int} {A0 : Option Addr} {c0 : Nat} {B : Nat → Option Addr} {C : Nat → Nat} (h : RLay w fp g S l A0 c0 B C) (hs : Small 999999 S) (i : Nat) (hi : i < S.length) (A : Option Addr) (n c : Nat) (bs : List UInt8) (hn : n = bs.length) (hl : bs.length ≤ 64) (hr : RdF fp w A (bs.map bv)) (h0 : l ≠ 0) :
    Calls Tryd.prog 28 #[.pointer (some ⟨g, 0, none⟩), .int .i64 (i : Int), .slice A n c] w fun e w' => e = .returned (.int .i64 0) ∧ Ref w' (More fp w w') g (S.set i (S[i] ++ [pad bs])) (tick l) ∧ Only fp w w' := by
  subst hn
  have c1 : w.cell? ⟨g, 1, none⟩ = some (.int .i64 l) := h.dsk.cell 1
  have f1 : w.frozen? ⟨g, 1, none⟩ = false := h.dsk.free 1
  have k0 : w.cell? ⟨g, 0, none⟩ = some (.slice A0 S.length c0) := h.dsk.cell 0
  have hlo := h.lo
  have hhi := h.hi
  have hnn := h.n
  have hl0 : (l == 0) = false := by simpa using h0
  have d1 : decide ((i : Int) < 0) = false := decide_eq_false (by omega)
  have d2 : decide ((S.length : Int) ≤ (i : Int)) = false := decide_eq_false (by omega)
  have d3 : decide ((64 : Int) < (bs.length : Int)) = false := decide_eq_false (by omega)
  obtain ⟨t, ht⟩ : ∃ t, t = tick l := ⟨_, rfl⟩
  rw [← ht]
  have hpad := pad_length hl
  obtain ⟨z, hz⟩ : ∃ z, z = 64 - bs.length := ⟨_, rfl⟩
  have hzi : (64 : Int) - (bs.length : Int) = (z : Int) := by omega
  have hmk := fun W => make_zeros W z (by omega)
  have hwz : IntKind.i64.wrap (z : Int) = (z : Int) := by rw [IntKind.wrap_i64]; omega
  have hcat := cat_pad bs
  have hnbig : ¬ 9223372036854775807 < bs.length + z := by omega
  rw [← hz] at hcat
  have hcvb : ∀ w' : World, Rd w' A (bs.map bv) → (convert 22 9 (.slice A bs.length c)).run Tryd.prog w' = .ok (.string ⟨bs.toArray⟩) w' := fun w' hr' => conv_bytes w' A bs.length c bs rfl hr'
  clear hz
  by_cases hp : 0 < l
  · have hL1 : ∃ w1, w1 = w.setCell ⟨g, 1, none⟩ (.int .i64 (l - 1)) ∧ RLay w1 fp g S t A0 c0 B C ∧ Only (fun k => k = g) w w1 := by
      have ho : Only (fun k => k = g) w (w.setCell ⟨g, 1, none⟩ (.int .i64 (l - 1))) := (Only.refl (fun k => k = g) w).setCell (p := ⟨g, 1, none⟩) (.inl rfl) _
      have e1 : t = l - 1 := by rw [ht]; unfold tick; rw [if_pos hp]
      rw [e1]
      exact ⟨_, rfl, h.left (l - 1) (by omega) (by omega) ho (h.dsk.put 1 (.int .i64 (l - 1))), ho⟩
    obtain ⟨w1, hw1, hL1, ho1⟩ := hL1
    replace hw1 := Lib.hid hw1.symm
    go_enter Tryd.func28, Tryd.ntmps28
    go_wp2_with fail
    rw [hw1.out]
    clear c1 f1 k0
    have ho1f : Only fp w w1 := ho1.mono (fun k _ hk => by subst hk; exact h.fg)
    have hdsk1 : w1.cell? ⟨g, 0, none⟩ = some (.slice A0 S.length c0) := hL1.dsk.cell 0
    obtain ⟨b, o, rfl, hcell, hfr⟩ := hL1.row.there1 hi
    have hck := hcell _ (rvals_get S B C hi)
    have hcel := hL1.cel i hi
    have hsm := hs S[i] (List.getElem_mem hi)
    have hwf := h.wf S[i] (List.getElem_mem hi)
    have hfar := hL1.far
    have hbA : fp b := hL1.fA b ((inA_some _ _ _ _).2 rfl)
    have hlb : b < w1.heap.size := World.block_lt_of_cell? w1 _ hck
    have hlg : g < w1.heap.size := hL1.dsk.lt
    have hnB : ¬ inA (B i) b := fun hk => (hfar.2 i b hi hk).2 ((inA_some _ _ _ _).2 rfl)
    have hgb : g ≠ b := fun e => hfar.1 (e ▸ (inA_some _ _ _ _).2 rfl)
    have hr1 := hr.only ho1f
    have hSK : ∀ w' : World, (∀ k, k < w1.heap.size → ¬ inA (B i) k → k ≠ b → w'.heap[k]? = w1.heap[k]?) → w'.cell? ⟨g, 0, none⟩ = some (.slice (some ⟨b, o, none⟩) S.length c0) ∧ Rd w' A (bs.map bv) := fun w' hw' =>
      ⟨(World.cell?_of_block (a := ⟨g, 0, none⟩) (hw' g hlg (fun hk => (hfar.2 i g hi hk).1 rfl) hgb)).trans hdsk1, by
        by_cases hbs : bs.map bv = []
        · rw [hbs]; exact Rd.nil _ _
        · refine hr1.1.keep (fun ad e hlt => hw' ad.block hlt (fun hk => hr1.2 ad e hbs (hL1.fB i _ hi hk)) (fun e2 => hr1.2 ad e hbs (e2 ▸ hbA)))⟩
    replace hSK := Lib.hid hSK
    obtain ⟨O1, hO1⟩ : ∃ O1, O1 = Obj.cells (madeCells #[.int .u8 0] z) 5 := ⟨_, rfl⟩
    have hzs := zeros_str w1 z
    have hmk' : ∀ W, (Instr.makeSlice 22 (.int .i64 (z : Int)) (.int .i64 (z : Int))).run Tryd.prog W = .ok (.slice (some ⟨W.heap.size, 0, none⟩) z z) (W.alloc O1) := by rw [hO1]; exact hmk
    rw [← hO1] at hzs
    clear hmk
    replace hO1 := Lib.hid hO1
    obtain ⟨O2, hO2⟩ : ∃ O2, O2 = Obj.cells #[.string ⟨(pad bs).toArray⟩] 9 := ⟨_, rfl⟩
    have q1 : ∀ k, k < w1.heap.size → (w1.alloc O1).heap[k]? = w1.heap[k]? := fun k hk => Below.heap_alloc w1 _ k hk
    have q2 : ∀ k, k < w1.heap.size → ((w1.alloc O1).alloc O2).heap[k]? = w1.heap[k]? := fun k hk => (Below.heap_alloc _ _ k (by rw [World.size_alloc]; omega)).trans (q1 k hk)
    have e1 : (w1.alloc O1).cell? ⟨b, o + i, none⟩ = some (.slice (B i) S[i].length (C i)) := (World.cell?_of_block (a := ⟨b, o + i, none⟩) (q1 b hlb)).trans hck
    have e2 : ((w1.alloc O1).alloc O2).cell? ⟨b, o + i, none⟩ = some (.slice (B i) S[i].length (C i)) := (World.cell?_of_block (a := ⟨b, o + i, none⟩) (q2 b hlb)).trans hck
    rw [hO2] at e2
    replace q1 := Lib.hid q1
    replace q2 := Lib.hid q2
    have hrow2 : RowO ((w1.alloc O1).alloc O2).drew 9 1 (B i) S[i].length (C i) (S[i].map strV) := ((hcel.alloc _).alloc _).drew
    have hlit : Rd ((w1.alloc O1).alloc O2).drew (some ⟨w1.heap.size + 1, 0, none⟩) [.string ⟨(pad bs).toArray⟩] := by
      rw [hO2]
      exact (Rd.lit_at (w1.alloc O1) #[.string ⟨(pad bs).toArray⟩] 9 (by rw [World.size_alloc])).drew
    rw [hO2] at hrow2 hlit
    have hm1 : S[i].length + 1 ≤ maxLen := by unfold maxLen; omega
    have hm2 : (S[i].length + 1) * 16 ≤ 140737488355328 := by omega
    have hii : (i : Int) < (S.length : Int) := by omega
    rw [hO2] at q2
    go_wp2_with fail
    refine wp_region_held_drew (S := fun w' => w'.cell? ⟨g, 0, none⟩ = some (.slice (some ⟨b, o, none⟩) S.length c0) ∧ Rd w' A (bs.map bv)) (by kernel_rfl) ?_ (fun hHeld => ?_)
    · exact hSK.out _ (fun k _ _ _ => rfl)
    refine wpAnyH_take (i := 0) (v := ?_) (take_list rfl) (by kernel_rfl) (by kernel_rfl) (by kernel_rfl) (fun _ _ _ h => h) (Or.inl ⟨by rfl, ?_⟩) (by assumption) ?_
    rotate_left
    · intro w hSw
      try dsimp only at hSw
      first | (go_simp; done) | (go_simp; with_reducible rfl)
    try simp only [Act.put, List.setIfInBounds_toArray, List.set_cons_zero, List.set_cons_succ]
    refine wpAnyH_take (i := 1) (v := ?_) (take_list rfl) (by kernel_rfl) (by kernel_rfl) (by kernel_rfl) (fun _ _ _ h => h) (Or.inl ⟨by rfl, ?_⟩) (by assumption) ?_
    rotate_left
    · intro w hSw
      try dsimp only at hSw
      first | (go_simp; done) | (go_simp; with_reducible rfl)
    try simp only [Act.put, List.setIfInBounds_toArray, List.set_cons_zero, List.set_cons_succ]
    refine wpAnyH_take (i := 2) (v := ?_) (take_list rfl) (by kernel_rfl) (by kernel_rfl) (by kernel_rfl) (fun _ _ _ h => h) (Or.inl ⟨by rfl, ?_⟩) (by assumption) ?_
    rotate_left
    · intro w hSw
      try dsimp only at hSw
      first | (go_simp; done) | (go_simp; with_reducible rfl)
    try simp only [Act.put, List.setIfInBounds_toArray, List.set_cons_zero, List.set_cons_succ]
    refine wpAnyH_take (i := 3) (v := ?_) (take_list rfl) (by kernel_rfl) (by kernel_rfl) (by kernel_rfl) (fun _ _ _ h => h) (Or.inl ⟨by rfl, ?_⟩) (by assumption) ?_
    rotate_left
    · intro w hSw
      try dsimp only at hSw
      first | (go_simp; done) | (go_simp; with_reducible rfl)
    try simp only [Act.put, List.setIfInBounds_toArray, List.set_cons_zero, List.set_cons_succ]
    refine wpAnyH_take (i := 4) (v := ?_) (take_list rfl) (by kernel_rfl) (by kernel_rfl) (by kernel_rfl) (fun _ _ _ h => h) (Or.inl ⟨by rfl, ?_⟩) (by assumption) ?_
    rotate_left
    · intro w hSw
      try dsimp only at hSw
      first | (go_simp; done) | (go_simp; with_reducible rfl)
    try simp only [Act.put, List.setIfInBounds_toArray, List.set_cons_zero, List.set_cons_succ]
    refine wpAnyH_take (i := 5) (v := ?_) (take_list rfl) (by kernel_rfl) (by kernel_rfl) (by kernel_rfl) (fun _ _ _ h => h) (Or.inl ⟨by rfl, ?_⟩) (by assumption) ?_
    rotate_left
    · intro w hSw
      try dsimp only at hSw
      first | (go_simp; done) | (go_simp; with_reducible rfl)
    try simp only [Act.put, List.setIfInBounds_toArray, List.set_cons_zero, List.set_cons_succ]
    refine wpAnyH_take (i := 6) (v := ?_) (take_list rfl) (by kernel_rfl) (by kernel_rfl) (by kernel_rfl) (fun _ _ _ h => h) (Or.inl ⟨by rfl, ?_⟩) (by assumption) ?_
    rotate_left
    · intro w hSw
      try dsimp only at hSw
      first | (go_simp; done) | (go_simp; with_reducible rfl)
    try simp only [Act.put, List.setIfInBounds_toArray, List.set_cons_zero, List.set_cons_succ]
    refine wpAnyH_take (i := 7) (v := ?_) (take_list rfl) (by kernel_rfl) (by kernel_rfl) (by kernel_rfl) (fun _ _ _ h => h) (Or.inl ⟨by rfl, ?_⟩) (by assumption) ?_
    rotate_left
    · intro w hSw
      try dsimp only at hSw
      first | (go_simp; done) | (go_simp; with_reducible rfl)
    try simp only [Act.put, List.setIfInBounds_toArray, List.set_cons_zero, List.set_cons_succ]
    refine wpAnyH_take (i := 8) (v := ?_) (take_list rfl) (by kernel_rfl) (by kernel_rfl) (by kernel_rfl) (fun _ _ _ h => h) (Or.inl ⟨by rfl, ?_⟩) (by assumption) ?_
    rotate_left
    · intro w hSw
      try dsimp only at hSw
      first | (go_simp; done) | (go_simp; with_reducible rfl)
    try simp only [Act.put, List.setIfInBounds_toArray, List.set_cons_zero, List.set_cons_succ]
    refine wpAnyH_take (i := 9) (v := ?_) (take_list rfl) (by kernel_rfl) (by kernel_rfl) (by kernel_rfl) (fun _ _ _ h => h) (Or.inl ⟨by rfl, ?_⟩) (by assumption) ?_
    rotate_left
    · intro w hSw
      try dsimp only at hSw
      first | (go_simp; done) | (go_simp; with_reducible rfl)
    try simp only [Act.put, List.setIfInBounds_toArray, List.set_cons_zero, List.set_cons_succ]
    refine wpAnyH_take (i := 10) (v := ?_) (take_list rfl) (by kernel_rfl) (by kernel_rfl) (by kernel_rfl) (fun _ _ _ h => h) (Or.inl ⟨by rfl, ?_⟩) (by assumption) ?_
    rotate_left
    · intro w hSw
      try dsimp only at hSw
      first | (go_simp; done) | (go_simp; with_reducible rfl)
    try simp only [Act.put, List.setIfInBounds_toArray, List.set_cons_zero, List.set_cons_succ]
    refine wpAnyH_take (i := 12) (v := ?_) (take_list rfl) (by kernel_rfl) (by kernel_rfl) (by kernel_rfl) (fun _ _ _ h => h) (Or.inl ⟨by rfl, ?_⟩) (by assumption) ?_
    rotate_left
    · intro w hSw
      try dsimp only at hSw
      first | (go_simp; done) | (go_simp; with_reducible rfl)
    try simp only [Act.put, List.setIfInBounds_toArray, List.set_cons_zero, List.set_cons_succ]
    refine wpAnyH_take (i := 13) (v := ?_) (take_list rfl) (by kernel_rfl) (by kernel_rfl) (by kernel_rfl) (fun _ _ _ h => h) (Or.inl ⟨by rfl, ?_⟩) (by assumption) ?_
    rotate_left
    · intro w hSw
      try dsimp only at hSw
      have hcv9 := hcvb w hSw.2
      first | (go_simp; done) | (go_simp; with_reducible rfl)
    try simp only [Act.put, List.setIfInBounds_toArray, List.set_cons_zero, List.set_cons_succ]
    refine wpAnyH_take (i := 14) (v := ?_) (take_list rfl) (by kernel_rfl) (by kernel_rfl) (by kernel_rfl) (fun _ _ _ h => h) (Or.inl ⟨by rfl, ?_⟩) (by assumption) ?_
    rotate_left
    · intro w hSw
      try dsimp only at hSw
      first | (go_simp; done) | (go_simp; with_reducible rfl)
    try simp only [Act.put, List.setIfInBounds_toArray, List.set_cons_zero, List.set_cons_succ]
    refine wpAnyH_take (i := 15) (v := ?_) (take_list rfl) (by kernel_rfl) (by kernel_rfl) (by kernel_rfl) (fun _ _ _ h => h) (Or.inl ⟨by rfl, ?_⟩) (by assumption) ?_
    rotate_left
    · intro w hSw
      try dsimp only at hSw
      first | (go_simp; done) | (go_simp; with_reducible rfl)
    try simp only [Act.put, List.setIfInBounds_toArray, List.set_cons_zero, List.set_cons_succ]
    refine wpAnyH_take (i := 16) (v := ?_) (take_list rfl) (by kernel_rfl) (by kernel_rfl) (by kernel_rfl) (fun _ _ _ h => h) (Or.inl ⟨by rfl, ?_⟩) (by assumption) ?_
    rotate_left
    · intro w hSw
      try dsimp only at hSw
      first | (go_simp; done) | (go_simp; with_reducible rfl)
    try simp only [Act.put, List.setIfInBounds_toArray, List.set_cons_zero, List.set_cons_succ]
    refine wpAnyH_ready (rs := [11, 17]) (by kernel_rfl) (by simp) ?_
    refine AllReadyH.cons (take_list rfl) (fun K hK => ?_) ?_
    · skip
      go_simp
      refine hK.out _ _ ?_ (fun hHeld => ?_)
      · try dsimp only
        exact hSK.out _ (fun k _ _ _ => rfl)
      clear hK K
      refine wpAnyH_ready (rs := [17]) (by kernel_rfl) (by simp) ?_
      refine AllReadyH.cons (take_list rfl) (fun K hK => ?_) ?_
      · skip
        go_simp
        refine hK.out _ _ ?_ (fun hHeld => ?_)
        · try dsimp only
          exact hSK.out _ (fun k h1 _ _ => q1.out k h1)
        clear hK K
        refine wpAnyH_ready (rs := [18]) (by kernel_rfl) (by simp) ?_
        refine AllReadyH.cons (take_list rfl) (fun K hK => ?_) ?_
        · skip
          go_simp
          refine hK.out _ _ ?_ (fun hHeld => ?_)
          · try dsimp only
            exact hSK.out _ (fun k h1 _ _ => q1.out k h1)
          clear hK K
          refine wpAnyH_take (i := 19) (v := ?_) (take_list rfl) (by kernel_rfl) (by kernel_rfl) (by kernel_rfl) (fun _ _ _ h => h) (Or.inl ⟨by rfl, ?_⟩) (by assumption) ?_
          rotate_left
          · intro w hSw
            try dsimp only at hSw
            first | (go_simp; done) | (go_simp; with_reducible rfl)
          try simp only [Act.put, List.setIfInBounds_toArray, List.set_cons_zero, List.set_cons_succ]
          refine wpAnyH_ready (rs := [20]) (by kernel_rfl) (by simp) ?_
          refine AllReadyH.cons (take_list rfl) (fun K hK => ?_) ?_
          · skip
            go_simp
            refine hK.out _ _ ?_ (fun hHeld => ?_)
            · try dsimp only
              exact hSK.out _ (fun k h1 _ _ => q2.out k h1)
            clear hK K
            refine wpAnyH_ready (rs := [21]) (by kernel_rfl) (by simp) ?_
            refine AllReadyH.cons (take_list rfl) (fun K hK => ?_) ?_
            · skip
              refine step_appO _ rfl (.tmp 51) (.tmp 60) _ rfl _ _ 1 16 Tryd.underlying108 info_str rfl (B i) _ (C i) _ rfl hrow2 (some ⟨w1.heap.size + 1, 0, none⟩) 1 1 [.string ⟨(pad bs).toArray⟩] rfl rfl hlit ?_ ?_ hm1 hm2 ?_
              · simp; rfl
              · intro h; cases h
              intro A4 c4 w4 hrow4 ho4 hA4
              have hs4 : w1.heap.size + 2 = ((w1.alloc O1).alloc (Obj.cells #[.string ⟨(pad bs).toArray⟩] 9)).drew.heap.size := by
                show _ = ((w1.alloc O1).alloc _).heap.size
                rw [World.size_alloc, World.size_alloc]
              have q4 : ∀ k, k < w1.heap.size → ¬ inA (B i) k → w4.heap[k]? = w1.heap[k]? := fun k h1 h2 => (ho4.block k (by omega) h2).trans (q2.out k h1)
              have p4 : w4.cell? ⟨b, o + i, none⟩ = some (.slice (B i) S[i].length (C i)) := (World.cell?_of_block (a := ⟨b, o + i, none⟩) (q4 b hlb hnB)).trans hck
              have p5 : w4.frozen? ⟨b, o + i, none⟩ = false := (World.frozen?_of_block (a := ⟨b, o + i, none⟩) (q4 b hlb hnB)).trans hfr
              refine hK.out _ _ ?_ (fun hHeld => ?_)
              · try dsimp only
                exact hSK.out _ (fun k h1 h2 _ => q4 k h1 h2)
              clear hK K
              refine wpAnyH_take (i := 22) (v := ?_) (take_list rfl) (by kernel_rfl) (by kernel_rfl) (by kernel_rfl) (fun _ _ _ h => h) (Or.inl ⟨by rfl, ?_⟩) (by assumption) ?_
              rotate_left
              · intro w hSw
                try dsimp only at hSw
                first | (go_simp; done) | (go_simp; with_reducible rfl)
              try simp only [Act.put, List.setIfInBounds_toArray, List.set_cons_zero, List.set_cons_succ]
              refine wpAnyH_ready (rs := [23]) (by kernel_rfl) (by simp) ?_
              refine AllReadyH.cons (take_list rfl) (fun K hK => ?_) ?_
              · skip
                go_simp
                refine hK.out _ _ ?_ (fun hHeld => ?_)
                · try dsimp only
                  exact hSK.out _ (fun k h1 h2 h3 => (Below.heap_setCell w4 ⟨b, o + i, none⟩ _ k h3).trans (q4 k h1 h2))
                clear hK K
                refine wpAnyH_done (by kernel_rfl) ?_ _
                go_wp2
                go_ret
                exact rwrite_fin hL1 ho1f hi (pad bs) hpad O1 _ A4 c4 hrow4 ho4 hA4
              exact AllReadyH.nil
            exact AllReadyH.nil
          exact AllReadyH.nil
        exact AllReadyH.nil
      exact AllReadyH.nil
    refine AllReadyH.cons (take_list rfl) (fun K hK => ?_) ?_
    · skip
      go_simp
      refine hK.out _ _ ?_ (fun hHeld => ?_)
      · try dsimp only
        exact hSK.out _ (fun k h1 _ _ => q1.out k h1)
      clear hK K
      refine wpAnyH_ready (rs := [11, 18]) (by kernel_rfl) (by simp) ?_
      refine AllReadyH.cons (take_list rfl) (fun K hK => ?_) ?_
      · skip
        go_simp
        refine hK.out _ _ ?_ (fun hHeld => ?_)
        · try dsimp only
          exact hSK.out _ (fun k h1 _ _ => q1.out k h1)
        clear hK K
        refine wpAnyH_ready (rs := [18]) (by kernel_rfl) (by simp) ?_
        refine AllReadyH.cons (take_list rfl) (fun K hK => ?_) ?_
        · skip
          go_simp
          refine hK.out _ _ ?_ (fun hHeld => ?_)
          · try dsimp only
            exact hSK.out _ (fun k h1 _ _ => q1.out k h1)
          clear hK K
          refine wpAnyH_take (i := 19) (v := ?_) (take_list rfl) (by kernel_rfl) (by kernel_rfl) (by kernel_rfl) (fun _ _ _ h => h) (Or.inl ⟨by rfl, ?_⟩) (by assumption) ?_
          rotate_left
          · intro w hSw
            try dsimp only at hSw
            first | (go_simp; done) | (go_simp; with_reducible rfl)
          try simp only [Act.put, List.setIfInBounds_toArray, List.set_cons_zero, List.set_cons_succ]
          refine wpAnyH_ready (rs := [20]) (by kernel_rfl) (by simp) ?_
          refine AllReadyH.cons (take_list rfl) (fun K hK => ?_) ?_
          · skip
            go_simp
            refine hK.out _ _ ?_ (fun hHeld => ?_)
            · try dsimp only
              exact hSK.out _ (fun k h1 _ _ => q2.out k h1)
            clear hK K
            refine wpAnyH_ready (rs := [21]) (by kernel_rfl) (by simp) ?_
            refine AllReadyH.cons (take_list rfl) (fun K hK => ?_) ?_
            · skip
              refine step_appO _ rfl (.tmp 51) (.tmp 60) _ rfl _ _ 1 16 Tryd.underlying108 info_str rfl (B i) _ (C i) _ rfl hrow2 (some ⟨w1.heap.size + 1, 0, none⟩) 1 1 [.string ⟨(pad bs).toArray⟩] rfl rfl hlit ?_ ?_ hm1 hm2 ?_
              · simp; rfl
              · intro h; cases h
              intro A4 c4 w4 hrow4 ho4 hA4
              have hs4 : w1.heap.size + 2 = ((w1.alloc O1).alloc (Obj.cells #[.string ⟨(pad bs).toArray⟩] 9)).drew.heap.size := by
                show _ = ((w1.alloc O1).alloc _).heap.size
                rw [World.size_alloc, World.size_alloc]
              have q4 : ∀ k, k < w1.heap.size → ¬ inA (B i) k → w4.heap[k]? = w1.heap[k]? := fun k h1 h2 => (ho4.block k (by omega) h2).trans (q2.out k h1)
              have p4 : w4.cell? ⟨b, o + i, none⟩ = some (.slice (B i) S[i].length (C i)) := (World.cell?_of_block (a := ⟨b, o + i, none⟩) (q4 b hlb hnB)).trans hck
              have p5 : w4.frozen? ⟨b, o + i, none⟩ = false := (World.frozen?_of_block (a := ⟨b, o + i, none⟩) (q4 b hlb hnB)).trans hfr
              refine hK.out _ _ ?_ (fun hHeld => ?_)
              · try dsimp only
                exact hSK.out _ (fun k h1 h2 _ => q4 k h1 h2)
              clear hK K
              refine wpAnyH_take (i := 22) (v := ?_) (take_list rfl) (by kernel_rfl) (by kernel_rfl) (by kernel_rfl) (fun _ _ _ h => h) (Or.inl ⟨by rfl, ?_⟩) (by assumption) ?_
              rotate_left
              · intro w hSw
                try dsimp only at hSw
                first | (go_simp; done) | (go_simp; with_reducible rfl)
              try simp only [Act.put, List.setIfInBounds_toArray, List.set_cons_zero, List.set_cons_succ]
              refine wpAnyH_ready (rs := [23]) (by kernel_rfl) (by simp) ?_
              refine AllReadyH.cons (take_list rfl) (fun K hK => ?_) ?_
              · skip
                go_simp
                refine hK.out _ _ ?_ (fun hHeld => ?_)
                · try dsimp only
                  exact hSK.out _ (fun k h1 h2 h3 => (Below.heap_setCell w4 ⟨b, o + i, none⟩ _ k h3).trans (q4 k h1 h2))
                clear hK K
                refine wpAnyH_done (by kernel_rfl) ?_ _
                go_wp2
                go_ret
                exact rwrite_fin hL1 ho1f hi (pad bs) hpad O1 _ A4 c4 hrow4 ho4 hA4
              exact AllReadyH.nil
            exact AllReadyH.nil
          exact AllReadyH.nil
        exact AllReadyH.nil
      refine AllReadyH.cons (take_list rfl) (fun K hK => ?_) ?_
      · skip
        go_simp
        refine hK.out _ _ ?_ (fun hHeld => ?_)
        · try dsimp only
          exact hSK.out _ (fun k h1 _ _ => q1.out k h1)
        clear hK K
        refine wpAnyH_take (i := 19) (v := ?_) (take_list rfl) (by kernel_rfl) (by kernel_rfl) (by kernel_rfl) (fun _ _ _ h => h) (Or.inl ⟨by rfl, ?_⟩) (by assumption) ?_
        rotate_left
        · intro w hSw
          try dsimp only at hSw
          first | (go_simp; done) | (go_simp; with_reducible rfl)
        try simp only [Act.put, List.setIfInBounds_toArray, List.set_cons_zero, List.set_cons_succ]
        refine wpAnyH_ready (rs := [11, 20]) (by kernel_rfl) (by simp) ?_
        refine AllReadyH.cons (take_list rfl) (fun K hK => ?_) ?_
        · skip
          go_simp
          refine hK.out _ _ ?_ (fun hHeld => ?_)
          · try dsimp only
            exact hSK.out _ (fun k h1 _ _ => q1.out k h1)
          clear hK K
          refine wpAnyH_ready (rs := [20]) (by kernel_rfl) (by simp) ?_
          refine AllReadyH.cons (take_list rfl) (fun K hK => ?_) ?_
          · skip
            go_simp
            refine hK.out _ _ ?_ (fun hHeld => ?_)
            · try dsimp only
              exact hSK.out _ (fun k h1 _ _ => q2.out k h1)
            clear hK K
            refine wpAnyH_ready (rs := [21]) (by kernel_rfl) (by simp) ?_
            refine AllReadyH.cons (take_list rfl) (fun K hK => ?_) ?_
            · skip
              refine step_appO _ rfl (.tmp 51) (.tmp 60) _ rfl _ _ 1 16 Tryd.underlying108 info_str rfl (B i) _ (C i) _ rfl hrow2 (some ⟨w1.heap.size + 1, 0, none⟩) 1 1 [.string ⟨(pad bs).toArray⟩] rfl rfl hlit ?_ ?_ hm1 hm2 ?_
              · simp; rfl
              · intro h; cases h
              intro A4 c4 w4 hrow4 ho4 hA4
              have hs4 : w1.heap.size + 2 = ((w1.alloc O1).alloc (Obj.cells #[.string ⟨(pad bs).toArray⟩] 9)).drew.heap.size := by
                show _ = ((w1.alloc O1).alloc _).heap.size
                rw [World.size_alloc, World.size_alloc]
              have q4 : ∀ k, k < w1.heap.size → ¬ inA (B i) k → w4.heap[k]? = w1.heap[k]? := fun k h1 h2 => (ho4.block k (by omega) h2).trans (q2.out k h1)
              have p4 : w4.cell? ⟨b, o + i, none⟩ = some (.slice (B i) S[i].length (C i)) := (World.cell?_of_block (a := ⟨b, o + i, none⟩) (q4 b hlb hnB)).trans hck
              have p5 : w4.frozen? ⟨b, o + i, none⟩ = false := (World.frozen?_of_block (a := ⟨b, o + i, none⟩) (q4 b hlb hnB)).trans hfr
              refine hK.out _ _ ?_ (fun hHeld => ?_)
              · try dsimp only
                exact hSK.out _ (fun k h1 h2 _ => q4 k h1 h2)
              clear hK K
              refine wpAnyH_take (i := 22) (v := ?_) (take_list rfl) (by kernel_rfl) (by kernel_rfl) (by kernel_rfl) (fun _ _ _ h => h) (Or.inl ⟨by rfl, ?_⟩) (by assumption) ?_
              rotate_left
              · intro w hSw
                try dsimp only at hSw
                first | (go_simp; done) | (go_simp; with_reducible rfl)
              try simp only [Act.put, List.setIfInBounds_toArray, List.set_cons_zero, List.set_cons_succ]
              refine wpAnyH_ready (rs := [23]) (by kernel_rfl) (by simp) ?_
              refine AllReadyH.cons (take_list rfl) (fun K hK => ?_) ?_
              · skip
                go_simp
                refine hK.out _ _ ?_ (fun hHeld => ?_)
                · try dsimp only
                  exact hSK.out _ (fun k h1 h2 h3 => (Below.heap_setCell w4 ⟨b, o + i, none⟩ _ k h3).trans (q4 k h1 h2))
                clear hK K
                refine wpAnyH_done (by kernel_rfl) ?_ _
                go_wp2
                go_ret
                exact rwrite_fin hL1 ho1f hi (pad bs) hpad O1 _ A4 c4 hrow4 ho4 hA4
              exact AllReadyH.nil
            exact AllReadyH.nil
          exact AllReadyH.nil
        refine AllReadyH.cons (take_list rfl) (fun K hK => ?_) ?_
        · skip
          go_simp
          refine hK.out _ _ ?_ (fun hHeld => ?_)
          · try dsimp only
            exact hSK.out _ (fun k h1 _ _ => q2.out k h1)
          clear hK K
          refine wpAnyH_ready (rs := [11]) (by kernel_rfl) (by simp) ?_
          refine AllReadyH.cons (take_list rfl) (fun K hK => ?_) ?_
          · skip
            go_simp
            refine hK.out _ _ ?_ (fun hHeld => ?_)
            · try dsimp only
              exact hSK.out _ (fun k h1 _ _ => q2.out k h1)
            clear hK K
            refine wpAnyH_ready (rs := [21]) (by kernel_rfl) (by simp) ?_
            refine AllReadyH.cons (take_list rfl) (fun K hK => ?_) ?_
            · skip
              refine step_appO _ rfl (.tmp 51) (.tmp 60) _ rfl _ _ 1 16 Tryd.underlying108 info_str rfl (B i) _ (C i) _ rfl hrow2 (some ⟨w1.heap.size + 1, 0, none⟩) 1 1 [.string ⟨(pad bs).toArray⟩] rfl rfl hlit ?_ ?_ hm1 hm2 ?_
              · simp; rfl
              · intro h; cases h
              intro A4 c4 w4 hrow4 ho4 hA4
              have hs4 : w1.heap.size + 2 = ((w1.alloc O1).alloc (Obj.cells #[.string ⟨(pad bs).toArray⟩] 9)).drew.heap.size := by
                show _ = ((w1.alloc O1).alloc _).heap.size
                rw [World.size_alloc, World.size_alloc]
              have q4 : ∀ k, k < w1.heap.size → ¬ inA (B i) k → w4.heap[k]? = w1.heap[k]? := fun k h1 h2 => (ho4.block k (by omega) h2).trans (q2.out k h1)
              have p4 : w4.cell? ⟨b, o + i, none⟩ = some (.slice (B i) S[i].length (C i)) := (World.cell?_of_block (a := ⟨b, o + i, none⟩) (q4 b hlb hnB)).trans hck
              have p5 : w4.frozen? ⟨b, o + i, none⟩ = false := (World.frozen?_of_block (a := ⟨b, o + i, none⟩) (q4 b hlb hnB)).trans hfr
              refine hK.out _ _ ?_ (fun hHeld => ?_)
              · try dsimp only
                exact hSK.out _ (fun k h1 h2 _ => q4 k h1 h2)
              clear hK K
              refine wpAnyH_take (i := 22) (v := ?_) (take_list rfl) (by kernel_rfl) (by kernel_rfl) (by kernel_rfl) (fun _ _ _ h => h) (Or.inl ⟨by rfl, ?_⟩) (by assumption) ?_
              rotate_left
              · intro w hSw
                try dsimp only at hSw
                first | (go_simp; done) | (go_simp; with_reducible rfl)
              try simp only [Act.put, List.setIfInBounds_toArray, List.set_cons_zero, List.set_cons_succ]
              refine wpAnyH_ready (rs := [23]) (by kernel_rfl) (by simp) ?_
              refine AllReadyH.cons (take_list rfl) (fun K hK => ?_) ?_
              · skip
                go_simp
                refine hK.out _ _ ?_ (fun hHeld => ?_)
                · try dsimp only
                  exact hSK.out _ (fun k h1 h2 h3 => (Below.heap_setCell w4 ⟨b, o + i, none⟩ _ k h3).trans (q4 k h1 h2))
                clear hK K
                refine wpAnyH_done (by kernel_rfl) ?_ _
                go_wp2
                go_ret
                exact rwrite_fin hL1 ho1f hi (pad bs) hpad O1 _ A4 c4 hrow4 ho4 hA4
              exact AllReadyH.nil
            exact AllReadyH.nil
          exact AllReadyH.nil
        exact AllReadyH.nil
      exact AllReadyH.nil
    exact AllReadyH.nil
  · have hL1 : RLay w fp g S t A0 c0 B C := by
      have e1 : t = l := by rw [ht]; unfold tick; rw [if_neg hp]
      rw [e1]; exact h
    obtain ⟨w1, hw1⟩ : ∃ w1, w1 = w := ⟨_, rfl⟩
    have ho1f : Only fp w w1 := by rw [hw1]; exact Only.refl _ _
    go_enter Tryd.func28, Tryd.ntmps28
    go_wp2_with fail
    clear c1 f1 k0
    rw [← hw1] at hL1 ⊢
    replace hw1 := Lib.hid hw1
    have hdsk1 : w1.cell? ⟨g, 0, none⟩ = some (.slice A0 S.length c0) := hL1.dsk.cell 0
    obtain ⟨b, o, rfl, hcell, hfr⟩ := hL1.row.there1 hi
    have hck := hcell _ (rvals_get S B C hi)
    have hcel := hL1.cel i hi
    have hsm := hs S[i] (List.getElem_mem hi)
    have hwf := h.wf S[i] (List.getElem_mem hi)
    have hfar := hL1.far
    have hbA : fp b := hL1.fA b ((inA_some _ _ _ _).2 rfl)
    have hlb : b < w1.heap.size := World.block_lt_of_cell? w1 _ hck
    have hlg : g < w1.heap.size := hL1.dsk.lt
    have hnB : ¬ inA (B i) b := fun hk => (hfar.2 i b hi hk).2 ((inA_some _ _ _ _).2 rfl)
    have hgb : g ≠ b := fun e => hfar.1 (e ▸ (inA_some _ _ _ _).2 rfl)
    have hr1 := hr.only ho1f
    have hSK : ∀ w' : World, (∀ k, k < w1.heap.size → ¬ inA (B i) k → k ≠ b → w'.heap[k]? = w1.heap[k]?) → w'.cell? ⟨g, 0, none⟩ = some (.slice (some ⟨b, o, none⟩) S.length c0) ∧ Rd w' A (bs.map bv) := fun w' hw' =>
      ⟨(World.cell?_of_block (a := ⟨g, 0, none⟩) (hw' g hlg (fun hk => (hfar.2 i g hi hk).1 rfl) hgb)).trans hdsk1, by
        by_cases hbs : bs.map bv = []
        · rw [hbs]; exact Rd.nil _ _
        · refine hr1.1.keep (fun ad e hlt => hw' ad.block hlt (fun hk => hr1.2 ad e hbs (hL1.fB i _ hi hk)) (fun e2 => hr1.2 ad e hbs (e2 ▸ hbA)))⟩
    replace hSK := Lib.hid hSK
    obtain ⟨O1, hO1⟩ : ∃ O1, O1 = Obj.cells (madeCells #[.int .u8 0] z) 5 := ⟨_, rfl⟩
    have hzs := zeros_str w1 z
    have hmk' : ∀ W, (Instr.makeSlice 22 (.int .i64 (z : Int)) (.int .i64 (z : Int))).run Tryd.prog W = .ok (.slice (some ⟨W.heap.size, 0, none⟩) z z) (W.alloc O1) := by rw [hO1]; exact hmk
    rw [← hO1] at hzs
    clear hmk
    replace hO1 := Lib.hid hO1
    obtain ⟨O2, hO2⟩ : ∃ O2, O2 = Obj.cells #[.string ⟨(pad bs).toArray⟩] 9 := ⟨_, rfl⟩
    have q1 : ∀ k, k < w1.heap.size → (w1.alloc O1).heap[k]? = w1.heap[k]? := fun k hk => Below.heap_alloc w1 _ k hk
    have q2 : ∀ k, k < w1.heap.size → ((w1.alloc O1).alloc O2).heap[k]? = w1.heap[k]? := fun k hk => (Below.heap_alloc _ _ k (by rw [World.size_alloc]; omega)).trans (q1 k hk)
    have e1 : (w1.alloc O1).cell? ⟨b, o + i, none⟩ = some (.slice (B i) S[i].length (C i)) := (World.cell?_of_block (a := ⟨b, o + i, none⟩) (q1 b hlb)).trans hck
    have e2 : ((w1.alloc O1).alloc O2).cell? ⟨b, o + i, none⟩ = some (.slice (B i) S[i].length (C i)) := (World.cell?_of_block (a := ⟨b, o + i, none⟩) (q2 b hlb)).trans hck
    rw [hO2] at e2
    replace q1 := Lib.hid q1
    replace q2 := Lib.hid q2
    have hrow2 : RowO ((w1.alloc O1).alloc O2).drew 9 1 (B i) S[i].length (C i) (S[i].map strV) := ((hcel.alloc _).alloc _).drew
    have hlit : Rd ((w1.alloc O1).alloc O2).drew (some ⟨w1.heap.size + 1, 0, none⟩) [.string ⟨(pad bs).toArray⟩] := by
      rw [hO2]
      exact (Rd.lit_at (w1.alloc O1) #[.string ⟨(pad bs).toArray⟩] 9 (by rw [World.size_alloc])).drew
    rw [hO2] at hrow2 hlit
    have hm1 : S[i].length + 1 ≤ maxLen := by unfold maxLen; omega
    have hm2 : (S[i].length + 1) * 16 ≤ 140737488355328 := by omega
    have hii : (i : Int) < (S.length : Int) := by omega
    rw [hO2] at q2
    go_wp2_with fail
    refine wp_region_held_drew (S := fun w' => w'.cell? ⟨g, 0, none⟩ = some (.slice (some ⟨b, o, none⟩) S.length c0) ∧ Rd w' A (bs.map bv)) (by kernel_rfl) ?_ (fun hHeld => ?_)
    · exact hSK.out _ (fun k _ _ _ => rfl)
    refine wpAnyH_take (i := 0) (v := ?_) (take_list rfl) (by kernel_rfl) (by kernel_rfl) (by kernel_rfl) (fun _ _ _ h => h) (Or.inl ⟨by rfl, ?_⟩) (by assumption) ?_
    rotate_left
    · intro w hSw
      try dsimp only at hSw
      first | (go_simp; done) | (go_simp; with_reducible rfl)
    try simp only [Act.put, List.setIfInBounds_toArray, List.set_cons_zero, List.set_cons_succ]
    refine wpAnyH_take (i := 1) (v := ?_) (take_list rfl) (by kernel_rfl) (by kernel_rfl) (by kernel_rfl) (fun _ _ _ h => h) (Or.inl ⟨by rfl, ?_⟩) (by assumption) ?_
    rotate_left
    · intro w hSw
      try dsimp only at hSw
      first | (go_simp; done) | (go_simp; with_reducible rfl)
    try simp only [Act.put, List.setIfInBounds_toArray, List.set_cons_zero, List.set_cons_succ]
    refine wpAnyH_take (i := 2) (v := ?_) (take_list rfl) (by kernel_rfl) (by kernel_rfl) (by kernel_rfl) (fun _ _ _ h => h) (Or.inl ⟨by rfl, ?_⟩) (by assumption) ?_
    rotate_left
    · intro w hSw
      try dsimp only at hSw
      first | (go_simp; done) | (go_simp; with_reducible rfl)
    try simp only [Act.put, List.setIfInBounds_toArray, List.set_cons_zero, List.set_cons_succ]
    refine wpAnyH_take (i := 3) (v := ?_) (take_list rfl) (by kernel_rfl) (by kernel_rfl) (by kernel_rfl) (fun _ _ _ h => h) (Or.inl ⟨by rfl, ?_⟩) (by assumption) ?_
    rotate_left
    · intro w hSw
      try dsimp only at hSw
      first | (go_simp; done) | (go_simp; with_reducible rfl)
    try simp only [Act.put, List.setIfInBounds_toArray, List.set_cons_zero, List.set_cons_succ]
    refine wpAnyH_take (i := 4) (v := ?_) (take_list rfl) (by kernel_rfl) (by kernel_rfl) (by kernel_rfl) (fun _ _ _ h => h) (Or.inl ⟨by rfl, ?_⟩) (by assumption) ?_
    rotate_left
    · intro w hSw
      try dsimp only at hSw
      first | (go_simp; done) | (go_simp; with_reducible rfl)
    try simp only [Act.put, List.setIfInBounds_toArray, List.set_cons_zero, List.set_cons_succ]
    refine wpAnyH_take (i := 5) (v := ?_) (take_list rfl) (by kernel_rfl) (by kernel_rfl) (by kernel_rfl) (fun _ _ _ h => h) (Or.inl ⟨by rfl, ?_⟩) (by assumption) ?_
    rotate_left
    · intro w hSw
      try dsimp only at hSw
      first | (go_simp; done) | (go_simp; with_reducible rfl)
    try simp only [Act.put, List.setIfInBounds_toArray, List.set_cons_zero, List.set_cons_succ]
    refine wpAnyH_take (i := 6) (v := ?_) (take_list rfl) (by kernel_rfl) (by kernel_rfl) (by kernel_rfl) (fun _ _ _ h => h) (Or.inl ⟨by rfl, ?_⟩) (by assumption) ?_
    rotate_left
    · intro w hSw
      try dsimp only at hSw
      first | (go_simp; done) | (go_simp; with_reducible rfl)
    try simp only [Act.put, List.setIfInBounds_toArray, List.set_cons_zero, List.set_cons_succ]
    refine wpAnyH_take (i := 7) (v := ?_) (take_list rfl) (by kernel_rfl) (by kernel_rfl) (by kernel_rfl) (fun _ _ _ h => h) (Or.inl ⟨by rfl, ?_⟩) (by assumption) ?_
    rotate_left
    · intro w hSw
      try dsimp only at hSw
      first | (go_simp; done) | (go_simp; with_reducible rfl)
    try simp only [Act.put, List.setIfInBounds_toArray, List.set_cons_zero, List.set_cons_succ]
    refine wpAnyH_take (i := 8) (v := ?_) (take_list rfl) (by kernel_rfl) (by kernel_rfl) (by kernel_rfl) (fun _ _ _ h => h) (Or.inl ⟨by rfl, ?_⟩) (by assumption) ?_
    rotate_left
    · intro w hSw
      try dsimp only at hSw
      first | (go_simp; done) | (go_simp; with_reducible rfl)
    try simp only [Act.put, List.setIfInBounds_toArray, List.set_cons_zero, List.set_cons_succ]
    refine wpAnyH_take (i := 9) (v := ?_) (take_list rfl) (by kernel_rfl) (by kernel_rfl) (by kernel_rfl) (fun _ _ _ h => h) (Or.inl ⟨by rfl, ?_⟩) (by assumption) ?_
    rotate_left
    · intro w hSw
      try dsimp only at hSw
      first | (go_simp; done) | (go_simp; with_reducible rfl)
    try simp only [Act.put, List.setIfInBounds_toArray, List.set_cons_zero, List.set_cons_succ]
    refine wpAnyH_take (i := 10) (v := ?_) (take_list rfl) (by kernel_rfl) (by kernel_rfl) (by kernel_rfl) (fun _ _ _ h => h) (Or.inl ⟨by rfl, ?_⟩) (by assumption) ?_
    rotate_left
    · intro w hSw
      try dsimp only at hSw
      first | (go_simp; done) | (go_simp; with_reducible rfl)
    try simp only [Act.put, List.setIfInBounds_toArray, List.set_cons_zero, List.set_cons_succ]
    refine wpAnyH_take (i := 12) (v := ?_) (take_list rfl) (by kernel_rfl) (by kernel_rfl) (by kernel_rfl) (fun _ _ _ h => h) (Or.inl ⟨by rfl, ?_⟩) (by assumption) ?_
    rotate_left
    · intro w hSw
      try dsimp only at hSw
      first | (go_simp; done) | (go_simp; with_reducible rfl)
    try simp only [Act.put, List.setIfInBounds_toArray, List.set_cons_zero, List.set_cons_succ]
    refine wpAnyH_take (i := 13) (v := ?_) (take_list rfl) (by kernel_rfl) (by kernel_rfl) (by kernel_rfl) (fun _ _ _ h => h) (Or.inl ⟨by rfl, ?_⟩) (by assumption) ?_
    rotate_left
    · intro w hSw
      try dsimp only at hSw
      have hcv9 := hcvb w hSw.2
      first | (go_simp; done) | (go_simp; with_reducible rfl)
    try simp only [Act.put, List.setIfInBounds_toArray, List.set_cons_zero, List.set_cons_succ]
    refine wpAnyH_take (i := 14) (v := ?_) (take_list rfl) (by kernel_rfl) (by kernel_rfl) (by kernel_rfl) (fun _ _ _ h => h) (Or.inl ⟨by rfl, ?_⟩) (by assumption) ?_
    rotate_left
    · intro w hSw
      try dsimp only at hSw
      first | (go_simp; done) | (go_simp; with_reducible rfl)
    try simp only [Act.put, List.setIfInBounds_toArray, List.set_cons_zero, List.set_cons_succ]
    refine wpAnyH_take (i := 15) (v := ?_) (take_list rfl) (by kernel_rfl) (by kernel_rfl) (by kernel_rfl) (fun _ _ _ h => h) (Or.inl ⟨by rfl, ?_⟩) (by assumption) ?_
    rotate_left
    · intro w hSw
      try dsimp only at hSw
      first | (go_simp; done) | (go_simp; with_reducible rfl)
    try simp only [Act.put, List.setIfInBounds_toArray, List.set_cons_zero, List.set_cons_succ]
    refine wpAnyH_take (i := 16) (v := ?_) (take_list rfl) (by kernel_rfl) (by kernel_rfl) (by kernel_rfl) (fun _ _ _ h => h) (Or.inl ⟨by rfl, ?_⟩) (by assumption) ?_
    rotate_left
    · intro w hSw
      try dsimp only at hSw
      first | (go_simp; done) | (go_simp; with_reducible rfl)
    try simp only [Act.put, List.setIfInBounds_toArray, List.set_cons_zero, List.set_cons_succ]
    refine wpAnyH_ready (rs := [11, 17]) (by kernel_rfl) (by simp) ?_
    refine AllReadyH.cons (take_list rfl) (fun K hK => ?_) ?_
    · skip
      go_simp
      refine hK.out _ _ ?_ (fun hHeld => ?_)
      · try dsimp only
        exact hSK.out _ (fun k _ _ _ => rfl)
      clear hK K
      refine wpAnyH_ready (rs := [17]) (by kernel_rfl) (by simp) ?_
      refine AllReadyH.cons (take_list rfl) (fun K hK => ?_) ?_
      · skip
        go_simp
        refine hK.out _ _ ?_ (fun hHeld => ?_)
        · try dsimp only
          exact hSK.out _ (fun k h1 _ _ => q1.out k h1)
        clear hK K
        refine wpAnyH_ready (rs := [18]) (by kernel_rfl) (by simp) ?_
        refine AllReadyH.cons (take_list rfl) (fun K hK => ?_) ?_
        · skip
          go_simp
          refine hK.out _ _ ?_ (fun hHeld => ?_)
          · try dsimp only
            exact hSK.out _ (fun k h1 _ _ => q1.out k h1)
          clear hK K
          refine wpAnyH_take (i := 19) (v := ?_) (take_list rfl) (by kernel_rfl) (by kernel_rfl) (by kernel_rfl) (fun _ _ _ h => h) (Or.inl ⟨by rfl, ?_⟩) (by assumption) ?_
          rotate_left
          · intro w hSw
            try dsimp only at hSw
            first | (go_simp; done) | (go_simp; with_reducible rfl)
          try simp only [Act.put, List.setIfInBounds_toArray, List.set_cons_zero, List.set_cons_succ]
          refine wpAnyH_ready (rs := [20]) (by kernel_rfl) (by simp) ?_
          refine AllReadyH.cons (take_list rfl) (fun K hK => ?_) ?_
          · skip
            go_simp
            refine hK.out _ _ ?_ (fun hHeld => ?_)
            · try dsimp only
              exact hSK.out _ (fun k h1 _ _ => q2.out k h1)
            clear hK K
            refine wpAnyH_ready (rs := [21]) (by kernel_rfl) (by simp) ?_
            refine AllReadyH.cons (take_list rfl) (fun K hK => ?_) ?_
            · skip
              refine step_appO _ rfl (.tmp 51) (.tmp 60) _ rfl _ _ 1 16 Tryd.underlying108 info_str rfl (B i) _ (C i) _ rfl hrow2 (some ⟨w1.heap.size + 1, 0, none⟩) 1 1 [.string ⟨(pad bs).toArray⟩] rfl rfl hlit ?_ ?_ hm1 hm2 ?_
              · simp; rfl
              · intro h; cases h
              intro A4 c4 w4 hrow4 ho4 hA4
              have hs4 : w1.heap.size + 2 = ((w1.alloc O1).alloc (Obj.cells #[.string ⟨(pad bs).toArray⟩] 9)).drew.heap.size := by
                show _ = ((w1.alloc O1).alloc _).heap.size
                rw [World.size_alloc, World.size_alloc]
              have q4 : ∀ k, k < w1.heap.size → ¬ inA (B i) k → w4.heap[k]? = w1.heap[k]? := fun k h1 h2 => (ho4.block k (by omega) h2).trans (q2.out k h1)
              have p4 : w4.cell? ⟨b, o + i, none⟩ = some (.slice (B i) S[i].length (C i)) := (World.cell?_of_block (a := ⟨b, o + i, none⟩) (q4 b hlb hnB)).trans hck
              have p5 : w4.frozen? ⟨b, o + i, none⟩ = false := (World.frozen?_of_block (a := ⟨b, o + i, none⟩) (q4 b hlb hnB)).trans hfr
              refine hK.out _ _ ?_ (fun hHeld => ?_)
              · try dsimp only
                exact hSK.out _ (fun k h1 h2 _ => q4 k h1 h2)
              clear hK K
              refine wpAnyH_take (i := 22) (v := ?_) (take_list rfl) (by kernel_rfl) (by kernel_rfl) (by kernel_rfl) (fun _ _ _ h => h) (Or.inl ⟨by rfl, ?_⟩) (by assumption) ?_
              rotate_left
              · intro w hSw
                try dsimp only at hSw
                first | (go_simp; done) | (go_simp; with_reducible rfl)
              try simp only [Act.put, List.setIfInBounds_toArray, List.set_cons_zero, List.set_cons_succ]
              refine wpAnyH_ready (rs := [23]) (by kernel_rfl) (by simp) ?_
              refine AllReadyH.cons (take_list rfl) (fun K hK => ?_) ?_
              · skip
                go_simp
                refine hK.out _ _ ?_ (fun hHeld => ?_)
                · try dsimp only
                  exact hSK.out _ (fun k h1 h2 h3 => (Below.heap_setCell w4 ⟨b, o + i, none⟩ _ k h3).trans (q4 k h1 h2))
                clear hK K
                refine wpAnyH_done (by kernel_rfl) ?_ _
                go_wp2
                go_ret
                exact rwrite_fin hL1 ho1f hi (pad bs) hpad O1 _ A4 c4 hrow4 ho4 hA4
              exact AllReadyH.nil
            exact AllReadyH.nil
          exact AllReadyH.nil
        exact AllReadyH.nil
      exact AllReadyH.nil
    refine AllReadyH.cons (take_list rfl) (fun K hK => ?_) ?_
    · skip
      go_simp
      refine hK.out _ _ ?_ (fun hHeld => ?_)
      · try dsimp only
        exact hSK.out _ (fun k h1 _ _ => q1.out k h1)
      clear hK K
      refine wpAnyH_ready (rs := [11, 18]) (by kernel_rfl) (by simp) ?_
      refine AllReadyH.cons (take_list rfl) (fun K hK => ?_) ?_
      · skip
        go_simp
        refine hK.out _ _ ?_ (fun hHeld => ?_)
        · try dsimp only
          exact hSK.out _ (fun k h1 _ _ => q1.out k h1)
        clear hK K
        refine wpAnyH_ready (rs := [18]) (by kernel_rfl) (by simp) ?_
        refine AllReadyH.cons (take_list rfl) (fun K hK => ?_) ?_
        · skip
          go_simp
          refine hK.out _ _ ?_ (fun hHeld => ?_)
          · try dsimp only
            exact hSK.out _ (fun k h1 _ _ => q1.out k h1)
          clear hK K
          refine wpAnyH_take (i := 19) (v := ?_) (take_list rfl) (by kernel_rfl) (by kernel_rfl) (by kernel_rfl) (fun _ _ _ h => h) (Or.inl ⟨by rfl, ?_⟩) (by assumption) ?_
          rotate_left
          · intro w hSw
            try dsimp only at hSw
            first | (go_simp; done) | (go_simp; with_reducible rfl)
          try simp only [Act.put, List.setIfInBounds_toArray, List.set_cons_zero, List.set_cons_succ]
          refine wpAnyH_ready (rs := [20]) (by kernel_rfl) (by simp) ?_
          refine AllReadyH.cons (take_list rfl) (fun K hK => ?_) ?_
          · skip
            go_simp
            refine hK.out _ _ ?_ (fun hHeld => ?_)
            · try dsimp only
              exact hSK.out _ (fun k h1 _ _ => q2.out k h1)
            clear hK K
            refine wpAnyH_ready (rs := [21]) (by kernel_rfl) (by simp) ?_
            refine AllReadyH.cons (take_list rfl) (fun K hK => ?_) ?_
            · skip
              refine step_appO _ rfl (.tmp 51) (.tmp 60) _ rfl _ _ 1 16 Tryd.underlying108 info_str rfl (B i) _ (C i) _ rfl hrow2 (some ⟨w1.heap.size + 1, 0, none⟩) 1 1 [.string ⟨(pad bs).toArray⟩] rfl rfl hlit ?_ ?_ hm1 hm2 ?_
              · simp; rfl
              · intro h; cases h
              intro A4 c4 w4 hrow4 ho4 hA4
              have hs4 : w1.heap.size + 2 = ((w1.alloc O1).alloc (Obj.cells #[.string ⟨(pad bs).toArray⟩] 9)).drew.heap.size := by
                show _ = ((w1.alloc O1).alloc _).heap.size
                rw [World.size_alloc, World.size_alloc]
              have q4 : ∀ k, k < w1.heap.size → ¬ inA (B i) k → w4.heap[k]? = w1.heap[k]? := fun k h1 h2 => (ho4.block k (by omega) h2).trans (q2.out k h1)
              have p4 : w4.cell? ⟨b, o + i, none⟩ = some (.slice (B i) S[i].length (C i)) := (World.cell?_of_block (a := ⟨b, o + i, none⟩) (q4 b hlb hnB)).trans hck
              have p5 : w4.frozen? ⟨b, o + i, none⟩ = false := (World.frozen?_of_block (a := ⟨b, o + i, none⟩) (q4 b hlb hnB)).trans hfr
              refine hK.out _ _ ?_ (fun hHeld => ?_)
              · try dsimp only
                exact hSK.out _ (fun k h1 h2 _ => q4 k h1 h2)
              clear hK K
              refine wpAnyH_take (i := 22) (v := ?_) (take_list rfl) (by kernel_rfl) (by kernel_rfl) (by kernel_rfl) (fun _ _ _ h => h) (Or.inl ⟨by rfl, ?_⟩) (by assumption) ?_
              rotate_left
              · intro w hSw
                try dsimp only at hSw
                first | (go_simp; done) | (go_simp; with_reducible rfl)
              try simp only [Act.put, List.setIfInBounds_toArray, List.set_cons_zero, List.set_cons_succ]
              refine wpAnyH_ready (rs := [23]) (by kernel_rfl) (by simp) ?_
              refine AllReadyH.cons (take_list rfl) (fun K hK => ?_) ?_
              · skip
                go_simp
                refine hK.out _ _ ?_ (fun hHeld => ?_)
                · try dsimp only
                  exact hSK.out _ (fun k h1 h2 h3 => (Below.heap_setCell w4 ⟨b, o + i, none⟩ _ k h3).trans (q4 k h1 h2))
                clear hK K
                refine wpAnyH_done (by kernel_rfl) ?_ _
                go_wp2
                go_ret
                exact rwrite_fin hL1 ho1f hi (pad bs) hpad O1 _ A4 c4 hrow4 ho4 hA4
              exact AllReadyH.nil
            exact AllReadyH.nil
          exact AllReadyH.nil
        exact AllReadyH.nil
      refine AllReadyH.cons (take_list rfl) (fun K hK => ?_) ?_
      · skip
        go_simp
        refine hK.out _ _ ?_ (fun hHeld => ?_)
        · try dsimp only
          exact hSK.out _ (fun k h1 _ _ => q1.out k h1)
        clear hK K
        refine wpAnyH_take (i := 19) (v := ?_) (take_list rfl) (by kernel_rfl) (by kernel_rfl) (by kernel_rfl) (fun _ _ _ h => h) (Or.inl ⟨by rfl, ?_⟩) (by assumption) ?_
        rotate_left
        · intro w hSw
          try dsimp only at hSw
          first | (go_simp; done) | (go_simp; with_reducible rfl)
        try simp only [Act.put, List.setIfInBounds_toArray, List.set_cons_zero, List.set_cons_succ]
        refine wpAnyH_ready (rs := [11, 20]) (by kernel_rfl) (by simp) ?_
        refine AllReadyH.cons (take_list rfl) (fun K hK => ?_) ?_
        · skip
          go_simp
          refine hK.out _ _ ?_ (fun hHeld => ?_)
          · try dsimp only
            exact hSK.out _ (fun k h1 _ _ => q1.out k h1)
          clear hK K
          refine wpAnyH_ready (rs := [20]) (by kernel_rfl) (by simp) ?_
          refine AllReadyH.cons (take_list rfl) (fun K hK => ?_) ?_
          · skip
            go_simp
            refine hK.out _ _ ?_ (fun hHeld => ?_)
            · try dsimp only
              exact hSK.out _ (fun k h1 _ _ => q2.out k h1)
            clear hK K
            refine wpAnyH_ready (rs := [21]) (by kernel_rfl) (by simp) ?_
            refine AllReadyH.cons (take_list rfl) (fun K hK => ?_) ?_
            · skip
              refine step_appO _ rfl (.tmp 51) (.tmp 60) _ rfl _ _ 1 16 Tryd.underlying108 info_str rfl (B i) _ (C i) _ rfl hrow2 (some ⟨w1.heap.size + 1, 0, none⟩) 1 1 [.string ⟨(pad bs).toArray⟩] rfl rfl hlit ?_ ?_ hm1 hm2 ?_
              · simp; rfl
              · intro h; cases h
              intro A4 c4 w4 hrow4 ho4 hA4
              have hs4 : w1.heap.size + 2 = ((w1.alloc O1).alloc (Obj.cells #[.string ⟨(pad bs).toArray⟩] 9)).drew.heap.size := by
                show _ = ((w1.alloc O1).alloc _).heap.size
                rw [World.size_alloc, World.size_alloc]
              have q4 : ∀ k, k < w1.heap.size → ¬ inA (B i) k → w4.heap[k]? = w1.heap[k]? := fun k h1 h2 => (ho4.block k (by omega) h2).trans (q2.out k h1)
              have p4 : w4.cell? ⟨b, o + i, none⟩ = some (.slice (B i) S[i].length (C i)) := (World.cell?_of_block (a := ⟨b, o + i, none⟩) (q4 b hlb hnB)).trans hck
              have p5 : w4.frozen? ⟨b, o + i, none⟩ = false := (World.frozen?_of_block (a := ⟨b, o + i, none⟩) (q4 b hlb hnB)).trans hfr
              refine hK.out _ _ ?_ (fun hHeld => ?_)
              · try dsimp only
                exact hSK.out _ (fun k h1 h2 _ => q4 k h1 h2)
              clear hK K
              refine wpAnyH_take (i := 22) (v := ?_) (take_list rfl) (by kernel_rfl) (by kernel_rfl) (by kernel_rfl) (fun _ _ _ h => h) (Or.inl ⟨by rfl, ?_⟩) (by assumption) ?_
              rotate_left
              · intro w hSw
                try dsimp only at hSw
                first | (go_simp; done) | (go_simp; with_reducible rfl)
              try simp only [Act.put, List.setIfInBounds_toArray, List.set_cons_zero, List.set_cons_succ]
              refine wpAnyH_ready (rs := [23]) (by kernel_rfl) (by simp) ?_
              refine AllReadyH.cons (take_list rfl) (fun K hK => ?_) ?_
              · skip
                go_simp
                refine hK.out _ _ ?_ (fun hHeld => ?_)
                · try dsimp only
                  exact hSK.out _ (fun k h1 h2 h3 => (Below.heap_setCell w4 ⟨b, o + i, none⟩ _ k h3).trans (q4 k h1 h2))
                clear hK K
                refine wpAnyH_done (by kernel_rfl) ?_ _
                go_wp2
                go_ret
                exact rwrite_fin hL1 ho1f hi (pad bs) hpad O1 _ A4 c4 hrow4 ho4 hA4
              exact AllReadyH.nil
            exact AllReadyH.nil
          exact AllReadyH.nil
        refine AllReadyH.cons (take_list rfl) (fun K hK => ?_) ?_
        · skip
          go_simp
          refine hK.out _ _ ?_ (fun hHeld => ?_)
          · try dsimp only
            exact hSK.out _ (fun k h1 _ _ => q2.out k h1)
          clear hK K
          refine wpAnyH_ready (rs := [11]) (by kernel_rfl) (by simp) ?_
          refine AllReadyH.cons (take_list rfl) (fun K hK => ?_) ?_
          · skip
            go_simp
            refine hK.out _ _ ?_ (fun hHeld => ?_)
            · try dsimp only
              exact hSK.out _ (fun k h1 _ _ => q2.out k h1)
            clear hK K
            refine wpAnyH_ready (rs := [21]) (by kernel_rfl) (by simp) ?_
            refine AllReadyH.cons (take_list rfl) (fun K hK => ?_) ?_
            · skip
              refine step_appO _ rfl (.tmp 51) (.tmp 60) _ rfl _ _ 1 16 Tryd.underlying108 info_str rfl (B i) _ (C i) _ rfl hrow2 (some ⟨w1.heap.size + 1, 0, none⟩) 1 1 [.string ⟨(pad bs).toArray⟩] rfl rfl hlit ?_ ?_ hm1 hm2 ?_
              · simp; rfl
              · intro h; cases h
              intro A4 c4 w4 hrow4 ho4 hA4
              have hs4 : w1.heap.size + 2 = ((w1.alloc O1).alloc (Obj.cells #[.string ⟨(pad bs).toArray⟩] 9)).drew.heap.size := by
                show _ = ((w1.alloc O1).alloc _).heap.size
                rw [World.size_alloc, World.size_alloc]
              have q4 : ∀ k, k < w1.heap.size → ¬ inA (B i) k → w4.heap[k]? = w1.heap[k]? := fun k h1 h2 => (ho4.block k (by omega) h2).trans (q2.out k h1)
              have p4 : w4.cell? ⟨b, o + i, none⟩ = some (.slice (B i) S[i].length (C i)) := (World.cell?_of_block (a := ⟨b, o + i, none⟩) (q4 b hlb hnB)).trans hck
              have p5 : w4.frozen? ⟨b, o + i, none⟩ = false := (World.frozen?_of_block (a := ⟨b, o + i, none⟩) (q4 b hlb hnB)).trans hfr
              refine hK.out _ _ ?_ (fun hHeld => ?_)
              · try dsimp only
                exact hSK.out _ (fun k h1 h2 _ => q4 k h1 h2)
              clear hK K
              refine wpAnyH_take (i := 22) (v := ?_) (take_list rfl) (by kernel_rfl) (by kernel_rfl) (by kernel_rfl) (fun _ _ _ h => h) (Or.inl ⟨by rfl, ?_⟩) (by assumption) ?_
              rotate_left
              · intro w hSw
                try dsimp only at hSw
                first | (go_simp; done) | (go_simp; with_reducible rfl)
              try simp only [Act.put, List.setIfInBounds_toArray, List.set_cons_zero, List.set_cons_succ]
              refine wpAnyH_ready (rs := [23]) (by kernel_rfl) (by simp) ?_
              refine AllReadyH.cons (take_list rfl) (fun K hK => ?_) ?_
              · skip
                go_simp
                refine hK.out _ _ ?_ (fun hHeld => ?_)
                · try dsimp only
                  exact hSK.out _ (fun k h1 h2 h3 => (Below.heap_setCell w4 ⟨b, o + i, none⟩ _ k h3).trans (q4 k h1 h2))
                clear hK K
                refine wpAnyH_done (by kernel_rfl) ?_ _
                go_wp2
                go_ret
                exact rwrite_fin hL1 ho1f hi (pad bs) hpad O1 _ A4 c4 hrow4 ho4 hA4
              exact AllReadyH.nil
            exact AllReadyH.nil
          exact AllReadyH.nil
        exact AllReadyH.nil
      exact AllReadyH.nil
    exact AllReadyH.nil
end Go.Proofs.YtlpjeopeboemmaaDoor

/-
  The contracts of the reference's New, and of Write, whatever comes in. No statement of the seat is proved here.
-/
namespace Go.Proofs.YtlpjeopeboemmaaDoor
open Go Go.RowKit

theorem rvals_snoc (S : Sec) (B : Nat → Option Addr) (C : Nat → Nat) (vs : List (List UInt8)) (A1 : Option Addr) (c1 : Nat) :
    rvals (S ++ [vs]) (fun j => if j = S.length then A1 else B j) (fun j => if j = S.length then c1 else C j) = rvals S B C ++ [.slice A1 vs.length c1] := by
  refine List.ext_getElem? fun j => ?_
  unfold rvals
  rw [List.getElem?_mapIdx, List.getElem?_append, List.getElem?_append, List.length_mapIdx, List.getElem?_mapIdx]
  by_cases h : j < S.length
  · have e : ¬ j = S.length := by omega
    rw [if_pos h, if_pos h]
    simp only [if_neg e]
  · rw [if_neg h, if_neg h]
    rcases Nat.lt_or_ge (j - S.length) 1 with h1 | h1
    · have e : j = S.length := by omega
      simp [e]
    · rw [List.getElem?_eq_none (by simpa using h1), List.getElem?_eq_none (by simpa using h1)]; rfl

theorem RLay.grow {w w1 w4 : World} {fp : Nat → Prop} {g : Nat} {S : Sec} {l : Int} {A : Option Addr} {c : Nat} {B : Nat → Option Addr} {C : Nat → Nat} (h : RLay w fp g S l A c B C) (hb : Below w.heap.size w w1) (v : List UInt8) (hv : v.length = 64) {gb : Nat} (hg1 : w.heap.size ≤ gb) (hg2 : gb < w1.heap.size)
    (hr0 : RowO w1 9 1 (some ⟨gb, 0, none⟩) 1 1 [strV v]) (ho : Only (inA A) w1 w4) {A' : Option Addr} {c' : Nat} (hr : RowO w4 108 1 A' (S.length + 1) c' (rvals S B C ++ [.slice (some ⟨gb, 0, none⟩) 1 1])) (hA : ∀ k, inA A' k → inA A k ∨ (w1.heap.size ≤ k ∧ k < w4.heap.size)) (hn : S.length + 1 ≤ 4096) :
    RLay (w4.setCell ⟨g, 0, none⟩ (.slice A' (S.length + 1) c')) (More fp w w4) g (S ++ [[v]]) l A' c' (fun j => if j = S.length then some ⟨gb, 0, none⟩ else B j) (fun j => if j = S.length then 1 else C j) := by
  have hfar := h.far
  have z1 := hb.size
  have z2 := ho.size
  have hltA : ∀ k, inA A k → k < w.heap.size := fun k hk => h.row.lt hk
  have hltB : ∀ j k, j < S.length → inA (B j) k → k < w.heap.size := fun j k hj hk => (h.cel j hj).lt hk
  have hdsk4 : Blk w4 g 74 #[.slice A S.length c, .int .i64 l] := (h.dsk.ext hb).only ho hfar.1
  have ho5 : Only (fun k => k = g) w4 (w4.setCell ⟨g, 0, none⟩ (.slice A' (S.length + 1) c')) := (Only.refl (fun k => k = g) w4).setCell (p := ⟨g, 0, none⟩) (.inl rfl) _
  have hg : g < w.heap.size := h.dsk.lt
  have hA'g : ¬ inA A' g := fun hk => by
    rcases hA g hk with h1 | h1
    · exact hfar.1 h1
    · omega
  have keepS : ∀ {A0 : Option Addr} {m c0 : Nat} {xs : List Value}, RowO w1 9 1 A0 m c0 xs → (∀ k, inA A0 k → k ≠ g ∧ ¬ inA A k) → RowO (w4.setCell ⟨g, 0, none⟩ (.slice A' (S.length + 1) c')) 9 1 A0 m c0 xs := fun hr0 hk => (hr0.only ho (fun k hk' => (hk k hk').2)).only ho5 (fun k hk' e => (hk k hk').1 e)
  have hlen : (S ++ [[v]]).length = S.length + 1 := by simp
  refine ⟨.inl h.fg, h.lo, h.hi, by rw [hlen]; exact hn, ?_, ?_, fun k hk => ?_, fun us hus => ?_, fun j hj => ?_, fun j k hj hk => ?_, fun j j' k hj hj' hk hk' => ?_⟩
  · rw [hlen]; exact hdsk4.put 0 _
  · rw [hlen, rvals_snoc]
    exact hr.only ho5 (fun k hk e => hA'g (e ▸ hk))
  · rcases hA k hk with h1 | h1
    · exact .inl (h.fA k h1)
    · exact .inr (by omega)
  · rcases List.mem_append.1 hus with hus | hus
    · exact h.wf us hus
    · simp at hus
      subst hus
      exact ⟨by simp, fun u hu => by simp at hu; subst hu; exact hv⟩
  · by_cases e : j = S.length
    · subst e
      have e2 : (S ++ [[v]])[S.length] = [v] := by simp
      simp only [e2, if_true]
      exact keepS hr0 (fun k hk => by
        rw [inA_some] at hk
        subst hk
        exact ⟨by omega, fun h1 => by have := hltA _ h1; omega⟩)
    · have hj1 : j < S.length := by rw [hlen] at hj; omega
      have e2 : (S ++ [[v]])[j] = S[j] := List.getElem_append_left hj1
      simp only [e2, if_neg e]
      exact keepS ((h.cel j hj1).ext hb) (fun k hk => hfar.2 j k hj1 hk)
  · by_cases e : j = S.length
    · simp only [if_pos e] at hk
      rw [inA_some] at hk
      exact .inr (by omega)
    · simp only [if_neg e] at hk
      exact .inl (h.fB j k (by rw [hlen] at hj; omega) hk)
  · by_cases e : j = S.length
    · by_cases e' : j' = S.length
      · omega
      · simp only [if_pos e] at hk; simp only [if_neg e'] at hk'
        rw [inA_some] at hk
        have := hltB j' k (by rw [hlen] at hj'; omega) hk'
        omega
    · by_cases e' : j' = S.length
      · simp only [if_neg e] at hk; simp only [if_pos e'] at hk'
        rw [inA_some] at hk'
        have := hltB j k (by rw [hlen] at hj; omega) hk
        omega
      · simp only [if_neg e] at hk; simp only [if_neg e'] at hk'
        exact h.apart j j' k (by rw [hlen] at hj; omega) (by rw [hlen] at hj'; omega) hk hk'

theorem info_row : (Tryd.prog.info? 108).map (fun i => (i.zero, i.size, i.bytes)) = some (some (.slice none 0 0), 1, 24) := by kernel_rfl
theorem zeroS_succ (k : Nat) : zeroS (k + 1) = zeroS k ++ [[zerosV]] := by unfold zeroS; rw [List.replicate_succ']

/-- what a round of New leaves behind -/
theorem rnew_fin {W wr w4 : World} {g k : Nat} {A : Option Addr} {c : Nat} {B : Nat → Option Addr} {C : Nat → Nat} (h : RLay wr (Born W wr) g (zeroS k) (-1) A c B C) (hb : Below W.heap.size W wr) (hk : k + 1 ≤ 4096) (O1 O2 O3 : Obj) (Z : ByteArray) (hZ : Z = ⟨zerosV.toArray⟩) (hO2 : O2 = Obj.cells #[.string Z] 9)
    (A' : Option Addr) (c' : Nat) (hr : RowO w4 108 1 A' (k + 1) c' (rvals (zeroS k) B C ++ [.slice (some ⟨wr.heap.size + 1, 0, none⟩) 1 1])) (ho : Only (inA A) (((wr.alloc O1).alloc O2).alloc O3).drew w4) (hA : ∀ k', inA A' k' → inA A k' ∨ ((((wr.alloc O1).alloc O2).alloc O3).drew.heap.size ≤ k' ∧ k' < w4.heap.size)) :
    (∃ A'' c'' B' C', RLay (w4.setCell ⟨g, 0, none⟩ (.slice A' (k + 1) c')) (Born W (w4.setCell ⟨g, 0, none⟩ (.slice A' (k + 1) c'))) g (zeroS (k + 1)) (-1) A'' c'' B' C') ∧ Below W.heap.size W (w4.setCell ⟨g, 0, none⟩ (.slice A' (k + 1) c')) := by
  have hl : (zeroS k).length = k := by simp [zeroS]
  have hs : (((wr.alloc O1).alloc O2).alloc O3).drew.heap.size = wr.heap.size + 3 := by
    show (((wr.alloc O1).alloc O2).alloc _).heap.size = _
    rw [World.size_alloc, World.size_alloc, World.size_alloc]
  have hb1 : Below wr.heap.size wr (((wr.alloc O1).alloc O2).alloc O3).drew := Below.drew' ((((Below.refl _ wr).alloc (Nat.le_refl _) O1).alloc (by rw [World.size_alloc]; omega) O2).alloc (by rw [World.size_alloc, World.size_alloc]; omega) O3)
  have hr0 : RowO (((wr.alloc O1).alloc O2).alloc O3).drew 9 1 (some ⟨wr.heap.size + 1, 0, none⟩) 1 1 [strV zerosV] := by
    have h1 := RowO.lit (wr.alloc O1) 9 1 1 #[.string Z] rfl (by unfold maxLen; omega) (g := wr.heap.size + 1) (by rw [World.size_alloc])
    rw [← hO2, hZ] at h1
    exact (h1.alloc O3).drew
  have hg := h.grow hb1 zerosV rfl (gb := wr.heap.size + 1) (by omega) (by omega) hr0 ho (by rw [hl]; exact hr) hA (by rw [hl]; exact hk)
  rw [hl, ← zeroS_succ] at hg
  have z1 := hb.size
  have z2 := ho.size
  have zw : (w4.setCell ⟨g, 0, none⟩ (.slice A' (k + 1) c')).heap.size = w4.heap.size := by simp [World.setCell]
  have hgB := h.fg
  refine ⟨⟨_, _, _, _, hg.mono (fun k' hk' _ => ?_)⟩, ?_⟩
  · rcases hk' with hk' | hk'
    · exact ⟨hk'.1, by have := hk'.2; rw [zw]; omega⟩
    · exact ⟨by omega, by rw [zw]; omega⟩
  · have e1 : Below W.heap.size W w4 := (hb.trans (hb1.mono z1)).trans (ho.below (fun i hi => (h.fA i hi).1) (by omega))
    exact ⟨e1.os, e1.tape, e1.output, by rw [zw]; exact e1.size, fun i hi => (Below.heap_setCell w4 ⟨g, 0, none⟩ _ i (by have := hgB.1; show i ≠ g; omega)).trans (e1.block i hi)⟩

set_option maxRecDepth 100000 in
set_option maxHeartbeats 4000000 in
theorem rnew_ok (n : Nat) (W w : World) (hb0 : Below W.heap.size W w) (h1 : 1 ≤ n) (h2 : n ≤ 4096) :
    Calls Tryd.prog 26 #[.int .i64 (n : Int)] w fun e w' => ∃ g, e = .returned (.tuple #[.pointer (some ⟨g, 0, none⟩), .int .i64 0]) ∧ Below W.heap.size W w' ∧ Ref w' (Born W w') g (zeroS n) (-1) ∧ w.heap.size ≤ g := by
  have hstart : RLay (w.alloc (.cells #[.slice none 0 0, .int .i64 (-1)] 74)) (Born W (w.alloc (.cells #[.slice none 0 0, .int .i64 (-1)] 74))) w.heap.size (zeroS 0) (-1) none 0 (fun _ => none) (fun _ => 0) := by
    have := hb0.size
    refine ⟨⟨by omega, by rw [World.size_alloc]; omega⟩, by omega, by omega, by simp [zeroS], Blk.new _ _ _, RowO.none_ _ _ _, fun k hk => absurd hk (inA_none k), fun vs hv => ?_, fun i hi => ?_, fun i k hi => ?_, fun i j k hi => ?_⟩
    · simp [zeroS] at hv
    · simp [zeroS] at hi
    · simp [zeroS] at hi
    · simp [zeroS] at hi
  have hbs : Below W.heap.size W (w.alloc (.cells #[.slice none 0 0, .int .i64 (-1)] 74)) := hb0.alloc hb0.size _
  have hd1 : decide ((n : Int) < 1) = false := decide_eq_false (by omega)
  have hd2 : decide ((4096 : Int) < (n : Int)) = false := decide_eq_false (by omega)
  obtain ⟨Z, hZ⟩ : ∃ Z, Z = (⟨zerosV.toArray⟩ : ByteArray) := ⟨_, rfl⟩
  obtain ⟨O1, hO1⟩ : ∃ O1, O1 = Obj.cells (madeCells #[.int .u8 0] 64) 5 := ⟨_, rfl⟩
  have hmk : ∀ W : World, (Instr.makeSlice 22 (.int .i64 64) (.int .i64 64)).run Tryd.prog W = .ok (.slice (some ⟨W.heap.size, 0, none⟩) 64 64) (W.alloc O1) := fun W => by rw [hO1]; exact make_zeros W 64 (by omega)
  have hzs : ∀ W : World, (convert 22 9 (.slice (some ⟨W.heap.size, 0, none⟩) 64 64)).run Tryd.prog (W.alloc O1).drew = .ok (.string Z) (W.alloc O1).drew := fun W => by rw [hO1, hZ]; exact zeros_str W 64
  replace hO1 := Lib.hid hO1
  replace hZ := Lib.hid hZ
  go_enter Tryd.func26, Tryd.ntmps26
  go_wp2
  go_loopw [5] (fun i wr => ∃ (k : Nat) (A : Option Addr) (c : Nat) (B : Nat → Option Addr) (C : Nat → Nat), k ≤ n ∧ i = .int .i64 (k : Int) ∧ RLay wr (Born W wr) w.heap.size (zeroS k) (-1) A c B C ∧ Below W.heap.size W wr) (fun i _ => n - (intOf i).toNat)
  case atStart => exact ⟨0, none, 0, _, _, Nat.zero_le _, rfl, hstart, hbs⟩
  case round =>
    obtain ⟨k, A, c, B, C, hk, rfl, hL, hb⟩ := hrel
    clear hstart hbs
    by_cases hlt : k < n
    · have hki : (k : Int) < (n : Int) := by omega
      have hl : (zeroS k).length = k := by simp [zeroS]
      have hdsk := hL.dsk
      have hrowL := hL.row
      rw [hl] at hdsk hrowL
      have hdsk1 : wr.cell? ⟨w.heap.size, 0, none⟩ = some (.slice A k c) := hdsk.cell 0
      have hfr : wr.frozen? ⟨w.heap.size, 0, none⟩ = false := hdsk.free 0
      have hlg : w.heap.size < wr.heap.size := hdsk.lt
      obtain ⟨O2, hO2⟩ : ∃ O2, O2 = Obj.cells #[.string Z] 9 := ⟨_, rfl⟩
      obtain ⟨O3, hO3⟩ : ∃ O3, O3 = Obj.cells #[.slice (some ⟨wr.heap.size + 1, 0, none⟩) 1 1] 108 := ⟨_, rfl⟩
      have q3 : ∀ k, k < wr.heap.size → (((wr.alloc O1).alloc O2).alloc O3).heap[k]? = wr.heap[k]? := fun k hk => (Below.heap_alloc _ _ k (by rw [World.size_alloc, World.size_alloc]; omega)).trans ((Below.heap_alloc _ _ k (by rw [World.size_alloc]; omega)).trans (Below.heap_alloc wr _ k hk))
      have e1 : (wr.alloc O1).cell? ⟨w.heap.size, 0, none⟩ = some (.slice A k c) := ((hdsk.alloc O1).cell 0)
      have e2 : ((wr.alloc O1).alloc O2).cell? ⟨w.heap.size, 0, none⟩ = some (.slice A k c) := (((hdsk.alloc O1).alloc O2).cell 0)
      have e3 : (((wr.alloc O1).alloc O2).alloc O3).cell? ⟨w.heap.size, 0, none⟩ = some (.slice A k c) := ((((hdsk.alloc O1).alloc O2).alloc O3).cell 0)
      have hrow3 : RowO (((wr.alloc O1).alloc O2).alloc O3).drew 108 1 A k c (rvals (zeroS k) B C) := (((hrowL.alloc _).alloc _).alloc _).drew
      have hlit : Rd (((wr.alloc O1).alloc O2).alloc O3).drew (some ⟨wr.heap.size + 2, 0, none⟩) [.slice (some ⟨wr.heap.size + 1, 0, none⟩) 1 1] := by
        rw [hO3]
        exact (Rd.lit_at ((wr.alloc O1).alloc O2) #[.slice (some ⟨wr.heap.size + 1, 0, none⟩) 1 1] 108 (by rw [World.size_alloc, World.size_alloc])).drew
      have hgA : ¬ inA A w.heap.size := hL.far.1
      have fin : ∀ (A' : Option Addr) (c' : Nat) (w4 : World), RowO w4 108 1 A' (k + 1) c' (rvals (zeroS k) B C ++ [.slice (some ⟨wr.heap.size + 1, 0, none⟩) 1 1]) → Only (inA A) (((wr.alloc O1).alloc O2).alloc O3).drew w4 → (∀ k', inA A' k' → inA A k' ∨ ((((wr.alloc O1).alloc O2).alloc O3).drew.heap.size ≤ k' ∧ k' < w4.heap.size)) → ∃ (k' : Nat) (A : Option Addr) (c : Nat) (B : Nat → Option Addr) (C : Nat → Nat), k' ≤ n ∧ Value.int .i64 ((k : Int) + 1) = .int .i64 (k' : Int) ∧ RLay (w4.setCell ⟨w.heap.size, 0, none⟩ (.slice A' (k + 1) c')) (Born W (w4.setCell ⟨w.heap.size, 0, none⟩ (.slice A' (k + 1) c'))) w.heap.size (zeroS k') (-1) A c B C ∧ Below W.heap.size W (w4.setCell ⟨w.heap.size, 0, none⟩ (.slice A' (k + 1) c')) := fun A' c' w4 a1 a2 a3 => by
        obtain ⟨⟨A2, c2, B2, C2, hh⟩, hbb⟩ := rnew_fin hL hb (by omega) O1 O2 O3 Z hZ.out hO2 A' c' a1 a2 a3
        exact ⟨k + 1, A2, c2, B2, C2, by omega, by go_num, hh, hbb⟩
      have q4 : ∀ w4 : World, Only (inA A) (((wr.alloc O1).alloc O2).alloc O3).drew w4 → w4.heap[w.heap.size]? = wr.heap[w.heap.size]? := fun w4 ho => (ho.block w.heap.size (by show w.heap.size < (((wr.alloc O1).alloc O2).alloc O3).heap.size; rw [World.size_alloc, World.size_alloc, World.size_alloc]; omega) hgA).trans (q3 w.heap.size hlg)
      rw [hO2] at e2 e3 hrow3 hlit fin q4
      rw [hO3] at e3 hrow3 hlit fin q4
      replace fin := Lib.hid fin
      replace q4 := Lib.hid q4
      clear q3 hO2 hO3
      have hm1 : k + 1 ≤ maxLen := by unfold maxLen; omega
      have hm2 : (k + 1) * 24 ≤ 140737488355328 := by omega
      go_wp2_with fail
      refine wp_region_held_drew (S := fun _ => True) (by kernel_rfl) ?_ (fun hHeld => ?_)
      · all_goals exact True.intro
      refine wpAnyH_take (i := 0) (v := ?_) (take_list rfl) (by kernel_rfl) (by kernel_rfl) (by kernel_rfl) (fun _ _ _ h => h) (Or.inl ⟨by rfl, ?_⟩) (by assumption) ?_
      rotate_left
      · intro w hSw
        try dsimp only at hSw
        first | (go_simp; done) | (go_simp; with_reducible rfl)
      try simp only [Act.put, List.setIfInBounds_toArray, List.set_cons_zero, List.set_cons_succ]
      refine wpAnyH_take (i := 1) (v := ?_) (take_list rfl) (by kernel_rfl) (by kernel_rfl) (by kernel_rfl) (fun _ _ _ h => h) (Or.inl ⟨by rfl, ?_⟩) (by assumption) ?_
      rotate_left
      · intro w hSw
        try dsimp only at hSw
        first | (go_simp; done) | (go_simp; with_reducible rfl)
      try simp only [Act.put, List.setIfInBounds_toArray, List.set_cons_zero, List.set_cons_succ]
      refine wpAnyH_take (i := 2) (v := ?_) (take_list rfl) (by kernel_rfl) (by kernel_rfl) (by kernel_rfl) (fun _ _ _ h => h) (Or.inl ⟨by rfl, ?_⟩) (by assumption) ?_
      rotate_left
      · intro w hSw
        try dsimp only at hSw
        first | (go_simp; done) | (go_simp; with_reducible rfl)
      try simp only [Act.put, List.setIfInBounds_toArray, List.set_cons_zero, List.set_cons_succ]
      refine wpAnyH_take (i := 3) (v := ?_) (take_list rfl) (by kernel_rfl) (by kernel_rfl) (by kernel_rfl) (fun _ _ _ h => h) (Or.inl ⟨by rfl, ?_⟩) (by assumption) ?_
      rotate_left
      · intro w hSw
        try dsimp only at hSw
        first | (go_simp; done) | (go_simp; with_reducible rfl)
      try simp only [Act.put, List.setIfInBounds_toArray, List.set_cons_zero, List.set_cons_succ]
      refine wpAnyH_ready (rs := [4, 5]) (by kernel_rfl) (by simp) ?_
      refine AllReadyH.cons (take_list rfl) (fun K hK => ?_) ?_
      · skip
        go_simp
        refine hK.out _ _ ?_ (fun hHeld => ?_)
        · try dsimp only
          all_goals exact True.intro
        clear hK K
        refine wpAnyH_ready (rs := [5]) (by kernel_rfl) (by simp) ?_
        refine AllReadyH.cons (take_list rfl) (fun K hK => ?_) ?_
        · skip
          go_simp
          refine hK.out _ _ ?_ (fun hHeld => ?_)
          · try dsimp only
            all_goals exact True.intro
          clear hK K
          refine wpAnyH_ready (rs := [6]) (by kernel_rfl) (by simp) ?_
          refine AllReadyH.cons (take_list rfl) (fun K hK => ?_) ?_
          · skip
            go_simp
            refine hK.out _ _ ?_ (fun hHeld => ?_)
            · try dsimp only
              all_goals exact True.intro
            clear hK K
            refine wpAnyH_ready (rs := [7]) (by kernel_rfl) (by simp) ?_
            refine AllReadyH.cons (take_list rfl) (fun K hK => ?_) ?_
            · skip
              go_simp
              refine hK.out _ _ ?_ (fun hHeld => ?_)
              · try dsimp only
                all_goals exact True.intro
              clear hK K
              refine wpAnyH_ready (rs := [8]) (by kernel_rfl) (by simp) ?_
              refine AllReadyH.cons (take_list rfl) (fun K hK => ?_) ?_
              · skip
                go_simp
                refine hK.out _ _ ?_ (fun hHeld => ?_)
                · try dsimp only
                  all_goals exact True.intro
                clear hK K
                refine wpAnyH_ready (rs := [9]) (by kernel_rfl) (by simp) ?_
                refine AllReadyH.cons (take_list rfl) (fun K hK => ?_) ?_
                · skip
                  refine step_appO _ rfl (.tmp 23) (.tmp 27) _ rfl _ _ 1 24 Tryd.underlying72 info_row rfl A _ c _ rfl hrow3 (some ⟨wr.heap.size + 2, 0, none⟩) 1 1 [.slice (some ⟨wr.heap.size + 1, 0, none⟩) 1 1] rfl rfl hlit ?_ ?_ hm1 hm2 ?_
                  · simp; rfl
                  · intro h; cases h
                  intro A4 c4 w4 hrow4 ho4 hA4
                  have p4 : w4.cell? ⟨w.heap.size, 0, none⟩ = some (.slice A k c) := (World.cell?_of_block (a := ⟨w.heap.size, 0, none⟩) (q4.out w4 ho4)).trans hdsk1
                  have p5 : w4.frozen? ⟨w.heap.size, 0, none⟩ = false := (World.frozen?_of_block (a := ⟨w.heap.size, 0, none⟩) (q4.out w4 ho4)).trans hfr
                  refine hK.out _ _ ?_ (fun hHeld => ?_)
                  · try dsimp only
                    all_goals exact True.intro
                  clear hK K
                  refine wpAnyH_take (i := 10) (v := ?_) (take_list rfl) (by kernel_rfl) (by kernel_rfl) (by kernel_rfl) (fun _ _ _ h => h) (Or.inl ⟨by rfl, ?_⟩) (by assumption) ?_
                  rotate_left
                  · intro w hSw
                    try dsimp only at hSw
                    first | (go_simp; done) | (go_simp; with_reducible rfl)
                  try simp only [Act.put, List.setIfInBounds_toArray, List.set_cons_zero, List.set_cons_succ]
                  refine wpAnyH_take (i := 11) (v := ?_) (take_list rfl) (by kernel_rfl) (by kernel_rfl) (by kernel_rfl) (fun _ _ _ h => h) (Or.inl ⟨by rfl, ?_⟩) (by assumption) ?_
                  rotate_left
                  · intro w hSw
                    try dsimp only at hSw
                    first | (go_simp; done) | (go_simp; with_reducible rfl)
                  try simp only [Act.put, List.setIfInBounds_toArray, List.set_cons_zero, List.set_cons_succ]
                  refine wpAnyH_ready (rs := [12]) (by kernel_rfl) (by simp) ?_
                  refine AllReadyH.cons (take_list rfl) (fun K hK => ?_) ?_
                  · skip
                    go_simp
                    refine hK.out _ _ ?_ (fun hHeld => ?_)
                    · try dsimp only
                      all_goals exact True.intro
                    clear hK K
                    refine wpAnyH_done (by kernel_rfl) ?_ _
                    go_wp2
                    go_roundw
                    case rel => exact fin.out A4 c4 w4 hrow4 ho4 hA4
                    case measure => simp [intOf]; omega
                  exact AllReadyH.nil
                exact AllReadyH.nil
              exact AllReadyH.nil
            exact AllReadyH.nil
          exact AllReadyH.nil
        exact AllReadyH.nil
      refine AllReadyH.cons (take_list rfl) (fun K hK => ?_) ?_
      · skip
        go_simp
        refine hK.out _ _ ?_ (fun hHeld => ?_)
        · try dsimp only
          all_goals exact True.intro
        clear hK K
        refine wpAnyH_ready (rs := [4, 6]) (by kernel_rfl) (by simp) ?_
        refine AllReadyH.cons (take_list rfl) (fun K hK => ?_) ?_
        · skip
          go_simp
          refine hK.out _ _ ?_ (fun hHeld => ?_)
          · try dsimp only
            all_goals exact True.intro
          clear hK K
          refine wpAnyH_ready (rs := [6]) (by kernel_rfl) (by simp) ?_
          refine AllReadyH.cons (take_list rfl) (fun K hK => ?_) ?_
          · skip
            go_simp
            refine hK.out _ _ ?_ (fun hHeld => ?_)
            · try dsimp only
              all_goals exact True.intro
            clear hK K
            refine wpAnyH_ready (rs := [7]) (by kernel_rfl) (by simp) ?_
            refine AllReadyH.cons (take_list rfl) (fun K hK => ?_) ?_
            · skip
              go_simp
              refine hK.out _ _ ?_ (fun hHeld => ?_)
              · try dsimp only
                all_goals exact True.intro
              clear hK K
              refine wpAnyH_ready (rs := [8]) (by kernel_rfl) (by simp) ?_
              refine AllReadyH.cons (take_list rfl) (fun K hK => ?_) ?_
              · skip
                go_simp
                refine hK.out _ _ ?_ (fun hHeld => ?_)
                · try dsimp only
                  all_goals exact True.intro
                clear hK K
                refine wpAnyH_ready (rs := [9]) (by kernel_rfl) (by simp) ?_
                refine AllReadyH.cons (take_list rfl) (fun K hK => ?_) ?_
                · skip
                  refine step_appO _ rfl (.tmp 23) (.tmp 27) _ rfl _ _ 1 24 Tryd.underlying72 info_row rfl A _ c _ rfl hrow3 (some ⟨wr.heap.size + 2, 0, none⟩) 1 1 [.slice (some ⟨wr.heap.size + 1, 0, none⟩) 1 1] rfl rfl hlit ?_ ?_ hm1 hm2 ?_
                  · simp; rfl
                  · intro h; cases h
                  intro A4 c4 w4 hrow4 ho4 hA4
                  have p4 : w4.cell? ⟨w.heap.size, 0, none⟩ = some (.slice A k c) := (World.cell?_of_block (a := ⟨w.heap.size, 0, none⟩) (q4.out w4 ho4)).trans hdsk1
                  have p5 : w4.frozen? ⟨w.heap.size, 0, none⟩ = false := (World.frozen?_of_block (a := ⟨w.heap.size, 0, none⟩) (q4.out w4 ho4)).trans hfr
                  refine hK.out _ _ ?_ (fun hHeld => ?_)
                  · try dsimp only
                    all_goals exact True.intro
                  clear hK K
                  refine wpAnyH_take (i := 10) (v := ?_) (take_list rfl) (by kernel_rfl) (by kernel_rfl) (by kernel_rfl) (fun _ _ _ h => h) (Or.inl ⟨by rfl, ?_⟩) (by assumption) ?_
                  rotate_left
                  · intro w hSw
                    try dsimp only at hSw
                    first | (go_simp; done) | (go_simp; with_reducible rfl)
                  try simp only [Act.put, List.setIfInBounds_toArray, List.set_cons_zero, List.set_cons_succ]
                  refine wpAnyH_take (i := 11) (v := ?_) (take_list rfl) (by kernel_rfl) (by kernel_rfl) (by kernel_rfl) (fun _ _ _ h => h) (Or.inl ⟨by rfl, ?_⟩) (by assumption) ?_
                  rotate_left
                  · intro w hSw
                    try dsimp only at hSw
                    first | (go_simp; done) | (go_simp; with_reducible rfl)
                  try simp only [Act.put, List.setIfInBounds_toArray, List.set_cons_zero, List.set_cons_succ]
                  refine wpAnyH_ready (rs := [12]) (by kernel_rfl) (by simp) ?_
                  refine AllReadyH.cons (take_list rfl) (fun K hK => ?_) ?_
                  · skip
                    go_simp
                    refine hK.out _ _ ?_ (fun hHeld => ?_)
                    · try dsimp only
                      all_goals exact True.intro
                    clear hK K
                    refine wpAnyH_done (by kernel_rfl) ?_ _
                    go_wp2
                    go_roundw
                    case rel => exact fin.out A4 c4 w4 hrow4 ho4 hA4
                    case measure => simp [intOf]; omega
                  exact AllReadyH.nil
                exact AllReadyH.nil
              exact AllReadyH.nil
            exact AllReadyH.nil
          exact AllReadyH.nil
        refine AllReadyH.cons (take_list rfl) (fun K hK => ?_) ?_
        · skip
          go_simp
          refine hK.out _ _ ?_ (fun hHeld => ?_)
          · try dsimp only
            all_goals exact True.intro
          clear hK K
          refine wpAnyH_ready (rs := [4, 7]) (by kernel_rfl) (by simp) ?_
          refine AllReadyH.cons (take_list rfl) (fun K hK => ?_) ?_
          · skip
            go_simp
            refine hK.out _ _ ?_ (fun hHeld => ?_)
            · try dsimp only
              all_goals exact True.intro
            clear hK K
            refine wpAnyH_ready (rs := [7]) (by kernel_rfl) (by simp) ?_
            refine AllReadyH.cons (take_list rfl) (fun K hK => ?_) ?_
            · skip
              go_simp
              refine hK.out _ _ ?_ (fun hHeld => ?_)
              · try dsimp only
                all_goals exact True.intro
              clear hK K
              refine wpAnyH_ready (rs := [8]) (by kernel_rfl) (by simp) ?_
              refine AllReadyH.cons (take_list rfl) (fun K hK => ?_) ?_
              · skip
                go_simp
                refine hK.out _ _ ?_ (fun hHeld => ?_)
                · try dsimp only
                  all_goals exact True.intro
                clear hK K
                refine wpAnyH_ready (rs := [9]) (by kernel_rfl) (by simp) ?_
                refine AllReadyH.cons (take_list rfl) (fun K hK => ?_) ?_
                · skip
                  refine step_appO _ rfl (.tmp 23) (.tmp 27) _ rfl _ _ 1 24 Tryd.underlying72 info_row rfl A _ c _ rfl hrow3 (some ⟨wr.heap.size + 2, 0, none⟩) 1 1 [.slice (some ⟨wr.heap.size + 1, 0, none⟩) 1 1] rfl rfl hlit ?_ ?_ hm1 hm2 ?_
                  · simp; rfl
                  · intro h; cases h
                  intro A4 c4 w4 hrow4 ho4 hA4
                  have p4 : w4.cell? ⟨w.heap.size, 0, none⟩ = some (.slice A k c) := (World.cell?_of_block (a := ⟨w.heap.size, 0, none⟩) (q4.out w4 ho4)).trans hdsk1
                  have p5 : w4.frozen? ⟨w.heap.size, 0, none⟩ = false := (World.frozen?_of_block (a := ⟨w.heap.size, 0, none⟩) (q4.out w4 ho4)).trans hfr
                  refine hK.out _ _ ?_ (fun hHeld => ?_)
                  · try dsimp only
                    all_goals exact True.intro
                  clear hK K
                  refine wpAnyH_take (i := 10) (v := ?_) (take_list rfl) (by kernel_rfl) (by kernel_rfl) (by kernel_rfl) (fun _ _ _ h => h) (Or.inl ⟨by rfl, ?_⟩) (by assumption) ?_
                  rotate_left
                  · intro w hSw
                    try dsimp only at hSw
                    first | (go_simp; done) | (go_simp; with_reducible rfl)
                  try simp only [Act.put, List.setIfInBounds_toArray, List.set_cons_zero, List.set_cons_succ]
                  refine wpAnyH_take (i := 11) (v := ?_) (take_list rfl) (by kernel_rfl) (by kernel_rfl) (by kernel_rfl) (fun _ _ _ h => h) (Or.inl ⟨by rfl, ?_⟩) (by assumption) ?_
                  rotate_left
                  · intro w hSw
                    try dsimp only at hSw
                    first | (go_simp; done) | (go_simp; with_reducible rfl)
                  try simp only [Act.put, List.setIfInBounds_toArray, List.set_cons_zero, List.set_cons_succ]
                  refine wpAnyH_ready (rs := [12]) (by kernel_rfl) (by simp) ?_
                  refine AllReadyH.cons (take_list rfl) (fun K hK => ?_) ?_
                  · skip
                    go_simp
                    refine hK.out _ _ ?_ (fun hHeld => ?_)
                    · try dsimp only
                      all_goals exact True.intro
                    clear hK K
                    refine wpAnyH_done (by kernel_rfl) ?_ _
                    go_wp2
                    go_roundw
                    case rel => exact fin.out A4 c4 w4 hrow4 ho4 hA4
                    case measure => simp [intOf]; omega
                  exact AllReadyH.nil
                exact AllReadyH.nil
              exact AllReadyH.nil
            exact AllReadyH.nil
          refine AllReadyH.cons (take_list rfl) (fun K hK => ?_) ?_
          · skip
            go_simp
            refine hK.out _ _ ?_ (fun hHeld => ?_)
            · try dsimp only
              all_goals exact True.intro
            clear hK K
            refine wpAnyH_ready (rs := [4, 8]) (by kernel_rfl) (by simp) ?_
            refine AllReadyH.cons (take_list rfl) (fun K hK => ?_) ?_
            · skip
              go_simp
              refine hK.out _ _ ?_ (fun hHeld => ?_)
              · try dsimp only
                all_goals exact True.intro
              clear hK K
              refine wpAnyH_ready (rs := [8]) (by kernel_rfl) (by simp) ?_
              refine AllReadyH.cons (take_list rfl) (fun K hK => ?_) ?_
              · skip
                go_simp
                refine hK.out _ _ ?_ (fun hHeld => ?_)
                · try dsimp only
                  all_goals exact True.intro
                clear hK K
                refine wpAnyH_ready (rs := [9]) (by kernel_rfl) (by simp) ?_
                refine AllReadyH.cons (take_list rfl) (fun K hK => ?_) ?_
                · skip
                  refine step_appO _ rfl (.tmp 23) (.tmp 27) _ rfl _ _ 1 24 Tryd.underlying72 info_row rfl A _ c _ rfl hrow3 (some ⟨wr.heap.size + 2, 0, none⟩) 1 1 [.slice (some ⟨wr.heap.size + 1, 0, none⟩) 1 1] rfl rfl hlit ?_ ?_ hm1 hm2 ?_
                  · simp; rfl
                  · intro h; cases h
                  intro A4 c4 w4 hrow4 ho4 hA4
                  have p4 : w4.cell? ⟨w.heap.size, 0, none⟩ = some (.slice A k c) := (World.cell?_of_block (a := ⟨w.heap.size, 0, none⟩) (q4.out w4 ho4)).trans hdsk1
                  have p5 : w4.frozen? ⟨w.heap.size, 0, none⟩ = false := (World.frozen?_of_block (a := ⟨w.heap.size, 0, none⟩) (q4.out w4 ho4)).trans hfr
                  refine hK.out _ _ ?_ (fun hHeld => ?_)
                  · try dsimp only
                    all_goals exact True.intro
                  clear hK K
                  refine wpAnyH_take (i := 10) (v := ?_) (take_list rfl) (by kernel_rfl) (by kernel_rfl) (by kernel_rfl) (fun _ _ _ h => h) (Or.inl ⟨by rfl, ?_⟩) (by assumption) ?_
                  rotate_left
                  · intro w hSw
                    try dsimp only at hSw
                    first | (go_simp; done) | (go_simp; with_reducible rfl)
                  try simp only [Act.put, List.setIfInBounds_toArray, List.set_cons_zero, List.set_cons_succ]
                  refine wpAnyH_take (i := 11) (v := ?_) (take_list rfl) (by kernel_rfl) (by kernel_rfl) (by kernel_rfl) (fun _ _ _ h => h) (Or.inl ⟨by rfl, ?_⟩) (by assumption) ?_
                  rotate_left
                  · intro w hSw
                    try dsimp only at hSw
                    first | (go_simp; done) | (go_simp; with_reducible rfl)
                  try simp only [Act.put, List.setIfInBounds_toArray, List.set_cons_zero, List.set_cons_succ]
                  refine wpAnyH_ready (rs := [12]) (by kernel_rfl) (by simp) ?_
                  refine AllReadyH.cons (take_list rfl) (fun K hK => ?_) ?_
                  · skip
                    go_simp
                    refine hK.out _ _ ?_ (fun hHeld => ?_)
                    · try dsimp only
                      all_goals exact True.intro
                    clear hK K
                    refine wpAnyH_done (by kernel_rfl) ?_ _
                    go_wp2
                    go_roundw
                    case rel => exact fin.out A4 c4 w4 hrow4 ho4 hA4
                    case measure => simp [intOf]; omega
                  exact AllReadyH.nil
                exact AllReadyH.nil
              exact AllReadyH.nil
            refine AllReadyH.cons (take_list rfl) (fun K hK => ?_) ?_
            · skip
              go_simp
              refine hK.out _ _ ?_ (fun hHeld => ?_)
              · try dsimp only
                all_goals exact True.intro
              clear hK K
              refine wpAnyH_ready (rs := [4]) (by kernel_rfl) (by simp) ?_
              refine AllReadyH.cons (take_list rfl) (fun K hK => ?_) ?_
              · skip
                go_simp
                refine hK.out _ _ ?_ (fun hHeld => ?_)
                · try dsimp only
                  all_goals exact True.intro
                clear hK K
                refine wpAnyH_ready (rs := [9]) (by kernel_rfl) (by simp) ?_
                refine AllReadyH.cons (take_list rfl) (fun K hK => ?_) ?_
                · skip
                  refine step_appO _ rfl (.tmp 23) (.tmp 27) _ rfl _ _ 1 24 Tryd.underlying72 info_row rfl A _ c _ rfl hrow3 (some ⟨wr.heap.size + 2, 0, none⟩) 1 1 [.slice (some ⟨wr.heap.size + 1, 0, none⟩) 1 1] rfl rfl hlit ?_ ?_ hm1 hm2 ?_
                  · simp; rfl
                  · intro h; cases h
                  intro A4 c4 w4 hrow4 ho4 hA4
                  have p4 : w4.cell? ⟨w.heap.size, 0, none⟩ = some (.slice A k c) := (World.cell?_of_block (a := ⟨w.heap.size, 0, none⟩) (q4.out w4 ho4)).trans hdsk1
                  have p5 : w4.frozen? ⟨w.heap.size, 0, none⟩ = false := (World.frozen?_of_block (a := ⟨w.heap.size, 0, none⟩) (q4.out w4 ho4)).trans hfr
                  refine hK.out _ _ ?_ (fun hHeld => ?_)
                  · try dsimp only
                    all_goals exact True.intro
                  clear hK K
                  refine wpAnyH_take (i := 10) (v := ?_) (take_list rfl) (by kernel_rfl) (by kernel_rfl) (by kernel_rfl) (fun _ _ _ h => h) (Or.inl ⟨by rfl, ?_⟩) (by assumption) ?_
                  rotate_left
                  · intro w hSw
                    try dsimp only at hSw
                    first | (go_simp; done) | (go_simp; with_reducible rfl)
                  try simp only [Act.put, List.setIfInBounds_toArray, List.set_cons_zero, List.set_cons_succ]
                  refine wpAnyH_take (i := 11) (v := ?_) (take_list rfl) (by kernel_rfl) (by kernel_rfl) (by kernel_rfl) (fun _ _ _ h => h) (Or.inl ⟨by rfl, ?_⟩) (by assumption) ?_
                  rotate_left
                  · intro w hSw
                    try dsimp only at hSw
                    first | (go_simp; done) | (go_simp; with_reducible rfl)
                  try simp only [Act.put, List.setIfInBounds_toArray, List.set_cons_zero, List.set_cons_succ]
                  refine wpAnyH_ready (rs := [12]) (by kernel_rfl) (by simp) ?_
                  refine AllReadyH.cons (take_list rfl) (fun K hK => ?_) ?_
                  · skip
                    go_simp
                    refine hK.out _ _ ?_ (fun hHeld => ?_)
                    · try dsimp only
                      all_goals exact True.intro
                    clear hK K
                    refine wpAnyH_done (by kernel_rfl) ?_ _
                    go_wp2
                    go_roundw
                    case rel => exact fin.out A4 c4 w4 hrow4 ho4 hA4
                    case measure => simp [intOf]; omega
                  exact AllReadyH.nil
                exact AllReadyH.nil
              exact AllReadyH.nil
            exact AllReadyH.nil
          exact AllReadyH.nil
        exact AllReadyH.nil
      exact AllReadyH.nil
    · obtain rfl : k = n := by omega
      go_wp2
      go_ret2
      exact ⟨w.heap.size, rfl, hb, ⟨A, c, B, C, hL⟩, Nat.le_refl _⟩
end Go.Proofs.YtlpjeopeboemmaaDoor

/-
  A disk and the reference's disk, side by side. No statement of the seat is proved here.
-/
namespace Go.Proofs.YtlpjeopeboemmaaDoor
open Go Go.RowKit

theorem rnew_bad (n : Int) (w : World) (h : n < 1 ∨ 4096 < n) :
    Calls Tryd.prog 26 #[.int .i64 n] w fun e w' => e = .returned (.tuple #[.pointer none, .int .i64 1]) ∧ w = w' := by
  rcases h with h | h
  · go_enter Tryd.func26, Tryd.ntmps26
    go_wp2
    go_ret2
    exact ⟨rfl, rfl⟩
  · have hd : decide (n < 1) = false := decide_eq_false (by omega)
    go_enter Tryd.func26, Tryd.ntmps26
    go_wp2
    go_ret2
    exact ⟨rfl, rfl⟩

section
variable {w : World} {fp : Nat → Prop} {g : Nat} {S : Sec} {l : Int} {A0 : Option Addr} {c0 : Nat} {B : Nat → Option Addr} {C : Nat → Nat}
theorem rwrite_dead (h : RLay w fp g S l A0 c0 B C) (i : Int) (A : Option Addr) (n c : Nat) (h0 : l = 0) :
    Calls Tryd.prog 28 #[.pointer (some ⟨g, 0, none⟩), .int .i64 i, .slice A n c] w fun e w' => e = .returned (.int .i64 6) ∧ w = w' := by
  have c1 : w.cell? ⟨g, 1, none⟩ = some (.int .i64 l) := h.dsk.cell 1
  subst h0
  go_enter Tryd.func28, Tryd.ntmps28
  go_wp2
  go_ret
  exact ⟨rfl, rfl⟩
theorem rwrite_bad (h : RLay w fp g S l A0 c0 B C) (i : Int) (A : Option Addr) (n c : Nat) (h0 : l ≠ 0) (hbad : ¬ (0 ≤ i ∧ i < (S.length : Int)) ∨ 64 < n) :
    Calls Tryd.prog 28 #[.pointer (some ⟨g, 0, none⟩), .int .i64 i, .slice A n c] w fun e w' => e = .returned (.int .i64 1) ∧ w = w' := by
  have c1 : w.cell? ⟨g, 1, none⟩ = some (.int .i64 l) := h.dsk.cell 1
  have k0 : w.cell? ⟨g, 0, none⟩ = some (.slice A0 S.length c0) := h.dsk.cell 0
  have hl0 : (l == 0) = false := by simpa using h0
  by_cases hn : i < 0
  · clear hbad
    go_enter Tryd.func28, Tryd.ntmps28
    go_wp2
    go_ret
    exact ⟨rfl, rfl⟩
  · have d1 : decide (i < 0) = false := decide_eq_false hn
    by_cases hge : (S.length : Int) ≤ i
    · clear hbad
      go_enter Tryd.func28, Tryd.ntmps28
      go_wp2
      go_ret
      exact ⟨rfl, rfl⟩
    · have d2 : decide ((S.length : Int) ≤ i) = false := decide_eq_false hge
      have hn2 : (64 : Int) < (n : Int) := by omega
      clear hbad
      go_enter Tryd.func28, Tryd.ntmps28
      go_wp2
      go_ret
      exact ⟨rfl, rfl⟩
end
theorem rwrite_all {w : World} {fp : Nat → Prop} {g : Nat} {S : Sec} {l : Int} (h : Ref w fp g S l) (hs : Small 999999 S) (i : Int) (A : Option Addr) (n c : Nat) (bs : List UInt8) (hn : n = bs.length) (hr : RdF fp w A (bs.map bv)) :
    Calls Tryd.prog 28 #[.pointer (some ⟨g, 0, none⟩), .int .i64 i, .slice A n c] w fun e w' => e = .returned (.int .i64 (writeCode S.length l i bs)) ∧ Ref w' (More fp w w') g (writeS S l i bs) (writeL S.length l i bs) ∧ Only fp w w' := by
  obtain ⟨A0, c0, B, C, h⟩ := h
  by_cases h0 : l = 0
  · refine (rwrite_dead h i A n c h0).mono ?_
    rintro e w' ⟨rfl, rfl⟩
    have e1 : writeCode S.length l i bs = 6 := by unfold writeCode; rw [if_pos h0]
    unfold writeS writeL
    rw [e1]
    exact ⟨rfl, Ref.more ⟨A0, c0, B, C, h⟩, Only.refl _ _⟩
  · by_cases hbad : ¬ (0 ≤ i ∧ i < (S.length : Int)) ∨ 64 < n
    · refine (rwrite_bad h i A n c h0 hbad).mono ?_
      rintro e w' ⟨rfl, rfl⟩
      have e1 : writeCode S.length l i bs = 1 := by unfold writeCode; rw [if_neg h0, if_pos (by omega)]
      unfold writeS writeL
      rw [e1]
      exact ⟨rfl, Ref.more ⟨A0, c0, B, C, h⟩, Only.refl _ _⟩
    · obtain ⟨k, rfl⟩ : ∃ k : Nat, i = (k : Int) := ⟨i.toNat, by omega⟩
      have hk : k < S.length := by omega
      obtain ⟨e1, e2⟩ := writeS_ok (S := S) (l := l) (bs := bs) hk (by omega) h0
      refine (rwrite_any h hs k hk A n c bs hn (by omega) hr h0).mono ?_
      rintro e w' ⟨rfl, h1, h2⟩
      unfold writeL
      rw [e1, e2]
      exact ⟨rfl, h1, h2⟩

/-! ### Side by side -/
/-- A disk 'gd' of sectors 'S' and the reference's disk 'gx' of 'S2', both born since 'W', apart from each other and from the blocks 'G'. -/
def Two (W w : World) (G : Nat → Prop) (gd gx : Nat) (S : Sec) (l : Int) (S2 : Sec) (l2 : Int) : Prop :=
  ∃ fI fR, Imp w fI gd S l ∧ Ref w fR gx S2 l2 ∧ (∀ k, fI k → fR k → False) ∧ (∀ k, fI k → Born W w k) ∧ (∀ k, fR k → Born W w k) ∧ (∀ k, G k → ¬ fI k ∧ ¬ fR k ∧ k < w.heap.size)
/-- what a step leaves of the blocks 'G' -/
def Kept (G : Nat → Prop) (w w' : World) : Prop := ∀ k, G k → w'.heap[k]? = w.heap[k]?

section
variable {W w w' : World} {G : Nat → Prop} {gd gx : Nat} {S S2 S' : Sec} {l l2 l' : Int}
theorem Two.ext (h : Two W w G gd gx S l S2 l2) (hb : Below w.heap.size w w') : Two W w' G gd gx S l S2 l2 := by
  obtain ⟨fI, fR, hI, hR, hd, h1, h2, h3⟩ := h
  have z := hb.size
  exact ⟨fI, fR, hI.ext hb, hR.ext hb, hd, fun k hk => ⟨(h1 k hk).1, by have := (h1 k hk).2; omega⟩, fun k hk => ⟨(h2 k hk).1, by have := (h2 k hk).2; omega⟩, fun k hk => ⟨(h3 k hk).1, (h3 k hk).2.1, by have := (h3 k hk).2.2; omega⟩⟩
/-- other blocks to be kept: those that were not there before -/
theorem Two.guard (h : Two W w G gd gx S l S2 l2) (o : Obj) : Two W (w.alloc o) (fun k => k = w.heap.size) gd gx S l S2 l2 := by
  obtain ⟨fI, fR, hI, hR, hd, h1, h2, h3⟩ := h
  have hb : Below w.heap.size w (w.alloc o) := (Below.refl _ _).alloc (Nat.le_refl _) o
  refine ⟨fI, fR, hI.ext hb, hR.ext hb, hd, fun k hk => ⟨(h1 k hk).1, ?_⟩, fun k hk => ⟨(h2 k hk).1, ?_⟩, fun k hk => ⟨fun h => ?_, fun h => ?_, ?_⟩⟩
  · have := (h1 k hk).2; rw [World.size_alloc]; omega
  · have := (h2 k hk).2; rw [World.size_alloc]; omega
  · have := (h1 k h).2; omega
  · have := (h2 k h).2; omega
  · rw [World.size_alloc]; omega
theorem Two.free (h : Two W w G gd gx S l S2 l2) : Two W w (fun _ => False) gd gx S l S2 l2 := by
  obtain ⟨fI, fR, hI, hR, hd, h1, h2, h3⟩ := h
  exact ⟨fI, fR, hI, hR, hd, h1, h2, fun k hk => hk.elim⟩

theorem two_left {fI fR : Nat → Prop} (hb : Below W.heap.size W w) (hR : Ref w fR gx S2 l2) (hd : ∀ k, fI k → fR k → False) (h1 : ∀ k, fI k → Born W w k) (h2 : ∀ k, fR k → Born W w k) (h3 : ∀ k, G k → ¬ fI k ∧ ¬ fR k ∧ k < w.heap.size) (hI' : Imp w' (More fI w w') gd S' l') (ho : Only fI w w') :
    Two W w' G gd gx S' l' S2 l2 ∧ Below W.heap.size W w' ∧ Kept G w w' := by
  have z := ho.size
  have z0 := hb.size
  refine ⟨⟨More fI w w', fR, hI', hR.only ho (fun k hk hk' => hd k hk' hk), fun k hk hk' => ?_, fun k hk => ?_, fun k hk => ⟨(h2 k hk).1, by have := (h2 k hk).2; omega⟩, fun k hk => ⟨fun h => ?_, (h3 k hk).2.1, by have := (h3 k hk).2.2; omega⟩⟩, hb.trans (ho.below (fun k hk => (h1 k hk).1) z0), fun k hk => ho.block k (h3 k hk).2.2 (h3 k hk).1⟩
  · rcases hk with hk | hk
    · exact hd k hk hk'
    · have := (h2 k hk').2; omega
  · rcases hk with hk | hk
    · exact ⟨(h1 k hk).1, by have := (h1 k hk).2; omega⟩
    · exact ⟨by omega, hk.2⟩
  · rcases h with h | h
    · exact (h3 k hk).1 h
    · have := (h3 k hk).2.2; omega
theorem two_right {fI fR : Nat → Prop} (hb : Below W.heap.size W w) (hI : Imp w fI gd S l) (hd : ∀ k, fI k → fR k → False) (h1 : ∀ k, fI k → Born W w k) (h2 : ∀ k, fR k → Born W w k) (h3 : ∀ k, G k → ¬ fI k ∧ ¬ fR k ∧ k < w.heap.size) (hR' : Ref w' (More fR w w') gx S' l') (ho : Only fR w w') :
    Two W w' G gd gx S l S' l' ∧ Below W.heap.size W w' ∧ Kept G w w' := by
  have z := ho.size
  have z0 := hb.size
  refine ⟨⟨fI, More fR w w', hI.only ho (fun k hk hk' => hd k hk hk'), hR', fun k hk' hk => ?_, fun k hk => ⟨(h1 k hk).1, by have := (h1 k hk).2; omega⟩, fun k hk => ?_, fun k hk => ⟨(h3 k hk).1, fun h => ?_, by have := (h3 k hk).2.2; omega⟩⟩, hb.trans (ho.below (fun k hk => (h2 k hk).1) z0), fun k hk => ho.block k (h3 k hk).2.2 (h3 k hk).2.1⟩
  · rcases hk with hk | hk
    · exact hd k hk' hk
    · have := (h1 k hk').2; omega
  · rcases hk with hk | hk
    · exact ⟨(h2 k hk).1, by have := (h2 k hk).2; omega⟩
    · exact ⟨by omega, hk.2⟩
  · rcases h with h | h
    · exact (h3 k hk).2.1 h
    · have := (h3 k hk).2.2; omega

theorem two_write (h : Two W w G gd gx S l S2 l2) (hb : Below W.heap.size W w) (hs : Small 999999 S) (i : Int) (A : Option Addr) (n c : Nat) (bs : List UInt8) (hn : n = bs.length) (hr : Rd W A (bs.map bv)) :
    Calls Tryd.prog 27 #[.pointer (some ⟨gd, 0, none⟩), .int .i64 i, .slice A n c] w fun e w' => e = .returned (.int .i64 (writeCode S.length l i bs)) ∧ Two W w' G gd gx (writeS S l i bs) (writeL S.length l i bs) S2 l2 ∧ Below W.heap.size W w' ∧ Kept G w w' := by
  obtain ⟨fI, fR, hI, hR, hd, h1, h2, h3⟩ := h
  refine (write_all hI hs i A n c bs hn (hr.ext hb)).mono ?_
  rintro e w' ⟨rfl, hI', ho⟩
  exact ⟨rfl, two_left hb hR hd h1 h2 h3 hI' ho⟩
theorem two_rwrite (h : Two W w G gd gx S l S2 l2) (hb : Below W.heap.size W w) (hs : Small 999999 S2) (i : Int) (A : Option Addr) (n c : Nat) (bs : List UInt8) (hn : n = bs.length) (hr : Rd W A (bs.map bv)) :
    Calls Tryd.prog 28 #[.pointer (some ⟨gx, 0, none⟩), .int .i64 i, .slice A n c] w fun e w' => e = .returned (.int .i64 (writeCode S2.length l2 i bs)) ∧ Two W w' G gd gx S l (writeS S2 l2 i bs) (writeL S2.length l2 i bs) ∧ Below W.heap.size W w' ∧ Kept G w w' := by
  obtain ⟨fI, fR, hI, hR, hd, h1, h2, h3⟩ := h
  refine (rwrite_all hR hs i A n c bs hn ((rdF_born (w1 := w) hr hb).weak h2)).mono ?_
  rintro e w' ⟨rfl, hR', ho⟩
  exact ⟨rfl, two_right hb hI hd h1 h2 h3 hR' ho⟩
theorem two_flush (h : Two W w G gd gx S l S2 l2) (hb : Below W.heap.size W w) (hs : Small 1000000 S) :
    Calls Tryd.prog 66 #[.pointer (some ⟨gd, 0, none⟩)] w fun e w' => e = .returned (.int .i64 (flushCode l)) ∧ Two W w' G gd gx (if l = 0 then S else flushS S) (tick l) S2 l2 ∧ Below W.heap.size W w' ∧ Kept G w w' := by
  obtain ⟨fI, fR, hI, hR, hd, h1, h2, h3⟩ := h
  refine (flush_all hI hs).mono ?_
  rintro e w' ⟨rfl, hI', ho⟩
  exact ⟨rfl, two_left hb hR hd h1 h2 h3 hI' ho⟩
theorem two_rflush (h : Two W w G gd gx S l S2 l2) (hb : Below W.heap.size W w) (hs : Small 1000000 S2) :
    Calls Tryd.prog 75 #[.pointer (some ⟨gx, 0, none⟩)] w fun e w' => e = .returned (.int .i64 (flushCode l2)) ∧ Two W w' G gd gx S l (if l2 = 0 then S2 else flushS S2) (tick l2) ∧ Below W.heap.size W w' ∧ Kept G w w' := by
  obtain ⟨fI, fR, hI, hR, hd, h1, h2, h3⟩ := h
  refine (rflush_all hR hs).mono ?_
  rintro e w' ⟨rfl, hR', ho⟩
  exact ⟨rfl, two_right hb hI hd h1 h2 h3 hR' ho⟩
theorem two_fuse (h : Two W w G gd gx S l S2 l2) (hb : Below W.heap.size W w) (n : Int) (hn : isInt n) :
    Calls Tryd.prog 20 #[.pointer (some ⟨gd, 0, none⟩), .int .i64 n] w fun e w' => e = .returned (.tuple #[]) ∧ Two W w' G gd gx S (max n (-1)) S2 l2 ∧ Below W.heap.size W w' ∧ Kept G w w' := by
  obtain ⟨fI, fR, hI, hR, hd, h1, h2, h3⟩ := h
  refine (fuse_all hI n hn).mono ?_
  rintro e w' ⟨rfl, hI', ho⟩
  exact ⟨rfl, two_left hb hR hd h1 h2 h3 hI' ho⟩
theorem two_rfuse (h : Two W w G gd gx S l S2 l2) (hb : Below W.heap.size W w) (n : Int) (hn : isInt n) :
    Calls Tryd.prog 34 #[.pointer (some ⟨gx, 0, none⟩), .int .i64 n] w fun e w' => e = .returned (.tuple #[]) ∧ Two W w' G gd gx S l S2 (max n (-1)) ∧ Below W.heap.size W w' ∧ Kept G w w' := by
  obtain ⟨fI, fR, hI, hR, hd, h1, h2, h3⟩ := h
  refine (rfuse_all hR n hn).mono ?_
  rintro e w' ⟨rfl, hR', ho⟩
  exact ⟨rfl, two_right hb hI hd h1 h2 h3 hR' ho⟩
theorem two_crash (h : Two W w G gd gx S l S2 l2) (hb : Below W.heap.size W w) (hs : Small 1000000 S) (P : Option Addr) (n cp : Nat) (ps : List Int) (hn : n = ps.length) (hp : Rd W P (ps.map iv)) (hpi : ∀ x ∈ ps, isInt x) :
    Calls Tryd.prog 21 #[.pointer (some ⟨gd, 0, none⟩), .slice P n cp] w fun e w' => e = .returned (.tuple #[]) ∧ Two W w' G gd gx (crashS S ps) (-1) S2 l2 ∧ Below W.heap.size W w' ∧ Kept G w w' := by
  obtain ⟨fI, fR, hI, hR, hd, h1, h2, h3⟩ := h
  refine (crash_all hI hs P n cp ps hn ((rdF_born (w1 := w) hp hb).weak h1) hpi).mono ?_
  rintro e w' ⟨rfl, hI', ho⟩
  exact ⟨rfl, two_left hb hR hd h1 h2 h3 hI' ho⟩
theorem two_rcrash (h : Two W w G gd gx S l S2 l2) (hb : Below W.heap.size W w) (hs : Small 1000000 S2) (P : Option Addr) (n cp : Nat) (ps : List Int) (hn : n = ps.length) (hp : Rd W P (ps.map iv)) (hpi : ∀ x ∈ ps, isInt x) :
    Calls Tryd.prog 35 #[.pointer (some ⟨gx, 0, none⟩), .slice P n cp] w fun e w' => e = .returned (.tuple #[]) ∧ Two W w' G gd gx S l (crashS S2 ps) (-1) ∧ Below W.heap.size W w' ∧ Kept G w w' := by
  obtain ⟨fI, fR, hI, hR, hd, h1, h2, h3⟩ := h
  refine (rcrash_all hR hs P n cp ps hn ((rdF_born (w1 := w) hp hb).weak h2) hpi).mono ?_
  rintro e w' ⟨rfl, hR', ho⟩
  exact ⟨rfl, two_right hb hI hd h1 h2 h3 hR' ho⟩
/-- both, new -/
theorem Two.new {g gx' : Nat} (hI : Imp w (Born W w) g S l) (hb : Below W.heap.size W w) (hb' : Below W.heap.size W w') (hb2 : Below w.heap.size w w') (hR : Ref w' (Born w w') gx' S2 l2) : Two W w' (fun _ => False) g gx' S l S2 l2 := by
  have z := hb2.size
  have z0 := hb.size
  exact ⟨Born W w, Born w w', hI.ext hb2, hR, fun k h1 h2 => by have := h1.2; have := h2.1; omega, fun k hk => ⟨hk.1, by have := hk.2; omega⟩, fun k hk => ⟨by have := hk.1; omega, hk.2⟩, fun k hk => hk.elim⟩
end
end Go.Proofs.YtlpjeopeboemmaaDoor

/-
  The contracts of the reference's small, lay, Format. No statement of the seat is proved here.
-/
namespace Go.Proofs.YtlpjeopeboemmaaDoor
open Go Go.RowKit

theorem rsmall_any {w : World} {fp : Nat → Prop} {g : Nat} {S : Sec} {l : Int} (h : Ref w fp g S l) : Calls Tryd.prog 61 #[.pointer (some ⟨g, 0, none⟩)] w fun e w' => e = .returned (.bool (decide ((S.length : Int) < 32))) ∧ w = w' := by
  obtain ⟨A0, c0, B, C, h⟩ := h
  have h0 : w.cell? ⟨g, 0, none⟩ = some (.slice A0 S.length c0) := h.dsk.cell 0
  go_enter Tryd.func61, Tryd.ntmps61
  go_wp2
  go_ret
  exact ⟨rfl, rfl⟩

set_option maxHeartbeats 600000 in
theorem rlay_full {w : World} {fp : Nat → Prop} {gx : Nat} {S : Sec} {l : Int} (h : Ref w fp gx S l) (hs : Small 900000 S) (k : Nat) (hk : k ≤ 1) (A : Option Addr) (c : Nat) (rows : List (List UInt8)) (h16 : rows.length = 16) (hr : RowsF fp w A rows) :
    Calls Tryd.prog 64 #[.pointer (some ⟨gx, 0, none⟩), .int .i64 (k : Int), .slice A 16 c] w fun e w' =>
      e = .returned (.int .i64 (layTo S l ((k : Int) * 16) rows).1) ∧ Ref w' (More fp w w') gx (layTo S l ((k : Int) * 16) rows).2.1 (layTo S l ((k : Int) * 16) rows).2.2 ∧ Only fp w w' := by
  have HL := Lib.hid h16
  clear h16
  generalize hR : layTo S l ((k : Int) * 16) rows = R
  have HR := Lib.hid hR
  clear hR
  go_enter Tryd.func64, Tryd.ntmps64
  go_wp2
  go_loopw [7, 8, 9] (fun i _ _ wr => ∃ (j : Nat) (S' : Sec) (l' : Int), j ≤ 16 ∧ i = .int .i64 (j : Int) ∧ Ref wr (More fp w wr) gx S' l' ∧ Only fp w wr ∧ Small (900000 + j) S' ∧ layTo S' l' ((k : Int) * 16 + (j : Int)) (rows.drop j) = R) (fun i _ _ _ => 16 - (intOf i).toNat)
  case atStart => exact ⟨0, S, l, by omega, rfl, Ref.more h, Only.refl _ _, hs, by rw [← HR.out]; simp⟩
  case round =>
    obtain ⟨j, S', l', hj, rfl, hI, ho, hsm, hlay⟩ := hrel
    by_cases hlt : j < 16
    · have hji : (j : Int) < 16 := by omega
      have hlt' : j < rows.length := by rw [HL.out]; exact hlt
      obtain ⟨ad, B, cb, rfl, hcell, hlc, hrd⟩ := (hr.more ho).at_ hlt'
      obtain ⟨len, hlen⟩ : ∃ n, (rows[j]'hlt').length = n := ⟨_, rfl⟩
      rw [hlen] at hcell
      rw [List.drop_eq_getElem_cons hlt'] at hlay
      unfold layTo at hlay
      have Hlay := Lib.hid hlay
      have hw := small_write hsm l' ((k : Int) * 16 + (j : Int)) (rows[j]'hlt')
      have hcall := rwrite_all hI (small_mono hsm (by omega)) ((k : Int) * 16 + (j : Int)) B _ cb (rows[j]'hlt') rfl hrd
      rw [hlen] at hcall
      have Hcall := Lib.hid hcall
      clear hlay hcall
      generalize (rows[j]'hlt') = row at *
      go_wp2_with fail
      refine Hcall.out.mono ?_
      rintro e w2 ⟨rfl, hI2, ho2⟩
      have ho' : Only fp w w2 := ho.join ho2
      have hI' : Ref w2 (More fp w w2) gx (writeS S' l' ((k : Int) * 16 + (j : Int)) row) (writeL S'.length l' ((k : Int) * 16 + (j : Int)) row) := hI2.mono (fun _ hk _ => More.join ho.size (Nat.le_refl _) ho2.size hk)
      clear hI2 ho2 Hcall
      by_cases hc : writeCode S'.length l' ((k : Int) * 16 + (j : Int)) row = 0
      · have hL : writeL S'.length l' ((k : Int) * 16 + (j : Int)) row = tick l' := by unfold writeL; rw [if_pos hc]
        have hnext := Hlay.out
        rw [if_pos hc] at hnext
        rw [hL] at hI'
        have Hnext := Lib.hid hnext
        rw [hc]
        clear hnext hL hc Hlay
        go_wp2
        go_roundw
        case rel => exact ⟨j + 1, _, _, by omega, by go_num, hI', ho', small_mono hw (by omega), by rw [← Hnext.out]; congr 1; try omega⟩
        case measure => simp [intOf]; omega
      · have hL : writeL S'.length l' ((k : Int) * 16 + (j : Int)) row = l' := by unfold writeL; rw [if_neg hc]
        have hSw : writeS S' l' ((k : Int) * 16 + (j : Int)) row = S' := by unfold writeS; rw [if_neg hc]
        have hend := Hlay.out
        rw [if_neg hc] at hend
        rw [hL, hSw] at hI'
        have hbeq : (writeCode S'.length l' ((k : Int) * 16 + (j : Int)) row == 0) = false := beq_eq_false_iff_ne.2 hc
        have Hend := Lib.hid hend
        clear hend hL hSw hc Hlay
        generalize writeCode S'.length l' ((k : Int) * 16 + (j : Int)) row = cd at *
        go_wp2
        go_ret
        rw [← Hend.out]
        exact ⟨rfl, hI', ho'⟩
    · obtain rfl : j = 16 := by omega
      rw [List.drop_of_length_le (by rw [HL.out]; omega)] at hlay
      unfold layTo at hlay
      have Hlay := Lib.hid hlay
      clear hlay
      go_wp2_with fail
      refine (rflush_all hI (small_mono hsm (by omega))).mono ?_
      rintro e w2 ⟨rfl, hI2, ho2⟩
      go_wp2
      go_ret
      rw [← Hlay.out]
      exact ⟨rfl, hI2.mono (fun _ hk _ => More.join ho.size (Nat.le_refl _) ho2.size hk), ho.join ho2⟩
set_option maxHeartbeats 600000 in
theorem rlay_nil {w : World} {fp : Nat → Prop} {gx : Nat} {S : Sec} {l : Int} (h : Ref w fp gx S l) (hs : Small 900000 S) (k : Nat) (hk : k ≤ 1)  :
    Calls Tryd.prog 64 #[.pointer (some ⟨gx, 0, none⟩), .int .i64 (k : Int), .slice none 0 0] w fun e w' =>
      e = .returned (.int .i64 (layTo S l ((k : Int) * 16) nils).1) ∧ Ref w' (More fp w w') gx (layTo S l ((k : Int) * 16) nils).2.1 (layTo S l ((k : Int) * 16) nils).2.2 ∧ Only fp w w' := by
  have HL := Lib.hid (show nils.length = 16 from rfl)
  generalize hR : layTo S l ((k : Int) * 16) nils = R
  have HR := Lib.hid hR
  clear hR
  go_enter Tryd.func64, Tryd.ntmps64
  go_wp2
  go_loopw [7, 8, 9] (fun i _ _ wr => ∃ (j : Nat) (S' : Sec) (l' : Int), j ≤ 16 ∧ i = .int .i64 (j : Int) ∧ Ref wr (More fp w wr) gx S' l' ∧ Only fp w wr ∧ Small (900000 + j) S' ∧ layTo S' l' ((k : Int) * 16 + (j : Int)) (nils.drop j) = R) (fun i _ _ _ => 16 - (intOf i).toNat)
  case atStart => exact ⟨0, S, l, by omega, rfl, Ref.more h, Only.refl _ _, hs, by rw [← HR.out]; simp⟩
  case round =>
    obtain ⟨j, S', l', hj, rfl, hI, ho, hsm, hlay⟩ := hrel
    by_cases hlt : j < 16
    · have hji : (j : Int) < 16 := by omega
      have hlt' : j < nils.length := by rw [HL.out]; exact hlt
      have hrow : nils[j]'hlt' = [] := List.eq_of_mem_replicate (List.getElem_mem hlt')
      have hrd : RdF (More fp w wr) wr none ((nils[j]'hlt').map bv) := by rw [hrow]; exact ⟨Rd.nil _ _, fun ad e => by cases e⟩
      have hlen : (nils[j]'hlt').length = 0 := by rw [hrow]; rfl
      clear hrow
      rw [List.drop_eq_getElem_cons hlt'] at hlay
      unfold layTo at hlay
      have Hlay := Lib.hid hlay
      have hw := small_write hsm l' ((k : Int) * 16 + (j : Int)) (nils[j]'hlt')
      have hcall := rwrite_all hI (small_mono hsm (by omega)) ((k : Int) * 16 + (j : Int)) none _ 0 (nils[j]'hlt') rfl hrd
      rw [hlen] at hcall
      have Hcall := Lib.hid hcall
      clear hlay hcall
      generalize (nils[j]'hlt') = row at *
      go_wp2_with fail
      refine Hcall.out.mono ?_
      rintro e w2 ⟨rfl, hI2, ho2⟩
      have ho' : Only fp w w2 := ho.join ho2
      have hI' : Ref w2 (More fp w w2) gx (writeS S' l' ((k : Int) * 16 + (j : Int)) row) (writeL S'.length l' ((k : Int) * 16 + (j : Int)) row) := hI2.mono (fun _ hk _ => More.join ho.size (Nat.le_refl _) ho2.size hk)
      clear hI2 ho2 Hcall
      by_cases hc : writeCode S'.length l' ((k : Int) * 16 + (j : Int)) row = 0
      · have hL : writeL S'.length l' ((k : Int) * 16 + (j : Int)) row = tick l' := by unfold writeL; rw [if_pos hc]
        have hnext := Hlay.out
        rw [if_pos hc] at hnext
        rw [hL] at hI'
        have Hnext := Lib.hid hnext
        rw [hc]
        clear hnext hL hc Hlay
        go_wp2
        go_roundw
        case rel => exact ⟨j + 1, _, _, by omega, by go_num, hI', ho', small_mono hw (by omega), by rw [← Hnext.out]; congr 1; try omega⟩
        case measure => simp [intOf]; omega
      · have hL : writeL S'.length l' ((k : Int) * 16 + (j : Int)) row = l' := by unfold writeL; rw [if_neg hc]
        have hSw : writeS S' l' ((k : Int) * 16 + (j : Int)) row = S' := by unfold writeS; rw [if_neg hc]
        have hend := Hlay.out
        rw [if_neg hc] at hend
        rw [hL, hSw] at hI'
        have hbeq : (writeCode S'.length l' ((k : Int) * 16 + (j : Int)) row == 0) = false := beq_eq_false_iff_ne.2 hc
        have Hend := Lib.hid hend
        clear hend hL hSw hc Hlay
        generalize writeCode S'.length l' ((k : Int) * 16 + (j : Int)) row = cd at *
        go_wp2
        go_ret
        rw [← Hend.out]
        exact ⟨rfl, hI', ho'⟩
    · obtain rfl : j = 16 := by omega
      rw [List.drop_of_length_le (by rw [HL.out]; omega)] at hlay
      unfold layTo at hlay
      have Hlay := Lib.hid hlay
      clear hlay
      go_wp2_with fail
      refine (rflush_all hI (small_mono hsm (by omega))).mono ?_
      rintro e w2 ⟨rfl, hI2, ho2⟩
      go_wp2
      go_ret
      rw [← Hlay.out]
      exact ⟨rfl, hI2.mono (fun _ hk _ => More.join ho.size (Nat.le_refl _) ho2.size hk), ho.join ho2⟩
end Go.Proofs.YtlpjeopeboemmaaDoor
