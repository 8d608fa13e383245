/-
  The contract of the reference's Write. No statement of the seat is proved here.
-/
import Derived.Test.YtlpjeopeboemmaaDoorRRead
namespace Go.Proofs.YtlpjeopeboemmaaDoor
open Go Go.RowKit

theorem info_u8' : (Tryd.prog.info? 5).map (fun i => (i.zero, i.size, i.bytes)) = some (some (.int .u8 0), 1, 1) := by kernel_rfl
theorem info_str : (Tryd.prog.info? 9).map (fun i => (i.zero, i.size, i.bytes)) = some (some (.string ByteArray.empty), 1, 16) := by kernel_rfl
theorem make_zeros (W : World) (t : Nat) (h : t ≤ 4096) : (Instr.makeSlice 22 (.int .i64 (t : Int)) (.int .i64 (t : Int))).run Tryd.prog W =
    .ok (.slice (some ⟨W.heap.size, 0, none⟩) t t) (W.alloc (.cells (madeCells #[.int .u8 0] t) 5)) := by
  obtain ⟨i, hi, hz, hsz, hby⟩ := info_parts info_u8'
  have hr := run_make (P := Tryd.prog) W 22 5 i _ Tryd.underlying22 hi hz .i64 .i64 (t : Int) (t : Int) (by omega) (by omega) (by rw [hby]; omega) (by omega)
  simp only [Int.toNat_natCast, hsz, Nat.mul_one] at hr
  exact hr
theorem zeros_str (W : World) (t : Nat) : (convert 22 9 (.slice (some ⟨W.heap.size, 0, none⟩) t t)).run Tryd.prog (W.alloc (.cells (madeCells #[.int .u8 0] t) 5)).drew = .ok (.string ⟨(List.replicate t (0 : UInt8)).toArray⟩) (W.alloc (.cells (madeCells #[.int .u8 0] t) 5)).drew := by
  refine conv_bytes _ _ t t (List.replicate t 0) (by simp) ?_
  have h := Rd.lit W (madeCells #[.int .u8 0] t) 5
  rw [toList_madeCells_one] at h
  have e : (List.replicate t (0 : UInt8)).map bv = List.replicate t (.int .u8 0) := by rw [List.map_replicate]; rfl
  rw [e]
  exact h.drew
theorem cat_pad (bs : List UInt8) : (⟨bs.toArray⟩ : ByteArray) ++ ⟨Array.replicate (64 - bs.length) (0 : UInt8)⟩ = ⟨(pad bs).toArray⟩ := by
  apply ByteArray.ext
  rw [ByteArray.data_append]
  simp [pad]

/-- what a Write leaves behind -/
theorem rwrite_fin {w w1 w4 : World} {fp : Nat → Prop} {g : Nat} {S : Sec} {t : Int} {b o c0 : Nat} {B : Nat → Option Addr} {C : Nat → Nat} (h : RLay w1 fp g S t (some ⟨b, o, none⟩) c0 B C) (ho1 : Only fp w w1) {i : Nat} (hi : i < S.length) (v : List UInt8) (hv : v.length = 64) (O1 O2 : Obj) (A' : Option Addr) (c' : Nat)
    (hr : RowO w4 9 1 A' (S[i].length + 1) c' (S[i].map strV ++ [.string ⟨v.toArray⟩])) (ho : Only (inA (B i)) ((w1.alloc O1).alloc O2).drew w4) (hA : ∀ k, inA A' k → inA (B i) k ∨ (((w1.alloc O1).alloc O2).drew.heap.size ≤ k ∧ k < w4.heap.size)) :
    Ending.returned (.int .i64 0) = .returned (.int .i64 0) ∧ Ref (w4.setCell ⟨b, o + i, none⟩ (.slice A' (S[i].length + 1) c')) (More fp w (w4.setCell ⟨b, o + i, none⟩ (.slice A' (S[i].length + 1) c'))) g (S.set i (S[i] ++ [v])) t ∧ Only fp w (w4.setCell ⟨b, o + i, none⟩ (.slice A' (S[i].length + 1) c')) := by
  have hs : ((w1.alloc O1).alloc O2).drew.heap.size = w1.heap.size + 2 := by
    show ((w1.alloc O1).alloc _).heap.size = _
    rw [World.size_alloc, World.size_alloc]
  have ho14 : Only (inA (B i)) w1 w4 := ((((Only.refl (inA (B i)) w1).alloc O1).alloc O2).drew).trans ho (fun _ _ h => h)
  have hwf := h.wf S[i] (List.getElem_mem hi)
  have hp := h.put hi (S[i] ++ [v]) ⟨by simp, fun u hu => by
    rcases List.mem_append.1 hu with hu | hu
    · exact hwf.2 u hu
    · simp at hu; subst hu; exact hv⟩ A' c' ho14 (by rw [List.map_append, List.length_append]; exact hr) (fun k hk => by
    rcases hA k hk with h1 | h1
    · exact .inl h1
    · exact .inr ⟨by omega, h1.2⟩) rfl
  rw [List.length_append] at hp
  have hb : fp b := h.fA b ((inA_some _ _ _ _).2 rfl)
  have z1 := ho1.size
  have z2 := ho14.size
  have zw : (w4.setCell ⟨b, o + i, none⟩ (.slice A' (S[i].length + 1) c')).heap.size = w4.heap.size := by simp [World.setCell]
  refine ⟨rfl, ⟨_, _, _, _, hp.mono (fun k hk _ => ?_)⟩, (ho1.trans ho14 (fun k _ hk => h.fB i k hi hk)).setCell (p := ⟨b, o + i, none⟩) (.inl hb) _⟩
  rcases hk with hk | hk
  · exact .inl hk
  · exact .inr (by rw [zw]; omega)

set_option maxRecDepth 100000 in
set_option maxHeartbeats 4000000 in
theorem rwrite_any {w : World} {fp : Nat → Prop} {g : Nat} {S : Sec} {l : Int} {A0 : Option Addr} {c0 : Nat} {B : Nat → Option Addr} {C : Nat → Nat} (h : RLay w fp g S l A0 c0 B C) (hs : Small 999999 S) (i : Nat) (hi : i < S.length) (A : Option Addr) (n c : Nat) (bs : List UInt8) (hn : n = bs.length) (hl : bs.length ≤ 64) (hr : RdF fp w A (bs.map bv)) (h0 : l ≠ 0) :
    Calls Tryd.prog 28 #[.pointer (some ⟨g, 0, none⟩), .int .i64 (i : Int), .slice A n c] w fun e w' => e = .returned (.int .i64 0) ∧ Ref w' (More fp w w') g (S.set i (S[i] ++ [pad bs])) (tick l) ∧ Only fp w w' := by
  subst hn
  have c1 : w.cell? ⟨g, 1, none⟩ = some (.int .i64 l) := h.dsk.cell 1
  have f1 : w.frozen? ⟨g, 1, none⟩ = false := h.dsk.free 1
  have k0 : w.cell? ⟨g, 0, none⟩ = some (.slice A0 S.length c0) := h.dsk.cell 0
  have hlo := h.lo
  have hhi := h.hi
  have hnn := h.n
  have hl0 : (l == 0) = false := by simpa using h0
  have d1 : decide ((i : Int) < 0) = false := decide_eq_false (by omega)
  have d2 : decide ((S.length : Int) ≤ (i : Int)) = false := decide_eq_false (by omega)
  have d3 : decide ((64 : Int) < (bs.length : Int)) = false := decide_eq_false (by omega)
  obtain ⟨t, ht⟩ : ∃ t, t = tick l := ⟨_, rfl⟩
  rw [← ht]
  have hpad := pad_length hl
  obtain ⟨z, hz⟩ : ∃ z, z = 64 - bs.length := ⟨_, rfl⟩
  have hzi : (64 : Int) - (bs.length : Int) = (z : Int) := by omega
  have hmk := fun W => make_zeros W z (by omega)
  have hwz : IntKind.i64.wrap (z : Int) = (z : Int) := by rw [IntKind.wrap_i64]; omega
  have hcat := cat_pad bs
  have hnbig : ¬ 9223372036854775807 < bs.length + z := by omega
  rw [← hz] at hcat
  have hcvb : ∀ w' : World, Rd w' A (bs.map bv) → (convert 22 9 (.slice A bs.length c)).run Tryd.prog w' = .ok (.string ⟨bs.toArray⟩) w' := fun w' hr' => conv_bytes w' A bs.length c bs rfl hr'
  clear hz
  by_cases hp : 0 < l
  · have hL1 : ∃ w1, w1 = w.setCell ⟨g, 1, none⟩ (.int .i64 (l - 1)) ∧ RLay w1 fp g S t A0 c0 B C ∧ Only (fun k => k = g) w w1 := by
      have ho : Only (fun k => k = g) w (w.setCell ⟨g, 1, none⟩ (.int .i64 (l - 1))) := (Only.refl (fun k => k = g) w).setCell (p := ⟨g, 1, none⟩) (.inl rfl) _
      have e1 : t = l - 1 := by rw [ht]; unfold tick; rw [if_pos hp]
      rw [e1]
      exact ⟨_, rfl, h.left (l - 1) (by omega) (by omega) ho (h.dsk.put 1 (.int .i64 (l - 1))), ho⟩
    obtain ⟨w1, hw1, hL1, ho1⟩ := hL1
    replace hw1 := Lib.hid hw1.symm
    go_enter Tryd.func28, Tryd.ntmps28
    go_wp2_with fail
    rw [hw1.out]
    clear c1 f1 k0
    have ho1f : Only fp w w1 := ho1.mono (fun k _ hk => by subst hk; exact h.fg)
    have hdsk1 : w1.cell? ⟨g, 0, none⟩ = some (.slice A0 S.length c0) := hL1.dsk.cell 0
    obtain ⟨b, o, rfl, hcell, hfr⟩ := hL1.row.there1 hi
    have hck := hcell _ (rvals_get S B C hi)
    have hcel := hL1.cel i hi
    have hsm := hs S[i] (List.getElem_mem hi)
    have hwf := h.wf S[i] (List.getElem_mem hi)
    have hfar := hL1.far
    have hbA : fp b := hL1.fA b ((inA_some _ _ _ _).2 rfl)
    have hlb : b < w1.heap.size := World.block_lt_of_cell? w1 _ hck
    have hlg : g < w1.heap.size := hL1.dsk.lt
    have hnB : ¬ inA (B i) b := fun hk => (hfar.2 i b hi hk).2 ((inA_some _ _ _ _).2 rfl)
    have hgb : g ≠ b := fun e => hfar.1 (e ▸ (inA_some _ _ _ _).2 rfl)
    have hr1 := hr.only ho1f
    have hSK : ∀ w' : World, (∀ k, k < w1.heap.size → ¬ inA (B i) k → k ≠ b → w'.heap[k]? = w1.heap[k]?) → w'.cell? ⟨g, 0, none⟩ = some (.slice (some ⟨b, o, none⟩) S.length c0) ∧ Rd w' A (bs.map bv) := fun w' hw' =>
      ⟨(World.cell?_of_block (a := ⟨g, 0, none⟩) (hw' g hlg (fun hk => (hfar.2 i g hi hk).1 rfl) hgb)).trans hdsk1, by
        by_cases hbs : bs.map bv = []
        · rw [hbs]; exact Rd.nil _ _
        · refine hr1.1.keep (fun ad e hlt => hw' ad.block hlt (fun hk => hr1.2 ad e hbs (hL1.fB i _ hi hk)) (fun e2 => hr1.2 ad e hbs (e2 ▸ hbA)))⟩
    replace hSK := Lib.hid hSK
    obtain ⟨O1, hO1⟩ : ∃ O1, O1 = Obj.cells (madeCells #[.int .u8 0] z) 5 := ⟨_, rfl⟩
    have hzs := zeros_str w1 z
    have hmk' : ∀ W, (Instr.makeSlice 22 (.int .i64 (z : Int)) (.int .i64 (z : Int))).run Tryd.prog W = .ok (.slice (some ⟨W.heap.size, 0, none⟩) z z) (W.alloc O1) := by rw [hO1]; exact hmk
    rw [← hO1] at hzs
    clear hmk
    replace hO1 := Lib.hid hO1
    obtain ⟨O2, hO2⟩ : ∃ O2, O2 = Obj.cells #[.string ⟨(pad bs).toArray⟩] 9 := ⟨_, rfl⟩
    have q1 : ∀ k, k < w1.heap.size → (w1.alloc O1).heap[k]? = w1.heap[k]? := fun k hk => Below.heap_alloc w1 _ k hk
    have q2 : ∀ k, k < w1.heap.size → ((w1.alloc O1).alloc O2).heap[k]? = w1.heap[k]? := fun k hk => (Below.heap_alloc _ _ k (by rw [World.size_alloc]; omega)).trans (q1 k hk)
    have e1 : (w1.alloc O1).cell? ⟨b, o + i, none⟩ = some (.slice (B i) S[i].length (C i)) := (World.cell?_of_block (a := ⟨b, o + i, none⟩) (q1 b hlb)).trans hck
    have e2 : ((w1.alloc O1).alloc O2).cell? ⟨b, o + i, none⟩ = some (.slice (B i) S[i].length (C i)) := (World.cell?_of_block (a := ⟨b, o + i, none⟩) (q2 b hlb)).trans hck
    rw [hO2] at e2
    replace q1 := Lib.hid q1
    replace q2 := Lib.hid q2
    have hrow2 : RowO ((w1.alloc O1).alloc O2).drew 9 1 (B i) S[i].length (C i) (S[i].map strV) := ((hcel.alloc _).alloc _).drew
    have hlit : Rd ((w1.alloc O1).alloc O2).drew (some ⟨w1.heap.size + 1, 0, none⟩) [.string ⟨(pad bs).toArray⟩] := by
      rw [hO2]
      exact (Rd.lit_at (w1.alloc O1) #[.string ⟨(pad bs).toArray⟩] 9 (by rw [World.size_alloc])).drew
    rw [hO2] at hrow2 hlit
    have hm1 : S[i].length + 1 ≤ maxLen := by unfold maxLen; omega
    have hm2 : (S[i].length + 1) * 16 ≤ 140737488355328 := by omega
    have hii : (i : Int) < (S.length : Int) := by omega
    rw [hO2] at q2
    go_wp2_with fail
    refine wp_region_held_drew (S := fun w' => w'.cell? ⟨g, 0, none⟩ = some (.slice (some ⟨b, o, none⟩) S.length c0) ∧ Rd w' A (bs.map bv)) (by kernel_rfl) ?_ (fun hHeld => ?_)
    · exact hSK.out _ (fun k _ _ _ => rfl)
    refine wpAnyH_take (i := 0) (v := ?_) (take_list rfl) (by kernel_rfl) (by kernel_rfl) (by kernel_rfl) (fun _ _ _ h => h) (Or.inl ⟨by rfl, ?_⟩) (by assumption) ?_
    rotate_left
    · intro w hSw
      try dsimp only at hSw
      first | (go_simp; done) | (go_simp; with_reducible rfl)
    try simp only [Act.put, List.setIfInBounds_toArray, List.set_cons_zero, List.set_cons_succ]
    refine wpAnyH_take (i := 1) (v := ?_) (take_list rfl) (by kernel_rfl) (by kernel_rfl) (by kernel_rfl) (fun _ _ _ h => h) (Or.inl ⟨by rfl, ?_⟩) (by assumption) ?_
    rotate_left
    · intro w hSw
      try dsimp only at hSw
      first | (go_simp; done) | (go_simp; with_reducible rfl)
    try simp only [Act.put, List.setIfInBounds_toArray, List.set_cons_zero, List.set_cons_succ]
    refine wpAnyH_take (i := 2) (v := ?_) (take_list rfl) (by kernel_rfl) (by kernel_rfl) (by kernel_rfl) (fun _ _ _ h => h) (Or.inl ⟨by rfl, ?_⟩) (by assumption) ?_
    rotate_left
    · intro w hSw
      try dsimp only at hSw
      first | (go_simp; done) | (go_simp; with_reducible rfl)
    try simp only [Act.put, List.setIfInBounds_toArray, List.set_cons_zero, List.set_cons_succ]
    refine wpAnyH_take (i := 3) (v := ?_) (take_list rfl) (by kernel_rfl) (by kernel_rfl) (by kernel_rfl) (fun _ _ _ h => h) (Or.inl ⟨by rfl, ?_⟩) (by assumption) ?_
    rotate_left
    · intro w hSw
      try dsimp only at hSw
      first | (go_simp; done) | (go_simp; with_reducible rfl)
    try simp only [Act.put, List.setIfInBounds_toArray, List.set_cons_zero, List.set_cons_succ]
    refine wpAnyH_take (i := 4) (v := ?_) (take_list rfl) (by kernel_rfl) (by kernel_rfl) (by kernel_rfl) (fun _ _ _ h => h) (Or.inl ⟨by rfl, ?_⟩) (by assumption) ?_
    rotate_left
    · intro w hSw
      try dsimp only at hSw
      first | (go_simp; done) | (go_simp; with_reducible rfl)
    try simp only [Act.put, List.setIfInBounds_toArray, List.set_cons_zero, List.set_cons_succ]
    refine wpAnyH_take (i := 5) (v := ?_) (take_list rfl) (by kernel_rfl) (by kernel_rfl) (by kernel_rfl) (fun _ _ _ h => h) (Or.inl ⟨by rfl, ?_⟩) (by assumption) ?_
    rotate_left
    · intro w hSw
      try dsimp only at hSw
      first | (go_simp; done) | (go_simp; with_reducible rfl)
    try simp only [Act.put, List.setIfInBounds_toArray, List.set_cons_zero, List.set_cons_succ]
    refine wpAnyH_take (i := 6) (v := ?_) (take_list rfl) (by kernel_rfl) (by kernel_rfl) (by kernel_rfl) (fun _ _ _ h => h) (Or.inl ⟨by rfl, ?_⟩) (by assumption) ?_
    rotate_left
    · intro w hSw
      try dsimp only at hSw
      first | (go_simp; done) | (go_simp; with_reducible rfl)
    try simp only [Act.put, List.setIfInBounds_toArray, List.set_cons_zero, List.set_cons_succ]
    refine wpAnyH_take (i := 7) (v := ?_) (take_list rfl) (by kernel_rfl) (by kernel_rfl) (by kernel_rfl) (fun _ _ _ h => h) (Or.inl ⟨by rfl, ?_⟩) (by assumption) ?_
    rotate_left
    · intro w hSw
      try dsimp only at hSw
      first | (go_simp; done) | (go_simp; with_reducible rfl)
    try simp only [Act.put, List.setIfInBounds_toArray, List.set_cons_zero, List.set_cons_succ]
    refine wpAnyH_take (i := 8) (v := ?_) (take_list rfl) (by kernel_rfl) (by kernel_rfl) (by kernel_rfl) (fun _ _ _ h => h) (Or.inl ⟨by rfl, ?_⟩) (by assumption) ?_
    rotate_left
    · intro w hSw
      try dsimp only at hSw
      first | (go_simp; done) | (go_simp; with_reducible rfl)
    try simp only [Act.put, List.setIfInBounds_toArray, List.set_cons_zero, List.set_cons_succ]
    refine wpAnyH_take (i := 9) (v := ?_) (take_list rfl) (by kernel_rfl) (by kernel_rfl) (by kernel_rfl) (fun _ _ _ h => h) (Or.inl ⟨by rfl, ?_⟩) (by assumption) ?_
    rotate_left
    · intro w hSw
      try dsimp only at hSw
      first | (go_simp; done) | (go_simp; with_reducible rfl)
    try simp only [Act.put, List.setIfInBounds_toArray, List.set_cons_zero, List.set_cons_succ]
    refine wpAnyH_take (i := 10) (v := ?_) (take_list rfl) (by kernel_rfl) (by kernel_rfl) (by kernel_rfl) (fun _ _ _ h => h) (Or.inl ⟨by rfl, ?_⟩) (by assumption) ?_
    rotate_left
    · intro w hSw
      try dsimp only at hSw
      first | (go_simp; done) | (go_simp; with_reducible rfl)
    try simp only [Act.put, List.setIfInBounds_toArray, List.set_cons_zero, List.set_cons_succ]
    refine wpAnyH_take (i := 12) (v := ?_) (take_list rfl) (by kernel_rfl) (by kernel_rfl) (by kernel_rfl) (fun _ _ _ h => h) (Or.inl ⟨by rfl, ?_⟩) (by assumption) ?_
    rotate_left
    · intro w hSw
      try dsimp only at hSw
      first | (go_simp; done) | (go_simp; with_reducible rfl)
    try simp only [Act.put, List.setIfInBounds_toArray, List.set_cons_zero, List.set_cons_succ]
    refine wpAnyH_take (i := 13) (v := ?_) (take_list rfl) (by kernel_rfl) (by kernel_rfl) (by kernel_rfl) (fun _ _ _ h => h) (Or.inl ⟨by rfl, ?_⟩) (by assumption) ?_
    rotate_left
    · intro w hSw
      try dsimp only at hSw
      have hcv9 := hcvb w hSw.2
      first | (go_simp; done) | (go_simp; with_reducible rfl)
    try simp only [Act.put, List.setIfInBounds_toArray, List.set_cons_zero, List.set_cons_succ]
    refine wpAnyH_take (i := 14) (v := ?_) (take_list rfl) (by kernel_rfl) (by kernel_rfl) (by kernel_rfl) (fun _ _ _ h => h) (Or.inl ⟨by rfl, ?_⟩) (by assumption) ?_
    rotate_left
    · intro w hSw
      try dsimp only at hSw
      first | (go_simp; done) | (go_simp; with_reducible rfl)
    try simp only [Act.put, List.setIfInBounds_toArray, List.set_cons_zero, List.set_cons_succ]
    refine wpAnyH_take (i := 15) (v := ?_) (take_list rfl) (by kernel_rfl) (by kernel_rfl) (by kernel_rfl) (fun _ _ _ h => h) (Or.inl ⟨by rfl, ?_⟩) (by assumption) ?_
    rotate_left
    · intro w hSw
      try dsimp only at hSw
      first | (go_simp; done) | (go_simp; with_reducible rfl)
    try simp only [Act.put, List.setIfInBounds_toArray, List.set_cons_zero, List.set_cons_succ]
    refine wpAnyH_take (i := 16) (v := ?_) (take_list rfl) (by kernel_rfl) (by kernel_rfl) (by kernel_rfl) (fun _ _ _ h => h) (Or.inl ⟨by rfl, ?_⟩) (by assumption) ?_
    rotate_left
    · intro w hSw
      try dsimp only at hSw
      first | (go_simp; done) | (go_simp; with_reducible rfl)
    try simp only [Act.put, List.setIfInBounds_toArray, List.set_cons_zero, List.set_cons_succ]
    refine wpAnyH_ready (rs := [11, 17]) (by kernel_rfl) (by simp) ?_
    refine AllReadyH.cons (take_list rfl) (fun K hK => ?_) ?_
    · skip
      go_simp
      refine hK.out _ _ ?_ (fun hHeld => ?_)
      · try dsimp only
        exact hSK.out _ (fun k _ _ _ => rfl)
      clear hK K
      refine wpAnyH_ready (rs := [17]) (by kernel_rfl) (by simp) ?_
      refine AllReadyH.cons (take_list rfl) (fun K hK => ?_) ?_
      · skip
        go_simp
        refine hK.out _ _ ?_ (fun hHeld => ?_)
        · try dsimp only
          exact hSK.out _ (fun k h1 _ _ => q1.out k h1)
        clear hK K
        refine wpAnyH_ready (rs := [18]) (by kernel_rfl) (by simp) ?_
        refine AllReadyH.cons (take_list rfl) (fun K hK => ?_) ?_
        · skip
          go_simp
          refine hK.out _ _ ?_ (fun hHeld => ?_)
          · try dsimp only
            exact hSK.out _ (fun k h1 _ _ => q1.out k h1)
          clear hK K
          refine wpAnyH_take (i := 19) (v := ?_) (take_list rfl) (by kernel_rfl) (by kernel_rfl) (by kernel_rfl) (fun _ _ _ h => h) (Or.inl ⟨by rfl, ?_⟩) (by assumption) ?_
          rotate_left
          · intro w hSw
            try dsimp only at hSw
            first | (go_simp; done) | (go_simp; with_reducible rfl)
          try simp only [Act.put, List.setIfInBounds_toArray, List.set_cons_zero, List.set_cons_succ]
          refine wpAnyH_ready (rs := [20]) (by kernel_rfl) (by simp) ?_
          refine AllReadyH.cons (take_list rfl) (fun K hK => ?_) ?_
          · skip
            go_simp
            refine hK.out _ _ ?_ (fun hHeld => ?_)
            · try dsimp only
              exact hSK.out _ (fun k h1 _ _ => q2.out k h1)
            clear hK K
            refine wpAnyH_ready (rs := [21]) (by kernel_rfl) (by simp) ?_
            refine AllReadyH.cons (take_list rfl) (fun K hK => ?_) ?_
            · skip
              refine step_appO _ rfl (.tmp 51) (.tmp 60) _ rfl _ _ 1 16 Tryd.underlying108 info_str rfl (B i) _ (C i) _ rfl hrow2 (some ⟨w1.heap.size + 1, 0, none⟩) 1 1 [.string ⟨(pad bs).toArray⟩] rfl rfl hlit ?_ ?_ hm1 hm2 ?_
              · simp; rfl
              · intro h; cases h
              intro A4 c4 w4 hrow4 ho4 hA4
              have hs4 : w1.heap.size + 2 = ((w1.alloc O1).alloc (Obj.cells #[.string ⟨(pad bs).toArray⟩] 9)).drew.heap.size := by
                show _ = ((w1.alloc O1).alloc _).heap.size
                rw [World.size_alloc, World.size_alloc]
              have q4 : ∀ k, k < w1.heap.size → ¬ inA (B i) k → w4.heap[k]? = w1.heap[k]? := fun k h1 h2 => (ho4.block k (by omega) h2).trans (q2.out k h1)
              have p4 : w4.cell? ⟨b, o + i, none⟩ = some (.slice (B i) S[i].length (C i)) := (World.cell?_of_block (a := ⟨b, o + i, none⟩) (q4 b hlb hnB)).trans hck
              have p5 : w4.frozen? ⟨b, o + i, none⟩ = false := (World.frozen?_of_block (a := ⟨b, o + i, none⟩) (q4 b hlb hnB)).trans hfr
              refine hK.out _ _ ?_ (fun hHeld => ?_)
              · try dsimp only
                exact hSK.out _ (fun k h1 h2 _ => q4 k h1 h2)
              clear hK K
              refine wpAnyH_take (i := 22) (v := ?_) (take_list rfl) (by kernel_rfl) (by kernel_rfl) (by kernel_rfl) (fun _ _ _ h => h) (Or.inl ⟨by rfl, ?_⟩) (by assumption) ?_
              rotate_left
              · intro w hSw
                try dsimp only at hSw
                first | (go_simp; done) | (go_simp; with_reducible rfl)
              try simp only [Act.put, List.setIfInBounds_toArray, List.set_cons_zero, List.set_cons_succ]
              refine wpAnyH_ready (rs := [23]) (by kernel_rfl) (by simp) ?_
              refine AllReadyH.cons (take_list rfl) (fun K hK => ?_) ?_
              · skip
                go_simp
                refine hK.out _ _ ?_ (fun hHeld => ?_)
                · try dsimp only
                  exact hSK.out _ (fun k h1 h2 h3 => (Below.heap_setCell w4 ⟨b, o + i, none⟩ _ k h3).trans (q4 k h1 h2))
                clear hK K
                refine wpAnyH_done (by kernel_rfl) ?_ _
                go_wp2
                go_ret
                exact rwrite_fin hL1 ho1f hi (pad bs) hpad O1 _ A4 c4 hrow4 ho4 hA4
              exact AllReadyH.nil
            exact AllReadyH.nil
          exact AllReadyH.nil
        exact AllReadyH.nil
      exact AllReadyH.nil
    refine AllReadyH.cons (take_list rfl) (fun K hK => ?_) ?_
    · skip
      go_simp
      refine hK.out _ _ ?_ (fun hHeld => ?_)
      · try dsimp only
        exact hSK.out _ (fun k h1 _ _ => q1.out k h1)
      clear hK K
      refine wpAnyH_ready (rs := [11, 18]) (by kernel_rfl) (by simp) ?_
      refine AllReadyH.cons (take_list rfl) (fun K hK => ?_) ?_
      · skip
        go_simp
        refine hK.out _ _ ?_ (fun hHeld => ?_)
        · try dsimp only
          exact hSK.out _ (fun k h1 _ _ => q1.out k h1)
        clear hK K
        refine wpAnyH_ready (rs := [18]) (by kernel_rfl) (by simp) ?_
        refine AllReadyH.cons (take_list rfl) (fun K hK => ?_) ?_
        · skip
          go_simp
          refine hK.out _ _ ?_ (fun hHeld => ?_)
          · try dsimp only
            exact hSK.out _ (fun k h1 _ _ => q1.out k h1)
          clear hK K
          refine wpAnyH_take (i := 19) (v := ?_) (take_list rfl) (by kernel_rfl) (by kernel_rfl) (by kernel_rfl) (fun _ _ _ h => h) (Or.inl ⟨by rfl, ?_⟩) (by assumption) ?_
          rotate_left
          · intro w hSw
            try dsimp only at hSw
            first | (go_simp; done) | (go_simp; with_reducible rfl)
          try simp only [Act.put, List.setIfInBounds_toArray, List.set_cons_zero, List.set_cons_succ]
          refine wpAnyH_ready (rs := [20]) (by kernel_rfl) (by simp) ?_
          refine AllReadyH.cons (take_list rfl) (fun K hK => ?_) ?_
          · skip
            go_simp
            refine hK.out _ _ ?_ (fun hHeld => ?_)
            · try dsimp only
              exact hSK.out _ (fun k h1 _ _ => q2.out k h1)
            clear hK K
            refine wpAnyH_ready (rs := [21]) (by kernel_rfl) (by simp) ?_
            refine AllReadyH.cons (take_list rfl) (fun K hK => ?_) ?_
            · skip
              refine step_appO _ rfl (.tmp 51) (.tmp 60) _ rfl _ _ 1 16 Tryd.underlying108 info_str rfl (B i) _ (C i) _ rfl hrow2 (some ⟨w1.heap.size + 1, 0, none⟩) 1 1 [.string ⟨(pad bs).toArray⟩] rfl rfl hlit ?_ ?_ hm1 hm2 ?_
              · simp; rfl
              · intro h; cases h
              intro A4 c4 w4 hrow4 ho4 hA4
              have hs4 : w1.heap.size + 2 = ((w1.alloc O1).alloc (Obj.cells #[.string ⟨(pad bs).toArray⟩] 9)).drew.heap.size := by
                show _ = ((w1.alloc O1).alloc _).heap.size
                rw [World.size_alloc, World.size_alloc]
              have q4 : ∀ k, k < w1.heap.size → ¬ inA (B i) k → w4.heap[k]? = w1.heap[k]? := fun k h1 h2 => (ho4.block k (by omega) h2).trans (q2.out k h1)
              have p4 : w4.cell? ⟨b, o + i, none⟩ = some (.slice (B i) S[i].length (C i)) := (World.cell?_of_block (a := ⟨b, o + i, none⟩) (q4 b hlb hnB)).trans hck
              have p5 : w4.frozen? ⟨b, o + i, none⟩ = false := (World.frozen?_of_block (a := ⟨b, o + i, none⟩) (q4 b hlb hnB)).trans hfr
              refine hK.out _ _ ?_ (fun hHeld => ?_)
              · try dsimp only
                exact hSK.out _ (fun k h1 h2 _ => q4 k h1 h2)
              clear hK K
              refine wpAnyH_take (i := 22) (v := ?_) (take_list rfl) (by kernel_rfl) (by kernel_rfl) (by kernel_rfl) (fun _ _ _ h => h) (Or.inl ⟨by rfl, ?_⟩) (by assumption) ?_
              rotate_left
              · intro w hSw
                try dsimp only at hSw
                first | (go_simp; done) | (go_simp; with_reducible rfl)
              try simp only [Act.put, List.setIfInBounds_toArray, List.set_cons_zero, List.set_cons_succ]
              refine wpAnyH_ready (rs := [23]) (by kernel_rfl) (by simp) ?_
              refine AllReadyH.cons (take_list rfl) (fun K hK => ?_) ?_
              · skip
                go_simp
                refine hK.out _ _ ?_ (fun hHeld => ?_)
                · try dsimp only
                  exact hSK.out _ (fun k h1 h2 h3 => (Below.heap_setCell w4 ⟨b, o + i, none⟩ _ k h3).trans (q4 k h1 h2))
                clear hK K
                refine wpAnyH_done (by kernel_rfl) ?_ _
                go_wp2
                go_ret
                exact rwrite_fin hL1 ho1f hi (pad bs) hpad O1 _ A4 c4 hrow4 ho4 hA4
              exact AllReadyH.nil
            exact AllReadyH.nil
          exact AllReadyH.nil
        exact AllReadyH.nil
      refine AllReadyH.cons (take_list rfl) (fun K hK => ?_) ?_
      · skip
        go_simp
        refine hK.out _ _ ?_ (fun hHeld => ?_)
        · try dsimp only
          exact hSK.out _ (fun k h1 _ _ => q1.out k h1)
        clear hK K
        refine wpAnyH_take (i := 19) (v := ?_) (take_list rfl) (by kernel_rfl) (by kernel_rfl) (by kernel_rfl) (fun _ _ _ h => h) (Or.inl ⟨by rfl, ?_⟩) (by assumption) ?_
        rotate_left
        · intro w hSw
          try dsimp only at hSw
          first | (go_simp; done) | (go_simp; with_reducible rfl)
        try simp only [Act.put, List.setIfInBounds_toArray, List.set_cons_zero, List.set_cons_succ]
        refine wpAnyH_ready (rs := [11, 20]) (by kernel_rfl) (by simp) ?_
        refine AllReadyH.cons (take_list rfl) (fun K hK => ?_) ?_
        · skip
          go_simp
          refine hK.out _ _ ?_ (fun hHeld => ?_)
          · try dsimp only
            exact hSK.out _ (fun k h1 _ _ => q1.out k h1)
          clear hK K
          refine wpAnyH_ready (rs := [20]) (by kernel_rfl) (by simp) ?_
          refine AllReadyH.cons (take_list rfl) (fun K hK => ?_) ?_
          · skip
            go_simp
            refine hK.out _ _ ?_ (fun hHeld => ?_)
            · try dsimp only
              exact hSK.out _ (fun k h1 _ _ => q2.out k h1)
            clear hK K
            refine wpAnyH_ready (rs := [21]) (by kernel_rfl) (by simp) ?_
            refine AllReadyH.cons (take_list rfl) (fun K hK => ?_) ?_
            · skip
              refine step_appO _ rfl (.tmp 51) (.tmp 60) _ rfl _ _ 1 16 Tryd.underlying108 info_str rfl (B i) _ (C i) _ rfl hrow2 (some ⟨w1.heap.size + 1, 0, none⟩) 1 1 [.string ⟨(pad bs).toArray⟩] rfl rfl hlit ?_ ?_ hm1 hm2 ?_
              · simp; rfl
              · intro h; cases h
              intro A4 c4 w4 hrow4 ho4 hA4
              have hs4 : w1.heap.size + 2 = ((w1.alloc O1).alloc (Obj.cells #[.string ⟨(pad bs).toArray⟩] 9)).drew.heap.size := by
                show _ = ((w1.alloc O1).alloc _).heap.size
                rw [World.size_alloc, World.size_alloc]
              have q4 : ∀ k, k < w1.heap.size → ¬ inA (B i) k → w4.heap[k]? = w1.heap[k]? := fun k h1 h2 => (ho4.block k (by omega) h2).trans (q2.out k h1)
              have p4 : w4.cell? ⟨b, o + i, none⟩ = some (.slice (B i) S[i].length (C i)) := (World.cell?_of_block (a := ⟨b, o + i, none⟩) (q4 b hlb hnB)).trans hck
              have p5 : w4.frozen? ⟨b, o + i, none⟩ = false := (World.frozen?_of_block (a := ⟨b, o + i, none⟩) (q4 b hlb hnB)).trans hfr
              refine hK.out _ _ ?_ (fun hHeld => ?_)
              · try dsimp only
                exact hSK.out _ (fun k h1 h2 _ => q4 k h1 h2)
              clear hK K
              refine wpAnyH_take (i := 22) (v := ?_) (take_list rfl) (by kernel_rfl) (by kernel_rfl) (by kernel_rfl) (fun _ _ _ h => h) (Or.inl ⟨by rfl, ?_⟩) (by assumption) ?_
              rotate_left
              · intro w hSw
                try dsimp only at hSw
                first | (go_simp; done) | (go_simp; with_reducible rfl)
              try simp only [Act.put, List.setIfInBounds_toArray, List.set_cons_zero, List.set_cons_succ]
              refine wpAnyH_ready (rs := [23]) (by kernel_rfl) (by simp) ?_
              refine AllReadyH.cons (take_list rfl) (fun K hK => ?_) ?_
              · skip
                go_simp
                refine hK.out _ _ ?_ (fun hHeld => ?_)
                · try dsimp only
                  exact hSK.out _ (fun k h1 h2 h3 => (Below.heap_setCell w4 ⟨b, o + i, none⟩ _ k h3).trans (q4 k h1 h2))
                clear hK K
                refine wpAnyH_done (by kernel_rfl) ?_ _
                go_wp2
                go_ret
                exact rwrite_fin hL1 ho1f hi (pad bs) hpad O1 _ A4 c4 hrow4 ho4 hA4
              exact AllReadyH.nil
            exact AllReadyH.nil
          exact AllReadyH.nil
        refine AllReadyH.cons (take_list rfl) (fun K hK => ?_) ?_
        · skip
          go_simp
          refine hK.out _ _ ?_ (fun hHeld => ?_)
          · try dsimp only
            exact hSK.out _ (fun k h1 _ _ => q2.out k h1)
          clear hK K
          refine wpAnyH_ready (rs := [11]) (by kernel_rfl) (by simp) ?_
          refine AllReadyH.cons (take_list rfl) (fun K hK => ?_) ?_
          · skip
            go_simp
            refine hK.out _ _ ?_ (fun hHeld => ?_)
            · try dsimp only
              exact hSK.out _ (fun k h1 _ _ => q2.out k h1)
            clear hK K
            refine wpAnyH_ready (rs := [21]) (by kernel_rfl) (by simp) ?_
            refine AllReadyH.cons (take_list rfl) (fun K hK => ?_) ?_
            · skip
              refine step_appO _ rfl (.tmp 51) (.tmp 60) _ rfl _ _ 1 16 Tryd.underlying108 info_str rfl (B i) _ (C i) _ rfl hrow2 (some ⟨w1.heap.size + 1, 0, none⟩) 1 1 [.string ⟨(pad bs).toArray⟩] rfl rfl hlit ?_ ?_ hm1 hm2 ?_
              · simp; rfl
              · intro h; cases h
              intro A4 c4 w4 hrow4 ho4 hA4
              have hs4 : w1.heap.size + 2 = ((w1.alloc O1).alloc (Obj.cells #[.string ⟨(pad bs).toArray⟩] 9)).drew.heap.size := by
                show _ = ((w1.alloc O1).alloc _).heap.size
                rw [World.size_alloc, World.size_alloc]
              have q4 : ∀ k, k < w1.heap.size → ¬ inA (B i) k → w4.heap[k]? = w1.heap[k]? := fun k h1 h2 => (ho4.block k (by omega) h2).trans (q2.out k h1)
              have p4 : w4.cell? ⟨b, o + i, none⟩ = some (.slice (B i) S[i].length (C i)) := (World.cell?_of_block (a := ⟨b, o + i, none⟩) (q4 b hlb hnB)).trans hck
              have p5 : w4.frozen? ⟨b, o + i, none⟩ = false := (World.frozen?_of_block (a := ⟨b, o + i, none⟩) (q4 b hlb hnB)).trans hfr
              refine hK.out _ _ ?_ (fun hHeld => ?_)
              · try dsimp only
                exact hSK.out _ (fun k h1 h2 _ => q4 k h1 h2)
              clear hK K
              refine wpAnyH_take (i := 22) (v := ?_) (take_list rfl) (by kernel_rfl) (by kernel_rfl) (by kernel_rfl) (fun _ _ _ h => h) (Or.inl ⟨by rfl, ?_⟩) (by assumption) ?_
              rotate_left
              · intro w hSw
                try dsimp only at hSw
                first | (go_simp; done) | (go_simp; with_reducible rfl)
              try simp only [Act.put, List.setIfInBounds_toArray, List.set_cons_zero, List.set_cons_succ]
              refine wpAnyH_ready (rs := [23]) (by kernel_rfl) (by simp) ?_
              refine AllReadyH.cons (take_list rfl) (fun K hK => ?_) ?_
              · skip
                go_simp
                refine hK.out _ _ ?_ (fun hHeld => ?_)
                · try dsimp only
                  exact hSK.out _ (fun k h1 h2 h3 => (Below.heap_setCell w4 ⟨b, o + i, none⟩ _ k h3).trans (q4 k h1 h2))
                clear hK K
                refine wpAnyH_done (by kernel_rfl) ?_ _
                go_wp2
                go_ret
                exact rwrite_fin hL1 ho1f hi (pad bs) hpad O1 _ A4 c4 hrow4 ho4 hA4
              exact AllReadyH.nil
            exact AllReadyH.nil
          exact AllReadyH.nil
        exact AllReadyH.nil
      exact AllReadyH.nil
    exact AllReadyH.nil
  · have hL1 : RLay w fp g S t A0 c0 B C := by
      have e1 : t = l := by rw [ht]; unfold tick; rw [if_neg hp]
      rw [e1]; exact h
    obtain ⟨w1, hw1⟩ : ∃ w1, w1 = w := ⟨_, rfl⟩
    have ho1f : Only fp w w1 := by rw [hw1]; exact Only.refl _ _
    go_enter Tryd.func28, Tryd.ntmps28
    go_wp2_with fail
    clear c1 f1 k0
    rw [← hw1] at hL1 ⊢
    replace hw1 := Lib.hid hw1
    have hdsk1 : w1.cell? ⟨g, 0, none⟩ = some (.slice A0 S.length c0) := hL1.dsk.cell 0
    obtain ⟨b, o, rfl, hcell, hfr⟩ := hL1.row.there1 hi
    have hck := hcell _ (rvals_get S B C hi)
    have hcel := hL1.cel i hi
    have hsm := hs S[i] (List.getElem_mem hi)
    have hwf := h.wf S[i] (List.getElem_mem hi)
    have hfar := hL1.far
    have hbA : fp b := hL1.fA b ((inA_some _ _ _ _).2 rfl)
    have hlb : b < w1.heap.size := World.block_lt_of_cell? w1 _ hck
    have hlg : g < w1.heap.size := hL1.dsk.lt
    have hnB : ¬ inA (B i) b := fun hk => (hfar.2 i b hi hk).2 ((inA_some _ _ _ _).2 rfl)
    have hgb : g ≠ b := fun e => hfar.1 (e ▸ (inA_some _ _ _ _).2 rfl)
    have hr1 := hr.only ho1f
    have hSK : ∀ w' : World, (∀ k, k < w1.heap.size → ¬ inA (B i) k → k ≠ b → w'.heap[k]? = w1.heap[k]?) → w'.cell? ⟨g, 0, none⟩ = some (.slice (some ⟨b, o, none⟩) S.length c0) ∧ Rd w' A (bs.map bv) := fun w' hw' =>
      ⟨(World.cell?_of_block (a := ⟨g, 0, none⟩) (hw' g hlg (fun hk => (hfar.2 i g hi hk).1 rfl) hgb)).trans hdsk1, by
        by_cases hbs : bs.map bv = []
        · rw [hbs]; exact Rd.nil _ _
        · refine hr1.1.keep (fun ad e hlt => hw' ad.block hlt (fun hk => hr1.2 ad e hbs (hL1.fB i _ hi hk)) (fun e2 => hr1.2 ad e hbs (e2 ▸ hbA)))⟩
    replace hSK := Lib.hid hSK
    obtain ⟨O1, hO1⟩ : ∃ O1, O1 = Obj.cells (madeCells #[.int .u8 0] z) 5 := ⟨_, rfl⟩
    have hzs := zeros_str w1 z
    have hmk' : ∀ W, (Instr.makeSlice 22 (.int .i64 (z : Int)) (.int .i64 (z : Int))).run Tryd.prog W = .ok (.slice (some ⟨W.heap.size, 0, none⟩) z z) (W.alloc O1) := by rw [hO1]; exact hmk
    rw [← hO1] at hzs
    clear hmk
    replace hO1 := Lib.hid hO1
    obtain ⟨O2, hO2⟩ : ∃ O2, O2 = Obj.cells #[.string ⟨(pad bs).toArray⟩] 9 := ⟨_, rfl⟩
    have q1 : ∀ k, k < w1.heap.size → (w1.alloc O1).heap[k]? = w1.heap[k]? := fun k hk => Below.heap_alloc w1 _ k hk
    have q2 : ∀ k, k < w1.heap.size → ((w1.alloc O1).alloc O2).heap[k]? = w1.heap[k]? := fun k hk => (Below.heap_alloc _ _ k (by rw [World.size_alloc]; omega)).trans (q1 k hk)
    have e1 : (w1.alloc O1).cell? ⟨b, o + i, none⟩ = some (.slice (B i) S[i].length (C i)) := (World.cell?_of_block (a := ⟨b, o + i, none⟩) (q1 b hlb)).trans hck
    have e2 : ((w1.alloc O1).alloc O2).cell? ⟨b, o + i, none⟩ = some (.slice (B i) S[i].length (C i)) := (World.cell?_of_block (a := ⟨b, o + i, none⟩) (q2 b hlb)).trans hck
    rw [hO2] at e2
    replace q1 := Lib.hid q1
    replace q2 := Lib.hid q2
    have hrow2 : RowO ((w1.alloc O1).alloc O2).drew 9 1 (B i) S[i].length (C i) (S[i].map strV) := ((hcel.alloc _).alloc _).drew
    have hlit : Rd ((w1.alloc O1).alloc O2).drew (some ⟨w1.heap.size + 1, 0, none⟩) [.string ⟨(pad bs).toArray⟩] := by
      rw [hO2]
      exact (Rd.lit_at (w1.alloc O1) #[.string ⟨(pad bs).toArray⟩] 9 (by rw [World.size_alloc])).drew
    rw [hO2] at hrow2 hlit
    have hm1 : S[i].length + 1 ≤ maxLen := by unfold maxLen; omega
    have hm2 : (S[i].length + 1) * 16 ≤ 140737488355328 := by omega
    have hii : (i : Int) < (S.length : Int) := by omega
    rw [hO2] at q2
    go_wp2_with fail
    refine wp_region_held_drew (S := fun w' => w'.cell? ⟨g, 0, none⟩ = some (.slice (some ⟨b, o, none⟩) S.length c0) ∧ Rd w' A (bs.map bv)) (by kernel_rfl) ?_ (fun hHeld => ?_)
    · exact hSK.out _ (fun k _ _ _ => rfl)
    refine wpAnyH_take (i := 0) (v := ?_) (take_list rfl) (by kernel_rfl) (by kernel_rfl) (by kernel_rfl) (fun _ _ _ h => h) (Or.inl ⟨by rfl, ?_⟩) (by assumption) ?_
    rotate_left
    · intro w hSw
      try dsimp only at hSw
      first | (go_simp; done) | (go_simp; with_reducible rfl)
    try simp only [Act.put, List.setIfInBounds_toArray, List.set_cons_zero, List.set_cons_succ]
    refine wpAnyH_take (i := 1) (v := ?_) (take_list rfl) (by kernel_rfl) (by kernel_rfl) (by kernel_rfl) (fun _ _ _ h => h) (Or.inl ⟨by rfl, ?_⟩) (by assumption) ?_
    rotate_left
    · intro w hSw
      try dsimp only at hSw
      first | (go_simp; done) | (go_simp; with_reducible rfl)
    try simp only [Act.put, List.setIfInBounds_toArray, List.set_cons_zero, List.set_cons_succ]
    refine wpAnyH_take (i := 2) (v := ?_) (take_list rfl) (by kernel_rfl) (by kernel_rfl) (by kernel_rfl) (fun _ _ _ h => h) (Or.inl ⟨by rfl, ?_⟩) (by assumption) ?_
    rotate_left
    · intro w hSw
      try dsimp only at hSw
      first | (go_simp; done) | (go_simp; with_reducible rfl)
    try simp only [Act.put, List.setIfInBounds_toArray, List.set_cons_zero, List.set_cons_succ]
    refine wpAnyH_take (i := 3) (v := ?_) (take_list rfl) (by kernel_rfl) (by kernel_rfl) (by kernel_rfl) (fun _ _ _ h => h) (Or.inl ⟨by rfl, ?_⟩) (by assumption) ?_
    rotate_left
    · intro w hSw
      try dsimp only at hSw
      first | (go_simp; done) | (go_simp; with_reducible rfl)
    try simp only [Act.put, List.setIfInBounds_toArray, List.set_cons_zero, List.set_cons_succ]
    refine wpAnyH_take (i := 4) (v := ?_) (take_list rfl) (by kernel_rfl) (by kernel_rfl) (by kernel_rfl) (fun _ _ _ h => h) (Or.inl ⟨by rfl, ?_⟩) (by assumption) ?_
    rotate_left
    · intro w hSw
      try dsimp only at hSw
      first | (go_simp; done) | (go_simp; with_reducible rfl)
    try simp only [Act.put, List.setIfInBounds_toArray, List.set_cons_zero, List.set_cons_succ]
    refine wpAnyH_take (i := 5) (v := ?_) (take_list rfl) (by kernel_rfl) (by kernel_rfl) (by kernel_rfl) (fun _ _ _ h => h) (Or.inl ⟨by rfl, ?_⟩) (by assumption) ?_
    rotate_left
    · intro w hSw
      try dsimp only at hSw
      first | (go_simp; done) | (go_simp; with_reducible rfl)
    try simp only [Act.put, List.setIfInBounds_toArray, List.set_cons_zero, List.set_cons_succ]
    refine wpAnyH_take (i := 6) (v := ?_) (take_list rfl) (by kernel_rfl) (by kernel_rfl) (by kernel_rfl) (fun _ _ _ h => h) (Or.inl ⟨by rfl, ?_⟩) (by assumption) ?_
    rotate_left
    · intro w hSw
      try dsimp only at hSw
      first | (go_simp; done) | (go_simp; with_reducible rfl)
    try simp only [Act.put, List.setIfInBounds_toArray, List.set_cons_zero, List.set_cons_succ]
    refine wpAnyH_take (i := 7) (v := ?_) (take_list rfl) (by kernel_rfl) (by kernel_rfl) (by kernel_rfl) (fun _ _ _ h => h) (Or.inl ⟨by rfl, ?_⟩) (by assumption) ?_
    rotate_left
    · intro w hSw
      try dsimp only at hSw
      first | (go_simp; done) | (go_simp; with_reducible rfl)
    try simp only [Act.put, List.setIfInBounds_toArray, List.set_cons_zero, List.set_cons_succ]
    refine wpAnyH_take (i := 8) (v := ?_) (take_list rfl) (by kernel_rfl) (by kernel_rfl) (by kernel_rfl) (fun _ _ _ h => h) (Or.inl ⟨by rfl, ?_⟩) (by assumption) ?_
    rotate_left
    · intro w hSw
      try dsimp only at hSw
      first | (go_simp; done) | (go_simp; with_reducible rfl)
    try simp only [Act.put, List.setIfInBounds_toArray, List.set_cons_zero, List.set_cons_succ]
    refine wpAnyH_take (i := 9) (v := ?_) (take_list rfl) (by kernel_rfl) (by kernel_rfl) (by kernel_rfl) (fun _ _ _ h => h) (Or.inl ⟨by rfl, ?_⟩) (by assumption) ?_
    rotate_left
    · intro w hSw
      try dsimp only at hSw
      first | (go_simp; done) | (go_simp; with_reducible rfl)
    try simp only [Act.put, List.setIfInBounds_toArray, List.set_cons_zero, List.set_cons_succ]
    refine wpAnyH_take (i := 10) (v := ?_) (take_list rfl) (by kernel_rfl) (by kernel_rfl) (by kernel_rfl) (fun _ _ _ h => h) (Or.inl ⟨by rfl, ?_⟩) (by assumption) ?_
    rotate_left
    · intro w hSw
      try dsimp only at hSw
      first | (go_simp; done) | (go_simp; with_reducible rfl)
    try simp only [Act.put, List.setIfInBounds_toArray, List.set_cons_zero, List.set_cons_succ]
    refine wpAnyH_take (i := 12) (v := ?_) (take_list rfl) (by kernel_rfl) (by kernel_rfl) (by kernel_rfl) (fun _ _ _ h => h) (Or.inl ⟨by rfl, ?_⟩) (by assumption) ?_
    rotate_left
    · intro w hSw
      try dsimp only at hSw
      first | (go_simp; done) | (go_simp; with_reducible rfl)
    try simp only [Act.put, List.setIfInBounds_toArray, List.set_cons_zero, List.set_cons_succ]
    refine wpAnyH_take (i := 13) (v := ?_) (take_list rfl) (by kernel_rfl) (by kernel_rfl) (by kernel_rfl) (fun _ _ _ h => h) (Or.inl ⟨by rfl, ?_⟩) (by assumption) ?_
    rotate_left
    · intro w hSw
      try dsimp only at hSw
      have hcv9 := hcvb w hSw.2
      first | (go_simp; done) | (go_simp; with_reducible rfl)
    try simp only [Act.put, List.setIfInBounds_toArray, List.set_cons_zero, List.set_cons_succ]
    refine wpAnyH_take (i := 14) (v := ?_) (take_list rfl) (by kernel_rfl) (by kernel_rfl) (by kernel_rfl) (fun _ _ _ h => h) (Or.inl ⟨by rfl, ?_⟩) (by assumption) ?_
    rotate_left
    · intro w hSw
      try dsimp only at hSw
      first | (go_simp; done) | (go_simp; with_reducible rfl)
    try simp only [Act.put, List.setIfInBounds_toArray, List.set_cons_zero, List.set_cons_succ]
    refine wpAnyH_take (i := 15) (v := ?_) (take_list rfl) (by kernel_rfl) (by kernel_rfl) (by kernel_rfl) (fun _ _ _ h => h) (Or.inl ⟨by rfl, ?_⟩) (by assumption) ?_
    rotate_left
    · intro w hSw
      try dsimp only at hSw
      first | (go_simp; done) | (go_simp; with_reducible rfl)
    try simp only [Act.put, List.setIfInBounds_toArray, List.set_cons_zero, List.set_cons_succ]
    refine wpAnyH_take (i := 16) (v := ?_) (take_list rfl) (by kernel_rfl) (by kernel_rfl) (by kernel_rfl) (fun _ _ _ h => h) (Or.inl ⟨by rfl, ?_⟩) (by assumption) ?_
    rotate_left
    · intro w hSw
      try dsimp only at hSw
      first | (go_simp; done) | (go_simp; with_reducible rfl)
    try simp only [Act.put, List.setIfInBounds_toArray, List.set_cons_zero, List.set_cons_succ]
    refine wpAnyH_ready (rs := [11, 17]) (by kernel_rfl) (by simp) ?_
    refine AllReadyH.cons (take_list rfl) (fun K hK => ?_) ?_
    · skip
      go_simp
      refine hK.out _ _ ?_ (fun hHeld => ?_)
      · try dsimp only
        exact hSK.out _ (fun k _ _ _ => rfl)
      clear hK K
      refine wpAnyH_ready (rs := [17]) (by kernel_rfl) (by simp) ?_
      refine AllReadyH.cons (take_list rfl) (fun K hK => ?_) ?_
      · skip
        go_simp
        refine hK.out _ _ ?_ (fun hHeld => ?_)
        · try dsimp only
          exact hSK.out _ (fun k h1 _ _ => q1.out k h1)
        clear hK K
        refine wpAnyH_ready (rs := [18]) (by kernel_rfl) (by simp) ?_
        refine AllReadyH.cons (take_list rfl) (fun K hK => ?_) ?_
        · skip
          go_simp
          refine hK.out _ _ ?_ (fun hHeld => ?_)
          · try dsimp only
            exact hSK.out _ (fun k h1 _ _ => q1.out k h1)
          clear hK K
          refine wpAnyH_take (i := 19) (v := ?_) (take_list rfl) (by kernel_rfl) (by kernel_rfl) (by kernel_rfl) (fun _ _ _ h => h) (Or.inl ⟨by rfl, ?_⟩) (by assumption) ?_
          rotate_left
          · intro w hSw
            try dsimp only at hSw
            first | (go_simp; done) | (go_simp; with_reducible rfl)
          try simp only [Act.put, List.setIfInBounds_toArray, List.set_cons_zero, List.set_cons_succ]
          refine wpAnyH_ready (rs := [20]) (by kernel_rfl) (by simp) ?_
          refine AllReadyH.cons (take_list rfl) (fun K hK => ?_) ?_
          · skip
            go_simp
            refine hK.out _ _ ?_ (fun hHeld => ?_)
            · try dsimp only
              exact hSK.out _ (fun k h1 _ _ => q2.out k h1)
            clear hK K
            refine wpAnyH_ready (rs := [21]) (by kernel_rfl) (by simp) ?_
            refine AllReadyH.cons (take_list rfl) (fun K hK => ?_) ?_
            · skip
              refine step_appO _ rfl (.tmp 51) (.tmp 60) _ rfl _ _ 1 16 Tryd.underlying108 info_str rfl (B i) _ (C i) _ rfl hrow2 (some ⟨w1.heap.size + 1, 0, none⟩) 1 1 [.string ⟨(pad bs).toArray⟩] rfl rfl hlit ?_ ?_ hm1 hm2 ?_
              · simp; rfl
              · intro h; cases h
              intro A4 c4 w4 hrow4 ho4 hA4
              have hs4 : w1.heap.size + 2 = ((w1.alloc O1).alloc (Obj.cells #[.string ⟨(pad bs).toArray⟩] 9)).drew.heap.size := by
                show _ = ((w1.alloc O1).alloc _).heap.size
                rw [World.size_alloc, World.size_alloc]
              have q4 : ∀ k, k < w1.heap.size → ¬ inA (B i) k → w4.heap[k]? = w1.heap[k]? := fun k h1 h2 => (ho4.block k (by omega) h2).trans (q2.out k h1)
              have p4 : w4.cell? ⟨b, o + i, none⟩ = some (.slice (B i) S[i].length (C i)) := (World.cell?_of_block (a := ⟨b, o + i, none⟩) (q4 b hlb hnB)).trans hck
              have p5 : w4.frozen? ⟨b, o + i, none⟩ = false := (World.frozen?_of_block (a := ⟨b, o + i, none⟩) (q4 b hlb hnB)).trans hfr
              refine hK.out _ _ ?_ (fun hHeld => ?_)
              · try dsimp only
                exact hSK.out _ (fun k h1 h2 _ => q4 k h1 h2)
              clear hK K
              refine wpAnyH_take (i := 22) (v := ?_) (take_list rfl) (by kernel_rfl) (by kernel_rfl) (by kernel_rfl) (fun _ _ _ h => h) (Or.inl ⟨by rfl, ?_⟩) (by assumption) ?_
              rotate_left
              · intro w hSw
                try dsimp only at hSw
                first | (go_simp; done) | (go_simp; with_reducible rfl)
              try simp only [Act.put, List.setIfInBounds_toArray, List.set_cons_zero, List.set_cons_succ]
              refine wpAnyH_ready (rs := [23]) (by kernel_rfl) (by simp) ?_
              refine AllReadyH.cons (take_list rfl) (fun K hK => ?_) ?_
              · skip
                go_simp
                refine hK.out _ _ ?_ (fun hHeld => ?_)
                · try dsimp only
                  exact hSK.out _ (fun k h1 h2 h3 => (Below.heap_setCell w4 ⟨b, o + i, none⟩ _ k h3).trans (q4 k h1 h2))
                clear hK K
                refine wpAnyH_done (by kernel_rfl) ?_ _
                go_wp2
                go_ret
                exact rwrite_fin hL1 ho1f hi (pad bs) hpad O1 _ A4 c4 hrow4 ho4 hA4
              exact AllReadyH.nil
            exact AllReadyH.nil
          exact AllReadyH.nil
        exact AllReadyH.nil
      exact AllReadyH.nil
    refine AllReadyH.cons (take_list rfl) (fun K hK => ?_) ?_
    · skip
      go_simp
      refine hK.out _ _ ?_ (fun hHeld => ?_)
      · try dsimp only
        exact hSK.out _ (fun k h1 _ _ => q1.out k h1)
      clear hK K
      refine wpAnyH_ready (rs := [11, 18]) (by kernel_rfl) (by simp) ?_
      refine AllReadyH.cons (take_list rfl) (fun K hK => ?_) ?_
      · skip
        go_simp
        refine hK.out _ _ ?_ (fun hHeld => ?_)
        · try dsimp only
          exact hSK.out _ (fun k h1 _ _ => q1.out k h1)
        clear hK K
        refine wpAnyH_ready (rs := [18]) (by kernel_rfl) (by simp) ?_
        refine AllReadyH.cons (take_list rfl) (fun K hK => ?_) ?_
        · skip
          go_simp
          refine hK.out _ _ ?_ (fun hHeld => ?_)
          · try dsimp only
            exact hSK.out _ (fun k h1 _ _ => q1.out k h1)
          clear hK K
          refine wpAnyH_take (i := 19) (v := ?_) (take_list rfl) (by kernel_rfl) (by kernel_rfl) (by kernel_rfl) (fun _ _ _ h => h) (Or.inl ⟨by rfl, ?_⟩) (by assumption) ?_
          rotate_left
          · intro w hSw
            try dsimp only at hSw
            first | (go_simp; done) | (go_simp; with_reducible rfl)
          try simp only [Act.put, List.setIfInBounds_toArray, List.set_cons_zero, List.set_cons_succ]
          refine wpAnyH_ready (rs := [20]) (by kernel_rfl) (by simp) ?_
          refine AllReadyH.cons (take_list rfl) (fun K hK => ?_) ?_
          · skip
            go_simp
            refine hK.out _ _ ?_ (fun hHeld => ?_)
            · try dsimp only
              exact hSK.out _ (fun k h1 _ _ => q2.out k h1)
            clear hK K
            refine wpAnyH_ready (rs := [21]) (by kernel_rfl) (by simp) ?_
            refine AllReadyH.cons (take_list rfl) (fun K hK => ?_) ?_
            · skip
              refine step_appO _ rfl (.tmp 51) (.tmp 60) _ rfl _ _ 1 16 Tryd.underlying108 info_str rfl (B i) _ (C i) _ rfl hrow2 (some ⟨w1.heap.size + 1, 0, none⟩) 1 1 [.string ⟨(pad bs).toArray⟩] rfl rfl hlit ?_ ?_ hm1 hm2 ?_
              · simp; rfl
              · intro h; cases h
              intro A4 c4 w4 hrow4 ho4 hA4
              have hs4 : w1.heap.size + 2 = ((w1.alloc O1).alloc (Obj.cells #[.string ⟨(pad bs).toArray⟩] 9)).drew.heap.size := by
                show _ = ((w1.alloc O1).alloc _).heap.size
                rw [World.size_alloc, World.size_alloc]
              have q4 : ∀ k, k < w1.heap.size → ¬ inA (B i) k → w4.heap[k]? = w1.heap[k]? := fun k h1 h2 => (ho4.block k (by omega) h2).trans (q2.out k h1)
              have p4 : w4.cell? ⟨b, o + i, none⟩ = some (.slice (B i) S[i].length (C i)) := (World.cell?_of_block (a := ⟨b, o + i, none⟩) (q4 b hlb hnB)).trans hck
              have p5 : w4.frozen? ⟨b, o + i, none⟩ = false := (World.frozen?_of_block (a := ⟨b, o + i, none⟩) (q4 b hlb hnB)).trans hfr
              refine hK.out _ _ ?_ (fun hHeld => ?_)
              · try dsimp only
                exact hSK.out _ (fun k h1 h2 _ => q4 k h1 h2)
              clear hK K
              refine wpAnyH_take (i := 22) (v := ?_) (take_list rfl) (by kernel_rfl) (by kernel_rfl) (by kernel_rfl) (fun _ _ _ h => h) (Or.inl ⟨by rfl, ?_⟩) (by assumption) ?_
              rotate_left
              · intro w hSw
                try dsimp only at hSw
                first | (go_simp; done) | (go_simp; with_reducible rfl)
              try simp only [Act.put, List.setIfInBounds_toArray, List.set_cons_zero, List.set_cons_succ]
              refine wpAnyH_ready (rs := [23]) (by kernel_rfl) (by simp) ?_
              refine AllReadyH.cons (take_list rfl) (fun K hK => ?_) ?_
              · skip
                go_simp
                refine hK.out _ _ ?_ (fun hHeld => ?_)
                · try dsimp only
                  exact hSK.out _ (fun k h1 h2 h3 => (Below.heap_setCell w4 ⟨b, o + i, none⟩ _ k h3).trans (q4 k h1 h2))
                clear hK K
                refine wpAnyH_done (by kernel_rfl) ?_ _
                go_wp2
                go_ret
                exact rwrite_fin hL1 ho1f hi (pad bs) hpad O1 _ A4 c4 hrow4 ho4 hA4
              exact AllReadyH.nil
            exact AllReadyH.nil
          exact AllReadyH.nil
        exact AllReadyH.nil
      refine AllReadyH.cons (take_list rfl) (fun K hK => ?_) ?_
      · skip
        go_simp
        refine hK.out _ _ ?_ (fun hHeld => ?_)
        · try dsimp only
          exact hSK.out _ (fun k h1 _ _ => q1.out k h1)
        clear hK K
        refine wpAnyH_take (i := 19) (v := ?_) (take_list rfl) (by kernel_rfl) (by kernel_rfl) (by kernel_rfl) (fun _ _ _ h => h) (Or.inl ⟨by rfl, ?_⟩) (by assumption) ?_
        rotate_left
        · intro w hSw
          try dsimp only at hSw
          first | (go_simp; done) | (go_simp; with_reducible rfl)
        try simp only [Act.put, List.setIfInBounds_toArray, List.set_cons_zero, List.set_cons_succ]
        refine wpAnyH_ready (rs := [11, 20]) (by kernel_rfl) (by simp) ?_
        refine AllReadyH.cons (take_list rfl) (fun K hK => ?_) ?_
        · skip
          go_simp
          refine hK.out _ _ ?_ (fun hHeld => ?_)
          · try dsimp only
            exact hSK.out _ (fun k h1 _ _ => q1.out k h1)
          clear hK K
          refine wpAnyH_ready (rs := [20]) (by kernel_rfl) (by simp) ?_
          refine AllReadyH.cons (take_list rfl) (fun K hK => ?_) ?_
          · skip
            go_simp
            refine hK.out _ _ ?_ (fun hHeld => ?_)
            · try dsimp only
              exact hSK.out _ (fun k h1 _ _ => q2.out k h1)
            clear hK K
            refine wpAnyH_ready (rs := [21]) (by kernel_rfl) (by simp) ?_
            refine AllReadyH.cons (take_list rfl) (fun K hK => ?_) ?_
            · skip
              refine step_appO _ rfl (.tmp 51) (.tmp 60) _ rfl _ _ 1 16 Tryd.underlying108 info_str rfl (B i) _ (C i) _ rfl hrow2 (some ⟨w1.heap.size + 1, 0, none⟩) 1 1 [.string ⟨(pad bs).toArray⟩] rfl rfl hlit ?_ ?_ hm1 hm2 ?_
              · simp; rfl
              · intro h; cases h
              intro A4 c4 w4 hrow4 ho4 hA4
              have hs4 : w1.heap.size + 2 = ((w1.alloc O1).alloc (Obj.cells #[.string ⟨(pad bs).toArray⟩] 9)).drew.heap.size := by
                show _ = ((w1.alloc O1).alloc _).heap.size
                rw [World.size_alloc, World.size_alloc]
              have q4 : ∀ k, k < w1.heap.size → ¬ inA (B i) k → w4.heap[k]? = w1.heap[k]? := fun k h1 h2 => (ho4.block k (by omega) h2).trans (q2.out k h1)
              have p4 : w4.cell? ⟨b, o + i, none⟩ = some (.slice (B i) S[i].length (C i)) := (World.cell?_of_block (a := ⟨b, o + i, none⟩) (q4 b hlb hnB)).trans hck
              have p5 : w4.frozen? ⟨b, o + i, none⟩ = false := (World.frozen?_of_block (a := ⟨b, o + i, none⟩) (q4 b hlb hnB)).trans hfr
              refine hK.out _ _ ?_ (fun hHeld => ?_)
              · try dsimp only
                exact hSK.out _ (fun k h1 h2 _ => q4 k h1 h2)
              clear hK K
              refine wpAnyH_take (i := 22) (v := ?_) (take_list rfl) (by kernel_rfl) (by kernel_rfl) (by kernel_rfl) (fun _ _ _ h => h) (Or.inl ⟨by rfl, ?_⟩) (by assumption) ?_
              rotate_left
              · intro w hSw
                try dsimp only at hSw
                first | (go_simp; done) | (go_simp; with_reducible rfl)
              try simp only [Act.put, List.setIfInBounds_toArray, List.set_cons_zero, List.set_cons_succ]
              refine wpAnyH_ready (rs := [23]) (by kernel_rfl) (by simp) ?_
              refine AllReadyH.cons (take_list rfl) (fun K hK => ?_) ?_
              · skip
                go_simp
                refine hK.out _ _ ?_ (fun hHeld => ?_)
                · try dsimp only
                  exact hSK.out _ (fun k h1 h2 h3 => (Below.heap_setCell w4 ⟨b, o + i, none⟩ _ k h3).trans (q4 k h1 h2))
                clear hK K
                refine wpAnyH_done (by kernel_rfl) ?_ _
                go_wp2
                go_ret
                exact rwrite_fin hL1 ho1f hi (pad bs) hpad O1 _ A4 c4 hrow4 ho4 hA4
              exact AllReadyH.nil
            exact AllReadyH.nil
          exact AllReadyH.nil
        refine AllReadyH.cons (take_list rfl) (fun K hK => ?_) ?_
        · skip
          go_simp
          refine hK.out _ _ ?_ (fun hHeld => ?_)
          · try dsimp only
            exact hSK.out _ (fun k h1 _ _ => q2.out k h1)
          clear hK K
          refine wpAnyH_ready (rs := [11]) (by kernel_rfl) (by simp) ?_
          refine AllReadyH.cons (take_list rfl) (fun K hK => ?_) ?_
          · skip
            go_simp
            refine hK.out _ _ ?_ (fun hHeld => ?_)
            · try dsimp only
              exact hSK.out _ (fun k h1 _ _ => q2.out k h1)
            clear hK K
            refine wpAnyH_ready (rs := [21]) (by kernel_rfl) (by simp) ?_
            refine AllReadyH.cons (take_list rfl) (fun K hK => ?_) ?_
            · skip
              refine step_appO _ rfl (.tmp 51) (.tmp 60) _ rfl _ _ 1 16 Tryd.underlying108 info_str rfl (B i) _ (C i) _ rfl hrow2 (some ⟨w1.heap.size + 1, 0, none⟩) 1 1 [.string ⟨(pad bs).toArray⟩] rfl rfl hlit ?_ ?_ hm1 hm2 ?_
              · simp; rfl
              · intro h; cases h
              intro A4 c4 w4 hrow4 ho4 hA4
              have hs4 : w1.heap.size + 2 = ((w1.alloc O1).alloc (Obj.cells #[.string ⟨(pad bs).toArray⟩] 9)).drew.heap.size := by
                show _ = ((w1.alloc O1).alloc _).heap.size
                rw [World.size_alloc, World.size_alloc]
              have q4 : ∀ k, k < w1.heap.size → ¬ inA (B i) k → w4.heap[k]? = w1.heap[k]? := fun k h1 h2 => (ho4.block k (by omega) h2).trans (q2.out k h1)
              have p4 : w4.cell? ⟨b, o + i, none⟩ = some (.slice (B i) S[i].length (C i)) := (World.cell?_of_block (a := ⟨b, o + i, none⟩) (q4 b hlb hnB)).trans hck
              have p5 : w4.frozen? ⟨b, o + i, none⟩ = false := (World.frozen?_of_block (a := ⟨b, o + i, none⟩) (q4 b hlb hnB)).trans hfr
              refine hK.out _ _ ?_ (fun hHeld => ?_)
              · try dsimp only
                exact hSK.out _ (fun k h1 h2 _ => q4 k h1 h2)
              clear hK K
              refine wpAnyH_take (i := 22) (v := ?_) (take_list rfl) (by kernel_rfl) (by kernel_rfl) (by kernel_rfl) (fun _ _ _ h => h) (Or.inl ⟨by rfl, ?_⟩) (by assumption) ?_
              rotate_left
              · intro w hSw
                try dsimp only at hSw
                first | (go_simp; done) | (go_simp; with_reducible rfl)
              try simp only [Act.put, List.setIfInBounds_toArray, List.set_cons_zero, List.set_cons_succ]
              refine wpAnyH_ready (rs := [23]) (by kernel_rfl) (by simp) ?_
              refine AllReadyH.cons (take_list rfl) (fun K hK => ?_) ?_
              · skip
                go_simp
                refine hK.out _ _ ?_ (fun hHeld => ?_)
                · try dsimp only
                  exact hSK.out _ (fun k h1 h2 h3 => (Below.heap_setCell w4 ⟨b, o + i, none⟩ _ k h3).trans (q4 k h1 h2))
                clear hK K
                refine wpAnyH_done (by kernel_rfl) ?_ _
                go_wp2
                go_ret
                exact rwrite_fin hL1 ho1f hi (pad bs) hpad O1 _ A4 c4 hrow4 ho4 hA4
              exact AllReadyH.nil
            exact AllReadyH.nil
          exact AllReadyH.nil
        exact AllReadyH.nil
      exact AllReadyH.nil
    exact AllReadyH.nil
end Go.Proofs.YtlpjeopeboemmaaDoor
