/-
  Texts of this claim, joined (part 8): contracts and lemmas that the last text goes by. No statement of the seat is proved here.
-/
import Derived.Test.YtdpmfcifgimleaaGreatDoorAll7
set_option linter.unusedVariables false
set_option linter.unusedSimpArgs false
/-
  The contract of sector's Copy. No statement of the seat is proved here.
-/
namespace Go.Proofs.YtdpmfcifgimleaaGreatDoor
open Go Go.RowKit

theorem info_celly : (Tryz.prog.info? 116).map (fun i => (i.zero, i.size, i.bytes)) = some (some (.agg (oneCells zerosV).toArray), 65, 88) := info_cell

set_option maxRecDepth 100000 in
/-- a list, copied -/
theorem clone_ver (A : Option Addr) (m c : Nat) (xs : List Value) (w : World) (h : RowO w 113 64 A m c xs) (h1 : ∀ u ∈ xs, u.oneCell' = true) (hm : m ≤ 1000000) :
    Calls Tryz.prog 77 #[.slice A m c] w fun e w' => ∃ A' c', e = .returned (.slice A' m c') ∧ RowO w' 113 64 A' m c' xs ∧ Below w.heap.size w w' ∧ (∀ k, inA A' k → w.heap.size ≤ k ∧ k < w'.heap.size) := by
  have he := Lib.run_eql_slice_nil (P := Tryz.prog) w 114 113 A m c 0 0 Tryz.underlying114
  rcases A with _ | ad
  · have hmc : m = 0 ∧ c = 0 := by
      rcases h.2 with ⟨_, h2, h3⟩ | ⟨g, off, cs, h2, _⟩
      · exact ⟨h2, h3⟩
      · cases h2
    obtain ⟨rfl, rfl⟩ := hmc
    have hnil : xs = [] := List.eq_nil_of_length_eq_zero (by simpa using h.1)
    subst hnil
    go_enter Tryz.func77, Tryz.ntmps77
    go_wp2
    go_ret
    exact ⟨none, 0, rfl, RowO.none_ _ _ _, Below.refl _ _, fun k hk => absurd hk (inA_none k)⟩
  · have hm1 : 0 + m ≤ maxLen := by unfold maxLen; omega
    have hm2 : (0 + m) * 64 ≤ 140737488355328 := by omega
    have hempty : RowO (w.alloc (.cells #[] 113)) 113 64 (some ⟨w.heap.size, 0, none⟩) 0 0 [] := RowO.lit w 113 64 0 #[] rfl (Nat.zero_le _) rfl
    have hl := h.1
    have hrd := (h.alloc (.cells #[] 113)).rd
    go_enter Tryz.func77, Tryz.ntmps77
    go_wp2_with (at_builtin
                 refine wpList_appO _ rfl (.tmp 5) (.tmp 6) _ rfl _ _ 64 64 Tryz.underlying114 info_ver rfl (some ⟨w.heap.size, 0, none⟩) 0 0 [] rfl hempty (some ad) m c xs rfl hl hrd h1 ?_ hm1 hm2 ?_
                 · intro h; cases h
                 intro A2 c2 w2 hrow2 honly2 hA2)
    go_ret
    rw [List.nil_append] at hrow2
    rw [Nat.zero_add] at hrow2
    have z2 := honly2.size
    rw [World.size_alloc] at z2
    have hb2 : Below w.heap.size w w2 := ((Below.refl _ w).alloc (Nat.le_refl _) _).trans (honly2.below (fun k hk => by rw [inA_some] at hk; omega) (by rw [World.size_alloc]; omega))
    refine ⟨A2, c2, by first | rfl | simp, hrow2, hb2, fun k hk => ?_⟩
    rcases hA2 k hk with h2 | h2
    · rw [inA_some] at h2; omega
    · rw [World.size_alloc] at h2; omega

set_option maxRecDepth 100000 in
/-- a list, copied -/
theorem clone_cells (A : Option Addr) (m c : Nat) (xs : List Value) (w : World) (h : RowO w 116 65 A m c xs) (h1 : ∀ u ∈ xs, u.oneCell' = true) (hm : m ≤ 1000000) :
    Calls Tryz.prog 76 #[.slice A m c] w fun e w' => ∃ A' c', e = .returned (.slice A' m c') ∧ RowO w' 116 65 A' m c' xs ∧ Below w.heap.size w w' ∧ (∀ k, inA A' k → w.heap.size ≤ k ∧ k < w'.heap.size) := by
  have he := Lib.run_eql_slice_nil (P := Tryz.prog) w 71 116 A m c 0 0 Tryz.underlying71
  rcases A with _ | ad
  · have hmc : m = 0 ∧ c = 0 := by
      rcases h.2 with ⟨_, h2, h3⟩ | ⟨g, off, cs, h2, _⟩
      · exact ⟨h2, h3⟩
      · cases h2
    obtain ⟨rfl, rfl⟩ := hmc
    have hnil : xs = [] := List.eq_nil_of_length_eq_zero (by simpa using h.1)
    subst hnil
    go_enter Tryz.func76, Tryz.ntmps76
    go_wp2
    go_ret
    exact ⟨none, 0, rfl, RowO.none_ _ _ _, Below.refl _ _, fun k hk => absurd hk (inA_none k)⟩
  · have hm1 : 0 + m ≤ maxLen := by unfold maxLen; omega
    have hm2 : (0 + m) * 88 ≤ 140737488355328 := by omega
    have hempty : RowO (w.alloc (.cells #[] 116)) 116 65 (some ⟨w.heap.size, 0, none⟩) 0 0 [] := RowO.lit w 116 65 0 #[] rfl (Nat.zero_le _) rfl
    have hl := h.1
    have hrd := (h.alloc (.cells #[] 116)).rd
    go_enter Tryz.func76, Tryz.ntmps76
    go_wp2_with (at_builtin
                 refine wpList_appO _ rfl (.tmp 5) (.tmp 6) _ rfl _ _ 65 88 Tryz.underlying71 info_celly rfl (some ⟨w.heap.size, 0, none⟩) 0 0 [] rfl hempty (some ad) m c xs rfl hl hrd h1 ?_ hm1 hm2 ?_
                 · intro h; cases h
                 intro A2 c2 w2 hrow2 honly2 hA2)
    go_ret
    rw [List.nil_append] at hrow2
    rw [Nat.zero_add] at hrow2
    have z2 := honly2.size
    rw [World.size_alloc] at z2
    have hb2 : Below w.heap.size w w2 := ((Below.refl _ w).alloc (Nat.le_refl _) _).trans (honly2.below (fun k hk => by rw [inA_some] at hk; omega) (by rw [World.size_alloc]; omega))
    refine ⟨A2, c2, by first | rfl | simp, hrow2, hb2, fun k hk => ?_⟩
    rcases hA2 k hk with h2 | h2
    · rw [inA_some] at h2; omega
    · rw [World.size_alloc] at h2; omega


theorem CelAt.row_put {w : World} {gc o : Nat} {vs : List (List UInt8)} {A : Option Addr} {c : Nat} (h : CelAt w gc o vs A c) (A' : Option Addr) (c' : Nat) (hr : RowO w 113 64 A' (vs.length - 1) c' (vs.tail.flatten.map bv)) (hA : ¬ inA A' gc) :
    CelAt (w.setCell ⟨gc, o + 64, none⟩ (.slice A' (vs.length - 1) c')) gc o vs A' c' := by
  have ho : Only (fun k => k = gc) w (w.setCell ⟨gc, o + 64, none⟩ (.slice A' (vs.length - 1) c')) := (Only.refl (fun k => k = gc) w).setCell (p := ⟨gc, o + 64, none⟩) (.inl rfl) _
  refine ⟨h.ne, h.len, fun j v hv => ?_, World.cell?_setCell_same _ _ _ h.row, hr.only ho (fun k hk e => hA (e ▸ hk))⟩
  have hj : j < 64 := by
    have := (List.getElem?_eq_some_iff.1 hv).1
    rw [List.length_map, h.lenHead] at this
    exact this
  rw [World.cell?_setCell_other _ _ _ _ (by first | (simp; done) | (simp; omega))]
  exact h.head j v hv

/-- what the loop of Copy holds -/
structure Part (w0 w : World) (g gc o K : Nat) (S : Sec) (k : Nat) (B : Nat → Option Addr) (C : Nat → Nat) : Prop where
  bel : Below w0.heap.size w0 w
  dsk : ∃ cs, Blk w g 75 cs
  c0 : w.cell? ⟨g, 0, none⟩ = some (.slice (some ⟨gc, o, none⟩) S.length K)
  blk : ∃ cs, Blk w gc 116 cs
  cel : ∀ i (hi : i < S.length), CelAt w gc (o + i * 65) S[i] (B i) (C i)
  lg : w0.heap.size ≤ g
  lgc : w0.heap.size ≤ gc
  lB : ∀ i r, i < k → i < S.length → inA (B i) r → w0.heap.size ≤ r
theorem Part.step {w0 w w1 : World} {g gc o K : Nat} {S : Sec} {k : Nat} {B : Nat → Option Addr} {C : Nat → Nat} (h : Part w0 w g gc o K S k B C) (hk : k < S.length) (hb : Below w.heap.size w w1) (A' : Option Addr) (c' : Nat)
    (hr : RowO w1 113 64 A' (S[k].length - 1) c' (S[k].tail.flatten.map bv)) (hA : ∀ r, inA A' r → w.heap.size ≤ r) :
    Part w0 (w1.setCell ⟨gc, o + k * 65 + 64, none⟩ (.slice A' (S[k].length - 1) c')) g gc o K S (k + 1) (fun j => if j = k then A' else B j) (fun j => if j = k then c' else C j) := by
  obtain ⟨cs, hblk⟩ := h.blk
  obtain ⟨ds, hdsk⟩ := h.dsk
  have hblk1 := hblk.ext hb
  have hdsk1 := hdsk.ext hb
  have hne : g ≠ gc := by
    rintro rfl
    unfold Blk at hblk1 hdsk1
    rw [hblk1] at hdsk1
    injection hdsk1 with h1
    injection h1 with _ ht
    exact absurd ht (by decide)
  have z := h.bel.size
  have hAg : ¬ inA A' gc := hr.ne_blk hblk1 (by decide)
  refine ⟨?_, ⟨_, hdsk1.far hne _⟩, ?_, ⟨_, hblk1.put _ _⟩, fun i hi => ?_, h.lg, h.lgc, fun i r hi hiS hr' => ?_⟩
  · exact below_setCells h.lgc [Value.slice A' (S[k].length - 1) c'] (o + k * 65 + 64) (h.bel.trans (hb.mono z))
  · rw [World.cell?_setCell_other _ _ _ _ (by simp)]
    exact (World.cell?_of_block (a := ⟨g, 0, none⟩) (hb.block g hdsk.lt)).trans h.c0
  · by_cases e : i = k
    · subst e
      simp only [if_true]
      exact ((h.cel i hi).ext hb).row_put A' c' hr hAg
    · simp only [if_neg e]
      have h1 := (h.cel i hi).ext hb
      exact h1.store_far (o + k * 65 + 64) [.slice A' (S[k].length - 1) c'] (by first | (simp; done) | (simp; omega)) (h1.own.ne_blk hblk1 (by decide))
  · by_cases e : i = k
    · simp only [if_pos e] at hr'
      have := hA r hr'
      omega
    · simp only [if_neg e] at hr'
      exact h.lB i r (by omega) hiS hr'

set_option maxRecDepth 100000 in
set_option maxHeartbeats 4000000 in
theorem copy_any {w : World} {fp : Nat → Prop} {g gc : Nat} {S : Sec} {l : Int} {B : Nat → Option Addr} {C : Nat → Nat} (h : Lay w fp g gc S l B C) (hs : Small 1000000 S) (hpos : 0 < S.length) :
    Calls Tryz.prog 36 #[.pointer (some ⟨g, 0, none⟩)] w fun e w' => ∃ g' gc' o K B' C', e = .returned (.pointer (some ⟨g', 0, none⟩)) ∧ View w' w.heap.size g' gc' o K S B' C' ∧ Below w.heap.size w w' := by
  obtain ⟨cs, hblk, hsz⟩ := h.row
  have h0 : w.cell? ⟨g, 0, none⟩ = some (.slice (some ⟨gc, 0, none⟩) S.length S.length) := h.dsk.cell 0
  have hn := h.n
  have hrow : RowO w 116 65 (some ⟨gc, 0, none⟩) S.length S.length cs.toList := ⟨by simpa using hsz, .inr ⟨gc, 0, cs, rfl, Nat.le_refl _, by unfold maxLen; omega, hblk, by omega, fun j u hu => by simpa using hu⟩⟩
  have hone : ∀ u ∈ cs.toList, u.oneCell' = true := fun u hu => by
    obtain ⟨p, hp, rfl⟩ := List.mem_iff_getElem.1 hu
    have hp' : p < S.length * 65 := by rw [← hsz]; simpa using hp
    have hi : p / 65 < S.length := by omega
    have hc := h.cel (p / 65) hi
    have hcp : w.cell? ⟨gc, p, none⟩ = some cs.toList[p] := by rw [hblk.cell]; simp [show p < cs.size by omega]
    by_cases ht : p % 65 < 64
    · have hv : ((S[p / 65].headD []).map bv)[p % 65]? = some (((S[p / 65].headD []).map bv)[p % 65]'(by rw [List.length_map, hc.lenHead]; exact ht)) := List.getElem?_eq_getElem _
      have h1 := hc.head (p % 65) _ hv
      rw [show p / 65 * 65 + p % 65 = p by omega, hcp] at h1
      injection h1 with h1
      rw [h1]
      exact bvs_one _ _ (List.getElem_mem _)
    · have h1 := hc.row
      rw [show p / 65 * 65 + 64 = p by omega, hcp] at h1
      injection h1 with h1
      rw [h1]; rfl
  go_enter Tryz.func36, Tryz.ntmps36
  go_wp2_with fail
  refine (clone_cells (some ⟨gc, 0, none⟩) S.length S.length cs.toList w hrow hone (by omega)).mono ?_
  rintro e w1 ⟨A1, c1, rfl, hrow1, hb1, hA1⟩
  rcases hrow1.2 with ⟨_, hz, _⟩ | ⟨gc1, o1, cs1, rfl, _, _, hblk1, hsz1, hc1⟩
  · omega
  have z1 := hb1.size
  have hgc1 := hA1 gc1 ((inA_some _ _ _ _).2 rfl)
  have hpart : Part w (w1.alloc (.cells #[.slice (some ⟨gc1, o1, none⟩) S.length c1, .bool false, .int .i64 0] 75)) w1.heap.size gc1 o1 c1 S 0 B C := by
    have hba : Below w1.heap.size w1 (w1.alloc (.cells #[.slice (some ⟨gc1, o1, none⟩) S.length c1, .bool false, .int .i64 0] 75)) := (Below.refl _ _).alloc (Nat.le_refl _) _
    refine ⟨hb1.trans (hba.mono z1), ⟨_, Blk.new _ _ _⟩, (Blk.new w1 75 #[.slice (some ⟨gc1, o1, none⟩) S.length c1, .bool false, .int .i64 0]).cell 0, ⟨_, hblk1.alloc _⟩, fun i hi => ?_, by omega, hgc1.1, fun i r hi => by omega⟩
    have hc := h.cel i hi
    have hcopy : ∀ p u, p < 65 → w.cell? ⟨gc, i * 65 + p, none⟩ = some u → w1.cell? ⟨gc1, o1 + i * 65 + p, none⟩ = some u := fun p u hp hu => by
      rw [hblk1.cell, Nat.add_assoc]
      refine hc1 (i * 65 + p) u ?_
      rw [hblk.cell] at hu
      simpa using hu
    have hnew : CelAt w1 gc1 (o1 + i * 65) S[i] (B i) (C i) := ⟨hc.ne, hc.len, fun j v hv => by
      have hj : j < 64 := by
        have := (List.getElem?_eq_some_iff.1 hv).1
        rw [List.length_map, hc.lenHead] at this
        exact this
      exact hcopy j v (by omega) (hc.head j v hv), hcopy 64 _ (by omega) hc.row, hc.own.ext hb1⟩
    exact hnew.ext hba
  clear hrow hone hrow1 hblk1 hc1 hA1 hsz1
  have hgo := h.n
  go_wp2
  go_loopw [4, 19] (fun _ i wr => ∃ (k : Nat) (B1 : Nat → Option Addr) (C1 : Nat → Nat), k ≤ S.length ∧ i = .int .i64 (k : Int) ∧ Part w wr w1.heap.size gc1 o1 c1 S k B1 C1) (fun _ i _ => S.length - (intOf i).toNat)
  case atStart => exact ⟨0, B, C, Nat.zero_le _, rfl, hpart⟩
  case round =>
    clear hpart
    obtain ⟨k, B1, C1, hk, rfl, hP⟩ := hrel
    have hc0 := hP.c0
    by_cases hlt : k < S.length
    · have hki : (k : Int) < (S.length : Int) := by omega
      have hcel := hP.cel k hlt
      have hrow64 := hcel.row
      have hsm := hs S[k] (List.getElem_mem hlt)
      obtain ⟨csb, hblkb⟩ := hP.blk
      obtain ⟨dsb, hdskb⟩ := hP.dsk
      have hne : w1.heap.size ≠ gc1 := by
        intro e
        unfold Blk at hblkb hdskb
        rw [e, hblkb] at hdskb
        injection hdskb with h1
        injection h1 with _ ht
        exact absurd ht (by decide)
      have hlg := hdskb.lt
      have hlgc := hblkb.lt
      have hclone := clone_ver (B1 k) (S[k].length - 1) (C1 k) _ wr.drew hcel.own.drew (bvs_one _) (by omega)
      have hKp : ∀ w' : World, w'.heap[w1.heap.size]? = wr.heap[w1.heap.size]? → w'.cell? ⟨w1.heap.size, 0, none⟩ = some (.slice (some ⟨gc1, o1, none⟩) S.length c1) := fun w' hw => (World.cell?_of_block (a := ⟨w1.heap.size, 0, none⟩) hw).trans hc0
      replace hKp := Lib.hid hKp
      go_wp2_with fail
      refine wp_region_held_drew (S := fun w' => w'.cell? ⟨w1.heap.size, 0, none⟩ = some (.slice (some ⟨gc1, o1, none⟩) S.length c1)) (by kernel_rfl) ?_ (fun hHeld => ?_)
      · exact hKp.out _ rfl
      refine wpAnyH_take (i := 0) (v := ?_) (take_list rfl) (by kernel_rfl) (by kernel_rfl) (by kernel_rfl) (fun _ _ _ h => h) (Or.inl ⟨by rfl, ?_⟩) (by assumption) ?_
      rotate_left
      · intro w hSw
        try dsimp only at hSw
        first | (go_simp; done) | (go_simp; with_reducible rfl)
      try simp only [Act.put, List.setIfInBounds_toArray, List.set_cons_zero, List.set_cons_succ]
      refine wpAnyH_take (i := 1) (v := ?_) (take_list rfl) (by kernel_rfl) (by kernel_rfl) (by kernel_rfl) (fun _ _ _ h => h) (Or.inl ⟨by rfl, ?_⟩) (by assumption) ?_
      rotate_left
      · intro w hSw
        try dsimp only at hSw
        first | (go_simp; done) | (go_simp; with_reducible rfl)
      try simp only [Act.put, List.setIfInBounds_toArray, List.set_cons_zero, List.set_cons_succ]
      refine wpAnyH_take (i := 2) (v := ?_) (take_list rfl) (by kernel_rfl) (by kernel_rfl) (by kernel_rfl) (fun _ _ _ h => h) (Or.inl ⟨by rfl, ?_⟩) (by assumption) ?_
      rotate_left
      · intro w hSw
        try dsimp only at hSw
        first | (go_simp; done) | (go_simp; with_reducible rfl)
      try simp only [Act.put, List.setIfInBounds_toArray, List.set_cons_zero, List.set_cons_succ]
      refine wpAnyH_take (i := 3) (v := ?_) (take_list rfl) (by kernel_rfl) (by kernel_rfl) (by kernel_rfl) (fun _ _ _ h => h) (Or.inl ⟨by rfl, ?_⟩) (by assumption) ?_
      rotate_left
      · intro w hSw
        try dsimp only at hSw
        first | (go_simp; done) | (go_simp; with_reducible rfl)
      try simp only [Act.put, List.setIfInBounds_toArray, List.set_cons_zero, List.set_cons_succ]
      refine wpAnyH_take (i := 4) (v := ?_) (take_list rfl) (by kernel_rfl) (by kernel_rfl) (by kernel_rfl) (fun _ _ _ h => h) (Or.inl ⟨by rfl, ?_⟩) (by assumption) ?_
      rotate_left
      · intro w hSw
        try dsimp only at hSw
        first | (go_simp; done) | (go_simp; with_reducible rfl)
      try simp only [Act.put, List.setIfInBounds_toArray, List.set_cons_zero, List.set_cons_succ]
      refine wpAnyH_take (i := 5) (v := ?_) (take_list rfl) (by kernel_rfl) (by kernel_rfl) (by kernel_rfl) (fun _ _ _ h => h) (Or.inl ⟨by rfl, ?_⟩) (by assumption) ?_
      rotate_left
      · intro w hSw
        try dsimp only at hSw
        first | (go_simp; done) | (go_simp; with_reducible rfl)
      try simp only [Act.put, List.setIfInBounds_toArray, List.set_cons_zero, List.set_cons_succ]
      refine wpAnyH_take (i := 6) (v := ?_) (take_list rfl) (by kernel_rfl) (by kernel_rfl) (by kernel_rfl) (fun _ _ _ h => h) (Or.inl ⟨by rfl, ?_⟩) (by assumption) ?_
      rotate_left
      · intro w hSw
        try dsimp only at hSw
        first | (go_simp; done) | (go_simp; with_reducible rfl)
      try simp only [Act.put, List.setIfInBounds_toArray, List.set_cons_zero, List.set_cons_succ]
      refine wpAnyH_take (i := 7) (v := ?_) (take_list rfl) (by kernel_rfl) (by kernel_rfl) (by kernel_rfl) (fun _ _ _ h => h) (Or.inl ⟨by rfl, ?_⟩) (by assumption) ?_
      rotate_left
      · intro w hSw
        try dsimp only at hSw
        first | (go_simp; done) | (go_simp; with_reducible rfl)
      try simp only [Act.put, List.setIfInBounds_toArray, List.set_cons_zero, List.set_cons_succ]
      refine wpAnyH_take (i := 8) (v := ?_) (take_list rfl) (by kernel_rfl) (by kernel_rfl) (by kernel_rfl) (fun _ _ _ h => h) (Or.inl ⟨by rfl, ?_⟩) (by assumption) ?_
      rotate_left
      · intro w hSw
        try dsimp only at hSw
        first | (go_simp; done) | (go_simp; with_reducible rfl)
      try simp only [Act.put, List.setIfInBounds_toArray, List.set_cons_zero, List.set_cons_succ]
      refine wpAnyH_take (i := 9) (v := ?_) (take_list rfl) (by kernel_rfl) (by kernel_rfl) (by kernel_rfl) (fun _ _ _ h => h) (Or.inl ⟨by rfl, ?_⟩) (by assumption) ?_
      rotate_left
      · intro w hSw
        try dsimp only at hSw
        first | (go_simp; done) | (go_simp; with_reducible rfl)
      try simp only [Act.put, List.setIfInBounds_toArray, List.set_cons_zero, List.set_cons_succ]
      refine wpAnyH_take (i := 10) (v := ?_) (take_list rfl) (by kernel_rfl) (by kernel_rfl) (by kernel_rfl) (fun _ _ _ h => h) (Or.inl ⟨by rfl, ?_⟩) (by assumption) ?_
      rotate_left
      · intro w hSw
        try dsimp only at hSw
        first | (go_simp; done) | (go_simp; with_reducible rfl)
      try simp only [Act.put, List.setIfInBounds_toArray, List.set_cons_zero, List.set_cons_succ]
      refine wpAnyH_take (i := 11) (v := ?_) (take_list rfl) (by kernel_rfl) (by kernel_rfl) (by kernel_rfl) (fun _ _ _ h => h) (Or.inl ⟨by rfl, ?_⟩) (by assumption) ?_
      rotate_left
      · intro w hSw
        try dsimp only at hSw
        first | (go_simp; done) | (go_simp; with_reducible rfl)
      try simp only [Act.put, List.setIfInBounds_toArray, List.set_cons_zero, List.set_cons_succ]
      refine wpAnyH_ready (rs := [12]) (by kernel_rfl) (by simp) ?_
      refine AllReadyH.cons (take_list rfl) (fun K hK => ?_) ?_
      · skip
        go_simp
        refine hK.out _ _ ?_ (fun hHeld => ?_)
        · try dsimp only
          exact hKp.out _ rfl
        clear hK K
        refine wpAnyH_ready (rs := [13]) (by kernel_rfl) (by simp) ?_
        refine AllReadyH.cons (take_list rfl) (fun K hK => ?_) ?_
        · skip
          go_simp
          go_wp2_with (go_at_call 77; refine hclone.mono ?_; rintro e w3 ⟨A3, c3, rfl, hrow3, hb3', hA3⟩; have hb3 : Below wr.heap.size wr w3 := ⟨hb3'.os, hb3'.tape, hb3'.output, hb3'.size, hb3'.block⟩)
          have hst := hP.step hlt hb3 A3 c3 hrow3 (fun r hr => (hA3 r hr).1)
          have p3 : w3.cell? ⟨gc1, o1 + k * 65 + 64, none⟩ = some (.slice (B1 k) (S[k].length - 1) (C1 k)) := (World.cell?_of_block (a := ⟨gc1, o1 + k * 65 + 64, none⟩) (hb3.block gc1 hlgc)).trans hrow64
          have p4 : w3.frozen? ⟨gc1, o1 + k * 65 + 64, none⟩ = false := (World.frozen?_of_block (a := ⟨gc1, o1 + k * 65 + 64, none⟩) (hb3.block gc1 hlgc)).trans (hblkb.free _)
          replace hst := Lib.hid hst
          refine hK.out _ _ ?_ (fun hHeld => ?_)
          · try dsimp only
            exact hKp.out _ (hb3.block _ hlg)
          clear hK K
          refine wpAnyH_take (i := 14) (v := ?_) (take_list rfl) (by kernel_rfl) (by kernel_rfl) (by kernel_rfl) (fun _ _ _ h => h) (Or.inl ⟨by rfl, ?_⟩) (by assumption) ?_
          rotate_left
          · intro w hSw
            try dsimp only at hSw
            first | (go_simp; done) | (go_simp; with_reducible rfl)
          try simp only [Act.put, List.setIfInBounds_toArray, List.set_cons_zero, List.set_cons_succ]
          refine wpAnyH_take (i := 15) (v := ?_) (take_list rfl) (by kernel_rfl) (by kernel_rfl) (by kernel_rfl) (fun _ _ _ h => h) (Or.inl ⟨by rfl, ?_⟩) (by assumption) ?_
          rotate_left
          · intro w hSw
            try dsimp only at hSw
            first | (go_simp; done) | (go_simp; with_reducible rfl)
          try simp only [Act.put, List.setIfInBounds_toArray, List.set_cons_zero, List.set_cons_succ]
          refine wpAnyH_ready (rs := [16]) (by kernel_rfl) (by simp) ?_
          refine AllReadyH.cons (take_list rfl) (fun K hK => ?_) ?_
          · skip
            go_simp
            refine hK.out _ _ ?_ (fun hHeld => ?_)
            · try dsimp only
              exact hKp.out _ ((Below.heap_setCell w3 ⟨gc1, o1 + k * 65 + 64, none⟩ _ w1.heap.size hne).trans (hb3.block _ hlg))
            clear hK K
            refine wpAnyH_done (by kernel_rfl) ?_ _
            go_wp2
            go_roundw
            case rel => exact ⟨k + 1, _, _, by omega, by go_num, hst.out⟩
            case measure => simp [intOf]; omega
          exact AllReadyH.nil
        exact AllReadyH.nil
      exact AllReadyH.nil
    · obtain rfl : k = S.length := by omega
      go_wp2
      go_ret
      exact ⟨w1.heap.size, gc1, o1, c1, B1, C1, rfl, ⟨hgo, hP.c0, hP.cel, hP.lg, hP.lgc, fun i r hi hr => hP.lB i r hi hi hr⟩, hP.bel⟩
end Go.Proofs.YtdpmfcifgimleaaGreatDoor

/-
  The walk of VaultFull. No statement of the seat is proved here.
-/
namespace Go.Proofs.YtdpmfcifgimleaaGreatDoor
open Go Go.RowKit

set_option maxRecDepth 100000 in
set_option maxHeartbeats 8000000 in
theorem vfu_walk (n : Int) (hn : isInt n) (A : Option Addr) (m c : Nat) (acs : List Act4) (W : World) (ht : Tab W) (hm : m = acs.length) (h : Acts4 W A acs) (hbk : (acs.map Act4.wt).sum ≤ 1048576) :
    Calls Tryz.prog 6 #[.int .i64 n, .slice A m c] W fun e w' => e = .returned (.bool true) ∧ Below W.heap.size W w' := by
  have hlong := long4_any W A m c acs hm h hbk
  have hall : acs.length ≤ 1048576 := by
    have := len_le_sum Act4.wt acs (fun a _ => by unfold Act4.wt; omega)
    omega
  subst hm
  have Hlong := Lib.hid hlong
  clear hlong
  unfold isInt at hn
  by_cases hr : 32 ≤ n ∧ n ≤ 80
  · obtain ⟨k, rfl⟩ : ∃ k : Nat, n = (k : Int) := ⟨n.toNat, by omega⟩
    obtain ⟨hr1, hr2⟩ := hr
    have hzl : (zeroS k).length = k := by simp [zeroS]
    have hfm := fun (w2 : World) (gd : Nat) (hI : Imp w2 (Born W w2) gd (zeroS k) (-1)) (hb : Below W.heap.size W w2) => step_vformat hI hb ht (small_mono (small_zero k) (by omega)) (by rw [hzl]; omega)
    rw [hzl] at hfm
    have Hfm := Lib.hid hfm
    clear hfm hzl
    go_enter Tryz.func6, Tryz.ntmps6
    go_wp2_with fail
    refine Hlong.out.mono ?_
    rintro e w1 ⟨b, rfl, hb1, hsm⟩
    cases b
    case true =>
      clear hsm
      go_wp2
      go_ret
      exact ⟨rfl, hb1⟩
    have Hsm := Lib.hid (hsm rfl)
    clear hsm
    go_wp2_with fail
    refine (new_step k W w1 hb1 (by omega) (by omega)).mono ?_
    rintro e w2 ⟨gd, rfl, hI2, hb2⟩
    go_wp2_with fail
    refine (Hfm.out w2 gd hI2 hb2).mono ?_
    rintro e w3 ⟨g, gs, v, rfl, hO, hG, -⟩
    go_wp2
    go_loopw [9] (fun i wr => ∃ (j : Nat) (v : VauS), j ≤ acs.length ∧ j ≤ 25 ∧ i = .int .i64 (j : Int) ∧ OwnV W wr g gs gd v ∧ Good k (j + 1) v) (fun i _ => acs.length - (intOf i).toNat)
    case atStart => exact ⟨0, v, Nat.zero_le _, Nat.zero_le _, rfl, hO, hG⟩
    case round =>
      clear hO hG hI2 hb1 hb2
      obtain ⟨j, v, hj, hj25, rfl, hO, hG⟩ := hrel
      by_cases hlt : j < acs.length
      · by_cases hlt6 : j < 25
        · obtain ⟨b, o, G, cG, P, cP, Q, cQ, rfl, ha, hok⟩ := h j _ (List.getElem?_eq_getElem hlt)
          have hw := Hsm.out j hlt6 hlt
          have hjl : (j : Int) < (acs.length : Int) := by omega
          have hj6 : (j : Int) < 25 := by omega
          have HG := Lib.hid hG
          clear hG
          obtain ⟨a, hae⟩ : ∃ a, acs[j] = a := ⟨_, rfl⟩
          rw [hae] at ha hok hw
          clear hae
          have c0 := (ha.ext hO.bel).c0
          by_cases hk1 : a.kind = 1
          · rw [hk1] at c0
            have hcnt := HG.out.count
            have hSl := HG.out.len
            have hsS := HG.out.small 1000000 (by omega)
            have hT := told_any hO HG.out
            have HT := Lib.hid hT
            have HSl := Lib.hid hSl
            clear hT hSl
            go_wp2_with fail
            refine HT.out.mono ?_
            rintro e w4 ⟨At, ct, rfl, hN4⟩
            obtain ⟨gc0, B0, C0, hL0⟩ := (hO.ext hN4.bel).imp
            go_wp2_with fail
            refine (copy_any hL0 hsS (by have := HSl.out; omega)).mono ?_
            rintro e w5 ⟨gc, gcc, oc, Kc, Bc, Cc, rfl, hV5, hb5⟩
            clear hL0
            have hb45 : Below wr.heap.size wr w5 := ext_trans hN4.bel hb5
            have ha5 := ha.ext (ext_trans hO.bel hb45)
            have c2 := ha5.c2
            have c3 := ha5.c3
            have hcm := act_commit hO (ext_drew hb45) HG.out (by omega) ha hw
            have Hcm := Lib.hid hcm
            clear hcm ha5
            go_wp2_with fail
            go_still_tail 11, (by kernel_rfl)
            change wpList _ _ _ _ _ w5.drew
            go_wp2_with fail
            refine Hcm.out.mono ?_
            rintro e w6 ⟨z, v', rfl, hO6, hG6, ho6, hz⟩
            have HG6 := Lib.hid hG6
            clear hG6 Hcm c2 c3 c0
            rcases hz with rfl | ⟨z1, z5, rfl⟩
            · go_wp2
              go_roundw
              case rel => exact ⟨j + 1, v', by omega, by omega, by go_num, hO6, HG6.out⟩
              case measure => simp [intOf]; omega
            · have hzb : (z == 0) = false := by rw [beq_eq_false_iff_ne]; omega
              have hwas : Rd w6 At ((toldL v'.s.S v'.L).map strV) := (((hN4.row.rd).ext hb5).drew).only ho6 (fun ad e _ hk => by
                have h1 := hN4.2.2 ad.block ⟨ad, e, rfl⟩
                have := hk.2
                omega)
              have hV6 := (hV5.keep (w' := w5.drew) (fun k _ _ => rfl)).keep (w' := w6) (fun k hk hlt => ho6.block k hlt (fun hb => by
                have h1 := hN4.bel.size
                have := hb.2
                omega))
              have hT2 := told_any hO6 HG6.out
              have HT2 := Lib.hid hT2
              have Hwas := Lib.hid hwas
              have htl : (toldL v'.s.S v'.L).length = 2 * v'.L.length := toldL_length _ _
              have Htl := Lib.hid htl
              have hdead := HG6.out.dead
              clear hT2 hwas htl hN4 hV5 hb5 hb45 ho6
              go_wp2_with fail
              refine HT2.out.mono ?_
              rintro e w7 ⟨At2, ct2, rfl, hN7⟩
              have htx := texts_any At2 ct2 (toldL v'.s.S v'.L) hN7.row.rd At ct (toldL v'.s.S v'.L) (Hwas.out.ext hN7.bel) (by rw [Htl.out]; omega) (by rw [Htl.out]; omega)
              rw [Htl.out, decide_eq_true rfl] at htx
              have Htx := Lib.hid htx
              clear htx
              go_wp2_with fail
              refine Htx.out.mono ?_
              rintro e w8 ⟨rfl, hb8⟩
              have hb78 := ext_trans hN7.bel hb8
              have hO8 := hO6.ext hb78
              have hde := step_vdead hO8
              rw [hdead] at hde
              have Hde := Lib.hid hde
              clear hde hdead hN7 hb8 HT2
              go_wp2_with fail
              refine Hde.out.mono ?_
              rintro e w9 ⟨rfl, rfl⟩
              have hV8 := hV6.ext hb78
              obtain ⟨gc8, B8, C8, hL8⟩ := hO8.imp
              have hwf := hL8.wf
              have Hwf := Lib.hid hwf
              have HSl8 := Lib.hid HG6.out.len
              have hsS8 := HG6.out.small 1000000 (by omega)
              clear hV6 hb78 hO6 hwf
              go_wp2
              obtain ⟨wo, hwo⟩ : ∃ wo : World, wo = wr := ⟨_, rfl⟩
              subst hwo
              go_loopw [12] (fun i wr => ∃ q : Nat, q ≤ k ∧ i = .int .i64 (q : Int) ∧ Below w8.heap.size w8 wr) (fun i _ => k - (intOf i).toNat)
              case atStart => exact ⟨0, Nat.zero_le _, rfl, Below.refl _ _⟩
              case round =>
                obtain ⟨q, hq, rfl, hb⟩ := hrel
                by_cases hql : q < k
                · have hqi : (q : Int) < (k : Int) := by omega
                  have hqS : q < v'.s.S.length := by rw [HSl8.out]; exact hql
                  have hr1 := read_ok (hL8.ext hb) hsS8 q hqS
                  have Hr1 := Lib.hid hr1
                  clear hr1
                  go_wp2_with fail
                  refine Hr1.out.mono ?_
                  rintro e w10 ⟨g8, rfl, hb10, hk8, _⟩
                  have hbr8 := ext_trans hb hb10
                  have hr2 := readOk_v (hV8.ext hbr8) hsS8 q hqS
                  have Hr2 := Lib.hid hr2
                  clear hr2
                  go_wp2_with fail
                  refine Hr2.out.mono ?_
                  rintro e w11 ⟨g9, rfl, hb11, hk9, _⟩
                  have hl64 : (lastOf v'.s.S[q]).length = 64 := (Hwf.out v'.s.S[q] (List.getElem_mem hqS)).2 _ (lastOf_mem (Hwf.out v'.s.S[q] (List.getElem_mem hqS)).1)
                  have hcv1 := conv_bytes w11 (some ⟨g8, 0, none⟩) 64 64 (lastOf v'.s.S[q]) hl64.symm ((Rd.blk (w := w10) hk8).ext hb11)
                  have hcv2 := conv_bytes w11 (some ⟨g9, 0, none⟩) 64 64 (lastOf v'.s.S[q]) hl64.symm (Rd.blk (w := w11) hk9)
                  generalize (⟨(lastOf v'.s.S[q]).toArray⟩ : ByteArray) = Z at hcv1 hcv2
                  clear Hr1 Hr2 hk8 hk9 hl64
                  go_wp2
                  go_roundw
                  case rel => exact ⟨q + 1, by omega, by go_num, ext_trans hbr8 hb11⟩
                  case measure => simp [intOf]; omega
                · obtain rfl : q = k := by omega
                  go_wp2
                  go_roundw
                  case rel => exact ⟨j + 1, v', by omega, by omega, by go_num, hO8.ext hb, HG6.out⟩
                  case measure => simp [intOf]; omega
          · have hk1b : (a.kind == 1) = false := by simpa using hk1
            have hk1c : (a.kind != 1) = true := by simpa using hk1
            go_wp2
            go_roundw
            case rel => exact ⟨j + 1, v, by omega, by omega, by go_num, hO, HG.out.mono (by omega)⟩
            case measure => simp [intOf]; omega
        · obtain rfl : j = 25 := by omega
          go_wp2_with fail
          refine (known_any wr hO.tb).mono ?_
          rintro e w4 ⟨rfl, hb4⟩
          go_wp2
          go_ret
          exact ⟨rfl, ext_trans hO.bel hb4⟩
      · obtain rfl : j = acs.length := by omega
        go_wp2_with fail
        refine (known_any wr hO.tb).mono ?_
        rintro e w4 ⟨rfl, hb4⟩
        go_wp2
        go_ret
        exact ⟨rfl, ext_trans hO.bel hb4⟩
  · go_enter Tryz.func6, Tryz.ntmps6
    go_wp2_with fail
    refine Hlong.out.mono ?_
    rintro e w1 ⟨b, rfl, hb1, -⟩
    rcases Int.lt_or_le n 32 with h1 | h1
    · cases b
      all_goals
        go_wp2
        go_ret
        exact ⟨rfl, hb1⟩
    · have h2 : 80 < n := by omega
      cases b
      all_goals
        go_wp2
        go_ret
        exact ⟨rfl, hb1⟩
end Go.Proofs.YtdpmfcifgimleaaGreatDoor
