/-
  The contract of sector's Copy. No statement of the seat is proved here.
-/
import Derived.Test.YthicjnnlbnjjmaaView
namespace Go.Proofs.Ythicjnnlbnjjmaa
open Go Go.RowKit

theorem info_celly : (Try.prog.info? 70).map (fun i => (i.zero, i.size, i.bytes)) = some (some (.agg (oneCells zerosV).toArray), 65, 88) := info_cell

set_option maxRecDepth 100000 in
/-- a list, copied -/
theorem clone_ver (A : Option Addr) (m c : Nat) (xs : List Value) (w : World) (h : RowO w 67 64 A m c xs) (h1 : ∀ u ∈ xs, u.oneCell' = true) (hm : m ≤ 1000000) :
    Calls Try.prog 38 #[.slice A m c] w fun e w' => ∃ A' c', e = .returned (.slice A' m c') ∧ RowO w' 67 64 A' m c' xs ∧ Below w.heap.size w w' ∧ (∀ k, inA A' k → w.heap.size ≤ k ∧ k < w'.heap.size) := by
  have he := Lib.run_eql_slice_nil (P := Try.prog) w 68 67 A m c 0 0 Try.underlying68
  rcases A with _ | ad
  · have hmc : m = 0 ∧ c = 0 := by
      rcases h.2 with ⟨_, h2, h3⟩ | ⟨g, off, cs, h2, _⟩
      · exact ⟨h2, h3⟩
      · cases h2
    obtain ⟨rfl, rfl⟩ := hmc
    have hnil : xs = [] := List.eq_nil_of_length_eq_zero (by simpa using h.1)
    subst hnil
    go_enter Try.func38, Try.ntmps38
    go_wp2
    go_ret
    exact ⟨none, 0, rfl, RowO.none_ _ _ _, Below.refl _ _, fun k hk => absurd hk (inA_none k)⟩
  · have hm1 : 0 + m ≤ maxLen := by unfold maxLen; omega
    have hm2 : (0 + m) * 64 ≤ 140737488355328 := by omega
    have hempty : RowO (w.alloc (.cells #[] 67)) 67 64 (some ⟨w.heap.size, 0, none⟩) 0 0 [] := RowO.lit w 67 64 0 #[] rfl (Nat.zero_le _) rfl
    have hl := h.1
    have hrd := (h.alloc (.cells #[] 67)).rd
    go_enter Try.func38, Try.ntmps38
    go_wp2_with (at_builtin
                 refine wpList_appO _ rfl (.tmp 5) (.tmp 6) _ rfl _ _ 64 64 Try.underlying68 info_ver rfl (some ⟨w.heap.size, 0, none⟩) 0 0 [] rfl hempty (some ad) m c xs rfl hl hrd h1 ?_ hm1 hm2 ?_
                 · intro h; cases h
                 intro A2 c2 w2 hrow2 honly2 hA2)
    go_ret
    rw [List.nil_append] at hrow2
    rw [Nat.zero_add] at hrow2
    have z2 := honly2.size
    rw [World.size_alloc] at z2
    have hb2 : Below w.heap.size w w2 := ((Below.refl _ w).alloc (Nat.le_refl _) _).trans (honly2.below (fun k hk => by rw [inA_some] at hk; omega) (by rw [World.size_alloc]; omega))
    refine ⟨A2, c2, by first | rfl | simp, hrow2, hb2, fun k hk => ?_⟩
    rcases hA2 k hk with h2 | h2
    · rw [inA_some] at h2; omega
    · rw [World.size_alloc] at h2; omega

set_option maxRecDepth 100000 in
/-- a list, copied -/
theorem clone_cells (A : Option Addr) (m c : Nat) (xs : List Value) (w : World) (h : RowO w 70 65 A m c xs) (h1 : ∀ u ∈ xs, u.oneCell' = true) (hm : m ≤ 1000000) :
    Calls Try.prog 37 #[.slice A m c] w fun e w' => ∃ A' c', e = .returned (.slice A' m c') ∧ RowO w' 70 65 A' m c' xs ∧ Below w.heap.size w w' ∧ (∀ k, inA A' k → w.heap.size ≤ k ∧ k < w'.heap.size) := by
  have he := Lib.run_eql_slice_nil (P := Try.prog) w 56 70 A m c 0 0 Try.underlying56
  rcases A with _ | ad
  · have hmc : m = 0 ∧ c = 0 := by
      rcases h.2 with ⟨_, h2, h3⟩ | ⟨g, off, cs, h2, _⟩
      · exact ⟨h2, h3⟩
      · cases h2
    obtain ⟨rfl, rfl⟩ := hmc
    have hnil : xs = [] := List.eq_nil_of_length_eq_zero (by simpa using h.1)
    subst hnil
    go_enter Try.func37, Try.ntmps37
    go_wp2
    go_ret
    exact ⟨none, 0, rfl, RowO.none_ _ _ _, Below.refl _ _, fun k hk => absurd hk (inA_none k)⟩
  · have hm1 : 0 + m ≤ maxLen := by unfold maxLen; omega
    have hm2 : (0 + m) * 88 ≤ 140737488355328 := by omega
    have hempty : RowO (w.alloc (.cells #[] 70)) 70 65 (some ⟨w.heap.size, 0, none⟩) 0 0 [] := RowO.lit w 70 65 0 #[] rfl (Nat.zero_le _) rfl
    have hl := h.1
    have hrd := (h.alloc (.cells #[] 70)).rd
    go_enter Try.func37, Try.ntmps37
    go_wp2_with (at_builtin
                 refine wpList_appO _ rfl (.tmp 5) (.tmp 6) _ rfl _ _ 65 88 Try.underlying56 info_celly rfl (some ⟨w.heap.size, 0, none⟩) 0 0 [] rfl hempty (some ad) m c xs rfl hl hrd h1 ?_ hm1 hm2 ?_
                 · intro h; cases h
                 intro A2 c2 w2 hrow2 honly2 hA2)
    go_ret
    rw [List.nil_append] at hrow2
    rw [Nat.zero_add] at hrow2
    have z2 := honly2.size
    rw [World.size_alloc] at z2
    have hb2 : Below w.heap.size w w2 := ((Below.refl _ w).alloc (Nat.le_refl _) _).trans (honly2.below (fun k hk => by rw [inA_some] at hk; omega) (by rw [World.size_alloc]; omega))
    refine ⟨A2, c2, by first | rfl | simp, hrow2, hb2, fun k hk => ?_⟩
    rcases hA2 k hk with h2 | h2
    · rw [inA_some] at h2; omega
    · rw [World.size_alloc] at h2; omega


theorem CelAt.row_put {w : World} {gc o : Nat} {vs : List (List UInt8)} {A : Option Addr} {c : Nat} (h : CelAt w gc o vs A c) (A' : Option Addr) (c' : Nat) (hr : RowO w 67 64 A' (vs.length - 1) c' (vs.tail.flatten.map bv)) (hA : ¬ inA A' gc) :
    CelAt (w.setCell ⟨gc, o + 64, none⟩ (.slice A' (vs.length - 1) c')) gc o vs A' c' := by
  have ho : Only (fun k => k = gc) w (w.setCell ⟨gc, o + 64, none⟩ (.slice A' (vs.length - 1) c')) := (Only.refl (fun k => k = gc) w).setCell (p := ⟨gc, o + 64, none⟩) (.inl rfl) _
  refine ⟨h.ne, h.len, fun j v hv => ?_, World.cell?_setCell_same _ _ _ h.row, hr.only ho (fun k hk e => hA (e ▸ hk))⟩
  have hj : j < 64 := by
    have := (List.getElem?_eq_some_iff.1 hv).1
    rw [List.length_map, h.lenHead] at this
    exact this
  rw [World.cell?_setCell_other _ _ _ _ (by first | (simp; done) | (simp; omega))]
  exact h.head j v hv

/-- what the loop of Copy holds -/
structure Part (w0 w : World) (g gc o K : Nat) (S : Sec) (k : Nat) (B : Nat → Option Addr) (C : Nat → Nat) : Prop where
  bel : Below w0.heap.size w0 w
  dsk : ∃ cs, Blk w g 60 cs
  c0 : w.cell? ⟨g, 0, none⟩ = some (.slice (some ⟨gc, o, none⟩) S.length K)
  blk : ∃ cs, Blk w gc 70 cs
  cel : ∀ i (hi : i < S.length), CelAt w gc (o + i * 65) S[i] (B i) (C i)
  lg : w0.heap.size ≤ g
  lgc : w0.heap.size ≤ gc
  lB : ∀ i r, i < k → i < S.length → inA (B i) r → w0.heap.size ≤ r
theorem Part.step {w0 w w1 : World} {g gc o K : Nat} {S : Sec} {k : Nat} {B : Nat → Option Addr} {C : Nat → Nat} (h : Part w0 w g gc o K S k B C) (hk : k < S.length) (hb : Below w.heap.size w w1) (A' : Option Addr) (c' : Nat)
    (hr : RowO w1 67 64 A' (S[k].length - 1) c' (S[k].tail.flatten.map bv)) (hA : ∀ r, inA A' r → w.heap.size ≤ r) :
    Part w0 (w1.setCell ⟨gc, o + k * 65 + 64, none⟩ (.slice A' (S[k].length - 1) c')) g gc o K S (k + 1) (fun j => if j = k then A' else B j) (fun j => if j = k then c' else C j) := by
  obtain ⟨cs, hblk⟩ := h.blk
  obtain ⟨ds, hdsk⟩ := h.dsk
  have hblk1 := hblk.ext hb
  have hdsk1 := hdsk.ext hb
  have hne : g ≠ gc := by
    rintro rfl
    unfold Blk at hblk1 hdsk1
    rw [hblk1] at hdsk1
    injection hdsk1 with h1
    injection h1 with _ ht
    exact absurd ht (by decide)
  have z := h.bel.size
  have hAg : ¬ inA A' gc := hr.ne_blk hblk1 (by decide)
  refine ⟨?_, ⟨_, hdsk1.far hne _⟩, ?_, ⟨_, hblk1.put _ _⟩, fun i hi => ?_, h.lg, h.lgc, fun i r hi hiS hr' => ?_⟩
  · exact below_setCells h.lgc [Value.slice A' (S[k].length - 1) c'] (o + k * 65 + 64) (h.bel.trans (hb.mono z))
  · rw [World.cell?_setCell_other _ _ _ _ (by simp)]
    exact (World.cell?_of_block (a := ⟨g, 0, none⟩) (hb.block g hdsk.lt)).trans h.c0
  · by_cases e : i = k
    · subst e
      simp only [if_true]
      exact ((h.cel i hi).ext hb).row_put A' c' hr hAg
    · simp only [if_neg e]
      have h1 := (h.cel i hi).ext hb
      exact h1.store_far (o + k * 65 + 64) [.slice A' (S[k].length - 1) c'] (by first | (simp; done) | (simp; omega)) (h1.own.ne_blk hblk1 (by decide))
  · by_cases e : i = k
    · simp only [if_pos e] at hr'
      have := hA r hr'
      omega
    · simp only [if_neg e] at hr'
      exact h.lB i r (by omega) hiS hr'

set_option maxRecDepth 100000 in
set_option maxHeartbeats 4000000 in
theorem copy_any {w : World} {fp : Nat → Prop} {g gc : Nat} {S : Sec} {l : Int} {B : Nat → Option Addr} {C : Nat → Nat} (h : Lay w fp g gc S l B C) (hs : Small 1000000 S) (hpos : 0 < S.length) :
    Calls Try.prog 21 #[.pointer (some ⟨g, 0, none⟩)] w fun e w' => ∃ g' gc' o K B' C', e = .returned (.pointer (some ⟨g', 0, none⟩)) ∧ View w' w.heap.size g' gc' o K S B' C' ∧ Below w.heap.size w w' := by
  obtain ⟨cs, hblk, hsz⟩ := h.row
  have h0 : w.cell? ⟨g, 0, none⟩ = some (.slice (some ⟨gc, 0, none⟩) S.length S.length) := h.dsk.cell 0
  have hn := h.n
  have hrow : RowO w 70 65 (some ⟨gc, 0, none⟩) S.length S.length cs.toList := ⟨by simpa using hsz, .inr ⟨gc, 0, cs, rfl, Nat.le_refl _, by unfold maxLen; omega, hblk, by omega, fun j u hu => by simpa using hu⟩⟩
  have hone : ∀ u ∈ cs.toList, u.oneCell' = true := fun u hu => by
    obtain ⟨p, hp, rfl⟩ := List.mem_iff_getElem.1 hu
    have hp' : p < S.length * 65 := by rw [← hsz]; simpa using hp
    have hi : p / 65 < S.length := by omega
    have hc := h.cel (p / 65) hi
    have hcp : w.cell? ⟨gc, p, none⟩ = some cs.toList[p] := by rw [hblk.cell]; simp [show p < cs.size by omega]
    by_cases ht : p % 65 < 64
    · have hv : ((S[p / 65].headD []).map bv)[p % 65]? = some (((S[p / 65].headD []).map bv)[p % 65]'(by rw [List.length_map, hc.lenHead]; exact ht)) := List.getElem?_eq_getElem _
      have h1 := hc.head (p % 65) _ hv
      rw [show p / 65 * 65 + p % 65 = p by omega, hcp] at h1
      injection h1 with h1
      rw [h1]
      exact bvs_one _ _ (List.getElem_mem _)
    · have h1 := hc.row
      rw [show p / 65 * 65 + 64 = p by omega, hcp] at h1
      injection h1 with h1
      rw [h1]; rfl
  go_enter Try.func21, Try.ntmps21
  go_wp2_with fail
  refine (clone_cells (some ⟨gc, 0, none⟩) S.length S.length cs.toList w hrow hone (by omega)).mono ?_
  rintro e w1 ⟨A1, c1, rfl, hrow1, hb1, hA1⟩
  rcases hrow1.2 with ⟨_, hz, _⟩ | ⟨gc1, o1, cs1, rfl, _, _, hblk1, hsz1, hc1⟩
  · omega
  have z1 := hb1.size
  have hgc1 := hA1 gc1 ((inA_some _ _ _ _).2 rfl)
  have hpart : Part w (w1.alloc (.cells #[.slice (some ⟨gc1, o1, none⟩) S.length c1, .bool false, .int .i64 0] 60)) w1.heap.size gc1 o1 c1 S 0 B C := by
    have hba : Below w1.heap.size w1 (w1.alloc (.cells #[.slice (some ⟨gc1, o1, none⟩) S.length c1, .bool false, .int .i64 0] 60)) := (Below.refl _ _).alloc (Nat.le_refl _) _
    refine ⟨hb1.trans (hba.mono z1), ⟨_, Blk.new _ _ _⟩, (Blk.new w1 60 #[.slice (some ⟨gc1, o1, none⟩) S.length c1, .bool false, .int .i64 0]).cell 0, ⟨_, hblk1.alloc _⟩, fun i hi => ?_, by omega, hgc1.1, fun i r hi => by omega⟩
    have hc := h.cel i hi
    have hcopy : ∀ p u, p < 65 → w.cell? ⟨gc, i * 65 + p, none⟩ = some u → w1.cell? ⟨gc1, o1 + i * 65 + p, none⟩ = some u := fun p u hp hu => by
      rw [hblk1.cell, Nat.add_assoc]
      refine hc1 (i * 65 + p) u ?_
      rw [hblk.cell] at hu
      simpa using hu
    have hnew : CelAt w1 gc1 (o1 + i * 65) S[i] (B i) (C i) := ⟨hc.ne, hc.len, fun j v hv => by
      have hj : j < 64 := by
        have := (List.getElem?_eq_some_iff.1 hv).1
        rw [List.length_map, hc.lenHead] at this
        exact this
      exact hcopy j v (by omega) (hc.head j v hv), hcopy 64 _ (by omega) hc.row, hc.own.ext hb1⟩
    exact hnew.ext hba
  clear hrow hone hrow1 hblk1 hc1 hA1 hsz1
  have hgo := h.n
  go_wp2
  go_loopw [4, 19] (fun _ i wr => ∃ (k : Nat) (B1 : Nat → Option Addr) (C1 : Nat → Nat), k ≤ S.length ∧ i = .int .i64 (k : Int) ∧ Part w wr w1.heap.size gc1 o1 c1 S k B1 C1) (fun _ i _ => S.length - (intOf i).toNat)
  case atStart => exact ⟨0, B, C, Nat.zero_le _, rfl, hpart⟩
  case round =>
    clear hpart
    obtain ⟨k, B1, C1, hk, rfl, hP⟩ := hrel
    have hc0 := hP.c0
    by_cases hlt : k < S.length
    · have hki : (k : Int) < (S.length : Int) := by omega
      have hcel := hP.cel k hlt
      have hrow64 := hcel.row
      have hsm := hs S[k] (List.getElem_mem hlt)
      obtain ⟨csb, hblkb⟩ := hP.blk
      obtain ⟨dsb, hdskb⟩ := hP.dsk
      have hne : w1.heap.size ≠ gc1 := by
        intro e
        unfold Blk at hblkb hdskb
        rw [e, hblkb] at hdskb
        injection hdskb with h1
        injection h1 with _ ht
        exact absurd ht (by decide)
      have hlg := hdskb.lt
      have hlgc := hblkb.lt
      have hclone := clone_ver (B1 k) (S[k].length - 1) (C1 k) _ wr.drew hcel.own.drew (bvs_one _) (by omega)
      have hKp : ∀ w' : World, w'.heap[w1.heap.size]? = wr.heap[w1.heap.size]? → w'.cell? ⟨w1.heap.size, 0, none⟩ = some (.slice (some ⟨gc1, o1, none⟩) S.length c1) := fun w' hw => (World.cell?_of_block (a := ⟨w1.heap.size, 0, none⟩) hw).trans hc0
      replace hKp := Lib.hid hKp
      go_wp2_with fail
      refine wp_region_held_drew (S := fun w' => w'.cell? ⟨w1.heap.size, 0, none⟩ = some (.slice (some ⟨gc1, o1, none⟩) S.length c1)) (by kernel_rfl) ?_ (fun hHeld => ?_)
      · exact hKp.out _ rfl
      refine wpAnyH_take (i := 0) (v := ?_) (take_list rfl) (by kernel_rfl) (by kernel_rfl) (by kernel_rfl) (fun _ _ _ h => h) (Or.inl ⟨by rfl, ?_⟩) (by assumption) ?_
      rotate_left
      · intro w hSw
        try dsimp only at hSw
        first | (go_simp; done) | (go_simp; with_reducible rfl)
      try simp only [Act.put, List.setIfInBounds_toArray, List.set_cons_zero, List.set_cons_succ]
      refine wpAnyH_take (i := 1) (v := ?_) (take_list rfl) (by kernel_rfl) (by kernel_rfl) (by kernel_rfl) (fun _ _ _ h => h) (Or.inl ⟨by rfl, ?_⟩) (by assumption) ?_
      rotate_left
      · intro w hSw
        try dsimp only at hSw
        first | (go_simp; done) | (go_simp; with_reducible rfl)
      try simp only [Act.put, List.setIfInBounds_toArray, List.set_cons_zero, List.set_cons_succ]
      refine wpAnyH_take (i := 2) (v := ?_) (take_list rfl) (by kernel_rfl) (by kernel_rfl) (by kernel_rfl) (fun _ _ _ h => h) (Or.inl ⟨by rfl, ?_⟩) (by assumption) ?_
      rotate_left
      · intro w hSw
        try dsimp only at hSw
        first | (go_simp; done) | (go_simp; with_reducible rfl)
      try simp only [Act.put, List.setIfInBounds_toArray, List.set_cons_zero, List.set_cons_succ]
      refine wpAnyH_take (i := 3) (v := ?_) (take_list rfl) (by kernel_rfl) (by kernel_rfl) (by kernel_rfl) (fun _ _ _ h => h) (Or.inl ⟨by rfl, ?_⟩) (by assumption) ?_
      rotate_left
      · intro w hSw
        try dsimp only at hSw
        first | (go_simp; done) | (go_simp; with_reducible rfl)
      try simp only [Act.put, List.setIfInBounds_toArray, List.set_cons_zero, List.set_cons_succ]
      refine wpAnyH_take (i := 4) (v := ?_) (take_list rfl) (by kernel_rfl) (by kernel_rfl) (by kernel_rfl) (fun _ _ _ h => h) (Or.inl ⟨by rfl, ?_⟩) (by assumption) ?_
      rotate_left
      · intro w hSw
        try dsimp only at hSw
        first | (go_simp; done) | (go_simp; with_reducible rfl)
      try simp only [Act.put, List.setIfInBounds_toArray, List.set_cons_zero, List.set_cons_succ]
      refine wpAnyH_take (i := 5) (v := ?_) (take_list rfl) (by kernel_rfl) (by kernel_rfl) (by kernel_rfl) (fun _ _ _ h => h) (Or.inl ⟨by rfl, ?_⟩) (by assumption) ?_
      rotate_left
      · intro w hSw
        try dsimp only at hSw
        first | (go_simp; done) | (go_simp; with_reducible rfl)
      try simp only [Act.put, List.setIfInBounds_toArray, List.set_cons_zero, List.set_cons_succ]
      refine wpAnyH_take (i := 6) (v := ?_) (take_list rfl) (by kernel_rfl) (by kernel_rfl) (by kernel_rfl) (fun _ _ _ h => h) (Or.inl ⟨by rfl, ?_⟩) (by assumption) ?_
      rotate_left
      · intro w hSw
        try dsimp only at hSw
        first | (go_simp; done) | (go_simp; with_reducible rfl)
      try simp only [Act.put, List.setIfInBounds_toArray, List.set_cons_zero, List.set_cons_succ]
      refine wpAnyH_take (i := 7) (v := ?_) (take_list rfl) (by kernel_rfl) (by kernel_rfl) (by kernel_rfl) (fun _ _ _ h => h) (Or.inl ⟨by rfl, ?_⟩) (by assumption) ?_
      rotate_left
      · intro w hSw
        try dsimp only at hSw
        first | (go_simp; done) | (go_simp; with_reducible rfl)
      try simp only [Act.put, List.setIfInBounds_toArray, List.set_cons_zero, List.set_cons_succ]
      refine wpAnyH_take (i := 8) (v := ?_) (take_list rfl) (by kernel_rfl) (by kernel_rfl) (by kernel_rfl) (fun _ _ _ h => h) (Or.inl ⟨by rfl, ?_⟩) (by assumption) ?_
      rotate_left
      · intro w hSw
        try dsimp only at hSw
        first | (go_simp; done) | (go_simp; with_reducible rfl)
      try simp only [Act.put, List.setIfInBounds_toArray, List.set_cons_zero, List.set_cons_succ]
      refine wpAnyH_take (i := 9) (v := ?_) (take_list rfl) (by kernel_rfl) (by kernel_rfl) (by kernel_rfl) (fun _ _ _ h => h) (Or.inl ⟨by rfl, ?_⟩) (by assumption) ?_
      rotate_left
      · intro w hSw
        try dsimp only at hSw
        first | (go_simp; done) | (go_simp; with_reducible rfl)
      try simp only [Act.put, List.setIfInBounds_toArray, List.set_cons_zero, List.set_cons_succ]
      refine wpAnyH_take (i := 10) (v := ?_) (take_list rfl) (by kernel_rfl) (by kernel_rfl) (by kernel_rfl) (fun _ _ _ h => h) (Or.inl ⟨by rfl, ?_⟩) (by assumption) ?_
      rotate_left
      · intro w hSw
        try dsimp only at hSw
        first | (go_simp; done) | (go_simp; with_reducible rfl)
      try simp only [Act.put, List.setIfInBounds_toArray, List.set_cons_zero, List.set_cons_succ]
      refine wpAnyH_take (i := 11) (v := ?_) (take_list rfl) (by kernel_rfl) (by kernel_rfl) (by kernel_rfl) (fun _ _ _ h => h) (Or.inl ⟨by rfl, ?_⟩) (by assumption) ?_
      rotate_left
      · intro w hSw
        try dsimp only at hSw
        first | (go_simp; done) | (go_simp; with_reducible rfl)
      try simp only [Act.put, List.setIfInBounds_toArray, List.set_cons_zero, List.set_cons_succ]
      refine wpAnyH_ready (rs := [12]) (by kernel_rfl) (by simp) ?_
      refine AllReadyH.cons (take_list rfl) (fun K hK => ?_) ?_
      · skip
        go_simp
        refine hK.out _ _ ?_ (fun hHeld => ?_)
        · try dsimp only
          exact hKp.out _ rfl
        clear hK K
        refine wpAnyH_ready (rs := [13]) (by kernel_rfl) (by simp) ?_
        refine AllReadyH.cons (take_list rfl) (fun K hK => ?_) ?_
        · skip
          go_simp
          go_wp2_with (go_at_call 38; refine hclone.mono ?_; rintro e w3 ⟨A3, c3, rfl, hrow3, hb3', hA3⟩; have hb3 : Below wr.heap.size wr w3 := ⟨hb3'.os, hb3'.tape, hb3'.output, hb3'.size, hb3'.block⟩)
          have hst := hP.step hlt hb3 A3 c3 hrow3 (fun r hr => (hA3 r hr).1)
          have p3 : w3.cell? ⟨gc1, o1 + k * 65 + 64, none⟩ = some (.slice (B1 k) (S[k].length - 1) (C1 k)) := (World.cell?_of_block (a := ⟨gc1, o1 + k * 65 + 64, none⟩) (hb3.block gc1 hlgc)).trans hrow64
          have p4 : w3.frozen? ⟨gc1, o1 + k * 65 + 64, none⟩ = false := (World.frozen?_of_block (a := ⟨gc1, o1 + k * 65 + 64, none⟩) (hb3.block gc1 hlgc)).trans (hblkb.free _)
          replace hst := Lib.hid hst
          refine hK.out _ _ ?_ (fun hHeld => ?_)
          · try dsimp only
            exact hKp.out _ (hb3.block _ hlg)
          clear hK K
          refine wpAnyH_take (i := 14) (v := ?_) (take_list rfl) (by kernel_rfl) (by kernel_rfl) (by kernel_rfl) (fun _ _ _ h => h) (Or.inl ⟨by rfl, ?_⟩) (by assumption) ?_
          rotate_left
          · intro w hSw
            try dsimp only at hSw
            first | (go_simp; done) | (go_simp; with_reducible rfl)
          try simp only [Act.put, List.setIfInBounds_toArray, List.set_cons_zero, List.set_cons_succ]
          refine wpAnyH_take (i := 15) (v := ?_) (take_list rfl) (by kernel_rfl) (by kernel_rfl) (by kernel_rfl) (fun _ _ _ h => h) (Or.inl ⟨by rfl, ?_⟩) (by assumption) ?_
          rotate_left
          · intro w hSw
            try dsimp only at hSw
            first | (go_simp; done) | (go_simp; with_reducible rfl)
          try simp only [Act.put, List.setIfInBounds_toArray, List.set_cons_zero, List.set_cons_succ]
          refine wpAnyH_ready (rs := [16]) (by kernel_rfl) (by simp) ?_
          refine AllReadyH.cons (take_list rfl) (fun K hK => ?_) ?_
          · skip
            go_simp
            refine hK.out _ _ ?_ (fun hHeld => ?_)
            · try dsimp only
              exact hKp.out _ ((Below.heap_setCell w3 ⟨gc1, o1 + k * 65 + 64, none⟩ _ w1.heap.size hne).trans (hb3.block _ hlg))
            clear hK K
            refine wpAnyH_done (by kernel_rfl) ?_ _
            go_wp2
            go_roundw
            case rel => exact ⟨k + 1, _, _, by omega, by go_num, hst.out⟩
            case measure => simp [intOf]; omega
          exact AllReadyH.nil
        exact AllReadyH.nil
      exact AllReadyH.nil
    · obtain rfl : k = S.length := by omega
      go_wp2
      go_ret
      exact ⟨w1.heap.size, gc1, o1, c1, B1, C1, rfl, ⟨hgo, hP.c0, hP.cel, hP.lg, hP.lgc, fun i r hi hr => hP.lB i r hi hi hr⟩, hP.bel⟩
end Go.Proofs.Ythicjnnlbnjjmaa
