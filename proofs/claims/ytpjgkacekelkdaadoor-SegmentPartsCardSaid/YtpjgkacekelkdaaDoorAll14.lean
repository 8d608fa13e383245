/-
  Texts of this claim, joined (part 14): contracts and lemmas that the last text goes by. No statement of the seat is proved here.
-/
import Derived.Test.YtpjgkacekelkdaaDoorAll12
import Derived.Test.YtpjgkacekelkdaaDoorAll5
import Derived.Deep.RegionHeld3
set_option linter.unusedVariables false
set_option linter.unusedSimpArgs false
/-
  The law's known: two lines. No statement of the seat is proved here.
-/
namespace Go.Proofs.YtpjgkacekelkdaaDoor
open Go Go.RowKit
set_option maxRecDepth 100000

def knownS : Sg := ⟨5, [⟨1, [[51]]⟩, ⟨1, [[52]]⟩]⟩
theorem knownS_is : isG knownS = true := by decide
/-- encoded, read back: one contract of each, at a segment that may be -/
theorem encode_good (s : Sg) (hi : isG s = true) (B : Option Addr) (c : Nat) (w : World) (ht : Tab w) (h : SgIn w s B c) :
    Calls Tryd.prog 9 #[sgV s B c] w fun e w' => ∃ A' c', e = .returned (.tuple #[.slice A' (encG s).length c', .int .i64 0]) ∧ New w w' A' c' (encG s) ∧ Below w.heap.size w w' := by
  have h5 := ((isG_iff s).1 hi).2
  have h := encodeG_any s B c w ht h (fun x hx v hv => by have := (h5 x hx).2.2.2 v hv; unfold maxLen; omega)
  rw [show ansG s = (encG s, 0) by unfold ansG; rw [if_pos hi]] at h
  exact h
theorem decode_good (s : Sg) (hi : isG s = true) (A : Option Addr) (c : Nat) (w : World) (ht : Tab w) (hA : Rd w A ((encG s).map bv)) (hc : (encG s).length ≤ c) :
    Calls Tryd.prog 10 #[.slice A (encG s).length c] w fun e w' => ∃ B' c', e = .returned (.tuple #[sgV s B' c', .int .i64 0]) ∧ SgIn w' s B' c' ∧ Below w.heap.size w w' := by
  have h := decodeG_any (encG s) A c w ht hA hc (by have := encG_len hi; omega)
  rw [decG_enc hi] at h
  exact h
theorem same_good (s : Sg) (A B : Option Addr) (c d : Nat) (w : World) (ha : SgIn w s A c) (hb : SgIn w s B d) :
    Calls Tryd.prog 11 #[sgV s A c, sgV s B d] w fun e w' => e = .returned (.bool true) ∧ Below w.heap.size w w' := by
  refine (rsame_any s s A B c d w ha hb).mono ?_
  rintro e w' ⟨r, rfl, hr, hb⟩
  rw [hr.2 rfl]
  exact ⟨rfl, hb⟩

theorem ln_lit {W : World} {g : Nat} {b : UInt8} (hb : Blk W g 9 #[.string ⟨#[b]⟩]) : LnIn W ⟨1, [[b]]⟩ (some ⟨g, 0, none⟩) 1 := by
  refine ⟨⟨by simp, by simp⟩, by simp, by unfold maxLen; omega, (fun h => by cases h), ?_⟩
  exact Rd.blk hb
theorem two_cells {W : World} {g o : Nat} {u v : Value} (h0 : W.cell? ⟨g, o, none⟩ = some u) (h1 : W.cell? ⟨g, o + 1, none⟩ = some v) : ∀ (j : Nat) (z : Value), [u, v][j]? = some z → W.cell? ⟨g, o + j, none⟩ = some z := by
  intro j z hz
  match j, hz with
  | 0, hz => simp at hz; subst hz; exact h0
  | 1, hz => simp at hz; subst hz; exact h1
theorem known_in {W : World} {g0 g1 g2 : Nat} (hB0 : Blk W g0 9 #[.string ⟨#[51]⟩]) (hB1 : Blk W g1 9 #[.string ⟨#[52]⟩])
    (hB2 : Blk W g2 47 #[.int .i64 1, .slice (some ⟨g0, 0, none⟩) 1 1, .int .i64 1, .slice (some ⟨g1, 0, none⟩) 1 1]) : SgIn W knownS (some ⟨g2, 0, none⟩) 2 := by
  refine ⟨⟨by show (-9223372036854775808 : Int) ≤ 5; omega, by show (5 : Int) ≤ 9223372036854775807; omega⟩, by simp [knownS], by unfold maxLen; omega, (fun h => by cases h), fun k hk => ?_⟩
  match k, hk with
  | 0, _ => exact ⟨g2, 0, _, rfl, rfl, two_cells (hB2.cell 0) (hB2.cell 1), some ⟨g0, 0, none⟩, 1, rfl, ln_lit hB0⟩
  | 1, _ => exact ⟨g2, 0, _, rfl, rfl, two_cells (o := 0 + 1 * 2) (hB2.cell 2) (hB2.cell 3), some ⟨g1, 0, none⟩, 1, rfl, ln_lit hB1⟩

set_option maxHeartbeats 16000000 in
theorem known18_any (w : World) (ht : Tab w) : Calls Tryd.prog 12 #[] w fun e w' => e = .returned (.bool true) ∧ Below w.heap.size w w' := by
  obtain ⟨W0, hW0⟩ : ∃ W0, W0 = (((w.alloc (.cells #[.string ⟨#[51]⟩] 9)).alloc (.cells #[.string ⟨#[52]⟩] 9)).alloc (.cells #[.int .i64 1, .slice (some ⟨w.heap.size, 0, none⟩) 1 1, .int .i64 1, .slice (some ⟨w.heap.size + 1, 0, none⟩) 1 1] 47)).alloc (.cells #[.int .i64 5, .slice (some ⟨w.heap.size + 2, 0, none⟩) 2 2] 24) := ⟨_, rfl⟩
  have hb0 : Below w.heap.size w W0 := by rw [hW0]; exact ext_alloc (ext_alloc (ext2 _ _ _) _) _
  have hB0 : Blk W0 w.heap.size 9 #[.string ⟨#[51]⟩] := by rw [hW0]; exact (((Blk.new _ _ _).alloc _).alloc _).alloc _
  have hB1 : Blk W0 (w.heap.size + 1) 9 #[.string ⟨#[52]⟩] := by
    rw [hW0]
    have h := Blk.new (w.alloc (.cells #[.string ⟨#[51]⟩] 9)) 9 #[.string ⟨#[52]⟩]
    rw [World.size_alloc] at h
    exact (h.alloc _).alloc _
  have hB2 : Blk W0 (w.heap.size + 2) 47 #[.int .i64 1, .slice (some ⟨w.heap.size, 0, none⟩) 1 1, .int .i64 1, .slice (some ⟨w.heap.size + 1, 0, none⟩) 1 1] := by
    rw [hW0]
    have h := Blk.new ((w.alloc (.cells #[.string ⟨#[51]⟩] 9)).alloc (.cells #[.string ⟨#[52]⟩] 9)) 47 #[.int .i64 1, .slice (some ⟨w.heap.size, 0, none⟩) 1 1, .int .i64 1, .slice (some ⟨w.heap.size + 1, 0, none⟩) 1 1]
    rw [World.size_alloc, World.size_alloc] at h
    exact h.alloc _
  have HB3 : Hid (Blk W0 (w.heap.size + 3) 24 #[.int .i64 5, .slice (some ⟨w.heap.size + 2, 0, none⟩) 2 2]) := Lib.hid (by
    rw [hW0]
    have h := Blk.new (((w.alloc (.cells #[.string ⟨#[51]⟩] 9)).alloc (.cells #[.string ⟨#[52]⟩] 9)).alloc (.cells #[.int .i64 1, .slice (some ⟨w.heap.size, 0, none⟩) 1 1, .int .i64 1, .slice (some ⟨w.heap.size + 1, 0, none⟩) 1 1] 47)) 24 #[.int .i64 5, .slice (some ⟨w.heap.size + 2, 0, none⟩) 2 2]
    rw [World.size_alloc, World.size_alloc, World.size_alloc] at h
    exact h)
  have HI : Hid (SgIn W0 knownS (some ⟨w.heap.size + 2, 0, none⟩) 2) := Lib.hid (known_in hB0 hB1 hB2)
  have Ht := Lib.hid ht
  have Hb0 := Lib.hid hb0
  have HW0 := Lib.hid hW0
  have HE := Lib.hid (encode_good knownS knownS_is (some ⟨w.heap.size + 2, 0, none⟩) 2 W0 (ht.ext hb0) HI.out)
  have HD := Lib.hid (fun A c W => decode_good knownS knownS_is A c W)
  have HSm := Lib.hid (fun A B c d W => same_good knownS A B c d W)
  have HO := Lib.hid (fun B c W => own_any knownS B c W)
  have e1 : knownS.first = 5 := rfl
  have e2 : knownS.lines.length = 2 := rfl
  unfold sgV at HE HD HSm HO
  rw [e1, e2] at HE
  simp only [e1, e2] at HD HSm HO
  generalize encG knownS = q at *
  clear ht hb0 hW0 hB0 hB1 hB2 e1 e2
  go_enter Tryd.func12, Tryd.ntmps12
  go_wp2_with fail
  rw [← HW0.out]
  refine HE.out.mono ?_
  rintro e w1 ⟨A1, c1, rfl, hn1, hb1⟩
  have hc1 : q.length ≤ c1 := by have := Own.cap hn1; simpa using this
  have HX := Lib.hid (HD.out A1 c1 w1 (Ht.out.ext (ext_trans Hb0.out hb1)) hn1.rd hc1)
  have Hb1 := Lib.hid hb1
  clear hn1 hc1 hb1 HE HD
  go_wp2_with fail
  refine HX.out.mono ?_
  rintro e w3 ⟨B', c', rfl, hin, hb3⟩
  obtain ⟨w4, hw4⟩ : ∃ w4, w4 = w3.alloc (.cells #[.int .i64 5, .slice B' 2 c'] 24) := ⟨_, rfl⟩
  have hb4 : Below w3.heap.size w3 w4 := by rw [hw4]; exact ext_alloc (Below.refl _ _) _
  have hB4 : Blk w4 w3.heap.size 24 #[.int .i64 5, .slice B' 2 c'] := by rw [hw4]; exact Blk.new _ _ _
  have hb04 : Below W0.heap.size W0 w4 := ext_trans (ext_trans Hb1.out hb3) hb4
  have HK : Hid (∀ W, Below w4.heap.size w4 W → W.cell? ⟨w.heap.size + 3, 0, none⟩ = some (.int .i64 5) ∧ W.cell? ⟨w.heap.size + 3, 1, none⟩ = some (.slice (some ⟨w.heap.size + 2, 0, none⟩) 2 2) ∧ W.cell? ⟨w3.heap.size, 0, none⟩ = some (.int .i64 5) ∧ W.cell? ⟨w3.heap.size, 1, none⟩ = some (.slice B' 2 c')) := Lib.hid (fun W hW =>
    ⟨((HB3.out.ext hb04).ext hW).cell 0, ((HB3.out.ext hb04).ext hW).cell 1, (hB4.ext hW).cell 0, (hB4.ext hW).cell 1⟩)
  have Hin := Lib.hid (hin.ext hb4)
  have Hin0 := Lib.hid (HI.out.ext hb04)
  have Hb04 := Lib.hid (ext_trans Hb0.out hb04)
  have Hw4 := Lib.hid hw4
  clear hin hb3 hw4 hb4 hB4 hb04 HX
  go_wp2_with fail
  rw [← Hw4.out]
  refine wp_region_held_drew (S := fun W => W.cell? ⟨w.heap.size + 3, 0, none⟩ = some (.int .i64 5) ∧ W.cell? ⟨w.heap.size + 3, 1, none⟩ = some (.slice (some ⟨w.heap.size + 2, 0, none⟩) 2 2) ∧ W.cell? ⟨w3.heap.size, 0, none⟩ = some (.int .i64 5) ∧ W.cell? ⟨w3.heap.size, 1, none⟩ = some (.slice B' 2 c')) (by kernel_rfl) ?_ (fun hHeld => ?_)
  · exact HK.out _ (by repeat (first | exact Below.refl _ _ | exact HE4.out | exact HE3.out | exact HE2.out | apply ext_drew | apply ext_drewN | apply ext_alloc))
  refine wpAnyH_take (i := 0) (v := ?_) (take_list rfl) (by kernel_rfl) (by kernel_rfl) (by kernel_rfl) (fun _ _ _ h => h) (Or.inl ⟨by rfl, ?_⟩) (by assumption) ?_
  rotate_left
  · intro w hSw
    try dsimp only at hSw
    first | (go_simp; done) | (go_simp; with_reducible rfl)
  try simp only [Act.put, List.setIfInBounds_toArray, List.set_cons_zero, List.set_cons_succ]
  refine wpAnyH_take (i := 1) (v := ?_) (take_list rfl) (by kernel_rfl) (by kernel_rfl) (by kernel_rfl) (fun _ _ _ h => h) (Or.inl ⟨by rfl, ?_⟩) (by assumption) ?_
  rotate_left
  · intro w hSw
    try dsimp only at hSw
    first | (go_simp; done) | (go_simp; with_reducible rfl)
  try simp only [Act.put, List.setIfInBounds_toArray, List.set_cons_zero, List.set_cons_succ]
  refine wpAnyH_take (i := 2) (v := ?_) (take_list rfl) (by kernel_rfl) (by kernel_rfl) (by kernel_rfl) (fun _ _ _ h => h) (Or.inl ⟨by rfl, ?_⟩) (by assumption) ?_
  rotate_left
  · intro w hSw
    try dsimp only at hSw
    first | (go_simp; done) | (go_simp; with_reducible rfl)
  try simp only [Act.put, List.setIfInBounds_toArray, List.set_cons_zero, List.set_cons_succ]
  refine wpAnyH_take (i := 3) (v := ?_) (take_list rfl) (by kernel_rfl) (by kernel_rfl) (by kernel_rfl) (fun _ _ _ h => h) (Or.inl ⟨by rfl, ?_⟩) (by assumption) ?_
  rotate_left
  · intro w hSw
    try dsimp only at hSw
    first | (go_simp; done) | (go_simp; with_reducible rfl)
  try simp only [Act.put, List.setIfInBounds_toArray, List.set_cons_zero, List.set_cons_succ]
  refine wpAnyH_take (i := 4) (v := ?_) (take_list rfl) (by kernel_rfl) (by kernel_rfl) (by kernel_rfl) (fun _ _ _ h => h) (Or.inl ⟨by rfl, ?_⟩) (by assumption) ?_
  rotate_left
  · intro w hSw
    try dsimp only at hSw
    first | (go_simp; done) | (go_simp; with_reducible rfl)
  try simp only [Act.put, List.setIfInBounds_toArray, List.set_cons_zero, List.set_cons_succ]
  refine wpAnyH_take (i := 5) (v := ?_) (take_list rfl) (by kernel_rfl) (by kernel_rfl) (by kernel_rfl) (fun _ _ _ h => h) (Or.inl ⟨by rfl, ?_⟩) (by assumption) ?_
  rotate_left
  · intro w hSw
    try dsimp only at hSw
    first | (go_simp; done) | (go_simp; with_reducible rfl)
  try simp only [Act.put, List.setIfInBounds_toArray, List.set_cons_zero, List.set_cons_succ]
  refine wpAnyH_take (i := 6) (v := ?_) (take_list rfl) (by kernel_rfl) (by kernel_rfl) (by kernel_rfl) (fun _ _ _ h => h) (Or.inl ⟨by rfl, ?_⟩) (by assumption) ?_
  rotate_left
  · intro w hSw
    try dsimp only at hSw
    first | (go_simp; done) | (go_simp; with_reducible rfl)
  try simp only [Act.put, List.setIfInBounds_toArray, List.set_cons_zero, List.set_cons_succ]
  refine wpAnyH_take (i := 7) (v := ?_) (take_list rfl) (by kernel_rfl) (by kernel_rfl) (by kernel_rfl) (fun _ _ _ h => h) (Or.inl ⟨by rfl, ?_⟩) (by assumption) ?_
  rotate_left
  · intro w hSw
    try dsimp only at hSw
    first | (go_simp; done) | (go_simp; with_reducible rfl)
  try simp only [Act.put, List.setIfInBounds_toArray, List.set_cons_zero, List.set_cons_succ]
  refine wpAnyH_take (i := 9) (v := ?_) (take_list rfl) (by kernel_rfl) (by kernel_rfl) (by kernel_rfl) (fun _ _ _ h => h) (Or.inl ⟨by rfl, ?_⟩) (by assumption) ?_
  rotate_left
  · intro w hSw
    try dsimp only at hSw
    first | (go_simp; done) | (go_simp; with_reducible rfl)
  try simp only [Act.put, List.setIfInBounds_toArray, List.set_cons_zero, List.set_cons_succ]
  refine wpAnyH_ready (rs := [8]) (by kernel_rfl) (by simp) ?_
  refine AllReadyH.cons (take_list rfl) (fun K hK => ?_) ?_
  · skip
    go_simp
    refine (HO.out B' c' _).mono ?_
    rintro e x1 ⟨rfl, hbx⟩
    dsimp only
    have HE2 : Hid (Below w4.heap.size w4 x1) := Lib.hid (ext_trans (by repeat (first | exact Below.refl _ _ | exact HE4.out | exact HE3.out | exact HE2.out | apply ext_drew | apply ext_drewN | apply ext_alloc)) hbx)
    clear hbx
    refine hK.out _ _ ?_ (fun hHeld => ?_)
    · try dsimp only
      exact HK.out _ (by repeat (first | exact Below.refl _ _ | exact HE4.out | exact HE3.out | exact HE2.out | apply ext_drew | apply ext_drewN | apply ext_alloc))
    clear hK K
    refine wpAnyH_ready (rs := [10]) (by kernel_rfl) (by simp) ?_
    refine AllReadyH.cons (take_list rfl) (fun K hK => ?_) ?_
    · skip
      go_simp
      refine (HO.out (some ⟨w.heap.size + 2, 0, none⟩) 2 _).mono ?_
      rintro e x2 ⟨rfl, hbx⟩
      dsimp only
      have HE3 : Hid (Below w4.heap.size w4 x2) := Lib.hid (ext_trans (by repeat (first | exact Below.refl _ _ | exact HE4.out | exact HE3.out | exact HE2.out | apply ext_drew | apply ext_drewN | apply ext_alloc)) hbx)
      clear hbx
      refine hK.out _ _ ?_ (fun hHeld => ?_)
      · try dsimp only
        exact HK.out _ (by repeat (first | exact Below.refl _ _ | exact HE4.out | exact HE3.out | exact HE2.out | apply ext_drew | apply ext_drewN | apply ext_alloc))
      clear hK K
      refine wpAnyH_ready (rs := [11]) (by kernel_rfl) (by simp) ?_
      refine AllReadyH.cons (take_list rfl) (fun K hK => ?_) ?_
      · skip
        go_simp
        refine (HSm.out B' (some ⟨w.heap.size + 2, 0, none⟩) c' 2 _ (Hin.out.ext (by repeat (first | exact Below.refl _ _ | exact HE4.out | exact HE3.out | exact HE2.out | apply ext_drew | apply ext_drewN | apply ext_alloc))) (Hin0.out.ext (by repeat (first | exact Below.refl _ _ | exact HE4.out | exact HE3.out | exact HE2.out | apply ext_drew | apply ext_drewN | apply ext_alloc)))).mono ?_
        rintro e x3 ⟨rfl, hbx⟩
        dsimp only
        have HE4 : Hid (Below w4.heap.size w4 x3) := Lib.hid (ext_trans (by repeat (first | exact Below.refl _ _ | exact HE4.out | exact HE3.out | exact HE2.out | apply ext_drew | apply ext_drewN | apply ext_alloc)) hbx)
        clear hbx
        refine hK.out _ _ ?_ (fun hHeld => ?_)
        · try dsimp only
          exact HK.out _ (by repeat (first | exact Below.refl _ _ | exact HE4.out | exact HE3.out | exact HE2.out | apply ext_drew | apply ext_drewN | apply ext_alloc))
        clear hK K
        refine wpAnyH_take (i := 12) (v := ?_) (take_list rfl) (by kernel_rfl) (by kernel_rfl) (by kernel_rfl) (fun _ _ _ h => h) (Or.inl ⟨by rfl, ?_⟩) (by assumption) ?_
        rotate_left
        · intro w hSw
          try dsimp only at hSw
          first | (go_simp; done) | (go_simp; with_reducible rfl)
        try simp only [Act.put, List.setIfInBounds_toArray, List.set_cons_zero, List.set_cons_succ]
        refine wpAnyH_take (i := 13) (v := ?_) (take_list rfl) (by kernel_rfl) (by kernel_rfl) (by kernel_rfl) (fun _ _ _ h => h) (Or.inl ⟨by rfl, ?_⟩) (by assumption) ?_
        rotate_left
        · intro w hSw
          try dsimp only at hSw
          first | (go_simp; done) | (go_simp; with_reducible rfl)
        try simp only [Act.put, List.setIfInBounds_toArray, List.set_cons_zero, List.set_cons_succ]
        refine wpAnyH_done (by kernel_rfl) ?_ _
        go_wp2
        go_ret
        exact ⟨rfl, ext_trans Hb04.out HE4.out⟩
      exact AllReadyH.nil
    exact AllReadyH.nil
  exact AllReadyH.nil
end Go.Proofs.YtpjgkacekelkdaaDoor

/-
  SegmentBack's walk. No statement of the seat is proved in the part ahead of its closing.
-/
namespace Go.Proofs.YtpjgkacekelkdaaDoor
open Go Go.RowKit
set_option maxRecDepth 100000

theorem xor_stays (x : UInt8) : bits .xor .u8 (x.toNat : Int) 0 = (x.toNat : Int) := by
  have hx := x.toNat_lt
  have h := u8_xor_nat x.toNat 0 (by omega) (by omega)
  rw [Nat.xor_zero] at h
  exact h
theorem row_one {W : World} {g : Nat} {t : TypeId} {s : Sg} {B : Option Addr} {c : Nat} (hb : Blk W g t #[.int .i64 s.first, .slice B s.lines.length c]) (h : SgIn W s B c) : RowR IsSg 2 W (some ⟨g, 0, none⟩) [s] := fun k hk => by
  obtain rfl : k = 0 := by simpa using hk
  exact ⟨g, 0, _, rfl, rfl, two_cells (hb.cell 0) (hb.cell 1), B, c, rfl, h⟩
theorem encG_pos (s : Sg) : 0 < (encG s).length := by unfold encG; rw [sealB_length]; omega

set_option maxHeartbeats 16000000 in
theorem back_any (s : Sg) (B : Option Addr) (c : Nat) (at_ y : Int) (hy : 0 ≤ y ∧ y ≤ 255) (w : World) (ht : Tab w) (h : SgIn w s B c) (hz : ∀ n ∈ lensS s, n ≤ 140737488355328) :
    Calls Tryd.prog 3 #[sgV s B c, .int .i64 at_, .int .u8 y] w fun e w' => e = .returned (.bool true) ∧ Below w.heap.size w w' := by
  obtain ⟨w1, hw1⟩ : ∃ w1, w1 = w.alloc (.cells #[.int .i64 s.first, .slice B s.lines.length c] 24) := ⟨_, rfl⟩
  have hb1 : Below w.heap.size w w1 := by rw [hw1]; exact ext_alloc (Below.refl _ _) _
  have hB1 : Blk w1 w.heap.size 24 #[.int .i64 s.first, .slice B s.lines.length c] := by rw [hw1]; exact Blk.new _ _ _
  obtain ⟨w2, hw2⟩ : ∃ w2, w2 = w1.alloc (.cells #[.int .i64 s.first, .slice B s.lines.length c] 24) := ⟨_, rfl⟩
  have hb2 : Below w.heap.size w w2 := by rw [hw2]; exact ext_alloc hb1 _
  have hB2 : Blk w2 w.heap.size 24 #[.int .i64 s.first, .slice B s.lines.length c] := by rw [hw2]; exact hB1.alloc _
  have hN2 : Blk w2 (w.heap.size + 1) 24 #[.int .i64 s.first, .slice B s.lines.length c] := by
    have h := Blk.new w1 24 #[.int .i64 s.first, .slice B s.lines.length c]
    rw [← hw2, hw1, World.size_alloc] at h
    exact h
  have HL := Lib.hid (longG_any (some ⟨w.heap.size + 1, 0, none⟩) 1 [s] w2 (row_one hN2 (h.ext hb2)) (by simp [maxLen]))
  have hs : ∀ x ∈ s.lines, ∀ v ∈ x.vars, v.length ≤ maxLen := fun x hx v hv => by have := lens_sg hz x hx v hv; unfold maxLen; omega
  have HI := Lib.hid (fun (W : World) (hb : Below w.heap.size w W) => ris18_any s B c W (h.ext hb) hs)
  have HO := Lib.hid (fun B c W => own_any s B c W)
  have HE := Lib.hid (fun hi (W : World) (hb : Below w.heap.size w W) => encode_good s hi B c W (ht.ext hb) (h.ext hb))
  have HD := Lib.hid (fun hi A c W => decode_good s hi A c W)
  have HDs := Lib.hid (fun (W : World) (A : Option Addr) (c : Nat) (q : List UInt8) (hq : q.length = (encG s).length) (hi : isG s = true) (hb : Below w.heap.size w W) hA hc => decodeG_any q A c W (ht.ext hb) hA hc (by have := encG_len hi; omega))
  have HSp := Lib.hid (fun hi j hj c hc => spoiltG (s := s) hi (j := j) hj (c := c) hc)
  have HGd' := Lib.hid (fun hi => decG_enc (s := s) hi)
  have HSm := Lib.hid (fun A B c d W => same_good s A B c d W)
  have HLn := Lib.hid (fun hi => encG_len (s := s) hi)
  have HPo := Lib.hid (encG_pos s)
  have HB2 := Lib.hid hB2
  have Hb2 := Lib.hid hb2
  have Hw1 := Lib.hid hw1
  have Hw2 := Lib.hid hw2
  have Ht := Lib.hid ht
  have H := Lib.hid h
  have h0 := hB1.cell 0
  have h1 := hB1.cell 1
  have k0 := hB2.cell 0
  have k1 := hB2.cell 1
  simp only [List.getElem?_toArray, List.getElem?_cons_zero, List.getElem?_cons_succ] at h0 h1 k0 k1
  rw [hw1] at h0 h1
  unfold sgV at HI HO HE HD HSm ⊢
  rw [show ([s] : List Sg).length = 1 from rfl] at HL
  generalize hie : isG s = ig at *
  generalize encG s = q at *
  clear h hz hs hb1 hb2 hB1 hB2 hN2 hw1 hw2 ht
  go_enter Tryd.func3, Tryd.ntmps3
  go_wp2_with fail
  rw [← Hw1.out, ← Hw2.out]
  refine HL.out.mono ?_
  rintro e w' ⟨r, rfl, rfl⟩
  clear h0 h1 HL
  cases r with
  | true =>
    go_wp2
    go_ret
    exact ⟨rfl, Hb2.out⟩
  | false =>
    go_wp2_with fail
    refine (HO.out B c w2).mono ?_
    rintro e w3 ⟨rfl, hb3⟩
    have HX := Lib.hid (HI.out w3 (ext_trans Hb2.out hb3))
    have HB3 := Lib.hid (HB2.out.ext hb3)
    have Hb3 := Lib.hid (ext_trans Hb2.out hb3)
    clear hb3 k0 k1 HI
    go_wp2_with fail
    refine HX.out.mono ?_
    rintro e w4 ⟨rfl, hb4⟩
    have HB4 := Lib.hid (HB3.out.ext hb4)
    have Hb4 := Lib.hid (ext_trans Hb3.out hb4)
    clear hb4 HX
    cases ig with
    | false =>
      go_wp2
      go_ret
      exact ⟨rfl, Hb4.out⟩
    | true =>
      have HE2 := Lib.hid (HE.out rfl w4 Hb4.out)
      have HD2 := Lib.hid (fun A c W => HD.out rfl A c W)
      have hln := HLn.out rfl
      have hpo := HPo.out
      have HGd := Lib.hid (HGd'.out rfl)
      have HS2 := Lib.hid (fun j hj c hc => HSp.out rfl j hj c hc)
      have HDs2 := Lib.hid (fun W A c p hp => HDs.out W A c p hp rfl)
      have k0 := HB4.out.cell 0
      have k1 := HB4.out.cell 1
      simp only [List.getElem?_toArray, List.getElem?_cons_zero, List.getElem?_cons_succ] at k0 k1
      have hl0 : ((q.length : Int) == 0) = false := beq_eq_false_iff_ne.2 (by omega)
      have hqz : ¬ ((q.length : Int) = 0) := by omega
      have hl1 : (0 : Int) < (q.length : Int) := by omega
      have hl2 : (q.length : Int) ≤ 150000004 := by omega
      clear HE HD HLn HPo HSp HDs HGd'
      go_wp2_with fail
      refine HE2.out.mono ?_
      rintro e w5 ⟨A5, c5, rfl, hn5, hb5⟩
      have hc5 : q.length ≤ c5 := by have := Own.cap hn5; simpa using this
      have HX := Lib.hid (HD2.out A5 c5 w5 (Ht.out.ext (ext_trans Hb4.out hb5)) hn5.rd hc5)
      have Hn5 := Lib.hid hn5
      have Hb5 := Lib.hid (ext_trans Hb4.out hb5)
      have HB5 := Lib.hid (HB4.out.ext hb5)
      have Hc5 := Lib.hid hc5
      clear hn5 hb5 hc5 HE2 HD2 k0 k1
      go_wp2_with fail
      refine HX.out.mono ?_
      rintro e w6 ⟨B6, c6, rfl, hin, hb6⟩
      obtain ⟨w7, hw7⟩ : ∃ w7, w7 = w6.alloc (.cells #[.int .i64 s.first, .slice B6 s.lines.length c6] 24) := ⟨_, rfl⟩
      have hb67 : Below w6.heap.size w6 w7 := by rw [hw7]; exact ext_alloc (Below.refl _ _) _
      have hB7 : Blk w7 w6.heap.size 24 #[.int .i64 s.first, .slice B6 s.lines.length c6] := by rw [hw7]; exact Blk.new _ _ _
      have hb57 : Below w5.heap.size w5 w7 := ext_trans hb6 hb67
      have HK : Hid (∀ W, Below w7.heap.size w7 W → W.cell? ⟨w.heap.size, 0, none⟩ = some (.int .i64 s.first) ∧ W.cell? ⟨w.heap.size, 1, none⟩ = some (.slice B s.lines.length c) ∧ W.cell? ⟨w6.heap.size, 0, none⟩ = some (.int .i64 s.first) ∧ W.cell? ⟨w6.heap.size, 1, none⟩ = some (.slice B6 s.lines.length c6)) := Lib.hid (fun W hW =>
        ⟨((HB5.out.ext hb57).ext hW).cell 0, ((HB5.out.ext hb57).ext hW).cell 1, (hB7.ext hW).cell 0, (hB7.ext hW).cell 1⟩)
      have Hin := Lib.hid (hin.ext hb67)
      have Hb7 := Lib.hid (ext_trans Hb5.out hb57)
      have Hin0 := Lib.hid (H.out.ext Hb7.out)
      have Hn7 := Lib.hid (Hn5.out.ext hb57)
      have Hw7 := Lib.hid hw7
      clear hin hb6 hw7 hb67 hB7 hb57 HX
      go_wp2_with fail
      rw [← Hw7.out]
      refine wp_region_held_drew (S := fun W => W.cell? ⟨w.heap.size, 0, none⟩ = some (.int .i64 s.first) ∧ W.cell? ⟨w.heap.size, 1, none⟩ = some (.slice B s.lines.length c) ∧ W.cell? ⟨w6.heap.size, 0, none⟩ = some (.int .i64 s.first) ∧ W.cell? ⟨w6.heap.size, 1, none⟩ = some (.slice B6 s.lines.length c6)) (by kernel_rfl) ?_ (fun hHeld => ?_)
      · exact HK.out _ (by repeat (first | exact Below.refl _ _ | exact HE4.out | exact HE3.out | exact HE2.out | apply ext_drew | apply ext_drewN | apply ext_alloc))
      refine wpAnyH_take (i := 0) (v := ?_) (take_list rfl) (by kernel_rfl) (by kernel_rfl) (by kernel_rfl) (fun _ _ _ h => h) (Or.inl ⟨by rfl, ?_⟩) (by assumption) ?_
      rotate_left
      · intro w hSw
        try dsimp only at hSw
        first | (go_simp; done) | (go_simp; with_reducible rfl)
      try simp only [Act.put, List.setIfInBounds_toArray, List.set_cons_zero, List.set_cons_succ]
      refine wpAnyH_take (i := 1) (v := ?_) (take_list rfl) (by kernel_rfl) (by kernel_rfl) (by kernel_rfl) (fun _ _ _ h => h) (Or.inl ⟨by rfl, ?_⟩) (by assumption) ?_
      rotate_left
      · intro w hSw
        try dsimp only at hSw
        first | (go_simp; done) | (go_simp; with_reducible rfl)
      try simp only [Act.put, List.setIfInBounds_toArray, List.set_cons_zero, List.set_cons_succ]
      refine wpAnyH_take (i := 2) (v := ?_) (take_list rfl) (by kernel_rfl) (by kernel_rfl) (by kernel_rfl) (fun _ _ _ h => h) (Or.inl ⟨by rfl, ?_⟩) (by assumption) ?_
      rotate_left
      · intro w hSw
        try dsimp only at hSw
        first | (go_simp; done) | (go_simp; with_reducible rfl)
      try simp only [Act.put, List.setIfInBounds_toArray, List.set_cons_zero, List.set_cons_succ]
      refine wpAnyH_take (i := 3) (v := ?_) (take_list rfl) (by kernel_rfl) (by kernel_rfl) (by kernel_rfl) (fun _ _ _ h => h) (Or.inl ⟨by rfl, ?_⟩) (by assumption) ?_
      rotate_left
      · intro w hSw
        try dsimp only at hSw
        first | (go_simp; done) | (go_simp; with_reducible rfl)
      try simp only [Act.put, List.setIfInBounds_toArray, List.set_cons_zero, List.set_cons_succ]
      refine wpAnyH_take (i := 4) (v := ?_) (take_list rfl) (by kernel_rfl) (by kernel_rfl) (by kernel_rfl) (fun _ _ _ h => h) (Or.inl ⟨by rfl, ?_⟩) (by assumption) ?_
      rotate_left
      · intro w hSw
        try dsimp only at hSw
        first | (go_simp; done) | (go_simp; with_reducible rfl)
      try simp only [Act.put, List.setIfInBounds_toArray, List.set_cons_zero, List.set_cons_succ]
      refine wpAnyH_take (i := 5) (v := ?_) (take_list rfl) (by kernel_rfl) (by kernel_rfl) (by kernel_rfl) (fun _ _ _ h => h) (Or.inl ⟨by rfl, ?_⟩) (by assumption) ?_
      rotate_left
      · intro w hSw
        try dsimp only at hSw
        first | (go_simp; done) | (go_simp; with_reducible rfl)
      try simp only [Act.put, List.setIfInBounds_toArray, List.set_cons_zero, List.set_cons_succ]
      refine wpAnyH_take (i := 6) (v := ?_) (take_list rfl) (by kernel_rfl) (by kernel_rfl) (by kernel_rfl) (fun _ _ _ h => h) (Or.inl ⟨by rfl, ?_⟩) (by assumption) ?_
      rotate_left
      · intro w hSw
        try dsimp only at hSw
        first | (go_simp; done) | (go_simp; with_reducible rfl)
      try simp only [Act.put, List.setIfInBounds_toArray, List.set_cons_zero, List.set_cons_succ]
      refine wpAnyH_take (i := 7) (v := ?_) (take_list rfl) (by kernel_rfl) (by kernel_rfl) (by kernel_rfl) (fun _ _ _ h => h) (Or.inl ⟨by rfl, ?_⟩) (by assumption) ?_
      rotate_left
      · intro w hSw
        try dsimp only at hSw
        first | (go_simp; done) | (go_simp; with_reducible rfl)
      try simp only [Act.put, List.setIfInBounds_toArray, List.set_cons_zero, List.set_cons_succ]
      refine wpAnyH_take (i := 9) (v := ?_) (take_list rfl) (by kernel_rfl) (by kernel_rfl) (by kernel_rfl) (fun _ _ _ h => h) (Or.inl ⟨by rfl, ?_⟩) (by assumption) ?_
      rotate_left
      · intro w hSw
        try dsimp only at hSw
        first | (go_simp; done) | (go_simp; with_reducible rfl)
      try simp only [Act.put, List.setIfInBounds_toArray, List.set_cons_zero, List.set_cons_succ]
      refine wpAnyH_ready (rs := [8]) (by kernel_rfl) (by simp) ?_
      refine AllReadyH.cons (take_list rfl) (fun K hK => ?_) ?_
      · skip
        go_simp
        refine (HO.out B6 c6 _).mono ?_
        rintro e x1 ⟨rfl, hbx⟩
        dsimp only
        have HE2 : Hid (Below w7.heap.size w7 x1) := Lib.hid (ext_trans (by repeat (first | exact Below.refl _ _ | exact HE4.out | exact HE3.out | exact HE2.out | apply ext_drew | apply ext_drewN | apply ext_alloc)) hbx)
        clear hbx
        refine hK.out _ _ ?_ (fun hHeld => ?_)
        · try dsimp only
          exact HK.out _ (by repeat (first | exact Below.refl _ _ | exact HE4.out | exact HE3.out | exact HE2.out | apply ext_drew | apply ext_drewN | apply ext_alloc))
        clear hK K
        refine wpAnyH_ready (rs := [10]) (by kernel_rfl) (by simp) ?_
        refine AllReadyH.cons (take_list rfl) (fun K hK => ?_) ?_
        · skip
          go_simp
          refine (HO.out B c _).mono ?_
          rintro e x2 ⟨rfl, hbx⟩
          dsimp only
          have HE3 : Hid (Below w7.heap.size w7 x2) := Lib.hid (ext_trans (by repeat (first | exact Below.refl _ _ | exact HE4.out | exact HE3.out | exact HE2.out | apply ext_drew | apply ext_drewN | apply ext_alloc)) hbx)
          clear hbx
          refine hK.out _ _ ?_ (fun hHeld => ?_)
          · try dsimp only
            exact HK.out _ (by repeat (first | exact Below.refl _ _ | exact HE4.out | exact HE3.out | exact HE2.out | apply ext_drew | apply ext_drewN | apply ext_alloc))
          clear hK K
          refine wpAnyH_ready (rs := [11]) (by kernel_rfl) (by simp) ?_
          refine AllReadyH.cons (take_list rfl) (fun K hK => ?_) ?_
          · skip
            go_simp
            refine (HSm.out B6 B c6 c _ (Hin.out.ext (by repeat (first | exact Below.refl _ _ | exact HE4.out | exact HE3.out | exact HE2.out | apply ext_drew | apply ext_drewN | apply ext_alloc))) (Hin0.out.ext (by repeat (first | exact Below.refl _ _ | exact HE4.out | exact HE3.out | exact HE2.out | apply ext_drew | apply ext_drewN | apply ext_alloc)))).mono ?_
            rintro e x3 ⟨rfl, hbx⟩
            dsimp only
            have HE4 : Hid (Below w7.heap.size w7 x3) := Lib.hid (ext_trans (by repeat (first | exact Below.refl _ _ | exact HE4.out | exact HE3.out | exact HE2.out | apply ext_drew | apply ext_drewN | apply ext_alloc)) hbx)
            clear hbx
            refine hK.out _ _ ?_ (fun hHeld => ?_)
            · try dsimp only
              exact HK.out _ (by repeat (first | exact Below.refl _ _ | exact HE4.out | exact HE3.out | exact HE2.out | apply ext_drew | apply ext_drewN | apply ext_alloc))
            clear hK K
            refine wpAnyH_take (i := 12) (v := ?_) (take_list rfl) (by kernel_rfl) (by kernel_rfl) (by kernel_rfl) (fun _ _ _ h => h) (Or.inl ⟨by rfl, ?_⟩) (by assumption) ?_
            rotate_left
            · intro w hSw
              try dsimp only at hSw
              first | (go_simp; done) | (go_simp; with_reducible rfl)
            try simp only [Act.put, List.setIfInBounds_toArray, List.set_cons_zero, List.set_cons_succ]
            refine wpAnyH_take (i := 13) (v := ?_) (take_list rfl) (by kernel_rfl) (by kernel_rfl) (by kernel_rfl) (fun _ _ _ h => h) (Or.inl ⟨by rfl, ?_⟩) (by assumption) ?_
            rotate_left
            · intro w hSw
              try dsimp only at hSw
              first | (go_simp; done) | (go_simp; with_reducible rfl)
            try simp only [Act.put, List.setIfInBounds_toArray, List.set_cons_zero, List.set_cons_succ]
            refine wpAnyH_take (i := 14) (v := ?_) (take_list rfl) (by kernel_rfl) (by kernel_rfl) (by kernel_rfl) (fun _ _ _ h => h) (Or.inl ⟨by rfl, ?_⟩) (by assumption) ?_
            rotate_left
            · intro w hSw
              try dsimp only at hSw
              first | (go_simp; done) | (go_simp; with_reducible rfl)
            try simp only [Act.put, List.setIfInBounds_toArray, List.set_cons_zero, List.set_cons_succ]
            refine wpAnyH_take (i := 15) (v := ?_) (take_list rfl) (by kernel_rfl) (by kernel_rfl) (by kernel_rfl) (fun _ _ _ h => h) (Or.inl ⟨by rfl, ?_⟩) (by assumption) ?_
            rotate_left
            · intro w hSw
              try dsimp only at hSw
              first | (go_simp; done) | (go_simp; with_reducible rfl)
            try simp only [Act.put, List.setIfInBounds_toArray, List.set_cons_zero, List.set_cons_succ]
            refine wpAnyH_take (i := 16) (v := ?_) (take_list rfl) (by kernel_rfl) (by kernel_rfl) (by kernel_rfl) (fun _ _ _ h => h) (Or.inl ⟨by rfl, ?_⟩) (by assumption) ?_
            rotate_left
            · intro w hSw
              try dsimp only at hSw
              first | (go_simp; done) | (go_simp; with_reducible rfl)
            try simp only [Act.put, List.setIfInBounds_toArray, List.set_cons_zero, List.set_cons_succ]
            refine wpAnyH_take (i := 17) (v := ?_) (take_list rfl) (by kernel_rfl) (by kernel_rfl) (by kernel_rfl) (fun _ _ _ h => h) (Or.inl ⟨by rfl, ?_⟩) (by assumption) ?_
            rotate_left
            · intro w hSw
              try dsimp only at hSw
              first | (go_simp; done) | (go_simp; with_reducible rfl)
            try simp only [Act.put, List.setIfInBounds_toArray, List.set_cons_zero, List.set_cons_succ]
            refine wpAnyH_take (i := 18) (v := ?_) (take_list rfl) (by kernel_rfl) (by kernel_rfl) (by kernel_rfl) (fun _ _ _ h => h) (Or.inl ⟨by rfl, ?_⟩) (by assumption) ?_
            rotate_left
            · intro w hSw
              try dsimp only at hSw
              first | (go_simp; done) | (go_simp; with_reducible rfl)
            try simp only [Act.put, List.setIfInBounds_toArray, List.set_cons_zero, List.set_cons_succ]
            refine wpAnyH_done (by kernel_rfl) ?_ _
            have Hb8 := Lib.hid (ext_trans Hb7.out HE4.out)
            obtain ⟨m, hm, hm2⟩ := mask30 at_
            obtain ⟨K, hK⟩ : ∃ K, m % q.length = K := ⟨_, rfl⟩
            have hKl : K < q.length := by rw [← hK]; exact Nat.mod_lt _ hpo
            have hKi : (m : Int) % (q.length : Int) = (K : Int) := by rw [← hK]; rfl
            have hKt : (m : Int).tmod (q.length : Int) = (K : Int) := by rw [← hKi]; exact Int.tmod_eq_emod_of_nonneg (by omega)
            have hm3 : (m : Int) ≤ 1073741823 := by omega
            have hKp : (K : Int) < (q.length : Int) := by omega
            have HKl := Lib.hid hKl
            obtain ⟨g, hg, hgw, hcell, hfr, hput⟩ := new_put (Hn7.out.ext HE4.out) hKl
            subst hg
            have Hgw := Lib.hid (Nat.le_trans Hb4.out.size hgw)
            obtain ⟨x, hx⟩ : ∃ x, q[K]'hKl = x := ⟨_, rfl⟩
            rw [hx] at hcell
            have hset : q.set K x = q := by rw [← hx]; simp
            have hsp : ∀ z, x ≠ z → decG (q.set K z) = (⟨0, []⟩, 2) := fun z hz => HS2.out K hKl z (by rw [hx]; exact hz)
            clear hx
            by_cases hy0 : y = 0
            · subst hy0
              have hxs := xor_stays x
              have Hb9 : Hid (Below w.heap.size w (x3.setCell ⟨g, K, none⟩ (bv x))) := Lib.hid (Below.setCell Hb8.out Hgw.out _)
              have HX := Lib.hid (HDs2.out _ (some ⟨g, 0, none⟩) c5 (q.set K x) (List.length_set ..) Hb9.out (hput x) (by rw [List.length_set]; exact Hc5.out))
              rw [hset, HGd.out] at HX
              simp only at HX
              unfold sgV bv at HX
              unfold bv at hcell Hb9
              clear hput hK hKl hm2 hgw HDs2 HS2 hset hsp
              go_wp2_with fail
              refine HX.out.mono ?_
              rintro e w10 ⟨B10, c10, rfl, hin10, hb10⟩
              have Hb10 : Hid (Below w.heap.size w (w10.alloc (.cells #[.int .i64 s.first, .slice B10 s.lines.length c10] 24))) := Lib.hid (ext_alloc (ext_trans Hb9.out hb10) _)
              clear hin10 hb10 HX hcell hfr
              go_wp2_with fail
              refine (known18_any _ (Ht.out.ext Hb10.out)).mono ?_
              rintro e w12 ⟨rfl, hb⟩
              have Hb12 := Lib.hid (ext_trans Hb10.out hb)
              clear hb
              go_wp2
              go_ret
              exact ⟨rfl, Hb12.out⟩
            · obtain ⟨z, hz1, hz2⟩ := xor_turns x y hy.1 hy.2 hy0
              have hyb : (y == 0) = false := beq_eq_false_iff_ne.2 hy0
              have Hb9 : Hid (Below w.heap.size w (x3.setCell ⟨g, K, none⟩ (bv z))) := Lib.hid (Below.setCell Hb8.out Hgw.out _)
              have HX := Lib.hid (HDs2.out _ (some ⟨g, 0, none⟩) c5 (q.set K z) (List.length_set ..) Hb9.out (hput z) (by rw [List.length_set]; exact Hc5.out))
              rw [hsp z hz2, List.length_set] at HX
              simp only at HX
              unfold sgV bv at HX
              simp only [List.length_nil] at HX
              unfold bv at hcell Hb9
              clear hput hK hKl hm2 hgw HDs2 HS2 hz2 hset hsp
              go_wp2_with fail
              refine HX.out.mono ?_
              rintro e w10 ⟨B10, c10, rfl, hin10, hb10⟩
              have hX := Blk.new w10 24 #[.int .i64 0, .slice B10 0 c10]
              have a1 := hX.cell 1
              simp only [List.getElem?_toArray, List.getElem?_cons_zero, List.getElem?_cons_succ] at a1
              have Hb10 : Hid (Below w.heap.size w (w10.alloc (.cells #[.int .i64 0, .slice B10 0 c10] 24))) := Lib.hid (ext_alloc (ext_trans Hb9.out hb10) _)
              clear hX hin10 hb10 HX hcell hfr
              go_wp2_with fail
              refine (known18_any _ (Ht.out.ext Hb10.out)).mono ?_
              rintro e w12 ⟨rfl, hb⟩
              have Hb12 := Lib.hid (ext_trans Hb10.out hb)
              clear hb
              go_wp2
              go_ret
              exact ⟨rfl, Hb12.out⟩
          exact AllReadyH.nil
        exact AllReadyH.nil
      exact AllReadyH.nil
end Go.Proofs.YtpjgkacekelkdaaDoor
