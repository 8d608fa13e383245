/-
  Texts of this claim, joined (part 15): contracts and lemmas that the last text goes by. No statement of the seat is proved here.
-/
import Derived.Test.YtpjgkacekelkdaaDoorAll13
import Derived.Test.YtpjgkacekelkdaaDoorAll12
import Derived.Test.YtpjgkacekelkdaaDoorAll14
import Derived.Deep.RegionHeld3
set_option linter.unusedVariables false
set_option linter.unusedSimpArgs false
/-
  Rows of two-cell elements as cells, for any kind of element. No statement of the seat is proved here.
-/
namespace Go.Proofs.YtpjgkacekelkdaaDoor
open Go Go.RowKit
set_option maxRecDepth 100000

/-- rows of cells that are segments, element by element -/
def RowS (w : World) (xs : List Value) (l : List Sg) : Prop := xs.length = l.length * 2 ∧ ∀ (j : Nat) (h : j < l.length), ∃ u v, xs[j * 2]? = some u ∧ xs[j * 2 + 1]? = some v ∧ IsSg w [u, v] l[j]
theorem RowS.nil (w : World) : RowS w [] [] := ⟨rfl, fun j h => absurd h (by simp)⟩
theorem RowS.ext {w w' : World} {xs : List Value} {l : List Sg} (h : RowS w xs l) (hb : Below w.heap.size w w') : RowS w' xs l := ⟨h.1, fun j hj => by
  obtain ⟨u, v, h1, h2, h3⟩ := h.2 j hj
  exact ⟨u, v, h1, h2, IsSg.lasts _ _ _ _ hb h3⟩⟩
theorem RowS.app {w : World} {xs ys : List Value} {l m : List Sg} (h : RowS w xs l) (k : RowS w ys m) : RowS w (xs ++ ys) (l ++ m) := by
  refine ⟨by rw [List.length_append, List.length_append, h.1, k.1]; omega, fun j hj => ?_⟩
  by_cases hl : j < l.length
  · obtain ⟨u, v, e1, e2, e3⟩ := h.2 j hl
    refine ⟨u, v, by rw [List.getElem?_append_left (by rw [h.1]; omega)]; exact e1, by rw [List.getElem?_append_left (by rw [h.1]; omega)]; exact e2, ?_⟩
    rw [List.getElem_append_left hl]
    exact e3
  · have hj2 : j - l.length < m.length := by rw [List.length_append] at hj; omega
    obtain ⟨u, v, e1, e2, e3⟩ := k.2 (j - l.length) hj2
    refine ⟨u, v, ?_, ?_, ?_⟩
    · rw [List.getElem?_append_right (by rw [h.1]; omega), h.1, show j * 2 - l.length * 2 = (j - l.length) * 2 by omega]; exact e1
    · rw [List.getElem?_append_right (by rw [h.1]; omega), h.1, show j * 2 + 1 - l.length * 2 = (j - l.length) * 2 + 1 by omega]; exact e2
    · rw [List.getElem_append_right (by omega)]
      exact e3
theorem RowS.one {w : World} {u v : Value} {x : Sg} (h : IsSg w [u, v] x) : RowS w [u, v] [x] := ⟨rfl, fun j hj => by
  obtain rfl : j = 0 := by simpa using hj
  exact ⟨u, v, rfl, rfl, h⟩⟩
theorem RowS.row {w : World} {T : TypeId} {A : Option Addr} {m c : Nat} {xs : List Value} {l : List Sg} (ho : RowO w T 2 A m c xs) (h : RowS w xs l) : RowR IsSg 2 w A l := fun k hk => by
  obtain ⟨u, v, e1, e2, e3⟩ := h.2 k hk
  rcases ho.2 with ⟨_, h0, _⟩ | ⟨g, off, cs, rfl, _, _, hb, _, hc⟩
  · have := ho.1
    rw [h.1] at this
    omega
  · refine ⟨g, off, [u, v], rfl, rfl, fun j z hz => ?_, e3⟩
    match j, hz with
    | 0, hz => simp at hz; subst hz; rw [Nat.add_zero, hb.cell]; exact hc _ _ e1
    | 1, hz => simp at hz; subst hz; rw [Nat.add_assoc, hb.cell]; exact hc _ _ e2
theorem info_rsg : (Tryd.prog.info? 27).map (fun i => (i.zero, i.size, i.bytes)) = some (some (.agg #[.int .i64 0, .slice none 0 0]), 2, 32) := by kernel_rfl
end Go.Proofs.YtpjgkacekelkdaaDoor

/-
  The law's known: two lines. No statement of the seat is proved here.
-/
namespace Go.Proofs.YtpjgkacekelkdaaDoor
open Go Go.RowKit
set_option maxRecDepth 100000

def knownS : Sg := ⟨5, [⟨1, [[51]]⟩, ⟨1, [[52]]⟩]⟩
theorem knownS_is : isG knownS = true := by decide
/-- encoded, read back: one contract of each, at a segment that may be -/
theorem encode_good (s : Sg) (hi : isG s = true) (B : Option Addr) (c : Nat) (w : World) (ht : Tab w) (h : SgIn w s B c) :
    Calls Tryd.prog 9 #[sgV s B c] w fun e w' => ∃ A' c', e = .returned (.tuple #[.slice A' (encG s).length c', .int .i64 0]) ∧ New w w' A' c' (encG s) ∧ Below w.heap.size w w' := by
  have h5 := ((isG_iff s).1 hi).2
  have h := encodeG_any s B c w ht h (fun x hx v hv => by have := (h5 x hx).2.2.2 v hv; unfold maxLen; omega)
  rw [show ansG s = (encG s, 0) by unfold ansG; rw [if_pos hi]] at h
  exact h
theorem decode_good (s : Sg) (hi : isG s = true) (A : Option Addr) (c : Nat) (w : World) (ht : Tab w) (hA : Rd w A ((encG s).map bv)) (hc : (encG s).length ≤ c) :
    Calls Tryd.prog 10 #[.slice A (encG s).length c] w fun e w' => ∃ B' c', e = .returned (.tuple #[sgV s B' c', .int .i64 0]) ∧ SgIn w' s B' c' ∧ Below w.heap.size w w' := by
  have h := decodeG_any (encG s) A c w ht hA hc (by have := encG_len hi; omega)
  rw [decG_enc hi] at h
  exact h
theorem same_good (s : Sg) (A B : Option Addr) (c d : Nat) (w : World) (ha : SgIn w s A c) (hb : SgIn w s B d) :
    Calls Tryd.prog 11 #[sgV s A c, sgV s B d] w fun e w' => e = .returned (.bool true) ∧ Below w.heap.size w w' := by
  refine (rsame_any s s A B c d w ha hb).mono ?_
  rintro e w' ⟨r, rfl, hr, hb⟩
  rw [hr.2 rfl]
  exact ⟨rfl, hb⟩

theorem ln_lit {W : World} {g : Nat} {b : UInt8} (hb : Blk W g 9 #[.string ⟨#[b]⟩]) : LnIn W ⟨1, [[b]]⟩ (some ⟨g, 0, none⟩) 1 := by
  refine ⟨⟨by simp, by simp⟩, by simp, by unfold maxLen; omega, (fun h => by cases h), ?_⟩
  exact Rd.blk hb
theorem two_cells {W : World} {g o : Nat} {u v : Value} (h0 : W.cell? ⟨g, o, none⟩ = some u) (h1 : W.cell? ⟨g, o + 1, none⟩ = some v) : ∀ (j : Nat) (z : Value), [u, v][j]? = some z → W.cell? ⟨g, o + j, none⟩ = some z := by
  intro j z hz
  match j, hz with
  | 0, hz => simp at hz; subst hz; exact h0
  | 1, hz => simp at hz; subst hz; exact h1
theorem known_in {W : World} {g0 g1 g2 : Nat} (hB0 : Blk W g0 9 #[.string ⟨#[51]⟩]) (hB1 : Blk W g1 9 #[.string ⟨#[52]⟩])
    (hB2 : Blk W g2 47 #[.int .i64 1, .slice (some ⟨g0, 0, none⟩) 1 1, .int .i64 1, .slice (some ⟨g1, 0, none⟩) 1 1]) : SgIn W knownS (some ⟨g2, 0, none⟩) 2 := by
  refine ⟨⟨by show (-9223372036854775808 : Int) ≤ 5; omega, by show (5 : Int) ≤ 9223372036854775807; omega⟩, by simp [knownS], by unfold maxLen; omega, (fun h => by cases h), fun k hk => ?_⟩
  match k, hk with
  | 0, _ => exact ⟨g2, 0, _, rfl, rfl, two_cells (hB2.cell 0) (hB2.cell 1), some ⟨g0, 0, none⟩, 1, rfl, ln_lit hB0⟩
  | 1, _ => exact ⟨g2, 0, _, rfl, rfl, two_cells (o := 0 + 1 * 2) (hB2.cell 2) (hB2.cell 3), some ⟨g1, 0, none⟩, 1, rfl, ln_lit hB1⟩

set_option maxHeartbeats 16000000 in
theorem known18_any (w : World) (ht : Tab w) : Calls Tryd.prog 12 #[] w fun e w' => e = .returned (.bool true) ∧ Below w.heap.size w w' := by
  obtain ⟨W0, hW0⟩ : ∃ W0, W0 = (((w.alloc (.cells #[.string ⟨#[51]⟩] 9)).alloc (.cells #[.string ⟨#[52]⟩] 9)).alloc (.cells #[.int .i64 1, .slice (some ⟨w.heap.size, 0, none⟩) 1 1, .int .i64 1, .slice (some ⟨w.heap.size + 1, 0, none⟩) 1 1] 47)).alloc (.cells #[.int .i64 5, .slice (some ⟨w.heap.size + 2, 0, none⟩) 2 2] 24) := ⟨_, rfl⟩
  have hb0 : Below w.heap.size w W0 := by rw [hW0]; exact ext_alloc (ext_alloc (ext2 _ _ _) _) _
  have hB0 : Blk W0 w.heap.size 9 #[.string ⟨#[51]⟩] := by rw [hW0]; exact (((Blk.new _ _ _).alloc _).alloc _).alloc _
  have hB1 : Blk W0 (w.heap.size + 1) 9 #[.string ⟨#[52]⟩] := by
    rw [hW0]
    have h := Blk.new (w.alloc (.cells #[.string ⟨#[51]⟩] 9)) 9 #[.string ⟨#[52]⟩]
    rw [World.size_alloc] at h
    exact (h.alloc _).alloc _
  have hB2 : Blk W0 (w.heap.size + 2) 47 #[.int .i64 1, .slice (some ⟨w.heap.size, 0, none⟩) 1 1, .int .i64 1, .slice (some ⟨w.heap.size + 1, 0, none⟩) 1 1] := by
    rw [hW0]
    have h := Blk.new ((w.alloc (.cells #[.string ⟨#[51]⟩] 9)).alloc (.cells #[.string ⟨#[52]⟩] 9)) 47 #[.int .i64 1, .slice (some ⟨w.heap.size, 0, none⟩) 1 1, .int .i64 1, .slice (some ⟨w.heap.size + 1, 0, none⟩) 1 1]
    rw [World.size_alloc, World.size_alloc] at h
    exact h.alloc _
  have HB3 : Hid (Blk W0 (w.heap.size + 3) 24 #[.int .i64 5, .slice (some ⟨w.heap.size + 2, 0, none⟩) 2 2]) := Lib.hid (by
    rw [hW0]
    have h := Blk.new (((w.alloc (.cells #[.string ⟨#[51]⟩] 9)).alloc (.cells #[.string ⟨#[52]⟩] 9)).alloc (.cells #[.int .i64 1, .slice (some ⟨w.heap.size, 0, none⟩) 1 1, .int .i64 1, .slice (some ⟨w.heap.size + 1, 0, none⟩) 1 1] 47)) 24 #[.int .i64 5, .slice (some ⟨w.heap.size + 2, 0, none⟩) 2 2]
    rw [World.size_alloc, World.size_alloc, World.size_alloc] at h
    exact h)
  have HI : Hid (SgIn W0 knownS (some ⟨w.heap.size + 2, 0, none⟩) 2) := Lib.hid (known_in hB0 hB1 hB2)
  have Ht := Lib.hid ht
  have Hb0 := Lib.hid hb0
  have HW0 := Lib.hid hW0
  have HE := Lib.hid (encode_good knownS knownS_is (some ⟨w.heap.size + 2, 0, none⟩) 2 W0 (ht.ext hb0) HI.out)
  have HD := Lib.hid (fun A c W => decode_good knownS knownS_is A c W)
  have HSm := Lib.hid (fun A B c d W => same_good knownS A B c d W)
  have HO := Lib.hid (fun B c W => own_any knownS B c W)
  have e1 : knownS.first = 5 := rfl
  have e2 : knownS.lines.length = 2 := rfl
  unfold sgV at HE HD HSm HO
  rw [e1, e2] at HE
  simp only [e1, e2] at HD HSm HO
  generalize encG knownS = q at *
  clear ht hb0 hW0 hB0 hB1 hB2 e1 e2
  go_enter Tryd.func12, Tryd.ntmps12
  go_wp2_with fail
  rw [← HW0.out]
  refine HE.out.mono ?_
  rintro e w1 ⟨A1, c1, rfl, hn1, hb1⟩
  have hc1 : q.length ≤ c1 := by have := Own.cap hn1; simpa using this
  have HX := Lib.hid (HD.out A1 c1 w1 (Ht.out.ext (ext_trans Hb0.out hb1)) hn1.rd hc1)
  have Hb1 := Lib.hid hb1
  clear hn1 hc1 hb1 HE HD
  go_wp2_with fail
  refine HX.out.mono ?_
  rintro e w3 ⟨B', c', rfl, hin, hb3⟩
  obtain ⟨w4, hw4⟩ : ∃ w4, w4 = w3.alloc (.cells #[.int .i64 5, .slice B' 2 c'] 24) := ⟨_, rfl⟩
  have hb4 : Below w3.heap.size w3 w4 := by rw [hw4]; exact ext_alloc (Below.refl _ _) _
  have hB4 : Blk w4 w3.heap.size 24 #[.int .i64 5, .slice B' 2 c'] := by rw [hw4]; exact Blk.new _ _ _
  have hb04 : Below W0.heap.size W0 w4 := ext_trans (ext_trans Hb1.out hb3) hb4
  have HK : Hid (∀ W, Below w4.heap.size w4 W → W.cell? ⟨w.heap.size + 3, 0, none⟩ = some (.int .i64 5) ∧ W.cell? ⟨w.heap.size + 3, 1, none⟩ = some (.slice (some ⟨w.heap.size + 2, 0, none⟩) 2 2) ∧ W.cell? ⟨w3.heap.size, 0, none⟩ = some (.int .i64 5) ∧ W.cell? ⟨w3.heap.size, 1, none⟩ = some (.slice B' 2 c')) := Lib.hid (fun W hW =>
    ⟨((HB3.out.ext hb04).ext hW).cell 0, ((HB3.out.ext hb04).ext hW).cell 1, (hB4.ext hW).cell 0, (hB4.ext hW).cell 1⟩)
  have Hin := Lib.hid (hin.ext hb4)
  have Hin0 := Lib.hid (HI.out.ext hb04)
  have Hb04 := Lib.hid (ext_trans Hb0.out hb04)
  have Hw4 := Lib.hid hw4
  clear hin hb3 hw4 hb4 hB4 hb04 HX
  go_wp2_with fail
  rw [← Hw4.out]
  refine wp_region_held_drew (S := fun W => W.cell? ⟨w.heap.size + 3, 0, none⟩ = some (.int .i64 5) ∧ W.cell? ⟨w.heap.size + 3, 1, none⟩ = some (.slice (some ⟨w.heap.size + 2, 0, none⟩) 2 2) ∧ W.cell? ⟨w3.heap.size, 0, none⟩ = some (.int .i64 5) ∧ W.cell? ⟨w3.heap.size, 1, none⟩ = some (.slice B' 2 c')) (by kernel_rfl) ?_ (fun hHeld => ?_)
  · exact HK.out _ (by repeat (first | exact Below.refl _ _ | exact HE4.out | exact HE3.out | exact HE2.out | apply ext_drew | apply ext_drewN | apply ext_alloc))
  refine wpAnyH_take (i := 0) (v := ?_) (take_list rfl) (by kernel_rfl) (by kernel_rfl) (by kernel_rfl) (fun _ _ _ h => h) (Or.inl ⟨by rfl, ?_⟩) (by assumption) ?_
  rotate_left
  · intro w hSw
    try dsimp only at hSw
    first | (go_simp; done) | (go_simp; with_reducible rfl)
  try simp only [Act.put, List.setIfInBounds_toArray, List.set_cons_zero, List.set_cons_succ]
  refine wpAnyH_take (i := 1) (v := ?_) (take_list rfl) (by kernel_rfl) (by kernel_rfl) (by kernel_rfl) (fun _ _ _ h => h) (Or.inl ⟨by rfl, ?_⟩) (by assumption) ?_
  rotate_left
  · intro w hSw
    try dsimp only at hSw
    first | (go_simp; done) | (go_simp; with_reducible rfl)
  try simp only [Act.put, List.setIfInBounds_toArray, List.set_cons_zero, List.set_cons_succ]
  refine wpAnyH_take (i := 2) (v := ?_) (take_list rfl) (by kernel_rfl) (by kernel_rfl) (by kernel_rfl) (fun _ _ _ h => h) (Or.inl ⟨by rfl, ?_⟩) (by assumption) ?_
  rotate_left
  · intro w hSw
    try dsimp only at hSw
    first | (go_simp; done) | (go_simp; with_reducible rfl)
  try simp only [Act.put, List.setIfInBounds_toArray, List.set_cons_zero, List.set_cons_succ]
  refine wpAnyH_take (i := 3) (v := ?_) (take_list rfl) (by kernel_rfl) (by kernel_rfl) (by kernel_rfl) (fun _ _ _ h => h) (Or.inl ⟨by rfl, ?_⟩) (by assumption) ?_
  rotate_left
  · intro w hSw
    try dsimp only at hSw
    first | (go_simp; done) | (go_simp; with_reducible rfl)
  try simp only [Act.put, List.setIfInBounds_toArray, List.set_cons_zero, List.set_cons_succ]
  refine wpAnyH_take (i := 4) (v := ?_) (take_list rfl) (by kernel_rfl) (by kernel_rfl) (by kernel_rfl) (fun _ _ _ h => h) (Or.inl ⟨by rfl, ?_⟩) (by assumption) ?_
  rotate_left
  · intro w hSw
    try dsimp only at hSw
    first | (go_simp; done) | (go_simp; with_reducible rfl)
  try simp only [Act.put, List.setIfInBounds_toArray, List.set_cons_zero, List.set_cons_succ]
  refine wpAnyH_take (i := 5) (v := ?_) (take_list rfl) (by kernel_rfl) (by kernel_rfl) (by kernel_rfl) (fun _ _ _ h => h) (Or.inl ⟨by rfl, ?_⟩) (by assumption) ?_
  rotate_left
  · intro w hSw
    try dsimp only at hSw
    first | (go_simp; done) | (go_simp; with_reducible rfl)
  try simp only [Act.put, List.setIfInBounds_toArray, List.set_cons_zero, List.set_cons_succ]
  refine wpAnyH_take (i := 6) (v := ?_) (take_list rfl) (by kernel_rfl) (by kernel_rfl) (by kernel_rfl) (fun _ _ _ h => h) (Or.inl ⟨by rfl, ?_⟩) (by assumption) ?_
  rotate_left
  · intro w hSw
    try dsimp only at hSw
    first | (go_simp; done) | (go_simp; with_reducible rfl)
  try simp only [Act.put, List.setIfInBounds_toArray, List.set_cons_zero, List.set_cons_succ]
  refine wpAnyH_take (i := 7) (v := ?_) (take_list rfl) (by kernel_rfl) (by kernel_rfl) (by kernel_rfl) (fun _ _ _ h => h) (Or.inl ⟨by rfl, ?_⟩) (by assumption) ?_
  rotate_left
  · intro w hSw
    try dsimp only at hSw
    first | (go_simp; done) | (go_simp; with_reducible rfl)
  try simp only [Act.put, List.setIfInBounds_toArray, List.set_cons_zero, List.set_cons_succ]
  refine wpAnyH_take (i := 9) (v := ?_) (take_list rfl) (by kernel_rfl) (by kernel_rfl) (by kernel_rfl) (fun _ _ _ h => h) (Or.inl ⟨by rfl, ?_⟩) (by assumption) ?_
  rotate_left
  · intro w hSw
    try dsimp only at hSw
    first | (go_simp; done) | (go_simp; with_reducible rfl)
  try simp only [Act.put, List.setIfInBounds_toArray, List.set_cons_zero, List.set_cons_succ]
  refine wpAnyH_ready (rs := [8]) (by kernel_rfl) (by simp) ?_
  refine AllReadyH.cons (take_list rfl) (fun K hK => ?_) ?_
  · skip
    go_simp
    refine (HO.out B' c' _).mono ?_
    rintro e x1 ⟨rfl, hbx⟩
    dsimp only
    have HE2 : Hid (Below w4.heap.size w4 x1) := Lib.hid (ext_trans (by repeat (first | exact Below.refl _ _ | exact HE4.out | exact HE3.out | exact HE2.out | apply ext_drew | apply ext_drewN | apply ext_alloc)) hbx)
    clear hbx
    refine hK.out _ _ ?_ (fun hHeld => ?_)
    · try dsimp only
      exact HK.out _ (by repeat (first | exact Below.refl _ _ | exact HE4.out | exact HE3.out | exact HE2.out | apply ext_drew | apply ext_drewN | apply ext_alloc))
    clear hK K
    refine wpAnyH_ready (rs := [10]) (by kernel_rfl) (by simp) ?_
    refine AllReadyH.cons (take_list rfl) (fun K hK => ?_) ?_
    · skip
      go_simp
      refine (HO.out (some ⟨w.heap.size + 2, 0, none⟩) 2 _).mono ?_
      rintro e x2 ⟨rfl, hbx⟩
      dsimp only
      have HE3 : Hid (Below w4.heap.size w4 x2) := Lib.hid (ext_trans (by repeat (first | exact Below.refl _ _ | exact HE4.out | exact HE3.out | exact HE2.out | apply ext_drew | apply ext_drewN | apply ext_alloc)) hbx)
      clear hbx
      refine hK.out _ _ ?_ (fun hHeld => ?_)
      · try dsimp only
        exact HK.out _ (by repeat (first | exact Below.refl _ _ | exact HE4.out | exact HE3.out | exact HE2.out | apply ext_drew | apply ext_drewN | apply ext_alloc))
      clear hK K
      refine wpAnyH_ready (rs := [11]) (by kernel_rfl) (by simp) ?_
      refine AllReadyH.cons (take_list rfl) (fun K hK => ?_) ?_
      · skip
        go_simp
        refine (HSm.out B' (some ⟨w.heap.size + 2, 0, none⟩) c' 2 _ (Hin.out.ext (by repeat (first | exact Below.refl _ _ | exact HE4.out | exact HE3.out | exact HE2.out | apply ext_drew | apply ext_drewN | apply ext_alloc))) (Hin0.out.ext (by repeat (first | exact Below.refl _ _ | exact HE4.out | exact HE3.out | exact HE2.out | apply ext_drew | apply ext_drewN | apply ext_alloc)))).mono ?_
        rintro e x3 ⟨rfl, hbx⟩
        dsimp only
        have HE4 : Hid (Below w4.heap.size w4 x3) := Lib.hid (ext_trans (by repeat (first | exact Below.refl _ _ | exact HE4.out | exact HE3.out | exact HE2.out | apply ext_drew | apply ext_drewN | apply ext_alloc)) hbx)
        clear hbx
        refine hK.out _ _ ?_ (fun hHeld => ?_)
        · try dsimp only
          exact HK.out _ (by repeat (first | exact Below.refl _ _ | exact HE4.out | exact HE3.out | exact HE2.out | apply ext_drew | apply ext_drewN | apply ext_alloc))
        clear hK K
        refine wpAnyH_take (i := 12) (v := ?_) (take_list rfl) (by kernel_rfl) (by kernel_rfl) (by kernel_rfl) (fun _ _ _ h => h) (Or.inl ⟨by rfl, ?_⟩) (by assumption) ?_
        rotate_left
        · intro w hSw
          try dsimp only at hSw
          first | (go_simp; done) | (go_simp; with_reducible rfl)
        try simp only [Act.put, List.setIfInBounds_toArray, List.set_cons_zero, List.set_cons_succ]
        refine wpAnyH_take (i := 13) (v := ?_) (take_list rfl) (by kernel_rfl) (by kernel_rfl) (by kernel_rfl) (fun _ _ _ h => h) (Or.inl ⟨by rfl, ?_⟩) (by assumption) ?_
        rotate_left
        · intro w hSw
          try dsimp only at hSw
          first | (go_simp; done) | (go_simp; with_reducible rfl)
        try simp only [Act.put, List.setIfInBounds_toArray, List.set_cons_zero, List.set_cons_succ]
        refine wpAnyH_done (by kernel_rfl) ?_ _
        go_wp2
        go_ret
        exact ⟨rfl, ext_trans Hb04.out HE4.out⟩
      exact AllReadyH.nil
    exact AllReadyH.nil
  exact AllReadyH.nil
end Go.Proofs.YtpjgkacekelkdaaDoor

/-
  SegmentJoins' walk. No statement of the seat is proved in the part ahead of its closing.
-/
namespace Go.Proofs.YtpjgkacekelkdaaDoor
open Go Go.RowKit
set_option maxRecDepth 100000

theorem joinG_cases (l : List Sg) : ((joinG l).2 = 0 ∧ (joinG l).1.lines.length = (lnsTo l l.length).length ∧ ∀ j (hj : j < l.length), isG l[j] = true) ∨ joinG l = (⟨0, []⟩, 1) := by
  unfold joinG
  split
  · rename_i h
    exact .inl ⟨rfl, rfl, fun j hj => (h.1 j hj).1⟩
  · exact .inr rfl

set_option maxHeartbeats 16000000 in
theorem joins_any (A : Option Addr) (c : Nat) (l : List Sg) (w : World) (ht : Tab w) (h : RowR IsSg 2 w A l) (hlc : l.length ≤ c) (hcm : c ≤ maxLen) (hs : ∀ s ∈ l, ∀ x ∈ s.lines, ∀ v ∈ x.vars, v.length ≤ maxLen) :
    Calls Tryd.prog 4 #[.slice A l.length c] w fun e w' => e = .returned (.bool true) ∧ Below w.heap.size w w' := by
  have HL := Lib.hid (longG_any A c l w h (by omega))
  have Ht := Lib.hid ht
  have H := Lib.hid h
  have Hs := Lib.hid hs
  have HO := Lib.hid (fun (s : Sg) B c W => own_any s B c W)
  clear h ht hs
  by_cases h20 : 20 < (l.length : Int)
  · go_enter Tryd.func4, Tryd.ntmps4
    go_wp2
    go_ret
    exact ⟨rfl, Below.refl _ _⟩
  · have h20i : (l.length : Int) ≤ 20 := by omega
    have HJ := Lib.hid (fun (W : World) (hb : Below w.heap.size w W) => join_any' A c l W (H.out.ext IsSg.lasts hb) (by omega) Hs.out)
    have HR := Lib.hid (fun (D : Option Addr) d (W : World) (hr : RowR IsSg 2 W D l) => rjoin_any D d l W hr (by omega) Hs.out)
    have HC := Lib.hid (joinG_cases l)
    generalize joinG l = R at *
    obtain ⟨js, je⟩ := R
    dsimp only at HJ HR HC
    unfold sgV at HJ HR HO
    go_enter Tryd.func4, Tryd.ntmps4
    go_wp2_with fail
    refine HL.out.mono ?_
    rintro e w' ⟨r, rfl, rfl⟩
    cases r with
    | true =>
      go_wp2
      go_ret
      exact ⟨rfl, Below.refl _ _⟩
    | false =>
      go_wp2_with fail
      go_loopw [3, 4, 5] (fun m n i wr => ∃ (k q : Nat) (D : Option Addr) (d : Nat) (xs : List Value) (z : Int), k ≤ l.length ∧ i = .int .i64 (k : Int) ∧ m = .slice D q d ∧ n = .int .i64 z ∧ Hid (q = k) ∧
        Hid ((∀ j (hj : j < l.length), j < k → isG l[j] = true) → z = ((lnsTo l k).length : Int)) ∧ Hid (NewO w wr 27 2 D q d xs) ∧ Hid (RowS w xs (l.take k))) (fun _ _ i _ => l.length - (intOf i).toNat)
      case atStart => exact ⟨0, 0, none, 0, [], 0, Nat.zero_le _, rfl, rfl, rfl, Lib.hid rfl, Lib.hid (fun _ => rfl), Lib.hid (NewO.start _ _ _), Lib.hid (RowS.nil _)⟩
      case round =>
        obtain ⟨k, q, D, d, xs, z, hk, rfl, rfl, rfl, Hq, HZ, HN, HS⟩ := hrel
        by_cases hlt : k < l.length
        · have hki : (k : Int) < (l.length : Int) := by omega
          obtain ⟨gA, oA, B, cb, rfl, y0, y1, hin⟩ := row_sg H.out hlt
          have HY1 := Lib.hid y1
          have x0 := cell_only y0 (Only.of_ext (S := fun _ => False) HN.out.bel) (fun h => h)
          have x1 := cell_only y1 (Only.of_ext (S := fun _ => False) HN.out.bel) (fun h => h)
          have Hin := Lib.hid hin
          have hp1 : q + 1 ≤ maxLen := by have := Hq.out; unfold maxLen; omega
          have hp2 : (q + 1) * 32 ≤ 140737488355328 := by have := Hq.out; omega
          have HT1 : Hid (l.take (k + 1) = l.take k ++ [l[k]]) := Lib.hid (List.take_succ_eq_append_getElem hlt)
          have HZ2 : Hid ((∀ j (hj : j < l.length), j < k + 1 → isG l[j] = true) → IntKind.i64.wrap (z + (l[k].lines.length : Int)) = ((lnsTo l (k + 1)).length : Int)) := Lib.hid (fun hg => by
            have h1 := HZ.out (fun j hj hjk => hg j hj (by omega))
            have h2 := lnsTo_len (l := l) (k := k) (by omega) (fun j hj hjk => hg j hj (by omega))
            have h3 := ((isG_iff _).1 (hg k hlt (by omega))).1.2.2.2
            rw [lnsTo_succ l hlt, List.length_append, h1]
            rw [Go.IntWalk.i64_in _ (by omega)]
            push_cast
            rfl)
          have HOk := Lib.hid (HO.out l[k] B cb)
          have Hsk : Hid (RowS w [.int .i64 l[k].first, .slice B l[k].lines.length cb] [l[k]]) := Lib.hid (RowS.one ⟨B, cb, rfl, hin⟩)
          generalize l[k].first = f at *
          generalize l[k].lines.length = m at *
          clear y0 y1 hin
          go_wp2_with fail
          refine (HOk.out _).mono ?_
          rintro e w1 ⟨rfl, hb1⟩
          have HN1 := Lib.hid (HN.out.ext hb1)
          clear hb1 x0 x1
          go_wp2_with (at_builtin
                       have hbl : Below w1.heap.size w1 (w1.alloc (.cells #[.int .i64 f, .slice B m cb] 27)) := ext_alloc (Below.refl _ _) _
                       refine wpList_appO _ rfl (.tmp 23) (.tmp 29) _ rfl 27 _ 2 32 Tryd.underlying39 info_rsg rfl D q d xs rfl (HN1.out.row.ext hbl) (some ⟨w1.heap.size, 0, none⟩) 1 1 [.int .i64 f, .slice B m cb] rfl rfl (Rd.lit_at _ #[.int .i64 f, .slice B m cb] _ rfl) (by intro u hu; simp at hu; rcases hu with rfl | rfl <;> rfl) (by intro h; cases h) hp1 hp2 ?_
                       intro A5 c5 w5 hr5 ho5 hA5
                       have hN5 := HN1.out.grow hbl hr5 ho5 hA5
                       have HS5 : Hid (RowS w (xs ++ [.int .i64 f, .slice B m cb]) (l.take (k + 1))) := Lib.hid (by rw [HT1.out]; exact HS.out.app Hsk.out)
                       have HN5 := Lib.hid hN5
                       have x1 := cell_only HY1.out (Only.of_ext (S := fun _ => False) hN5.bel) (fun h => h)
                       clear hr5 ho5 hA5 hN5 hbl)
          go_roundw
          case rel => exact ⟨k + 1, q + 1, A5, c5, _, IntKind.i64.wrap (z + (m : Int)), by omega, by go_num, rfl, congrArg (Value.int IntKind.i64) (Go.IntWalk.i64_left _).symm, Lib.hid (by rw [Hq.out]), HZ2, HN5, HS5⟩
          case measure => simp [intOf]; omega
        · obtain rfl : k = l.length := by omega
          have HZz := HZ.out
          have HRow : Hid (RowR IsSg 2 wr D l) := Lib.hid (by have h := RowS.row HN.out.row (HS.out.ext HN.out.bel); rw [List.take_length] at h; exact h)
          have HJ2 := Lib.hid (HJ.out wr HN.out.bel)
          have HR2 := Lib.hid (fun W (hb : Below wr.heap.size wr W) => HR.out D d W (HRow.out.ext IsSg.lasts hb))
          have Hbr := Lib.hid HN.out.bel
          obtain rfl : q = l.length := Hq.out
          have HC2 : Hid (je = 0 ∧ z = (js.lines.length : Int) ∨ je = 1) := Lib.hid (by
            rcases HC.out with ⟨h1, h2, h3⟩ | h
            · exact .inl ⟨h1, by rw [HZz (fun j hj _ => h3 j hj), h2]⟩
            · injection h with _ h; exact .inr h)
          have HOk := Lib.hid (fun B c W => HO.out js B c W)
          have HSm0 := Lib.hid (fun A B c d W ha hb => same_good js A B c d W ha hb)
          obtain ⟨jf, jl⟩ := js
          unfold sgV at HSm0
          dsimp only at HJ2 HR2 HC2 HOk HSm0
          obtain ⟨N, hN⟩ : ∃ N, jl.length = N := ⟨_, rfl⟩
          rw [hN] at HJ2 HR2 HC2 HOk HSm0
          clear hN HN HS HZ HZz HRow HC HJ HR HO HL Hs
          go_wp2_with fail
          refine HJ2.out.mono ?_
          rintro e w6 ⟨B6, c6, rfl, hin6, hb6⟩
          have HI6 := Lib.hid hin6
          have Hb6 := Lib.hid hb6
          obtain ⟨w5, hw5⟩ : ∃ w5, w5 = w6.alloc (.cells #[.int .i64 jf, .slice B6 N c6] 24) := ⟨_, rfl⟩
          have hb5 : Below w6.heap.size w6 w5 := by rw [hw5]; exact ext_alloc (Below.refl _ _) _
          have HX5 : Hid (Blk w5 w6.heap.size 24 #[.int .i64 jf, .slice B6 N c6]) := Lib.hid (by rw [hw5]; exact Blk.new _ _ _)
          have Hb5 := Lib.hid hb5
          have HR3 := Lib.hid (HR2.out w5 (ext_trans hb6 hb5))
          have Hw5 := Lib.hid hw5
          clear hb6 hb5 hin6 hw5 HJ2 HR2
          go_wp2_with fail
          rw [← Hw5.out]
          refine HR3.out.mono ?_
          rintro e w7 ⟨B7, c7, rfl, hin7, hb7⟩
          obtain ⟨w8, hw8⟩ : ∃ w8, w8 = w7.alloc (.cells #[.int .i64 jf, .slice B7 N c7] 27) := ⟨_, rfl⟩
          have hb8 : Below w7.heap.size w7 w8 := by rw [hw8]; exact ext_alloc (Below.refl _ _) _
          have HX8 : Hid (Blk w8 w7.heap.size 27 #[.int .i64 jf, .slice B7 N c7]) := Lib.hid (by rw [hw8]; exact Blk.new _ _ _)
          have HX6 := Lib.hid ((HX5.out.ext hb7).ext hb8)
          have Hb8 := Lib.hid (ext_trans (ext_trans (ext_trans (ext_trans Hbr.out Hb6.out) Hb5.out) hb7) hb8)
          have HSm : Hid (∀ W, Below w8.heap.size w8 W → Calls Tryd.prog 11 #[.agg #[.int .i64 jf, .slice B6 N c6], .agg #[.int .i64 jf, .slice B7 N c7]] W fun e w' => e = .returned (.bool true) ∧ Below W.heap.size W w') := Lib.hid (fun W hW =>
            HSm0.out B6 B7 c6 c7 W ((((HI6.out.ext Hb5.out).ext hb7).ext hb8).ext hW) ((hin7.ext hb8).ext hW))
          have HK : Hid (∀ W, Below w8.heap.size w8 W → W.cell? ⟨w6.heap.size, 0, none⟩ = some (.int .i64 jf) ∧ W.cell? ⟨w6.heap.size, 1, none⟩ = some (.slice B6 N c6) ∧ W.cell? ⟨w7.heap.size, 0, none⟩ = some (.int .i64 jf) ∧ W.cell? ⟨w7.heap.size, 1, none⟩ = some (.slice B7 N c7)) := Lib.hid (fun W hW =>
            ⟨(HX6.out.ext hW).cell 0, (HX6.out.ext hW).cell 1, (HX8.out.ext hW).cell 0, (HX8.out.ext hW).cell 1⟩)
          have HOk2 := Lib.hid (HOk.out B6 c6)
          have Hw8 := Lib.hid hw8
          clear hb7 hb8 hin7 hw8 HR3 HI6 HSm0 HOk
          have HOk := HOk2
          clear HOk2
          rcases HC2.out with ⟨h1, h2⟩ | h1
          · subst h1 h2
            clear HC2
            go_wp2_with fail
            rw [← Hw8.out]
            refine wp_region_held_drew (S := fun W => W.cell? ⟨w6.heap.size, 0, none⟩ = some (.int .i64 jf) ∧ W.cell? ⟨w6.heap.size, 1, none⟩ = some (.slice B6 N c6) ∧ W.cell? ⟨w7.heap.size, 0, none⟩ = some (.int .i64 jf) ∧ W.cell? ⟨w7.heap.size, 1, none⟩ = some (.slice B7 N c7)) (by kernel_rfl) ?_ (fun hHeld => ?_)
            · exact HK.out _ (by repeat (first | exact Below.refl _ _ | exact HE4.out | exact HE3.out | exact HE2.out | apply ext_drew | apply ext_drewN | apply ext_alloc))
            refine wpAnyH_take (i := 0) (v := ?_) (take_list rfl) (by kernel_rfl) (by kernel_rfl) (by kernel_rfl) (fun _ _ _ h => h) (Or.inl ⟨by rfl, ?_⟩) (by assumption) ?_
            rotate_left
            · intro w hSw
              try dsimp only at hSw
              first | (go_simp; done) | (go_simp; with_reducible rfl)
            try simp only [Act.put, List.setIfInBounds_toArray, List.set_cons_zero, List.set_cons_succ]
            refine wpAnyH_take (i := 2) (v := ?_) (take_list rfl) (by kernel_rfl) (by kernel_rfl) (by kernel_rfl) (fun _ _ _ h => h) (Or.inl ⟨by rfl, ?_⟩) (by assumption) ?_
            rotate_left
            · intro w hSw
              try dsimp only at hSw
              first | (go_simp; done) | (go_simp; with_reducible rfl)
            try simp only [Act.put, List.setIfInBounds_toArray, List.set_cons_zero, List.set_cons_succ]
            refine wpAnyH_ready (rs := [1]) (by kernel_rfl) (by simp) ?_
            refine AllReadyH.cons (take_list rfl) (fun K hK => ?_) ?_
            · skip
              go_simp
              refine (HOk.out _).mono ?_
              rintro e x1 ⟨rfl, hbx⟩
              dsimp only
              have HE2 : Hid (Below w8.heap.size w8 x1) := Lib.hid (ext_trans (by repeat (first | exact Below.refl _ _ | exact HE4.out | exact HE3.out | exact HE2.out | apply ext_drew | apply ext_drewN | apply ext_alloc)) hbx)
              clear hbx
              refine hK.out _ _ ?_ (fun hHeld => ?_)
              · try dsimp only
                exact HK.out _ (by repeat (first | exact Below.refl _ _ | exact HE4.out | exact HE3.out | exact HE2.out | apply ext_drew | apply ext_drewN | apply ext_alloc))
              clear hK K
              refine wpAnyH_ready (rs := [3]) (by kernel_rfl) (by simp) ?_
              refine AllReadyH.cons (take_list rfl) (fun K hK => ?_) ?_
              · skip
                go_simp
                refine (HSm.out _ (by repeat (first | exact Below.refl _ _ | exact HE4.out | exact HE3.out | exact HE2.out | apply ext_drew | apply ext_drewN | apply ext_alloc))).mono ?_
                rintro e x2 ⟨rfl, hbx⟩
                dsimp only
                have HE3 : Hid (Below w8.heap.size w8 x2) := Lib.hid (ext_trans (by repeat (first | exact Below.refl _ _ | exact HE4.out | exact HE3.out | exact HE2.out | apply ext_drew | apply ext_drewN | apply ext_alloc)) hbx)
                clear hbx
                refine hK.out _ _ ?_ (fun hHeld => ?_)
                · try dsimp only
                  exact HK.out _ (by repeat (first | exact Below.refl _ _ | exact HE4.out | exact HE3.out | exact HE2.out | apply ext_drew | apply ext_drewN | apply ext_alloc))
                clear hK K
                refine wpAnyH_take (i := 4) (v := ?_) (take_list rfl) (by kernel_rfl) (by kernel_rfl) (by kernel_rfl) (fun _ _ _ h => h) (Or.inl ⟨by rfl, ?_⟩) (by assumption) ?_
                rotate_left
                · intro w hSw
                  try dsimp only at hSw
                  first | (go_simp; done) | (go_simp; with_reducible rfl)
                try simp only [Act.put, List.setIfInBounds_toArray, List.set_cons_zero, List.set_cons_succ]
                refine wpAnyH_take (i := 5) (v := ?_) (take_list rfl) (by kernel_rfl) (by kernel_rfl) (by kernel_rfl) (fun _ _ _ h => h) (Or.inl ⟨by rfl, ?_⟩) (by assumption) ?_
                rotate_left
                · intro w hSw
                  try dsimp only at hSw
                  first | (go_simp; done) | (go_simp; with_reducible rfl)
                try simp only [Act.put, List.setIfInBounds_toArray, List.set_cons_zero, List.set_cons_succ]
                refine wpAnyH_take (i := 6) (v := ?_) (take_list rfl) (by kernel_rfl) (by kernel_rfl) (by kernel_rfl) (fun _ _ _ h => h) (Or.inl ⟨by rfl, ?_⟩) (by assumption) ?_
                rotate_left
                · intro w hSw
                  try dsimp only at hSw
                  first | (go_simp; done) | (go_simp; with_reducible rfl)
                try simp only [Act.put, List.setIfInBounds_toArray, List.set_cons_zero, List.set_cons_succ]
                refine wpAnyH_take (i := 7) (v := ?_) (take_list rfl) (by kernel_rfl) (by kernel_rfl) (by kernel_rfl) (fun _ _ _ h => h) (Or.inl ⟨by rfl, ?_⟩) (by assumption) ?_
                rotate_left
                · intro w hSw
                  try dsimp only at hSw
                  first | (go_simp; done) | (go_simp; with_reducible rfl)
                try simp only [Act.put, List.setIfInBounds_toArray, List.set_cons_zero, List.set_cons_succ]
                refine wpAnyH_take (i := 8) (v := ?_) (take_list rfl) (by kernel_rfl) (by kernel_rfl) (by kernel_rfl) (fun _ _ _ h => h) (Or.inl ⟨by rfl, ?_⟩) (by assumption) ?_
                rotate_left
                · intro w hSw
                  try dsimp only at hSw
                  first | (go_simp; done) | (go_simp; with_reducible rfl)
                try simp only [Act.put, List.setIfInBounds_toArray, List.set_cons_zero, List.set_cons_succ]
                refine wpAnyH_take (i := 9) (v := ?_) (take_list rfl) (by kernel_rfl) (by kernel_rfl) (by kernel_rfl) (fun _ _ _ h => h) (Or.inl ⟨by rfl, ?_⟩) (by assumption) ?_
                rotate_left
                · intro w hSw
                  try dsimp only at hSw
                  first | (go_simp; done) | (go_simp; with_reducible rfl)
                try simp only [Act.put, List.setIfInBounds_toArray, List.set_cons_zero, List.set_cons_succ]
                refine wpAnyH_take (i := 10) (v := ?_) (take_list rfl) (by kernel_rfl) (by kernel_rfl) (by kernel_rfl) (fun _ _ _ h => h) (Or.inl ⟨by rfl, ?_⟩) (by assumption) ?_
                rotate_left
                · intro w hSw
                  try dsimp only at hSw
                  first | (go_simp; done) | (go_simp; with_reducible rfl)
                try simp only [Act.put, List.setIfInBounds_toArray, List.set_cons_zero, List.set_cons_succ]
                refine wpAnyH_take (i := 11) (v := ?_) (take_list rfl) (by kernel_rfl) (by kernel_rfl) (by kernel_rfl) (fun _ _ _ h => h) (Or.inl ⟨by rfl, ?_⟩) (by assumption) ?_
                rotate_left
                · intro w hSw
                  try dsimp only at hSw
                  first | (go_simp; done) | (go_simp; with_reducible rfl)
                try simp only [Act.put, List.setIfInBounds_toArray, List.set_cons_zero, List.set_cons_succ]
                refine wpAnyH_take (i := 12) (v := ?_) (take_list rfl) (by kernel_rfl) (by kernel_rfl) (by kernel_rfl) (fun _ _ _ h => h) (Or.inl ⟨by rfl, ?_⟩) (by assumption) ?_
                rotate_left
                · intro w hSw
                  try dsimp only at hSw
                  first | (go_simp; done) | (go_simp; with_reducible rfl)
                try simp only [Act.put, List.setIfInBounds_toArray, List.set_cons_zero, List.set_cons_succ]
                refine wpAnyH_take (i := 13) (v := ?_) (take_list rfl) (by kernel_rfl) (by kernel_rfl) (by kernel_rfl) (fun _ _ _ h => h) (Or.inl ⟨by rfl, ?_⟩) (by assumption) ?_
                rotate_left
                · intro w hSw
                  try dsimp only at hSw
                  first | (go_simp; done) | (go_simp; with_reducible rfl)
                try simp only [Act.put, List.setIfInBounds_toArray, List.set_cons_zero, List.set_cons_succ]
                refine wpAnyH_take (i := 14) (v := ?_) (take_list rfl) (by kernel_rfl) (by kernel_rfl) (by kernel_rfl) (fun _ _ _ h => h) (Or.inl ⟨by rfl, ?_⟩) (by assumption) ?_
                rotate_left
                · intro w hSw
                  try dsimp only at hSw
                  first | (go_simp; done) | (go_simp; with_reducible rfl)
                try simp only [Act.put, List.setIfInBounds_toArray, List.set_cons_zero, List.set_cons_succ]
                refine wpAnyH_take (i := 15) (v := ?_) (take_list rfl) (by kernel_rfl) (by kernel_rfl) (by kernel_rfl) (fun _ _ _ h => h) (Or.inl ⟨by rfl, ?_⟩) (by assumption) ?_
                rotate_left
                · intro w hSw
                  try dsimp only at hSw
                  first | (go_simp; done) | (go_simp; with_reducible rfl)
                try simp only [Act.put, List.setIfInBounds_toArray, List.set_cons_zero, List.set_cons_succ]
                refine wpAnyH_take (i := 16) (v := ?_) (take_list rfl) (by kernel_rfl) (by kernel_rfl) (by kernel_rfl) (fun _ _ _ h => h) (Or.inl ⟨by rfl, ?_⟩) (by assumption) ?_
                rotate_left
                · intro w hSw
                  try dsimp only at hSw
                  first | (go_simp; done) | (go_simp; with_reducible rfl)
                try simp only [Act.put, List.setIfInBounds_toArray, List.set_cons_zero, List.set_cons_succ]
                refine wpAnyH_take (i := 17) (v := ?_) (take_list rfl) (by kernel_rfl) (by kernel_rfl) (by kernel_rfl) (fun _ _ _ h => h) (Or.inl ⟨by rfl, ?_⟩) (by assumption) ?_
                rotate_left
                · intro w hSw
                  try dsimp only at hSw
                  first | (go_simp; done) | (go_simp; with_reducible rfl)
                try simp only [Act.put, List.setIfInBounds_toArray, List.set_cons_zero, List.set_cons_succ]
                refine wpAnyH_take (i := 18) (v := ?_) (take_list rfl) (by kernel_rfl) (by kernel_rfl) (by kernel_rfl) (fun _ _ _ h => h) (Or.inl ⟨by rfl, ?_⟩) (by assumption) ?_
                rotate_left
                · intro w hSw
                  try dsimp only at hSw
                  first | (go_simp; done) | (go_simp; with_reducible rfl)
                try simp only [Act.put, List.setIfInBounds_toArray, List.set_cons_zero, List.set_cons_succ]
                refine wpAnyH_take (i := 19) (v := ?_) (take_list rfl) (by kernel_rfl) (by kernel_rfl) (by kernel_rfl) (fun _ _ _ h => h) (Or.inl ⟨by rfl, ?_⟩) (by assumption) ?_
                rotate_left
                · intro w hSw
                  try dsimp only at hSw
                  first | (go_simp; done) | (go_simp; with_reducible rfl)
                try simp only [Act.put, List.setIfInBounds_toArray, List.set_cons_zero, List.set_cons_succ]
                refine wpAnyH_take (i := 20) (v := ?_) (take_list rfl) (by kernel_rfl) (by kernel_rfl) (by kernel_rfl) (fun _ _ _ h => h) (Or.inl ⟨by rfl, ?_⟩) (by assumption) ?_
                rotate_left
                · intro w hSw
                  try dsimp only at hSw
                  first | (go_simp; done) | (go_simp; with_reducible rfl)
                try simp only [Act.put, List.setIfInBounds_toArray, List.set_cons_zero, List.set_cons_succ]
                refine wpAnyH_ready (rs := [21]) (by kernel_rfl) (by simp) ?_
                refine AllReadyH.cons (take_list rfl) (fun K hK => ?_) ?_
                · skip
                  go_simp
                  refine (known18_any _ (Ht.out.ext (ext_trans Hb8.out (by repeat (first | exact Below.refl _ _ | exact HE4.out | exact HE3.out | exact HE2.out | apply ext_drew | apply ext_drewN | apply ext_alloc))))).mono ?_
                  rintro e x3 ⟨rfl, hbx⟩
                  dsimp only
                  have HE4 : Hid (Below w8.heap.size w8 x3) := Lib.hid (ext_trans (by repeat (first | exact Below.refl _ _ | exact HE4.out | exact HE3.out | exact HE2.out | apply ext_drew | apply ext_drewN | apply ext_alloc)) hbx)
                  clear hbx
                  refine hK.out _ _ ?_ (fun hHeld => ?_)
                  · try dsimp only
                    exact HK.out _ (by repeat (first | exact Below.refl _ _ | exact HE4.out | exact HE3.out | exact HE2.out | apply ext_drew | apply ext_drewN | apply ext_alloc))
                  clear hK K
                  refine wpAnyH_take (i := 22) (v := ?_) (take_list rfl) (by kernel_rfl) (by kernel_rfl) (by kernel_rfl) (fun _ _ _ h => h) (Or.inl ⟨by rfl, ?_⟩) (by assumption) ?_
                  rotate_left
                  · intro w hSw
                    try dsimp only at hSw
                    first | (go_simp; done) | (go_simp; with_reducible rfl)
                  try simp only [Act.put, List.setIfInBounds_toArray, List.set_cons_zero, List.set_cons_succ]
                  refine wpAnyH_take (i := 23) (v := ?_) (take_list rfl) (by kernel_rfl) (by kernel_rfl) (by kernel_rfl) (fun _ _ _ h => h) (Or.inl ⟨by rfl, ?_⟩) (by assumption) ?_
                  rotate_left
                  · intro w hSw
                    try dsimp only at hSw
                    first | (go_simp; done) | (go_simp; with_reducible rfl)
                  try simp only [Act.put, List.setIfInBounds_toArray, List.set_cons_zero, List.set_cons_succ]
                  refine wpAnyH_done (by kernel_rfl) ?_ _
                  go_wp2
                  go_ret
                  exact ⟨rfl, ext_trans Hb8.out HE4.out⟩
                exact AllReadyH.nil
              exact AllReadyH.nil
            exact AllReadyH.nil
          · subst h1
            clear HC2
            go_wp2_with fail
            rw [← Hw8.out]
            refine wp_region_held_drew (S := fun W => W.cell? ⟨w6.heap.size, 0, none⟩ = some (.int .i64 jf) ∧ W.cell? ⟨w6.heap.size, 1, none⟩ = some (.slice B6 N c6) ∧ W.cell? ⟨w7.heap.size, 0, none⟩ = some (.int .i64 jf) ∧ W.cell? ⟨w7.heap.size, 1, none⟩ = some (.slice B7 N c7)) (by kernel_rfl) ?_ (fun hHeld => ?_)
            · exact HK.out _ (by repeat (first | exact Below.refl _ _ | exact HE4.out | exact HE3.out | exact HE2.out | apply ext_drew | apply ext_drewN | apply ext_alloc))
            refine wpAnyH_take (i := 0) (v := ?_) (take_list rfl) (by kernel_rfl) (by kernel_rfl) (by kernel_rfl) (fun _ _ _ h => h) (Or.inl ⟨by rfl, ?_⟩) (by assumption) ?_
            rotate_left
            · intro w hSw
              try dsimp only at hSw
              first | (go_simp; done) | (go_simp; with_reducible rfl)
            try simp only [Act.put, List.setIfInBounds_toArray, List.set_cons_zero, List.set_cons_succ]
            refine wpAnyH_take (i := 2) (v := ?_) (take_list rfl) (by kernel_rfl) (by kernel_rfl) (by kernel_rfl) (fun _ _ _ h => h) (Or.inl ⟨by rfl, ?_⟩) (by assumption) ?_
            rotate_left
            · intro w hSw
              try dsimp only at hSw
              first | (go_simp; done) | (go_simp; with_reducible rfl)
            try simp only [Act.put, List.setIfInBounds_toArray, List.set_cons_zero, List.set_cons_succ]
            refine wpAnyH_ready (rs := [1]) (by kernel_rfl) (by simp) ?_
            refine AllReadyH.cons (take_list rfl) (fun K hK => ?_) ?_
            · skip
              go_simp
              refine (HOk.out _).mono ?_
              rintro e x1 ⟨rfl, hbx⟩
              dsimp only
              have HE2 : Hid (Below w8.heap.size w8 x1) := Lib.hid (ext_trans (by repeat (first | exact Below.refl _ _ | exact HE4.out | exact HE3.out | exact HE2.out | apply ext_drew | apply ext_drewN | apply ext_alloc)) hbx)
              clear hbx
              refine hK.out _ _ ?_ (fun hHeld => ?_)
              · try dsimp only
                exact HK.out _ (by repeat (first | exact Below.refl _ _ | exact HE4.out | exact HE3.out | exact HE2.out | apply ext_drew | apply ext_drewN | apply ext_alloc))
              clear hK K
              refine wpAnyH_ready (rs := [3]) (by kernel_rfl) (by simp) ?_
              refine AllReadyH.cons (take_list rfl) (fun K hK => ?_) ?_
              · skip
                go_simp
                refine (HSm.out _ (by repeat (first | exact Below.refl _ _ | exact HE4.out | exact HE3.out | exact HE2.out | apply ext_drew | apply ext_drewN | apply ext_alloc))).mono ?_
                rintro e x2 ⟨rfl, hbx⟩
                dsimp only
                have HE3 : Hid (Below w8.heap.size w8 x2) := Lib.hid (ext_trans (by repeat (first | exact Below.refl _ _ | exact HE4.out | exact HE3.out | exact HE2.out | apply ext_drew | apply ext_drewN | apply ext_alloc)) hbx)
                clear hbx
                refine hK.out _ _ ?_ (fun hHeld => ?_)
                · try dsimp only
                  exact HK.out _ (by repeat (first | exact Below.refl _ _ | exact HE4.out | exact HE3.out | exact HE2.out | apply ext_drew | apply ext_drewN | apply ext_alloc))
                clear hK K
                refine wpAnyH_take (i := 4) (v := ?_) (take_list rfl) (by kernel_rfl) (by kernel_rfl) (by kernel_rfl) (fun _ _ _ h => h) (Or.inl ⟨by rfl, ?_⟩) (by assumption) ?_
                rotate_left
                · intro w hSw
                  try dsimp only at hSw
                  first | (go_simp; done) | (go_simp; with_reducible rfl)
                try simp only [Act.put, List.setIfInBounds_toArray, List.set_cons_zero, List.set_cons_succ]
                refine wpAnyH_take (i := 5) (v := ?_) (take_list rfl) (by kernel_rfl) (by kernel_rfl) (by kernel_rfl) (fun _ _ _ h => h) (Or.inl ⟨by rfl, ?_⟩) (by assumption) ?_
                rotate_left
                · intro w hSw
                  try dsimp only at hSw
                  first | (go_simp; done) | (go_simp; with_reducible rfl)
                try simp only [Act.put, List.setIfInBounds_toArray, List.set_cons_zero, List.set_cons_succ]
                refine wpAnyH_take (i := 6) (v := ?_) (take_list rfl) (by kernel_rfl) (by kernel_rfl) (by kernel_rfl) (fun _ _ _ h => h) (Or.inl ⟨by rfl, ?_⟩) (by assumption) ?_
                rotate_left
                · intro w hSw
                  try dsimp only at hSw
                  first | (go_simp; done) | (go_simp; with_reducible rfl)
                try simp only [Act.put, List.setIfInBounds_toArray, List.set_cons_zero, List.set_cons_succ]
                refine wpAnyH_take (i := 7) (v := ?_) (take_list rfl) (by kernel_rfl) (by kernel_rfl) (by kernel_rfl) (fun _ _ _ h => h) (Or.inl ⟨by rfl, ?_⟩) (by assumption) ?_
                rotate_left
                · intro w hSw
                  try dsimp only at hSw
                  first | (go_simp; done) | (go_simp; with_reducible rfl)
                try simp only [Act.put, List.setIfInBounds_toArray, List.set_cons_zero, List.set_cons_succ]
                refine wpAnyH_take (i := 8) (v := ?_) (take_list rfl) (by kernel_rfl) (by kernel_rfl) (by kernel_rfl) (fun _ _ _ h => h) (Or.inl ⟨by rfl, ?_⟩) (by assumption) ?_
                rotate_left
                · intro w hSw
                  try dsimp only at hSw
                  first | (go_simp; done) | (go_simp; with_reducible rfl)
                try simp only [Act.put, List.setIfInBounds_toArray, List.set_cons_zero, List.set_cons_succ]
                refine wpAnyH_take (i := 9) (v := ?_) (take_list rfl) (by kernel_rfl) (by kernel_rfl) (by kernel_rfl) (fun _ _ _ h => h) (Or.inl ⟨by rfl, ?_⟩) (by assumption) ?_
                rotate_left
                · intro w hSw
                  try dsimp only at hSw
                  first | (go_simp; done) | (go_simp; with_reducible rfl)
                try simp only [Act.put, List.setIfInBounds_toArray, List.set_cons_zero, List.set_cons_succ]
                refine wpAnyH_take (i := 10) (v := ?_) (take_list rfl) (by kernel_rfl) (by kernel_rfl) (by kernel_rfl) (fun _ _ _ h => h) (Or.inl ⟨by rfl, ?_⟩) (by assumption) ?_
                rotate_left
                · intro w hSw
                  try dsimp only at hSw
                  first | (go_simp; done) | (go_simp; with_reducible rfl)
                try simp only [Act.put, List.setIfInBounds_toArray, List.set_cons_zero, List.set_cons_succ]
                refine wpAnyH_take (i := 11) (v := ?_) (take_list rfl) (by kernel_rfl) (by kernel_rfl) (by kernel_rfl) (fun _ _ _ h => h) (Or.inl ⟨by rfl, ?_⟩) (by assumption) ?_
                rotate_left
                · intro w hSw
                  try dsimp only at hSw
                  first | (go_simp; done) | (go_simp; with_reducible rfl)
                try simp only [Act.put, List.setIfInBounds_toArray, List.set_cons_zero, List.set_cons_succ]
                refine wpAnyH_take (i := 12) (v := ?_) (take_list rfl) (by kernel_rfl) (by kernel_rfl) (by kernel_rfl) (fun _ _ _ h => h) (Or.inl ⟨by rfl, ?_⟩) (by assumption) ?_
                rotate_left
                · intro w hSw
                  try dsimp only at hSw
                  first | (go_simp; done) | (go_simp; with_reducible rfl)
                try simp only [Act.put, List.setIfInBounds_toArray, List.set_cons_zero, List.set_cons_succ]
                refine wpAnyH_take (i := 13) (v := undef) (take_list rfl) (by kernel_rfl) (by kernel_rfl) (by kernel_rfl) (fun _ _ _ h => h) (Or.inr ⟨by rfl, rfl⟩) (by assumption) ?_
                try simp only [Act.put, List.setIfInBounds_toArray, List.set_cons_zero, List.set_cons_succ]
                refine wpAnyH_take (i := 14) (v := undef) (take_list rfl) (by kernel_rfl) (by kernel_rfl) (by kernel_rfl) (fun _ _ _ h => h) (Or.inr ⟨by rfl, rfl⟩) (by assumption) ?_
                try simp only [Act.put, List.setIfInBounds_toArray, List.set_cons_zero, List.set_cons_succ]
                refine wpAnyH_take (i := 15) (v := undef) (take_list rfl) (by kernel_rfl) (by kernel_rfl) (by kernel_rfl) (fun _ _ _ h => h) (Or.inr ⟨by rfl, rfl⟩) (by assumption) ?_
                try simp only [Act.put, List.setIfInBounds_toArray, List.set_cons_zero, List.set_cons_succ]
                refine wpAnyH_take (i := 16) (v := undef) (take_list rfl) (by kernel_rfl) (by kernel_rfl) (by kernel_rfl) (fun _ _ _ h => h) (Or.inr ⟨by rfl, rfl⟩) (by assumption) ?_
                try simp only [Act.put, List.setIfInBounds_toArray, List.set_cons_zero, List.set_cons_succ]
                refine wpAnyH_take (i := 17) (v := undef) (take_list rfl) (by kernel_rfl) (by kernel_rfl) (by kernel_rfl) (fun _ _ _ h => h) (Or.inr ⟨by rfl, rfl⟩) (by assumption) ?_
                try simp only [Act.put, List.setIfInBounds_toArray, List.set_cons_zero, List.set_cons_succ]
                refine wpAnyH_take (i := 18) (v := ?_) (take_list rfl) (by kernel_rfl) (by kernel_rfl) (by kernel_rfl) (fun _ _ _ h => h) (Or.inl ⟨by rfl, ?_⟩) (by assumption) ?_
                rotate_left
                · intro w hSw
                  try dsimp only at hSw
                  first | (go_simp; done) | (go_simp; with_reducible rfl)
                try simp only [Act.put, List.setIfInBounds_toArray, List.set_cons_zero, List.set_cons_succ]
                refine wpAnyH_take (i := 19) (v := ?_) (take_list rfl) (by kernel_rfl) (by kernel_rfl) (by kernel_rfl) (fun _ _ _ h => h) (Or.inl ⟨by rfl, ?_⟩) (by assumption) ?_
                rotate_left
                · intro w hSw
                  try dsimp only at hSw
                  first | (go_simp; done) | (go_simp; with_reducible rfl)
                try simp only [Act.put, List.setIfInBounds_toArray, List.set_cons_zero, List.set_cons_succ]
                refine wpAnyH_take (i := 20) (v := ?_) (take_list rfl) (by kernel_rfl) (by kernel_rfl) (by kernel_rfl) (fun _ _ _ h => h) (Or.inl ⟨by rfl, ?_⟩) (by assumption) ?_
                rotate_left
                · intro w hSw
                  try dsimp only at hSw
                  first | (go_simp; done) | (go_simp; with_reducible rfl)
                try simp only [Act.put, List.setIfInBounds_toArray, List.set_cons_zero, List.set_cons_succ]
                refine wpAnyH_ready (rs := [21]) (by kernel_rfl) (by simp) ?_
                refine AllReadyH.cons (take_list rfl) (fun K hK => ?_) ?_
                · skip
                  go_simp
                  refine (known18_any _ (Ht.out.ext (ext_trans Hb8.out (by repeat (first | exact Below.refl _ _ | exact HE4.out | exact HE3.out | exact HE2.out | apply ext_drew | apply ext_drewN | apply ext_alloc))))).mono ?_
                  rintro e x3 ⟨rfl, hbx⟩
                  dsimp only
                  have HE4 : Hid (Below w8.heap.size w8 x3) := Lib.hid (ext_trans (by repeat (first | exact Below.refl _ _ | exact HE4.out | exact HE3.out | exact HE2.out | apply ext_drew | apply ext_drewN | apply ext_alloc)) hbx)
                  clear hbx
                  refine hK.out _ _ ?_ (fun hHeld => ?_)
                  · try dsimp only
                    exact HK.out _ (by repeat (first | exact Below.refl _ _ | exact HE4.out | exact HE3.out | exact HE2.out | apply ext_drew | apply ext_drewN | apply ext_alloc))
                  clear hK K
                  refine wpAnyH_take (i := 22) (v := ?_) (take_list rfl) (by kernel_rfl) (by kernel_rfl) (by kernel_rfl) (fun _ _ _ h => h) (Or.inl ⟨by rfl, ?_⟩) (by assumption) ?_
                  rotate_left
                  · intro w hSw
                    try dsimp only at hSw
                    first | (go_simp; done) | (go_simp; with_reducible rfl)
                  try simp only [Act.put, List.setIfInBounds_toArray, List.set_cons_zero, List.set_cons_succ]
                  refine wpAnyH_take (i := 23) (v := ?_) (take_list rfl) (by kernel_rfl) (by kernel_rfl) (by kernel_rfl) (fun _ _ _ h => h) (Or.inl ⟨by rfl, ?_⟩) (by assumption) ?_
                  rotate_left
                  · intro w hSw
                    try dsimp only at hSw
                    first | (go_simp; done) | (go_simp; with_reducible rfl)
                  try simp only [Act.put, List.setIfInBounds_toArray, List.set_cons_zero, List.set_cons_succ]
                  refine wpAnyH_done (by kernel_rfl) ?_ _
                  go_wp2
                  go_ret
                  exact ⟨rfl, ext_trans Hb8.out HE4.out⟩
                exact AllReadyH.nil
              exact AllReadyH.nil
            exact AllReadyH.nil
end Go.Proofs.YtpjgkacekelkdaaDoor
