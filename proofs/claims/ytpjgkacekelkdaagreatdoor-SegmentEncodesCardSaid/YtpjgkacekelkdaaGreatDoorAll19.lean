/-
  Texts of this claim, joined (part 19): contracts and lemmas that the last text goes by. No statement of the seat is proved here.
-/
import Derived.Test.YtpjgkacekelkdaaGreatDoorAll17
import Derived.Test.YtpjgkacekelkdaaGreatDoorAll18
import Derived.Test.YtpjgkacekelkdaaGreatDoorAll3
import Derived.Test.YtpjgkacekelkdaaGreatDoorAll14
import Derived.Deep.RegionHeld3
set_option linter.unusedVariables false
set_option linter.unusedSimpArgs false
/-
  SegmentEncodes' walk. No statement of the seat is proved in the part ahead of its closing.
-/
namespace Go.Proofs.YtpjgkacekelkdaaGreatDoor
open Go Go.RowKit
set_option maxRecDepth 100000

theorem row_both {W : World} {g : Nat} {T : TypeId} {s t : Sg} {B C : Option Addr} {c d : Nat} (hb : Blk W g T #[.int .i64 s.first, .slice B s.lines.length c, .int .i64 t.first, .slice C t.lines.length d]) (h : SgIn W s B c) (h2 : SgIn W t C d) : RowR IsSg 2 W (some ⟨g, 0, none⟩) [s, t] := fun k hk => by
  match k, hk with
  | 0, _ => exact ⟨g, 0, _, rfl, rfl, two_cells (hb.cell 0) (hb.cell 1), B, c, rfl, h⟩
  | 1, _ => exact ⟨g, 0, _, rfl, rfl, two_cells (hb.cell 2) (hb.cell 3), C, d, rfl, h2⟩

set_option maxHeartbeats 16000000 in
theorem encodes_any (s t : Sg) (B C : Option Addr) (c d : Nat) (w : World) (ht : Tab w) (h : SgIn w s B c) (h2 : SgIn w t C d) (hz : ∀ n ∈ lensS s, n ≤ 140737488355328) :
    Calls Tryz.prog 3 #[sgV s B c, sgV t C d] w fun e w' => e = .returned (.bool true) ∧ Below w.heap.size w w' := by
  obtain ⟨w1, hw1⟩ : ∃ w1, w1 = (w.alloc (.cells #[.int .i64 s.first, .slice B s.lines.length c] 24)).alloc (.cells #[.int .i64 t.first, .slice C t.lines.length d] 24) := ⟨_, rfl⟩
  have hb1 : Below w.heap.size w w1 := by rw [hw1]; exact ext2 _ _ _
  have hX1 : Blk w1 w.heap.size 24 #[.int .i64 s.first, .slice B s.lines.length c] := by rw [hw1]; exact (Blk.new _ _ _).alloc _
  have hY1 : Blk w1 (w.heap.size + 1) 24 #[.int .i64 t.first, .slice C t.lines.length d] := by rw [hw1, ← World.size_alloc w (.cells #[.int .i64 s.first, .slice B s.lines.length c] 24)]; exact Blk.new _ _ _
  have hz1 : w1.heap.size = w.heap.size + 2 := by rw [hw1, World.size_alloc, World.size_alloc]
  obtain ⟨w2, hw2⟩ : ∃ w2, w2 = w1.alloc (.cells #[.int .i64 s.first, .slice B s.lines.length c, .int .i64 t.first, .slice C t.lines.length d] 24) := ⟨_, rfl⟩
  have hb12 : Below w1.heap.size w1 w2 := by rw [hw2]; exact ext_alloc (Below.refl _ _) _
  have hb2 := ext_trans hb1 hb12
  have hN2 : Blk w2 (w.heap.size + 2) 24 #[.int .i64 s.first, .slice B s.lines.length c, .int .i64 t.first, .slice C t.lines.length d] := by rw [hw2, ← hz1]; exact Blk.new _ _ _
  have HL := Lib.hid (longG_any (some ⟨w.heap.size + 2, 0, none⟩) 2 [s, t] w2 (row_both hN2 (h.ext hb2) (h2.ext hb2)) (by simp [maxLen]))
  have hs : ∀ x ∈ s.lines, ∀ v ∈ x.vars, v.length ≤ maxLen := fun x hx v hv => by have := lens_sg hz x hx v hv; unfold maxLen; omega
  obtain ⟨D, hD⟩ : ∃ D : Bool, D = true ↔ s = t := by
    classical
    exact ⟨decide (s = t), by simp⟩
  have HE := Lib.hid (fun (W : World) (hb : Below w.heap.size w W) => encodeG_any s B c W (ht.ext hb) (h.ext hb) hs)
  have HRe := Lib.hid (fun (W : World) (hb : Below w.heap.size w W) => rencodeG_any s B c W (h.ext hb) hs)
  have HI := Lib.hid (fun (W : World) (hb : Below w.heap.size w W) => isG_any s B c W (h.ext hb) hs)
  have HRi := Lib.hid (fun (W : World) (hb : Below w.heap.size w W) => ris18_any s B c W (h.ext hb) hs)
  have HO := Lib.hid (fun (W : World) => own_any s B c W)
  have HO2 := Lib.hid (fun (W : World) => own_any t C d W)
  have HSa : Hid (∀ W, Below w.heap.size w W → Calls Tryz.prog 11 #[sgV s B c, sgV t C d] W fun e w' => e = .returned (.bool D) ∧ Below W.heap.size W w') := Lib.hid (fun W hb =>
    (same_any s t B C c d W (h.ext hb) (h2.ext hb)).mono fun e w' ⟨r, he, hr, hb⟩ => ⟨by rw [he, Bool.eq_iff_iff.2 (hr.trans hD.symm)], hb⟩)
  have HRs : Hid (∀ W, Below w.heap.size w W → Calls Tryz.prog 12 #[sgV s B c, sgV t C d] W fun e w' => e = .returned (.bool D) ∧ Below W.heap.size W w') := Lib.hid (fun W hb =>
    (rsame_any s t B C c d W (h.ext hb) (h2.ext hb)).mono fun e w' ⟨r, he, hr, hb⟩ => ⟨by rw [he, Bool.eq_iff_iff.2 (hr.trans hD.symm)], hb⟩)
  have HSs : Hid (∀ W, Below w.heap.size w W → Calls Tryz.prog 11 #[sgV s B c, sgV s B c] W fun e w' => e = .returned (.bool true) ∧ Below W.heap.size W w') := Lib.hid (fun W hb =>
    (same_any s s B B c c W (h.ext hb) (h.ext hb)).mono fun e w' ⟨r, he, hr, hb⟩ => ⟨by rw [he, hr.2 rfl], hb⟩)
  have Ht := Lib.hid ht
  have Hb2 := Lib.hid hb2
  have HX := Lib.hid (hX1.ext hb12)
  have HY := Lib.hid (hY1.ext hb12)
  have Hw1 := Lib.hid hw1
  have Hw2 := Lib.hid hw2
  have x0 := hX1.cell 0
  have x1 := hX1.cell 1
  have y0 := hY1.cell 0
  have y1 := hY1.cell 1
  have k0 := HX.out.cell 0
  have k1 := HX.out.cell 1
  simp only [List.getElem?_toArray, List.getElem?_cons_zero, List.getElem?_cons_succ] at x0 x1 y0 y1 k0 k1
  rw [hw1] at x0 x1 y0 y1
  unfold sgV at HE HRe HI HRi HO HO2 HSa HRs HSs ⊢
  rw [show ([s, t] : List Sg).length = 2 from rfl] at HL
  generalize ansG s = R at *
  obtain ⟨q, er⟩ := R
  generalize isG s = ig at *
  dsimp only at HE HRe
  generalize s.lines.length = n at *
  generalize t.lines.length = m at *
  generalize s.first = f at *
  generalize t.first = f2 at *
  clear h h2 hz hs hb1 hb2 hb12 hX1 hY1 hN2 hw1 hw2 hz1 ht hD
  go_enter Tryz.func3, Tryz.ntmps3
  go_wp2_with fail
  rw [← Hw1.out, ← Hw2.out]
  refine HL.out.mono ?_
  rintro e w' ⟨r, rfl, rfl⟩
  clear x0 x1 y0 y1 HL
  cases r with
  | true =>
    go_wp2
    go_ret
    exact ⟨rfl, Hb2.out⟩
  | false =>
    have HE2 := Lib.hid (HE.out w2 Hb2.out)
    clear HE
    go_wp2_with fail
    refine HE2.out.mono ?_
    rintro e w3 ⟨A3, c3, rfl, hn3, hb3⟩
    have Hn3 := Lib.hid hn3.rd
    have Hb3 := Lib.hid hb3
    have k2 := (HX.out.ext hb3).cell 0
    have k3 := (HX.out.ext hb3).cell 1
    simp only [List.getElem?_toArray, List.getElem?_cons_zero, List.getElem?_cons_succ] at k2 k3
    clear hn3 hb3 k0 k1 HE2
    go_wp2_with fail
    refine (HO.out w3).mono ?_
    rintro e w4 ⟨rfl, hb4⟩
    have HX4 := Lib.hid (HRe.out w4 (ext_trans (ext_trans Hb2.out Hb3.out) hb4))
    have Hb4 := Lib.hid (ext_trans Hb3.out hb4)
    have Hn34 := Lib.hid (Hn3.out.ext hb4)
    clear hb4 k2 k3 Hn3 Hb3 HRe
    go_wp2_with fail
    refine HX4.out.mono ?_
    rintro e w5 ⟨A5, c5, rfl, hn5, hb5⟩
    have Hb5 := Lib.hid (ext_trans Hb4.out hb5)
    have Hn5 := Lib.hid hn5.rd
    have Hn35 := Lib.hid (Hn34.out.ext hb5)
    have Hbw := Lib.hid (ext_trans Hb2.out Hb5.out)
    obtain ⟨Z, hZ⟩ : ∃ Z : ByteArray, (⟨q.toArray⟩ : ByteArray) = Z := ⟨_, rfl⟩
    have HK : Hid (∀ W, Below w5.heap.size w5 W → W.cell? ⟨w.heap.size, 0, none⟩ = some (.int .i64 f) ∧ W.cell? ⟨w.heap.size, 1, none⟩ = some (.slice B n c) ∧ W.cell? ⟨w.heap.size + 1, 0, none⟩ = some (.int .i64 f2) ∧ W.cell? ⟨w.heap.size + 1, 1, none⟩ = some (.slice C m d) ∧ (convert 26 9 (.slice A3 q.length c3)).run Tryz.prog W = .ok (.string Z) W ∧ (convert 26 9 (.slice A5 q.length c5)).run Tryz.prog W = .ok (.string Z) W) := Lib.hid (fun W hW =>
      ⟨((HX.out.ext Hb5.out).ext hW).cell 0, ((HX.out.ext Hb5.out).ext hW).cell 1, ((HY.out.ext Hb5.out).ext hW).cell 0, ((HY.out.ext Hb5.out).ext hW).cell 1, by rw [← hZ]; exact conv_bytes W A3 q.length c3 q rfl (Hn35.out.ext hW), by rw [← hZ]; exact conv_bytes W A5 q.length c5 q rfl (Hn5.out.ext hW)⟩)
    have HI5 := Lib.hid (fun W (hb : Below w5.heap.size w5 W) => HI.out W (ext_trans Hbw.out hb))
    have HRi5 := Lib.hid (fun W (hb : Below w5.heap.size w5 W) => HRi.out W (ext_trans Hbw.out hb))
    have HSa5 := Lib.hid (fun W (hb : Below w5.heap.size w5 W) => HSa.out W (ext_trans Hbw.out hb))
    have HRs5 := Lib.hid (fun W (hb : Below w5.heap.size w5 W) => HRs.out W (ext_trans Hbw.out hb))
    have HSs5 := Lib.hid (fun W (hb : Below w5.heap.size w5 W) => HSs.out W (ext_trans Hbw.out hb))
    clear hn5 hb5 hZ HX4 HI HRi HSa HRs HSs Hn34 Hb4
    go_wp2_with fail
    refine wp_region_held_drew (S := fun W => W.cell? ⟨w.heap.size, 0, none⟩ = some (.int .i64 f) ∧ W.cell? ⟨w.heap.size, 1, none⟩ = some (.slice B n c) ∧ W.cell? ⟨w.heap.size + 1, 0, none⟩ = some (.int .i64 f2) ∧ W.cell? ⟨w.heap.size + 1, 1, none⟩ = some (.slice C m d) ∧ (convert 26 9 (.slice A3 q.length c3)).run Tryz.prog W = .ok (.string Z) W ∧ (convert 26 9 (.slice A5 q.length c5)).run Tryz.prog W = .ok (.string Z) W) (by kernel_rfl) ?_ (fun hHeld => ?_)
    · exact HK.out _ (by repeat (first | exact Below.refl _ _ | apply ext_drew | apply ext_drewN | apply ext_alloc))
    refine wpAnyH_take (i := 0) (v := ?_) (take_list rfl) (by kernel_rfl) (by kernel_rfl) (by kernel_rfl) (fun _ _ _ h => h) (Or.inl ⟨by rfl, ?_⟩) (by assumption) ?_
    rotate_left
    · intro w hSw
      try dsimp only at hSw
      first | (go_simp; done) | (go_simp; with_reducible rfl)
    try simp only [Act.put, List.setIfInBounds_toArray, List.set_cons_zero, List.set_cons_succ]
    refine wpAnyH_take (i := 1) (v := ?_) (take_list rfl) (by kernel_rfl) (by kernel_rfl) (by kernel_rfl) (fun _ _ _ h => h) (Or.inl ⟨by rfl, ?_⟩) (by assumption) ?_
    rotate_left
    · intro w hSw
      try dsimp only at hSw
      first | (go_simp; done) | (go_simp; with_reducible rfl)
    try simp only [Act.put, List.setIfInBounds_toArray, List.set_cons_zero, List.set_cons_succ]
    refine wpAnyH_take (i := 2) (v := ?_) (take_list rfl) (by kernel_rfl) (by kernel_rfl) (by kernel_rfl) (fun _ _ _ h => h) (Or.inl ⟨by rfl, ?_⟩) (by assumption) ?_
    rotate_left
    · intro w hSw
      try dsimp only at hSw
      first | (go_simp; done) | (go_simp; with_reducible rfl)
    try simp only [Act.put, List.setIfInBounds_toArray, List.set_cons_zero, List.set_cons_succ]
    refine wpAnyH_take (i := 3) (v := ?_) (take_list rfl) (by kernel_rfl) (by kernel_rfl) (by kernel_rfl) (fun _ _ _ h => h) (Or.inl ⟨by rfl, ?_⟩) (by assumption) ?_
    rotate_left
    · intro w hSw
      try dsimp only at hSw
      first | (go_simp; done) | (go_simp; with_reducible rfl)
    try simp only [Act.put, List.setIfInBounds_toArray, List.set_cons_zero, List.set_cons_succ]
    refine wpAnyH_take (i := 4) (v := ?_) (take_list rfl) (by kernel_rfl) (by kernel_rfl) (by kernel_rfl) (fun _ _ _ h => h) (Or.inl ⟨by rfl, ?_⟩) (by assumption) ?_
    rotate_left
    · intro w hSw
      try dsimp only at hSw
      first | (go_simp; done) | (go_simp; with_reducible rfl)
    try simp only [Act.put, List.setIfInBounds_toArray, List.set_cons_zero, List.set_cons_succ]
    refine wpAnyH_take (i := 5) (v := ?_) (take_list rfl) (by kernel_rfl) (by kernel_rfl) (by kernel_rfl) (fun _ _ _ h => h) (Or.inl ⟨by rfl, ?_⟩) (by assumption) ?_
    rotate_left
    · intro w hSw
      try dsimp only at hSw
      first | (go_simp; done) | (go_simp; with_reducible rfl)
    try simp only [Act.put, List.setIfInBounds_toArray, List.set_cons_zero, List.set_cons_succ]
    refine wpAnyH_take (i := 6) (v := ?_) (take_list rfl) (by kernel_rfl) (by kernel_rfl) (by kernel_rfl) (fun _ _ _ h => h) (Or.inl ⟨by rfl, ?_⟩) (by assumption) ?_
    rotate_left
    · intro w hSw
      try dsimp only at hSw
      first | (go_simp; done) | (go_simp; with_reducible rfl)
    try simp only [Act.put, List.setIfInBounds_toArray, List.set_cons_zero, List.set_cons_succ]
    refine wpAnyH_take (i := 7) (v := ?_) (take_list rfl) (by kernel_rfl) (by kernel_rfl) (by kernel_rfl) (fun _ _ _ h => h) (Or.inl ⟨by rfl, ?_⟩) (by assumption) ?_
    rotate_left
    · intro w hSw
      try dsimp only at hSw
      first | (go_simp; done) | (go_simp; with_reducible rfl)
    try simp only [Act.put, List.setIfInBounds_toArray, List.set_cons_zero, List.set_cons_succ]
    refine wpAnyH_take (i := 8) (v := ?_) (take_list rfl) (by kernel_rfl) (by kernel_rfl) (by kernel_rfl) (fun _ _ _ h => h) (Or.inl ⟨by rfl, ?_⟩) (by assumption) ?_
    rotate_left
    · intro w hSw
      try dsimp only at hSw
      first | (go_simp; done) | (go_simp; with_reducible rfl)
    try simp only [Act.put, List.setIfInBounds_toArray, List.set_cons_zero, List.set_cons_succ]
    refine wpAnyH_take (i := 9) (v := ?_) (take_list rfl) (by kernel_rfl) (by kernel_rfl) (by kernel_rfl) (fun _ _ _ h => h) (Or.inl ⟨by rfl, ?_⟩) (by assumption) ?_
    rotate_left
    · intro w hSw
      try dsimp only at hSw
      first | (go_simp; done) | (go_simp; with_reducible rfl)
    try simp only [Act.put, List.setIfInBounds_toArray, List.set_cons_zero, List.set_cons_succ]
    refine wpAnyH_take (i := 10) (v := ?_) (take_list rfl) (by kernel_rfl) (by kernel_rfl) (by kernel_rfl) (fun _ _ _ h => h) (Or.inl ⟨by rfl, ?_⟩) (by assumption) ?_
    rotate_left
    · intro w hSw
      try dsimp only at hSw
      first | (go_simp; done) | (go_simp; with_reducible rfl)
    try simp only [Act.put, List.setIfInBounds_toArray, List.set_cons_zero, List.set_cons_succ]
    refine wpAnyH_take (i := 11) (v := ?_) (take_list rfl) (by kernel_rfl) (by kernel_rfl) (by kernel_rfl) (fun _ _ _ h => h) (Or.inl ⟨by rfl, ?_⟩) (by assumption) ?_
    rotate_left
    · intro w hSw
      try dsimp only at hSw
      first | (go_simp; done) | (go_simp; with_reducible rfl)
    try simp only [Act.put, List.setIfInBounds_toArray, List.set_cons_zero, List.set_cons_succ]
    refine wpAnyH_take (i := 13) (v := ?_) (take_list rfl) (by kernel_rfl) (by kernel_rfl) (by kernel_rfl) (fun _ _ _ h => h) (Or.inl ⟨by rfl, ?_⟩) (by assumption) ?_
    rotate_left
    · intro w hSw
      try dsimp only at hSw
      first | (go_simp; done) | (go_simp; with_reducible rfl)
    try simp only [Act.put, List.setIfInBounds_toArray, List.set_cons_zero, List.set_cons_succ]
    refine wpAnyH_ready (rs := [12]) (by kernel_rfl) (by simp) ?_
    refine AllReadyH.cons (take_list rfl) (fun K hK => ?_) ?_
    · skip
      go_simp
      refine (HI5.out _ (by repeat (first | exact Below.refl _ _ | apply ext_drew | apply ext_drewN | apply ext_alloc))).mono ?_
      rintro e x1 ⟨rfl, hbx⟩
      dsimp only
      have HE1 : Hid (Below w5.heap.size w5 x1) := Lib.hid (ext_trans (by repeat (first | exact Below.refl _ _ | apply ext_drew | apply ext_drewN | apply ext_alloc)) hbx)
      clear hbx
      refine hK.out _ _ ?_ (fun hHeld => ?_)
      · try dsimp only
        exact HK.out _ (by repeat (first | exact Below.refl _ _ | exact HE1.out | apply ext_drew | apply ext_drewN | apply ext_alloc))
      clear hK K
      refine wpAnyH_ready (rs := [14]) (by kernel_rfl) (by simp) ?_
      refine AllReadyH.cons (take_list rfl) (fun K hK => ?_) ?_
      · skip
        go_simp
        refine (HO.out _).mono ?_
        rintro e x2 ⟨rfl, hbx⟩
        dsimp only
        have HE2 : Hid (Below w5.heap.size w5 x2) := Lib.hid (ext_trans (by repeat (first | exact Below.refl _ _ | exact HE1.out | apply ext_drew | apply ext_drewN | apply ext_alloc)) hbx)
        clear hbx
        refine hK.out _ _ ?_ (fun hHeld => ?_)
        · try dsimp only
          exact HK.out _ (by repeat (first | exact Below.refl _ _ | exact HE2.out | apply ext_drew | apply ext_drewN | apply ext_alloc))
        clear hK K
        refine wpAnyH_ready (rs := [15]) (by kernel_rfl) (by simp) ?_
        refine AllReadyH.cons (take_list rfl) (fun K hK => ?_) ?_
        · skip
          go_simp
          refine (HRi5.out _ (by repeat (first | exact Below.refl _ _ | exact HE2.out | apply ext_drew | apply ext_drewN | apply ext_alloc))).mono ?_
          rintro e x3 ⟨rfl, hbx⟩
          dsimp only
          have HE3 : Hid (Below w5.heap.size w5 x3) := Lib.hid (ext_trans (by repeat (first | exact Below.refl _ _ | exact HE2.out | apply ext_drew | apply ext_drewN | apply ext_alloc)) hbx)
          clear hbx
          refine hK.out _ _ ?_ (fun hHeld => ?_)
          · try dsimp only
            exact HK.out _ (by repeat (first | exact Below.refl _ _ | exact HE3.out | apply ext_drew | apply ext_drewN | apply ext_alloc))
          clear hK K
          refine wpAnyH_take (i := 16) (v := ?_) (take_list rfl) (by kernel_rfl) (by kernel_rfl) (by kernel_rfl) (fun _ _ _ h => h) (Or.inl ⟨by rfl, ?_⟩) (by assumption) ?_
          rotate_left
          · intro w hSw
            try dsimp only at hSw
            first | (go_simp; done) | (go_simp; with_reducible rfl)
          try simp only [Act.put, List.setIfInBounds_toArray, List.set_cons_zero, List.set_cons_succ]
          refine wpAnyH_take (i := 17) (v := ?_) (take_list rfl) (by kernel_rfl) (by kernel_rfl) (by kernel_rfl) (fun _ _ _ h => h) (Or.inl ⟨by rfl, ?_⟩) (by assumption) ?_
          rotate_left
          · intro w hSw
            try dsimp only at hSw
            first | (go_simp; done) | (go_simp; with_reducible rfl)
          try simp only [Act.put, List.setIfInBounds_toArray, List.set_cons_zero, List.set_cons_succ]
          refine wpAnyH_take (i := 18) (v := ?_) (take_list rfl) (by kernel_rfl) (by kernel_rfl) (by kernel_rfl) (fun _ _ _ h => h) (Or.inl ⟨by rfl, ?_⟩) (by assumption) ?_
          rotate_left
          · intro w hSw
            try dsimp only at hSw
            first | (go_simp; done) | (go_simp; with_reducible rfl)
          try simp only [Act.put, List.setIfInBounds_toArray, List.set_cons_zero, List.set_cons_succ]
          refine wpAnyH_take (i := 19) (v := ?_) (take_list rfl) (by kernel_rfl) (by kernel_rfl) (by kernel_rfl) (fun _ _ _ h => h) (Or.inl ⟨by rfl, ?_⟩) (by assumption) ?_
          rotate_left
          · intro w hSw
            try dsimp only at hSw
            first | (go_simp; done) | (go_simp; with_reducible rfl)
          try simp only [Act.put, List.setIfInBounds_toArray, List.set_cons_zero, List.set_cons_succ]
          refine wpAnyH_take (i := 20) (v := ?_) (take_list rfl) (by kernel_rfl) (by kernel_rfl) (by kernel_rfl) (fun _ _ _ h => h) (Or.inl ⟨by rfl, ?_⟩) (by assumption) ?_
          rotate_left
          · intro w hSw
            try dsimp only at hSw
            first | (go_simp; done) | (go_simp; with_reducible rfl)
          try simp only [Act.put, List.setIfInBounds_toArray, List.set_cons_zero, List.set_cons_succ]
          refine wpAnyH_take (i := 22) (v := ?_) (take_list rfl) (by kernel_rfl) (by kernel_rfl) (by kernel_rfl) (fun _ _ _ h => h) (Or.inl ⟨by rfl, ?_⟩) (by assumption) ?_
          rotate_left
          · intro w hSw
            try dsimp only at hSw
            first | (go_simp; done) | (go_simp; with_reducible rfl)
          try simp only [Act.put, List.setIfInBounds_toArray, List.set_cons_zero, List.set_cons_succ]
          refine wpAnyH_take (i := 24) (v := ?_) (take_list rfl) (by kernel_rfl) (by kernel_rfl) (by kernel_rfl) (fun _ _ _ h => h) (Or.inl ⟨by rfl, ?_⟩) (by assumption) ?_
          rotate_left
          · intro w hSw
            try dsimp only at hSw
            first | (go_simp; done) | (go_simp; with_reducible rfl)
          try simp only [Act.put, List.setIfInBounds_toArray, List.set_cons_zero, List.set_cons_succ]
          refine wpAnyH_ready (rs := [21]) (by kernel_rfl) (by simp) ?_
          refine AllReadyH.cons (take_list rfl) (fun K hK => ?_) ?_
          · skip
            go_simp
            refine (HSa5.out _ (by repeat (first | exact Below.refl _ _ | exact HE3.out | apply ext_drew | apply ext_drewN | apply ext_alloc))).mono ?_
            rintro e x4 ⟨rfl, hbx⟩
            dsimp only
            have HE4 : Hid (Below w5.heap.size w5 x4) := Lib.hid (ext_trans (by repeat (first | exact Below.refl _ _ | exact HE3.out | apply ext_drew | apply ext_drewN | apply ext_alloc)) hbx)
            clear hbx
            refine hK.out _ _ ?_ (fun hHeld => ?_)
            · try dsimp only
              exact HK.out _ (by repeat (first | exact Below.refl _ _ | exact HE4.out | apply ext_drew | apply ext_drewN | apply ext_alloc))
            clear hK K
            refine wpAnyH_ready (rs := [23]) (by kernel_rfl) (by simp) ?_
            refine AllReadyH.cons (take_list rfl) (fun K hK => ?_) ?_
            · skip
              go_simp
              refine (HO.out _).mono ?_
              rintro e x5 ⟨rfl, hbx⟩
              dsimp only
              have HE5 : Hid (Below w5.heap.size w5 x5) := Lib.hid (ext_trans (by repeat (first | exact Below.refl _ _ | exact HE4.out | apply ext_drew | apply ext_drewN | apply ext_alloc)) hbx)
              clear hbx
              refine hK.out _ _ ?_ (fun hHeld => ?_)
              · try dsimp only
                exact HK.out _ (by repeat (first | exact Below.refl _ _ | exact HE5.out | apply ext_drew | apply ext_drewN | apply ext_alloc))
              clear hK K
              refine wpAnyH_ready (rs := [25]) (by kernel_rfl) (by simp) ?_
              refine AllReadyH.cons (take_list rfl) (fun K hK => ?_) ?_
              · skip
                go_simp
                refine (HO2.out _).mono ?_
                rintro e x6 ⟨rfl, hbx⟩
                dsimp only
                have HE6 : Hid (Below w5.heap.size w5 x6) := Lib.hid (ext_trans (by repeat (first | exact Below.refl _ _ | exact HE5.out | apply ext_drew | apply ext_drewN | apply ext_alloc)) hbx)
                clear hbx
                refine hK.out _ _ ?_ (fun hHeld => ?_)
                · try dsimp only
                  exact HK.out _ (by repeat (first | exact Below.refl _ _ | exact HE6.out | apply ext_drew | apply ext_drewN | apply ext_alloc))
                clear hK K
                refine wpAnyH_ready (rs := [26]) (by kernel_rfl) (by simp) ?_
                refine AllReadyH.cons (take_list rfl) (fun K hK => ?_) ?_
                · skip
                  go_simp
                  refine (HRs5.out _ (by repeat (first | exact Below.refl _ _ | exact HE6.out | apply ext_drew | apply ext_drewN | apply ext_alloc))).mono ?_
                  rintro e x7 ⟨rfl, hbx⟩
                  dsimp only
                  have HE7 : Hid (Below w5.heap.size w5 x7) := Lib.hid (ext_trans (by repeat (first | exact Below.refl _ _ | exact HE6.out | apply ext_drew | apply ext_drewN | apply ext_alloc)) hbx)
                  clear hbx
                  refine hK.out _ _ ?_ (fun hHeld => ?_)
                  · try dsimp only
                    exact HK.out _ (by repeat (first | exact Below.refl _ _ | exact HE7.out | apply ext_drew | apply ext_drewN | apply ext_alloc))
                  clear hK K
                  refine wpAnyH_take (i := 27) (v := ?_) (take_list rfl) (by kernel_rfl) (by kernel_rfl) (by kernel_rfl) (fun _ _ _ h => h) (Or.inl ⟨by rfl, ?_⟩) (by assumption) ?_
                  rotate_left
                  · intro w hSw
                    try dsimp only at hSw
                    first | (go_simp; done) | (go_simp; with_reducible rfl)
                  try simp only [Act.put, List.setIfInBounds_toArray, List.set_cons_zero, List.set_cons_succ]
                  refine wpAnyH_take (i := 28) (v := ?_) (take_list rfl) (by kernel_rfl) (by kernel_rfl) (by kernel_rfl) (fun _ _ _ h => h) (Or.inl ⟨by rfl, ?_⟩) (by assumption) ?_
                  rotate_left
                  · intro w hSw
                    try dsimp only at hSw
                    first | (go_simp; done) | (go_simp; with_reducible rfl)
                  try simp only [Act.put, List.setIfInBounds_toArray, List.set_cons_zero, List.set_cons_succ]
                  refine wpAnyH_take (i := 29) (v := ?_) (take_list rfl) (by kernel_rfl) (by kernel_rfl) (by kernel_rfl) (fun _ _ _ h => h) (Or.inl ⟨by rfl, ?_⟩) (by assumption) ?_
                  rotate_left
                  · intro w hSw
                    try dsimp only at hSw
                    first | (go_simp; done) | (go_simp; with_reducible rfl)
                  try simp only [Act.put, List.setIfInBounds_toArray, List.set_cons_zero, List.set_cons_succ]
                  refine wpAnyH_take (i := 30) (v := ?_) (take_list rfl) (by kernel_rfl) (by kernel_rfl) (by kernel_rfl) (fun _ _ _ h => h) (Or.inl ⟨by rfl, ?_⟩) (by assumption) ?_
                  rotate_left
                  · intro w hSw
                    try dsimp only at hSw
                    first | (go_simp; done) | (go_simp; with_reducible rfl)
                  try simp only [Act.put, List.setIfInBounds_toArray, List.set_cons_zero, List.set_cons_succ]
                  refine wpAnyH_take (i := 31) (v := ?_) (take_list rfl) (by kernel_rfl) (by kernel_rfl) (by kernel_rfl) (fun _ _ _ h => h) (Or.inl ⟨by rfl, ?_⟩) (by assumption) ?_
                  rotate_left
                  · intro w hSw
                    try dsimp only at hSw
                    first | (go_simp; done) | (go_simp; with_reducible rfl)
                  try simp only [Act.put, List.setIfInBounds_toArray, List.set_cons_zero, List.set_cons_succ]
                  refine wpAnyH_ready (rs := [32]) (by kernel_rfl) (by simp) ?_
                  refine AllReadyH.cons (take_list rfl) (fun K hK => ?_) ?_
                  · skip
                    go_simp
                    refine (HSs5.out _ (by repeat (first | exact Below.refl _ _ | exact HE7.out | apply ext_drew | apply ext_drewN | apply ext_alloc))).mono ?_
                    rintro e x8 ⟨rfl, hbx⟩
                    dsimp only
                    have HE8 : Hid (Below w5.heap.size w5 x8) := Lib.hid (ext_trans (by repeat (first | exact Below.refl _ _ | exact HE7.out | apply ext_drew | apply ext_drewN | apply ext_alloc)) hbx)
                    clear hbx
                    refine hK.out _ _ ?_ (fun hHeld => ?_)
                    · try dsimp only
                      exact HK.out _ (by repeat (first | exact Below.refl _ _ | exact HE8.out | apply ext_drew | apply ext_drewN | apply ext_alloc))
                    clear hK K
                    refine wpAnyH_take (i := 33) (v := ?_) (take_list rfl) (by kernel_rfl) (by kernel_rfl) (by kernel_rfl) (fun _ _ _ h => h) (Or.inl ⟨by rfl, ?_⟩) (by assumption) ?_
                    rotate_left
                    · intro w hSw
                      try dsimp only at hSw
                      first | (go_simp; done) | (go_simp; with_reducible rfl)
                    try simp only [Act.put, List.setIfInBounds_toArray, List.set_cons_zero, List.set_cons_succ]
                    refine wpAnyH_take (i := 34) (v := ?_) (take_list rfl) (by kernel_rfl) (by kernel_rfl) (by kernel_rfl) (fun _ _ _ h => h) (Or.inl ⟨by rfl, ?_⟩) (by assumption) ?_
                    rotate_left
                    · intro w hSw
                      try dsimp only at hSw
                      first | (go_simp; done) | (go_simp; with_reducible rfl)
                    try simp only [Act.put, List.setIfInBounds_toArray, List.set_cons_zero, List.set_cons_succ]
                    refine wpAnyH_ready (rs := [35]) (by kernel_rfl) (by simp) ?_
                    refine AllReadyH.cons (take_list rfl) (fun K hK => ?_) ?_
                    · skip
                      go_simp
                      refine (known18_any _ (Ht.out.ext (ext_trans Hbw.out (by repeat (first | exact Below.refl _ _ | exact HE8.out | apply ext_drew | apply ext_drewN | apply ext_alloc))))).mono ?_
                      rintro e x9 ⟨rfl, hbx⟩
                      dsimp only
                      have HE9 : Hid (Below w5.heap.size w5 x9) := Lib.hid (ext_trans (by repeat (first | exact Below.refl _ _ | exact HE8.out | apply ext_drew | apply ext_drewN | apply ext_alloc)) hbx)
                      clear hbx
                      refine hK.out _ _ ?_ (fun hHeld => ?_)
                      · try dsimp only
                        exact HK.out _ (by repeat (first | exact Below.refl _ _ | exact HE9.out | apply ext_drew | apply ext_drewN | apply ext_alloc))
                      clear hK K
                      refine wpAnyH_take (i := 36) (v := ?_) (take_list rfl) (by kernel_rfl) (by kernel_rfl) (by kernel_rfl) (fun _ _ _ h => h) (Or.inl ⟨by rfl, ?_⟩) (by assumption) ?_
                      rotate_left
                      · intro w hSw
                        try dsimp only at hSw
                        first | (go_simp; done) | (go_simp; with_reducible rfl)
                      try simp only [Act.put, List.setIfInBounds_toArray, List.set_cons_zero, List.set_cons_succ]
                      refine wpAnyH_take (i := 37) (v := ?_) (take_list rfl) (by kernel_rfl) (by kernel_rfl) (by kernel_rfl) (fun _ _ _ h => h) (Or.inl ⟨by rfl, ?_⟩) (by assumption) ?_
                      rotate_left
                      · intro w hSw
                        try dsimp only at hSw
                        first | (go_simp; done) | (go_simp; with_reducible rfl)
                      try simp only [Act.put, List.setIfInBounds_toArray, List.set_cons_zero, List.set_cons_succ]
                      refine wpAnyH_done (by kernel_rfl) ?_ _
                      go_wp2
                      go_ret
                      exact ⟨rfl, ext_trans Hbw.out HE9.out⟩
                    exact AllReadyH.nil
                  exact AllReadyH.nil
                exact AllReadyH.nil
              exact AllReadyH.nil
            exact AllReadyH.nil
          exact AllReadyH.nil
        exact AllReadyH.nil
      exact AllReadyH.nil
    exact AllReadyH.nil
end Go.Proofs.YtpjgkacekelkdaaGreatDoor

/-
  Sums of differences, numbers of runs (reference). No statement of the seat is proved here.
-/
namespace Go.Proofs.YtpjgkacekelkdaaGreatDoor
open Go Go.RowKit
set_option maxRecDepth 100000

theorem and_one (f : Nat) (hf : f ≤ 4611686018427387904) : bits .and .i64 (f : Int) 1 = ((f % 2 : Nat) : Int) := by
  show IntKind.i64.wrap ((BitVec.ofInt 64 (f : Int) &&& BitVec.ofInt 64 1).toNat : Int) = _
  have h2 : (BitVec.ofInt 64 (f : Int)).toNat = f := by rw [BitVec.toNat_ofInt]; omega
  have h3 : (BitVec.ofInt 64 1).toNat = 1 := rfl
  rw [BitVec.toNat_and, h2, h3, show (1 : Nat) = 2 ^ 1 - 1 from rfl, Nat.and_two_pow_sub_one_eq_mod, IntKind.wrap_i64]
  omega
/-- append of one number onto a row that was made anew -/
theorem ints_app (l : List Int) (x : Int) : l.map iv ++ [.int .i64 x] = (l ++ [x]).map iv := by simp [iv]

set_option maxHeartbeats 8000000 in
theorem rdeltas_any (A : Option Addr) (c : Nat) (l : List Int) (w : World) (hA : Rd w A (l.map iv)) (hv : ∀ v ∈ l, 0 ≤ v ∧ v ≤ 4611686018427387904) (hl : l.length ≤ 1099511627776) :
    Calls Tryz.prog 79 #[.slice A l.length c] w fun e w' => ∃ A' c', e = .returned (.slice A' (rdel l).length c') ∧ NewO w w' 3 1 A' (rdel l).length c' ((rdel l).map iv) := by
  have hli : (l.length : Int) ≤ 1099511627776 := by omega
  have HA := Lib.hid hA
  have HV := Lib.hid hv
  have HY : Hid ((∀ j, j < l.length → 0 ≤ addK l (j + 1) ∧ addK l (j + 1) ≤ 1099511627776) → rdel l = addedTo l l.length) := Lib.hid (fun h => by unfold rdel; rw [if_pos h]; rfl)
  have HN : Hid (∀ j, j < l.length → ¬ (0 ≤ addK l (j + 1) ∧ addK l (j + 1) ≤ 1099511627776) → rdel l = []) := Lib.hid (fun j hj hb => by unfold rdel; rw [if_neg (fun h => hb (h j hj))])
  generalize rdel l = R at *
  clear hA hv
  go_enter Tryz.func79, Tryz.ntmps79
  go_wp2
  go_loopw [3, 4, 5] (fun s a i wr => ∃ (k : Nat) (B : Option Addr) (cB : Nat), k ≤ l.length ∧ i = .int .i64 (k : Int) ∧ a = .int .i64 (addK l k) ∧ s = .slice B k cB ∧ NewO w wr 3 1 B k cB ((addedTo l k).map iv) ∧ Hid (∀ j, j < k → 0 ≤ addK l (j + 1) ∧ addK l (j + 1) ≤ 1099511627776)) (fun _ _ i _ => l.length - (intOf i).toNat)
  case atStart => exact ⟨0, none, 0, Nat.zero_le _, rfl, rfl, rfl, NewO.start _ _ _, Lib.hid (fun j hj => by omega)⟩
  case round =>
    obtain ⟨k, B, cB, hk, rfl, rfl, rfl, hN, Hall⟩ := hrel
    by_cases hlt : k < l.length
    · have hki : (k : Int) < (l.length : Int) := by omega
      obtain ⟨ad, hB, hcell⟩ := rd_int (HA.out.ext hN.bel) hlt
      subst hB
      have hgd : l.getD k 0 = l[k] := by rw [List.getD_eq_getElem?_getD, List.getElem?_eq_getElem hlt]; rfl
      have b1 := HV.out _ (List.getElem_mem hlt)
      have hlast : 0 ≤ addK l k ∧ addK l k ≤ 1099511627776 := by
        rcases k with _ | k
        · exact ⟨Int.le_refl _, by show (0 : Int) ≤ _; omega⟩
        · exact Hall.out k (by omega)
      have hnx : addK l (k + 1) = IntKind.i64.wrap (addK l k + unfP l[k]) := by rw [addK, hgd]
      have hun : unfP l[k] = if l[k] % 2 = 1 then -(l[k] / 2 + 1) else l[k] / 2 := rfl
      have Hsn := Lib.hid (addedTo_succ l k)
      have HBad := Lib.hid (HN.out k hlt)
      have HAl : Hid (0 ≤ addK l (k + 1) ∧ addK l (k + 1) ≤ 1099511627776 → ∀ j, j < k + 1 → 0 ≤ addK l (j + 1) ∧ addK l (j + 1) ≤ 1099511627776) := Lib.hid (fun h j hj => by
        rcases Nat.lt_succ_iff_lt_or_eq.1 hj with h3 | rfl
        · exact Hall.out j h3
        · exact h)
      have t2 : l[k].tdiv 2 = l[k] / 2 := Int.tdiv_eq_ediv_of_nonneg b1.1
      obtain ⟨X, hX⟩ := Int.eq_ofNat_of_zero_le b1.1
      have hand := and_one X (by omega)
      rw [← hX] at hand
      have hand2 : bits .and .i64 l[k] 1 = l[k] % 2 := by rw [hand]; omega
      have HNw := Lib.hid hN
      have hm1 : k + 1 ≤ maxLen := by unfold maxLen; omega
      have hm2 : (k + 1) * 8 ≤ 140737488355328 := by omega
      generalize hz : addK l (k + 1) = z at *
      have Hz := Lib.hid hz
      generalize addK l k = q at *
      generalize l[k] = x at *
      clear hN hgd hX hand hz
      by_cases hodd : x % 2 = 1
      · rw [if_pos hodd] at hun
        have hne : ¬ x % 2 = 0 := by omega
        have hbq : (bits .and .i64 x 1 == 0) = false := by rw [hand2]; simp; omega
        have hbq2 : ¬ (bits .and .i64 x 1 = 0) := by rw [hand2]; omega
        have f1 : IntKind.i64.wrap (q - x / 2) = q - x / 2 := IntWalk.i64_in _ (by omega)
        have f2 : IntKind.i64.wrap (q - x / 2 - 1) = q - x / 2 - 1 := IntWalk.i64_in _ (by omega)
        have hzz : z = q - x / 2 - 1 := by rw [hnx, hun, show q + -(x / 2 + 1) = q - x / 2 - 1 by omega]; exact f2
        clear hnx hun
        rw [hzz] at HBad HAl Hz Hsn
        by_cases hz0 : q - x / 2 - 1 < 0
        · have d0 : decide (q - x / 2 - 1 < 0) = true := decide_eq_true hz0
          have HR := Lib.hid (HBad.out (by omega))
          clear HBad HAl
          go_wp2
          go_ret
          rw [HR.out]
          exact ⟨none, 0, rfl, RowO.none_ _ _ _, HNw.out.bel, fun k hk => absurd hk (inA_none k)⟩
        · have d0 : decide (q - x / 2 - 1 < 0) = false := decide_eq_false hz0
          by_cases hz1 : 1099511627776 < q - x / 2 - 1
          · have d1 : decide (1099511627776 < q - x / 2 - 1) = true := decide_eq_true hz1
            have HR := Lib.hid (HBad.out (by omega))
            clear HBad HAl
            go_wp2
            go_ret
            rw [HR.out]
            exact ⟨none, 0, rfl, RowO.none_ _ _ _, HNw.out.bel, fun k hk => absurd hk (inA_none k)⟩
          · have d1 : decide (1099511627776 < q - x / 2 - 1) = false := decide_eq_false hz1
            have HAL := Lib.hid (HAl.out (by omega))
            clear HBad HAl
            go_wp2_with (at_builtin
                         refine wpList_app_new rfl (.tmp 39) (.tmp 41) _ rfl 3 _ 1 8 Tryz.underlying48 info_int rfl B k cB _ HNw.out (ext_alloc (Below.refl _ _) _) rfl ⟨wr.heap.size, 0, none⟩ 1 [.int .i64 (q - x / 2 - 1)] rfl rfl (Rd.lit _ #[.int .i64 (q - x / 2 - 1)] _) ?_ hm1 hm2 ?_
                         · simp; rfl
                         intro A3 c3 w3 hN3 hb3
                         have HN3 := Lib.hid hN3
                         clear hN3 hb3)
            go_roundw
            case rel => exact ⟨k + 1, A3, c3, by omega, by go_num, by rw [Hz.out], rfl, by rw [Hsn.out, ← ints_app]; exact HN3.out, HAL⟩
            case measure => simp [intOf]; omega
      · rw [if_neg hodd] at hun
        have hne : x % 2 = 0 := by omega
        have hbq : (bits .and .i64 x 1 == 0) = true := by rw [hand2]; simp; omega
        have hbq2 : bits .and .i64 x 1 = 0 := by rw [hand2]; omega
        have f1 : IntKind.i64.wrap (q + x / 2) = q + x / 2 := IntWalk.i64_in _ (by omega)
        have hzz : z = q + x / 2 := by rw [hnx, hun]; exact f1
        clear hnx hun
        rw [hzz] at HBad HAl Hz Hsn
        by_cases hz0 : q + x / 2 < 0
        · have d0 : decide (q + x / 2 < 0) = true := decide_eq_true hz0
          have HR := Lib.hid (HBad.out (by omega))
          clear HBad HAl
          go_wp2
          go_ret
          rw [HR.out]
          exact ⟨none, 0, rfl, RowO.none_ _ _ _, HNw.out.bel, fun k hk => absurd hk (inA_none k)⟩
        · have d0 : decide (q + x / 2 < 0) = false := decide_eq_false hz0
          by_cases hz1 : 1099511627776 < q + x / 2
          · have d1 : decide (1099511627776 < q + x / 2) = true := decide_eq_true hz1
            have HR := Lib.hid (HBad.out (by omega))
            clear HBad HAl
            go_wp2
            go_ret
            rw [HR.out]
            exact ⟨none, 0, rfl, RowO.none_ _ _ _, HNw.out.bel, fun k hk => absurd hk (inA_none k)⟩
          · have d1 : decide (1099511627776 < q + x / 2) = false := decide_eq_false hz1
            have HAL := Lib.hid (HAl.out (by omega))
            clear HBad HAl
            go_wp2_with (at_builtin
                         refine wpList_app_new rfl (.tmp 39) (.tmp 41) _ rfl 3 _ 1 8 Tryz.underlying48 info_int rfl B k cB _ HNw.out (ext_alloc (Below.refl _ _) _) rfl ⟨wr.heap.size, 0, none⟩ 1 [.int .i64 (q + x / 2)] rfl rfl (Rd.lit _ #[.int .i64 (q + x / 2)] _) ?_ hm1 hm2 ?_
                         · simp; rfl
                         intro A3 c3 w3 hN3 hb3
                         have HN3 := Lib.hid hN3
                         clear hN3 hb3)
            go_roundw
            case rel => exact ⟨k + 1, A3, c3, by omega, by go_num, by rw [Hz.out], rfl, by rw [Hsn.out, ← ints_app]; exact HN3.out, HAL⟩
            case measure => simp [intOf]; omega
    · obtain rfl : k = l.length := by omega
      have hR := HY.out Hall.out
      have Hlen := Lib.hid (addedTo_len l l.length)
      have HR := Lib.hid hR
      clear hR
      go_wp2
      go_ret
      rw [HR.out, Hlen.out]
      exact ⟨B, cB, rfl, hN⟩
end Go.Proofs.YtpjgkacekelkdaaGreatDoor

/-
  Numbers of runs (reference). No statement of the seat is proved here.
-/
namespace Go.Proofs.YtpjgkacekelkdaaGreatDoor
open Go Go.RowKit
set_option maxRecDepth 100000

def rrA (l : List Int) : List Int × Bool := match rrP l with | some o => (o, true) | none => ([], false)

set_option maxHeartbeats 8000000 in
theorem rrunsl_any (A : Option Addr) (c : Nat) (l : List Int) (w : World) (hA : Rd w A (l.map iv)) (hv : ∀ v ∈ l, 0 ≤ v ∧ v ≤ 4611686018427387904) (hl : l.length ≤ 1099511627776) :
    Calls Tryz.prog 80 #[.slice A l.length c] w fun e w' => ∃ A' c', e = .returned (.tuple #[.slice A' (rrA l).1.length c', .bool (rrA l).2]) ∧ NewO w w' 3 1 A' (rrA l).1.length c' ((rrA l).1.map iv) := by
  have hli : (l.length : Int) ≤ 1099511627776 := by omega
  have HA := Lib.hid hA
  have HV := Lib.hid hv
  have HY : Hid (∀ o, rrK l (l.length / 2) = some o → rrA l = (o, true)) := Lib.hid (fun o h => by unfold rrA rrP; rw [h])
  have HN : Hid (∀ k, k ≤ l.length / 2 → rrK l k = none → rrA l = ([], false)) := Lib.hid (fun k hk h => by
    obtain ⟨d, hd⟩ := Nat.exists_eq_add_of_le hk
    unfold rrA rrP
    rw [hd, rrK_none h d])
  generalize rrA l = R at *
  clear hA hv
  go_enter Tryz.func80, Tryz.ntmps80
  go_wp2
  go_loopw [4, 5] (fun s i wr => ∃ (k : Nat) (o : List Int) (B : Option Addr) (cB : Nat), k ≤ l.length / 2 ∧ i = .int .i64 (2 * (k : Int)) ∧ s = .slice B o.length cB ∧ NewO w wr 3 1 B o.length cB (o.map iv) ∧ Hid (rrK l k = some o) ∧ o.length ≤ 32768) (fun _ i _ => l.length - (intOf i).toNat)
  case atStart => exact ⟨0, [], none, 0, Nat.zero_le _, rfl, rfl, NewO.start _ _ _, Lib.hid rfl, by simp⟩
  case round =>
    obtain ⟨k, o, B, cB, hk, rfl, rfl, hN, Hk, hol⟩ := hrel
    by_cases hlt : 2 * k + 1 < l.length
    · have hki : 2 * (k : Int) + 1 < (l.length : Int) := by omega
      have hki0 : 2 * (k : Int) < (l.length : Int) := by omega
      have hlt0 : 2 * k < l.length := by omega
      have hkk : k + 1 ≤ l.length / 2 := by omega
      have hcast : ((2 * k : Nat) : Int) = 2 * (k : Int) := by omega
      have hcast1 : ((2 * k + 1 : Nat) : Int) = 2 * (k : Int) + 1 := by omega
      have hA0 := HA.out.ext hN.bel
      obtain ⟨ad, hB, hcell⟩ := rd_int hA0 hlt0
      subst hB
      have ht0 : (2 * (k : Int)).toNat = 2 * k := by omega
      have ht1 : (2 * (k : Int) + 1).toNat = 2 * k + 1 := by omega
      have hg0 : l.getD (2 * k) 0 = l[2 * k] := by rw [List.getD_eq_getElem?_getD, List.getElem?_eq_getElem hlt0]; rfl
      have hg1 : l.getD (2 * k + 1) 0 = l[2 * k + 1] := by rw [List.getD_eq_getElem?_getD, List.getElem?_eq_getElem hlt]; rfl
      have b1 := HV.out _ (List.getElem_mem hlt0)
      have hnx : rrK l (k + 1) = if 32768 < l[2 * k] ∨ 32768 < (o.length : Int) + l[2 * k] then none else some (o ++ List.replicate l[2 * k].toNat l[2 * k + 1]) := by
        rw [rrK, Hk.out]
        simp only [hg0, hg1]
      have HX : Hid (∀ W, Below w.heap.size w W → W.cell? (ad.add (2 * k)) = some (.int .i64 l[2 * k]) ∧ W.cell? ⟨ad.block, ad.off + (2 * k + 1), none⟩ = some (.int .i64 l[2 * k + 1])) := Lib.hid (fun W hW => by
        obtain ⟨a1, e1, c1⟩ := rd_int (HA.out.ext hW) hlt0
        injection e1 with e1
        subst e1
        obtain ⟨a2, e2, c2⟩ := rd_int (HA.out.ext hW) hlt
        injection e2 with e2
        subst e2
        have hz : ad.add (2 * k + 1) = ⟨ad.block, ad.off + (2 * k + 1), none⟩ := by simp [Addr.add]
        rw [hz] at c2
        exact ⟨c1, c2⟩)
      have HNw := Lib.hid hN
      have HBad := Lib.hid (HN.out (k + 1) hkk)
      generalize l[2 * k] = n at *
      generalize l[2 * k + 1] = v at *
      clear hg0 hg1 hA0 hN
      by_cases h1 : 32768 < n
      · have d1 : decide (32768 < n) = true := decide_eq_true h1
        rw [if_pos (.inl h1)] at hnx
        have HR := Lib.hid (HBad.out hnx)
        clear HBad hnx
        go_wp2
        go_ret2
        rw [HR.out]
        exact ⟨none, 0, rfl, RowO.none_ _ _ _, HNw.out.bel, fun k hk => absurd hk (inA_none k)⟩
      · have d1 : decide (32768 < n) = false := decide_eq_false h1
        have hsw : IntKind.i64.wrap ((o.length : Int) + n) = (o.length : Int) + n := IntWalk.i64_in _ (by omega)
        by_cases h2 : 32768 < (o.length : Int) + n
        · have d2 : decide (32768 < (o.length : Int) + n) = true := decide_eq_true h2
          rw [if_pos (.inr h2)] at hnx
          have HR := Lib.hid (HBad.out hnx)
          clear HBad hnx
          go_wp2
          go_ret2
          rw [HR.out]
          exact ⟨none, 0, rfl, RowO.none_ _ _ _, HNw.out.bel, fun k hk => absurd hk (inA_none k)⟩
        · have d2 : decide (32768 < (o.length : Int) + n) = false := decide_eq_false h2
          rw [if_neg (by omega)] at hnx
          have Hnx := Lib.hid hnx
          clear HBad hnx
          obtain ⟨m, hm⟩ := Int.eq_ofNat_of_zero_le b1.1
          have hm2 : n.toNat = m := by omega
          rw [hm2] at Hnx
          subst hm
          have hmo : o.length + m ≤ 32768 := by omega
          generalize wr = wa at *
          go_wp2
          go_loopw [4, 6] (fun s i wr => ∃ (j : Nat) (B : Option Addr) (cB : Nat), j ≤ m ∧ i = .int .i64 (j : Int) ∧ s = .slice B (o.length + j) cB ∧ NewO w wr 3 1 B (o.length + j) cB ((o ++ List.replicate j v).map iv)) (fun _ i _ => m - (intOf i).toNat)
          case atStart => exact ⟨0, B, cB, Nat.zero_le _, rfl, rfl, by simpa using HNw.out⟩
          case round =>
            obtain ⟨j, B, cB, hj, rfl, rfl, hN⟩ := hrel
            obtain ⟨hc0, hc1⟩ := HX.out _ hN.bel
            have HN2 := Lib.hid hN
            by_cases hjm : j < m
            · have hji : (j : Int) < (m : Int) := by omega
              have hm1 : o.length + j + 1 ≤ maxLen := by unfold maxLen; omega
              have hm2 : (o.length + j + 1) * 8 ≤ 140737488355328 := by omega
              clear hN
              go_wp2_with (at_builtin
                           refine wpList_app_new rfl (.tmp 37) (.tmp 43) _ rfl 3 _ 1 8 Tryz.underlying48 info_int rfl B (o.length + j) cB _ HN2.out (ext_alloc (Below.refl _ _) _) rfl ⟨wr.heap.size, 0, none⟩ 1 [.int .i64 v] rfl rfl (Rd.lit _ #[.int .i64 v] _) ?_ hm1 hm2 ?_
                           · simp; rfl
                           intro A3 c3 w3 hN3 hb3
                           have HN3 := Lib.hid hN3
                           clear hN3 hb3)
              go_roundw
              case rel => exact ⟨j + 1, A3, c3, by omega, by go_num, rfl, by rw [List.replicate_succ', ← List.append_assoc, ← ints_app]; exact HN3.out⟩
              case measure => simp [intOf]; omega
            · obtain rfl : j = m := by omega
              have hjj : decide ((j : Int) < (j : Int)) = false := by simp
              clear hN
              go_wp2
              go_roundw
              case rel => exact ⟨k + 1, o ++ List.replicate j v, B, cB, by omega, by go_num, by rw [List.length_append, List.length_replicate], by rw [List.length_append, List.length_replicate]; exact HN2.out, Lib.hid Hnx.out, by rw [List.length_append, List.length_replicate]; omega⟩
              case measure => simp [intOf]; omega
    · have hki : ¬ (2 * (k : Int) + 1 < (l.length : Int)) := by omega
      obtain rfl : k = l.length / 2 := by omega
      have HR := Lib.hid (HY.out o Hk.out)
      go_wp2
      go_ret2
      rw [HR.out]
      exact ⟨B, cB, rfl, hN⟩
end Go.Proofs.YtpjgkacekelkdaaGreatDoor
