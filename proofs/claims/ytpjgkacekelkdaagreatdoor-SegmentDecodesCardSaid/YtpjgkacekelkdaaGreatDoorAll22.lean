/-
  Texts of this claim, joined (part 22): contracts and lemmas that the last text goes by. No statement of the seat is proved here.
-/
import Derived.Test.YtpjgkacekelkdaaGreatDoorAll21
import Derived.Test.YtpjgkacekelkdaaGreatDoorAll18
import Derived.Deep.RegionHeld3
set_option linter.unusedVariables false
set_option linter.unusedSimpArgs false
/-
  SegmentDecodes' walk. No statement of the seat is proved in the part ahead of its closing.
-/
namespace Go.Proofs.YtpjgkacekelkdaaGreatDoor
open Go Go.RowKit
set_option maxRecDepth 100000

set_option maxHeartbeats 16000000 in
theorem decodes_any (p : List UInt8) (A : Option Addr) (ca : Nat) (w : World) (ht : Tab w) (hA : Rd w A (p.map bv)) (hc : p.length ≤ ca) (hm : ca ≤ maxLen) :
    Calls Tryz.prog 4 #[.slice A p.length ca] w fun e w' => e = .returned (.bool true) ∧ Below w.heap.size w w' := by
  unfold maxLen at hm
  have hpi : (p.length : Int) ≤ 9223372036854775807 := by omega
  by_cases h2 : 2000 < (p.length : Int)
  · go_enter Tryz.func4, Tryz.ntmps4
    go_wp2
    go_ret
    exact ⟨rfl, Below.refl _ _⟩
  · have hpl : p.length ≤ 2000 := by omega
    have HA := Lib.hid hA
    have HD := Lib.hid (fun B c (W : World) (hb : Below w.heap.size w W) h hc => decodeG_any p B c W (ht.ext hb) h hc (by omega))
    have HE := Lib.hid (fun (W : World) (hb : Below w.heap.size w W) => rdecodeG_any p A ca W (hA.ext hb) hc (by omega))
    have Ht := Lib.hid ht
    have hk1 : 0 + p.length ≤ maxLen := by unfold maxLen; omega
    have hk2 : (0 + p.length) * 1 ≤ 140737488355328 := by omega
    have HSm0 := Lib.hid (fun B1 B2 c1 c2 W ha hb => same_good (decG p).1 B1 B2 c1 c2 W ha hb)
    have HO := Lib.hid (fun B c W => own_any (decG p).1 B c W)
    generalize decG p = R at *
    obtain ⟨⟨jf, jl⟩, je⟩ := R
    unfold sgV at HD HE HSm0 HO
    dsimp only at HD HE HSm0 HO
    generalize hN : jl.length = N at *
    have HN := Lib.hid hN
    clear hA ht hc hm hN
    go_enter Tryz.func4, Tryz.ntmps4
    go_wp2_with (at_builtin
                 refine wpList_app _ rfl (.tmp 11) (.tmp 12) _ rfl _ _ 1 Tryz.underlying26 info_u8 rfl (some ⟨w.heap.size, 0, none⟩) 0 0 [] rfl rfl (Own.lit w (fun k => w.heap.size ≤ k) #[] _ (by simp) (Nat.le_refl _)) A p.length ca (p.map bv) rfl (by rw [List.length_map]) (HA.out.alloc _) (bvs_one _) hk1 hk2 ?_
                 intro A1 c1 w1 hown1 honly1
                 have Hown1 := Lib.hid hown1
                 have Hb1 : Hid (Below w.heap.size w w1) := Lib.hid (((Below.refl _ _).alloc (Nat.le_refl _) _).trans (honly1.below (fun i hi => hi) (by simp)))
                 clear hown1 honly1)
    refine (HD.out A1 c1 w1 Hb1.out (by have := Hown1.out.rd; simpa using this) (by have := Hown1.out.cap; simpa using this)).mono ?_
    rintro e w6 ⟨B6, c6, rfl, hin6, hb6⟩
    have HI6 := Lib.hid hin6
    obtain ⟨w5, hw5⟩ : ∃ w5, w5 = w6.alloc (.cells #[.int .i64 jf, .slice B6 N c6] 24) := ⟨_, rfl⟩
    have hb5 : Below w6.heap.size w6 w5 := by rw [hw5]; exact ext_alloc (Below.refl _ _) _
    have HX5 : Hid (Blk w5 w6.heap.size 24 #[.int .i64 jf, .slice B6 N c6]) := Lib.hid (by rw [hw5]; exact Blk.new _ _ _)
    have Hb5 := Lib.hid hb5
    have Hbw5 := Lib.hid (ext_trans (ext_trans Hb1.out hb6) hb5)
    have HR3 := Lib.hid (HE.out w5 Hbw5.out)
    have Hw5 := Lib.hid hw5
    clear hb6 hb5 hin6 hw5 HD HE
    go_wp2_with fail
    rw [← Hw5.out]
    refine HR3.out.mono ?_
    rintro e w7 ⟨B7, c7, rfl, hin7, hb7⟩
    obtain ⟨w8, hw8⟩ : ∃ w8, w8 = w7.alloc (.cells #[.int .i64 jf, .slice B7 N c7] 32) := ⟨_, rfl⟩
    have hb8 : Below w7.heap.size w7 w8 := by rw [hw8]; exact ext_alloc (Below.refl _ _) _
    have HX8 : Hid (Blk w8 w7.heap.size 32 #[.int .i64 jf, .slice B7 N c7]) := Lib.hid (by rw [hw8]; exact Blk.new _ _ _)
    have HX6 := Lib.hid ((HX5.out.ext hb7).ext hb8)
    have Hb8 := Lib.hid (ext_trans (ext_trans Hbw5.out hb7) hb8)
    have HSm : Hid (∀ W, Below w8.heap.size w8 W → Calls Tryz.prog 12 #[.agg #[.int .i64 jf, .slice B6 N c6], .agg #[.int .i64 jf, .slice B7 N c7]] W fun e w' => e = .returned (.bool true) ∧ Below W.heap.size W w') := Lib.hid (fun W hW =>
      HSm0.out B6 B7 c6 c7 W ((((HI6.out.ext Hb5.out).ext hb7).ext hb8).ext hW) ((hin7.ext hb8).ext hW))
    have HK : Hid (∀ W, Below w8.heap.size w8 W → W.cell? ⟨w6.heap.size, 0, none⟩ = some (.int .i64 jf) ∧ W.cell? ⟨w6.heap.size, 1, none⟩ = some (.slice B6 N c6) ∧ W.cell? ⟨w7.heap.size, 0, none⟩ = some (.int .i64 jf) ∧ W.cell? ⟨w7.heap.size, 1, none⟩ = some (.slice B7 N c7)) := Lib.hid (fun W hW =>
      ⟨(HX6.out.ext hW).cell 0, (HX6.out.ext hW).cell 1, (HX8.out.ext hW).cell 0, (HX8.out.ext hW).cell 1⟩)
    have HOk := Lib.hid (HO.out B6 c6)
    have Hw8 := Lib.hid hw8
    clear hb7 hb8 hin7 hw8 HR3 HI6 HSm0 HO
    go_wp2_with fail
    rw [← Hw8.out]
    refine wp_region_held_drew (S := fun W => W.cell? ⟨w6.heap.size, 0, none⟩ = some (.int .i64 jf) ∧ W.cell? ⟨w6.heap.size, 1, none⟩ = some (.slice B6 N c6) ∧ W.cell? ⟨w7.heap.size, 0, none⟩ = some (.int .i64 jf) ∧ W.cell? ⟨w7.heap.size, 1, none⟩ = some (.slice B7 N c7)) (by kernel_rfl) ?_ (fun hHeld => ?_)
    · exact HK.out _ (by repeat (first | exact Below.refl _ _ | exact HE4.out | exact HE3.out | exact HE2.out | apply ext_drew | apply ext_drewN | apply ext_alloc))
    refine wpAnyH_take (i := 0) (v := ?_) (take_list rfl) (by kernel_rfl) (by kernel_rfl) (by kernel_rfl) (fun _ _ _ h => h) (Or.inl ⟨by rfl, ?_⟩) (by assumption) ?_
    rotate_left
    · intro w hSw
      try dsimp only at hSw
      first | (go_simp; done) | (go_simp; with_reducible rfl)
    try simp only [Act.put, List.setIfInBounds_toArray, List.set_cons_zero, List.set_cons_succ]
    refine wpAnyH_take (i := 2) (v := ?_) (take_list rfl) (by kernel_rfl) (by kernel_rfl) (by kernel_rfl) (fun _ _ _ h => h) (Or.inl ⟨by rfl, ?_⟩) (by assumption) ?_
    rotate_left
    · intro w hSw
      try dsimp only at hSw
      first | (go_simp; done) | (go_simp; with_reducible rfl)
    try simp only [Act.put, List.setIfInBounds_toArray, List.set_cons_zero, List.set_cons_succ]
    refine wpAnyH_ready (rs := [1]) (by kernel_rfl) (by simp) ?_
    refine AllReadyH.cons (take_list rfl) (fun K hK => ?_) ?_
    · skip
      go_simp
      refine (HOk.out _).mono ?_
      rintro e x1 ⟨rfl, hbx⟩
      dsimp only
      have HE2 : Hid (Below w8.heap.size w8 x1) := Lib.hid (ext_trans (by repeat (first | exact Below.refl _ _ | exact HE4.out | exact HE3.out | exact HE2.out | apply ext_drew | apply ext_drewN | apply ext_alloc)) hbx)
      clear hbx
      refine hK.out _ _ ?_ (fun hHeld => ?_)
      · try dsimp only
        exact HK.out _ (by repeat (first | exact Below.refl _ _ | exact HE4.out | exact HE3.out | exact HE2.out | apply ext_drew | apply ext_drewN | apply ext_alloc))
      clear hK K
      refine wpAnyH_ready (rs := [3]) (by kernel_rfl) (by simp) ?_
      refine AllReadyH.cons (take_list rfl) (fun K hK => ?_) ?_
      · skip
        go_simp
        refine (HSm.out _ (by repeat (first | exact Below.refl _ _ | exact HE4.out | exact HE3.out | exact HE2.out | apply ext_drew | apply ext_drewN | apply ext_alloc))).mono ?_
        rintro e x2 ⟨rfl, hbx⟩
        dsimp only
        have HE3 : Hid (Below w8.heap.size w8 x2) := Lib.hid (ext_trans (by repeat (first | exact Below.refl _ _ | exact HE4.out | exact HE3.out | exact HE2.out | apply ext_drew | apply ext_drewN | apply ext_alloc)) hbx)
        clear hbx
        refine hK.out _ _ ?_ (fun hHeld => ?_)
        · try dsimp only
          exact HK.out _ (by repeat (first | exact Below.refl _ _ | exact HE4.out | exact HE3.out | exact HE2.out | apply ext_drew | apply ext_drewN | apply ext_alloc))
        clear hK K
        refine wpAnyH_take (i := 4) (v := ?_) (take_list rfl) (by kernel_rfl) (by kernel_rfl) (by kernel_rfl) (fun _ _ _ h => h) (Or.inl ⟨by rfl, ?_⟩) (by assumption) ?_
        rotate_left
        · intro w hSw
          try dsimp only at hSw
          first | (go_simp; done) | (go_simp; with_reducible rfl)
        try simp only [Act.put, List.setIfInBounds_toArray, List.set_cons_zero, List.set_cons_succ]
        refine wpAnyH_take (i := 5) (v := ?_) (take_list rfl) (by kernel_rfl) (by kernel_rfl) (by kernel_rfl) (fun _ _ _ h => h) (Or.inl ⟨by rfl, ?_⟩) (by assumption) ?_
        rotate_left
        · intro w hSw
          try dsimp only at hSw
          first | (go_simp; done) | (go_simp; with_reducible rfl)
        try simp only [Act.put, List.setIfInBounds_toArray, List.set_cons_zero, List.set_cons_succ]
        refine wpAnyH_take (i := 6) (v := ?_) (take_list rfl) (by kernel_rfl) (by kernel_rfl) (by kernel_rfl) (fun _ _ _ h => h) (Or.inl ⟨by rfl, ?_⟩) (by assumption) ?_
        rotate_left
        · intro w hSw
          try dsimp only at hSw
          first | (go_simp; done) | (go_simp; with_reducible rfl)
        try simp only [Act.put, List.setIfInBounds_toArray, List.set_cons_zero, List.set_cons_succ]
        refine wpAnyH_take (i := 7) (v := ?_) (take_list rfl) (by kernel_rfl) (by kernel_rfl) (by kernel_rfl) (fun _ _ _ h => h) (Or.inl ⟨by rfl, ?_⟩) (by assumption) ?_
        rotate_left
        · intro w hSw
          try dsimp only at hSw
          first | (go_simp; done) | (go_simp; with_reducible rfl)
        try simp only [Act.put, List.setIfInBounds_toArray, List.set_cons_zero, List.set_cons_succ]
        refine wpAnyH_take (i := 8) (v := ?_) (take_list rfl) (by kernel_rfl) (by kernel_rfl) (by kernel_rfl) (fun _ _ _ h => h) (Or.inl ⟨by rfl, ?_⟩) (by assumption) ?_
        rotate_left
        · intro w hSw
          try dsimp only at hSw
          first | (go_simp; done) | (go_simp; with_reducible rfl)
        try simp only [Act.put, List.setIfInBounds_toArray, List.set_cons_zero, List.set_cons_succ]
        refine wpAnyH_take (i := 9) (v := ?_) (take_list rfl) (by kernel_rfl) (by kernel_rfl) (by kernel_rfl) (fun _ _ _ h => h) (Or.inl ⟨by rfl, ?_⟩) (by assumption) ?_
        rotate_left
        · intro w hSw
          try dsimp only at hSw
          first | (go_simp; done) | (go_simp; with_reducible rfl)
        try simp only [Act.put, List.setIfInBounds_toArray, List.set_cons_zero, List.set_cons_succ]
        refine wpAnyH_ready (rs := [10]) (by kernel_rfl) (by simp) ?_
        refine AllReadyH.cons (take_list rfl) (fun K hK => ?_) ?_
        · skip
          go_simp
          refine (known18_any _ (Ht.out.ext (ext_trans Hb8.out (by repeat (first | exact Below.refl _ _ | exact HE4.out | exact HE3.out | exact HE2.out | apply ext_drew | apply ext_drewN | apply ext_alloc))))).mono ?_
          rintro e x3 ⟨rfl, hbx⟩
          dsimp only
          have HE4 : Hid (Below w8.heap.size w8 x3) := Lib.hid (ext_trans (by repeat (first | exact Below.refl _ _ | exact HE4.out | exact HE3.out | exact HE2.out | apply ext_drew | apply ext_drewN | apply ext_alloc)) hbx)
          clear hbx
          refine hK.out _ _ ?_ (fun hHeld => ?_)
          · try dsimp only
            exact HK.out _ (by repeat (first | exact Below.refl _ _ | exact HE4.out | exact HE3.out | exact HE2.out | apply ext_drew | apply ext_drewN | apply ext_alloc))
          clear hK K
          refine wpAnyH_take (i := 11) (v := ?_) (take_list rfl) (by kernel_rfl) (by kernel_rfl) (by kernel_rfl) (fun _ _ _ h => h) (Or.inl ⟨by rfl, ?_⟩) (by assumption) ?_
          rotate_left
          · intro w hSw
            try dsimp only at hSw
            first | (go_simp; done) | (go_simp; with_reducible rfl)
          try simp only [Act.put, List.setIfInBounds_toArray, List.set_cons_zero, List.set_cons_succ]
          refine wpAnyH_take (i := 12) (v := ?_) (take_list rfl) (by kernel_rfl) (by kernel_rfl) (by kernel_rfl) (fun _ _ _ h => h) (Or.inl ⟨by rfl, ?_⟩) (by assumption) ?_
          rotate_left
          · intro w hSw
            try dsimp only at hSw
            first | (go_simp; done) | (go_simp; with_reducible rfl)
          try simp only [Act.put, List.setIfInBounds_toArray, List.set_cons_zero, List.set_cons_succ]
          refine wpAnyH_done (by kernel_rfl) ?_ _
          go_wp2
          go_ret
          exact ⟨rfl, ext_trans Hb8.out HE4.out⟩
        exact AllReadyH.nil
      exact AllReadyH.nil
    exact AllReadyH.nil
end Go.Proofs.YtpjgkacekelkdaaGreatDoor
