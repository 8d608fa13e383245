/-
  Texts of this claim, joined (part 13): contracts and lemmas that the last text goes by. No statement of the seat is proved here.
-/
import Derived.Test.YtpjgkacekelkdaaDoorAll12
import Derived.Test.YtpjgkacekelkdaaDoorAll5
import Derived.Deep.RegionHeld3
set_option linter.unusedVariables false
set_option linter.unusedSimpArgs false
/-
  SegmentBack's walk. No statement of the seat is proved in the part ahead of its closing.
-/
namespace Go.Proofs.YtpjgkacekelkdaaDoor
open Go Go.RowKit
set_option maxRecDepth 100000

theorem xor_stays (x : UInt8) : bits .xor .u8 (x.toNat : Int) 0 = (x.toNat : Int) := by
  have hx := x.toNat_lt
  have h := u8_xor_nat x.toNat 0 (by omega) (by omega)
  rw [Nat.xor_zero] at h
  exact h
theorem row_one {W : World} {g : Nat} {t : TypeId} {s : Sg} {B : Option Addr} {c : Nat} (hb : Blk W g t #[.int .i64 s.first, .slice B s.lines.length c]) (h : SgIn W s B c) : RowR IsSg 2 W (some ⟨g, 0, none⟩) [s] := fun k hk => by
  obtain rfl : k = 0 := by simpa using hk
  exact ⟨g, 0, _, rfl, rfl, two_cells (hb.cell 0) (hb.cell 1), B, c, rfl, h⟩
theorem encG_pos (s : Sg) : 0 < (encG s).length := by unfold encG; rw [sealB_length]; omega

set_option maxHeartbeats 16000000 in
theorem back_any (s : Sg) (B : Option Addr) (c : Nat) (at_ y : Int) (hy : 0 ≤ y ∧ y ≤ 255) (w : World) (ht : Tab w) (h : SgIn w s B c) (hz : ∀ n ∈ lensS s, n ≤ 140737488355328) :
    Calls Tryd.prog 3 #[sgV s B c, .int .i64 at_, .int .u8 y] w fun e w' => e = .returned (.bool true) ∧ Below w.heap.size w w' := by
  obtain ⟨w1, hw1⟩ : ∃ w1, w1 = w.alloc (.cells #[.int .i64 s.first, .slice B s.lines.length c] 24) := ⟨_, rfl⟩
  have hb1 : Below w.heap.size w w1 := by rw [hw1]; exact ext_alloc (Below.refl _ _) _
  have hB1 : Blk w1 w.heap.size 24 #[.int .i64 s.first, .slice B s.lines.length c] := by rw [hw1]; exact Blk.new _ _ _
  obtain ⟨w2, hw2⟩ : ∃ w2, w2 = w1.alloc (.cells #[.int .i64 s.first, .slice B s.lines.length c] 24) := ⟨_, rfl⟩
  have hb2 : Below w.heap.size w w2 := by rw [hw2]; exact ext_alloc hb1 _
  have hB2 : Blk w2 w.heap.size 24 #[.int .i64 s.first, .slice B s.lines.length c] := by rw [hw2]; exact hB1.alloc _
  have hN2 : Blk w2 (w.heap.size + 1) 24 #[.int .i64 s.first, .slice B s.lines.length c] := by
    have h := Blk.new w1 24 #[.int .i64 s.first, .slice B s.lines.length c]
    rw [← hw2, hw1, World.size_alloc] at h
    exact h
  have HL := Lib.hid (longG_any (some ⟨w.heap.size + 1, 0, none⟩) 1 [s] w2 (row_one hN2 (h.ext hb2)) (by simp [maxLen]))
  have hs : ∀ x ∈ s.lines, ∀ v ∈ x.vars, v.length ≤ maxLen := fun x hx v hv => by have := lens_sg hz x hx v hv; unfold maxLen; omega
  have HI := Lib.hid (fun (W : World) (hb : Below w.heap.size w W) => ris18_any s B c W (h.ext hb) hs)
  have HO := Lib.hid (fun B c W => own_any s B c W)
  have HE := Lib.hid (fun hi (W : World) (hb : Below w.heap.size w W) => encode_good s hi B c W (ht.ext hb) (h.ext hb))
  have HD := Lib.hid (fun hi A c W => decode_good s hi A c W)
  have HDs := Lib.hid (fun (W : World) (A : Option Addr) (c : Nat) (q : List UInt8) (hq : q.length = (encG s).length) (hi : isG s = true) (hb : Below w.heap.size w W) hA hc => decodeG_any q A c W (ht.ext hb) hA hc (by have := encG_len hi; omega))
  have HSp := Lib.hid (fun hi j hj c hc => spoiltG (s := s) hi (j := j) hj (c := c) hc)
  have HGd' := Lib.hid (fun hi => decG_enc (s := s) hi)
  have HSm := Lib.hid (fun A B c d W => same_good s A B c d W)
  have HLn := Lib.hid (fun hi => encG_len (s := s) hi)
  have HPo := Lib.hid (encG_pos s)
  have HB2 := Lib.hid hB2
  have Hb2 := Lib.hid hb2
  have Hw1 := Lib.hid hw1
  have Hw2 := Lib.hid hw2
  have Ht := Lib.hid ht
  have H := Lib.hid h
  have h0 := hB1.cell 0
  have h1 := hB1.cell 1
  have k0 := hB2.cell 0
  have k1 := hB2.cell 1
  simp only [List.getElem?_toArray, List.getElem?_cons_zero, List.getElem?_cons_succ] at h0 h1 k0 k1
  rw [hw1] at h0 h1
  unfold sgV at HI HO HE HD HSm ⊢
  rw [show ([s] : List Sg).length = 1 from rfl] at HL
  generalize hie : isG s = ig at *
  generalize encG s = q at *
  clear h hz hs hb1 hb2 hB1 hB2 hN2 hw1 hw2 ht
  go_enter Tryd.func3, Tryd.ntmps3
  go_wp2_with fail
  rw [← Hw1.out, ← Hw2.out]
  refine HL.out.mono ?_
  rintro e w' ⟨r, rfl, rfl⟩
  clear h0 h1 HL
  cases r with
  | true =>
    go_wp2
    go_ret
    exact ⟨rfl, Hb2.out⟩
  | false =>
    go_wp2_with fail
    refine (HO.out B c w2).mono ?_
    rintro e w3 ⟨rfl, hb3⟩
    have HX := Lib.hid (HI.out w3 (ext_trans Hb2.out hb3))
    have HB3 := Lib.hid (HB2.out.ext hb3)
    have Hb3 := Lib.hid (ext_trans Hb2.out hb3)
    clear hb3 k0 k1 HI
    go_wp2_with fail
    refine HX.out.mono ?_
    rintro e w4 ⟨rfl, hb4⟩
    have HB4 := Lib.hid (HB3.out.ext hb4)
    have Hb4 := Lib.hid (ext_trans Hb3.out hb4)
    clear hb4 HX
    cases ig with
    | false =>
      go_wp2
      go_ret
      exact ⟨rfl, Hb4.out⟩
    | true =>
      have HE2 := Lib.hid (HE.out rfl w4 Hb4.out)
      have HD2 := Lib.hid (fun A c W => HD.out rfl A c W)
      have hln := HLn.out rfl
      have hpo := HPo.out
      have HGd := Lib.hid (HGd'.out rfl)
      have HS2 := Lib.hid (fun j hj c hc => HSp.out rfl j hj c hc)
      have HDs2 := Lib.hid (fun W A c p hp => HDs.out W A c p hp rfl)
      have k0 := HB4.out.cell 0
      have k1 := HB4.out.cell 1
      simp only [List.getElem?_toArray, List.getElem?_cons_zero, List.getElem?_cons_succ] at k0 k1
      have hl0 : ((q.length : Int) == 0) = false := beq_eq_false_iff_ne.2 (by omega)
      have hqz : ¬ ((q.length : Int) = 0) := by omega
      have hl1 : (0 : Int) < (q.length : Int) := by omega
      have hl2 : (q.length : Int) ≤ 150000004 := by omega
      clear HE HD HLn HPo HSp HDs HGd'
      go_wp2_with fail
      refine HE2.out.mono ?_
      rintro e w5 ⟨A5, c5, rfl, hn5, hb5⟩
      have hc5 : q.length ≤ c5 := by have := Own.cap hn5; simpa using this
      have HX := Lib.hid (HD2.out A5 c5 w5 (Ht.out.ext (ext_trans Hb4.out hb5)) hn5.rd hc5)
      have Hn5 := Lib.hid hn5
      have Hb5 := Lib.hid (ext_trans Hb4.out hb5)
      have HB5 := Lib.hid (HB4.out.ext hb5)
      have Hc5 := Lib.hid hc5
      clear hn5 hb5 hc5 HE2 HD2 k0 k1
      go_wp2_with fail
      refine HX.out.mono ?_
      rintro e w6 ⟨B6, c6, rfl, hin, hb6⟩
      obtain ⟨w7, hw7⟩ : ∃ w7, w7 = w6.alloc (.cells #[.int .i64 s.first, .slice B6 s.lines.length c6] 24) := ⟨_, rfl⟩
      have hb67 : Below w6.heap.size w6 w7 := by rw [hw7]; exact ext_alloc (Below.refl _ _) _
      have hB7 : Blk w7 w6.heap.size 24 #[.int .i64 s.first, .slice B6 s.lines.length c6] := by rw [hw7]; exact Blk.new _ _ _
      have hb57 : Below w5.heap.size w5 w7 := ext_trans hb6 hb67
      have HK : Hid (∀ W, Below w7.heap.size w7 W → W.cell? ⟨w.heap.size, 0, none⟩ = some (.int .i64 s.first) ∧ W.cell? ⟨w.heap.size, 1, none⟩ = some (.slice B s.lines.length c) ∧ W.cell? ⟨w6.heap.size, 0, none⟩ = some (.int .i64 s.first) ∧ W.cell? ⟨w6.heap.size, 1, none⟩ = some (.slice B6 s.lines.length c6)) := Lib.hid (fun W hW =>
        ⟨((HB5.out.ext hb57).ext hW).cell 0, ((HB5.out.ext hb57).ext hW).cell 1, (hB7.ext hW).cell 0, (hB7.ext hW).cell 1⟩)
      have Hin := Lib.hid (hin.ext hb67)
      have Hb7 := Lib.hid (ext_trans Hb5.out hb57)
      have Hin0 := Lib.hid (H.out.ext Hb7.out)
      have Hn7 := Lib.hid (Hn5.out.ext hb57)
      have Hw7 := Lib.hid hw7
      clear hin hb6 hw7 hb67 hB7 hb57 HX
      go_wp2_with fail
      rw [← Hw7.out]
      refine wp_region_held_drew (S := fun W => W.cell? ⟨w.heap.size, 0, none⟩ = some (.int .i64 s.first) ∧ W.cell? ⟨w.heap.size, 1, none⟩ = some (.slice B s.lines.length c) ∧ W.cell? ⟨w6.heap.size, 0, none⟩ = some (.int .i64 s.first) ∧ W.cell? ⟨w6.heap.size, 1, none⟩ = some (.slice B6 s.lines.length c6)) (by kernel_rfl) ?_ (fun hHeld => ?_)
      · exact HK.out _ (by repeat (first | exact Below.refl _ _ | exact HE4.out | exact HE3.out | exact HE2.out | apply ext_drew | apply ext_drewN | apply ext_alloc))
      refine wpAnyH_take (i := 0) (v := ?_) (take_list rfl) (by kernel_rfl) (by kernel_rfl) (by kernel_rfl) (fun _ _ _ h => h) (Or.inl ⟨by rfl, ?_⟩) (by assumption) ?_
      rotate_left
      · intro w hSw
        try dsimp only at hSw
        first | (go_simp; done) | (go_simp; with_reducible rfl)
      try simp only [Act.put, List.setIfInBounds_toArray, List.set_cons_zero, List.set_cons_succ]
      refine wpAnyH_take (i := 1) (v := ?_) (take_list rfl) (by kernel_rfl) (by kernel_rfl) (by kernel_rfl) (fun _ _ _ h => h) (Or.inl ⟨by rfl, ?_⟩) (by assumption) ?_
      rotate_left
      · intro w hSw
        try dsimp only at hSw
        first | (go_simp; done) | (go_simp; with_reducible rfl)
      try simp only [Act.put, List.setIfInBounds_toArray, List.set_cons_zero, List.set_cons_succ]
      refine wpAnyH_take (i := 2) (v := ?_) (take_list rfl) (by kernel_rfl) (by kernel_rfl) (by kernel_rfl) (fun _ _ _ h => h) (Or.inl ⟨by rfl, ?_⟩) (by assumption) ?_
      rotate_left
      · intro w hSw
        try dsimp only at hSw
        first | (go_simp; done) | (go_simp; with_reducible rfl)
      try simp only [Act.put, List.setIfInBounds_toArray, List.set_cons_zero, List.set_cons_succ]
      refine wpAnyH_take (i := 3) (v := ?_) (take_list rfl) (by kernel_rfl) (by kernel_rfl) (by kernel_rfl) (fun _ _ _ h => h) (Or.inl ⟨by rfl, ?_⟩) (by assumption) ?_
      rotate_left
      · intro w hSw
        try dsimp only at hSw
        first | (go_simp; done) | (go_simp; with_reducible rfl)
      try simp only [Act.put, List.setIfInBounds_toArray, List.set_cons_zero, List.set_cons_succ]
      refine wpAnyH_take (i := 4) (v := ?_) (take_list rfl) (by kernel_rfl) (by kernel_rfl) (by kernel_rfl) (fun _ _ _ h => h) (Or.inl ⟨by rfl, ?_⟩) (by assumption) ?_
      rotate_left
      · intro w hSw
        try dsimp only at hSw
        first | (go_simp; done) | (go_simp; with_reducible rfl)
      try simp only [Act.put, List.setIfInBounds_toArray, List.set_cons_zero, List.set_cons_succ]
      refine wpAnyH_take (i := 5) (v := ?_) (take_list rfl) (by kernel_rfl) (by kernel_rfl) (by kernel_rfl) (fun _ _ _ h => h) (Or.inl ⟨by rfl, ?_⟩) (by assumption) ?_
      rotate_left
      · intro w hSw
        try dsimp only at hSw
        first | (go_simp; done) | (go_simp; with_reducible rfl)
      try simp only [Act.put, List.setIfInBounds_toArray, List.set_cons_zero, List.set_cons_succ]
      refine wpAnyH_take (i := 6) (v := ?_) (take_list rfl) (by kernel_rfl) (by kernel_rfl) (by kernel_rfl) (fun _ _ _ h => h) (Or.inl ⟨by rfl, ?_⟩) (by assumption) ?_
      rotate_left
      · intro w hSw
        try dsimp only at hSw
        first | (go_simp; done) | (go_simp; with_reducible rfl)
      try simp only [Act.put, List.setIfInBounds_toArray, List.set_cons_zero, List.set_cons_succ]
      refine wpAnyH_take (i := 7) (v := ?_) (take_list rfl) (by kernel_rfl) (by kernel_rfl) (by kernel_rfl) (fun _ _ _ h => h) (Or.inl ⟨by rfl, ?_⟩) (by assumption) ?_
      rotate_left
      · intro w hSw
        try dsimp only at hSw
        first | (go_simp; done) | (go_simp; with_reducible rfl)
      try simp only [Act.put, List.setIfInBounds_toArray, List.set_cons_zero, List.set_cons_succ]
      refine wpAnyH_take (i := 9) (v := ?_) (take_list rfl) (by kernel_rfl) (by kernel_rfl) (by kernel_rfl) (fun _ _ _ h => h) (Or.inl ⟨by rfl, ?_⟩) (by assumption) ?_
      rotate_left
      · intro w hSw
        try dsimp only at hSw
        first | (go_simp; done) | (go_simp; with_reducible rfl)
      try simp only [Act.put, List.setIfInBounds_toArray, List.set_cons_zero, List.set_cons_succ]
      refine wpAnyH_ready (rs := [8]) (by kernel_rfl) (by simp) ?_
      refine AllReadyH.cons (take_list rfl) (fun K hK => ?_) ?_
      · skip
        go_simp
        refine (HO.out B6 c6 _).mono ?_
        rintro e x1 ⟨rfl, hbx⟩
        dsimp only
        have HE2 : Hid (Below w7.heap.size w7 x1) := Lib.hid (ext_trans (by repeat (first | exact Below.refl _ _ | exact HE4.out | exact HE3.out | exact HE2.out | apply ext_drew | apply ext_drewN | apply ext_alloc)) hbx)
        clear hbx
        refine hK.out _ _ ?_ (fun hHeld => ?_)
        · try dsimp only
          exact HK.out _ (by repeat (first | exact Below.refl _ _ | exact HE4.out | exact HE3.out | exact HE2.out | apply ext_drew | apply ext_drewN | apply ext_alloc))
        clear hK K
        refine wpAnyH_ready (rs := [10]) (by kernel_rfl) (by simp) ?_
        refine AllReadyH.cons (take_list rfl) (fun K hK => ?_) ?_
        · skip
          go_simp
          refine (HO.out B c _).mono ?_
          rintro e x2 ⟨rfl, hbx⟩
          dsimp only
          have HE3 : Hid (Below w7.heap.size w7 x2) := Lib.hid (ext_trans (by repeat (first | exact Below.refl _ _ | exact HE4.out | exact HE3.out | exact HE2.out | apply ext_drew | apply ext_drewN | apply ext_alloc)) hbx)
          clear hbx
          refine hK.out _ _ ?_ (fun hHeld => ?_)
          · try dsimp only
            exact HK.out _ (by repeat (first | exact Below.refl _ _ | exact HE4.out | exact HE3.out | exact HE2.out | apply ext_drew | apply ext_drewN | apply ext_alloc))
          clear hK K
          refine wpAnyH_ready (rs := [11]) (by kernel_rfl) (by simp) ?_
          refine AllReadyH.cons (take_list rfl) (fun K hK => ?_) ?_
          · skip
            go_simp
            refine (HSm.out B6 B c6 c _ (Hin.out.ext (by repeat (first | exact Below.refl _ _ | exact HE4.out | exact HE3.out | exact HE2.out | apply ext_drew | apply ext_drewN | apply ext_alloc))) (Hin0.out.ext (by repeat (first | exact Below.refl _ _ | exact HE4.out | exact HE3.out | exact HE2.out | apply ext_drew | apply ext_drewN | apply ext_alloc)))).mono ?_
            rintro e x3 ⟨rfl, hbx⟩
            dsimp only
            have HE4 : Hid (Below w7.heap.size w7 x3) := Lib.hid (ext_trans (by repeat (first | exact Below.refl _ _ | exact HE4.out | exact HE3.out | exact HE2.out | apply ext_drew | apply ext_drewN | apply ext_alloc)) hbx)
            clear hbx
            refine hK.out _ _ ?_ (fun hHeld => ?_)
            · try dsimp only
              exact HK.out _ (by repeat (first | exact Below.refl _ _ | exact HE4.out | exact HE3.out | exact HE2.out | apply ext_drew | apply ext_drewN | apply ext_alloc))
            clear hK K
            refine wpAnyH_take (i := 12) (v := ?_) (take_list rfl) (by kernel_rfl) (by kernel_rfl) (by kernel_rfl) (fun _ _ _ h => h) (Or.inl ⟨by rfl, ?_⟩) (by assumption) ?_
            rotate_left
            · intro w hSw
              try dsimp only at hSw
              first | (go_simp; done) | (go_simp; with_reducible rfl)
            try simp only [Act.put, List.setIfInBounds_toArray, List.set_cons_zero, List.set_cons_succ]
            refine wpAnyH_take (i := 13) (v := ?_) (take_list rfl) (by kernel_rfl) (by kernel_rfl) (by kernel_rfl) (fun _ _ _ h => h) (Or.inl ⟨by rfl, ?_⟩) (by assumption) ?_
            rotate_left
            · intro w hSw
              try dsimp only at hSw
              first | (go_simp; done) | (go_simp; with_reducible rfl)
            try simp only [Act.put, List.setIfInBounds_toArray, List.set_cons_zero, List.set_cons_succ]
            refine wpAnyH_take (i := 14) (v := ?_) (take_list rfl) (by kernel_rfl) (by kernel_rfl) (by kernel_rfl) (fun _ _ _ h => h) (Or.inl ⟨by rfl, ?_⟩) (by assumption) ?_
            rotate_left
            · intro w hSw
              try dsimp only at hSw
              first | (go_simp; done) | (go_simp; with_reducible rfl)
            try simp only [Act.put, List.setIfInBounds_toArray, List.set_cons_zero, List.set_cons_succ]
            refine wpAnyH_take (i := 15) (v := ?_) (take_list rfl) (by kernel_rfl) (by kernel_rfl) (by kernel_rfl) (fun _ _ _ h => h) (Or.inl ⟨by rfl, ?_⟩) (by assumption) ?_
            rotate_left
            · intro w hSw
              try dsimp only at hSw
              first | (go_simp; done) | (go_simp; with_reducible rfl)
            try simp only [Act.put, List.setIfInBounds_toArray, List.set_cons_zero, List.set_cons_succ]
            refine wpAnyH_take (i := 16) (v := ?_) (take_list rfl) (by kernel_rfl) (by kernel_rfl) (by kernel_rfl) (fun _ _ _ h => h) (Or.inl ⟨by rfl, ?_⟩) (by assumption) ?_
            rotate_left
            · intro w hSw
              try dsimp only at hSw
              first | (go_simp; done) | (go_simp; with_reducible rfl)
            try simp only [Act.put, List.setIfInBounds_toArray, List.set_cons_zero, List.set_cons_succ]
            refine wpAnyH_take (i := 17) (v := ?_) (take_list rfl) (by kernel_rfl) (by kernel_rfl) (by kernel_rfl) (fun _ _ _ h => h) (Or.inl ⟨by rfl, ?_⟩) (by assumption) ?_
            rotate_left
            · intro w hSw
              try dsimp only at hSw
              first | (go_simp; done) | (go_simp; with_reducible rfl)
            try simp only [Act.put, List.setIfInBounds_toArray, List.set_cons_zero, List.set_cons_succ]
            refine wpAnyH_take (i := 18) (v := ?_) (take_list rfl) (by kernel_rfl) (by kernel_rfl) (by kernel_rfl) (fun _ _ _ h => h) (Or.inl ⟨by rfl, ?_⟩) (by assumption) ?_
            rotate_left
            · intro w hSw
              try dsimp only at hSw
              first | (go_simp; done) | (go_simp; with_reducible rfl)
            try simp only [Act.put, List.setIfInBounds_toArray, List.set_cons_zero, List.set_cons_succ]
            refine wpAnyH_done (by kernel_rfl) ?_ _
            have Hb8 := Lib.hid (ext_trans Hb7.out HE4.out)
            obtain ⟨m, hm, hm2⟩ := mask30 at_
            obtain ⟨K, hK⟩ : ∃ K, m % q.length = K := ⟨_, rfl⟩
            have hKl : K < q.length := by rw [← hK]; exact Nat.mod_lt _ hpo
            have hKi : (m : Int) % (q.length : Int) = (K : Int) := by rw [← hK]; rfl
            have hKt : (m : Int).tmod (q.length : Int) = (K : Int) := by rw [← hKi]; exact Int.tmod_eq_emod_of_nonneg (by omega)
            have hm3 : (m : Int) ≤ 1073741823 := by omega
            have hKp : (K : Int) < (q.length : Int) := by omega
            have HKl := Lib.hid hKl
            obtain ⟨g, hg, hgw, hcell, hfr, hput⟩ := new_put (Hn7.out.ext HE4.out) hKl
            subst hg
            have Hgw := Lib.hid (Nat.le_trans Hb4.out.size hgw)
            obtain ⟨x, hx⟩ : ∃ x, q[K]'hKl = x := ⟨_, rfl⟩
            rw [hx] at hcell
            have hset : q.set K x = q := by rw [← hx]; simp
            have hsp : ∀ z, x ≠ z → decG (q.set K z) = (⟨0, []⟩, 2) := fun z hz => HS2.out K hKl z (by rw [hx]; exact hz)
            clear hx
            by_cases hy0 : y = 0
            · subst hy0
              have hxs := xor_stays x
              have Hb9 : Hid (Below w.heap.size w (x3.setCell ⟨g, K, none⟩ (bv x))) := Lib.hid (Below.setCell Hb8.out Hgw.out _)
              have HX := Lib.hid (HDs2.out _ (some ⟨g, 0, none⟩) c5 (q.set K x) (List.length_set ..) Hb9.out (hput x) (by rw [List.length_set]; exact Hc5.out))
              rw [hset, HGd.out] at HX
              simp only at HX
              unfold sgV bv at HX
              unfold bv at hcell Hb9
              clear hput hK hKl hm2 hgw HDs2 HS2 hset hsp
              go_wp2_with fail
              refine HX.out.mono ?_
              rintro e w10 ⟨B10, c10, rfl, hin10, hb10⟩
              have Hb10 : Hid (Below w.heap.size w (w10.alloc (.cells #[.int .i64 s.first, .slice B10 s.lines.length c10] 24))) := Lib.hid (ext_alloc (ext_trans Hb9.out hb10) _)
              clear hin10 hb10 HX hcell hfr
              go_wp2_with fail
              refine (known18_any _ (Ht.out.ext Hb10.out)).mono ?_
              rintro e w12 ⟨rfl, hb⟩
              have Hb12 := Lib.hid (ext_trans Hb10.out hb)
              clear hb
              go_wp2
              go_ret
              exact ⟨rfl, Hb12.out⟩
            · obtain ⟨z, hz1, hz2⟩ := xor_turns x y hy.1 hy.2 hy0
              have hyb : (y == 0) = false := beq_eq_false_iff_ne.2 hy0
              have Hb9 : Hid (Below w.heap.size w (x3.setCell ⟨g, K, none⟩ (bv z))) := Lib.hid (Below.setCell Hb8.out Hgw.out _)
              have HX := Lib.hid (HDs2.out _ (some ⟨g, 0, none⟩) c5 (q.set K z) (List.length_set ..) Hb9.out (hput z) (by rw [List.length_set]; exact Hc5.out))
              rw [hsp z hz2, List.length_set] at HX
              simp only at HX
              unfold sgV bv at HX
              simp only [List.length_nil] at HX
              unfold bv at hcell Hb9
              clear hput hK hKl hm2 hgw HDs2 HS2 hz2 hset hsp
              go_wp2_with fail
              refine HX.out.mono ?_
              rintro e w10 ⟨B10, c10, rfl, hin10, hb10⟩
              have hX := Blk.new w10 24 #[.int .i64 0, .slice B10 0 c10]
              have a1 := hX.cell 1
              simp only [List.getElem?_toArray, List.getElem?_cons_zero, List.getElem?_cons_succ] at a1
              have Hb10 : Hid (Below w.heap.size w (w10.alloc (.cells #[.int .i64 0, .slice B10 0 c10] 24))) := Lib.hid (ext_alloc (ext_trans Hb9.out hb10) _)
              clear hX hin10 hb10 HX hcell hfr
              go_wp2_with fail
              refine (known18_any _ (Ht.out.ext Hb10.out)).mono ?_
              rintro e w12 ⟨rfl, hb⟩
              have Hb12 := Lib.hid (ext_trans Hb10.out hb)
              clear hb
              go_wp2
              go_ret
              exact ⟨rfl, Hb12.out⟩
          exact AllReadyH.nil
        exact AllReadyH.nil
      exact AllReadyH.nil
end Go.Proofs.YtpjgkacekelkdaaDoor
