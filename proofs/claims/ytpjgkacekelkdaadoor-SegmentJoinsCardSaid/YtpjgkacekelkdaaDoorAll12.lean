/-
  Texts of this claim, joined (part 12): contracts and lemmas that the last text goes by. No statement of the seat is proved here.
-/
import Derived.Test.YtpjgkacekelkdaaDoorAll11
import Derived.Deep.QuietTactic
import Derived.Deep.RegionHeld3
set_option linter.unusedVariables false
set_option linter.unusedSimpArgs false
/-
  Are two lines one, are two segments one (reference). No statement of the seat is proved here.
-/
namespace Go.Proofs.YtpjgkacekelkdaaDoor
open Go Go.RowKit
set_option maxRecDepth 100000

set_option maxHeartbeats 4000000 in
theorem rline_any (a b : Ln) (A B : Option Addr) (c d : Nat) (w : World) (ha : LnIn w a A c) (hb : LnIn w b B d) :
    Calls Tryd.prog 29 #[lnV a A c, lnV b B d] w fun e w' => ∃ r, e = .returned (.bool r) ∧ (r = true ↔ a = b) ∧ Below w.heap.size w w' := by
  obtain ⟨w0, hw0⟩ : ∃ w0, w0 = (w.alloc (.cells #[.int .i64 a.id, .slice A a.vars.length c] 47)).alloc (.cells #[.int .i64 b.id, .slice B b.vars.length d] 47) := ⟨_, rfl⟩
  have Hb0 : Hid (Below w.heap.size w w0) := Lib.hid (by rw [hw0]; exact ext2 _ _ _)
  have HX : Hid (Blk w0 w.heap.size 47 #[.int .i64 a.id, .slice A a.vars.length c]) := Lib.hid (by rw [hw0]; exact (Blk.new _ _ _).alloc _)
  have HY : Hid (Blk w0 (w.heap.size + 1) 47 #[.int .i64 b.id, .slice B b.vars.length d]) := Lib.hid (by rw [hw0, ← World.size_alloc w (.cells #[.int .i64 a.id, .slice A a.vars.length c] 47)]; exact Blk.new _ _ _)
  have Hw0 := Lib.hid hw0
  have hl1 := Nat.le_trans ha.le ha.cap
  have hl2 := Nat.le_trans hb.le hb.cap
  unfold maxLen at hl1 hl2
  have hli1 : (a.vars.length : Int) ≤ 9223372036854775807 := by omega
  have hli2 : (b.vars.length : Int) ≤ 9223372036854775807 := by omega
  have HA := Lib.hid ha.rd
  have HB := Lib.hid hb.rd
  have HE : Hid (a.id = b.id → a.vars = b.vars → a = b) := Lib.hid Ln.ext'
  by_cases h1 : a.id = b.id
  · by_cases h2 : a.vars.length = b.vars.length
    · have H2 := Lib.hid h2
      have H1 := Lib.hid h1
      unfold lnV
      rw [← h2]
      rw [← h2] at HY
      rw [← h1]
      rw [← h1] at HY
      rw [← h1, ← h2] at Hw0
      have hN : Hid (∀ k (hk : k < a.vars.length) (hk2 : k < b.vars.length), a.vars[k] ≠ b.vars[k] → a ≠ b) := Lib.hid (fun k hk hk2 hne e => hne (by simp only [e]))
      have hV : Hid (a.vars.take a.vars.length = b.vars.take a.vars.length → a = b) := Lib.hid (fun h => by
        rw [List.take_length, h2, List.take_length] at h
        exact Ln.ext' h1 h)
      generalize a.id = ai at *
      clear h1 h2 ha hb hw0 hl1 hl2 hli2 HE H1
      go_enter Tryd.func29, Tryd.ntmps29
      go_wp2
      rw [← Hw0.out]
      go_loopw [5] (fun i wr => ∃ k : Nat, k ≤ a.vars.length ∧ i = .int .i64 (k : Int) ∧ Hid (a.vars.take k = b.vars.take k) ∧ Hid (Below w0.heap.size w0 wr)) (fun i _ => a.vars.length - (intOf i).toNat)
      case atStart => exact ⟨0, Nat.zero_le _, rfl, Lib.hid (by simp), Lib.hid (Below.refl _ _)⟩
      case round =>
        obtain ⟨k, hk, rfl, Heq, Hbw⟩ := hrel
        have hX := HX.out.ext Hbw.out
        have hY := HY.out.ext Hbw.out
        have x1 := hX.cell 1
        have y1 := hY.cell 1
        simp only [List.getElem?_toArray, List.getElem?_cons_zero, List.getElem?_cons_succ] at x1 y1
        have Hbz := Lib.hid (ext_trans Hb0.out Hbw.out)
        clear hX hY
        by_cases hlt : k < a.vars.length
        · have hlt2 : k < b.vars.length := by have := H2.out; omega
          have hki : (k : Int) < (a.vars.length : Int) := by omega
          obtain ⟨ad, rfl, q1⟩ := rd_str (HA.out.ext Hbz.out) hlt
          obtain ⟨ad2, rfl, q2⟩ := rd_str (HB.out.ext Hbz.out) hlt2
          obtain ⟨Y, Z, e1, e2, hc⟩ := str_cases a.vars[k] b.vars[k]
          rw [e1] at q1
          rw [e2] at q2
          clear e1 e2
          rcases hc with ⟨he, rfl⟩ | ⟨hne, hf⟩
          · have He := Lib.hid he
            clear he
            go_wp2_with fail
            go_quiet (fail)
            go_wp2
            go_roundw
            case rel => exact ⟨k + 1, by omega, by go_num, Lib.hid (by rw [List.take_succ_eq_append_getElem hlt, List.take_succ_eq_append_getElem hlt2, Heq.out, He.out]), Lib.hid (ext_drewN Hbw.out _)⟩
            case measure => simp [intOf]; omega
          · have Hd := Lib.hid (hN.out k hlt hlt2 hne)
            clear hne
            go_wp2_with fail
            go_quiet (fail)
            go_wp2
            go_ret
            exact ⟨false, rfl, by simp [Hd.out], ext_drewN Hbz.out _⟩
        · obtain rfl : k = a.vars.length := by omega
          have Hd := Lib.hid (hV.out Heq.out)
          clear hV
          go_wp2
          go_ret
          exact ⟨true, rfl, by simp [Hd.out], Hbz.out⟩
    · have hne : a ≠ b := fun e => h2 (by rw [e])
      have Hne := Lib.hid hne
      have hli : ¬ (a.vars.length : Int) = (b.vars.length : Int) := by omega
      unfold lnV
      rw [← h1]
      generalize a.id = ai at *
      generalize a.vars.length = n at *
      generalize b.vars.length = m at *
      clear hne h1 h2 ha hb hw0 hl1 hl2 HX HY HE HA HB
      go_enter Tryd.func29, Tryd.ntmps29
      go_wp2
      go_ret
      exact ⟨false, rfl, by simp [Hne.out], ext2 _ _ _⟩
  · have hne : a ≠ b := fun e => h1 (by rw [e])
    have Hne := Lib.hid hne
    unfold lnV
    generalize a.id = ai at *
    generalize b.id = bi at *
    generalize a.vars.length = n at *
    generalize b.vars.length = m at *
    clear hne ha hb hw0 hl1 hl2 HX HY HE HA HB
    go_enter Tryd.func29, Tryd.ntmps29
    go_wp2
    go_ret
    exact ⟨false, rfl, by simp [Hne.out], ext2 _ _ _⟩

set_option maxHeartbeats 4000000 in
theorem own_any (s : Sg) (B : Option Addr) (c : Nat) (w : World) :
    Calls Tryd.prog 8 #[sgV s B c] w fun e w' => e = .returned (sgV s B c) ∧ Below w.heap.size w w' := by
  unfold sgV
  generalize s.first = f
  generalize s.lines.length = n
  have hR := Blk.new (w.alloc (.cells #[.int .i64 f, .slice B n c] 24)) 27 #[.int .i64 f, .slice B n c]
  rw [World.size_alloc] at hR
  have r0 := hR.cell 0
  have r1 := hR.cell 1
  simp only [List.getElem?_toArray, List.getElem?_cons_zero, List.getElem?_cons_succ] at r0 r1
  clear hR
  go_enter Tryd.func8, Tryd.ntmps8
  go_wp2
  exact bodyPost_ret (v := .agg #[.int .i64 f, .slice B n c]) (by simp [results, Tryd.results8, go_sem, r0, r1]) rfl ⟨rfl, ext2 _ _ _⟩


set_option maxHeartbeats 16000000 in
theorem rsame_any (a b : Sg) (A B : Option Addr) (c d : Nat) (w : World) (ha : SgIn w a A c) (hb : SgIn w b B d) :
    Calls Tryd.prog 11 #[sgV a A c, sgV b B d] w fun e w' => ∃ r, e = .returned (.bool r) ∧ (r = true ↔ a = b) ∧ Below w.heap.size w w' := by
  obtain ⟨w0, hw0⟩ : ∃ w0, w0 = (w.alloc (.cells #[.int .i64 a.first, .slice A a.lines.length c] 27)).alloc (.cells #[.int .i64 b.first, .slice B b.lines.length d] 27) := ⟨_, rfl⟩
  have Hb0 : Hid (Below w.heap.size w w0) := Lib.hid (by rw [hw0]; exact ext2 _ _ _)
  have HX : Hid (Blk w0 w.heap.size 27 #[.int .i64 a.first, .slice A a.lines.length c]) := Lib.hid (by rw [hw0]; exact (Blk.new _ _ _).alloc _)
  have HY : Hid (Blk w0 (w.heap.size + 1) 27 #[.int .i64 b.first, .slice B b.lines.length d]) := Lib.hid (by rw [hw0, ← World.size_alloc w (.cells #[.int .i64 a.first, .slice A a.lines.length c] 27)]; exact Blk.new _ _ _)
  have Hw0 := Lib.hid hw0
  have hl1 := Nat.le_trans ha.le ha.cap
  have hl2 := Nat.le_trans hb.le hb.cap
  unfold maxLen at hl1 hl2
  have hli1 : (a.lines.length : Int) ≤ 9223372036854775807 := by omega
  have hli2 : (b.lines.length : Int) ≤ 9223372036854775807 := by omega
  have HA := Lib.hid ha.row
  have HB := Lib.hid hb.row
  have HE : Hid (a.first = b.first → a.lines = b.lines → a = b) := Lib.hid Sg.ext'
  by_cases h1 : a.first = b.first
  · by_cases h2 : a.lines.length = b.lines.length
    · have H2 := Lib.hid h2
      unfold sgV
      rw [← h2]
      rw [← h2] at HY
      rw [← h1]
      rw [← h1] at HY
      rw [← h1, ← h2] at Hw0
      have hN : Hid (∀ k (hk : k < a.lines.length) (hk2 : k < b.lines.length), a.lines[k] ≠ b.lines[k] → a ≠ b) := Lib.hid (fun k hk hk2 hne e => hne (by simp only [e]))
      have hV : Hid (a.lines.take a.lines.length = b.lines.take a.lines.length → a = b) := Lib.hid (fun h => by
        rw [List.take_length, h2, List.take_length] at h
        exact Sg.ext' h1 h)
      generalize a.first = ai at *
      clear h1 h2 ha hb hw0 hl1 hl2 hli2 HE
      go_enter Tryd.func11, Tryd.ntmps11
      go_wp2
      rw [← Hw0.out]
      go_loopw [5] (fun i wr => ∃ k : Nat, k ≤ a.lines.length ∧ i = .int .i64 (k : Int) ∧ Hid (a.lines.take k = b.lines.take k) ∧ Hid (Below w0.heap.size w0 wr)) (fun i _ => a.lines.length - (intOf i).toNat)
      case atStart => exact ⟨0, Nat.zero_le _, rfl, Lib.hid (by simp), Lib.hid (Below.refl _ _)⟩
      case round =>
        obtain ⟨k, hk, rfl, Heq, Hbw⟩ := hrel
        have hX := HX.out.ext Hbw.out
        have hY := HY.out.ext Hbw.out
        have x1 := hX.cell 1
        simp only [List.getElem?_toArray, List.getElem?_cons_zero, List.getElem?_cons_succ] at x1
        have Hbz := Lib.hid (ext_trans Hb0.out Hbw.out)
        by_cases hlt : k < a.lines.length
        · have hlt2 : k < b.lines.length := by have := H2.out; omega
          have hki : (k : Int) < (a.lines.length : Int) := by omega
          obtain ⟨gA, oA, A1, c1, rfl, u0, u1, hin1⟩ := row_ln (HA.out.ext IsLn.lasts Hbz.out) hlt
          obtain ⟨gB, oB, B1, d1, rfl, v0, v1, hin2⟩ := row_ln (HB.out.ext IsLn.lasts Hbz.out) hlt2
          have HK : Hid (∀ W, Below wr.heap.size wr W → W.cell? ⟨w.heap.size, 1, none⟩ = some (.slice (some ⟨gA, oA, none⟩) a.lines.length c) ∧ W.cell? ⟨w.heap.size + 1, 1, none⟩ = some (.slice (some ⟨gB, oB, none⟩) a.lines.length d) ∧
              W.cell? ⟨gA, oA + k * 2, none⟩ = some (.int .i64 a.lines[k].id) ∧ W.cell? ⟨gA, oA + k * 2 + 1, none⟩ = some (.slice A1 a.lines[k].vars.length c1) ∧
              W.cell? ⟨gB, oB + k * 2, none⟩ = some (.int .i64 b.lines[k].id) ∧ W.cell? ⟨gB, oB + k * 2 + 1, none⟩ = some (.slice B1 b.lines[k].vars.length d1)) := Lib.hid (fun W hW =>
            ⟨(hX.ext hW).cell 1, (hY.ext hW).cell 1, cell_only u0 (Only.of_ext (S := fun _ => False) hW) (fun h => h), cell_only u1 (Only.of_ext (S := fun _ => False) hW) (fun h => h), cell_only v0 (Only.of_ext (S := fun _ => False) hW) (fun h => h), cell_only v1 (Only.of_ext (S := fun _ => False) hW) (fun h => h)⟩)
          have HL : Hid (∀ W, Below wr.heap.size wr W → Calls Tryd.prog 29 #[lnV a.lines[k] A1 c1, lnV b.lines[k] B1 d1] W fun e w' => ∃ r, e = .returned (.bool r) ∧ (r = true ↔ a.lines[k] = b.lines[k]) ∧ Below W.heap.size W w') := Lib.hid (fun W hW => rline_any _ _ A1 B1 c1 d1 W (hin1.ext hW) (hin2.ext hW))
          have HT : Hid (a.lines[k] = b.lines[k] → a.lines.take (k + 1) = b.lines.take (k + 1)) := Lib.hid (fun h => by rw [List.take_succ_eq_append_getElem hlt, List.take_succ_eq_append_getElem hlt2, Heq.out, h])
          have HF := Lib.hid (hN.out k hlt hlt2)
          unfold lnV at HL
          clear hX hY x1 u0 u1 v0 v1 hin1 hin2 hN hV
          generalize a.lines[k] = la at *
          generalize b.lines[k] = lb at *
          obtain ⟨li, lv⟩ := la
          obtain ⟨mi, mv⟩ := lb
          dsimp only at HL HK
          have x1 := (HK.out wr (Below.refl _ _)).1
          go_wp2_with fail
          refine wp_region_held_drew (S := fun W => W.cell? ⟨w.heap.size, 1, none⟩ = some (.slice (some ⟨gA, oA, none⟩) a.lines.length c) ∧ W.cell? ⟨w.heap.size + 1, 1, none⟩ = some (.slice (some ⟨gB, oB, none⟩) a.lines.length d) ∧ W.cell? ⟨gA, oA + k * 2, none⟩ = some (.int .i64 li) ∧ W.cell? ⟨gA, oA + k * 2 + 1, none⟩ = some (.slice A1 lv.length c1) ∧ W.cell? ⟨gB, oB + k * 2, none⟩ = some (.int .i64 mi) ∧ W.cell? ⟨gB, oB + k * 2 + 1, none⟩ = some (.slice B1 mv.length d1)) (by kernel_rfl) ?_ (fun hHeld => ?_)
          · exact HK.out _ (by repeat (first | exact Below.refl _ _ | exact HE.out | apply ext_drew | apply ext_drewN | apply ext_alloc))
          refine wpAnyH_take (i := 0) (v := ?_) (take_list rfl) (by kernel_rfl) (by kernel_rfl) (by kernel_rfl) (fun _ _ _ h => h) (Or.inl ⟨by rfl, ?_⟩) (by assumption) ?_
          rotate_left
          · intro w hSw
            try dsimp only at hSw
            first | (go_simp; done) | (go_simp; with_reducible rfl)
          try simp only [Act.put, List.setIfInBounds_toArray, List.set_cons_zero, List.set_cons_succ]
          refine wpAnyH_take (i := 1) (v := ?_) (take_list rfl) (by kernel_rfl) (by kernel_rfl) (by kernel_rfl) (fun _ _ _ h => h) (Or.inl ⟨by rfl, ?_⟩) (by assumption) ?_
          rotate_left
          · intro w hSw
            try dsimp only at hSw
            first | (go_simp; done) | (go_simp; with_reducible rfl)
          try simp only [Act.put, List.setIfInBounds_toArray, List.set_cons_zero, List.set_cons_succ]
          refine wpAnyH_take (i := 2) (v := ?_) (take_list rfl) (by kernel_rfl) (by kernel_rfl) (by kernel_rfl) (fun _ _ _ h => h) (Or.inl ⟨by rfl, ?_⟩) (by assumption) ?_
          rotate_left
          · intro w hSw
            try dsimp only at hSw
            first | (go_simp; done) | (go_simp; with_reducible rfl)
          try simp only [Act.put, List.setIfInBounds_toArray, List.set_cons_zero, List.set_cons_succ]
          refine wpAnyH_take (i := 3) (v := ?_) (take_list rfl) (by kernel_rfl) (by kernel_rfl) (by kernel_rfl) (fun _ _ _ h => h) (Or.inl ⟨by rfl, ?_⟩) (by assumption) ?_
          rotate_left
          · intro w hSw
            try dsimp only at hSw
            first | (go_simp; done) | (go_simp; with_reducible rfl)
          try simp only [Act.put, List.setIfInBounds_toArray, List.set_cons_zero, List.set_cons_succ]
          refine wpAnyH_take (i := 4) (v := ?_) (take_list rfl) (by kernel_rfl) (by kernel_rfl) (by kernel_rfl) (fun _ _ _ h => h) (Or.inl ⟨by rfl, ?_⟩) (by assumption) ?_
          rotate_left
          · intro w hSw
            try dsimp only at hSw
            first | (go_simp; done) | (go_simp; with_reducible rfl)
          try simp only [Act.put, List.setIfInBounds_toArray, List.set_cons_zero, List.set_cons_succ]
          refine wpAnyH_take (i := 5) (v := ?_) (take_list rfl) (by kernel_rfl) (by kernel_rfl) (by kernel_rfl) (fun _ _ _ h => h) (Or.inl ⟨by rfl, ?_⟩) (by assumption) ?_
          rotate_left
          · intro w hSw
            try dsimp only at hSw
            first | (go_simp; done) | (go_simp; with_reducible rfl)
          try simp only [Act.put, List.setIfInBounds_toArray, List.set_cons_zero, List.set_cons_succ]
          refine wpAnyH_take (i := 6) (v := ?_) (take_list rfl) (by kernel_rfl) (by kernel_rfl) (by kernel_rfl) (fun _ _ _ h => h) (Or.inl ⟨by rfl, ?_⟩) (by assumption) ?_
          rotate_left
          · intro w hSw
            try dsimp only at hSw
            first | (go_simp; done) | (go_simp; with_reducible rfl)
          try simp only [Act.put, List.setIfInBounds_toArray, List.set_cons_zero, List.set_cons_succ]
          refine wpAnyH_take (i := 7) (v := ?_) (take_list rfl) (by kernel_rfl) (by kernel_rfl) (by kernel_rfl) (fun _ _ _ h => h) (Or.inl ⟨by rfl, ?_⟩) (by assumption) ?_
          rotate_left
          · intro w hSw
            try dsimp only at hSw
            first | (go_simp; done) | (go_simp; with_reducible rfl)
          try simp only [Act.put, List.setIfInBounds_toArray, List.set_cons_zero, List.set_cons_succ]
          refine wpAnyH_take (i := 8) (v := ?_) (take_list rfl) (by kernel_rfl) (by kernel_rfl) (by kernel_rfl) (fun _ _ _ h => h) (Or.inl ⟨by rfl, ?_⟩) (by assumption) ?_
          rotate_left
          · intro w hSw
            try dsimp only at hSw
            first | (go_simp; done) | (go_simp; with_reducible rfl)
          try simp only [Act.put, List.setIfInBounds_toArray, List.set_cons_zero, List.set_cons_succ]
          refine wpAnyH_take (i := 9) (v := ?_) (take_list rfl) (by kernel_rfl) (by kernel_rfl) (by kernel_rfl) (fun _ _ _ h => h) (Or.inl ⟨by rfl, ?_⟩) (by assumption) ?_
          rotate_left
          · intro w hSw
            try dsimp only at hSw
            first | (go_simp; done) | (go_simp; with_reducible rfl)
          try simp only [Act.put, List.setIfInBounds_toArray, List.set_cons_zero, List.set_cons_succ]
          refine wpAnyH_ready (rs := [10]) (by kernel_rfl) (by simp) ?_
          refine AllReadyH.cons (take_list rfl) (fun K hK => ?_) ?_
          · skip
            go_simp
            refine (HL.out _ (by repeat (first | exact Below.refl _ _ | exact HE.out | apply ext_drew | apply ext_drewN | apply ext_alloc))).mono ?_
            rintro e x1 ⟨r, rfl, hr, hbx⟩
            dsimp only
            have HE : Hid (Below wr.heap.size wr x1) := Lib.hid (ext_trans (by repeat (first | exact Below.refl _ _ | apply ext_drew | apply ext_drewN)) hbx)
            have Hr := Lib.hid hr
            clear hr hbx
            refine hK.out _ _ ?_ (fun hHeld => ?_)
            · try dsimp only
              exact HK.out _ (by repeat (first | exact Below.refl _ _ | exact HE.out | apply ext_drew | apply ext_drewN | apply ext_alloc))
            clear hK K
            refine wpAnyH_take (i := 11) (v := ?_) (take_list rfl) (by kernel_rfl) (by kernel_rfl) (by kernel_rfl) (fun _ _ _ h => h) (Or.inl ⟨by rfl, ?_⟩) (by assumption) ?_
            rotate_left
            · intro w hSw
              try dsimp only at hSw
              first | (go_simp; done) | (go_simp; with_reducible rfl)
            try simp only [Act.put, List.setIfInBounds_toArray, List.set_cons_zero, List.set_cons_succ]
            refine wpAnyH_done (by kernel_rfl) ?_ _
            cases r with
            | true =>
              have Hab := Lib.hid (HT.out (Hr.out.1 rfl))
              go_wp2
              go_roundw
              case rel => exact ⟨k + 1, by omega, by go_num, Hab, Lib.hid (ext_trans Hbw.out HE.out)⟩
              case measure => simp [intOf]; omega
            | false =>
              have Hab := Lib.hid (HF.out (fun h => by have := Hr.out.2 h; cases this))
              go_wp2
              go_ret
              exact ⟨false, rfl, by simp [Hab.out], ext_trans Hbz.out HE.out⟩
          exact AllReadyH.nil
        · obtain rfl : k = a.lines.length := by omega
          have Hd := Lib.hid (hV.out Heq.out)
          clear hV hX hY
          go_wp2
          go_ret
          exact ⟨true, rfl, by simp [Hd.out], Hbz.out⟩
    · have hne : a ≠ b := fun e => h2 (by rw [e])
      have Hne := Lib.hid hne
      have hli : ¬ (a.lines.length : Int) = (b.lines.length : Int) := by omega
      unfold sgV
      rw [← h1]
      generalize a.first = ai at *
      generalize a.lines.length = n at *
      generalize b.lines.length = m at *
      clear hne h1 h2 ha hb hw0 hl1 hl2 HX HY HE HA HB
      go_enter Tryd.func11, Tryd.ntmps11
      go_wp2
      go_ret
      exact ⟨false, rfl, by simp [Hne.out], ext2 _ _ _⟩
  · have hne : a ≠ b := fun e => h1 (by rw [e])
    have Hne := Lib.hid hne
    unfold sgV
    generalize a.first = ai at *
    generalize b.first = bi at *
    generalize a.lines.length = n at *
    generalize b.lines.length = m at *
    clear hne ha hb hw0 hl1 hl2 HX HY HE HA HB
    go_enter Tryd.func11, Tryd.ntmps11
    go_wp2
    go_ret
    exact ⟨false, rfl, by simp [Hne.out], ext2 _ _ _⟩
end Go.Proofs.YtpjgkacekelkdaaDoor

/-
  May a segment be (reference). No statement of the seat is proved here.
-/
namespace Go.Proofs.YtpjgkacekelkdaaDoor
open Go Go.RowKit
set_option maxRecDepth 100000

theorem isG_false {b : Sg} {l : Ln} (hl : l ∈ b.lines) (h : l.id < 0 ∨ 64 ≤ l.id ∨ 64 < l.vars.length ∨ ∃ v ∈ l.vars, 256 < v.length) : isG b = false := by
  cases hi : isG b with
  | false => rfl
  | true =>
    obtain ⟨h1, h2, h3, h4⟩ := ((isG_iff b).1 hi).2 l hl
    rcases h with h | h | h | ⟨v, hv, h⟩
    · omega
    · omega
    · omega
    · have := h4 v hv; omega
theorem isG_true {b : Sg} (h1 : 0 ≤ b.first) (h2 : b.first ≤ 34359738368) (h3 : 1 ≤ b.lines.length) (h4 : b.lines.length ≤ 512) (h : ∀ k (hk : k < b.lines.length), 0 ≤ b.lines[k].id ∧ b.lines[k].id < 64 ∧ b.lines[k].vars.length ≤ 64 ∧ ∀ v ∈ b.lines[k].vars, v.length ≤ 256) : isG b = true :=
  (isG_iff b).2 ⟨⟨h1, h2, h3, h4⟩, fun l hl => by obtain ⟨k, hk, rfl⟩ := List.mem_iff_getElem.1 hl; exact h k hk⟩

set_option maxHeartbeats 8000000 in
theorem ris18_any (b : Sg) (B : Option Addr) (c : Nat) (w : World) (h : SgIn w b B c) (hs : ∀ x ∈ b.lines, ∀ v ∈ x.vars, v.length ≤ maxLen) :
    Calls Tryd.prog 7 #[sgV b B c] w fun e w' => e = .returned (.bool (isG b)) ∧ Below w.heap.size w w' := by
  obtain ⟨w0, hw0⟩ : ∃ w0, w0 = w.alloc (.cells #[.int .i64 b.first, .slice B b.lines.length c] 27) := ⟨_, rfl⟩
  have Hx : Hid (Below w.heap.size w (w.alloc (.cells #[.int .i64 b.first, .slice B b.lines.length c] 27))) := Lib.hid (ext_alloc (Below.refl _ _) _)
  have Hb0 : Hid (Below w.heap.size w w0) := Lib.hid (by rw [hw0]; exact ext_alloc (Below.refl _ _) _)
  have HX : Hid (Blk w0 w.heap.size 27 #[.int .i64 b.first, .slice B b.lines.length c]) := Lib.hid (by rw [hw0]; exact Blk.new _ _ _)
  have Hw0 := Lib.hid hw0
  have hl := Nat.le_trans h.le h.cap
  unfold maxLen at hl
  have hli : (b.lines.length : Int) ≤ 9223372036854775807 := by omega
  obtain ⟨i1, i2⟩ := h.int
  have HA := Lib.hid (h.row.ext IsLn.lasts Hb0.out)
  have Hs := Lib.hid hs
  have HNo : Hid (0 ≤ b.first ∧ b.first ≤ 34359738368 ∧ 1 ≤ b.lines.length ∧ b.lines.length ≤ 512 ∨ isG b = false) := Lib.hid (by
    cases hi : isG b with
    | false => exact .inr rfl
    | true => exact .inl ((isG_iff b).1 hi).1)
  have HF : Hid (∀ k (hk : k < b.lines.length), (b.lines[k].id < 0 ∨ 64 ≤ b.lines[k].id ∨ 64 < b.lines[k].vars.length ∨ ∃ v ∈ b.lines[k].vars, 256 < v.length) → isG b = false) := Lib.hid (fun k hk h => isG_false (List.getElem_mem hk) h)
  have HT : Hid (0 ≤ b.first → b.first ≤ 34359738368 → 1 ≤ b.lines.length → b.lines.length ≤ 512 → (∀ k (hk : k < b.lines.length), 0 ≤ b.lines[k].id ∧ b.lines[k].id < 64 ∧ b.lines[k].vars.length ≤ 64 ∧ ∀ v ∈ b.lines[k].vars, v.length ≤ 256) → isG b = true) := Lib.hid isG_true
  unfold sgV
  generalize isG b = r at *
  generalize b.first = f at *
  obtain ⟨_, ls⟩ := b
  dsimp only at *
  clear hl h hs hw0
  by_cases h1 : 0 ≤ f
  · have d1 : decide (f < 0) = false := decide_eq_false (by omega)
    by_cases h2 : f ≤ 34359738368
    · have d2 : decide (34359738368 < f) = false := decide_eq_false (by omega)
      by_cases h3 : 1 ≤ ls.length
      · have d3 : decide ((ls.length : Int) < 1) = false := decide_eq_false (by omega)
        by_cases h4 : ls.length ≤ 512
        · have d4 : decide (512 < (ls.length : Int)) = false := decide_eq_false (by omega)
          have HT2 := Lib.hid (HT.out h1 h2 h3 h4)
          clear HT HNo h1 h2 h3 hli
          have hli : (ls.length : Int) ≤ 512 := by omega
          go_enter Tryd.func7, Tryd.ntmps7
          go_wp2
          rw [← Hw0.out]
          go_loopw [3] (fun i wr => ∃ k : Nat, k ≤ ls.length ∧ i = .int .i64 (k : Int) ∧ Hid (∀ j (hj : j < ls.length), j < k → 0 ≤ ls[j].id ∧ ls[j].id < 64 ∧ ls[j].vars.length ≤ 64 ∧ ∀ v ∈ ls[j].vars, v.length ≤ 256) ∧ Hid (Below w0.heap.size w0 wr)) (fun i _ => ls.length - (intOf i).toNat)
          case atStart => exact ⟨0, Nat.zero_le _, rfl, Lib.hid (fun j _ h => absurd h (by omega)), Lib.hid (Below.refl _ _)⟩
          case round =>
            obtain ⟨k, hk, rfl, Hno, Hbw⟩ := hrel
            have hX := HX.out.ext Hbw.out
            have x1 := hX.cell 1
            simp only [List.getElem?_toArray, List.getElem?_cons_zero, List.getElem?_cons_succ] at x1
            have Hbz := Lib.hid (ext_trans Hb0.out Hbw.out)
            clear hX
            by_cases hlt : k < ls.length
            · have hki : (k : Int) < (ls.length : Int) := by omega
              obtain ⟨gA, oA, A1, c1, rfl, u0, u1, hin⟩ := row_ln (HA.out.ext IsLn.lasts Hbw.out) hlt
              have HFk := Lib.hid (HF.out k hlt)
              have hbx : Below wr.heap.size wr (wr.alloc (.cells #[.int .i64 ls[k].id, .slice A1 ls[k].vars.length c1] 47)) := ext_alloc (Below.refl _ _) _
              have HRd := Lib.hid (hin.rd.ext hbx)
              have hml := Nat.le_trans hin.le hin.cap
              have Hsk := Lib.hid (Hs.out ls[k] (List.getElem_mem hlt))
              have HTk : Hid (0 ≤ ls[k].id → ls[k].id < 64 → ls[k].vars.length ≤ 64 → (∀ v ∈ ls[k].vars, v.length ≤ 256) → ∀ j (hj : j < ls.length), j < k + 1 → 0 ≤ ls[j].id ∧ ls[j].id < 64 ∧ ls[j].vars.length ≤ 64 ∧ ∀ v ∈ ls[j].vars, v.length ≤ 256) := Lib.hid (fun a1 a2 a3 a4 j hj hj2 => by
                rcases Nat.lt_succ_iff_lt_or_eq.1 hj2 with h5 | rfl
                · exact Hno.out j hj h5
                · exact ⟨a1, a2, a3, a4⟩)
              unfold maxLen at hml
              have hmi : (ls[k].vars.length : Int) ≤ 9223372036854775807 := by omega
              have Hbx := Lib.hid (ext_trans Hbw.out hbx)
              have Hby := Lib.hid (ext_trans Hbz.out hbx)
              obtain ⟨hint1, hint2⟩ := hin.int
              clear hin hml hbx HF
              obtain ⟨x, hxe⟩ : ∃ x, ls[k] = x := ⟨_, rfl⟩
              rw [hxe] at HFk HRd Hsk HTk hmi Hbx Hby u0 u1 hint1 hint2
              obtain ⟨id, vs⟩ := x
              dsimp only at HFk HRd Hsk HTk hmi Hbx Hby u0 u1 hint1 hint2
              clear hxe
              by_cases h5 : id < 0
              · have Hr : Hid (r = false) := Lib.hid (HFk.out (.inl h5))
                clear HTk HFk
                go_wp2
                go_ret
                exact ⟨by rw [Hr.out]; rfl, Hby.out⟩
              · by_cases h6 : 64 ≤ id
                · have Hr : Hid (r = false) := Lib.hid (HFk.out (.inr (.inl h6)))
                  clear HTk HFk
                  go_wp2
                  go_ret
                  exact ⟨by rw [Hr.out]; rfl, Hby.out⟩
                · by_cases h7 : 64 < vs.length
                  · have Hr : Hid (r = false) := Lib.hid (HFk.out (.inr (.inr (.inl h7))))
                    have h7i : (64 : Int) < (vs.length : Int) := by omega
                    clear HTk HFk
                    go_wp2
                    go_ret
                    exact ⟨by rw [Hr.out]; rfl, Hby.out⟩
                  · have h7i : ¬ (64 : Int) < (vs.length : Int) := by omega
                    have Hr : Hid ((∃ v ∈ vs, 256 < v.length) → r = false) := Lib.hid (fun h => HFk.out (.inr (.inr (.inr h))))
                    have HT4 := Lib.hid (HTk.out (by omega) (by omega) (by omega))
                    clear HTk HFk
                    go_wp2
                    go_loop [5] (fun i => ∃ j : Nat, j ≤ vs.length ∧ i = .int .i64 (j : Int) ∧ Hid (∀ i (hi : i < vs.length), i < j → vs[i].length ≤ 256)) (fun i => vs.length - (intOf i).toNat)
                    case atStart => exact ⟨0, Nat.zero_le _, rfl, Lib.hid (fun j _ h => absurd h (by omega))⟩
                    case round =>
                      obtain ⟨j, hj, rfl, Hsm⟩ := hrel
                      by_cases hjl : j < vs.length
                      · have hji : (j : Int) < (vs.length : Int) := by omega
                        obtain ⟨ad, rfl, hcell⟩ := rd_str HRd.out hjl
                        have hsl := Hsk.out vs[j] (List.getElem_mem hjl)
                        unfold strV at hcell
                        unfold maxLen at hsl
                        have hz : (⟨vs[j].toArray⟩ : ByteArray).size = vs[j].length := rfl
                        obtain ⟨Z, hZ⟩ : ∃ Z : ByteArray, (⟨vs[j].toArray⟩ : ByteArray) = Z := ⟨_, rfl⟩
                        rw [hZ] at hcell hz
                        by_cases h8 : 256 < (Z.size : Int)
                        · have Hr2 : Hid (r = false) := Lib.hid (Hr.out ⟨vs[j], List.getElem_mem hjl, by omega⟩)
                          clear hZ hz Hr
                          go_wp2
                          go_ret
                          exact ⟨by rw [Hr2.out]; rfl, Hby.out⟩
                        · have Hs2 : Hid (∀ i (hi : i < vs.length), i < j + 1 → vs[i].length ≤ 256) := Lib.hid (fun i hi hij => by
                            rcases Nat.lt_succ_iff_lt_or_eq.1 hij with h9 | rfl
                            · exact Hsm.out i hi h9
                            · omega)
                          clear hZ hz
                          go_wp2
                          go_round
                          case rel => exact ⟨j + 1, by omega, by go_num, Hs2⟩
                          case measure => simp [intOf]; omega
                      · obtain rfl : j = vs.length := by omega
                        have HT5 := Lib.hid (HT4.out (fun v hv => by obtain ⟨i, hi, rfl⟩ := List.mem_iff_getElem.1 hv; exact Hsm.out i hi hi))
                        clear HT4
                        go_wp2
                        go_roundw
                        case rel => exact ⟨k + 1, by omega, by go_num, HT5, Hbx⟩
                        case measure => simp [intOf]; omega
            · obtain rfl : k = ls.length := by omega
              have Hr : Hid (r = true) := Lib.hid (HT2.out (fun k hk => Hno.out k hk hk))
              clear HT2 HF
              go_wp2
              go_ret
              exact ⟨by rw [Hr.out]; rfl, Hbz.out⟩
        · have d4 : decide (512 < (ls.length : Int)) = true := decide_eq_true (by omega)
          have Hr : Hid (r = false) := Lib.hid (by rcases HNo.out with h | h; exact absurd h.2.2.2 h4; exact h)
          clear HA Hs HF HT HNo h1 h2 h3 h4
          go_enter Tryd.func7, Tryd.ntmps7
          go_wp2
          go_ret
          exact ⟨by rw [Hr.out]; rfl, Hx.out⟩
      · have d3 : decide ((ls.length : Int) < 1) = true := decide_eq_true (by omega)
        have Hr : Hid (r = false) := Lib.hid (by rcases HNo.out with h | h; exact absurd h.2.2.1 h3; exact h)
        clear HA Hs HF HT HNo h1 h2 h3
        go_enter Tryd.func7, Tryd.ntmps7
        go_wp2
        go_ret
        exact ⟨by rw [Hr.out]; rfl, Hx.out⟩
    · have d2 : decide (34359738368 < f) = true := decide_eq_true (by omega)
      have Hr : Hid (r = false) := Lib.hid (by rcases HNo.out with h | h; exact absurd h.2.1 h2; exact h)
      clear HA Hs HF HT HNo h1 h2
      go_enter Tryd.func7, Tryd.ntmps7
      go_wp2
      go_ret
      exact ⟨by rw [Hr.out]; rfl, Hx.out⟩
  · have d1 : decide (f < 0) = true := decide_eq_true (by omega)
    have Hr : Hid (r = false) := Lib.hid (by rcases HNo.out with h | h; exact absurd h.1 h1; exact h)
    clear HA Hs HF HT HNo h1
    go_enter Tryd.func7, Tryd.ntmps7
    go_wp2
    go_ret
    exact ⟨by rw [Hr.out]; rfl, Hx.out⟩
end Go.Proofs.YtpjgkacekelkdaaDoor

/-
  The law's long: how much is looked at; what it says is left open (its sum may turn over). No statement of the seat is proved here.
-/
namespace Go.Proofs.YtpjgkacekelkdaaDoor
open Go Go.RowKit
set_option maxRecDepth 100000

/-- a segment of a row, as the walk reads it -/
theorem row_sg {w : World} {A : Option Addr} {l : List Sg} (h : RowR IsSg 2 w A l) {k : Nat} (hk : k < l.length) : ∃ g o B c, A = some ⟨g, o, none⟩ ∧ w.cell? ⟨g, o + k * 2, none⟩ = some (.int .i64 l[k].first) ∧ w.cell? ⟨g, o + k * 2 + 1, none⟩ = some (.slice B l[k].lines.length c) ∧ SgIn w l[k] B c := by
  obtain ⟨g, o, cs, e, _, hc, B, c, rfl, hr⟩ := h k hk
  exact ⟨g, o, B, c, e, by have := hc 0 _ rfl; simpa using this, hc 1 _ rfl, hr⟩

set_option maxHeartbeats 8000000 in
theorem longG_any (A : Option Addr) (c : Nat) (l : List Sg) (w : World) (h : RowR IsSg 2 w A l) (hl : l.length ≤ maxLen) :
    Calls Tryd.prog 6 #[.slice A l.length c] w fun e w' => ∃ r : Bool, e = .returned (.bool r) ∧ w = w' := by
  unfold maxLen at hl
  have hli : (l.length : Int) ≤ 9223372036854775807 := by omega
  have H := Lib.hid h
  clear hl h
  go_enter Tryd.func6, Tryd.ntmps6
  go_wp2
  go_loop [3, 4] (fun n i => ∃ (z : Int) (k : Nat), k ≤ l.length ∧ i = .int .i64 (k : Int) ∧ n = .int .i64 z) (fun _ i => l.length - (intOf i).toNat)
  case atStart => exact ⟨0, 0, Nat.zero_le _, rfl, rfl⟩
  case round =>
    obtain ⟨z, k, hk, rfl, rfl⟩ := hrel
    by_cases hlt : k < l.length
    · have hki : (k : Int) < (l.length : Int) := by omega
      obtain ⟨g, o, B, cb, rfl, u0, u1, hin⟩ := row_sg H.out hlt
      have hml := Nat.le_trans hin.le hin.cap
      unfold maxLen at hml
      have hmi : (l[k].lines.length : Int) ≤ 9223372036854775807 := by omega
      have HR := Lib.hid hin.row
      clear hml hin u0
      generalize l[k].lines = ls at *
      go_wp2
      go_loop [3, 5] (fun n i => ∃ (z : Int) (k : Nat), k ≤ ls.length ∧ i = .int .i64 (k : Int) ∧ n = .int .i64 z) (fun _ i => ls.length - (intOf i).toNat)
      case atStart => exact ⟨z, 0, Nat.zero_le _, rfl, rfl⟩
      case round =>
        obtain ⟨z2, j, hj, rfl, rfl⟩ := hrel
        by_cases hjl : j < ls.length
        · have hji : (j : Int) < (ls.length : Int) := by omega
          obtain ⟨gA, oA, A1, c1, rfl, v0, v1, hin⟩ := row_ln HR.out hjl
          have hml := Nat.le_trans hin.le hin.cap
          unfold maxLen at hml
          have hvi : (ls[j].vars.length : Int) ≤ 9223372036854775807 := by omega
          have HV := Lib.hid hin.rd
          clear hml hin v0
          generalize ls[j].vars = vs at *
          go_wp2
          go_loop [3, 6] (fun n i => ∃ (z : Int) (k : Nat), k ≤ vs.length ∧ i = .int .i64 (k : Int) ∧ n = .int .i64 z) (fun _ i => vs.length - (intOf i).toNat)
          case atStart => exact ⟨_, 0, Nat.zero_le _, rfl, rfl⟩
          case round =>
            obtain ⟨z3, q, hq, rfl, rfl⟩ := hrel
            by_cases hql : q < vs.length
            · have hqi : (q : Int) < (vs.length : Int) := by omega
              obtain ⟨ad, rfl, hcell⟩ := rd_str HV.out hql
              unfold strV at hcell
              obtain ⟨Z, hZ⟩ : ∃ Z : ByteArray, (⟨vs[q].toArray⟩ : ByteArray) = Z := ⟨_, rfl⟩
              rw [hZ] at hcell
              clear hZ
              go_wp2
              go_round
              case rel => exact ⟨_, q + 1, by omega, by go_num, rfl⟩
              case measure => simp [intOf]; omega
            · obtain rfl : q = vs.length := by omega
              by_cases hz : 6000 < z3
              · go_wp2
                go_ret
                exact ⟨.inr rfl, rfl⟩
              · go_wp2
                go_round
                case rel => exact ⟨z3, j + 1, by omega, by go_num, rfl⟩
                case measure => simp [intOf]; omega
        · obtain rfl : j = ls.length := by omega
          go_wp2
          go_round
          case rel => exact ⟨z2, k + 1, by omega, by go_num, rfl⟩
          case measure => simp [intOf]; omega
    · obtain rfl : k = l.length := by omega
      go_wp2
      go_ret
      exact ⟨.inl rfl, rfl⟩
end Go.Proofs.YtpjgkacekelkdaaDoor
