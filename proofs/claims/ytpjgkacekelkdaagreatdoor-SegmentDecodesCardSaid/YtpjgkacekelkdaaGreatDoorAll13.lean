/-
  Texts of this claim, joined (part 13): contracts and lemmas that the last text goes by. No statement of the seat is proved here.
-/
import Derived.Test.YtpjgkacekelkdaaGreatDoorAll12
import Derived.Test.YtpjgkacekelkdaaGreatDoorAll7
import Derived.Test.YtpjgkacekelkdaaGreatDoorAll5
import Derived.Deep.QuietTactic
import Derived.Deep.RegionHeld3
set_option linter.unusedVariables false
set_option linter.unusedSimpArgs false
/-
  Are two lines one, are two segments one (reference). No statement of the seat is proved here.
-/
namespace Go.Proofs.YtpjgkacekelkdaaGreatDoor
open Go Go.RowKit
set_option maxRecDepth 100000

set_option maxHeartbeats 4000000 in
theorem rline_any (a b : Ln) (A B : Option Addr) (c d : Nat) (w : World) (ha : LnIn w a A c) (hb : LnIn w b B d) :
    Calls Tryz.prog 32 #[lnV a A c, lnV b B d] w fun e w' => ∃ r, e = .returned (.bool r) ∧ (r = true ↔ a = b) ∧ Below w.heap.size w w' := by
  obtain ⟨w0, hw0⟩ : ∃ w0, w0 = (w.alloc (.cells #[.int .i64 a.id, .slice A a.vars.length c] 47)).alloc (.cells #[.int .i64 b.id, .slice B b.vars.length d] 47) := ⟨_, rfl⟩
  have Hb0 : Hid (Below w.heap.size w w0) := Lib.hid (by rw [hw0]; exact ext2 _ _ _)
  have HX : Hid (Blk w0 w.heap.size 47 #[.int .i64 a.id, .slice A a.vars.length c]) := Lib.hid (by rw [hw0]; exact (Blk.new _ _ _).alloc _)
  have HY : Hid (Blk w0 (w.heap.size + 1) 47 #[.int .i64 b.id, .slice B b.vars.length d]) := Lib.hid (by rw [hw0, ← World.size_alloc w (.cells #[.int .i64 a.id, .slice A a.vars.length c] 47)]; exact Blk.new _ _ _)
  have Hw0 := Lib.hid hw0
  have hl1 := Nat.le_trans ha.le ha.cap
  have hl2 := Nat.le_trans hb.le hb.cap
  unfold maxLen at hl1 hl2
  have hli1 : (a.vars.length : Int) ≤ 9223372036854775807 := by omega
  have hli2 : (b.vars.length : Int) ≤ 9223372036854775807 := by omega
  have HA := Lib.hid ha.rd
  have HB := Lib.hid hb.rd
  have HE : Hid (a.id = b.id → a.vars = b.vars → a = b) := Lib.hid Ln.ext'
  by_cases h1 : a.id = b.id
  · by_cases h2 : a.vars.length = b.vars.length
    · have H2 := Lib.hid h2
      have H1 := Lib.hid h1
      unfold lnV
      rw [← h2]
      rw [← h2] at HY
      rw [← h1]
      rw [← h1] at HY
      rw [← h1, ← h2] at Hw0
      have hN : Hid (∀ k (hk : k < a.vars.length) (hk2 : k < b.vars.length), a.vars[k] ≠ b.vars[k] → a ≠ b) := Lib.hid (fun k hk hk2 hne e => hne (by simp only [e]))
      have hV : Hid (a.vars.take a.vars.length = b.vars.take a.vars.length → a = b) := Lib.hid (fun h => by
        rw [List.take_length, h2, List.take_length] at h
        exact Ln.ext' h1 h)
      generalize a.id = ai at *
      clear h1 h2 ha hb hw0 hl1 hl2 hli2 HE H1
      go_enter Tryz.func32, Tryz.ntmps32
      go_wp2
      rw [← Hw0.out]
      go_loopw [5] (fun i wr => ∃ k : Nat, k ≤ a.vars.length ∧ i = .int .i64 (k : Int) ∧ Hid (a.vars.take k = b.vars.take k) ∧ Hid (Below w0.heap.size w0 wr)) (fun i _ => a.vars.length - (intOf i).toNat)
      case atStart => exact ⟨0, Nat.zero_le _, rfl, Lib.hid (by simp), Lib.hid (Below.refl _ _)⟩
      case round =>
        obtain ⟨k, hk, rfl, Heq, Hbw⟩ := hrel
        have hX := HX.out.ext Hbw.out
        have hY := HY.out.ext Hbw.out
        have x1 := hX.cell 1
        have y1 := hY.cell 1
        simp only [List.getElem?_toArray, List.getElem?_cons_zero, List.getElem?_cons_succ] at x1 y1
        have Hbz := Lib.hid (ext_trans Hb0.out Hbw.out)
        clear hX hY
        by_cases hlt : k < a.vars.length
        · have hlt2 : k < b.vars.length := by have := H2.out; omega
          have hki : (k : Int) < (a.vars.length : Int) := by omega
          obtain ⟨ad, rfl, q1⟩ := rd_str (HA.out.ext Hbz.out) hlt
          obtain ⟨ad2, rfl, q2⟩ := rd_str (HB.out.ext Hbz.out) hlt2
          obtain ⟨Y, Z, e1, e2, hc⟩ := str_cases a.vars[k] b.vars[k]
          rw [e1] at q1
          rw [e2] at q2
          clear e1 e2
          rcases hc with ⟨he, rfl⟩ | ⟨hne, hf⟩
          · have He := Lib.hid he
            clear he
            go_wp2_with fail
            go_quiet (fail)
            go_wp2
            go_roundw
            case rel => exact ⟨k + 1, by omega, by go_num, Lib.hid (by rw [List.take_succ_eq_append_getElem hlt, List.take_succ_eq_append_getElem hlt2, Heq.out, He.out]), Lib.hid (ext_drewN Hbw.out _)⟩
            case measure => simp [intOf]; omega
          · have Hd := Lib.hid (hN.out k hlt hlt2 hne)
            clear hne
            go_wp2_with fail
            go_quiet (fail)
            go_wp2
            go_ret
            exact ⟨false, rfl, by simp [Hd.out], ext_drewN Hbz.out _⟩
        · obtain rfl : k = a.vars.length := by omega
          have Hd := Lib.hid (hV.out Heq.out)
          clear hV
          go_wp2
          go_ret
          exact ⟨true, rfl, by simp [Hd.out], Hbz.out⟩
    · have hne : a ≠ b := fun e => h2 (by rw [e])
      have Hne := Lib.hid hne
      have hli : ¬ (a.vars.length : Int) = (b.vars.length : Int) := by omega
      unfold lnV
      rw [← h1]
      generalize a.id = ai at *
      generalize a.vars.length = n at *
      generalize b.vars.length = m at *
      clear hne h1 h2 ha hb hw0 hl1 hl2 HX HY HE HA HB
      go_enter Tryz.func32, Tryz.ntmps32
      go_wp2
      go_ret
      exact ⟨false, rfl, by simp [Hne.out], ext2 _ _ _⟩
  · have hne : a ≠ b := fun e => h1 (by rw [e])
    have Hne := Lib.hid hne
    unfold lnV
    generalize a.id = ai at *
    generalize b.id = bi at *
    generalize a.vars.length = n at *
    generalize b.vars.length = m at *
    clear hne ha hb hw0 hl1 hl2 HX HY HE HA HB
    go_enter Tryz.func32, Tryz.ntmps32
    go_wp2
    go_ret
    exact ⟨false, rfl, by simp [Hne.out], ext2 _ _ _⟩

set_option maxHeartbeats 4000000 in
theorem own_any (s : Sg) (B : Option Addr) (c : Nat) (w : World) :
    Calls Tryz.prog 8 #[sgV s B c] w fun e w' => e = .returned (sgV s B c) ∧ Below w.heap.size w w' := by
  unfold sgV
  generalize s.first = f
  generalize s.lines.length = n
  have hR := Blk.new (w.alloc (.cells #[.int .i64 f, .slice B n c] 24)) 32 #[.int .i64 f, .slice B n c]
  rw [World.size_alloc] at hR
  have r0 := hR.cell 0
  have r1 := hR.cell 1
  simp only [List.getElem?_toArray, List.getElem?_cons_zero, List.getElem?_cons_succ] at r0 r1
  clear hR
  go_enter Tryz.func8, Tryz.ntmps8
  go_wp2
  exact bodyPost_ret (v := .agg #[.int .i64 f, .slice B n c]) (by simp [results, Tryz.results8, go_sem, r0, r1]) rfl ⟨rfl, ext2 _ _ _⟩


set_option maxHeartbeats 16000000 in
theorem rsame_any (a b : Sg) (A B : Option Addr) (c d : Nat) (w : World) (ha : SgIn w a A c) (hb : SgIn w b B d) :
    Calls Tryz.prog 12 #[sgV a A c, sgV b B d] w fun e w' => ∃ r, e = .returned (.bool r) ∧ (r = true ↔ a = b) ∧ Below w.heap.size w w' := by
  obtain ⟨w0, hw0⟩ : ∃ w0, w0 = (w.alloc (.cells #[.int .i64 a.first, .slice A a.lines.length c] 32)).alloc (.cells #[.int .i64 b.first, .slice B b.lines.length d] 32) := ⟨_, rfl⟩
  have Hb0 : Hid (Below w.heap.size w w0) := Lib.hid (by rw [hw0]; exact ext2 _ _ _)
  have HX : Hid (Blk w0 w.heap.size 32 #[.int .i64 a.first, .slice A a.lines.length c]) := Lib.hid (by rw [hw0]; exact (Blk.new _ _ _).alloc _)
  have HY : Hid (Blk w0 (w.heap.size + 1) 32 #[.int .i64 b.first, .slice B b.lines.length d]) := Lib.hid (by rw [hw0, ← World.size_alloc w (.cells #[.int .i64 a.first, .slice A a.lines.length c] 32)]; exact Blk.new _ _ _)
  have Hw0 := Lib.hid hw0
  have hl1 := Nat.le_trans ha.le ha.cap
  have hl2 := Nat.le_trans hb.le hb.cap
  unfold maxLen at hl1 hl2
  have hli1 : (a.lines.length : Int) ≤ 9223372036854775807 := by omega
  have hli2 : (b.lines.length : Int) ≤ 9223372036854775807 := by omega
  have HA := Lib.hid ha.row
  have HB := Lib.hid hb.row
  have HE : Hid (a.first = b.first → a.lines = b.lines → a = b) := Lib.hid Sg.ext'
  by_cases h1 : a.first = b.first
  · by_cases h2 : a.lines.length = b.lines.length
    · have H2 := Lib.hid h2
      unfold sgV
      rw [← h2]
      rw [← h2] at HY
      rw [← h1]
      rw [← h1] at HY
      rw [← h1, ← h2] at Hw0
      have hN : Hid (∀ k (hk : k < a.lines.length) (hk2 : k < b.lines.length), a.lines[k] ≠ b.lines[k] → a ≠ b) := Lib.hid (fun k hk hk2 hne e => hne (by simp only [e]))
      have hV : Hid (a.lines.take a.lines.length = b.lines.take a.lines.length → a = b) := Lib.hid (fun h => by
        rw [List.take_length, h2, List.take_length] at h
        exact Sg.ext' h1 h)
      generalize a.first = ai at *
      clear h1 h2 ha hb hw0 hl1 hl2 hli2 HE
      go_enter Tryz.func12, Tryz.ntmps12
      go_wp2
      rw [← Hw0.out]
      go_loopw [5] (fun i wr => ∃ k : Nat, k ≤ a.lines.length ∧ i = .int .i64 (k : Int) ∧ Hid (a.lines.take k = b.lines.take k) ∧ Hid (Below w0.heap.size w0 wr)) (fun i _ => a.lines.length - (intOf i).toNat)
      case atStart => exact ⟨0, Nat.zero_le _, rfl, Lib.hid (by simp), Lib.hid (Below.refl _ _)⟩
      case round =>
        obtain ⟨k, hk, rfl, Heq, Hbw⟩ := hrel
        have hX := HX.out.ext Hbw.out
        have hY := HY.out.ext Hbw.out
        have x1 := hX.cell 1
        simp only [List.getElem?_toArray, List.getElem?_cons_zero, List.getElem?_cons_succ] at x1
        have Hbz := Lib.hid (ext_trans Hb0.out Hbw.out)
        by_cases hlt : k < a.lines.length
        · have hlt2 : k < b.lines.length := by have := H2.out; omega
          have hki : (k : Int) < (a.lines.length : Int) := by omega
          obtain ⟨gA, oA, A1, c1, rfl, u0, u1, hin1⟩ := row_ln (HA.out.ext IsLn.lasts Hbz.out) hlt
          obtain ⟨gB, oB, B1, d1, rfl, v0, v1, hin2⟩ := row_ln (HB.out.ext IsLn.lasts Hbz.out) hlt2
          have HK : Hid (∀ W, Below wr.heap.size wr W → W.cell? ⟨w.heap.size, 1, none⟩ = some (.slice (some ⟨gA, oA, none⟩) a.lines.length c) ∧ W.cell? ⟨w.heap.size + 1, 1, none⟩ = some (.slice (some ⟨gB, oB, none⟩) a.lines.length d) ∧
              W.cell? ⟨gA, oA + k * 2, none⟩ = some (.int .i64 a.lines[k].id) ∧ W.cell? ⟨gA, oA + k * 2 + 1, none⟩ = some (.slice A1 a.lines[k].vars.length c1) ∧
              W.cell? ⟨gB, oB + k * 2, none⟩ = some (.int .i64 b.lines[k].id) ∧ W.cell? ⟨gB, oB + k * 2 + 1, none⟩ = some (.slice B1 b.lines[k].vars.length d1)) := Lib.hid (fun W hW =>
            ⟨(hX.ext hW).cell 1, (hY.ext hW).cell 1, cell_only u0 (Only.of_ext (S := fun _ => False) hW) (fun h => h), cell_only u1 (Only.of_ext (S := fun _ => False) hW) (fun h => h), cell_only v0 (Only.of_ext (S := fun _ => False) hW) (fun h => h), cell_only v1 (Only.of_ext (S := fun _ => False) hW) (fun h => h)⟩)
          have HL : Hid (∀ W, Below wr.heap.size wr W → Calls Tryz.prog 32 #[lnV a.lines[k] A1 c1, lnV b.lines[k] B1 d1] W fun e w' => ∃ r, e = .returned (.bool r) ∧ (r = true ↔ a.lines[k] = b.lines[k]) ∧ Below W.heap.size W w') := Lib.hid (fun W hW => rline_any _ _ A1 B1 c1 d1 W (hin1.ext hW) (hin2.ext hW))
          have HT : Hid (a.lines[k] = b.lines[k] → a.lines.take (k + 1) = b.lines.take (k + 1)) := Lib.hid (fun h => by rw [List.take_succ_eq_append_getElem hlt, List.take_succ_eq_append_getElem hlt2, Heq.out, h])
          have HF := Lib.hid (hN.out k hlt hlt2)
          unfold lnV at HL
          clear hX hY x1 u0 u1 v0 v1 hin1 hin2 hN hV
          generalize a.lines[k] = la at *
          generalize b.lines[k] = lb at *
          obtain ⟨li, lv⟩ := la
          obtain ⟨mi, mv⟩ := lb
          dsimp only at HL HK
          have x1 := (HK.out wr (Below.refl _ _)).1
          go_wp2_with fail
          refine wp_region_held_drew (S := fun W => W.cell? ⟨w.heap.size, 1, none⟩ = some (.slice (some ⟨gA, oA, none⟩) a.lines.length c) ∧ W.cell? ⟨w.heap.size + 1, 1, none⟩ = some (.slice (some ⟨gB, oB, none⟩) a.lines.length d) ∧ W.cell? ⟨gA, oA + k * 2, none⟩ = some (.int .i64 li) ∧ W.cell? ⟨gA, oA + k * 2 + 1, none⟩ = some (.slice A1 lv.length c1) ∧ W.cell? ⟨gB, oB + k * 2, none⟩ = some (.int .i64 mi) ∧ W.cell? ⟨gB, oB + k * 2 + 1, none⟩ = some (.slice B1 mv.length d1)) (by kernel_rfl) ?_ (fun hHeld => ?_)
          · exact HK.out _ (by repeat (first | exact Below.refl _ _ | exact HE.out | apply ext_drew | apply ext_drewN | apply ext_alloc))
          refine wpAnyH_take (i := 0) (v := ?_) (take_list rfl) (by kernel_rfl) (by kernel_rfl) (by kernel_rfl) (fun _ _ _ h => h) (Or.inl ⟨by rfl, ?_⟩) (by assumption) ?_
          rotate_left
          · intro w hSw
            try dsimp only at hSw
            first | (go_simp; done) | (go_simp; with_reducible rfl)
          try simp only [Act.put, List.setIfInBounds_toArray, List.set_cons_zero, List.set_cons_succ]
          refine wpAnyH_take (i := 1) (v := ?_) (take_list rfl) (by kernel_rfl) (by kernel_rfl) (by kernel_rfl) (fun _ _ _ h => h) (Or.inl ⟨by rfl, ?_⟩) (by assumption) ?_
          rotate_left
          · intro w hSw
            try dsimp only at hSw
            first | (go_simp; done) | (go_simp; with_reducible rfl)
          try simp only [Act.put, List.setIfInBounds_toArray, List.set_cons_zero, List.set_cons_succ]
          refine wpAnyH_take (i := 2) (v := ?_) (take_list rfl) (by kernel_rfl) (by kernel_rfl) (by kernel_rfl) (fun _ _ _ h => h) (Or.inl ⟨by rfl, ?_⟩) (by assumption) ?_
          rotate_left
          · intro w hSw
            try dsimp only at hSw
            first | (go_simp; done) | (go_simp; with_reducible rfl)
          try simp only [Act.put, List.setIfInBounds_toArray, List.set_cons_zero, List.set_cons_succ]
          refine wpAnyH_take (i := 3) (v := ?_) (take_list rfl) (by kernel_rfl) (by kernel_rfl) (by kernel_rfl) (fun _ _ _ h => h) (Or.inl ⟨by rfl, ?_⟩) (by assumption) ?_
          rotate_left
          · intro w hSw
            try dsimp only at hSw
            first | (go_simp; done) | (go_simp; with_reducible rfl)
          try simp only [Act.put, List.setIfInBounds_toArray, List.set_cons_zero, List.set_cons_succ]
          refine wpAnyH_take (i := 4) (v := ?_) (take_list rfl) (by kernel_rfl) (by kernel_rfl) (by kernel_rfl) (fun _ _ _ h => h) (Or.inl ⟨by rfl, ?_⟩) (by assumption) ?_
          rotate_left
          · intro w hSw
            try dsimp only at hSw
            first | (go_simp; done) | (go_simp; with_reducible rfl)
          try simp only [Act.put, List.setIfInBounds_toArray, List.set_cons_zero, List.set_cons_succ]
          refine wpAnyH_take (i := 5) (v := ?_) (take_list rfl) (by kernel_rfl) (by kernel_rfl) (by kernel_rfl) (fun _ _ _ h => h) (Or.inl ⟨by rfl, ?_⟩) (by assumption) ?_
          rotate_left
          · intro w hSw
            try dsimp only at hSw
            first | (go_simp; done) | (go_simp; with_reducible rfl)
          try simp only [Act.put, List.setIfInBounds_toArray, List.set_cons_zero, List.set_cons_succ]
          refine wpAnyH_take (i := 6) (v := ?_) (take_list rfl) (by kernel_rfl) (by kernel_rfl) (by kernel_rfl) (fun _ _ _ h => h) (Or.inl ⟨by rfl, ?_⟩) (by assumption) ?_
          rotate_left
          · intro w hSw
            try dsimp only at hSw
            first | (go_simp; done) | (go_simp; with_reducible rfl)
          try simp only [Act.put, List.setIfInBounds_toArray, List.set_cons_zero, List.set_cons_succ]
          refine wpAnyH_take (i := 7) (v := ?_) (take_list rfl) (by kernel_rfl) (by kernel_rfl) (by kernel_rfl) (fun _ _ _ h => h) (Or.inl ⟨by rfl, ?_⟩) (by assumption) ?_
          rotate_left
          · intro w hSw
            try dsimp only at hSw
            first | (go_simp; done) | (go_simp; with_reducible rfl)
          try simp only [Act.put, List.setIfInBounds_toArray, List.set_cons_zero, List.set_cons_succ]
          refine wpAnyH_take (i := 8) (v := ?_) (take_list rfl) (by kernel_rfl) (by kernel_rfl) (by kernel_rfl) (fun _ _ _ h => h) (Or.inl ⟨by rfl, ?_⟩) (by assumption) ?_
          rotate_left
          · intro w hSw
            try dsimp only at hSw
            first | (go_simp; done) | (go_simp; with_reducible rfl)
          try simp only [Act.put, List.setIfInBounds_toArray, List.set_cons_zero, List.set_cons_succ]
          refine wpAnyH_take (i := 9) (v := ?_) (take_list rfl) (by kernel_rfl) (by kernel_rfl) (by kernel_rfl) (fun _ _ _ h => h) (Or.inl ⟨by rfl, ?_⟩) (by assumption) ?_
          rotate_left
          · intro w hSw
            try dsimp only at hSw
            first | (go_simp; done) | (go_simp; with_reducible rfl)
          try simp only [Act.put, List.setIfInBounds_toArray, List.set_cons_zero, List.set_cons_succ]
          refine wpAnyH_ready (rs := [10]) (by kernel_rfl) (by simp) ?_
          refine AllReadyH.cons (take_list rfl) (fun K hK => ?_) ?_
          · skip
            go_simp
            refine (HL.out _ (by repeat (first | exact Below.refl _ _ | exact HE.out | apply ext_drew | apply ext_drewN | apply ext_alloc))).mono ?_
            rintro e x1 ⟨r, rfl, hr, hbx⟩
            dsimp only
            have HE : Hid (Below wr.heap.size wr x1) := Lib.hid (ext_trans (by repeat (first | exact Below.refl _ _ | apply ext_drew | apply ext_drewN)) hbx)
            have Hr := Lib.hid hr
            clear hr hbx
            refine hK.out _ _ ?_ (fun hHeld => ?_)
            · try dsimp only
              exact HK.out _ (by repeat (first | exact Below.refl _ _ | exact HE.out | apply ext_drew | apply ext_drewN | apply ext_alloc))
            clear hK K
            refine wpAnyH_take (i := 11) (v := ?_) (take_list rfl) (by kernel_rfl) (by kernel_rfl) (by kernel_rfl) (fun _ _ _ h => h) (Or.inl ⟨by rfl, ?_⟩) (by assumption) ?_
            rotate_left
            · intro w hSw
              try dsimp only at hSw
              first | (go_simp; done) | (go_simp; with_reducible rfl)
            try simp only [Act.put, List.setIfInBounds_toArray, List.set_cons_zero, List.set_cons_succ]
            refine wpAnyH_done (by kernel_rfl) ?_ _
            cases r with
            | true =>
              have Hab := Lib.hid (HT.out (Hr.out.1 rfl))
              go_wp2
              go_roundw
              case rel => exact ⟨k + 1, by omega, by go_num, Hab, Lib.hid (ext_trans Hbw.out HE.out)⟩
              case measure => simp [intOf]; omega
            | false =>
              have Hab := Lib.hid (HF.out (fun h => by have := Hr.out.2 h; cases this))
              go_wp2
              go_ret
              exact ⟨false, rfl, by simp [Hab.out], ext_trans Hbz.out HE.out⟩
          exact AllReadyH.nil
        · obtain rfl : k = a.lines.length := by omega
          have Hd := Lib.hid (hV.out Heq.out)
          clear hV hX hY
          go_wp2
          go_ret
          exact ⟨true, rfl, by simp [Hd.out], Hbz.out⟩
    · have hne : a ≠ b := fun e => h2 (by rw [e])
      have Hne := Lib.hid hne
      have hli : ¬ (a.lines.length : Int) = (b.lines.length : Int) := by omega
      unfold sgV
      rw [← h1]
      generalize a.first = ai at *
      generalize a.lines.length = n at *
      generalize b.lines.length = m at *
      clear hne h1 h2 ha hb hw0 hl1 hl2 HX HY HE HA HB
      go_enter Tryz.func12, Tryz.ntmps12
      go_wp2
      go_ret
      exact ⟨false, rfl, by simp [Hne.out], ext2 _ _ _⟩
  · have hne : a ≠ b := fun e => h1 (by rw [e])
    have Hne := Lib.hid hne
    unfold sgV
    generalize a.first = ai at *
    generalize b.first = bi at *
    generalize a.lines.length = n at *
    generalize b.lines.length = m at *
    clear hne ha hb hw0 hl1 hl2 HX HY HE HA HB
    go_enter Tryz.func12, Tryz.ntmps12
    go_wp2
    go_ret
    exact ⟨false, rfl, by simp [Hne.out], ext2 _ _ _⟩
end Go.Proofs.YtpjgkacekelkdaaGreatDoor

/-
  May a segment be (reference). No statement of the seat is proved here.
-/
namespace Go.Proofs.YtpjgkacekelkdaaGreatDoor
open Go Go.RowKit
set_option maxRecDepth 100000

theorem isG_false {b : Sg} {l : Ln} (hl : l ∈ b.lines) (h : l.id < 0 ∨ 64 ≤ l.id ∨ 64 < l.vars.length ∨ ∃ v ∈ l.vars, 256 < v.length) : isG b = false := by
  cases hi : isG b with
  | false => rfl
  | true =>
    obtain ⟨h1, h2, h3, h4⟩ := ((isG_iff b).1 hi).2 l hl
    rcases h with h | h | h | ⟨v, hv, h⟩
    · omega
    · omega
    · omega
    · have := h4 v hv; omega
theorem isG_true {b : Sg} (h1 : 0 ≤ b.first) (h2 : b.first ≤ 34359738368) (h3 : 1 ≤ b.lines.length) (h4 : b.lines.length ≤ 512) (h : ∀ k (hk : k < b.lines.length), 0 ≤ b.lines[k].id ∧ b.lines[k].id < 64 ∧ b.lines[k].vars.length ≤ 64 ∧ ∀ v ∈ b.lines[k].vars, v.length ≤ 256) : isG b = true :=
  (isG_iff b).2 ⟨⟨h1, h2, h3, h4⟩, fun l hl => by obtain ⟨k, hk, rfl⟩ := List.mem_iff_getElem.1 hl; exact h k hk⟩

set_option maxHeartbeats 8000000 in
theorem ris18_any (b : Sg) (B : Option Addr) (c : Nat) (w : World) (h : SgIn w b B c) (hs : ∀ x ∈ b.lines, ∀ v ∈ x.vars, v.length ≤ maxLen) :
    Calls Tryz.prog 10 #[sgV b B c] w fun e w' => e = .returned (.bool (isG b)) ∧ Below w.heap.size w w' := by
  obtain ⟨w0, hw0⟩ : ∃ w0, w0 = w.alloc (.cells #[.int .i64 b.first, .slice B b.lines.length c] 32) := ⟨_, rfl⟩
  have Hx : Hid (Below w.heap.size w (w.alloc (.cells #[.int .i64 b.first, .slice B b.lines.length c] 32))) := Lib.hid (ext_alloc (Below.refl _ _) _)
  have Hb0 : Hid (Below w.heap.size w w0) := Lib.hid (by rw [hw0]; exact ext_alloc (Below.refl _ _) _)
  have HX : Hid (Blk w0 w.heap.size 32 #[.int .i64 b.first, .slice B b.lines.length c]) := Lib.hid (by rw [hw0]; exact Blk.new _ _ _)
  have Hw0 := Lib.hid hw0
  have hl := Nat.le_trans h.le h.cap
  unfold maxLen at hl
  have hli : (b.lines.length : Int) ≤ 9223372036854775807 := by omega
  obtain ⟨i1, i2⟩ := h.int
  have HA := Lib.hid (h.row.ext IsLn.lasts Hb0.out)
  have Hs := Lib.hid hs
  have HNo : Hid (0 ≤ b.first ∧ b.first ≤ 34359738368 ∧ 1 ≤ b.lines.length ∧ b.lines.length ≤ 512 ∨ isG b = false) := Lib.hid (by
    cases hi : isG b with
    | false => exact .inr rfl
    | true => exact .inl ((isG_iff b).1 hi).1)
  have HF : Hid (∀ k (hk : k < b.lines.length), (b.lines[k].id < 0 ∨ 64 ≤ b.lines[k].id ∨ 64 < b.lines[k].vars.length ∨ ∃ v ∈ b.lines[k].vars, 256 < v.length) → isG b = false) := Lib.hid (fun k hk h => isG_false (List.getElem_mem hk) h)
  have HT : Hid (0 ≤ b.first → b.first ≤ 34359738368 → 1 ≤ b.lines.length → b.lines.length ≤ 512 → (∀ k (hk : k < b.lines.length), 0 ≤ b.lines[k].id ∧ b.lines[k].id < 64 ∧ b.lines[k].vars.length ≤ 64 ∧ ∀ v ∈ b.lines[k].vars, v.length ≤ 256) → isG b = true) := Lib.hid isG_true
  unfold sgV
  generalize isG b = r at *
  generalize b.first = f at *
  obtain ⟨_, ls⟩ := b
  dsimp only at *
  clear hl h hs hw0
  by_cases h1 : 0 ≤ f
  · have d1 : decide (f < 0) = false := decide_eq_false (by omega)
    by_cases h2 : f ≤ 34359738368
    · have d2 : decide (34359738368 < f) = false := decide_eq_false (by omega)
      by_cases h3 : 1 ≤ ls.length
      · have d3 : decide ((ls.length : Int) < 1) = false := decide_eq_false (by omega)
        by_cases h4 : ls.length ≤ 512
        · have d4 : decide (512 < (ls.length : Int)) = false := decide_eq_false (by omega)
          have HT2 := Lib.hid (HT.out h1 h2 h3 h4)
          clear HT HNo h1 h2 h3 hli
          have hli : (ls.length : Int) ≤ 512 := by omega
          go_enter Tryz.func10, Tryz.ntmps10
          go_wp2
          rw [← Hw0.out]
          go_loopw [3] (fun i wr => ∃ k : Nat, k ≤ ls.length ∧ i = .int .i64 (k : Int) ∧ Hid (∀ j (hj : j < ls.length), j < k → 0 ≤ ls[j].id ∧ ls[j].id < 64 ∧ ls[j].vars.length ≤ 64 ∧ ∀ v ∈ ls[j].vars, v.length ≤ 256) ∧ Hid (Below w0.heap.size w0 wr)) (fun i _ => ls.length - (intOf i).toNat)
          case atStart => exact ⟨0, Nat.zero_le _, rfl, Lib.hid (fun j _ h => absurd h (by omega)), Lib.hid (Below.refl _ _)⟩
          case round =>
            obtain ⟨k, hk, rfl, Hno, Hbw⟩ := hrel
            have hX := HX.out.ext Hbw.out
            have x1 := hX.cell 1
            simp only [List.getElem?_toArray, List.getElem?_cons_zero, List.getElem?_cons_succ] at x1
            have Hbz := Lib.hid (ext_trans Hb0.out Hbw.out)
            clear hX
            by_cases hlt : k < ls.length
            · have hki : (k : Int) < (ls.length : Int) := by omega
              obtain ⟨gA, oA, A1, c1, rfl, u0, u1, hin⟩ := row_ln (HA.out.ext IsLn.lasts Hbw.out) hlt
              have HFk := Lib.hid (HF.out k hlt)
              have hbx : Below wr.heap.size wr (wr.alloc (.cells #[.int .i64 ls[k].id, .slice A1 ls[k].vars.length c1] 47)) := ext_alloc (Below.refl _ _) _
              have HRd := Lib.hid (hin.rd.ext hbx)
              have hml := Nat.le_trans hin.le hin.cap
              have Hsk := Lib.hid (Hs.out ls[k] (List.getElem_mem hlt))
              have HTk : Hid (0 ≤ ls[k].id → ls[k].id < 64 → ls[k].vars.length ≤ 64 → (∀ v ∈ ls[k].vars, v.length ≤ 256) → ∀ j (hj : j < ls.length), j < k + 1 → 0 ≤ ls[j].id ∧ ls[j].id < 64 ∧ ls[j].vars.length ≤ 64 ∧ ∀ v ∈ ls[j].vars, v.length ≤ 256) := Lib.hid (fun a1 a2 a3 a4 j hj hj2 => by
                rcases Nat.lt_succ_iff_lt_or_eq.1 hj2 with h5 | rfl
                · exact Hno.out j hj h5
                · exact ⟨a1, a2, a3, a4⟩)
              unfold maxLen at hml
              have hmi : (ls[k].vars.length : Int) ≤ 9223372036854775807 := by omega
              have Hbx := Lib.hid (ext_trans Hbw.out hbx)
              have Hby := Lib.hid (ext_trans Hbz.out hbx)
              obtain ⟨hint1, hint2⟩ := hin.int
              clear hin hml hbx HF
              obtain ⟨x, hxe⟩ : ∃ x, ls[k] = x := ⟨_, rfl⟩
              rw [hxe] at HFk HRd Hsk HTk hmi Hbx Hby u0 u1 hint1 hint2
              obtain ⟨id, vs⟩ := x
              dsimp only at HFk HRd Hsk HTk hmi Hbx Hby u0 u1 hint1 hint2
              clear hxe
              by_cases h5 : id < 0
              · have Hr : Hid (r = false) := Lib.hid (HFk.out (.inl h5))
                clear HTk HFk
                go_wp2
                go_ret
                exact ⟨by rw [Hr.out]; rfl, Hby.out⟩
              · by_cases h6 : 64 ≤ id
                · have Hr : Hid (r = false) := Lib.hid (HFk.out (.inr (.inl h6)))
                  clear HTk HFk
                  go_wp2
                  go_ret
                  exact ⟨by rw [Hr.out]; rfl, Hby.out⟩
                · by_cases h7 : 64 < vs.length
                  · have Hr : Hid (r = false) := Lib.hid (HFk.out (.inr (.inr (.inl h7))))
                    have h7i : (64 : Int) < (vs.length : Int) := by omega
                    clear HTk HFk
                    go_wp2
                    go_ret
                    exact ⟨by rw [Hr.out]; rfl, Hby.out⟩
                  · have h7i : ¬ (64 : Int) < (vs.length : Int) := by omega
                    have Hr : Hid ((∃ v ∈ vs, 256 < v.length) → r = false) := Lib.hid (fun h => HFk.out (.inr (.inr (.inr h))))
                    have HT4 := Lib.hid (HTk.out (by omega) (by omega) (by omega))
                    clear HTk HFk
                    go_wp2
                    go_loop [5] (fun i => ∃ j : Nat, j ≤ vs.length ∧ i = .int .i64 (j : Int) ∧ Hid (∀ i (hi : i < vs.length), i < j → vs[i].length ≤ 256)) (fun i => vs.length - (intOf i).toNat)
                    case atStart => exact ⟨0, Nat.zero_le _, rfl, Lib.hid (fun j _ h => absurd h (by omega))⟩
                    case round =>
                      obtain ⟨j, hj, rfl, Hsm⟩ := hrel
                      by_cases hjl : j < vs.length
                      · have hji : (j : Int) < (vs.length : Int) := by omega
                        obtain ⟨ad, rfl, hcell⟩ := rd_str HRd.out hjl
                        have hsl := Hsk.out vs[j] (List.getElem_mem hjl)
                        unfold strV at hcell
                        unfold maxLen at hsl
                        have hz : (⟨vs[j].toArray⟩ : ByteArray).size = vs[j].length := rfl
                        obtain ⟨Z, hZ⟩ : ∃ Z : ByteArray, (⟨vs[j].toArray⟩ : ByteArray) = Z := ⟨_, rfl⟩
                        rw [hZ] at hcell hz
                        by_cases h8 : 256 < (Z.size : Int)
                        · have Hr2 : Hid (r = false) := Lib.hid (Hr.out ⟨vs[j], List.getElem_mem hjl, by omega⟩)
                          clear hZ hz Hr
                          go_wp2
                          go_ret
                          exact ⟨by rw [Hr2.out]; rfl, Hby.out⟩
                        · have Hs2 : Hid (∀ i (hi : i < vs.length), i < j + 1 → vs[i].length ≤ 256) := Lib.hid (fun i hi hij => by
                            rcases Nat.lt_succ_iff_lt_or_eq.1 hij with h9 | rfl
                            · exact Hsm.out i hi h9
                            · omega)
                          clear hZ hz
                          go_wp2
                          go_round
                          case rel => exact ⟨j + 1, by omega, by go_num, Hs2⟩
                          case measure => simp [intOf]; omega
                      · obtain rfl : j = vs.length := by omega
                        have HT5 := Lib.hid (HT4.out (fun v hv => by obtain ⟨i, hi, rfl⟩ := List.mem_iff_getElem.1 hv; exact Hsm.out i hi hi))
                        clear HT4
                        go_wp2
                        go_roundw
                        case rel => exact ⟨k + 1, by omega, by go_num, HT5, Hbx⟩
                        case measure => simp [intOf]; omega
            · obtain rfl : k = ls.length := by omega
              have Hr : Hid (r = true) := Lib.hid (HT2.out (fun k hk => Hno.out k hk hk))
              clear HT2 HF
              go_wp2
              go_ret
              exact ⟨by rw [Hr.out]; rfl, Hbz.out⟩
        · have d4 : decide (512 < (ls.length : Int)) = true := decide_eq_true (by omega)
          have Hr : Hid (r = false) := Lib.hid (by rcases HNo.out with h | h; exact absurd h.2.2.2 h4; exact h)
          clear HA Hs HF HT HNo h1 h2 h3 h4
          go_enter Tryz.func10, Tryz.ntmps10
          go_wp2
          go_ret
          exact ⟨by rw [Hr.out]; rfl, Hx.out⟩
      · have d3 : decide ((ls.length : Int) < 1) = true := decide_eq_true (by omega)
        have Hr : Hid (r = false) := Lib.hid (by rcases HNo.out with h | h; exact absurd h.2.2.1 h3; exact h)
        clear HA Hs HF HT HNo h1 h2 h3
        go_enter Tryz.func10, Tryz.ntmps10
        go_wp2
        go_ret
        exact ⟨by rw [Hr.out]; rfl, Hx.out⟩
    · have d2 : decide (34359738368 < f) = true := decide_eq_true (by omega)
      have Hr : Hid (r = false) := Lib.hid (by rcases HNo.out with h | h; exact absurd h.2.1 h2; exact h)
      clear HA Hs HF HT HNo h1 h2
      go_enter Tryz.func10, Tryz.ntmps10
      go_wp2
      go_ret
      exact ⟨by rw [Hr.out]; rfl, Hx.out⟩
  · have d1 : decide (f < 0) = true := decide_eq_true (by omega)
    have Hr : Hid (r = false) := Lib.hid (by rcases HNo.out with h | h; exact absurd h.1 h1; exact h)
    clear HA Hs HF HT HNo h1
    go_enter Tryz.func10, Tryz.ntmps10
    go_wp2
    go_ret
    exact ⟨by rw [Hr.out]; rfl, Hx.out⟩
end Go.Proofs.YtpjgkacekelkdaaGreatDoor

/-
  May numbers be, each as it is, by the one ahead (reference). No statement of the seat is proved here.
-/
namespace Go.Proofs.YtpjgkacekelkdaaGreatDoor
open Go Go.RowKit
set_option maxRecDepth 100000

set_option maxHeartbeats 2000000 in
theorem rmay_any (A : Option Addr) (c : Nat) (l : List Int) (w : World) (hA : Rd w A (l.map iv)) (hl : l.length ≤ 1099511627776) :
    Calls Tryz.prog 90 #[.slice A l.length c] w fun e w' => e = .returned (.bool (mayP l)) ∧ w = w' := by
  have hli : (l.length : Int) ≤ 1099511627776 := by omega
  have hM : mayP l = (decide (l.length ≤ 32768) && l.all okP) := rfl
  have HM := Lib.hid hM
  have HA := Lib.hid hA
  generalize mayP l = M at *
  clear hM hA
  go_enter Tryz.func90, Tryz.ntmps90
  go_wp2
  go_loop [3] (fun i => ∃ k : Nat, k ≤ l.length ∧ i = .int .i64 (k : Int) ∧ ∀ j (hj : j < l.length), j < k → okP l[j] = true) (fun i => l.length - (intOf i).toNat)
  case atStart => exact ⟨0, Nat.zero_le _, rfl, fun j _ h => absurd h (by omega)⟩
  case round =>
    obtain ⟨k, hk, rfl, hno⟩ := hrel
    have Hno := Lib.hid hno
    by_cases hlt : k < l.length
    · have hki : (k : Int) < (l.length : Int) := by omega
      obtain ⟨ad, hB, hcell⟩ := rd_int HA.out hlt
      subst hB
      have HI : Hid (okP l[k] = false → M = false) := Lib.hid (fun h => by
        rw [HM.out, show l.all okP = false by rw [List.all_eq_false]; exact ⟨l[k], List.getElem_mem hlt, by simp [h]⟩]
        simp)
      have HF : Hid (okP l[k] = true → ∀ j (hj : j < l.length), j < k + 1 → okP l[j] = true) := Lib.hid (fun h j hj hj2 => by
        rcases Nat.lt_succ_iff_lt_or_eq.1 hj2 with h3 | rfl
        · exact hno j hj h3
        · exact h)
      have hok : okP l[k] = decide (0 ≤ l[k] ∧ l[k] ≤ 1099511627776) := rfl
      clear hno
      generalize l[k] = x at *
      by_cases h0 : x < 0
      · have d0 : decide (x < 0) = true := decide_eq_true h0
        have Hi := Lib.hid (HI.out (by rw [hok]; exact decide_eq_false (by omega)))
        clear HI HF hok
        go_wp2
        go_ret
        exact ⟨by rw [Hi.out]; rfl, rfl⟩
      · have d0 : decide (x < 0) = false := decide_eq_false h0
        by_cases h1 : 1099511627776 < x
        · have d1 : decide (1099511627776 < x) = true := decide_eq_true h1
          have Hi := Lib.hid (HI.out (by rw [hok]; exact decide_eq_false (by omega)))
          clear HI HF hok
          go_wp2
          go_ret
          exact ⟨by rw [Hi.out]; rfl, rfl⟩
        · have d1 : decide (1099511627776 < x) = false := decide_eq_false h1
          have Hf := Lib.hid (HF.out (by rw [hok]; exact decide_eq_true (by omega)))
          clear HI HF hok
          go_wp2
          go_round
          case rel => exact ⟨k + 1, by omega, by go_num, Hf.out⟩
          case measure => simp [intOf]; omega
    · obtain rfl : k = l.length := by omega
      have Hm : Hid (M = decide ((l.length : Int) ≤ 32768)) := Lib.hid (by
        rw [HM.out, show l.all okP = true by rw [List.all_eq_true]; intro x hx; obtain ⟨j, hj, rfl⟩ := List.mem_iff_getElem.1 hx; exact hno j hj hj]
        rw [Bool.and_true, decide_eq_decide]
        omega)
      clear hno
      go_wp2
      go_ret
      exact ⟨by rw [Hm.out]; rfl, rfl⟩

set_option maxHeartbeats 4000000 in
theorem rplain_any (A : Option Addr) (c : Nat) (l : List Int) (w : World) (hA : Rd w A (l.map iv)) (hl : l.length ≤ 1099511627776) :
    Calls Tryz.prog 55 #[.slice A l.length c] w fun e w' => ∃ A' c', e = .returned (.tuple #[.slice A' (ansP l (plainP l)).1.length c', .int .i64 (ansP l (plainP l)).2]) ∧ New w w' A' c' (ansP l (plainP l)).1 ∧ Below w.heap.size w w' := by
  have HM := Lib.hid (rmay_any A c l w hA hl)
  have HA := Lib.hid hA
  cases hm : mayP l with
  | false =>
    have HR : Hid (ansP l (plainP l) = ([], 1)) := Lib.hid (by unfold ansP; rw [hm]; rfl)
    rw [hm] at HM
    clear hm hA
    go_enter Tryz.func55, Tryz.ntmps55
    go_wp2_with fail
    refine HM.out.mono ?_
    rintro e w' ⟨rfl, rfl⟩
    go_wp2
    go_ret2
    rw [HR.out]
    exact ⟨none, 0, rfl, Own.none_ _ _ _, Below.refl _ _⟩
  | true =>
    obtain ⟨h1, h2⟩ := (mayP_iff l).1 hm
    have HR : Hid (ansP l (plainP l) = (plainP l, 0)) := Lib.hid (by unfold ansP; rw [hm]; rfl)
    have HP : Hid (plainP l = numsB [0, (l.length : Int)] ++ numsB l) := Lib.hid rfl
    have HN2 := Lib.hid (nums_two_len 0 (l.length : Int))
    have HNl := Lib.hid (numsB_len9 l)
    have H2 := Lib.hid h2
    obtain ⟨N, hN⟩ : ∃ N, numsB [0, (l.length : Int)] = N := ⟨_, rfl⟩
    obtain ⟨D, hD⟩ : ∃ D, numsB l = D := ⟨_, rfl⟩
    have HNN := Lib.hid hN
    have HDD := Lib.hid hD
    rw [hN] at HP HN2
    rw [hD] at HP HNl
    have hk1 : N.length + D.length ≤ maxLen := by unfold maxLen; have := HN2.out; have := HNl.out; omega
    have hk2 : (N.length + D.length) * 1 ≤ 140737488355328 := by have := HN2.out; have := HNl.out; omega
    rw [hm] at HM
    clear hm hA hN hD h2
    go_enter Tryz.func55, Tryz.ntmps55
    go_wp2_with fail
    refine HM.out.mono ?_
    rintro e w' ⟨rfl, rfl⟩
    go_wp2_with fail
    refine (refnums_any _ 2 2 [0, (l.length : Int)] N _ rfl HNN.out (Rd.lit w #[.int .i64 0, .int .i64 (l.length : Int)] _) (by
      intro v hv
      simp only [List.mem_cons, List.not_mem_nil, or_false] at hv
      rcases hv with rfl | rfl
      · exact ⟨by omega, by omega⟩
      · exact ⟨by omega, by omega⟩) (by simp)).mono ?_
    rintro e w3 ⟨A3, c3, rfl, hn3, hb3⟩
    have Hb3 : Hid (Below w.heap.size w w3) := Lib.hid (ext_trans (ext_alloc (Below.refl _ _) _) hb3)
    have Hn3 : Hid (New w w3 A3 c3 N) := Lib.hid (hn3.back (ext_alloc (Below.refl _ _) _).size)
    clear hn3 hb3
    go_wp2_with fail
    refine (refnums_any A l.length c l D w3 rfl HDD.out (HA.out.ext Hb3.out) (fun v hv => by have := H2.out v hv; exact ⟨by omega, by omega⟩) (by omega)).mono ?_
    rintro e w4 ⟨A4, c4, rfl, hn4, hb4⟩
    have Hb4 := Lib.hid hb4
    have Hn4 := Lib.hid hn4
    clear hn4 hb4
    go_wp2_with (at_builtin
                 refine wpList_app _ rfl (.tmp 10) (.tmp 12) _ rfl _ _ 1 Tryz.underlying26 info_u8 rfl A3 N.length c3 (N.map bv) rfl (by rw [List.length_map]) (Hn3.out.ext Hb4.out) A4 D.length c4 (D.map bv) rfl (by rw [List.length_map]) Hn4.out.rd (bvs_one _) hk1 hk2 ?_
                 intro A5 c5 w5 hown5 honly5)
    go_ret2
    obtain ⟨g1, g2⟩ := New.grow (ext_trans Hb3.out Hb4.out) hown5 honly5
    rw [HR.out]
    refine ⟨A5, c5, ?_, ?_, g2⟩
    · show _ = Ending.returned (.tuple #[.slice A5 (plainP l).length c5, .int .i64 0])
      rw [HP.out, List.length_append]
      rfl
    · show New w w5 A5 c5 (plainP l)
      rw [HP.out]
      exact g1

set_option maxHeartbeats 8000000 in
theorem rdelta_any (A : Option Addr) (c : Nat) (l : List Int) (w : World) (hA : Rd w A (l.map iv)) (hl : l.length ≤ 1099511627776) :
    Calls Tryz.prog 56 #[.slice A l.length c] w fun e w' => ∃ A' c', e = .returned (.tuple #[.slice A' (ansP l (deltaP l)).1.length c', .int .i64 (ansP l (deltaP l)).2]) ∧ New w w' A' c' (ansP l (deltaP l)).1 ∧ Below w.heap.size w w' := by
  have HM := Lib.hid (rmay_any A c l w hA hl)
  have HA := Lib.hid hA
  cases hm : mayP l with
  | false =>
    have HR : Hid (ansP l (deltaP l) = ([], 1)) := Lib.hid (by unfold ansP; rw [hm]; rfl)
    rw [hm] at HM
    clear hm hA
    go_enter Tryz.func56, Tryz.ntmps56
    go_wp2_with fail
    refine HM.out.mono ?_
    rintro e w' ⟨rfl, rfl⟩
    go_wp2
    go_ret2
    rw [HR.out]
    exact ⟨none, 0, rfl, Own.none_ _ _ _, Below.refl _ _⟩
  | true =>
    obtain ⟨h1, h2⟩ := (mayP_iff l).1 hm
    have hli : (l.length : Int) ≤ 32768 := by omega
    have HR : Hid (ansP l (deltaP l) = (deltaP l, 0)) := Lib.hid (by unfold ansP; rw [hm]; rfl)
    have HP : Hid (deltaP l = numsB [1, (l.length : Int)] ++ numsB (deltasTo l l.length)) := Lib.hid rfl
    have HN2 := Lib.hid (nums_two_len 1 (l.length : Int))
    have HNl : Hid (∀ k, (numsB (deltasTo l k)).length ≤ 9 * k) := Lib.hid (fun k => by
      have := numsB_len9 (deltasTo l k)
      rw [deltasTo_len] at this
      exact this)
    have H2 := Lib.hid h2
    have H1 := Lib.hid h1
    obtain ⟨N, hN⟩ : ∃ N, numsB [1, (l.length : Int)] = N := ⟨_, rfl⟩
    have HNN := Lib.hid hN
    rw [hN] at HP HN2
    rw [hm] at HM
    clear hm hA hN h2
    go_enter Tryz.func56, Tryz.ntmps56
    go_wp2_with fail
    refine HM.out.mono ?_
    rintro e w' ⟨rfl, rfl⟩
    go_wp2_with fail
    refine (refnums_any _ 2 2 [1, (l.length : Int)] N _ rfl HNN.out (Rd.lit w #[.int .i64 1, .int .i64 (l.length : Int)] _) (by
      intro v hv
      simp only [List.mem_cons, List.not_mem_nil, or_false] at hv
      rcases hv with rfl | rfl
      · exact ⟨by omega, by omega⟩
      · exact ⟨by omega, by omega⟩) (by simp)).mono ?_
    rintro e w3 ⟨A3, c3, rfl, hn3, hb3⟩
    have Hb3 : Hid (Below w.heap.size w w3) := Lib.hid (ext_trans (ext_alloc (Below.refl _ _) _) hb3)
    have Hn3 : Hid (New w w3 A3 c3 N) := Lib.hid (hn3.back (ext_alloc (Below.refl _ _) _).size)
    clear hn3 hb3
    go_wp2
    go_loopw [4, 5, 6] (fun s a i wr => ∃ (k : Nat) (ds : List UInt8) (A1 : Option Addr) (c1 : Nat), k ≤ l.length ∧ i = .int .i64 (k : Int) ∧ a = .int .i64 (prevP l k) ∧ s = .slice A1 ds.length c1 ∧ Hid (ds = N ++ numsB (deltasTo l k)) ∧ New w wr A1 c1 ds ∧ Below w.heap.size w wr) (fun _ _ i _ => l.length - (intOf i).toNat)
    case atStart => exact ⟨0, N, A3, c3, Nat.zero_le _, rfl, rfl, rfl, Lib.hid (by simp [deltasTo, numsB]), Hn3.out, Hb3.out⟩
    case round =>
      obtain ⟨k, ds, A1, c1, hk, rfl, rfl, rfl, Hds, hn, hb⟩ := hrel
      have Hn := Lib.hid hn
      have Hb := Lib.hid hb
      have hdl : ds.length ≤ 18 + 9 * k := by
        rw [Hds.out, List.length_append]
        have := HNl.out k
        have := HN2.out
        omega
      by_cases hlt : k < l.length
      · have hki : (k : Int) < (l.length : Int) := by omega
        obtain ⟨ad, hB, hcell⟩ := rd_int (HA.out.ext hb) hlt
        subst hB
        have hgd : l.getD k 0 = l[k] := by rw [List.getD_eq_getElem?_getD, List.getElem?_eq_getElem hlt]; rfl
        have Hpk : Hid (prevP l (k + 1) = l[k]) := Lib.hid (by unfold prevP; rw [if_neg (by omega), Nat.add_sub_cancel, hgd])
        have Hsn : Hid (N ++ numsB (deltasTo l (k + 1)) = (N ++ numsB (deltasTo l k)) ++ dig (clamp (foldP (l[k] - prevP l k)))) := Lib.hid (by rw [deltasTo_succ, hgd, numsB_append, List.append_assoc, numsB_one])
        have b1 := H2.out _ (List.getElem_mem hlt)
        have b2 := prevP_ok H2.out hlt
        have b3 := fold_ok H2.out hlt
        rw [hgd] at b3
        have hfo : foldP (l[k] - prevP l k) = if l[k] - prevP l k < 0 then -2 * (l[k] - prevP l k) - 1 else 2 * (l[k] - prevP l k) := rfl
        have hw1 : IntKind.i64.wrap (l[k] - prevP l k) = l[k] - prevP l k := IntWalk.i64_in _ (by omega)
        generalize foldP (l[k] - prevP l k) = F at *
        generalize prevP l k = p at *
        generalize hx : l[k] = x at *
        have Hx := Lib.hid hx
        clear hx
        have hY9 := dig_nine F
        rw [numsB_one] at hY9
        have HFN : Hid (∀ W : World, Calls Tryz.prog 24 #[.int .i64 F] W fun e w' => ∃ A' c', e = .returned (.slice A' (dig (clamp F)).length c') ∧ New W w' A' c' (dig (clamp F)) ∧ Below W.heap.size W w') := Lib.hid (fun W => refnum_any F W ⟨by omega, by omega⟩)
        obtain ⟨Y, hY⟩ : ∃ Y, dig (clamp F) = Y := ⟨_, rfl⟩
        rw [hY] at HFN Hsn hY9
        have hk1 : ds.length + Y.length ≤ maxLen := by unfold maxLen; omega
        have hk2 : (ds.length + Y.length) * 1 ≤ 140737488355328 := by omega
        clear hn hb hgd hY hY9 b3 hdl
        by_cases hneg : x - p < 0
        · have d0 : decide (0 ≤ x - p) = false := decide_eq_false (by omega)
          rw [if_pos hneg] at hfo
          have f1 : IntKind.i64.wrap (-2 * (x - p)) = -2 * (x - p) := IntWalk.i64_in _ (by omega)
          have f2 : IntKind.i64.wrap (-2 * (x - p) - 1) = F := by rw [hfo]; exact IntWalk.i64_in _ (by omega)
          have HC := Lib.hid (HFN.out wr)
          have hfo2 : -2 * (x - p) - 1 = F := hfo.symm
          clear HFN hfo
          go_wp2_with fail
          refine HC.out.mono ?_
          rintro e w4 ⟨A4, c4, rfl, hn4, hb4⟩
          have Hb4 := Lib.hid hb4
          have Hn4 := Lib.hid hn4
          clear hn4 hb4
          go_wp2_with (at_builtin
                       refine wpList_app _ rfl (.tmp 34) (.tmp 38) _ rfl _ _ 1 Tryz.underlying26 info_u8 rfl A1 ds.length c1 (ds.map bv) rfl (by rw [List.length_map]) (Hn.out.ext Hb4.out) A4 Y.length c4 (Y.map bv) rfl (by rw [List.length_map]) Hn4.out.rd (bvs_one _) hk1 hk2 ?_
                       intro A5 c5 w5 hown5 honly5
                       obtain ⟨g1, g2⟩ := New.grow (ext_trans Hb.out Hb4.out) hown5 honly5
                       obtain ⟨ad', hB', hcell'⟩ := rd_int (HA.out.ext g2) hlt
                       injection hB' with hB'
                       subst hB'
                       rw [Hx.out] at hcell'
                       have G1 := Lib.hid g1
                       have G2 := Lib.hid g2
                       clear hown5 honly5 g1 g2)
          go_roundw
          case rel => exact ⟨k + 1, ds ++ Y, A5, c5, by omega, by go_num, by rw [Hpk.out], by rw [List.length_append], Lib.hid (by rw [Hsn.out, Hds.out]), G1.out, G2.out⟩
          case measure => simp [intOf]; omega
        · have d0 : decide (0 ≤ x - p) = true := decide_eq_true (by omega)
          rw [if_neg hneg] at hfo
          have f1 : IntKind.i64.wrap (2 * (x - p)) = F := by rw [hfo]; exact IntWalk.i64_in _ (by omega)
          have HC := Lib.hid (HFN.out wr)
          have hfo2 : 2 * (x - p) = F := hfo.symm
          clear HFN hfo
          go_wp2_with fail
          refine HC.out.mono ?_
          rintro e w4 ⟨A4, c4, rfl, hn4, hb4⟩
          have Hb4 := Lib.hid hb4
          have Hn4 := Lib.hid hn4
          clear hn4 hb4
          go_wp2_with (at_builtin
                       refine wpList_app _ rfl (.tmp 29) (.tmp 32) _ rfl _ _ 1 Tryz.underlying26 info_u8 rfl A1 ds.length c1 (ds.map bv) rfl (by rw [List.length_map]) (Hn.out.ext Hb4.out) A4 Y.length c4 (Y.map bv) rfl (by rw [List.length_map]) Hn4.out.rd (bvs_one _) hk1 hk2 ?_
                       intro A5 c5 w5 hown5 honly5
                       obtain ⟨g1, g2⟩ := New.grow (ext_trans Hb.out Hb4.out) hown5 honly5
                       obtain ⟨ad', hB', hcell'⟩ := rd_int (HA.out.ext g2) hlt
                       injection hB' with hB'
                       subst hB'
                       rw [Hx.out] at hcell'
                       have G1 := Lib.hid g1
                       have G2 := Lib.hid g2
                       clear hown5 honly5 g1 g2)
          go_roundw
          case rel => exact ⟨k + 1, ds ++ Y, A5, c5, by omega, by go_num, by rw [Hpk.out], by rw [List.length_append], Lib.hid (by rw [Hsn.out, Hds.out]), G1.out, G2.out⟩
          case measure => simp [intOf]; omega
      · obtain rfl : k = l.length := by omega
        go_wp2
        go_ret2
        rw [HR.out]
        refine ⟨A1, c1, ?_, ?_, hb⟩
        · show _ = Ending.returned (.tuple #[.slice A1 (deltaP l).length c1, .int .i64 0])
          rw [HP.out, ← Hds.out]
          rfl
        · show New w wr A1 c1 (deltaP l)
          rw [HP.out, ← Hds.out]
          exact hn
end Go.Proofs.YtpjgkacekelkdaaGreatDoor
