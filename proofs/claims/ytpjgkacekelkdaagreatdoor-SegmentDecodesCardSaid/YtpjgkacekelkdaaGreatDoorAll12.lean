/-
  Texts of this claim, joined (part 12): contracts and lemmas that the last text goes by. No statement of the seat is proved here.
-/
import Derived.Test.YtpjgkacekelkdaaGreatDoorAll10
import Derived.Test.YtpjgkacekelkdaaGreatDoorAll11
import Derived.Test.YtpjgkacekelkdaaGreatDoorAll1
import Derived.Deep.RegionHeld3
set_option linter.unusedVariables false
set_option linter.unusedSimpArgs false
/-
  Lines out of columns (program). No statement of the seat is proved here.
-/
namespace Go.Proofs.YtpjgkacekelkdaaGreatDoor
open Go Go.RowKit
set_option maxRecDepth 100000

theorem RowO.max {w : World} {e : TypeId} {sz : Nat} {A : Option Addr} {m c : Nat} {xs : List Value} (h : RowO w e sz A m c xs) : c ≤ maxLen := by
  rcases h.2 with ⟨_, _, h3⟩ | ⟨_, _, _, _, _, h3, _⟩
  · rw [h3]; exact Nat.zero_le _
  · exact h3
/-- rows of cells that are lines, whose variables lie in rows of their own -/
def RowT (w : World) (xs : List Value) (l : List Ln) : Prop := xs.length = l.length * 2 ∧ ∀ (j : Nat) (h : j < l.length), ∃ B c, xs[j * 2]? = some (.int .i64 l[j].id) ∧ xs[j * 2 + 1]? = some (.slice B l[j].vars.length c) ∧ isInt l[j].id ∧ RowO w 9 1 B l[j].vars.length c (l[j].vars.map strV)
theorem RowT.nil (w : World) : RowT w [] [] := ⟨rfl, fun j h => absurd h (by simp)⟩
theorem RowT.ext {w w' : World} {xs : List Value} {l : List Ln} (h : RowT w xs l) (hb : Below w.heap.size w w') : RowT w' xs l := ⟨h.1, fun j hj => by
  obtain ⟨B, c, h1, h2, h3, h4⟩ := h.2 j hj
  exact ⟨B, c, h1, h2, h3, h4.ext hb⟩⟩
theorem RowT.only {w w' : World} {xs ys : List Value} {l : List Ln} {e : TypeId} {sz m d : Nat} {D : Option Addr} (h : RowT w xs l) (hD : RowO w e sz D m d ys) (ht : 9 ≠ e) (ho : Only (inA D) w w') : RowT w' xs l := ⟨h.1, fun j hj => by
  obtain ⟨B, c, h1, h2, h3, h4⟩ := h.2 j hj
  exact ⟨B, c, h1, h2, h3, h4.only ho (h4.ne_row hD ht)⟩⟩
theorem RowT.app {w : World} {xs ys : List Value} {l m : List Ln} (h : RowT w xs l) (k : RowT w ys m) : RowT w (xs ++ ys) (l ++ m) := by
  refine ⟨by rw [List.length_append, List.length_append, h.1, k.1]; omega, fun j hj => ?_⟩
  by_cases hl : j < l.length
  · obtain ⟨B, c, e1, e2, e3⟩ := h.2 j hl
    refine ⟨B, c, ?_, ?_, ?_⟩
    · rw [List.getElem?_append_left (by rw [h.1]; omega), List.getElem_append_left hl]; exact e1
    · rw [List.getElem?_append_left (by rw [h.1]; omega), List.getElem_append_left hl]; exact e2
    · rw [List.getElem_append_left hl]; exact e3
  · have hj2 : j - l.length < m.length := by rw [List.length_append] at hj; omega
    obtain ⟨B, c, e1, e2, e3⟩ := k.2 (j - l.length) hj2
    refine ⟨B, c, ?_, ?_, ?_⟩
    · rw [List.getElem?_append_right (by rw [h.1]; omega), h.1, show j * 2 - l.length * 2 = (j - l.length) * 2 by omega, List.getElem_append_right (by omega)]; exact e1
    · rw [List.getElem?_append_right (by rw [h.1]; omega), h.1, show j * 2 + 1 - l.length * 2 = (j - l.length) * 2 + 1 by omega, List.getElem_append_right (by omega)]; exact e2
    · rw [List.getElem_append_right (by omega)]; exact e3
theorem RowT.one {w : World} {x : Ln} {B : Option Addr} {c : Nat} (hi : isInt x.id) (h : RowO w 9 1 B x.vars.length c (x.vars.map strV)) : RowT w [.int .i64 x.id, .slice B x.vars.length c] [x] := ⟨rfl, fun j hj => by
  obtain rfl : j = 0 := by simpa using hj
  exact ⟨B, c, rfl, rfl, hi, h⟩⟩
theorem RowT.rowL {w : World} {xs : List Value} {l : List Ln} (h : RowT w xs l) : RowL w xs l := ⟨h.1, fun j hj => by
  obtain ⟨B, c, h1, h2, h3, h4⟩ := h.2 j hj
  exact ⟨_, _, h1, h2, B, c, rfl, h3, h4.le, h4.max, h4.nil_cap, h4.rd⟩⟩
/-- lines in a list of their own -/
theorem RowT.row {w : World} {A : Option Addr} {m c : Nat} {xs : List Value} {l : List Ln} (h : RowT w xs l) (ho : RowO w 47 2 A m c xs) : RowR IsLn 2 w A l := h.rowL.row ho
theorem info_ln : (Tryz.prog.info? 47).map (fun i => (i.zero, i.size, i.bytes)) = some (some (.agg #[.int .i64 0, .slice none 0 0]), 2, 32) := by kernel_rfl

theorem take_min (l : List (List UInt8)) (n : Nat) : l.take (min n l.length) = l.take n ∧ l.drop (min n l.length) = l.drop n := by
  rcases Nat.le_total n l.length with h | h
  · rw [Nat.min_eq_left h]; exact ⟨rfl, rfl⟩
  · rw [Nat.min_eq_right h, List.take_of_length_le (Nat.le_refl _), List.take_of_length_le h, List.drop_of_length_le (Nat.le_refl _), List.drop_of_length_le h]; exact ⟨rfl, rfl⟩
theorem rd_intG {w : World} {A : Option Addr} {l : List Int} (h : Rd w A (l.map iv)) {k : Nat} (hk : k < l.length) : ∃ ad, A = some ad ∧ w.cell? (ad.add k) = some (.int .i64 l[k]) := by
  obtain ⟨ad, e, hc⟩ := h.at_ (k := k) (by simpa using hk)
  exact ⟨ad, e, by rw [hc, List.getElem_map]; rfl⟩

set_option maxHeartbeats 16000000 in
theorem lines_any (A B C : Option Addr) (a b c : Nat) (ids cnt : List Int) (vars : List (List UInt8)) (w : World) (hA : Rd w A (ids.map iv)) (hB : Rd w B (cnt.map iv)) (hC : Rd w C (vars.map strV)) (h0 : C = none → c = 0) (hcap : vars.length ≤ c)
    (hl1 : ids.length ≤ 32768) (hl2 : cnt.length ≤ 32768) (hl3 : vars.length ≤ 32768) (hi1 : ∀ v ∈ ids, isInt v) (hi2 : ∀ v ∈ cnt, 0 ≤ v ∧ v ≤ 9223372036854775807) :
    Calls Tryz.prog 38 #[.agg #[.slice A ids.length a, .slice B cnt.length b, .slice C vars.length c]] w fun e w' => ∃ D d xs, e = .returned (.slice D (linesK ids cnt vars (min ids.length cnt.length)).1.length d) ∧
      NewO w w' 47 2 D (linesK ids cnt vars (min ids.length cnt.length)).1.length d xs ∧ RowT w' xs (linesK ids cnt vars (min ids.length cnt.length)).1 := by
  obtain ⟨M, hM⟩ : ∃ M, min ids.length cnt.length = M := ⟨_, rfl⟩
  rw [hM]
  have hM1 : M ≤ ids.length := by omega
  have hM2 : M ≤ cnt.length := by omega
  have hMi : (M : Int) ≤ 32768 := by omega
  have hmn : min (ids.length : Int) (cnt.length : Int) = (M : Int) := by omega
  obtain ⟨w0, hw0⟩ : ∃ w0, w0 = w.alloc (.cells #[.slice A ids.length a, .slice B cnt.length b, .slice C vars.length c] 50) := ⟨_, rfl⟩
  have hb0 : Below w.heap.size w w0 := by rw [hw0]; exact ext_alloc (Below.refl _ _) _
  have HB0 : Hid (Blk w0 w.heap.size 50 #[.slice A ids.length a, .slice B cnt.length b, .slice C vars.length c]) := Lib.hid (by rw [hw0]; exact Blk.new _ _ _)
  have HA := Lib.hid (hA.ext hb0)
  have HB := Lib.hid (hB.ext hb0)
  have HC := Lib.hid (hC.ext hb0)
  have Hb0 := Lib.hid hb0
  have Hw0 := Lib.hid hw0
  have H1 := Lib.hid hi1
  have H2 := Lib.hid hi2
  have H0 := Lib.hid h0
  have Hle := Lib.hid (linesK_le ids cnt vars)
  have Hln := Lib.hid (linesK_len ids cnt vars)
  clear hA hB hC h0 hi1 hi2 hb0 hM
  go_enter Tryz.func38, Tryz.ntmps38
  go_wp2
  rw [← Hw0.out]
  go_loopw [3, 4, 16] (fun s r i wr => ∃ (k n : Nat) (D : Option Addr) (d : Nat) (xs : List Value) (R : List (List UInt8)) (Cr : Option Addr) (cr : Nat), k ≤ M ∧ i = .int .i64 (k : Int) ∧ s = .slice D n d ∧ r = .slice Cr R.length cr ∧ Hid (n = k) ∧ Hid (R = (linesK ids cnt vars k).2) ∧
    Hid (NewO w0 wr 47 2 D n d xs) ∧ Hid (RowT wr xs (linesK ids cnt vars k).1) ∧ Hid (Rd w0 Cr (R.map strV)) ∧ Hid (R.length ≤ cr) ∧ Hid (Cr = none → cr = 0)) (fun _ _ i _ => M - (intOf i).toNat)
  case atStart => exact ⟨0, 0, none, 0, [], vars, C, c, Nat.zero_le _, rfl, rfl, rfl, Lib.hid rfl, Lib.hid rfl, Lib.hid (NewO.start _ _ _), Lib.hid (RowT.nil _), HC, Lib.hid hcap, H0⟩
  case round =>
    obtain ⟨k, n, D, d, xs, R, Cr, cr, hk, rfl, rfl, rfl, Hn, HR, HN, HT, HRd, Hcr, HCn⟩ := hrel
    by_cases hlt : k < M
    · have hki : (k : Int) < (M : Int) := by omega
      have hk1 : k < ids.length := by omega
      have hk2 : k < cnt.length := by omega
      have hki1 : (k : Int) < (ids.length : Int) := by omega
      have hki2 : (k : Int) < (cnt.length : Int) := by omega
      obtain ⟨adA, rfl, x0⟩ := rd_intG (HA.out.ext HN.out.bel) hk1
      obtain ⟨adB, rfl, x1⟩ := rd_intG (HB.out.ext HN.out.bel) hk2
      have hg1 : ids.getD k 0 = ids[k] := by rw [List.getD_eq_getElem?_getD, List.getElem?_eq_getElem hk1]; rfl
      have hg2 : cnt.getD k 0 = cnt[k] := by rw [List.getD_eq_getElem?_getD, List.getElem?_eq_getElem hk2]; rfl
      have hRl : R.length ≤ 32768 := by have := Hle.out k; rw [HR.out]; omega
      obtain ⟨hc1, hc2⟩ := H2.out _ (List.getElem_mem hk2)
      have hidi := H1.out _ (List.getElem_mem hk1)
      obtain ⟨nn, hnn⟩ : ∃ nn, min cnt[k].toNat R.length = nn := ⟨_, rfl⟩
      obtain ⟨tk1, tk2⟩ := take_min R cnt[k].toNat
      rw [hnn] at tk1 tk2
      have hnR : nn ≤ R.length := by omega
      have hmc : min cnt[k] (R.length : Int) = (nn : Int) := by omega
      have hS1 : (linesK ids cnt vars (k + 1)).1 = (linesK ids cnt vars k).1 ++ [⟨ids[k], R.take nn⟩] := by rw [tk1, HR.out, ← hg1, ← hg2]; rfl
      have hS2 : (linesK ids cnt vars (k + 1)).2 = R.drop nn := by rw [tk2, HR.out, ← hg2]; rfl
      have HS1 := Lib.hid hS1
      have HS2 := Lib.hid hS2
      have htl : (R.take nn).length = nn := by rw [List.length_take]; omega
      have Htl := Lib.hid htl
      have HCl : Hid (∀ W, Below w0.heap.size w0 W → Calls Tryz.prog 76 #[.slice Cr nn cr] W fun e w' => ∃ A' c', e = .returned (.slice A' nn c') ∧ NewO W w' 9 1 A' nn c' ((R.take nn).map strV)) := Lib.hid (fun W hb => clone_strs Cr nn cr ((R.take nn).map strV) (by simp; omega) (by rw [List.map_take]; exact (HRd.out.take nn).ext hb) (fun h => by have h1 := HCn.out h; have h2 := Hcr.out; exact ⟨by omega, h1⟩) (strVs_one _) (by omega))
      have Hcut : Hid (Rd w0 (if cr = nn then Cr else Cr.map (·.add nn)) ((R.drop nn).map strV)) := Lib.hid (by
        have h := HRd.out.cut (k := nn) (cap := cr) (by rw [List.length_map]; exact Hcr.out)
        rw [Nat.mul_one, ← List.map_drop] at h
        exact h)
      have HK : Hid (∀ W, Below w0.heap.size w0 W → W.cell? ⟨w.heap.size, 0, none⟩ = some (.slice (some adA) ids.length a) ∧ W.cell? (adA.add k) = some (.int .i64 ids[k])) := Lib.hid (fun W hW => by
        refine ⟨(HB0.out.ext hW).cell 0, ?_⟩
        obtain ⟨ad, e, z⟩ := rd_intG (HA.out.ext hW) hk1
        injection e with e
        subst e
        exact z)
      have hp1 : n + 1 ≤ maxLen := by unfold maxLen; have := Hn.out; omega
      have hp2 : (n + 1) * 32 ≤ 140737488355328 := by have := Hn.out; omega
      have hblk := HB0.out.ext HN.out.bel
      have y0 := hblk.cell 0
      have y1 := hblk.cell 1
      simp only [List.getElem?_toArray, List.getElem?_cons_zero, List.getElem?_cons_succ] at y0 y1
      have Hid1 : Hid (isInt ids[k]) := Lib.hid hidi
      have hcrn : nn ≤ cr := by have := Hcr.out; omega
      generalize ids[k] = idv at *
      generalize cnt[k] = cv at *
      clear hg1 hg2 tk1 tk2 hS1 hS2 hblk hidi htl hnn
      go_wp2_with fail
      refine wp_region_held_drew (S := fun W => W.cell? ⟨w.heap.size, 0, none⟩ = some (.slice (some adA) ids.length a) ∧ W.cell? (adA.add k) = some (.int .i64 idv)) (by kernel_rfl) ?_ (fun hHeld => ?_)
      · exact HK.out _ (by first | exact HN5.out.bel | exact ext_trans HN.out.bel (ext_trans HE.out (by repeat (first | exact Below.refl _ _ | apply ext_drew | apply ext_drewN | apply ext_alloc))) | exact ext_trans HN.out.bel (by repeat (first | exact Below.refl _ _ | apply ext_drew | apply ext_drewN | apply ext_alloc)))
      refine wpAnyH_take (i := 0) (v := ?_) (take_list rfl) (by kernel_rfl) (by kernel_rfl) (by kernel_rfl) (fun _ _ _ h => h) (Or.inl ⟨by rfl, ?_⟩) (by assumption) ?_
      rotate_left
      · intro w hSw
        try dsimp only at hSw
        first | (go_simp; done) | (go_simp; with_reducible rfl)
      try simp only [Act.put, List.setIfInBounds_toArray, List.set_cons_zero, List.set_cons_succ]
      refine wpAnyH_take (i := 1) (v := ?_) (take_list rfl) (by kernel_rfl) (by kernel_rfl) (by kernel_rfl) (fun _ _ _ h => h) (Or.inl ⟨by rfl, ?_⟩) (by assumption) ?_
      rotate_left
      · intro w hSw
        try dsimp only at hSw
        first | (go_simp; done) | (go_simp; with_reducible rfl)
      try simp only [Act.put, List.setIfInBounds_toArray, List.set_cons_zero, List.set_cons_succ]
      refine wpAnyH_take (i := 2) (v := ?_) (take_list rfl) (by kernel_rfl) (by kernel_rfl) (by kernel_rfl) (fun _ _ _ h => h) (Or.inl ⟨by rfl, ?_⟩) (by assumption) ?_
      rotate_left
      · intro w hSw
        try dsimp only at hSw
        first | (go_simp; done) | (go_simp; with_reducible rfl)
      try simp only [Act.put, List.setIfInBounds_toArray, List.set_cons_zero, List.set_cons_succ]
      refine wpAnyH_take (i := 3) (v := ?_) (take_list rfl) (by kernel_rfl) (by kernel_rfl) (by kernel_rfl) (fun _ _ _ h => h) (Or.inl ⟨by rfl, ?_⟩) (by assumption) ?_
      rotate_left
      · intro w hSw
        try dsimp only at hSw
        first | (go_simp; done) | (go_simp; with_reducible rfl)
      try simp only [Act.put, List.setIfInBounds_toArray, List.set_cons_zero, List.set_cons_succ]
      refine wpAnyH_take (i := 4) (v := ?_) (take_list rfl) (by kernel_rfl) (by kernel_rfl) (by kernel_rfl) (fun _ _ _ h => h) (Or.inl ⟨by rfl, ?_⟩) (by assumption) ?_
      rotate_left
      · intro w hSw
        try dsimp only at hSw
        first | (go_simp; done) | (go_simp; with_reducible rfl)
      try simp only [Act.put, List.setIfInBounds_toArray, List.set_cons_zero, List.set_cons_succ]
      refine wpAnyH_take (i := 5) (v := ?_) (take_list rfl) (by kernel_rfl) (by kernel_rfl) (by kernel_rfl) (fun _ _ _ h => h) (Or.inl ⟨by rfl, ?_⟩) (by assumption) ?_
      rotate_left
      · intro w hSw
        try dsimp only at hSw
        first | (go_simp; done) | (go_simp; with_reducible rfl)
      try simp only [Act.put, List.setIfInBounds_toArray, List.set_cons_zero, List.set_cons_succ]
      refine wpAnyH_take (i := 6) (v := ?_) (take_list rfl) (by kernel_rfl) (by kernel_rfl) (by kernel_rfl) (fun _ _ _ h => h) (Or.inl ⟨by rfl, ?_⟩) (by assumption) ?_
      rotate_left
      · intro w hSw
        try dsimp only at hSw
        first | (go_simp; done) | (go_simp; with_reducible rfl)
      try simp only [Act.put, List.setIfInBounds_toArray, List.set_cons_zero, List.set_cons_succ]
      refine wpAnyH_take (i := 7) (v := ?_) (take_list rfl) (by kernel_rfl) (by kernel_rfl) (by kernel_rfl) (fun _ _ _ h => h) (Or.inl ⟨by rfl, ?_⟩) (by assumption) ?_
      rotate_left
      · intro w hSw
        try dsimp only at hSw
        first | (go_simp; done) | (go_simp; with_reducible rfl)
      try simp only [Act.put, List.setIfInBounds_toArray, List.set_cons_zero, List.set_cons_succ]
      refine wpAnyH_take (i := 8) (v := ?_) (take_list rfl) (by kernel_rfl) (by kernel_rfl) (by kernel_rfl) (fun _ _ _ h => h) (Or.inl ⟨by rfl, ?_⟩) (by assumption) ?_
      rotate_left
      · intro w hSw
        try dsimp only at hSw
        first | (go_simp; done) | (go_simp; with_reducible rfl)
      try simp only [Act.put, List.setIfInBounds_toArray, List.set_cons_zero, List.set_cons_succ]
      refine wpAnyH_ready (rs := [9]) (by kernel_rfl) (by simp) ?_
      refine AllReadyH.cons (take_list rfl) (fun K hK => ?_) ?_
      · skip
        go_simp
        refine (HCl.out _ (ext_trans HN.out.bel (by repeat (first | exact Below.refl _ _ | apply ext_drew | apply ext_drewN | apply ext_alloc)))).mono ?_
        rintro e x1 ⟨A4, c4, rfl, hn4⟩
        dsimp only
        have HE : Hid (Below wr.heap.size wr x1) := Lib.hid (ext_trans (by repeat (first | exact Below.refl _ _ | apply ext_drew | apply ext_drewN | apply ext_alloc)) hn4.bel)
        have Hn4 := Lib.hid hn4.row
        clear hn4
        refine hK.out _ _ ?_ (fun hHeld => ?_)
        · try dsimp only
          exact HK.out _ (by first | exact HN5.out.bel | exact ext_trans HN.out.bel (ext_trans HE.out (by repeat (first | exact Below.refl _ _ | apply ext_drew | apply ext_drewN | apply ext_alloc))) | exact ext_trans HN.out.bel (by repeat (first | exact Below.refl _ _ | apply ext_drew | apply ext_drewN | apply ext_alloc)))
        clear hK K
        refine wpAnyH_take (i := 10) (v := ?_) (take_list rfl) (by kernel_rfl) (by kernel_rfl) (by kernel_rfl) (fun _ _ _ h => h) (Or.inl ⟨by rfl, ?_⟩) (by assumption) ?_
        rotate_left
        · intro w hSw
          try dsimp only at hSw
          first | (go_simp; done) | (go_simp; with_reducible rfl)
        try simp only [Act.put, List.setIfInBounds_toArray, List.set_cons_zero, List.set_cons_succ]
        refine wpAnyH_ready (rs := [11]) (by kernel_rfl) (by simp) ?_
        refine AllReadyH.cons (take_list rfl) (fun K hK => ?_) ?_
        · skip
          go_simp
          refine hK.out _ _ ?_ (fun hHeld => ?_)
          · try dsimp only
            exact HK.out _ (by first | exact HN5.out.bel | exact ext_trans HN.out.bel (ext_trans HE.out (by repeat (first | exact Below.refl _ _ | apply ext_drew | apply ext_drewN | apply ext_alloc))) | exact ext_trans HN.out.bel (by repeat (first | exact Below.refl _ _ | apply ext_drew | apply ext_drewN | apply ext_alloc)))
          clear hK K
          refine wpAnyH_ready (rs := [12]) (by kernel_rfl) (by simp) ?_
          refine AllReadyH.cons (take_list rfl) (fun K hK => ?_) ?_
          · skip
            refine step_appO _ rfl (.tmp 27) (.tmp 38) _ rfl 47 _ 2 32 Tryz.underlying22 info_ln rfl D n d xs rfl ((HN.out.row.ext HE.out).alloc _) (some ⟨_, 0, none⟩) 1 1 [.int .i64 idv, .slice A4 nn c4] rfl rfl (Rd.lit_at _ #[.int .i64 idv, .slice A4 nn c4] _ (by first | rfl | simp)) (by intro u hu; simp at hu; rcases hu with rfl | rfl <;> rfl) (by intro h; cases h) hp1 hp2 ?_
            intro A5 c5 x2 hr5 ho5 hA5
            have HN5 := Lib.hid (HN.out.grow (ext_alloc HE.out _) hr5 ho5 hA5)
            have hone : RowT x2 [.int .i64 idv, .slice A4 nn c4] [⟨idv, R.take nn⟩] := by
              have h4 := (Hn4.out.alloc (.cells #[.int .i64 idv, .slice A4 nn c4] 47)).only ho5 (Hn4.out.ne_row (HN.out.row.ext HE.out) (by decide))
              have := RowT.one (w := x2) (x := ⟨idv, R.take nn⟩) (B := A4) (c := c4) Hid1.out (by rw [Htl.out]; exact h4)
              rw [Htl.out] at this
              exact this
            have HT5 := Lib.hid (((HT.out.ext (ext_alloc HE.out (.cells #[.int .i64 idv, .slice A4 nn c4] 47))).only ((HN.out.row.ext HE.out).alloc _) (by decide) ho5).app hone)
            clear hr5 ho5 hA5 hone
            refine hK.out _ _ ?_ (fun hHeld => ?_)
            · try dsimp only
              exact HK.out _ (by first | exact HN5.out.bel | exact ext_trans HN.out.bel (ext_trans HE.out (by repeat (first | exact Below.refl _ _ | apply ext_drew | apply ext_drewN | apply ext_alloc))) | exact ext_trans HN.out.bel (by repeat (first | exact Below.refl _ _ | apply ext_drew | apply ext_drewN | apply ext_alloc)))
            clear hK K
            refine wpAnyH_take (i := 13) (v := ?_) (take_list rfl) (by kernel_rfl) (by kernel_rfl) (by kernel_rfl) (fun _ _ _ h => h) (Or.inl ⟨by rfl, ?_⟩) (by assumption) ?_
            rotate_left
            · intro w hSw
              try dsimp only at hSw
              first | (go_simp; done) | (go_simp; with_reducible rfl)
            try simp only [Act.put, List.setIfInBounds_toArray, List.set_cons_zero, List.set_cons_succ]
            refine wpAnyH_done (by kernel_rfl) ?_ _
            go_wp2
            go_roundw
            case rel => exact ⟨k + 1, n + 1, A5, c5, _, R.drop nn, _, cr - nn, by omega, by go_num, rfl, by rw [List.length_drop], Lib.hid (by rw [Hn.out]), Lib.hid HS2.out.symm, HN5, Lib.hid (by rw [HS1.out]; exact HT5.out), Hcut, Lib.hid (by rw [List.length_drop]; have := Hcr.out; omega), Lib.hid (fun h => by
              by_cases hc : cr = nn
              · omega
              · rw [if_neg hc] at h
                have := HCn.out (by simpa using h)
                omega)⟩
            case measure => simp [intOf]; omega
          exact AllReadyH.nil
        exact AllReadyH.nil
      exact AllReadyH.nil
    · obtain rfl : k = M := by omega
      obtain rfl : n = k := Hn.out
      have hn2 := Hln.out n
      have HN2 := Lib.hid (HN.out.back Hb0.out)
      go_wp2
      go_ret
      exact ⟨D, d, rfl, xs, HN2.out, HT.out⟩
end Go.Proofs.YtpjgkacekelkdaaGreatDoor

/-
  Decode (program). No statement of the seat is proved here.
-/
namespace Go.Proofs.YtpjgkacekelkdaaGreatDoor
open Go Go.RowKit
set_option maxRecDepth 100000

theorem rd_ne {w : World} {A : Option Addr} {xs : List Value} {g : Nat} {t : TypeId} {cs : Array Value} (h : Rd w A xs) (hb : Blk w g t cs) (hd : ∀ u ∈ xs, ∀ i : Nat, cs[i]? ≠ some u) : ∀ ad, A = some ad → xs ≠ [] → ad.block ≠ g := fun ad e hne hg => by
  match xs, hne with
  | x :: r, _ =>
    obtain ⟨ad', e', hc⟩ := h 0 x rfl
    rw [e] at e'
    injection e' with e'
    subst e' hg
    unfold World.cell? at hc
    rw [block_add] at hc
    rw [show w.heap[ad.block]? = some (.cells cs t) from hb] at hc
    simp only at hc
    split at hc
    · cases hc
    · exact hd x (List.mem_cons_self ..) _ hc
theorem rd_setG {w : World} {A : Option Addr} {xs : List Value} {p : Addr} (h : Rd w A xs) (hn : ∀ ad, A = some ad → xs ≠ [] → ad.block ≠ p.block) (v : Value) : Rd (w.setCell p v) A xs := by
  by_cases hx : xs = []
  · subst hx; exact Rd.nil _ _
  · exact h.setCell (fun ad e => hn ad e hx) v
theorem iv_ne (l : List Int) {cs : Array Value} (hd : ∀ (i : Nat) (n : Int), cs[i]? ≠ some (.int .i64 n)) : ∀ u ∈ l.map iv, ∀ i : Nat, cs[i]? ≠ some u := fun u hu i => by
  obtain ⟨n, _, rfl⟩ := List.mem_map.1 hu
  exact hd i n
theorem strV_ne (l : List (List UInt8)) {cs : Array Value} (hd : ∀ (i : Nat) (n : ByteArray), cs[i]? ≠ some (.string n)) : ∀ u ∈ l.map strV, ∀ i : Nat, cs[i]? ≠ some u := fun u hu i => by
  obtain ⟨n, _, rfl⟩ := List.mem_map.1 hu
  exact hd i _
theorem decR_okG (p : List UInt8) : (decR p).1.length ≤ 32768 ∧ ∀ v ∈ (decR p).1, 0 ≤ v ∧ v ≤ 4611686018427387904 := by
  unfold decR
  cases h : decP p with
  | none => exact ⟨by simp, fun v hv => by cases hv⟩
  | some l =>
    obtain ⟨h1, h2⟩ := (mayP_iff l).1 (dec_may h)
    exact ⟨h1, fun v hv => by have := h2 v hv; omega⟩
theorem fstG_le (p : List UInt8) : fstG p ≤ 4611686018427387904 := stNum_le _ _
theorem row1_len (p : List UInt8) : (row1 p).1.length ≤ p.length ∧ (row1 p).2.1.length ≤ p.length := by
  have h1 := stNum_len p false
  have h2 := stBytes_len (stNum p false).2.1 (stNum p false).2.2
  unfold row1
  omega
theorem row2_len (p : List UInt8) : (row2 p).1.length ≤ p.length ∧ (row2 p).2.1.length ≤ p.length := by
  have h1 := row1_len p
  have h2 := stBytes_len (row1 p).2.1 (row1 p).2.2
  unfold row2
  omega
theorem row3_len (p : List UInt8) : (row3 p).1.length ≤ p.length ∧ (row3 p).2.1.length ≤ p.length := by
  have h1 := row2_len p
  have h2 := stBytes_len (row2 p).2.1 (row2 p).2.2
  unfold row3
  omega
theorem decG_tak (p : List UInt8) : takG p (gotG p) = decG p := by
  by_cases h : AreG p (gotG p)
  · rw [takG_yes h, decG_yes h]
  · rw [takG_no h, decG_no (fun s hs => h (by rw [hs.got]; exact hs))]

theorem RowT.far {w : World} {xs : List Value} {l : List Ln} {g : Nat} {t : TypeId} {cs : Array Value} (h : RowT w xs l) (hb : Blk w g t cs) (ht : 9 ≠ t) (j : Nat) (v : Value) : RowT (w.setCell ⟨g, j, none⟩ v) xs l := ⟨h.1, fun k hk => by
  obtain ⟨B, c, h1, h2, h3, h4⟩ := h.2 k hk
  exact ⟨B, c, h1, h2, h3, h4.keep fun q hq => Below.heap_setCell w _ v q (fun e => h4.ne_blk hb ht (by rw [← show q = g from e]; exact hq))⟩⟩
theorem RowO.far {w : World} {e : TypeId} {sz : Nat} {A : Option Addr} {m c : Nat} {xs : List Value} (h : RowO w e sz A m c xs) {p : Addr} (hp : ¬ inA A p.block) (v : Value) : RowO (w.setCell p v) e sz A m c xs :=
  h.keep fun k hk => Below.heap_setCell w p v k (fun e => hp (by rw [← e]; exact hk))
theorem cols_ne {A B C : Option Addr} {a1 a2 b1 b2 c1 c2 : Nat} (i : Nat) (n : Int) : (#[Value.slice A a1 a2, .slice B b1 b2, .slice C c1 c2] : Array Value)[i]? ≠ some (.int .i64 n) := by
  match i with
  | 0 => simp
  | 1 => simp
  | 2 => simp
  | i + 3 => simp
theorem cols_neS {A B C : Option Addr} {a1 a2 b1 b2 c1 c2 : Nat} (i : Nat) (n : ByteArray) : (#[Value.slice A a1 a2, .slice B b1 b2, .slice C c1 c2] : Array Value)[i]? ≠ some (.string n) := by
  match i with
  | 0 => simp
  | 1 => simp
  | 2 => simp
  | i + 3 => simp
theorem rdr_ne {A : Option Addr} {a1 a2 : Nat} {b : Bool} (i : Nat) (n : Int) : (#[Value.slice A a1 a2, .bool b] : Array Value)[i]? ≠ some (.int .i64 n) := by
  match i with
  | 0 => simp
  | 1 => simp
  | i + 2 => simp
theorem takG_two (p : List UInt8) (b : Sg) : takG p b = (b, 0) ∨ takG p b = (⟨0, []⟩, 2) := by
  by_cases h : AreG p b
  · exact .inl (takG_yes h)
  · exact .inr (takG_no h)

set_option maxHeartbeats 16000000 in
theorem decodeG_any (p : List UInt8) (A : Option Addr) (ca : Nat) (w : World) (ht : Tab w) (hA : Rd w A (p.map bv)) (hc : p.length ≤ ca) (hp : p.length ≤ 200000000) :
    Calls Tryz.prog 14 #[.slice A p.length ca] w fun e w' => ∃ B' c', e = .returned (.tuple #[sgV (decG p).1 B' c', .int .i64 (decG p).2]) ∧ SgIn w' (decG p).1 B' c' ∧ Below w.heap.size w w' := by
  rw [← decG_tak]
  obtain ⟨hi1, hi2⟩ := decR_okG (row1 p).1
  obtain ⟨hj1, hj2⟩ := decR_okG (row2 p).1
  obtain ⟨hv1, hv2⟩ := (mayD_iff _).1 (decD_may (p := (row3 p).1))
  have l1 := row1_len p
  have l2 := row2_len p
  have l3 := row3_len p
  have lf := fstG_le p
  have HNm : Hid (∀ fp g W, Rdr W fp g p false → Calls Tryz.prog 34 #[.pointer (some ⟨g, 0, none⟩)] W fun e w' => e = .returned (.int .i64 (fstG p : Int)) ∧ Rdr w' fp g (stNum p false).2.1 (stNum p false).2.2 ∧ Only (fun k => k = g) W w') := Lib.hid (fun fp g W h => rnum_st fp g p false W h (by omega))
  have HB1 : Hid (∀ fp g W, Rdr W fp g (stNum p false).2.1 (stNum p false).2.2 → Calls Tryz.prog 36 #[.pointer (some ⟨g, 0, none⟩)] W fun e w' => ∃ A' c', e = .returned (.slice A' (row1 p).1.length c') ∧ New W w' A' c' (row1 p).1 ∧ Rdr w' fp g (row1 p).2.1 (row1 p).2.2 ∧ Only (fun k => k = g) W w') := Lib.hid (fun fp g W h => rbytes_st fp g _ _ W h (by have := stNum_len p false; omega))
  have HB2 : Hid (∀ fp g W, Rdr W fp g (row1 p).2.1 (row1 p).2.2 → Calls Tryz.prog 36 #[.pointer (some ⟨g, 0, none⟩)] W fun e w' => ∃ A' c', e = .returned (.slice A' (row2 p).1.length c') ∧ New W w' A' c' (row2 p).1 ∧ Rdr w' fp g (row2 p).2.1 (row2 p).2.2 ∧ Only (fun k => k = g) W w') := Lib.hid (fun fp g W h => rbytes_st fp g _ _ W h (by omega))
  have HB3 : Hid (∀ fp g W, Rdr W fp g (row2 p).2.1 (row2 p).2.2 → Calls Tryz.prog 36 #[.pointer (some ⟨g, 0, none⟩)] W fun e w' => ∃ A' c', e = .returned (.slice A' (row3 p).1.length c') ∧ New W w' A' c' (row3 p).1 ∧ Rdr w' fp g (row3 p).2.1 (row3 p).2.2 ∧ Only (fun k => k = g) W w') := Lib.hid (fun fp g W h => rbytes_st fp g _ _ W h (by omega))
  have HD1 := Lib.hid (fun A a W h h2 => decode_any (row1 p).1 A a W h h2 (by omega))
  have HD2 := Lib.hid (fun A a W h h2 => decode_any (row2 p).1 A a W h h2 (by omega))
  have HD3 := Lib.hid (fun A a W h h2 => decodeD_any (row3 p).1 A a W h h2 (by omega))
  have HG : Hid (gotG p = ⟨(fstG p : Int), (linesK (decR (row1 p).1).1 (decR (row2 p).1).1 (decD (row3 p).1).1 (min (decR (row1 p).1).1.length (decR (row2 p).1).1.length)).1⟩) := Lib.hid rfl
  have HTk : Hid (∀ (A : Option Addr) (ca : Nat) (b : Sg) (B : Option Addr) (c : Nat) (W : World), b = gotG p → Tab W → Rd W A (p.map bv) → SgIn W b B c → Calls Tryz.prog 39 #[.slice A p.length ca, sgV b B c, .func (.func 6) #[] #[]] W fun e w' => ∃ B' c', e = .returned (.tuple #[sgV (takG p (gotG p)).1 B' c', .int .i64 (takG p (gotG p)).2]) ∧ SgIn w' (takG p (gotG p)).1 B' c' ∧ ((takG p (gotG p)).1.lines = [] ∨ B' = B) ∧ Below W.heap.size W w') := Lib.hid (fun A ca b B c W hb ht hA hS => by
    subst hb
    refine takenG_any p A ca (gotG p) B c W ht hA (by omega) hS (fun x hx v hv => ?_)
    have := hv2 v ((linesK_mem _ _ _ _).2 x hx v hv)
    unfold maxLen
    omega)
  have HTw := Lib.hid (takG_two p (gotG p))
  have Hv1 := Lib.hid hv1
  have Hi1 := Lib.hid hi1
  have Hi2 := Lib.hid hi2
  have Hj1 := Lib.hid hj1
  have Hj2 := Lib.hid hj2
  have HA := Lib.hid hA
  have Ht := Lib.hid ht
  have Hlf := Lib.hid lf
  have HNw := Lib.hid (fun W h => newreader A p.length ca p W rfl hc h (by omega))
  generalize decR (row1 p).1 = R1 at *
  generalize decR (row2 p).1 = R2 at *
  generalize decD (row3 p).1 = R3 at *
  obtain ⟨ids, e1⟩ := R1
  obtain ⟨cnt, e2⟩ := R2
  obtain ⟨vars, e3⟩ := R3
  simp only at HD1 HD2 HD3 HG Hv1 Hi1 Hi2 Hj1 Hj2
  generalize takG p (gotG p) = R at *
  generalize gotG p = G at *
  generalize fstG p = f at *
  generalize row1 p = q1 at *
  generalize row2 p = q2 at *
  generalize row3 p = q3 at *
  generalize stNum p false = q0 at *
  clear hi1 hi2 hj1 hj2 hv1 hv2 l1 l2 l3 lf ht hA hp hc
  obtain ⟨w0, hw0⟩ : ∃ w0, w0 = w.alloc (.cells #[.int .i64 0, .slice none 0 0] 24) := ⟨_, rfl⟩
  have Hb0 : Hid (Below w.heap.size w w0) := Lib.hid (by rw [hw0]; exact ext_alloc (Below.refl _ _) _)
  have HZ0 : Hid (w0.heap.size = w.heap.size + 1) := Lib.hid (by rw [hw0, World.size_alloc])
  have HB0 : Hid (Blk w0 w.heap.size 24 #[.int .i64 0, .slice none 0 0]) := Lib.hid (by rw [hw0]; exact Blk.new _ _ _)
  have HN0 := Lib.hid (HNw.out w0 (HA.out.ext Hb0.out))
  have Hw0 := Lib.hid hw0
  unfold sgV at HTk ⊢
  clear hw0 HNw
  go_enter Tryz.func14, Tryz.ntmps14
  go_wp2_with fail
  rw [← Hw0.out]
  refine HN0.out.mono ?_
  rintro e w2 ⟨g, rfl, hr2, hb2⟩
  have HX := Lib.hid (HNm.out _ g w2 hr2)
  have Hgl : Hid (w0.heap.size ≤ g ∧ g < w2.heap.size) := Lib.hid hr2.1
  have Hb2 := Lib.hid (show Below w0.heap.size w0 w2 from hb2)
  clear hr2 hb2 HNm HN0
  go_wp2_with fail
  refine HX.out.mono ?_
  rintro e w3 ⟨rfl, hr3, ho3⟩
  have Hb3 : Hid (Below w0.heap.size w0 w3) := Lib.hid (Hb2.out.trans (ho3.below (fun i hi => by have := Hgl.out; omega) Hb2.out.size))
  have Hg3 : Hid (g < w3.heap.size) := Lib.hid hr3.lt
  have Hw23 : Hid (w2.heap.size ≤ w3.heap.size) := Lib.hid ho3.size
  obtain ⟨w5, hw5⟩ : ∃ w5, w5 = (w3.alloc (.cells #[.int .i64 (f : Int), .slice none 0 0] 24)).alloc (.cells #[.slice none 0 0, .slice none 0 0, .slice none 0 0] 50) := ⟨_, rfl⟩
  have hb5 : Below w3.heap.size w3 w5 := by rw [hw5]; exact ext2 _ _ _
  have HS5 : Hid (Blk w5 w3.heap.size 24 #[.int .i64 (f : Int), .slice none 0 0]) := Lib.hid (by rw [hw5]; exact (Blk.new _ _ _).alloc _)
  have HC5 : Hid (Blk w5 (w3.heap.size + 1) 50 #[.slice none 0 0, .slice none 0 0, .slice none 0 0]) := Lib.hid (by rw [hw5, ← World.size_alloc w3 (.cells #[.int .i64 (f : Int), .slice none 0 0] 24)]; exact Blk.new _ _ _)
  have Hb5 := Lib.hid (ext_trans Hb3.out hb5)
  have HX := Lib.hid (HB1.out _ g w5 (hr3.ext hb5))
  have Hw5 := Lib.hid hw5
  clear hr3 ho3 hb5 hw5 HB1
  go_wp2_with fail
  have Hb5x : Hid (Below w0.heap.size w0 w5) := Hb5
  have Hb5x : Hid (Below w0.heap.size w0 w5) := Hb5
  have Hb5x : Hid (Below w0.heap.size w0 w5) := Hb5
  have Hb5x : Hid (Below w0.heap.size w0 w5) := Hb5
  have Hb5x : Hid (Below w0.heap.size w0 w5) := Hb5
  have Hb5x : Hid (Below w0.heap.size w0 w5) := Hb5
  rw [← Hw5.out]
  refine HX.out.mono ?_
  rintro e w6 ⟨A6, c6, rfl, hn6, hr6, ho6⟩
  have hc6 : q1.1.length ≤ c6 := by have := Own.cap hn6; simpa using this
  have HX := Lib.hid (HD1.out A6 c6 w6 hn6.rd hc6)
  have Hr6 := Lib.hid hr6
  have Hb6 : Hid (Below w0.heap.size w0 w6) := Lib.hid (Hb5x.out.trans (ho6.below (fun i hi => by have := Hgl.out; omega) Hb5x.out.size))
  have HC6 := Lib.hid (HC5.out.only ho6 (by have := Hg3.out; omega))
  have HS6 := Lib.hid (HS5.out.only ho6 (by have := Hg3.out; omega))
  clear hn6 hr6 ho6 hc6 HD1
  go_wp2_with fail
  refine HX.out.mono ?_
  rintro e w7 ⟨B1, d1, rfl, hq1, hb7⟩
  have hC7 := HC6.out.ext hb7
  have k0 := hC7.cell 0
  have f0 := hC7.free 0
  simp only [List.getElem?_toArray, List.setIfInBounds_toArray, List.set_cons_zero, List.set_cons_succ, List.getElem?_cons_zero, List.getElem?_cons_succ] at k0
  obtain ⟨w8, hw8⟩ : ∃ W, W = w7.setCell ⟨w3.heap.size + 1, 0, none⟩ (.slice B1 ids.length d1) := ⟨_, rfl⟩
  have Hb8 : Hid (Below w0.heap.size w0 w8) := Lib.hid (by rw [hw8]; exact (ext_trans Hb6.out hb7).setCell (by have := Hg3.out; have := Hgl.out; show w0.heap.size ≤ w3.heap.size + 1; omega) _)
  have HC8 : Hid (Blk w8 (w3.heap.size + 1) 50 #[.slice B1 ids.length d1, .slice none 0 0, .slice none 0 0]) := Lib.hid (by rw [hw8]; exact hC7.put 0 _)
  have HS8 : Hid (Blk w8 w3.heap.size 24 #[.int .i64 (f : Int), .slice none 0 0]) := Lib.hid (by rw [hw8]; exact (HS6.out.ext hb7).far (p := ⟨w3.heap.size + 1, 0, none⟩) (by show w3.heap.size ≠ w3.heap.size + 1; omega) _)
  have HP1 : Hid (Rd w8 B1 (ids.map iv)) := Lib.hid (by rw [hw8]; exact rd_setG hq1 (rd_ne hq1 hC7 (iv_ne _ cols_ne)) _)
  have hr8 : Rdr w8 (fun k => w0.heap.size ≤ k ∧ k < w2.heap.size) g q1.2.1 q1.2.2 := by rw [hw8]; exact (Hr6.out.ext hb7).only (Only.setCell (S := fun k => k = w3.heap.size + 1) (Only.refl _ _) (.inl rfl) _) (fun k hk h => by have h1 := hk.2; have := Hw23.out; omega)
  have HRb : Hid (∃ X x y, Blk w8 g 106 #[.slice X x y, .bool q1.2.2]) := Lib.hid (by obtain ⟨_, _, X, y, hb, _⟩ := hr8; exact ⟨X, _, y, hb⟩)
  obtain ⟨Xr, xr, yr, hRb⟩ := HRb.out
  have HRb := Lib.hid hRb
  have HX := Lib.hid (HB2.out _ g w8 hr8)
  have Hw8 := Lib.hid hw8
  clear hq1 hb7 hC7 hw8 hr8 hRb HB2
  go_wp2_with fail
  rw [← Hw8.out]
  refine HX.out.mono ?_
  rintro e w9 ⟨A9, c9, rfl, hn9, hr9, ho9⟩
  have hc9 : q2.1.length ≤ c9 := by have := Own.cap hn9; simpa using this
  have HX := Lib.hid (HD2.out A9 c9 w9 hn9.rd hc9)
  have Hr9 := Lib.hid hr9
  have Hb9 : Hid (Below w0.heap.size w0 w9) := Lib.hid (Hb8.out.trans (ho9.below (fun i hi => by have := Hgl.out; omega) Hb8.out.size))
  have HC9 := Lib.hid (HC8.out.only ho9 (by have := Hg3.out; omega))
  have HS9 := Lib.hid (HS8.out.only ho9 (by have := Hg3.out; omega))
  have HQ1_9 := Lib.hid (HP1.out.only ho9 (fun ad e hne h => rd_ne HP1.out HRb.out (iv_ne _ rdr_ne) ad e hne h))
  clear hn9 hr9 ho9 hc9 HD2
  go_wp2_with fail
  refine HX.out.mono ?_
  rintro e w10 ⟨B2, d2, rfl, hq2, hb10⟩
  have hC10 := HC9.out.ext hb10
  have k0 := hC10.cell 1
  have f0 := hC10.free 1
  simp only [List.getElem?_toArray, List.setIfInBounds_toArray, List.set_cons_zero, List.set_cons_succ, List.getElem?_cons_zero, List.getElem?_cons_succ] at k0
  obtain ⟨w11, hw11⟩ : ∃ W, W = w10.setCell ⟨w3.heap.size + 1, 1, none⟩ (.slice B2 cnt.length d2) := ⟨_, rfl⟩
  have Hb11 : Hid (Below w0.heap.size w0 w11) := Lib.hid (by rw [hw11]; exact (ext_trans Hb9.out hb10).setCell (by have := Hg3.out; have := Hgl.out; show w0.heap.size ≤ w3.heap.size + 1; omega) _)
  have HC11 : Hid (Blk w11 (w3.heap.size + 1) 50 #[.slice B1 ids.length d1, .slice B2 cnt.length d2, .slice none 0 0]) := Lib.hid (by rw [hw11]; exact hC10.put 1 _)
  have HS11 : Hid (Blk w11 w3.heap.size 24 #[.int .i64 (f : Int), .slice none 0 0]) := Lib.hid (by rw [hw11]; exact (HS9.out.ext hb10).far (p := ⟨w3.heap.size + 1, 1, none⟩) (by show w3.heap.size ≠ w3.heap.size + 1; omega) _)
  have HP2 : Hid (Rd w11 B2 (cnt.map iv)) := Lib.hid (by rw [hw11]; exact rd_setG hq2 (rd_ne hq2 hC10 (iv_ne _ cols_ne)) _)
  have HP1 : Hid (Rd w11 B1 (ids.map iv)) := Lib.hid (by rw [hw11]; exact rd_setG (HQ1_9.out.ext hb10) (rd_ne (HQ1_9.out.ext hb10) hC10 (iv_ne _ cols_ne)) _)
  have hr11 : Rdr w11 (fun k => w0.heap.size ≤ k ∧ k < w2.heap.size) g q2.2.1 q2.2.2 := by rw [hw11]; exact (Hr9.out.ext hb10).only (Only.setCell (S := fun k => k = w3.heap.size + 1) (Only.refl _ _) (.inl rfl) _) (fun k hk h => by have h1 := hk.2; have := Hw23.out; omega)
  have HRb : Hid (∃ X x y, Blk w11 g 106 #[.slice X x y, .bool q2.2.2]) := Lib.hid (by obtain ⟨_, _, X, y, hb, _⟩ := hr11; exact ⟨X, _, y, hb⟩)
  obtain ⟨Xr, xr, yr, hRb⟩ := HRb.out
  have HRb := Lib.hid hRb
  have HX := Lib.hid (HB3.out _ g w11 hr11)
  have Hw11 := Lib.hid hw11
  clear hq2 hb10 hC10 hw11 hr11 hRb HB3
  go_wp2_with fail
  rw [← Hw11.out]
  refine HX.out.mono ?_
  rintro e w12 ⟨A12, c12, rfl, hn12, hr12, ho12⟩
  have hc12 : q3.1.length ≤ c12 := by have := Own.cap hn12; simpa using this
  have HX := Lib.hid (HD3.out A12 c12 w12 hn12.rd hc12)
  have Hr12 := Lib.hid hr12
  have Hb12 : Hid (Below w0.heap.size w0 w12) := Lib.hid (Hb11.out.trans (ho12.below (fun i hi => by have := Hgl.out; omega) Hb11.out.size))
  have HC12 := Lib.hid (HC11.out.only ho12 (by have := Hg3.out; omega))
  have HS12 := Lib.hid (HS11.out.only ho12 (by have := Hg3.out; omega))
  have HQ1_12 := Lib.hid (HP1.out.only ho12 (fun ad e hne h => rd_ne HP1.out HRb.out (iv_ne _ rdr_ne) ad e hne h))
  have HQ2_12 := Lib.hid (HP2.out.only ho12 (fun ad e hne h => rd_ne HP2.out HRb.out (iv_ne _ rdr_ne) ad e hne h))
  clear hn12 hr12 ho12 hc12 HD3
  go_wp2_with fail
  refine HX.out.mono ?_
  rintro e w13 ⟨B3, d3, rfl, hx3, hb13⟩
  have hq3 := hx3.rd
  have Hn3 := Lib.hid hx3.nil
  have Hc3 := Lib.hid hx3.cap
  have hC13 := HC12.out.ext hb13
  have k0 := hC13.cell 2
  have f0 := hC13.free 2
  simp only [List.getElem?_toArray, List.setIfInBounds_toArray, List.set_cons_zero, List.set_cons_succ, List.getElem?_cons_zero, List.getElem?_cons_succ] at k0
  obtain ⟨w14, hw14⟩ : ∃ W, W = w13.setCell ⟨w3.heap.size + 1, 2, none⟩ (.slice B3 vars.length d3) := ⟨_, rfl⟩
  have Hb14 : Hid (Below w0.heap.size w0 w14) := Lib.hid (by rw [hw14]; exact (ext_trans Hb12.out hb13).setCell (by have := Hg3.out; have := Hgl.out; show w0.heap.size ≤ w3.heap.size + 1; omega) _)
  have HC14 : Hid (Blk w14 (w3.heap.size + 1) 50 #[.slice B1 ids.length d1, .slice B2 cnt.length d2, .slice B3 vars.length d3]) := Lib.hid (by rw [hw14]; exact hC13.put 2 _)
  have HS14 : Hid (Blk w14 w3.heap.size 24 #[.int .i64 (f : Int), .slice none 0 0]) := Lib.hid (by rw [hw14]; exact (HS12.out.ext hb13).far (p := ⟨w3.heap.size + 1, 2, none⟩) (by show w3.heap.size ≠ w3.heap.size + 1; omega) _)
  have HP3 : Hid (Rd w14 B3 (vars.map strV)) := Lib.hid (by rw [hw14]; exact rd_setG hq3 (rd_ne hq3 hC13 (strV_ne _ cols_neS)) _)
  have HP1 : Hid (Rd w14 B1 (ids.map iv)) := Lib.hid (by rw [hw14]; exact rd_setG (HQ1_12.out.ext hb13) (rd_ne (HQ1_12.out.ext hb13) hC13 (iv_ne _ cols_ne)) _)
  have HP2 : Hid (Rd w14 B2 (cnt.map iv)) := Lib.hid (by rw [hw14]; exact rd_setG (HQ2_12.out.ext hb13) (rd_ne (HQ2_12.out.ext hb13) hC13 (iv_ne _ cols_ne)) _)
  have Hw14 := Lib.hid hw14
  clear hq3 hx3 hb13 hC13
  have k1 := HC14.out.cell 0
  have k2 := HC14.out.cell 1
  have k3 := HC14.out.cell 2
  simp only [List.getElem?_toArray, List.setIfInBounds_toArray, List.set_cons_zero, List.set_cons_succ, List.getElem?_cons_zero, List.getElem?_cons_succ] at k1 k2 k3
  rw [hw14] at k1 k2 k3
  clear hw14
  go_wp2_with fail
  rw [← Hw14.out]
  have HL := Lib.hid (lines_any B1 B2 B3 d1 d2 d3 ids cnt vars w14 HP1.out HP2.out HP3.out Hn3.out Hc3.out Hi1.out Hj1.out Hv1.out (fun v hv => by have := Hi2.out v hv; exact ⟨by omega, by omega⟩) (fun v hv => by have := Hj2.out v hv; omega))
  refine HL.out.mono ?_
  rintro e w15 ⟨D, d, xs, rfl, hN, hT⟩
  have hLe : (linesK ids cnt vars (min ids.length cnt.length)).1 = G.lines := by rw [HG.out]
  rw [hLe] at hN hT ⊢
  have hGf : (f : Int) = G.first := by rw [HG.out]
  have hS15 := HS14.out.ext hN.bel
  have k4 := hS15.cell 1
  have f4 := hS15.free 1
  simp only [List.getElem?_toArray, List.getElem?_cons_zero, List.getElem?_cons_succ] at k4
  obtain ⟨w16, hw16⟩ : ∃ W, W = w15.setCell ⟨w3.heap.size, 1, none⟩ (.slice D G.lines.length d) := ⟨_, rfl⟩
  have Hb16 : Hid (Below w0.heap.size w0 w16) := Lib.hid (by rw [hw16]; exact (ext_trans Hb14.out hN.bel).setCell (by have := Hg3.out; have := Hgl.out; show w0.heap.size ≤ w3.heap.size; omega) _)
  have hS16 : Blk w16 w3.heap.size 24 #[.int .i64 (f : Int), .slice D G.lines.length d] := by rw [hw16]; exact hS15.put 1 _
  have k5 := hS16.cell 0
  have k6 := hS16.cell 1
  simp only [List.getElem?_toArray, List.getElem?_cons_zero, List.getElem?_cons_succ] at k5 k6
  rw [hw16] at k5 k6
  have hD : ¬ inA D w3.heap.size := fun h => by have := hN.2.2 _ h; have := HS14.out.lt; omega
  have HRo : Hid (RowO w16 47 2 D G.lines.length d xs) := Lib.hid (by rw [hw16]; exact hN.row.far hD _)
  have HRt : Hid (RowT w16 xs G.lines) := Lib.hid (by rw [hw16]; exact hT.far hS15 (by decide) 1 _)
  have HDn : Hid (¬ inA D w.heap.size) := Lib.hid (fun h => by have h1 := hN.2.2 _ h; have h2 := HZ0.out; have h3 := Hb14.out.size; omega)
  have HX := Lib.hid (HTk.out A ca G D d w16 rfl (Ht.out.ext (ext_trans Hb0.out Hb16.out)) (HA.out.ext (ext_trans Hb0.out Hb16.out)) ⟨by rw [← hGf]; have := Hlf.out; exact ⟨by omega, by omega⟩, HRo.out.le, HRo.out.max, HRo.out.nil_cap, HRt.out.row HRo.out⟩)
  rw [← hGf] at HX
  have Hw16 := Lib.hid hw16
  clear hN hT hLe hS15 hS16 hw16 hD k0 k1 k2 k3 f0 hGf
  go_wp2_with fail
  rw [← Hw16.out]
  refine HX.out.mono ?_
  rintro e w17 ⟨B', c', rfl, hin, hBD, hb17⟩
  have hR := HB0.out.ext (ext_trans Hb16.out hb17)
  have q0c := hR.cell 0
  have g0 := hR.free 0
  have hR1 := hR.put 0 (.int .i64 R.1.first)
  have q1c := hR1.cell 1
  have g1 := hR1.free 1
  have hR2 := hR1.put 1 (.slice B' R.1.lines.length c')
  have r0 := hR2.cell 0
  have r1 := hR2.cell 1
  simp only [List.getElem?_toArray, List.setIfInBounds_toArray, List.set_cons_zero, List.set_cons_succ, List.getElem?_cons_zero, List.getElem?_cons_succ] at q0c q1c r0 r1
  have HRo2 := Lib.hid ((HRo.out.ext hb17).far (p := ⟨w.heap.size, 0, none⟩) HDn.out (.int .i64 R.1.first))
  have HRo3 := Lib.hid (HRo2.out.far (p := ⟨w.heap.size, 1, none⟩) HDn.out (.slice B' R.1.lines.length c'))
  have HRt3 := Lib.hid (((HRt.out.ext hb17).far hR (by decide) 0 (.int .i64 R.1.first)).far hR1 (by decide) 1 (.slice B' R.1.lines.length c'))
  have Hin := Lib.hid hin
  have HBD := Lib.hid hBD
  have Hb18 : Hid (Below w.heap.size w ((w17.setCell ⟨w.heap.size, 0, none⟩ (.int .i64 R.1.first)).setCell ⟨w.heap.size, 1, none⟩ (.slice B' R.1.lines.length c'))) := Lib.hid (Below.setCell (Below.setCell (ext_trans (ext_trans Hb0.out Hb16.out) hb17) (Nat.le_refl _) _) (Nat.le_refl _) _)
  clear hR hR1 hR2 hin hBD hb17
  go_wp2
  refine bodyPost_ret (v := .tuple #[.agg #[.int .i64 R.1.first, .slice B' R.1.lines.length c'], .int .i64 R.2]) (by simp [results, Tryz.results14, go_sem, r0, r1]) rfl ?_
  refine ⟨B', c', rfl, ⟨Hin.out.int, Hin.out.le, Hin.out.cap, Hin.out.nil, ?_⟩, Hb18.out⟩
  rcases HBD.out with h | h
  · rw [h]; exact RowR.nil _ _
  · rcases HTw.out with h2 | h2
    · subst h
      have h3 : R.1.lines = G.lines := by rw [h2]
      have h4 := HRt3.out.row HRo3.out
      rw [← h3] at h4
      exact h4
    · rw [h2]; exact RowR.nil _ _
end Go.Proofs.YtpjgkacekelkdaaGreatDoor
