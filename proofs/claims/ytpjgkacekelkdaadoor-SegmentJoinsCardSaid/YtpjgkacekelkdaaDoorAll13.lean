/-
  Texts of this claim, joined (part 13): contracts and lemmas that the last text goes by. No statement of the seat is proved here.
-/
import Derived.Test.YtpjgkacekelkdaaDoorAll11
import Derived.Test.YtpjgkacekelkdaaDoorAll12
import Derived.Deep.RegionHeld3
set_option linter.unusedVariables false
set_option linter.unusedSimpArgs false
/-
  Join (program). No statement of the seat is proved here.
-/
namespace Go.Proofs.YtpjgkacekelkdaaDoor
open Go Go.RowKit
set_option maxRecDepth 100000

theorem RowT.oneCell {w : World} {xs : List Value} {l : List Ln} (h : RowT w xs l) : ∀ u ∈ xs, u.oneCell' = true := fun u hu => by
  obtain ⟨j, hj, rfl⟩ := List.mem_iff_getElem.1 hu
  have hl := h.1
  obtain ⟨B, c, h1, h2, _⟩ := h.2 (j / 2) (by omega)
  rcases Nat.mod_two_eq_zero_or_one j with hm | hm
  · rw [show j / 2 * 2 = j by omega, List.getElem?_eq_getElem hj] at h1
    injection h1 with h1
    rw [h1]; rfl
  · rw [show j / 2 * 2 + 1 = j by omega, List.getElem?_eq_getElem hj] at h2
    injection h2 with h2
    rw [h2]; rfl
theorem lnsTo_len {l : List Sg} {k : Nat} (hk : k ≤ l.length) (h : ∀ j (hj : j < l.length), j < k → isG l[j] = true) : (lnsTo l k).length ≤ 512 * k := by
  induction k with
  | zero => simp [lnsTo]
  | succ k ih =>
    rw [lnsTo_succ l (by omega), List.length_append]
    have h1 := ih (by omega) (fun j hj hjk => h j hj (by omega))
    have h2 := ((isG_iff _).1 (h k (by omega) (by omega))).1
    omega
theorem lnsTo_mem {l : List Sg} {k : Nat} (hk : k ≤ l.length) (h : ∀ j (hj : j < l.length), j < k → isG l[j] = true) : ∀ x ∈ lnsTo l k, ∀ v ∈ x.vars, v.length ≤ 256 := fun x hx v hv => by
  obtain ⟨s, hs, hx⟩ := List.mem_flatMap.1 hx
  obtain ⟨j, hj, rfl⟩ := List.mem_iff_getElem.1 hs
  rw [List.length_take] at hj
  rw [List.getElem_take] at hx
  exact (((isG_iff _).1 (h j (by omega) (by omega))).2 x hx).2.2.2 v hv
theorem fstTo_zero {l : List Sg} (h : 0 < l.length) : fstTo l = l[0].first := by
  unfold fstTo
  rw [List.getD_eq_getElem?_getD, List.getElem?_map, List.getElem?_eq_getElem h]
  rfl

set_option maxHeartbeats 16000000 in
theorem join_any' (A : Option Addr) (c : Nat) (l : List Sg) (w : World) (hA : RowR IsSg 2 w A l) (hl : l.length ≤ 1000) (hs : ∀ s ∈ l, ∀ x ∈ s.lines, ∀ v ∈ x.vars, v.length ≤ maxLen) :
    Calls Tryd.prog 13 #[.slice A l.length c] w fun e w' => ∃ B' c', e = .returned (.tuple #[sgV (joinG l).1 B' c', .int .i64 (joinG l).2]) ∧ SgIn w' (joinG l).1 B' c' ∧ Below w.heap.size w w' := by
  have hli : (l.length : Int) ≤ 1000 := by omega
  have HNo : Hid (∀ k (hk : k < l.length), ¬ okJ l k l[k] → joinG l = (⟨0, []⟩, 1)) := Lib.hid (fun k hk h => joinG_no hk h)
  have HEnd : Hid ((∀ k (hk : k < l.length), okJ l k l[k]) → joinG l = if isG ⟨fstTo l, lnsTo l l.length⟩ = true then (⟨fstTo l, lnsTo l l.length⟩, 0) else (⟨0, []⟩, 1)) := Lib.hid joinG_end
  generalize joinG l = R at *
  obtain ⟨w0, hw0⟩ : ∃ w0, w0 = w.alloc (.cells #[.int .i64 0, .slice none 0 0] 24) := ⟨_, rfl⟩
  have hb0 : Below w.heap.size w w0 := by rw [hw0]; exact ext_alloc (Below.refl _ _) _
  have hz0 : w0.heap.size = w.heap.size + 1 := by rw [hw0, World.size_alloc]
  have HB0 : Hid (Blk w0 w.heap.size 24 #[.int .i64 0, .slice none 0 0]) := Lib.hid (by rw [hw0]; exact Blk.new _ _ _)
  have Hb0 := Lib.hid hb0
  have HA := Lib.hid (hA.ext IsSg.lasts hb0)
  have Hs := Lib.hid hs
  have Hw0 := Lib.hid hw0
  have HBs : Hid (Blk (w0.alloc (.cells #[.int .i64 0, .slice none 0 0] 24)) (w.heap.size + 1) 24 #[.int .i64 0, .slice none 0 0]) := Lib.hid (by rw [← hz0]; exact Blk.new _ _ _)
  have Hgw : Hid (w0.heap.size = w.heap.size + 1) := Lib.hid hz0
  obtain ⟨g, hg⟩ : ∃ g, w.heap.size + 1 = g := ⟨_, rfl⟩
  rw [hg] at HBs Hgw
  unfold sgV
  clear hA hs hw0 hb0 hz0
  go_enter Tryd.func13, Tryd.ntmps13
  go_wp2
  go_loopw [9] (fun i wr => ∃ (k n : Nat) (f : Int) (D : Option Addr) (d : Nat) (xs : List Value), k ≤ l.length ∧ i = .int .i64 (k : Int) ∧ Hid (n = (lnsTo l k).length) ∧ Hid ((k = 0 → f = 0) ∧ (0 < k → f = fstTo l)) ∧ Hid (∀ j (hj : j < l.length), j < k → okJ l j l[j]) ∧
    Hid (Blk wr g 24 #[.int .i64 f, .slice D n d]) ∧ Hid (NewO w0 wr 47 2 D n d xs) ∧ Hid (RowT wr xs (lnsTo l k))) (fun i _ => l.length - (intOf i).toNat)
  case atStart =>
    rw [← Hw0.out]
    exact ⟨0, 0, 0, none, 0, [], Nat.zero_le _, rfl, Lib.hid rfl, Lib.hid ⟨fun _ => rfl, fun h => absurd h (by omega)⟩, Lib.hid (fun j _ h => absurd h (by omega)), HBs, Lib.hid ((NewO.start w0 _ _).ext (ext_alloc (Below.refl _ _) _)), Lib.hid (RowT.nil _)⟩
  case round =>
    obtain ⟨k, n, f, D, d, xs, hk, rfl, Hn, Hf, Hok, HBk, HN, HT⟩ := hrel
    have HG : Hid (∀ j (hj : j < l.length), j < k → isG l[j] = true) := Lib.hid (fun j hj hjk => (Hok.out j hj hjk).1)
    have hnl : n ≤ 512 * k := by rw [Hn.out]; exact lnsTo_len hk HG.out
    by_cases hlt : k < l.length
    · have hki : (k : Int) < (l.length : Int) := by omega
      obtain ⟨gA, oA, B, cb, rfl, y0, y1, hin⟩ := row_sg HA.out hlt
      have x0 := cell_only y0 (Only.of_ext (S := fun _ => False) HN.out.bel) (fun h => h)
      have x1 := cell_only y1 (Only.of_ext (S := fun _ => False) HN.out.bel) (fun h => h)
      have Hnk : Hid (¬ okJ l k l[k] → R = (⟨0, []⟩, 1)) := Lib.hid (HNo.out k hlt)
      have Hin := Lib.hid hin
      have HIs : Hid (∀ W, Below w0.heap.size w0 W → Calls Tryd.prog 15 #[sgV l[k] B cb] W fun e w' => e = .returned (.bool (isG l[k])) ∧ Below W.heap.size W w') := Lib.hid (fun W hW => isG_any _ B cb W (hin.ext hW) (Hs.out _ (List.getElem_mem hlt)))
      have HCp : Hid (isG l[k] = true → ∀ W, Below w0.heap.size w0 W → Calls Tryd.prog 31 #[.slice B l[k].lines.length cb] W fun e w' => ∃ D d xs, e = .returned (.slice D l[k].lines.length d) ∧ NewO W w' 47 2 D l[k].lines.length d xs ∧ RowT w' xs l[k].lines) := Lib.hid (fun hi W hW => by
        have h5 := (isG_iff _).1 hi
        exact copied_any B cb l[k].lines W (hin.row.ext IsLn.lasts hW) hin.nil hin.le (by omega) (fun x hx => (h5.2 x hx).2.2.1))
      have HEn : Hid (isG l[k] = true → ∀ W, Calls Tryd.prog 30 #[sgV ⟨fstTo l, lnsTo l k⟩ D d] W fun e w' => e = .returned (.int .i64 (fstTo l + (n : Int))) ∧ Below W.heap.size W w') := Lib.hid (fun hi W => by
        have hb : 0 ≤ fstTo l ∧ fstTo l ≤ 34359738368 := by
          rw [fstTo_zero (by omega)]
          rcases Nat.eq_zero_or_pos k with h0 | h0
          · subst h0; exact ⟨((isG_iff _).1 hi).1.1, ((isG_iff _).1 hi).1.2.1⟩
          · have := ((isG_iff _).1 (HG.out 0 (by omega) h0)).1; exact ⟨this.1, this.2.1⟩
        have h := end_any ⟨fstTo l, lnsTo l k⟩ D d W (by show _ ≤ fstTo l ∧ fstTo l ≤ _; omega) (by show (lnsTo l k).length ≤ _; rw [← Hn.out]; omega)
        dsimp only at h
        rw [← Hn.out] at h
        exact h)
      have HBig : Hid (isG l[k] = true → l[k].lines.length ≤ 512) := Lib.hid (fun hi => ((isG_iff _).1 hi).1.2.2.2)
      have Hfk : Hid (k = 0 → fstTo l = l[k].first) := Lib.hid (fun h => by subst h; exact fstTo_zero hlt)
      have HokD : Hid (okJ l k l[k] ↔ isG l[k] = true ∧ l[k].first = fstTo l + (n : Int)) := Lib.hid (by unfold okJ; rw [Hn.out])
      have HokS : Hid (okJ l k l[k] → ∀ j (hj : j < l.length), j < k + 1 → okJ l j l[j]) := Lib.hid (fun h j hj hj2 => by
        rcases Nat.lt_succ_iff_lt_or_eq.1 hj2 with h5 | rfl
        · exact Hok.out j hj h5
        · exact h)
      have HLs : Hid (lnsTo l (k + 1) = lnsTo l k ++ l[k].lines) := Lib.hid (lnsTo_succ l hlt)
      unfold sgV at HIs HEn
      rw [← Hn.out] at HEn
      dsimp only at HEn
      obtain ⟨s, hse⟩ : ∃ s, l[k] = s := ⟨_, rfl⟩
      rw [hse] at x0 x1 Hnk Hin HIs HCp HEn HBig Hfk HokD HokS HLs
      obtain ⟨sf, sl⟩ := s
      dsimp only at x0 x1 Hin HIs HCp HBig Hfk HokD HLs
      obtain ⟨F, hF⟩ : ∃ F, fstTo l = F := ⟨_, rfl⟩
      rw [hF] at HEn Hfk HokD Hf
      have HFe := Lib.hid hF
      obtain ⟨m, hm⟩ : ∃ m, sl.length = m := ⟨_, rfl⟩
      rw [hm] at x1 HIs HCp HBig
      have Hm := Lib.hid hm
      have hB := HBk.out
      obtain ⟨wa, hwa⟩ : ∃ wa, wa = wr.alloc (.cells #[.int .i64 sf, .slice B m cb] 24) := ⟨_, rfl⟩
      have hba : Below wr.heap.size wr wa := by rw [hwa]; exact ext_alloc (Below.refl _ _) _
      have hGa : Blk wa wr.heap.size 24 #[.int .i64 sf, .slice B m cb] := by rw [hwa]; exact Blk.new _ _ _
      have hne : wr.heap.size ≠ g := by have := hB.lt; omega
      have hBa := hB.ext hba
      have hb0 := hBa.cell 0
      have gb0 := hBa.free 0
      simp only [List.getElem?_toArray, List.getElem?_cons_zero, List.getElem?_cons_succ] at hb0
      rw [hwa] at hb0 gb0
      have hgi : ¬ inA D g := HN.out.row.ne_blk hB (by decide)
      have hgw : w0.heap.size ≤ g := by have := Hgw.out; omega
      obtain ⟨wb, hwb⟩ : ∃ wb, (wb = wa ∧ 0 < k) ∨ (wb = wa.setCell ⟨g, 0, none⟩ (.int .i64 sf) ∧ k = 0) := by
        rcases Nat.eq_zero_or_pos k with h | h
        · exact ⟨_, .inr ⟨rfl, h⟩⟩
        · exact ⟨_, .inl ⟨rfl, h⟩⟩
      have hBb : Blk wb g 24 #[.int .i64 F, .slice D n d] := by
        rcases hwb with ⟨rfl, h⟩ | ⟨rfl, h⟩
        · rw [← Hf.out.2 h]; exact hBa
        · rw [Hfk.out h]; exact hBa.put 0 _
      have hNb : NewO w0 wb 47 2 D n d xs := by
        rcases hwb with ⟨rfl, h⟩ | ⟨rfl, h⟩
        · exact HN.out.ext hba
        · exact (HN.out.ext hba).far hgi hgw _
      have hTb : RowT wb xs (lnsTo l k) := by
        rcases hwb with ⟨rfl, h⟩ | ⟨rfl, h⟩
        · exact HT.out.ext hba
        · exact (HT.out.ext hba).far hBa (by decide) 0 _
      have hGb : Blk wb wr.heap.size 24 #[.int .i64 sf, .slice B m cb] := by
        rcases hwb with ⟨rfl, h⟩ | ⟨rfl, h⟩
        · exact hGa
        · exact hGa.far (p := ⟨g, 0, none⟩) hne _
      have HNb := Lib.hid hNb
      have HTb := Lib.hid hTb
      have HBb := Lib.hid hBb
      have HGb := Lib.hid hGb
      have HK : Hid (∀ W, Below wb.heap.size wb W → W.cell? ⟨wr.heap.size, 0, none⟩ = some (.int .i64 sf) ∧ W.cell? ⟨wr.heap.size, 1, none⟩ = some (.slice B m cb) ∧ W.cell? ⟨g, 0, none⟩ = some (.int .i64 F) ∧ W.cell? ⟨g, 1, none⟩ = some (.slice D n d)) := Lib.hid (fun W hW =>
        ⟨(HGb.out.ext hW).cell 0, (HGb.out.ext hW).cell 1, (HBb.out.ext hW).cell 0, (HBb.out.ext hW).cell 1⟩)
      have HIs2 : Hid (∀ W, Below wb.heap.size wb W → Calls Tryd.prog 15 #[.agg #[.int .i64 sf, .slice B m cb]] W fun e w' => e = .returned (.bool (isG ⟨sf, sl⟩)) ∧ Below W.heap.size W w') := Lib.hid (fun W hW => HIs.out W (ext_trans HNb.out.bel hW))
      have Hnq : Hid (isG ⟨sf, sl⟩ = true ∧ sf = F + (n : Int) ∨ R = (⟨0, []⟩, 1)) := Lib.hid (by
        by_cases ho : okJ l k ⟨sf, sl⟩
        · exact .inl (HokD.out.1 ho)
        · exact .inr (Hnk.out ho))
      have HokS2 : Hid (isG ⟨sf, sl⟩ = true → sf = F + (n : Int) → ∀ j (hj : j < l.length), j < k + 1 → okJ l j l[j]) := Lib.hid (fun h1 h2 => HokS.out (HokD.out.2 ⟨h1, h2⟩))
      have hp : isG ⟨sf, sl⟩ = true → n + m ≤ maxLen ∧ (n + m) * 32 ≤ 140737488355328 := fun hi => by have := HBig.out hi; unfold maxLen; omega
      have Hp := Lib.hid hp
      have Hwa := Lib.hid hwa
      have hkc : (k = 0 ∧ wb = wa.setCell ⟨g, 0, none⟩ (.int .i64 sf)) ∨ (0 < k ∧ wb = wa) := by rcases hwb with ⟨h1, h2⟩ | ⟨h1, h2⟩; exact .inr ⟨h2, h1⟩; exact .inl ⟨h2, h1⟩
      clear hba hGa hB hBa hgi hwb hBb hNb hTb hGb hwa hp Hnk HokD HokS HIs HNo HEnd hne hm hF y0 y1 hin HBs hse
      generalize hie : isG ⟨sf, sl⟩ = ig at *
      clear hie
      rcases hkc with ⟨hk0, hwb⟩ | ⟨hk0, hwb⟩
      · subst hk0
        rw [Nat.zero_mul, Nat.add_zero] at x0 x1
        have Hwb := Lib.hid hwb
        clear hwb
        go_wp2_with fail
        rw [← Hwa.out, ← Hwb.out]
        cases ig with
        | false =>
          have Hno : Hid (R = (⟨0, []⟩, 1)) := Lib.hid (by rcases Hnq.out with h | h; cases h.1; exact h)
          refine wp_region_held_drew (S := fun W => W.cell? ⟨wr.heap.size, 0, none⟩ = some (.int .i64 sf) ∧ W.cell? ⟨wr.heap.size, 1, none⟩ = some (.slice B m cb) ∧ W.cell? ⟨g, 0, none⟩ = some (.int .i64 F) ∧ W.cell? ⟨g, 1, none⟩ = some (.slice D n d)) (by kernel_rfl) ?_ (fun hHeld => ?_)
          · exact HK.out _ (by repeat (first | exact Below.refl _ _ | exact HE4.out | exact HE3.out | exact HE2.out | apply ext_drew | apply ext_drewN | apply ext_alloc))
          refine wpAnyH_take (i := 0) (v := ?_) (take_list rfl) (by kernel_rfl) (by kernel_rfl) (by kernel_rfl) (fun _ _ _ h => h) (Or.inl ⟨by rfl, ?_⟩) (by assumption) ?_
          rotate_left
          · intro w hSw
            try dsimp only at hSw
            first | (go_simp; done) | (go_simp; with_reducible rfl)
          try simp only [Act.put, List.setIfInBounds_toArray, List.set_cons_zero, List.set_cons_succ]
          refine wpAnyH_ready (rs := [1]) (by kernel_rfl) (by simp) ?_
          refine AllReadyH.cons (take_list rfl) (fun K hK => ?_) ?_
          · skip
            go_simp
            refine (HIs2.out _ (by repeat (first | exact Below.refl _ _ | exact HE4.out | exact HE3.out | exact HE2.out | apply ext_drew | apply ext_drewN | apply ext_alloc))).mono ?_
            rintro e x1 ⟨rfl, hbx⟩
            dsimp only
            have HE2 : Hid (Below wb.heap.size wb x1) := Lib.hid (ext_trans (by repeat (first | exact Below.refl _ _ | exact HE4.out | exact HE3.out | exact HE2.out | apply ext_drew | apply ext_drewN | apply ext_alloc)) hbx)
            clear hbx
            refine hK.out _ _ ?_ (fun hHeld => ?_)
            · try dsimp only
              exact HK.out _ (by repeat (first | exact Below.refl _ _ | exact HE4.out | exact HE3.out | exact HE2.out | apply ext_drew | apply ext_drewN | apply ext_alloc))
            clear hK K
            refine wpAnyH_take (i := 2) (v := ?_) (take_list rfl) (by kernel_rfl) (by kernel_rfl) (by kernel_rfl) (fun _ _ _ h => h) (Or.inl ⟨by rfl, ?_⟩) (by assumption) ?_
            rotate_left
            · intro w hSw
              try dsimp only at hSw
              first | (go_simp; done) | (go_simp; with_reducible rfl)
            try simp only [Act.put, List.setIfInBounds_toArray, List.set_cons_zero, List.set_cons_succ]
            refine wpAnyH_take (i := 3) (v := ?_) (take_list rfl) (by kernel_rfl) (by kernel_rfl) (by kernel_rfl) (fun _ _ _ h => h) (Or.inl ⟨by rfl, ?_⟩) (by assumption) ?_
            rotate_left
            · intro w hSw
              try dsimp only at hSw
              first | (go_simp; done) | (go_simp; with_reducible rfl)
            try simp only [Act.put, List.setIfInBounds_toArray, List.set_cons_zero, List.set_cons_succ]
            refine wpAnyH_take (i := 4) (v := undef) (take_list rfl) (by kernel_rfl) (by kernel_rfl) (by kernel_rfl) (fun _ _ _ h => h) (Or.inr ⟨by rfl, rfl⟩) (by assumption) ?_
            try simp only [Act.put, List.setIfInBounds_toArray, List.set_cons_zero, List.set_cons_succ]
            refine wpAnyH_take (i := 5) (v := undef) (take_list rfl) (by kernel_rfl) (by kernel_rfl) (by kernel_rfl) (fun _ _ _ h => h) (Or.inr ⟨by rfl, rfl⟩) (by assumption) ?_
            try simp only [Act.put, List.setIfInBounds_toArray, List.set_cons_zero, List.set_cons_succ]
            refine wpAnyH_take (i := 6) (v := undef) (take_list rfl) (by kernel_rfl) (by kernel_rfl) (by kernel_rfl) (fun _ _ _ h => h) (Or.inr ⟨by rfl, rfl⟩) (by assumption) ?_
            try simp only [Act.put, List.setIfInBounds_toArray, List.set_cons_zero, List.set_cons_succ]
            refine wpAnyH_take (i := 7) (v := undef) (take_list rfl) (by kernel_rfl) (by kernel_rfl) (by kernel_rfl) (fun _ _ _ h => h) (Or.inr ⟨by rfl, rfl⟩) (by assumption) ?_
            try simp only [Act.put, List.setIfInBounds_toArray, List.set_cons_zero, List.set_cons_succ]
            refine wpAnyH_take (i := 8) (v := undef) (take_list rfl) (by kernel_rfl) (by kernel_rfl) (by kernel_rfl) (fun _ _ _ h => h) (Or.inr ⟨by rfl, rfl⟩) (by assumption) ?_
            try simp only [Act.put, List.setIfInBounds_toArray, List.set_cons_zero, List.set_cons_succ]
            refine wpAnyH_take (i := 9) (v := ?_) (take_list rfl) (by kernel_rfl) (by kernel_rfl) (by kernel_rfl) (fun _ _ _ h => h) (Or.inl ⟨by rfl, ?_⟩) (by assumption) ?_
            rotate_left
            · intro w hSw
              try dsimp only at hSw
              first | (go_simp; done) | (go_simp; with_reducible rfl)
            try simp only [Act.put, List.setIfInBounds_toArray, List.set_cons_zero, List.set_cons_succ]
            refine wpAnyH_done (by kernel_rfl) ?_ _
            have hR := HB0.out.ext (ext_trans HNb.out.bel HE2.out)
            have z0 := hR.cell 0
            have g0 := hR.free 0
            have hR1 := hR.put 0 (.int .i64 0)
            have z1 := hR1.cell 1
            have g1 := hR1.free 1
            have hR2 := hR1.put 1 (.slice none 0 0)
            have r0 := hR2.cell 0
            have r1 := hR2.cell 1
            simp only [List.getElem?_toArray, List.setIfInBounds_toArray, List.set_cons_zero, List.set_cons_succ, List.getElem?_cons_zero, List.getElem?_cons_succ] at z0 z1 r0 r1
            have Hbr : Hid (Below w.heap.size w ((x1.setCell ⟨w.heap.size, 0, none⟩ (.int .i64 0)).setCell ⟨w.heap.size, 1, none⟩ (.slice none 0 0))) := Lib.hid (Below.setCell (Below.setCell (ext_trans Hb0.out (ext_trans HNb.out.bel HE2.out)) (Nat.le_refl _) _) (Nat.le_refl _) _)
            clear hR hR1 hR2
            go_wp2
            refine bodyPost_ret (v := .tuple #[.agg #[.int .i64 0, .slice none 0 0], .int .i64 1]) (by simp [results, Tryd.results13, go_sem, r0, r1]) rfl ?_
            rw [Hno.out]
            exact ⟨none, 0, rfl, SgIn.none_ _, Hbr.out⟩
          exact AllReadyH.nil
        | true =>
          by_cases he : sf = F + (n : Int)
          · have HokN := Lib.hid (HokS2.out rfl he)
            have HCp2 := Lib.hid (HCp.out rfl)
            have Hp2 : Hid (n + m ≤ maxLen ∧ (n + m) * 32 ≤ 140737488355328) := Lib.hid (Hp.out rfl)
            have Hgw2 := Lib.hid hgw
            subst he
            refine wp_region_held_drew (S := fun W => W.cell? ⟨wr.heap.size, 0, none⟩ = some (.int .i64 (F + (n : Int))) ∧ W.cell? ⟨wr.heap.size, 1, none⟩ = some (.slice B m cb) ∧ W.cell? ⟨g, 0, none⟩ = some (.int .i64 F) ∧ W.cell? ⟨g, 1, none⟩ = some (.slice D n d)) (by kernel_rfl) ?_ (fun hHeld => ?_)
            · exact HK.out _ (by repeat (first | exact Below.refl _ _ | exact HE4.out | exact HE3.out | exact HE2.out | apply ext_drew | apply ext_drewN | apply ext_alloc))
            refine wpAnyH_take (i := 0) (v := ?_) (take_list rfl) (by kernel_rfl) (by kernel_rfl) (by kernel_rfl) (fun _ _ _ h => h) (Or.inl ⟨by rfl, ?_⟩) (by assumption) ?_
            rotate_left
            · intro w hSw
              try dsimp only at hSw
              first | (go_simp; done) | (go_simp; with_reducible rfl)
            try simp only [Act.put, List.setIfInBounds_toArray, List.set_cons_zero, List.set_cons_succ]
            refine wpAnyH_ready (rs := [1]) (by kernel_rfl) (by simp) ?_
            refine AllReadyH.cons (take_list rfl) (fun K hK => ?_) ?_
            · skip
              go_simp
              refine (HIs2.out _ (by repeat (first | exact Below.refl _ _ | exact HE4.out | exact HE3.out | exact HE2.out | apply ext_drew | apply ext_drewN | apply ext_alloc))).mono ?_
              rintro e x1 ⟨rfl, hbx⟩
              dsimp only
              have HE2 : Hid (Below wb.heap.size wb x1) := Lib.hid (ext_trans (by repeat (first | exact Below.refl _ _ | exact HE4.out | exact HE3.out | exact HE2.out | apply ext_drew | apply ext_drewN | apply ext_alloc)) hbx)
              clear hbx
              refine hK.out _ _ ?_ (fun hHeld => ?_)
              · try dsimp only
                exact HK.out _ (by repeat (first | exact Below.refl _ _ | exact HE4.out | exact HE3.out | exact HE2.out | apply ext_drew | apply ext_drewN | apply ext_alloc))
              clear hK K
              refine wpAnyH_take (i := 2) (v := ?_) (take_list rfl) (by kernel_rfl) (by kernel_rfl) (by kernel_rfl) (fun _ _ _ h => h) (Or.inl ⟨by rfl, ?_⟩) (by assumption) ?_
              rotate_left
              · intro w hSw
                try dsimp only at hSw
                first | (go_simp; done) | (go_simp; with_reducible rfl)
              try simp only [Act.put, List.setIfInBounds_toArray, List.set_cons_zero, List.set_cons_succ]
              refine wpAnyH_take (i := 3) (v := ?_) (take_list rfl) (by kernel_rfl) (by kernel_rfl) (by kernel_rfl) (fun _ _ _ h => h) (Or.inl ⟨by rfl, ?_⟩) (by assumption) ?_
              rotate_left
              · intro w hSw
                try dsimp only at hSw
                first | (go_simp; done) | (go_simp; with_reducible rfl)
              try simp only [Act.put, List.setIfInBounds_toArray, List.set_cons_zero, List.set_cons_succ]
              refine wpAnyH_take (i := 4) (v := ?_) (take_list rfl) (by kernel_rfl) (by kernel_rfl) (by kernel_rfl) (fun _ _ _ h => h) (Or.inl ⟨by rfl, ?_⟩) (by assumption) ?_
              rotate_left
              · intro w hSw
                try dsimp only at hSw
                first | (go_simp; done) | (go_simp; with_reducible rfl)
              try simp only [Act.put, List.setIfInBounds_toArray, List.set_cons_zero, List.set_cons_succ]
              refine wpAnyH_take (i := 5) (v := ?_) (take_list rfl) (by kernel_rfl) (by kernel_rfl) (by kernel_rfl) (fun _ _ _ h => h) (Or.inl ⟨by rfl, ?_⟩) (by assumption) ?_
              rotate_left
              · intro w hSw
                try dsimp only at hSw
                first | (go_simp; done) | (go_simp; with_reducible rfl)
              try simp only [Act.put, List.setIfInBounds_toArray, List.set_cons_zero, List.set_cons_succ]
              refine wpAnyH_take (i := 6) (v := ?_) (take_list rfl) (by kernel_rfl) (by kernel_rfl) (by kernel_rfl) (fun _ _ _ h => h) (Or.inl ⟨by rfl, ?_⟩) (by assumption) ?_
              rotate_left
              · intro w hSw
                try dsimp only at hSw
                first | (go_simp; done) | (go_simp; with_reducible rfl)
              try simp only [Act.put, List.setIfInBounds_toArray, List.set_cons_zero, List.set_cons_succ]
              refine wpAnyH_ready (rs := [7]) (by kernel_rfl) (by simp) ?_
              refine AllReadyH.cons (take_list rfl) (fun K hK => ?_) ?_
              · skip
                go_simp
                refine (HEn.out rfl _).mono ?_
                rintro e x2 ⟨rfl, hbx⟩
                dsimp only
                have HE3 : Hid (Below wb.heap.size wb x2) := Lib.hid (ext_trans (by repeat (first | exact Below.refl _ _ | exact HE4.out | exact HE3.out | exact HE2.out | apply ext_drew | apply ext_drewN | apply ext_alloc)) hbx)
                clear hbx
                refine hK.out _ _ ?_ (fun hHeld => ?_)
                · try dsimp only
                  exact HK.out _ (by repeat (first | exact Below.refl _ _ | exact HE4.out | exact HE3.out | exact HE2.out | apply ext_drew | apply ext_drewN | apply ext_alloc))
                clear hK K
                refine wpAnyH_take (i := 8) (v := ?_) (take_list rfl) (by kernel_rfl) (by kernel_rfl) (by kernel_rfl) (fun _ _ _ h => h) (Or.inl ⟨by rfl, ?_⟩) (by assumption) ?_
                rotate_left
                · intro w hSw
                  try dsimp only at hSw
                  first | (go_simp; done) | (go_simp; with_reducible rfl)
                try simp only [Act.put, List.setIfInBounds_toArray, List.set_cons_zero, List.set_cons_succ]
                refine wpAnyH_take (i := 9) (v := ?_) (take_list rfl) (by kernel_rfl) (by kernel_rfl) (by kernel_rfl) (fun _ _ _ h => h) (Or.inl ⟨by rfl, ?_⟩) (by assumption) ?_
                rotate_left
                · intro w hSw
                  try dsimp only at hSw
                  first | (go_simp; done) | (go_simp; with_reducible rfl)
                try simp only [Act.put, List.setIfInBounds_toArray, List.set_cons_zero, List.set_cons_succ]
                refine wpAnyH_done (by kernel_rfl) ?_ _
                go_wp2_with fail
                refine wp_region_held_drew (S := fun _ => True) (by kernel_rfl) ?_ (fun hHeld => ?_)
                · all_goals trivial
                refine wpAnyH_take (i := 0) (v := ?_) (take_list rfl) (by kernel_rfl) (by kernel_rfl) (by kernel_rfl) (fun _ _ _ h => h) (Or.inl ⟨by rfl, ?_⟩) (by assumption) ?_
                rotate_left
                · intro w hSw
                  try dsimp only at hSw
                  first | (go_simp; done) | (go_simp; with_reducible rfl)
                try simp only [Act.put, List.setIfInBounds_toArray, List.set_cons_zero, List.set_cons_succ]
                refine wpAnyH_take (i := 2) (v := ?_) (take_list rfl) (by kernel_rfl) (by kernel_rfl) (by kernel_rfl) (fun _ _ _ h => h) (Or.inl ⟨by rfl, ?_⟩) (by assumption) ?_
                rotate_left
                · intro w hSw
                  try dsimp only at hSw
                  first | (go_simp; done) | (go_simp; with_reducible rfl)
                try simp only [Act.put, List.setIfInBounds_toArray, List.set_cons_zero, List.set_cons_succ]
                refine wpAnyH_ready (rs := [1, 3]) (by kernel_rfl) (by simp) ?_
                refine AllReadyH.cons (take_list rfl) (fun K hK => ?_) ?_
                · skip
                  have ql := (HK.out x2.drew (ext_drew HE3.out)).2.2.2
                  go_simp
                  clear ql
                  refine hK.out _ _ ?_ (fun hHeld => ?_)
                  · try dsimp only
                    all_goals trivial
                  clear hK K
                  refine wpAnyH_ready (rs := [3]) (by kernel_rfl) (by simp) ?_
                  refine AllReadyH.cons (take_list rfl) (fun K hK => ?_) ?_
                  · skip
                    have ql := (HK.out x2.drew (ext_drew HE3.out)).2.1
                    go_simp
                    clear ql
                    refine hK.out _ _ ?_ (fun hHeld => ?_)
                    · try dsimp only
                      all_goals trivial
                    clear hK K
                    refine wpAnyH_ready (rs := [4]) (by kernel_rfl) (by simp) ?_
                    refine AllReadyH.cons (take_list rfl) (fun K hK => ?_) ?_
                    · skip
                      go_simp
                      refine (HCp2.out _ (ext_trans (ext_trans HNb.out.bel HE3.out) (by repeat (first | exact Below.refl _ _ | apply ext_drew | apply ext_drewN | apply ext_alloc)))).mono ?_
                      rintro e x3 ⟨D2, d2, xs2, rfl, hn3, hT3⟩
                      dsimp only
                      have HE4 : Hid (Below wb.heap.size wb x3) := Lib.hid (ext_trans HE3.out (ext_trans (by repeat (first | exact Below.refl _ _ | apply ext_drew | apply ext_drewN)) hn3.bel))
                      have Hn3 := Lib.hid hn3.row
                      have HT3 := Lib.hid hT3
                      clear hn3 hT3
                      refine hK.out _ _ ?_ (fun hHeld => ?_)
                      · try dsimp only
                        all_goals trivial
                      clear hK K
                      refine wpAnyH_ready (rs := [5]) (by kernel_rfl) (by simp) ?_
                      refine AllReadyH.cons (take_list rfl) (fun K hK => ?_) ?_
                      · skip
                        refine step_appO _ rfl (.tmp 31) (.tmp 34) _ rfl 47 _ 2 32 Tryd.underlying22 info_ln rfl D n d xs rfl (HNb.out.row.ext HE4.out) D2 m d2 xs2 rfl Hn3.out.1 Hn3.out.rd HT3.out.oneCell (fun h => by have h1 := Hn3.out.nil_cap h; have h2 := Hn3.out.le; omega) Hp2.out.1 Hp2.out.2 ?_
                        intro A5 c5 x4 hr5 ho5 hA5
                        have hB4 := HBb.out.ext HE4.out
                        have hgD : ¬ inA D g := HNb.out.row.ne_blk HBb.out (by decide)
                        have hB5 := hB4.only ho5 hgD
                        have b1 := hB5.cell 1
                        have gb1 := hB5.free 1
                        simp only [List.getElem?_toArray, List.getElem?_cons_zero, List.getElem?_cons_succ] at b1
                        have HB6 := Lib.hid (hB5.put 1 (.slice A5 (n + m) c5))
                        have HN6 := Lib.hid ((HNb.out.grow HE4.out hr5 ho5 hA5).far (p := ⟨g, 1, none⟩) (hr5.ne_blk hB5 (by decide)) Hgw2.out (.slice A5 (n + m) c5))
                        have HT6 := Lib.hid ((((HTb.out.ext HE4.out).only (HNb.out.row.ext HE4.out) (by decide) ho5).app (HT3.out.only (HNb.out.row.ext HE4.out) (by decide) ho5)).far hB5 (by decide) 1 (.slice A5 (n + m) c5))
                        clear hr5 ho5 hA5 hB4 hgD hB5
                        refine hK.out _ _ ?_ (fun hHeld => ?_)
                        · try dsimp only
                          all_goals trivial
                        clear hK K
                        refine wpAnyH_take (i := 6) (v := ?_) (take_list rfl) (by kernel_rfl) (by kernel_rfl) (by kernel_rfl) (fun _ _ _ h => h) (Or.inl ⟨by rfl, ?_⟩) (by assumption) ?_
                        rotate_left
                        · intro w hSw
                          try dsimp only at hSw
                          first | (go_simp; done) | (go_simp; with_reducible rfl)
                        try simp only [Act.put, List.setIfInBounds_toArray, List.set_cons_zero, List.set_cons_succ]
                        refine wpAnyH_ready (rs := [7]) (by kernel_rfl) (by simp) ?_
                        refine AllReadyH.cons (take_list rfl) (fun K hK => ?_) ?_
                        · skip
                          go_simp
                          refine hK.out _ _ ?_ (fun hHeld => ?_)
                          · try dsimp only
                            all_goals trivial
                          clear hK K
                          refine wpAnyH_done (by kernel_rfl) ?_ _
                          go_wp2
                          go_roundw
                          case rel => exact ⟨0 + 1, n + m, F, A5, c5, _, by omega, by go_num, Lib.hid (by rw [HLs.out, List.length_append, ← Hn.out, Hm.out]), Lib.hid ⟨fun h => absurd h (by omega), fun _ => HFe.out.symm⟩, HokN, HB6, HN6, Lib.hid (by rw [HLs.out]; exact HT6.out)⟩
                          case measure => simp [intOf]; omega
                        exact AllReadyH.nil
                      exact AllReadyH.nil
                    exact AllReadyH.nil
                  exact AllReadyH.nil
                refine AllReadyH.cons (take_list rfl) (fun K hK => ?_) ?_
                · skip
                  have ql := (HK.out x2.drew (ext_drew HE3.out)).2.1
                  go_simp
                  clear ql
                  refine hK.out _ _ ?_ (fun hHeld => ?_)
                  · try dsimp only
                    all_goals trivial
                  clear hK K
                  refine wpAnyH_ready (rs := [1, 4]) (by kernel_rfl) (by simp) ?_
                  refine AllReadyH.cons (take_list rfl) (fun K hK => ?_) ?_
                  · skip
                    have ql := (HK.out x2.drew (ext_drew HE3.out)).2.2.2
                    go_simp
                    clear ql
                    refine hK.out _ _ ?_ (fun hHeld => ?_)
                    · try dsimp only
                      all_goals trivial
                    clear hK K
                    refine wpAnyH_ready (rs := [4]) (by kernel_rfl) (by simp) ?_
                    refine AllReadyH.cons (take_list rfl) (fun K hK => ?_) ?_
                    · skip
                      go_simp
                      refine (HCp2.out _ (ext_trans (ext_trans HNb.out.bel HE3.out) (by repeat (first | exact Below.refl _ _ | apply ext_drew | apply ext_drewN | apply ext_alloc)))).mono ?_
                      rintro e x3 ⟨D2, d2, xs2, rfl, hn3, hT3⟩
                      dsimp only
                      have HE4 : Hid (Below wb.heap.size wb x3) := Lib.hid (ext_trans HE3.out (ext_trans (by repeat (first | exact Below.refl _ _ | apply ext_drew | apply ext_drewN)) hn3.bel))
                      have Hn3 := Lib.hid hn3.row
                      have HT3 := Lib.hid hT3
                      clear hn3 hT3
                      refine hK.out _ _ ?_ (fun hHeld => ?_)
                      · try dsimp only
                        all_goals trivial
                      clear hK K
                      refine wpAnyH_ready (rs := [5]) (by kernel_rfl) (by simp) ?_
                      refine AllReadyH.cons (take_list rfl) (fun K hK => ?_) ?_
                      · skip
                        refine step_appO _ rfl (.tmp 31) (.tmp 34) _ rfl 47 _ 2 32 Tryd.underlying22 info_ln rfl D n d xs rfl (HNb.out.row.ext HE4.out) D2 m d2 xs2 rfl Hn3.out.1 Hn3.out.rd HT3.out.oneCell (fun h => by have h1 := Hn3.out.nil_cap h; have h2 := Hn3.out.le; omega) Hp2.out.1 Hp2.out.2 ?_
                        intro A5 c5 x4 hr5 ho5 hA5
                        have hB4 := HBb.out.ext HE4.out
                        have hgD : ¬ inA D g := HNb.out.row.ne_blk HBb.out (by decide)
                        have hB5 := hB4.only ho5 hgD
                        have b1 := hB5.cell 1
                        have gb1 := hB5.free 1
                        simp only [List.getElem?_toArray, List.getElem?_cons_zero, List.getElem?_cons_succ] at b1
                        have HB6 := Lib.hid (hB5.put 1 (.slice A5 (n + m) c5))
                        have HN6 := Lib.hid ((HNb.out.grow HE4.out hr5 ho5 hA5).far (p := ⟨g, 1, none⟩) (hr5.ne_blk hB5 (by decide)) Hgw2.out (.slice A5 (n + m) c5))
                        have HT6 := Lib.hid ((((HTb.out.ext HE4.out).only (HNb.out.row.ext HE4.out) (by decide) ho5).app (HT3.out.only (HNb.out.row.ext HE4.out) (by decide) ho5)).far hB5 (by decide) 1 (.slice A5 (n + m) c5))
                        clear hr5 ho5 hA5 hB4 hgD hB5
                        refine hK.out _ _ ?_ (fun hHeld => ?_)
                        · try dsimp only
                          all_goals trivial
                        clear hK K
                        refine wpAnyH_take (i := 6) (v := ?_) (take_list rfl) (by kernel_rfl) (by kernel_rfl) (by kernel_rfl) (fun _ _ _ h => h) (Or.inl ⟨by rfl, ?_⟩) (by assumption) ?_
                        rotate_left
                        · intro w hSw
                          try dsimp only at hSw
                          first | (go_simp; done) | (go_simp; with_reducible rfl)
                        try simp only [Act.put, List.setIfInBounds_toArray, List.set_cons_zero, List.set_cons_succ]
                        refine wpAnyH_ready (rs := [7]) (by kernel_rfl) (by simp) ?_
                        refine AllReadyH.cons (take_list rfl) (fun K hK => ?_) ?_
                        · skip
                          go_simp
                          refine hK.out _ _ ?_ (fun hHeld => ?_)
                          · try dsimp only
                            all_goals trivial
                          clear hK K
                          refine wpAnyH_done (by kernel_rfl) ?_ _
                          go_wp2
                          go_roundw
                          case rel => exact ⟨0 + 1, n + m, F, A5, c5, _, by omega, by go_num, Lib.hid (by rw [HLs.out, List.length_append, ← Hn.out, Hm.out]), Lib.hid ⟨fun h => absurd h (by omega), fun _ => HFe.out.symm⟩, HokN, HB6, HN6, Lib.hid (by rw [HLs.out]; exact HT6.out)⟩
                          case measure => simp [intOf]; omega
                        exact AllReadyH.nil
                      exact AllReadyH.nil
                    exact AllReadyH.nil
                  refine AllReadyH.cons (take_list rfl) (fun K hK => ?_) ?_
                  · skip
                    go_simp
                    refine (HCp2.out _ (ext_trans (ext_trans HNb.out.bel HE3.out) (by repeat (first | exact Below.refl _ _ | apply ext_drew | apply ext_drewN | apply ext_alloc)))).mono ?_
                    rintro e x3 ⟨D2, d2, xs2, rfl, hn3, hT3⟩
                    dsimp only
                    have HE4 : Hid (Below wb.heap.size wb x3) := Lib.hid (ext_trans HE3.out (ext_trans (by repeat (first | exact Below.refl _ _ | apply ext_drew | apply ext_drewN)) hn3.bel))
                    have Hn3 := Lib.hid hn3.row
                    have HT3 := Lib.hid hT3
                    clear hn3 hT3
                    refine hK.out _ _ ?_ (fun hHeld => ?_)
                    · try dsimp only
                      all_goals trivial
                    clear hK K
                    refine wpAnyH_ready (rs := [1]) (by kernel_rfl) (by simp) ?_
                    refine AllReadyH.cons (take_list rfl) (fun K hK => ?_) ?_
                    · skip
                      have ql := (HK.out x3 (HE4.out)).2.2.2
                      go_simp
                      clear ql
                      refine hK.out _ _ ?_ (fun hHeld => ?_)
                      · try dsimp only
                        all_goals trivial
                      clear hK K
                      refine wpAnyH_ready (rs := [5]) (by kernel_rfl) (by simp) ?_
                      refine AllReadyH.cons (take_list rfl) (fun K hK => ?_) ?_
                      · skip
                        refine step_appO _ rfl (.tmp 31) (.tmp 34) _ rfl 47 _ 2 32 Tryd.underlying22 info_ln rfl D n d xs rfl (HNb.out.row.ext HE4.out) D2 m d2 xs2 rfl Hn3.out.1 Hn3.out.rd HT3.out.oneCell (fun h => by have h1 := Hn3.out.nil_cap h; have h2 := Hn3.out.le; omega) Hp2.out.1 Hp2.out.2 ?_
                        intro A5 c5 x4 hr5 ho5 hA5
                        have hB4 := HBb.out.ext HE4.out
                        have hgD : ¬ inA D g := HNb.out.row.ne_blk HBb.out (by decide)
                        have hB5 := hB4.only ho5 hgD
                        have b1 := hB5.cell 1
                        have gb1 := hB5.free 1
                        simp only [List.getElem?_toArray, List.getElem?_cons_zero, List.getElem?_cons_succ] at b1
                        have HB6 := Lib.hid (hB5.put 1 (.slice A5 (n + m) c5))
                        have HN6 := Lib.hid ((HNb.out.grow HE4.out hr5 ho5 hA5).far (p := ⟨g, 1, none⟩) (hr5.ne_blk hB5 (by decide)) Hgw2.out (.slice A5 (n + m) c5))
                        have HT6 := Lib.hid ((((HTb.out.ext HE4.out).only (HNb.out.row.ext HE4.out) (by decide) ho5).app (HT3.out.only (HNb.out.row.ext HE4.out) (by decide) ho5)).far hB5 (by decide) 1 (.slice A5 (n + m) c5))
                        clear hr5 ho5 hA5 hB4 hgD hB5
                        refine hK.out _ _ ?_ (fun hHeld => ?_)
                        · try dsimp only
                          all_goals trivial
                        clear hK K
                        refine wpAnyH_take (i := 6) (v := ?_) (take_list rfl) (by kernel_rfl) (by kernel_rfl) (by kernel_rfl) (fun _ _ _ h => h) (Or.inl ⟨by rfl, ?_⟩) (by assumption) ?_
                        rotate_left
                        · intro w hSw
                          try dsimp only at hSw
                          first | (go_simp; done) | (go_simp; with_reducible rfl)
                        try simp only [Act.put, List.setIfInBounds_toArray, List.set_cons_zero, List.set_cons_succ]
                        refine wpAnyH_ready (rs := [7]) (by kernel_rfl) (by simp) ?_
                        refine AllReadyH.cons (take_list rfl) (fun K hK => ?_) ?_
                        · skip
                          go_simp
                          refine hK.out _ _ ?_ (fun hHeld => ?_)
                          · try dsimp only
                            all_goals trivial
                          clear hK K
                          refine wpAnyH_done (by kernel_rfl) ?_ _
                          go_wp2
                          go_roundw
                          case rel => exact ⟨0 + 1, n + m, F, A5, c5, _, by omega, by go_num, Lib.hid (by rw [HLs.out, List.length_append, ← Hn.out, Hm.out]), Lib.hid ⟨fun h => absurd h (by omega), fun _ => HFe.out.symm⟩, HokN, HB6, HN6, Lib.hid (by rw [HLs.out]; exact HT6.out)⟩
                          case measure => simp [intOf]; omega
                        exact AllReadyH.nil
                      exact AllReadyH.nil
                    exact AllReadyH.nil
                  exact AllReadyH.nil
                exact AllReadyH.nil
              exact AllReadyH.nil
            exact AllReadyH.nil
          · have Hno : Hid (R = (⟨0, []⟩, 1)) := Lib.hid (by rcases Hnq.out with h | h; exact absurd h.2 he; exact h)
            have hed : (sf != F + (n : Int)) = true := by simpa using he
            have hed2 : decide (sf = F + (n : Int)) = false := decide_eq_false he
            refine wp_region_held_drew (S := fun W => W.cell? ⟨wr.heap.size, 0, none⟩ = some (.int .i64 sf) ∧ W.cell? ⟨wr.heap.size, 1, none⟩ = some (.slice B m cb) ∧ W.cell? ⟨g, 0, none⟩ = some (.int .i64 F) ∧ W.cell? ⟨g, 1, none⟩ = some (.slice D n d)) (by kernel_rfl) ?_ (fun hHeld => ?_)
            · exact HK.out _ (by repeat (first | exact Below.refl _ _ | exact HE4.out | exact HE3.out | exact HE2.out | apply ext_drew | apply ext_drewN | apply ext_alloc))
            refine wpAnyH_take (i := 0) (v := ?_) (take_list rfl) (by kernel_rfl) (by kernel_rfl) (by kernel_rfl) (fun _ _ _ h => h) (Or.inl ⟨by rfl, ?_⟩) (by assumption) ?_
            rotate_left
            · intro w hSw
              try dsimp only at hSw
              first | (go_simp; done) | (go_simp; with_reducible rfl)
            try simp only [Act.put, List.setIfInBounds_toArray, List.set_cons_zero, List.set_cons_succ]
            refine wpAnyH_ready (rs := [1]) (by kernel_rfl) (by simp) ?_
            refine AllReadyH.cons (take_list rfl) (fun K hK => ?_) ?_
            · skip
              go_simp
              refine (HIs2.out _ (by repeat (first | exact Below.refl _ _ | exact HE4.out | exact HE3.out | exact HE2.out | apply ext_drew | apply ext_drewN | apply ext_alloc))).mono ?_
              rintro e x1 ⟨rfl, hbx⟩
              dsimp only
              have HE2 : Hid (Below wb.heap.size wb x1) := Lib.hid (ext_trans (by repeat (first | exact Below.refl _ _ | exact HE4.out | exact HE3.out | exact HE2.out | apply ext_drew | apply ext_drewN | apply ext_alloc)) hbx)
              clear hbx
              refine hK.out _ _ ?_ (fun hHeld => ?_)
              · try dsimp only
                exact HK.out _ (by repeat (first | exact Below.refl _ _ | exact HE4.out | exact HE3.out | exact HE2.out | apply ext_drew | apply ext_drewN | apply ext_alloc))
              clear hK K
              refine wpAnyH_take (i := 2) (v := ?_) (take_list rfl) (by kernel_rfl) (by kernel_rfl) (by kernel_rfl) (fun _ _ _ h => h) (Or.inl ⟨by rfl, ?_⟩) (by assumption) ?_
              rotate_left
              · intro w hSw
                try dsimp only at hSw
                first | (go_simp; done) | (go_simp; with_reducible rfl)
              try simp only [Act.put, List.setIfInBounds_toArray, List.set_cons_zero, List.set_cons_succ]
              refine wpAnyH_take (i := 3) (v := ?_) (take_list rfl) (by kernel_rfl) (by kernel_rfl) (by kernel_rfl) (fun _ _ _ h => h) (Or.inl ⟨by rfl, ?_⟩) (by assumption) ?_
              rotate_left
              · intro w hSw
                try dsimp only at hSw
                first | (go_simp; done) | (go_simp; with_reducible rfl)
              try simp only [Act.put, List.setIfInBounds_toArray, List.set_cons_zero, List.set_cons_succ]
              refine wpAnyH_take (i := 4) (v := ?_) (take_list rfl) (by kernel_rfl) (by kernel_rfl) (by kernel_rfl) (fun _ _ _ h => h) (Or.inl ⟨by rfl, ?_⟩) (by assumption) ?_
              rotate_left
              · intro w hSw
                try dsimp only at hSw
                first | (go_simp; done) | (go_simp; with_reducible rfl)
              try simp only [Act.put, List.setIfInBounds_toArray, List.set_cons_zero, List.set_cons_succ]
              refine wpAnyH_take (i := 5) (v := ?_) (take_list rfl) (by kernel_rfl) (by kernel_rfl) (by kernel_rfl) (fun _ _ _ h => h) (Or.inl ⟨by rfl, ?_⟩) (by assumption) ?_
              rotate_left
              · intro w hSw
                try dsimp only at hSw
                first | (go_simp; done) | (go_simp; with_reducible rfl)
              try simp only [Act.put, List.setIfInBounds_toArray, List.set_cons_zero, List.set_cons_succ]
              refine wpAnyH_take (i := 6) (v := ?_) (take_list rfl) (by kernel_rfl) (by kernel_rfl) (by kernel_rfl) (fun _ _ _ h => h) (Or.inl ⟨by rfl, ?_⟩) (by assumption) ?_
              rotate_left
              · intro w hSw
                try dsimp only at hSw
                first | (go_simp; done) | (go_simp; with_reducible rfl)
              try simp only [Act.put, List.setIfInBounds_toArray, List.set_cons_zero, List.set_cons_succ]
              refine wpAnyH_ready (rs := [7]) (by kernel_rfl) (by simp) ?_
              refine AllReadyH.cons (take_list rfl) (fun K hK => ?_) ?_
              · skip
                go_simp
                refine (HEn.out rfl _).mono ?_
                rintro e x2 ⟨rfl, hbx⟩
                dsimp only
                have HE3 : Hid (Below wb.heap.size wb x2) := Lib.hid (ext_trans (by repeat (first | exact Below.refl _ _ | exact HE4.out | exact HE3.out | exact HE2.out | apply ext_drew | apply ext_drewN | apply ext_alloc)) hbx)
                clear hbx
                refine hK.out _ _ ?_ (fun hHeld => ?_)
                · try dsimp only
                  exact HK.out _ (by repeat (first | exact Below.refl _ _ | exact HE4.out | exact HE3.out | exact HE2.out | apply ext_drew | apply ext_drewN | apply ext_alloc))
                clear hK K
                refine wpAnyH_take (i := 8) (v := ?_) (take_list rfl) (by kernel_rfl) (by kernel_rfl) (by kernel_rfl) (fun _ _ _ h => h) (Or.inl ⟨by rfl, ?_⟩) (by assumption) ?_
                rotate_left
                · intro w hSw
                  try dsimp only at hSw
                  first | (go_simp; done) | (go_simp; with_reducible rfl)
                try simp only [Act.put, List.setIfInBounds_toArray, List.set_cons_zero, List.set_cons_succ]
                refine wpAnyH_take (i := 9) (v := ?_) (take_list rfl) (by kernel_rfl) (by kernel_rfl) (by kernel_rfl) (fun _ _ _ h => h) (Or.inl ⟨by rfl, ?_⟩) (by assumption) ?_
                rotate_left
                · intro w hSw
                  try dsimp only at hSw
                  first | (go_simp; done) | (go_simp; with_reducible rfl)
                try simp only [Act.put, List.setIfInBounds_toArray, List.set_cons_zero, List.set_cons_succ]
                refine wpAnyH_done (by kernel_rfl) ?_ _
                have hR := HB0.out.ext (ext_trans HNb.out.bel HE3.out)
                have z0 := hR.cell 0
                have g0 := hR.free 0
                have hR1 := hR.put 0 (.int .i64 0)
                have z1 := hR1.cell 1
                have g1 := hR1.free 1
                have hR2 := hR1.put 1 (.slice none 0 0)
                have r0 := hR2.cell 0
                have r1 := hR2.cell 1
                simp only [List.getElem?_toArray, List.setIfInBounds_toArray, List.set_cons_zero, List.set_cons_succ, List.getElem?_cons_zero, List.getElem?_cons_succ] at z0 z1 r0 r1
                have Hbr : Hid (Below w.heap.size w ((x2.setCell ⟨w.heap.size, 0, none⟩ (.int .i64 0)).setCell ⟨w.heap.size, 1, none⟩ (.slice none 0 0))) := Lib.hid (Below.setCell (Below.setCell (ext_trans Hb0.out (ext_trans HNb.out.bel HE3.out)) (Nat.le_refl _) _) (Nat.le_refl _) _)
                clear hR hR1 hR2
                go_wp2
                refine bodyPost_ret (v := .tuple #[.agg #[.int .i64 0, .slice none 0 0], .int .i64 1]) (by simp [results, Tryd.results13, go_sem, r0, r1]) rfl ?_
                rw [Hno.out]
                exact ⟨none, 0, rfl, SgIn.none_ _, Hbr.out⟩
              exact AllReadyH.nil
            exact AllReadyH.nil
      · have hkz : ¬ ((k : Int) = 0) := by omega
        have hkd : decide ((k : Int) = 0) = false := decide_eq_false hkz
        subst hwb
        clear hb0 gb0
        go_wp2_with fail
        rw [← Hwa.out]
        cases ig with
        | false =>
          have Hno : Hid (R = (⟨0, []⟩, 1)) := Lib.hid (by rcases Hnq.out with h | h; cases h.1; exact h)
          refine wp_region_held_drew (S := fun W => W.cell? ⟨wr.heap.size, 0, none⟩ = some (.int .i64 sf) ∧ W.cell? ⟨wr.heap.size, 1, none⟩ = some (.slice B m cb) ∧ W.cell? ⟨g, 0, none⟩ = some (.int .i64 F) ∧ W.cell? ⟨g, 1, none⟩ = some (.slice D n d)) (by kernel_rfl) ?_ (fun hHeld => ?_)
          · exact HK.out _ (by repeat (first | exact Below.refl _ _ | exact HE4.out | exact HE3.out | exact HE2.out | apply ext_drew | apply ext_drewN | apply ext_alloc))
          refine wpAnyH_take (i := 0) (v := ?_) (take_list rfl) (by kernel_rfl) (by kernel_rfl) (by kernel_rfl) (fun _ _ _ h => h) (Or.inl ⟨by rfl, ?_⟩) (by assumption) ?_
          rotate_left
          · intro w hSw
            try dsimp only at hSw
            first | (go_simp; done) | (go_simp; with_reducible rfl)
          try simp only [Act.put, List.setIfInBounds_toArray, List.set_cons_zero, List.set_cons_succ]
          refine wpAnyH_ready (rs := [1]) (by kernel_rfl) (by simp) ?_
          refine AllReadyH.cons (take_list rfl) (fun K hK => ?_) ?_
          · skip
            go_simp
            refine (HIs2.out _ (by repeat (first | exact Below.refl _ _ | exact HE4.out | exact HE3.out | exact HE2.out | apply ext_drew | apply ext_drewN | apply ext_alloc))).mono ?_
            rintro e x1 ⟨rfl, hbx⟩
            dsimp only
            have HE2 : Hid (Below wb.heap.size wb x1) := Lib.hid (ext_trans (by repeat (first | exact Below.refl _ _ | exact HE4.out | exact HE3.out | exact HE2.out | apply ext_drew | apply ext_drewN | apply ext_alloc)) hbx)
            clear hbx
            refine hK.out _ _ ?_ (fun hHeld => ?_)
            · try dsimp only
              exact HK.out _ (by repeat (first | exact Below.refl _ _ | exact HE4.out | exact HE3.out | exact HE2.out | apply ext_drew | apply ext_drewN | apply ext_alloc))
            clear hK K
            refine wpAnyH_take (i := 2) (v := ?_) (take_list rfl) (by kernel_rfl) (by kernel_rfl) (by kernel_rfl) (fun _ _ _ h => h) (Or.inl ⟨by rfl, ?_⟩) (by assumption) ?_
            rotate_left
            · intro w hSw
              try dsimp only at hSw
              first | (go_simp; done) | (go_simp; with_reducible rfl)
            try simp only [Act.put, List.setIfInBounds_toArray, List.set_cons_zero, List.set_cons_succ]
            refine wpAnyH_take (i := 3) (v := ?_) (take_list rfl) (by kernel_rfl) (by kernel_rfl) (by kernel_rfl) (fun _ _ _ h => h) (Or.inl ⟨by rfl, ?_⟩) (by assumption) ?_
            rotate_left
            · intro w hSw
              try dsimp only at hSw
              first | (go_simp; done) | (go_simp; with_reducible rfl)
            try simp only [Act.put, List.setIfInBounds_toArray, List.set_cons_zero, List.set_cons_succ]
            refine wpAnyH_take (i := 4) (v := undef) (take_list rfl) (by kernel_rfl) (by kernel_rfl) (by kernel_rfl) (fun _ _ _ h => h) (Or.inr ⟨by rfl, rfl⟩) (by assumption) ?_
            try simp only [Act.put, List.setIfInBounds_toArray, List.set_cons_zero, List.set_cons_succ]
            refine wpAnyH_take (i := 5) (v := undef) (take_list rfl) (by kernel_rfl) (by kernel_rfl) (by kernel_rfl) (fun _ _ _ h => h) (Or.inr ⟨by rfl, rfl⟩) (by assumption) ?_
            try simp only [Act.put, List.setIfInBounds_toArray, List.set_cons_zero, List.set_cons_succ]
            refine wpAnyH_take (i := 6) (v := undef) (take_list rfl) (by kernel_rfl) (by kernel_rfl) (by kernel_rfl) (fun _ _ _ h => h) (Or.inr ⟨by rfl, rfl⟩) (by assumption) ?_
            try simp only [Act.put, List.setIfInBounds_toArray, List.set_cons_zero, List.set_cons_succ]
            refine wpAnyH_take (i := 7) (v := undef) (take_list rfl) (by kernel_rfl) (by kernel_rfl) (by kernel_rfl) (fun _ _ _ h => h) (Or.inr ⟨by rfl, rfl⟩) (by assumption) ?_
            try simp only [Act.put, List.setIfInBounds_toArray, List.set_cons_zero, List.set_cons_succ]
            refine wpAnyH_take (i := 8) (v := undef) (take_list rfl) (by kernel_rfl) (by kernel_rfl) (by kernel_rfl) (fun _ _ _ h => h) (Or.inr ⟨by rfl, rfl⟩) (by assumption) ?_
            try simp only [Act.put, List.setIfInBounds_toArray, List.set_cons_zero, List.set_cons_succ]
            refine wpAnyH_take (i := 9) (v := ?_) (take_list rfl) (by kernel_rfl) (by kernel_rfl) (by kernel_rfl) (fun _ _ _ h => h) (Or.inl ⟨by rfl, ?_⟩) (by assumption) ?_
            rotate_left
            · intro w hSw
              try dsimp only at hSw
              first | (go_simp; done) | (go_simp; with_reducible rfl)
            try simp only [Act.put, List.setIfInBounds_toArray, List.set_cons_zero, List.set_cons_succ]
            refine wpAnyH_done (by kernel_rfl) ?_ _
            have hR := HB0.out.ext (ext_trans HNb.out.bel HE2.out)
            have z0 := hR.cell 0
            have g0 := hR.free 0
            have hR1 := hR.put 0 (.int .i64 0)
            have z1 := hR1.cell 1
            have g1 := hR1.free 1
            have hR2 := hR1.put 1 (.slice none 0 0)
            have r0 := hR2.cell 0
            have r1 := hR2.cell 1
            simp only [List.getElem?_toArray, List.setIfInBounds_toArray, List.set_cons_zero, List.set_cons_succ, List.getElem?_cons_zero, List.getElem?_cons_succ] at z0 z1 r0 r1
            have Hbr : Hid (Below w.heap.size w ((x1.setCell ⟨w.heap.size, 0, none⟩ (.int .i64 0)).setCell ⟨w.heap.size, 1, none⟩ (.slice none 0 0))) := Lib.hid (Below.setCell (Below.setCell (ext_trans Hb0.out (ext_trans HNb.out.bel HE2.out)) (Nat.le_refl _) _) (Nat.le_refl _) _)
            clear hR hR1 hR2
            go_wp2
            refine bodyPost_ret (v := .tuple #[.agg #[.int .i64 0, .slice none 0 0], .int .i64 1]) (by simp [results, Tryd.results13, go_sem, r0, r1]) rfl ?_
            rw [Hno.out]
            exact ⟨none, 0, rfl, SgIn.none_ _, Hbr.out⟩
          exact AllReadyH.nil
        | true =>
          by_cases he : sf = F + (n : Int)
          · have HokN := Lib.hid (HokS2.out rfl he)
            have HCp2 := Lib.hid (HCp.out rfl)
            have Hp2 : Hid (n + m ≤ maxLen ∧ (n + m) * 32 ≤ 140737488355328) := Lib.hid (Hp.out rfl)
            have Hgw2 := Lib.hid hgw
            subst he
            refine wp_region_held_drew (S := fun W => W.cell? ⟨wr.heap.size, 0, none⟩ = some (.int .i64 (F + (n : Int))) ∧ W.cell? ⟨wr.heap.size, 1, none⟩ = some (.slice B m cb) ∧ W.cell? ⟨g, 0, none⟩ = some (.int .i64 F) ∧ W.cell? ⟨g, 1, none⟩ = some (.slice D n d)) (by kernel_rfl) ?_ (fun hHeld => ?_)
            · exact HK.out _ (by repeat (first | exact Below.refl _ _ | exact HE4.out | exact HE3.out | exact HE2.out | apply ext_drew | apply ext_drewN | apply ext_alloc))
            refine wpAnyH_take (i := 0) (v := ?_) (take_list rfl) (by kernel_rfl) (by kernel_rfl) (by kernel_rfl) (fun _ _ _ h => h) (Or.inl ⟨by rfl, ?_⟩) (by assumption) ?_
            rotate_left
            · intro w hSw
              try dsimp only at hSw
              first | (go_simp; done) | (go_simp; with_reducible rfl)
            try simp only [Act.put, List.setIfInBounds_toArray, List.set_cons_zero, List.set_cons_succ]
            refine wpAnyH_ready (rs := [1]) (by kernel_rfl) (by simp) ?_
            refine AllReadyH.cons (take_list rfl) (fun K hK => ?_) ?_
            · skip
              go_simp
              refine (HIs2.out _ (by repeat (first | exact Below.refl _ _ | exact HE4.out | exact HE3.out | exact HE2.out | apply ext_drew | apply ext_drewN | apply ext_alloc))).mono ?_
              rintro e x1 ⟨rfl, hbx⟩
              dsimp only
              have HE2 : Hid (Below wb.heap.size wb x1) := Lib.hid (ext_trans (by repeat (first | exact Below.refl _ _ | exact HE4.out | exact HE3.out | exact HE2.out | apply ext_drew | apply ext_drewN | apply ext_alloc)) hbx)
              clear hbx
              refine hK.out _ _ ?_ (fun hHeld => ?_)
              · try dsimp only
                exact HK.out _ (by repeat (first | exact Below.refl _ _ | exact HE4.out | exact HE3.out | exact HE2.out | apply ext_drew | apply ext_drewN | apply ext_alloc))
              clear hK K
              refine wpAnyH_take (i := 2) (v := ?_) (take_list rfl) (by kernel_rfl) (by kernel_rfl) (by kernel_rfl) (fun _ _ _ h => h) (Or.inl ⟨by rfl, ?_⟩) (by assumption) ?_
              rotate_left
              · intro w hSw
                try dsimp only at hSw
                first | (go_simp; done) | (go_simp; with_reducible rfl)
              try simp only [Act.put, List.setIfInBounds_toArray, List.set_cons_zero, List.set_cons_succ]
              refine wpAnyH_take (i := 3) (v := ?_) (take_list rfl) (by kernel_rfl) (by kernel_rfl) (by kernel_rfl) (fun _ _ _ h => h) (Or.inl ⟨by rfl, ?_⟩) (by assumption) ?_
              rotate_left
              · intro w hSw
                try dsimp only at hSw
                first | (go_simp; done) | (go_simp; with_reducible rfl)
              try simp only [Act.put, List.setIfInBounds_toArray, List.set_cons_zero, List.set_cons_succ]
              refine wpAnyH_take (i := 4) (v := ?_) (take_list rfl) (by kernel_rfl) (by kernel_rfl) (by kernel_rfl) (fun _ _ _ h => h) (Or.inl ⟨by rfl, ?_⟩) (by assumption) ?_
              rotate_left
              · intro w hSw
                try dsimp only at hSw
                first | (go_simp; done) | (go_simp; with_reducible rfl)
              try simp only [Act.put, List.setIfInBounds_toArray, List.set_cons_zero, List.set_cons_succ]
              refine wpAnyH_take (i := 5) (v := ?_) (take_list rfl) (by kernel_rfl) (by kernel_rfl) (by kernel_rfl) (fun _ _ _ h => h) (Or.inl ⟨by rfl, ?_⟩) (by assumption) ?_
              rotate_left
              · intro w hSw
                try dsimp only at hSw
                first | (go_simp; done) | (go_simp; with_reducible rfl)
              try simp only [Act.put, List.setIfInBounds_toArray, List.set_cons_zero, List.set_cons_succ]
              refine wpAnyH_take (i := 6) (v := ?_) (take_list rfl) (by kernel_rfl) (by kernel_rfl) (by kernel_rfl) (fun _ _ _ h => h) (Or.inl ⟨by rfl, ?_⟩) (by assumption) ?_
              rotate_left
              · intro w hSw
                try dsimp only at hSw
                first | (go_simp; done) | (go_simp; with_reducible rfl)
              try simp only [Act.put, List.setIfInBounds_toArray, List.set_cons_zero, List.set_cons_succ]
              refine wpAnyH_ready (rs := [7]) (by kernel_rfl) (by simp) ?_
              refine AllReadyH.cons (take_list rfl) (fun K hK => ?_) ?_
              · skip
                go_simp
                refine (HEn.out rfl _).mono ?_
                rintro e x2 ⟨rfl, hbx⟩
                dsimp only
                have HE3 : Hid (Below wb.heap.size wb x2) := Lib.hid (ext_trans (by repeat (first | exact Below.refl _ _ | exact HE4.out | exact HE3.out | exact HE2.out | apply ext_drew | apply ext_drewN | apply ext_alloc)) hbx)
                clear hbx
                refine hK.out _ _ ?_ (fun hHeld => ?_)
                · try dsimp only
                  exact HK.out _ (by repeat (first | exact Below.refl _ _ | exact HE4.out | exact HE3.out | exact HE2.out | apply ext_drew | apply ext_drewN | apply ext_alloc))
                clear hK K
                refine wpAnyH_take (i := 8) (v := ?_) (take_list rfl) (by kernel_rfl) (by kernel_rfl) (by kernel_rfl) (fun _ _ _ h => h) (Or.inl ⟨by rfl, ?_⟩) (by assumption) ?_
                rotate_left
                · intro w hSw
                  try dsimp only at hSw
                  first | (go_simp; done) | (go_simp; with_reducible rfl)
                try simp only [Act.put, List.setIfInBounds_toArray, List.set_cons_zero, List.set_cons_succ]
                refine wpAnyH_take (i := 9) (v := ?_) (take_list rfl) (by kernel_rfl) (by kernel_rfl) (by kernel_rfl) (fun _ _ _ h => h) (Or.inl ⟨by rfl, ?_⟩) (by assumption) ?_
                rotate_left
                · intro w hSw
                  try dsimp only at hSw
                  first | (go_simp; done) | (go_simp; with_reducible rfl)
                try simp only [Act.put, List.setIfInBounds_toArray, List.set_cons_zero, List.set_cons_succ]
                refine wpAnyH_done (by kernel_rfl) ?_ _
                go_wp2_with fail
                refine wp_region_held_drew (S := fun _ => True) (by kernel_rfl) ?_ (fun hHeld => ?_)
                · all_goals trivial
                refine wpAnyH_take (i := 0) (v := ?_) (take_list rfl) (by kernel_rfl) (by kernel_rfl) (by kernel_rfl) (fun _ _ _ h => h) (Or.inl ⟨by rfl, ?_⟩) (by assumption) ?_
                rotate_left
                · intro w hSw
                  try dsimp only at hSw
                  first | (go_simp; done) | (go_simp; with_reducible rfl)
                try simp only [Act.put, List.setIfInBounds_toArray, List.set_cons_zero, List.set_cons_succ]
                refine wpAnyH_take (i := 2) (v := ?_) (take_list rfl) (by kernel_rfl) (by kernel_rfl) (by kernel_rfl) (fun _ _ _ h => h) (Or.inl ⟨by rfl, ?_⟩) (by assumption) ?_
                rotate_left
                · intro w hSw
                  try dsimp only at hSw
                  first | (go_simp; done) | (go_simp; with_reducible rfl)
                try simp only [Act.put, List.setIfInBounds_toArray, List.set_cons_zero, List.set_cons_succ]
                refine wpAnyH_ready (rs := [1, 3]) (by kernel_rfl) (by simp) ?_
                refine AllReadyH.cons (take_list rfl) (fun K hK => ?_) ?_
                · skip
                  have ql := (HK.out x2.drew (ext_drew HE3.out)).2.2.2
                  go_simp
                  clear ql
                  refine hK.out _ _ ?_ (fun hHeld => ?_)
                  · try dsimp only
                    all_goals trivial
                  clear hK K
                  refine wpAnyH_ready (rs := [3]) (by kernel_rfl) (by simp) ?_
                  refine AllReadyH.cons (take_list rfl) (fun K hK => ?_) ?_
                  · skip
                    have ql := (HK.out x2.drew (ext_drew HE3.out)).2.1
                    go_simp
                    clear ql
                    refine hK.out _ _ ?_ (fun hHeld => ?_)
                    · try dsimp only
                      all_goals trivial
                    clear hK K
                    refine wpAnyH_ready (rs := [4]) (by kernel_rfl) (by simp) ?_
                    refine AllReadyH.cons (take_list rfl) (fun K hK => ?_) ?_
                    · skip
                      go_simp
                      refine (HCp2.out _ (ext_trans (ext_trans HNb.out.bel HE3.out) (by repeat (first | exact Below.refl _ _ | apply ext_drew | apply ext_drewN | apply ext_alloc)))).mono ?_
                      rintro e x3 ⟨D2, d2, xs2, rfl, hn3, hT3⟩
                      dsimp only
                      have HE4 : Hid (Below wb.heap.size wb x3) := Lib.hid (ext_trans HE3.out (ext_trans (by repeat (first | exact Below.refl _ _ | apply ext_drew | apply ext_drewN)) hn3.bel))
                      have Hn3 := Lib.hid hn3.row
                      have HT3 := Lib.hid hT3
                      clear hn3 hT3
                      refine hK.out _ _ ?_ (fun hHeld => ?_)
                      · try dsimp only
                        all_goals trivial
                      clear hK K
                      refine wpAnyH_ready (rs := [5]) (by kernel_rfl) (by simp) ?_
                      refine AllReadyH.cons (take_list rfl) (fun K hK => ?_) ?_
                      · skip
                        refine step_appO _ rfl (.tmp 31) (.tmp 34) _ rfl 47 _ 2 32 Tryd.underlying22 info_ln rfl D n d xs rfl (HNb.out.row.ext HE4.out) D2 m d2 xs2 rfl Hn3.out.1 Hn3.out.rd HT3.out.oneCell (fun h => by have h1 := Hn3.out.nil_cap h; have h2 := Hn3.out.le; omega) Hp2.out.1 Hp2.out.2 ?_
                        intro A5 c5 x4 hr5 ho5 hA5
                        have hB4 := HBb.out.ext HE4.out
                        have hgD : ¬ inA D g := HNb.out.row.ne_blk HBb.out (by decide)
                        have hB5 := hB4.only ho5 hgD
                        have b1 := hB5.cell 1
                        have gb1 := hB5.free 1
                        simp only [List.getElem?_toArray, List.getElem?_cons_zero, List.getElem?_cons_succ] at b1
                        have HB6 := Lib.hid (hB5.put 1 (.slice A5 (n + m) c5))
                        have HN6 := Lib.hid ((HNb.out.grow HE4.out hr5 ho5 hA5).far (p := ⟨g, 1, none⟩) (hr5.ne_blk hB5 (by decide)) Hgw2.out (.slice A5 (n + m) c5))
                        have HT6 := Lib.hid ((((HTb.out.ext HE4.out).only (HNb.out.row.ext HE4.out) (by decide) ho5).app (HT3.out.only (HNb.out.row.ext HE4.out) (by decide) ho5)).far hB5 (by decide) 1 (.slice A5 (n + m) c5))
                        clear hr5 ho5 hA5 hB4 hgD hB5
                        refine hK.out _ _ ?_ (fun hHeld => ?_)
                        · try dsimp only
                          all_goals trivial
                        clear hK K
                        refine wpAnyH_take (i := 6) (v := ?_) (take_list rfl) (by kernel_rfl) (by kernel_rfl) (by kernel_rfl) (fun _ _ _ h => h) (Or.inl ⟨by rfl, ?_⟩) (by assumption) ?_
                        rotate_left
                        · intro w hSw
                          try dsimp only at hSw
                          first | (go_simp; done) | (go_simp; with_reducible rfl)
                        try simp only [Act.put, List.setIfInBounds_toArray, List.set_cons_zero, List.set_cons_succ]
                        refine wpAnyH_ready (rs := [7]) (by kernel_rfl) (by simp) ?_
                        refine AllReadyH.cons (take_list rfl) (fun K hK => ?_) ?_
                        · skip
                          go_simp
                          refine hK.out _ _ ?_ (fun hHeld => ?_)
                          · try dsimp only
                            all_goals trivial
                          clear hK K
                          refine wpAnyH_done (by kernel_rfl) ?_ _
                          go_wp2
                          go_roundw
                          case rel => exact ⟨k + 1, n + m, F, A5, c5, _, by omega, by go_num, Lib.hid (by rw [HLs.out, List.length_append, ← Hn.out, Hm.out]), Lib.hid ⟨fun h => absurd h (by omega), fun _ => HFe.out.symm⟩, HokN, HB6, HN6, Lib.hid (by rw [HLs.out]; exact HT6.out)⟩
                          case measure => simp [intOf]; omega
                        exact AllReadyH.nil
                      exact AllReadyH.nil
                    exact AllReadyH.nil
                  exact AllReadyH.nil
                refine AllReadyH.cons (take_list rfl) (fun K hK => ?_) ?_
                · skip
                  have ql := (HK.out x2.drew (ext_drew HE3.out)).2.1
                  go_simp
                  clear ql
                  refine hK.out _ _ ?_ (fun hHeld => ?_)
                  · try dsimp only
                    all_goals trivial
                  clear hK K
                  refine wpAnyH_ready (rs := [1, 4]) (by kernel_rfl) (by simp) ?_
                  refine AllReadyH.cons (take_list rfl) (fun K hK => ?_) ?_
                  · skip
                    have ql := (HK.out x2.drew (ext_drew HE3.out)).2.2.2
                    go_simp
                    clear ql
                    refine hK.out _ _ ?_ (fun hHeld => ?_)
                    · try dsimp only
                      all_goals trivial
                    clear hK K
                    refine wpAnyH_ready (rs := [4]) (by kernel_rfl) (by simp) ?_
                    refine AllReadyH.cons (take_list rfl) (fun K hK => ?_) ?_
                    · skip
                      go_simp
                      refine (HCp2.out _ (ext_trans (ext_trans HNb.out.bel HE3.out) (by repeat (first | exact Below.refl _ _ | apply ext_drew | apply ext_drewN | apply ext_alloc)))).mono ?_
                      rintro e x3 ⟨D2, d2, xs2, rfl, hn3, hT3⟩
                      dsimp only
                      have HE4 : Hid (Below wb.heap.size wb x3) := Lib.hid (ext_trans HE3.out (ext_trans (by repeat (first | exact Below.refl _ _ | apply ext_drew | apply ext_drewN)) hn3.bel))
                      have Hn3 := Lib.hid hn3.row
                      have HT3 := Lib.hid hT3
                      clear hn3 hT3
                      refine hK.out _ _ ?_ (fun hHeld => ?_)
                      · try dsimp only
                        all_goals trivial
                      clear hK K
                      refine wpAnyH_ready (rs := [5]) (by kernel_rfl) (by simp) ?_
                      refine AllReadyH.cons (take_list rfl) (fun K hK => ?_) ?_
                      · skip
                        refine step_appO _ rfl (.tmp 31) (.tmp 34) _ rfl 47 _ 2 32 Tryd.underlying22 info_ln rfl D n d xs rfl (HNb.out.row.ext HE4.out) D2 m d2 xs2 rfl Hn3.out.1 Hn3.out.rd HT3.out.oneCell (fun h => by have h1 := Hn3.out.nil_cap h; have h2 := Hn3.out.le; omega) Hp2.out.1 Hp2.out.2 ?_
                        intro A5 c5 x4 hr5 ho5 hA5
                        have hB4 := HBb.out.ext HE4.out
                        have hgD : ¬ inA D g := HNb.out.row.ne_blk HBb.out (by decide)
                        have hB5 := hB4.only ho5 hgD
                        have b1 := hB5.cell 1
                        have gb1 := hB5.free 1
                        simp only [List.getElem?_toArray, List.getElem?_cons_zero, List.getElem?_cons_succ] at b1
                        have HB6 := Lib.hid (hB5.put 1 (.slice A5 (n + m) c5))
                        have HN6 := Lib.hid ((HNb.out.grow HE4.out hr5 ho5 hA5).far (p := ⟨g, 1, none⟩) (hr5.ne_blk hB5 (by decide)) Hgw2.out (.slice A5 (n + m) c5))
                        have HT6 := Lib.hid ((((HTb.out.ext HE4.out).only (HNb.out.row.ext HE4.out) (by decide) ho5).app (HT3.out.only (HNb.out.row.ext HE4.out) (by decide) ho5)).far hB5 (by decide) 1 (.slice A5 (n + m) c5))
                        clear hr5 ho5 hA5 hB4 hgD hB5
                        refine hK.out _ _ ?_ (fun hHeld => ?_)
                        · try dsimp only
                          all_goals trivial
                        clear hK K
                        refine wpAnyH_take (i := 6) (v := ?_) (take_list rfl) (by kernel_rfl) (by kernel_rfl) (by kernel_rfl) (fun _ _ _ h => h) (Or.inl ⟨by rfl, ?_⟩) (by assumption) ?_
                        rotate_left
                        · intro w hSw
                          try dsimp only at hSw
                          first | (go_simp; done) | (go_simp; with_reducible rfl)
                        try simp only [Act.put, List.setIfInBounds_toArray, List.set_cons_zero, List.set_cons_succ]
                        refine wpAnyH_ready (rs := [7]) (by kernel_rfl) (by simp) ?_
                        refine AllReadyH.cons (take_list rfl) (fun K hK => ?_) ?_
                        · skip
                          go_simp
                          refine hK.out _ _ ?_ (fun hHeld => ?_)
                          · try dsimp only
                            all_goals trivial
                          clear hK K
                          refine wpAnyH_done (by kernel_rfl) ?_ _
                          go_wp2
                          go_roundw
                          case rel => exact ⟨k + 1, n + m, F, A5, c5, _, by omega, by go_num, Lib.hid (by rw [HLs.out, List.length_append, ← Hn.out, Hm.out]), Lib.hid ⟨fun h => absurd h (by omega), fun _ => HFe.out.symm⟩, HokN, HB6, HN6, Lib.hid (by rw [HLs.out]; exact HT6.out)⟩
                          case measure => simp [intOf]; omega
                        exact AllReadyH.nil
                      exact AllReadyH.nil
                    exact AllReadyH.nil
                  refine AllReadyH.cons (take_list rfl) (fun K hK => ?_) ?_
                  · skip
                    go_simp
                    refine (HCp2.out _ (ext_trans (ext_trans HNb.out.bel HE3.out) (by repeat (first | exact Below.refl _ _ | apply ext_drew | apply ext_drewN | apply ext_alloc)))).mono ?_
                    rintro e x3 ⟨D2, d2, xs2, rfl, hn3, hT3⟩
                    dsimp only
                    have HE4 : Hid (Below wb.heap.size wb x3) := Lib.hid (ext_trans HE3.out (ext_trans (by repeat (first | exact Below.refl _ _ | apply ext_drew | apply ext_drewN)) hn3.bel))
                    have Hn3 := Lib.hid hn3.row
                    have HT3 := Lib.hid hT3
                    clear hn3 hT3
                    refine hK.out _ _ ?_ (fun hHeld => ?_)
                    · try dsimp only
                      all_goals trivial
                    clear hK K
                    refine wpAnyH_ready (rs := [1]) (by kernel_rfl) (by simp) ?_
                    refine AllReadyH.cons (take_list rfl) (fun K hK => ?_) ?_
                    · skip
                      have ql := (HK.out x3 (HE4.out)).2.2.2
                      go_simp
                      clear ql
                      refine hK.out _ _ ?_ (fun hHeld => ?_)
                      · try dsimp only
                        all_goals trivial
                      clear hK K
                      refine wpAnyH_ready (rs := [5]) (by kernel_rfl) (by simp) ?_
                      refine AllReadyH.cons (take_list rfl) (fun K hK => ?_) ?_
                      · skip
                        refine step_appO _ rfl (.tmp 31) (.tmp 34) _ rfl 47 _ 2 32 Tryd.underlying22 info_ln rfl D n d xs rfl (HNb.out.row.ext HE4.out) D2 m d2 xs2 rfl Hn3.out.1 Hn3.out.rd HT3.out.oneCell (fun h => by have h1 := Hn3.out.nil_cap h; have h2 := Hn3.out.le; omega) Hp2.out.1 Hp2.out.2 ?_
                        intro A5 c5 x4 hr5 ho5 hA5
                        have hB4 := HBb.out.ext HE4.out
                        have hgD : ¬ inA D g := HNb.out.row.ne_blk HBb.out (by decide)
                        have hB5 := hB4.only ho5 hgD
                        have b1 := hB5.cell 1
                        have gb1 := hB5.free 1
                        simp only [List.getElem?_toArray, List.getElem?_cons_zero, List.getElem?_cons_succ] at b1
                        have HB6 := Lib.hid (hB5.put 1 (.slice A5 (n + m) c5))
                        have HN6 := Lib.hid ((HNb.out.grow HE4.out hr5 ho5 hA5).far (p := ⟨g, 1, none⟩) (hr5.ne_blk hB5 (by decide)) Hgw2.out (.slice A5 (n + m) c5))
                        have HT6 := Lib.hid ((((HTb.out.ext HE4.out).only (HNb.out.row.ext HE4.out) (by decide) ho5).app (HT3.out.only (HNb.out.row.ext HE4.out) (by decide) ho5)).far hB5 (by decide) 1 (.slice A5 (n + m) c5))
                        clear hr5 ho5 hA5 hB4 hgD hB5
                        refine hK.out _ _ ?_ (fun hHeld => ?_)
                        · try dsimp only
                          all_goals trivial
                        clear hK K
                        refine wpAnyH_take (i := 6) (v := ?_) (take_list rfl) (by kernel_rfl) (by kernel_rfl) (by kernel_rfl) (fun _ _ _ h => h) (Or.inl ⟨by rfl, ?_⟩) (by assumption) ?_
                        rotate_left
                        · intro w hSw
                          try dsimp only at hSw
                          first | (go_simp; done) | (go_simp; with_reducible rfl)
                        try simp only [Act.put, List.setIfInBounds_toArray, List.set_cons_zero, List.set_cons_succ]
                        refine wpAnyH_ready (rs := [7]) (by kernel_rfl) (by simp) ?_
                        refine AllReadyH.cons (take_list rfl) (fun K hK => ?_) ?_
                        · skip
                          go_simp
                          refine hK.out _ _ ?_ (fun hHeld => ?_)
                          · try dsimp only
                            all_goals trivial
                          clear hK K
                          refine wpAnyH_done (by kernel_rfl) ?_ _
                          go_wp2
                          go_roundw
                          case rel => exact ⟨k + 1, n + m, F, A5, c5, _, by omega, by go_num, Lib.hid (by rw [HLs.out, List.length_append, ← Hn.out, Hm.out]), Lib.hid ⟨fun h => absurd h (by omega), fun _ => HFe.out.symm⟩, HokN, HB6, HN6, Lib.hid (by rw [HLs.out]; exact HT6.out)⟩
                          case measure => simp [intOf]; omega
                        exact AllReadyH.nil
                      exact AllReadyH.nil
                    exact AllReadyH.nil
                  exact AllReadyH.nil
                exact AllReadyH.nil
              exact AllReadyH.nil
            exact AllReadyH.nil
          · have Hno : Hid (R = (⟨0, []⟩, 1)) := Lib.hid (by rcases Hnq.out with h | h; exact absurd h.2 he; exact h)
            have hed : (sf != F + (n : Int)) = true := by simpa using he
            have hed2 : decide (sf = F + (n : Int)) = false := decide_eq_false he
            refine wp_region_held_drew (S := fun W => W.cell? ⟨wr.heap.size, 0, none⟩ = some (.int .i64 sf) ∧ W.cell? ⟨wr.heap.size, 1, none⟩ = some (.slice B m cb) ∧ W.cell? ⟨g, 0, none⟩ = some (.int .i64 F) ∧ W.cell? ⟨g, 1, none⟩ = some (.slice D n d)) (by kernel_rfl) ?_ (fun hHeld => ?_)
            · exact HK.out _ (by repeat (first | exact Below.refl _ _ | exact HE4.out | exact HE3.out | exact HE2.out | apply ext_drew | apply ext_drewN | apply ext_alloc))
            refine wpAnyH_take (i := 0) (v := ?_) (take_list rfl) (by kernel_rfl) (by kernel_rfl) (by kernel_rfl) (fun _ _ _ h => h) (Or.inl ⟨by rfl, ?_⟩) (by assumption) ?_
            rotate_left
            · intro w hSw
              try dsimp only at hSw
              first | (go_simp; done) | (go_simp; with_reducible rfl)
            try simp only [Act.put, List.setIfInBounds_toArray, List.set_cons_zero, List.set_cons_succ]
            refine wpAnyH_ready (rs := [1]) (by kernel_rfl) (by simp) ?_
            refine AllReadyH.cons (take_list rfl) (fun K hK => ?_) ?_
            · skip
              go_simp
              refine (HIs2.out _ (by repeat (first | exact Below.refl _ _ | exact HE4.out | exact HE3.out | exact HE2.out | apply ext_drew | apply ext_drewN | apply ext_alloc))).mono ?_
              rintro e x1 ⟨rfl, hbx⟩
              dsimp only
              have HE2 : Hid (Below wb.heap.size wb x1) := Lib.hid (ext_trans (by repeat (first | exact Below.refl _ _ | exact HE4.out | exact HE3.out | exact HE2.out | apply ext_drew | apply ext_drewN | apply ext_alloc)) hbx)
              clear hbx
              refine hK.out _ _ ?_ (fun hHeld => ?_)
              · try dsimp only
                exact HK.out _ (by repeat (first | exact Below.refl _ _ | exact HE4.out | exact HE3.out | exact HE2.out | apply ext_drew | apply ext_drewN | apply ext_alloc))
              clear hK K
              refine wpAnyH_take (i := 2) (v := ?_) (take_list rfl) (by kernel_rfl) (by kernel_rfl) (by kernel_rfl) (fun _ _ _ h => h) (Or.inl ⟨by rfl, ?_⟩) (by assumption) ?_
              rotate_left
              · intro w hSw
                try dsimp only at hSw
                first | (go_simp; done) | (go_simp; with_reducible rfl)
              try simp only [Act.put, List.setIfInBounds_toArray, List.set_cons_zero, List.set_cons_succ]
              refine wpAnyH_take (i := 3) (v := ?_) (take_list rfl) (by kernel_rfl) (by kernel_rfl) (by kernel_rfl) (fun _ _ _ h => h) (Or.inl ⟨by rfl, ?_⟩) (by assumption) ?_
              rotate_left
              · intro w hSw
                try dsimp only at hSw
                first | (go_simp; done) | (go_simp; with_reducible rfl)
              try simp only [Act.put, List.setIfInBounds_toArray, List.set_cons_zero, List.set_cons_succ]
              refine wpAnyH_take (i := 4) (v := ?_) (take_list rfl) (by kernel_rfl) (by kernel_rfl) (by kernel_rfl) (fun _ _ _ h => h) (Or.inl ⟨by rfl, ?_⟩) (by assumption) ?_
              rotate_left
              · intro w hSw
                try dsimp only at hSw
                first | (go_simp; done) | (go_simp; with_reducible rfl)
              try simp only [Act.put, List.setIfInBounds_toArray, List.set_cons_zero, List.set_cons_succ]
              refine wpAnyH_take (i := 5) (v := ?_) (take_list rfl) (by kernel_rfl) (by kernel_rfl) (by kernel_rfl) (fun _ _ _ h => h) (Or.inl ⟨by rfl, ?_⟩) (by assumption) ?_
              rotate_left
              · intro w hSw
                try dsimp only at hSw
                first | (go_simp; done) | (go_simp; with_reducible rfl)
              try simp only [Act.put, List.setIfInBounds_toArray, List.set_cons_zero, List.set_cons_succ]
              refine wpAnyH_take (i := 6) (v := ?_) (take_list rfl) (by kernel_rfl) (by kernel_rfl) (by kernel_rfl) (fun _ _ _ h => h) (Or.inl ⟨by rfl, ?_⟩) (by assumption) ?_
              rotate_left
              · intro w hSw
                try dsimp only at hSw
                first | (go_simp; done) | (go_simp; with_reducible rfl)
              try simp only [Act.put, List.setIfInBounds_toArray, List.set_cons_zero, List.set_cons_succ]
              refine wpAnyH_ready (rs := [7]) (by kernel_rfl) (by simp) ?_
              refine AllReadyH.cons (take_list rfl) (fun K hK => ?_) ?_
              · skip
                go_simp
                refine (HEn.out rfl _).mono ?_
                rintro e x2 ⟨rfl, hbx⟩
                dsimp only
                have HE3 : Hid (Below wb.heap.size wb x2) := Lib.hid (ext_trans (by repeat (first | exact Below.refl _ _ | exact HE4.out | exact HE3.out | exact HE2.out | apply ext_drew | apply ext_drewN | apply ext_alloc)) hbx)
                clear hbx
                refine hK.out _ _ ?_ (fun hHeld => ?_)
                · try dsimp only
                  exact HK.out _ (by repeat (first | exact Below.refl _ _ | exact HE4.out | exact HE3.out | exact HE2.out | apply ext_drew | apply ext_drewN | apply ext_alloc))
                clear hK K
                refine wpAnyH_take (i := 8) (v := ?_) (take_list rfl) (by kernel_rfl) (by kernel_rfl) (by kernel_rfl) (fun _ _ _ h => h) (Or.inl ⟨by rfl, ?_⟩) (by assumption) ?_
                rotate_left
                · intro w hSw
                  try dsimp only at hSw
                  first | (go_simp; done) | (go_simp; with_reducible rfl)
                try simp only [Act.put, List.setIfInBounds_toArray, List.set_cons_zero, List.set_cons_succ]
                refine wpAnyH_take (i := 9) (v := ?_) (take_list rfl) (by kernel_rfl) (by kernel_rfl) (by kernel_rfl) (fun _ _ _ h => h) (Or.inl ⟨by rfl, ?_⟩) (by assumption) ?_
                rotate_left
                · intro w hSw
                  try dsimp only at hSw
                  first | (go_simp; done) | (go_simp; with_reducible rfl)
                try simp only [Act.put, List.setIfInBounds_toArray, List.set_cons_zero, List.set_cons_succ]
                refine wpAnyH_done (by kernel_rfl) ?_ _
                have hR := HB0.out.ext (ext_trans HNb.out.bel HE3.out)
                have z0 := hR.cell 0
                have g0 := hR.free 0
                have hR1 := hR.put 0 (.int .i64 0)
                have z1 := hR1.cell 1
                have g1 := hR1.free 1
                have hR2 := hR1.put 1 (.slice none 0 0)
                have r0 := hR2.cell 0
                have r1 := hR2.cell 1
                simp only [List.getElem?_toArray, List.setIfInBounds_toArray, List.set_cons_zero, List.set_cons_succ, List.getElem?_cons_zero, List.getElem?_cons_succ] at z0 z1 r0 r1
                have Hbr : Hid (Below w.heap.size w ((x2.setCell ⟨w.heap.size, 0, none⟩ (.int .i64 0)).setCell ⟨w.heap.size, 1, none⟩ (.slice none 0 0))) := Lib.hid (Below.setCell (Below.setCell (ext_trans Hb0.out (ext_trans HNb.out.bel HE3.out)) (Nat.le_refl _) _) (Nat.le_refl _) _)
                clear hR hR1 hR2
                go_wp2
                refine bodyPost_ret (v := .tuple #[.agg #[.int .i64 0, .slice none 0 0], .int .i64 1]) (by simp [results, Tryd.results13, go_sem, r0, r1]) rfl ?_
                rw [Hno.out]
                exact ⟨none, 0, rfl, SgIn.none_ _, Hbr.out⟩
              exact AllReadyH.nil
            exact AllReadyH.nil
    · obtain rfl : k = l.length := by omega
      have hfe : f = fstTo l := by
        rcases Nat.eq_zero_or_pos l.length with h | h
        · rw [Hf.out.1 h, List.eq_nil_of_length_eq_zero h]; rfl
        · exact Hf.out.2 h
      have hint : isInt (fstTo l) := by
        rcases Nat.eq_zero_or_pos l.length with h | h
        · rw [List.eq_nil_of_length_eq_zero h]; exact ⟨by show (-9223372036854775808 : Int) ≤ 0; omega, by show (0 : Int) ≤ 9223372036854775807; omega⟩
        · rw [fstTo_zero h]
          have := ((isG_iff _).1 (HG.out 0 h h)).1
          exact ⟨by omega, by omega⟩
      subst hfe
      have hin : SgIn wr ⟨fstTo l, lnsTo l l.length⟩ D d := ⟨hint, by show (lnsTo l l.length).length ≤ d; rw [← Hn.out]; exact HN.out.row.le, HN.out.row.max, HN.out.row.nil_cap, HT.out.row HN.out.row⟩
      have HI := Lib.hid (isG_any _ D d wr hin (fun x hx v hv => by have := lnsTo_mem (Nat.le_refl _) HG.out x hx v hv; unfold maxLen; omega))
      have HE := Lib.hid (HEnd.out (fun j hj => Hok.out j hj hj))
      unfold sgV at HI
      dsimp only at HI
      rw [← Hn.out] at HI
      have b0 := HBk.out.cell 0
      have b1 := HBk.out.cell 1
      simp only [List.getElem?_toArray, List.getElem?_cons_zero, List.getElem?_cons_succ] at b0 b1
      have HDn : Hid (¬ inA D w.heap.size) := Lib.hid (fun h => by have h1 := HN.out.2.2 _ h; have h2 := Hgw.out; omega)
      have Hnn := Lib.hid Hn.out
      clear hin HNo HEnd Hok HG Hs hnl
      obtain ⟨L, hL⟩ : ∃ L, lnsTo l l.length = L := ⟨_, rfl⟩
      obtain ⟨F, hF⟩ : ∃ F, fstTo l = F := ⟨_, rfl⟩
      rw [hL, hF] at HI HE
      rw [hL] at HT Hnn
      rw [hF] at HBk hint b0
      clear hL hF Hf Hn HBs
      cases hi : isG ⟨F, L⟩ with
      | false =>
        rw [hi] at HI HE
        have Hno : Hid (R = (⟨0, []⟩, 1)) := Lib.hid (by have h := HE.out; rw [if_neg (by simp)] at h; exact h)
        clear hi HE
        go_wp2_with fail
        refine HI.out.mono ?_
        rintro e x1 ⟨rfl, hb1⟩
        have HE2 : Hid (Below wr.heap.size wr x1) := Lib.hid hb1
        clear hb1 b0 b1
        have hR := HB0.out.ext (ext_trans HN.out.bel HE2.out)
        have z0 := hR.cell 0
        have g0 := hR.free 0
        have hR1 := hR.put 0 (.int .i64 0)
        have z1 := hR1.cell 1
        have g1 := hR1.free 1
        have hR2 := hR1.put 1 (.slice none 0 0)
        have r0 := hR2.cell 0
        have r1 := hR2.cell 1
        simp only [List.getElem?_toArray, List.setIfInBounds_toArray, List.set_cons_zero, List.set_cons_succ, List.getElem?_cons_zero, List.getElem?_cons_succ] at z0 z1 r0 r1
        have Hbr : Hid (Below w.heap.size w ((x1.setCell ⟨w.heap.size, 0, none⟩ (.int .i64 0)).setCell ⟨w.heap.size, 1, none⟩ (.slice none 0 0))) := Lib.hid (Below.setCell (Below.setCell (ext_trans Hb0.out (ext_trans HN.out.bel HE2.out)) (Nat.le_refl _) _) (Nat.le_refl _) _)
        clear hR hR1 hR2
        go_wp2
        refine bodyPost_ret (v := .tuple #[.agg #[.int .i64 0, .slice none 0 0], .int .i64 1]) (by simp [results, Tryd.results13, go_sem, r0, r1]) rfl ?_
        rw [Hno.out]
        exact ⟨none, 0, rfl, SgIn.none_ _, Hbr.out⟩
      | true =>
        rw [hi] at HI HE
        have Hyes : Hid (R = (⟨F, L⟩, 0)) := Lib.hid (by have h := HE.out; rw [if_pos rfl] at h; exact h)
        clear hi HE
        go_wp2_with fail
        refine HI.out.mono ?_
        rintro e x1 ⟨rfl, hb1⟩
        have HE2 : Hid (Below wr.heap.size wr x1) := Lib.hid hb1
        have hB1 := HBk.out.ext hb1
        have c0 := hB1.cell 0
        have c1 := hB1.cell 1
        simp only [List.getElem?_toArray, List.getElem?_cons_zero, List.getElem?_cons_succ] at c0 c1
        clear hb1 b0 b1 hB1
        have hR := HB0.out.ext (ext_trans HN.out.bel HE2.out)
        have z0 := hR.cell 0
        have g0 := hR.free 0
        have hR1 := hR.put 0 (.int .i64 F)
        have z1 := hR1.cell 1
        have g1 := hR1.free 1
        have hR2 := hR1.put 1 (.slice D n d)
        have r0 := hR2.cell 0
        have r1 := hR2.cell 1
        simp only [List.getElem?_toArray, List.setIfInBounds_toArray, List.set_cons_zero, List.set_cons_succ, List.getElem?_cons_zero, List.getElem?_cons_succ] at z0 z1 r0 r1
        have Hbr : Hid (Below w.heap.size w ((x1.setCell ⟨w.heap.size, 0, none⟩ (.int .i64 F)).setCell ⟨w.heap.size, 1, none⟩ (.slice D n d))) := Lib.hid (Below.setCell (Below.setCell (ext_trans Hb0.out (ext_trans HN.out.bel HE2.out)) (Nat.le_refl _) _) (Nat.le_refl _) _)
        have HRo := Lib.hid (((HN.out.row.ext HE2.out).far (p := ⟨w.heap.size, 0, none⟩) HDn.out (.int .i64 F)).far (p := ⟨w.heap.size, 1, none⟩) HDn.out (.slice D n d))
        have HRt := Lib.hid (((HT.out.ext HE2.out).far hR (by decide) 0 (.int .i64 F)).far hR1 (by decide) 1 (.slice D n d))
        clear hR hR1 hR2
        go_wp2
        refine bodyPost_ret (v := .tuple #[.agg #[.int .i64 F, .slice D n d], .int .i64 0]) (by simp [results, Tryd.results13, go_sem, r0, r1]) rfl ?_
        rw [Hyes.out]
        exact ⟨D, d, by rw [← Hnn.out], ⟨hint, by show L.length ≤ d; rw [← Hnn.out]; exact HRo.out.le, HRo.out.max, HRo.out.nil_cap, HRt.out.row HRo.out⟩, Hbr.out⟩
end Go.Proofs.YtpjgkacekelkdaaDoor
