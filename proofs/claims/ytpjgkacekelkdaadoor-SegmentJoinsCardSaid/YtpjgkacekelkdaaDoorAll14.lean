/-
  Texts of this claim, joined (part 14): contracts and lemmas that the last text goes by. No statement of the seat is proved here.
-/
import Derived.Test.YtpjgkacekelkdaaDoorAll13
set_option linter.unusedVariables false
set_option linter.unusedSimpArgs false
/-
  Join (reference). No statement of the seat is proved here.
-/
namespace Go.Proofs.YtpjgkacekelkdaaDoor
open Go Go.RowKit
set_option maxRecDepth 100000

theorem fresh_grow {w0 X w4 : World} {A A4 : Option Addr} (hb : Below w0.heap.size w0 X) (ho : Only (inA A) X w4) (hA : ∀ q, inA A4 q → inA A q ∨ (X.heap.size ≤ q ∧ q < w4.heap.size)) (hn : ∀ q, inA A q → w0.heap.size ≤ q) : Below w0.heap.size w0 w4 ∧ ∀ q, inA A4 q → w0.heap.size ≤ q :=
  ⟨hb.trans (ho.below hn hb.size), fun q hq => (hA q hq).elim (hn q) (fun h => Nat.le_trans hb.size h.1)⟩
theorem joinG_nil : joinG [] = (⟨0, []⟩, 1) := by
  rw [joinG_end (l := []) (fun k hk => absurd hk (by simp))]
  exact if_neg (by decide)
theorem isG_big {f : Int} {L : List Ln} (h : 512 < L.length) : isG ⟨f, L⟩ = false := by
  cases hi : isG ⟨f, L⟩ with
  | false => rfl
  | true => have := ((isG_iff _).1 hi).1.2.2.2; dsimp only at this; omega

set_option maxHeartbeats 16000000 in
theorem rjoin_any (A : Option Addr) (c : Nat) (l : List Sg) (w : World) (hA : RowR IsSg 2 w A l) (hl : l.length ≤ 1000) (hs : ∀ s ∈ l, ∀ x ∈ s.lines, ∀ v ∈ x.vars, v.length ≤ maxLen) :
    Calls Tryd.prog 14 #[.slice A l.length c] w fun e w' => ∃ B' c', e = .returned (.tuple #[sgV (joinG l).1 B' c', .int .i64 (joinG l).2]) ∧ SgIn w' (joinG l).1 B' c' ∧ Below w.heap.size w w' := by
  have hli : (l.length : Int) ≤ 1000 := by omega
  have HNo : Hid (∀ k (hk : k < l.length), ¬ okJ l k l[k] → joinG l = (⟨0, []⟩, 1)) := Lib.hid (fun k hk h => joinG_no hk h)
  have HEnd : Hid ((∀ k (hk : k < l.length), okJ l k l[k]) → joinG l = if isG ⟨fstTo l, lnsTo l l.length⟩ = true then (⟨fstTo l, lnsTo l l.length⟩, 0) else (⟨0, []⟩, 1)) := Lib.hid joinG_end
  have HNil : Hid (l = [] → joinG l = (⟨0, []⟩, 1)) := Lib.hid (fun h => by rw [h]; exact joinG_nil)
  generalize joinG l = R at *
  obtain ⟨w0, hw0⟩ : ∃ w0, w0 = w.alloc (.cells #[.int .i64 0, .slice none 0 0] 27) := ⟨_, rfl⟩
  have hb0 : Below w.heap.size w w0 := by rw [hw0]; exact ext_alloc (Below.refl _ _) _
  have hz0 : w0.heap.size = w.heap.size + 1 := by rw [hw0, World.size_alloc]
  have HB0 : Hid (Blk w0 w.heap.size 27 #[.int .i64 0, .slice none 0 0]) := Lib.hid (by rw [hw0]; exact Blk.new _ _ _)
  have Hb0 := Lib.hid hb0
  have HA := Lib.hid (hA.ext IsSg.lasts hb0)
  have Hs := Lib.hid hs
  have Hw0 := Lib.hid hw0
  have Hgw : Hid (w0.heap.size = w.heap.size + 1) := Lib.hid hz0
  unfold sgV
  rcases Nat.eq_zero_or_pos l.length with h0 | h0
  · have hl0 : ((l.length : Int) == 0) = true := by rw [h0]; rfl
    have Hno : Hid (R = (⟨0, []⟩, 1)) := Lib.hid (HNil.out (List.eq_nil_of_length_eq_zero h0))
    clear hA hs hw0 hb0 hz0 HNo HEnd HNil
    rw [h0]
    go_enter Tryd.func14, Tryd.ntmps14
    have HBel : Hid (Below w0.heap.size w0 w0) := Lib.hid (Below.refl _ _)
    have hR := HB0.out.ext HBel.out
    have z0 := hR.cell 0
    have g0 := hR.free 0
    have hR1 := hR.put 0 (.int .i64 0)
    have z1 := hR1.cell 1
    have g1 := hR1.free 1
    have hR2 := hR1.put 1 (.slice none 0 0)
    have r0 := hR2.cell 0
    have r1 := hR2.cell 1
    simp only [List.getElem?_toArray, List.setIfInBounds_toArray, List.set_cons_zero, List.set_cons_succ, List.getElem?_cons_zero, List.getElem?_cons_succ] at z0 z1 r0 r1
    have Hbr : Hid (Below w.heap.size w ((w0.setCell ⟨w.heap.size, 0, none⟩ (.int .i64 0)).setCell ⟨w.heap.size, 1, none⟩ (.slice none 0 0))) := Lib.hid (Below.setCell (Below.setCell (ext_trans Hb0.out (HBel.out)) (Nat.le_refl _) _) (Nat.le_refl _) _)
    rw [Hw0.out] at z0 g0 z1 g1 r0 r1
    clear hR hR1 hR2
    go_wp2
    rw [← Hw0.out]
    rw [Hw0.out]
    refine bodyPost_ret (v := .tuple #[.agg #[.int .i64 0, .slice none 0 0], .int .i64 1]) (by simp [results, Tryd.results14, go_sem, r0, r1]) rfl ?_
    rw [Hno.out]
    exact ⟨none, 0, rfl, SgIn.none_ _, by rw [← Hw0.out]; first | exact Hbr.out | exact Hb0.out⟩
  · obtain ⟨gA, oA, B0, cb0, rfl, u0, u1, _⟩ := row_sg HA.out h0
    rw [← fstTo_zero h0, Nat.zero_mul, Nat.add_zero] at u0
    rw [Hw0.out] at u0
    have hne0 : ¬ ((l.length : Int) = 0) := by omega
    have hne1 : ((l.length : Int) == 0) = false := beq_eq_false_iff_ne.2 hne0
    have hpos : (0 : Int) < (l.length : Int) := by omega
    have HBs : Hid (Blk (w0.alloc (.cells #[.int .i64 (fstTo l), .slice none 0 0] 27)) (w.heap.size + 1) 27 #[.int .i64 (fstTo l), .slice none 0 0]) := Lib.hid (by rw [← hz0]; exact Blk.new _ _ _)
    have HFk : Hid (∀ (h : 0 < l.length), fstTo l = l[0].first) := Lib.hid (fun h => fstTo_zero h)
    obtain ⟨F, hF⟩ : ∃ F, fstTo l = F := ⟨_, rfl⟩
    have HFe := Lib.hid hF
    rw [hF] at HBs HEnd u0 HFk
    obtain ⟨g, hg⟩ : ∃ g, w.heap.size + 1 = g := ⟨_, rfl⟩
    rw [hg] at HBs Hgw
    clear hA hs hw0 hb0 hz0 u1 hF HNil
    go_enter Tryd.func14, Tryd.ntmps14
    go_wp2
    go_loopw [5] (fun i wr => ∃ (k n : Nat) (D : Option Addr) (d : Nat) (xs : List Value), k ≤ l.length ∧ i = .int .i64 (k : Int) ∧ Hid (n = (lnsTo l k).length) ∧ Hid (∀ j (hj : j < l.length), j < k → okJ l j l[j]) ∧
      Hid (Blk wr g 27 #[.int .i64 F, .slice D n d]) ∧ Hid (NewO w0 wr 47 2 D n d xs) ∧ Hid (RowT wr xs (lnsTo l k))) (fun i _ => l.length - (intOf i).toNat)
    case atStart =>
      rw [← Hw0.out]
      exact ⟨0, 0, none, 0, [], Nat.zero_le _, rfl, Lib.hid rfl, Lib.hid (fun j _ h => absurd h (by omega)), HBs, Lib.hid ((NewO.start w0 _ _).ext (ext_alloc (Below.refl _ _) _)), Lib.hid (RowT.nil _)⟩
    case round =>
      obtain ⟨k, n, D, d, xs, hk, rfl, Hn, Hok, HBk, HN, HT⟩ := hrel
      have HG : Hid (∀ j (hj : j < l.length), j < k → isG l[j] = true) := Lib.hid (fun j hj hjk => (Hok.out j hj hjk).1)
      have hnl : n ≤ 512 * k := by rw [Hn.out]; exact lnsTo_len hk HG.out
      clear u0
      by_cases hlt : k < l.length
      · have hki : (k : Int) < (l.length : Int) := by omega
        obtain ⟨gA', oA', B, cb, e1, y0, y1, hin⟩ := row_sg HA.out hlt
        injection e1 with e1
        injection e1 with e1 e2
        subst e1 e2
        have x0 := cell_only y0 (Only.of_ext (S := fun _ => False) HN.out.bel) (fun h => h)
        have x1 := cell_only y1 (Only.of_ext (S := fun _ => False) HN.out.bel) (fun h => h)
        have Hnk : Hid (¬ okJ l k l[k] → R = (⟨0, []⟩, 1)) := Lib.hid (HNo.out k hlt)
        have Hin := Lib.hid hin
        have HIs : Hid (∀ W, Below w0.heap.size w0 W → Calls Tryd.prog 7 #[sgV l[k] B cb] W fun e w' => e = .returned (.bool (isG l[k])) ∧ Below W.heap.size W w') := Lib.hid (fun W hW => ris18_any _ B cb W (hin.ext hW) (Hs.out _ (List.getElem_mem hlt)))
        have HBig : Hid (isG l[k] = true → l[k].lines.length ≤ 512 ∧ (∀ x ∈ l[k].lines, x.vars.length ≤ 64)) := Lib.hid (fun hi => ⟨((isG_iff _).1 hi).1.2.2.2, fun x hx => (((isG_iff _).1 hi).2 x hx).2.2.1⟩)
        have HF1 : Hid (isG l[k] = true → 0 ≤ F ∧ F ≤ 34359738368) := Lib.hid (fun hi => by
          rw [HFk.out h0]
          rcases Nat.eq_zero_or_pos k with h | h
          · subst h; exact ⟨((isG_iff _).1 hi).1.1, ((isG_iff _).1 hi).1.2.1⟩
          · have := ((isG_iff _).1 (HG.out 0 (by omega) h)).1; exact ⟨this.1, this.2.1⟩)
        have HokD : Hid (okJ l k l[k] ↔ isG l[k] = true ∧ l[k].first = F + (n : Int)) := Lib.hid (by unfold okJ; rw [Hn.out, HFe.out])
        have HokS : Hid (okJ l k l[k] → ∀ j (hj : j < l.length), j < k + 1 → okJ l j l[j]) := Lib.hid (fun h j hj hj2 => by
          rcases Nat.lt_succ_iff_lt_or_eq.1 hj2 with h5 | rfl
          · exact Hok.out j hj h5
          · exact h)
        have HLs : Hid (lnsTo l (k + 1) = lnsTo l k ++ l[k].lines) := Lib.hid (lnsTo_succ l hlt)
        unfold sgV at HIs
        obtain ⟨s, hse⟩ : ∃ s, l[k] = s := ⟨_, rfl⟩
        rw [hse] at x0 x1 y1 Hnk Hin HIs HBig HF1 HokD HokS HLs
        obtain ⟨sf, sl⟩ := s
        dsimp only at x0 x1 y1 Hin HIs HBig HokD HLs
        obtain ⟨m, hm⟩ : ∃ m, sl.length = m := ⟨_, rfl⟩
        rw [hm] at x1 y1 HIs HBig
        have HY1 := Lib.hid y1
        have Hm := Lib.hid hm
        have hB := HBk.out
        have b0 := hB.cell 0
        have b1 := hB.cell 1
        simp only [List.getElem?_toArray, List.getElem?_cons_zero, List.getElem?_cons_succ] at b0 b1
        have HK : Hid (∀ W, Below wr.heap.size wr W → W.cell? ⟨gA, oA + k * 2, none⟩ = some (.int .i64 sf) ∧ W.cell? ⟨gA, oA + k * 2 + 1, none⟩ = some (.slice B m cb) ∧ W.cell? ⟨g, 0, none⟩ = some (.int .i64 F) ∧ W.cell? ⟨g, 1, none⟩ = some (.slice D n d)) := Lib.hid (fun W hW =>
          ⟨cell_only x0 (Only.of_ext (S := fun _ => False) hW) (fun h => h), cell_only x1 (Only.of_ext (S := fun _ => False) hW) (fun h => h), (HBk.out.ext hW).cell 0, (HBk.out.ext hW).cell 1⟩)
        have HIs2 : Hid (∀ W, Below wr.heap.size wr W → Calls Tryd.prog 7 #[.agg #[.int .i64 sf, .slice B m cb]] W fun e w' => e = .returned (.bool (isG ⟨sf, sl⟩)) ∧ Below W.heap.size W w') := Lib.hid (fun W hW => HIs.out W (ext_trans HN.out.bel hW))
        have Hnq : Hid (isG ⟨sf, sl⟩ = true ∧ sf = F + (n : Int) ∨ R = (⟨0, []⟩, 1)) := Lib.hid (by
          by_cases ho : okJ l k ⟨sf, sl⟩
          · exact .inl (HokD.out.1 ho)
          · exact .inr (Hnk.out ho))
        have HokS2 : Hid (isG ⟨sf, sl⟩ = true → sf = F + (n : Int) → ∀ j (hj : j < l.length), j < k + 1 → okJ l j l[j]) := Lib.hid (fun h1 h2 => HokS.out (HokD.out.2 ⟨h1, h2⟩))
        have HF2 := HF1
        clear HF1 Hnk HokD HokS HIs HNo HEnd hm y0 y1 hin HBs hse hB HFk
        generalize hie : isG ⟨sf, sl⟩ = ig at *
        clear hie
        have hBp := HBig.out
        have hFp := HF2.out
        have HBp := Lib.hid hBp
        clear HBig HF2 hBp
        go_wp2_with fail
        cases ig with
        | false =>
          have Hno : Hid (R = (⟨0, []⟩, 1)) := Lib.hid (by rcases Hnq.out with h | h; cases h.1; exact h)
          clear hFp
          refine wp_region_held_drew (S := fun W => W.cell? ⟨gA, oA + k * 2, none⟩ = some (.int .i64 sf) ∧ W.cell? ⟨gA, oA + k * 2 + 1, none⟩ = some (.slice B m cb) ∧ W.cell? ⟨g, 0, none⟩ = some (.int .i64 F) ∧ W.cell? ⟨g, 1, none⟩ = some (.slice D n d)) (by kernel_rfl) ?_ (fun hHeld => ?_)
          · exact HK.out _ (by repeat (first | exact Below.refl _ _ | exact HE2.out | apply ext_drew | apply ext_drewN | apply ext_alloc))
          refine wpAnyH_take (i := 0) (v := ?_) (take_list rfl) (by kernel_rfl) (by kernel_rfl) (by kernel_rfl) (fun _ _ _ h => h) (Or.inl ⟨by rfl, ?_⟩) (by assumption) ?_
          rotate_left
          · intro w hSw
            try dsimp only at hSw
            first | (go_simp; done) | (go_simp; with_reducible rfl)
          try simp only [Act.put, List.setIfInBounds_toArray, List.set_cons_zero, List.set_cons_succ]
          refine wpAnyH_take (i := 1) (v := ?_) (take_list rfl) (by kernel_rfl) (by kernel_rfl) (by kernel_rfl) (fun _ _ _ h => h) (Or.inl ⟨by rfl, ?_⟩) (by assumption) ?_
          rotate_left
          · intro w hSw
            try dsimp only at hSw
            first | (go_simp; done) | (go_simp; with_reducible rfl)
          try simp only [Act.put, List.setIfInBounds_toArray, List.set_cons_zero, List.set_cons_succ]
          refine wpAnyH_take (i := 2) (v := ?_) (take_list rfl) (by kernel_rfl) (by kernel_rfl) (by kernel_rfl) (fun _ _ _ h => h) (Or.inl ⟨by rfl, ?_⟩) (by assumption) ?_
          rotate_left
          · intro w hSw
            try dsimp only at hSw
            first | (go_simp; done) | (go_simp; with_reducible rfl)
          try simp only [Act.put, List.setIfInBounds_toArray, List.set_cons_zero, List.set_cons_succ]
          refine wpAnyH_take (i := 3) (v := ?_) (take_list rfl) (by kernel_rfl) (by kernel_rfl) (by kernel_rfl) (fun _ _ _ h => h) (Or.inl ⟨by rfl, ?_⟩) (by assumption) ?_
          rotate_left
          · intro w hSw
            try dsimp only at hSw
            first | (go_simp; done) | (go_simp; with_reducible rfl)
          try simp only [Act.put, List.setIfInBounds_toArray, List.set_cons_zero, List.set_cons_succ]
          refine wpAnyH_ready (rs := [4]) (by kernel_rfl) (by simp) ?_
          refine AllReadyH.cons (take_list rfl) (fun K hK => ?_) ?_
          · skip
            go_simp
            refine (HIs2.out _ (by repeat (first | exact Below.refl _ _ | exact HE2.out | apply ext_drew | apply ext_drewN | apply ext_alloc))).mono ?_
            rintro e xa ⟨rfl, hbx⟩
            dsimp only
            have HE2 : Hid (Below wr.heap.size wr xa) := Lib.hid (ext_trans (by repeat (first | exact Below.refl _ _ | exact HE2.out | apply ext_drew | apply ext_drewN | apply ext_alloc)) hbx)
            clear hbx
            refine hK.out _ _ ?_ (fun hHeld => ?_)
            · try dsimp only
              exact HK.out _ (by repeat (first | exact Below.refl _ _ | exact HE2.out | apply ext_drew | apply ext_drewN | apply ext_alloc))
            clear hK K
            refine wpAnyH_take (i := 5) (v := ?_) (take_list rfl) (by kernel_rfl) (by kernel_rfl) (by kernel_rfl) (fun _ _ _ h => h) (Or.inl ⟨by rfl, ?_⟩) (by assumption) ?_
            rotate_left
            · intro w hSw
              try dsimp only at hSw
              first | (go_simp; done) | (go_simp; with_reducible rfl)
            try simp only [Act.put, List.setIfInBounds_toArray, List.set_cons_zero, List.set_cons_succ]
            refine wpAnyH_take (i := 6) (v := ?_) (take_list rfl) (by kernel_rfl) (by kernel_rfl) (by kernel_rfl) (fun _ _ _ h => h) (Or.inl ⟨by rfl, ?_⟩) (by assumption) ?_
            rotate_left
            · intro w hSw
              try dsimp only at hSw
              first | (go_simp; done) | (go_simp; with_reducible rfl)
            try simp only [Act.put, List.setIfInBounds_toArray, List.set_cons_zero, List.set_cons_succ]
            refine wpAnyH_take (i := 7) (v := undef) (take_list rfl) (by kernel_rfl) (by kernel_rfl) (by kernel_rfl) (fun _ _ _ h => h) (Or.inr ⟨by rfl, rfl⟩) (by assumption) ?_
            try simp only [Act.put, List.setIfInBounds_toArray, List.set_cons_zero, List.set_cons_succ]
            refine wpAnyH_take (i := 8) (v := undef) (take_list rfl) (by kernel_rfl) (by kernel_rfl) (by kernel_rfl) (fun _ _ _ h => h) (Or.inr ⟨by rfl, rfl⟩) (by assumption) ?_
            try simp only [Act.put, List.setIfInBounds_toArray, List.set_cons_zero, List.set_cons_succ]
            refine wpAnyH_take (i := 9) (v := undef) (take_list rfl) (by kernel_rfl) (by kernel_rfl) (by kernel_rfl) (fun _ _ _ h => h) (Or.inr ⟨by rfl, rfl⟩) (by assumption) ?_
            try simp only [Act.put, List.setIfInBounds_toArray, List.set_cons_zero, List.set_cons_succ]
            refine wpAnyH_take (i := 10) (v := undef) (take_list rfl) (by kernel_rfl) (by kernel_rfl) (by kernel_rfl) (fun _ _ _ h => h) (Or.inr ⟨by rfl, rfl⟩) (by assumption) ?_
            try simp only [Act.put, List.setIfInBounds_toArray, List.set_cons_zero, List.set_cons_succ]
            refine wpAnyH_take (i := 11) (v := undef) (take_list rfl) (by kernel_rfl) (by kernel_rfl) (by kernel_rfl) (fun _ _ _ h => h) (Or.inr ⟨by rfl, rfl⟩) (by assumption) ?_
            try simp only [Act.put, List.setIfInBounds_toArray, List.set_cons_zero, List.set_cons_succ]
            refine wpAnyH_take (i := 12) (v := undef) (take_list rfl) (by kernel_rfl) (by kernel_rfl) (by kernel_rfl) (fun _ _ _ h => h) (Or.inr ⟨by rfl, rfl⟩) (by assumption) ?_
            try simp only [Act.put, List.setIfInBounds_toArray, List.set_cons_zero, List.set_cons_succ]
            refine wpAnyH_take (i := 13) (v := undef) (take_list rfl) (by kernel_rfl) (by kernel_rfl) (by kernel_rfl) (fun _ _ _ h => h) (Or.inr ⟨by rfl, rfl⟩) (by assumption) ?_
            try simp only [Act.put, List.setIfInBounds_toArray, List.set_cons_zero, List.set_cons_succ]
            refine wpAnyH_take (i := 14) (v := undef) (take_list rfl) (by kernel_rfl) (by kernel_rfl) (by kernel_rfl) (fun _ _ _ h => h) (Or.inr ⟨by rfl, rfl⟩) (by assumption) ?_
            try simp only [Act.put, List.setIfInBounds_toArray, List.set_cons_zero, List.set_cons_succ]
            refine wpAnyH_take (i := 15) (v := undef) (take_list rfl) (by kernel_rfl) (by kernel_rfl) (by kernel_rfl) (fun _ _ _ h => h) (Or.inr ⟨by rfl, rfl⟩) (by assumption) ?_
            try simp only [Act.put, List.setIfInBounds_toArray, List.set_cons_zero, List.set_cons_succ]
            refine wpAnyH_take (i := 16) (v := undef) (take_list rfl) (by kernel_rfl) (by kernel_rfl) (by kernel_rfl) (fun _ _ _ h => h) (Or.inr ⟨by rfl, rfl⟩) (by assumption) ?_
            try simp only [Act.put, List.setIfInBounds_toArray, List.set_cons_zero, List.set_cons_succ]
            refine wpAnyH_take (i := 17) (v := undef) (take_list rfl) (by kernel_rfl) (by kernel_rfl) (by kernel_rfl) (fun _ _ _ h => h) (Or.inr ⟨by rfl, rfl⟩) (by assumption) ?_
            try simp only [Act.put, List.setIfInBounds_toArray, List.set_cons_zero, List.set_cons_succ]
            refine wpAnyH_take (i := 18) (v := undef) (take_list rfl) (by kernel_rfl) (by kernel_rfl) (by kernel_rfl) (fun _ _ _ h => h) (Or.inr ⟨by rfl, rfl⟩) (by assumption) ?_
            try simp only [Act.put, List.setIfInBounds_toArray, List.set_cons_zero, List.set_cons_succ]
            refine wpAnyH_take (i := 19) (v := ?_) (take_list rfl) (by kernel_rfl) (by kernel_rfl) (by kernel_rfl) (fun _ _ _ h => h) (Or.inl ⟨by rfl, ?_⟩) (by assumption) ?_
            rotate_left
            · intro w hSw
              try dsimp only at hSw
              first | (go_simp; done) | (go_simp; with_reducible rfl)
            try simp only [Act.put, List.setIfInBounds_toArray, List.set_cons_zero, List.set_cons_succ]
            refine wpAnyH_done (by kernel_rfl) ?_ _
            have hR := HB0.out.ext (ext_trans HN.out.bel HE2.out)
            have z0 := hR.cell 0
            have g0 := hR.free 0
            have hR1 := hR.put 0 (.int .i64 0)
            have z1 := hR1.cell 1
            have g1 := hR1.free 1
            have hR2 := hR1.put 1 (.slice none 0 0)
            have r0 := hR2.cell 0
            have r1 := hR2.cell 1
            simp only [List.getElem?_toArray, List.setIfInBounds_toArray, List.set_cons_zero, List.set_cons_succ, List.getElem?_cons_zero, List.getElem?_cons_succ] at z0 z1 r0 r1
            have Hbr : Hid (Below w.heap.size w ((xa.setCell ⟨w.heap.size, 0, none⟩ (.int .i64 0)).setCell ⟨w.heap.size, 1, none⟩ (.slice none 0 0))) := Lib.hid (Below.setCell (Below.setCell (ext_trans Hb0.out (ext_trans HN.out.bel HE2.out)) (Nat.le_refl _) _) (Nat.le_refl _) _)
            clear hR hR1 hR2
            go_wp2
            refine bodyPost_ret (v := .tuple #[.agg #[.int .i64 0, .slice none 0 0], .int .i64 1]) (by simp [results, Tryd.results14, go_sem, r0, r1]) rfl ?_
            rw [Hno.out]
            exact ⟨none, 0, rfl, SgIn.none_ _, Hbr.out⟩
          exact AllReadyH.nil
        | true =>
          obtain ⟨hF1, hF2⟩ := hFp rfl
          have hni : (n : Int) ≤ 512000 := by omega
          have hni0 : (0 : Int) ≤ (n : Int) := by omega
          have hwr : IntKind.i64.wrap (F + (n : Int)) = F + (n : Int) := Go.IntWalk.i64_in _ (by omega)
          by_cases he : sf = F + (n : Int)
          · have HokN := Lib.hid (HokS2.out rfl he)
            clear hFp
            subst he
            have hed : ((F + (n : Int)) != IntKind.i64.wrap (F + (n : Int))) = false := by rw [hwr]; simp
            have hed2 : decide ((F + (n : Int)) = IntKind.i64.wrap (F + (n : Int))) = true := by rw [hwr]; simp
            clear hwr
            refine wp_region_held_drew (S := fun W => W.cell? ⟨gA, oA + k * 2, none⟩ = some (.int .i64 (F + (n : Int))) ∧ W.cell? ⟨gA, oA + k * 2 + 1, none⟩ = some (.slice B m cb) ∧ W.cell? ⟨g, 0, none⟩ = some (.int .i64 F) ∧ W.cell? ⟨g, 1, none⟩ = some (.slice D n d)) (by kernel_rfl) ?_ (fun hHeld => ?_)
            · exact HK.out _ (by repeat (first | exact Below.refl _ _ | exact HE2.out | apply ext_drew | apply ext_drewN | apply ext_alloc))
            refine wpAnyH_take (i := 0) (v := ?_) (take_list rfl) (by kernel_rfl) (by kernel_rfl) (by kernel_rfl) (fun _ _ _ h => h) (Or.inl ⟨by rfl, ?_⟩) (by assumption) ?_
            rotate_left
            · intro w hSw
              try dsimp only at hSw
              first | (go_simp; done) | (go_simp; with_reducible rfl)
            try simp only [Act.put, List.setIfInBounds_toArray, List.set_cons_zero, List.set_cons_succ]
            refine wpAnyH_take (i := 1) (v := ?_) (take_list rfl) (by kernel_rfl) (by kernel_rfl) (by kernel_rfl) (fun _ _ _ h => h) (Or.inl ⟨by rfl, ?_⟩) (by assumption) ?_
            rotate_left
            · intro w hSw
              try dsimp only at hSw
              first | (go_simp; done) | (go_simp; with_reducible rfl)
            try simp only [Act.put, List.setIfInBounds_toArray, List.set_cons_zero, List.set_cons_succ]
            refine wpAnyH_take (i := 2) (v := ?_) (take_list rfl) (by kernel_rfl) (by kernel_rfl) (by kernel_rfl) (fun _ _ _ h => h) (Or.inl ⟨by rfl, ?_⟩) (by assumption) ?_
            rotate_left
            · intro w hSw
              try dsimp only at hSw
              first | (go_simp; done) | (go_simp; with_reducible rfl)
            try simp only [Act.put, List.setIfInBounds_toArray, List.set_cons_zero, List.set_cons_succ]
            refine wpAnyH_take (i := 3) (v := ?_) (take_list rfl) (by kernel_rfl) (by kernel_rfl) (by kernel_rfl) (fun _ _ _ h => h) (Or.inl ⟨by rfl, ?_⟩) (by assumption) ?_
            rotate_left
            · intro w hSw
              try dsimp only at hSw
              first | (go_simp; done) | (go_simp; with_reducible rfl)
            try simp only [Act.put, List.setIfInBounds_toArray, List.set_cons_zero, List.set_cons_succ]
            refine wpAnyH_ready (rs := [4]) (by kernel_rfl) (by simp) ?_
            refine AllReadyH.cons (take_list rfl) (fun K hK => ?_) ?_
            · skip
              go_simp
              refine (HIs2.out _ (by repeat (first | exact Below.refl _ _ | exact HE2.out | apply ext_drew | apply ext_drewN | apply ext_alloc))).mono ?_
              rintro e xa ⟨rfl, hbx⟩
              dsimp only
              have HE2 : Hid (Below wr.heap.size wr xa) := Lib.hid (ext_trans (by repeat (first | exact Below.refl _ _ | exact HE2.out | apply ext_drew | apply ext_drewN | apply ext_alloc)) hbx)
              clear hbx
              refine hK.out _ _ ?_ (fun hHeld => ?_)
              · try dsimp only
                exact HK.out _ (by repeat (first | exact Below.refl _ _ | exact HE2.out | apply ext_drew | apply ext_drewN | apply ext_alloc))
              clear hK K
              refine wpAnyH_take (i := 5) (v := ?_) (take_list rfl) (by kernel_rfl) (by kernel_rfl) (by kernel_rfl) (fun _ _ _ h => h) (Or.inl ⟨by rfl, ?_⟩) (by assumption) ?_
              rotate_left
              · intro w hSw
                try dsimp only at hSw
                first | (go_simp; done) | (go_simp; with_reducible rfl)
              try simp only [Act.put, List.setIfInBounds_toArray, List.set_cons_zero, List.set_cons_succ]
              refine wpAnyH_take (i := 6) (v := ?_) (take_list rfl) (by kernel_rfl) (by kernel_rfl) (by kernel_rfl) (fun _ _ _ h => h) (Or.inl ⟨by rfl, ?_⟩) (by assumption) ?_
              rotate_left
              · intro w hSw
                try dsimp only at hSw
                first | (go_simp; done) | (go_simp; with_reducible rfl)
              try simp only [Act.put, List.setIfInBounds_toArray, List.set_cons_zero, List.set_cons_succ]
              refine wpAnyH_take (i := 7) (v := ?_) (take_list rfl) (by kernel_rfl) (by kernel_rfl) (by kernel_rfl) (fun _ _ _ h => h) (Or.inl ⟨by rfl, ?_⟩) (by assumption) ?_
              rotate_left
              · intro w hSw
                try dsimp only at hSw
                first | (go_simp; done) | (go_simp; with_reducible rfl)
              try simp only [Act.put, List.setIfInBounds_toArray, List.set_cons_zero, List.set_cons_succ]
              refine wpAnyH_take (i := 8) (v := ?_) (take_list rfl) (by kernel_rfl) (by kernel_rfl) (by kernel_rfl) (fun _ _ _ h => h) (Or.inl ⟨by rfl, ?_⟩) (by assumption) ?_
              rotate_left
              · intro w hSw
                try dsimp only at hSw
                first | (go_simp; done) | (go_simp; with_reducible rfl)
              try simp only [Act.put, List.setIfInBounds_toArray, List.set_cons_zero, List.set_cons_succ]
              refine wpAnyH_take (i := 9) (v := ?_) (take_list rfl) (by kernel_rfl) (by kernel_rfl) (by kernel_rfl) (fun _ _ _ h => h) (Or.inl ⟨by rfl, ?_⟩) (by assumption) ?_
              rotate_left
              · intro w hSw
                try dsimp only at hSw
                first | (go_simp; done) | (go_simp; with_reducible rfl)
              try simp only [Act.put, List.setIfInBounds_toArray, List.set_cons_zero, List.set_cons_succ]
              refine wpAnyH_take (i := 10) (v := ?_) (take_list rfl) (by kernel_rfl) (by kernel_rfl) (by kernel_rfl) (fun _ _ _ h => h) (Or.inl ⟨by rfl, ?_⟩) (by assumption) ?_
              rotate_left
              · intro w hSw
                try dsimp only at hSw
                first | (go_simp; done) | (go_simp; with_reducible rfl)
              try simp only [Act.put, List.setIfInBounds_toArray, List.set_cons_zero, List.set_cons_succ]
              refine wpAnyH_take (i := 11) (v := ?_) (take_list rfl) (by kernel_rfl) (by kernel_rfl) (by kernel_rfl) (fun _ _ _ h => h) (Or.inl ⟨by rfl, ?_⟩) (by assumption) ?_
              rotate_left
              · intro w hSw
                try dsimp only at hSw
                first | (go_simp; done) | (go_simp; with_reducible rfl)
              try simp only [Act.put, List.setIfInBounds_toArray, List.set_cons_zero, List.set_cons_succ]
              refine wpAnyH_take (i := 12) (v := ?_) (take_list rfl) (by kernel_rfl) (by kernel_rfl) (by kernel_rfl) (fun _ _ _ h => h) (Or.inl ⟨by rfl, ?_⟩) (by assumption) ?_
              rotate_left
              · intro w hSw
                try dsimp only at hSw
                first | (go_simp; done) | (go_simp; with_reducible rfl)
              try simp only [Act.put, List.setIfInBounds_toArray, List.set_cons_zero, List.set_cons_succ]
              refine wpAnyH_take (i := 13) (v := ?_) (take_list rfl) (by kernel_rfl) (by kernel_rfl) (by kernel_rfl) (fun _ _ _ h => h) (Or.inl ⟨by rfl, ?_⟩) (by assumption) ?_
              rotate_left
              · intro w hSw
                try dsimp only at hSw
                first | (go_simp; done) | (go_simp; with_reducible rfl)
              try simp only [Act.put, List.setIfInBounds_toArray, List.set_cons_zero, List.set_cons_succ]
              refine wpAnyH_take (i := 14) (v := ?_) (take_list rfl) (by kernel_rfl) (by kernel_rfl) (by kernel_rfl) (fun _ _ _ h => h) (Or.inl ⟨by rfl, ?_⟩) (by assumption) ?_
              rotate_left
              · intro w hSw
                try dsimp only at hSw
                first | (go_simp; done) | (go_simp; with_reducible rfl)
              try simp only [Act.put, List.setIfInBounds_toArray, List.set_cons_zero, List.set_cons_succ]
              refine wpAnyH_take (i := 15) (v := ?_) (take_list rfl) (by kernel_rfl) (by kernel_rfl) (by kernel_rfl) (fun _ _ _ h => h) (Or.inl ⟨by rfl, ?_⟩) (by assumption) ?_
              rotate_left
              · intro w hSw
                try dsimp only at hSw
                first | (go_simp; done) | (go_simp; with_reducible rfl)
              try simp only [Act.put, List.setIfInBounds_toArray, List.set_cons_zero, List.set_cons_succ]
              refine wpAnyH_take (i := 16) (v := ?_) (take_list rfl) (by kernel_rfl) (by kernel_rfl) (by kernel_rfl) (fun _ _ _ h => h) (Or.inl ⟨by rfl, ?_⟩) (by assumption) ?_
              rotate_left
              · intro w hSw
                try dsimp only at hSw
                first | (go_simp; done) | (go_simp; with_reducible rfl)
              try simp only [Act.put, List.setIfInBounds_toArray, List.set_cons_zero, List.set_cons_succ]
              refine wpAnyH_take (i := 17) (v := ?_) (take_list rfl) (by kernel_rfl) (by kernel_rfl) (by kernel_rfl) (fun _ _ _ h => h) (Or.inl ⟨by rfl, ?_⟩) (by assumption) ?_
              rotate_left
              · intro w hSw
                try dsimp only at hSw
                first | (go_simp; done) | (go_simp; with_reducible rfl)
              try simp only [Act.put, List.setIfInBounds_toArray, List.set_cons_zero, List.set_cons_succ]
              refine wpAnyH_take (i := 18) (v := ?_) (take_list rfl) (by kernel_rfl) (by kernel_rfl) (by kernel_rfl) (fun _ _ _ h => h) (Or.inl ⟨by rfl, ?_⟩) (by assumption) ?_
              rotate_left
              · intro w hSw
                try dsimp only at hSw
                first | (go_simp; done) | (go_simp; with_reducible rfl)
              try simp only [Act.put, List.setIfInBounds_toArray, List.set_cons_zero, List.set_cons_succ]
              refine wpAnyH_take (i := 19) (v := ?_) (take_list rfl) (by kernel_rfl) (by kernel_rfl) (by kernel_rfl) (fun _ _ _ h => h) (Or.inl ⟨by rfl, ?_⟩) (by assumption) ?_
              rotate_left
              · intro w hSw
                try dsimp only at hSw
                first | (go_simp; done) | (go_simp; with_reducible rfl)
              try simp only [Act.put, List.setIfInBounds_toArray, List.set_cons_zero, List.set_cons_succ]
              refine wpAnyH_done (by kernel_rfl) ?_ _
              have HBx := Lib.hid (HBk.out.ext HE2.out)
              have HNx := Lib.hid (HN.out.ext HE2.out)
              have HTx := Lib.hid (HT.out.ext HE2.out)
              have hgw : w0.heap.size ≤ g := by have := Hgw.out; omega
              have Hgw2 := Lib.hid hgw
              obtain ⟨hm5, hv5⟩ := HBp.out rfl
              have Hv5 := Lib.hid hv5
              clear b0 b1 x0 x1 hgw hv5
              go_wp2_with fail
              clear hed hed2
              go_loopw [6] (fun i wr => ∃ (q p : Nat) (D : Option Addr) (d : Nat) (xs : List Value), q ≤ m ∧ i = .int .i64 (q : Int) ∧ Hid (p = n + q) ∧
                Hid (Blk wr g 27 #[.int .i64 F, .slice D p d]) ∧ Hid (NewO w0 wr 47 2 D p d xs) ∧ Hid (RowT wr xs (lnsTo l k ++ sl.take q))) (fun i _ => m - (intOf i).toNat)
              case atStart => exact ⟨0, n, D, d, xs, Nat.zero_le _, rfl, Lib.hid rfl, HBx, HNx, Lib.hid (by rw [List.take_zero, List.append_nil]; exact HTx.out)⟩
              case round =>
                clear HBx HNx HTx HBk HN HT HK HIs2 HE2
                obtain ⟨q, p, D, d, xs, hq, rfl, Hp, HBk, HN, HT⟩ := hrel
                have x1 := cell_only HY1.out (Only.of_ext (S := fun _ => False) HN.out.bel) (fun h => h)
                by_cases hqm : q < m
                · have hqi : (q : Int) < (m : Int) := by omega
                  have hqs : q < sl.length := by have := Hm.out; omega
                  obtain ⟨gB, oB, A1, c1, rfl, v0, v1, hln⟩ := row_ln (Hin.out.row.ext IsLn.lasts HN.out.bel) hqs
                  have hvl := Hv5.out _ (List.getElem_mem hqs)
                  have HRd := Lib.hid hln.rd
                  have HNl := Lib.hid hln.nil
                  have HIi := Lib.hid hln.int
                  have HLc := Lib.hid hln.le
                  have HT1 : Hid (lnsTo l k ++ sl.take (q + 1) = lnsTo l k ++ sl.take q ++ [⟨sl[q].id, sl[q].vars⟩]) := Lib.hid (by rw [List.take_succ_eq_append_getElem hqs, List.append_assoc])
                  generalize sl[q].id = id_ at *
                  generalize sl[q].vars = vs at *
                  obtain ⟨vl, hvle⟩ : ∃ vl, vs.length = vl := ⟨_, rfl⟩
                  rw [hvle] at v1 hvl
                  have Hvl := Lib.hid hvle
                  obtain ⟨wx, hwx⟩ : ∃ wx, wx = wr.alloc (.cells #[.int .i64 id_, .slice A1 vl c1] 47) := ⟨_, rfl⟩
                  have hbx : Below wr.heap.size wr wx := by rw [hwx]; exact ext_alloc (Below.refl _ _) _
                  have hX : Blk wx wr.heap.size 47 #[.int .i64 id_, .slice A1 vl c1] := by rw [hwx]; exact Blk.new _ _ _
                  have HX := Lib.hid hX
                  have HNx := Lib.hid (HN.out.ext hbx)
                  have HTx := Lib.hid (HT.out.ext hbx)
                  have HBx := Lib.hid (HBk.out.ext hbx)
                  have HRx := Lib.hid (HRd.out.ext hbx)
                  have HXD : Hid (¬ inA D wr.heap.size) := Lib.hid (fun h => by have := HN.out.row.lt h; omega)
                  have HXg : Hid (wr.heap.size ≠ g) := Lib.hid (by have := HBk.out.lt; omega)
                  have HK : Hid (∀ W, Below wx.heap.size wx W → W.cell? ⟨wr.heap.size, 0, none⟩ = some (.int .i64 id_) ∧ W.cell? ⟨wr.heap.size, 1, none⟩ = some (.slice A1 vl c1)) := Lib.hid (fun W hW => ⟨(HX.out.ext hW).cell 0, (HX.out.ext hW).cell 1⟩)
                  have HKg : Hid (∀ W, Below wx.heap.size wx W → W.cell? ⟨g, 1, none⟩ = some (.slice D p d)) := Lib.hid (fun W hW => (HBx.out.ext hW).cell 1)
                  have HNl0 : Hid (A1 = none → vl = 0) := Lib.hid (fun h => by have h1 := HNl.out h; have h2 := HLc.out; have h3 := Hvl.out; omega)
                  have hp1 : p + 1 ≤ maxLen := by have := Hp.out; unfold maxLen; omega
                  have hp2 : (p + 1) * 32 ≤ 140737488355328 := by have := Hp.out; omega
                  have hp3 : 0 + vl ≤ maxLen := by unfold maxLen; omega
                  have hp4 : (0 + vl) * 16 ≤ 140737488355328 := by omega
                  have Hwx := Lib.hid hwx
                  clear hbx hX hwx hln hvle HRd
                  go_wp2_with fail
                  rw [← Hwx.out]
                  refine wp_region_held_drew (S := fun W => W.cell? ⟨wr.heap.size, 0, none⟩ = some (.int .i64 id_) ∧ W.cell? ⟨wr.heap.size, 1, none⟩ = some (.slice A1 vl c1)) (by kernel_rfl) ?_ (fun hHeld => ?_)
                  · exact HK.out _ (by repeat (first | exact Below.refl _ _ | exact HE4.out | apply ext_drew | apply ext_drewN | apply ext_alloc))
                  refine wpAnyH_take (i := 0) (v := ?_) (take_list rfl) (by kernel_rfl) (by kernel_rfl) (by kernel_rfl) (fun _ _ _ h => h) (Or.inl ⟨by rfl, ?_⟩) (by assumption) ?_
                  rotate_left
                  · intro w hSw
                    try dsimp only at hSw
                    first | (go_simp; done) | (go_simp; with_reducible rfl)
                  try simp only [Act.put, List.setIfInBounds_toArray, List.set_cons_zero, List.set_cons_succ]
                  refine wpAnyH_take (i := 2) (v := ?_) (take_list rfl) (by kernel_rfl) (by kernel_rfl) (by kernel_rfl) (fun _ _ _ h => h) (Or.inl ⟨by rfl, ?_⟩) (by assumption) ?_
                  rotate_left
                  · intro w hSw
                    try dsimp only at hSw
                    first | (go_simp; done) | (go_simp; with_reducible rfl)
                  try simp only [Act.put, List.setIfInBounds_toArray, List.set_cons_zero, List.set_cons_succ]
                  refine wpAnyH_take (i := 3) (v := ?_) (take_list rfl) (by kernel_rfl) (by kernel_rfl) (by kernel_rfl) (fun _ _ _ h => h) (Or.inl ⟨by rfl, ?_⟩) (by assumption) ?_
                  rotate_left
                  · intro w hSw
                    try dsimp only at hSw
                    first | (go_simp; done) | (go_simp; with_reducible rfl)
                  try simp only [Act.put, List.setIfInBounds_toArray, List.set_cons_zero, List.set_cons_succ]
                  refine wpAnyH_take (i := 5) (v := ?_) (take_list rfl) (by kernel_rfl) (by kernel_rfl) (by kernel_rfl) (fun _ _ _ h => h) (Or.inl ⟨by rfl, ?_⟩) (by assumption) ?_
                  rotate_left
                  · intro w hSw
                    try dsimp only at hSw
                    first | (go_simp; done) | (go_simp; with_reducible rfl)
                  try simp only [Act.put, List.setIfInBounds_toArray, List.set_cons_zero, List.set_cons_succ]
                  refine wpAnyH_take (i := 6) (v := ?_) (take_list rfl) (by kernel_rfl) (by kernel_rfl) (by kernel_rfl) (fun _ _ _ h => h) (Or.inl ⟨by rfl, ?_⟩) (by assumption) ?_
                  rotate_left
                  · intro w hSw
                    try dsimp only at hSw
                    first | (go_simp; done) | (go_simp; with_reducible rfl)
                  try simp only [Act.put, List.setIfInBounds_toArray, List.set_cons_zero, List.set_cons_succ]
                  refine wpAnyH_ready (rs := [1, 4]) (by kernel_rfl) (by simp) ?_
                  refine AllReadyH.cons (take_list rfl) (fun K hK => ?_) ?_
                  · skip
                    have ql := HKg.out (wx.drew) (by repeat (first | exact Below.refl _ _ | exact HE4.out | apply ext_drew | apply ext_drewN | apply ext_alloc))
                    go_simp
                    clear ql
                    refine hK.out _ _ ?_ (fun hHeld => ?_)
                    · try dsimp only
                      exact HK.out _ (by repeat (first | exact Below.refl _ _ | exact HE4.out | apply ext_drew | apply ext_drewN | apply ext_alloc))
                    clear hK K
                    refine wpAnyH_ready (rs := [4]) (by kernel_rfl) (by simp) ?_
                    refine AllReadyH.cons (take_list rfl) (fun K hK => ?_) ?_
                    · skip
                      go_simp
                      refine hK.out _ _ ?_ (fun hHeld => ?_)
                      · try dsimp only
                        exact HK.out _ (by repeat (first | exact Below.refl _ _ | exact HE4.out | apply ext_drew | apply ext_drewN | apply ext_alloc))
                      clear hK K
                      refine wpAnyH_ready (rs := [7]) (by kernel_rfl) (by simp) ?_
                      refine AllReadyH.cons (take_list rfl) (fun K hK => ?_) ?_
                      · skip
                        refine step_appO _ rfl (.tmp 66) (.tmp 68) _ rfl 9 _ 1 16 Tryd.underlying45 info_gstr rfl (some ⟨_, 0, none⟩) 0 0 [] rfl (by first | exact RowO.lit _ 9 1 0 #[] rfl (Nat.zero_le _) (by first | rfl | simp) | exact (RowO.lit _ 9 1 0 #[] rfl (Nat.zero_le _) (by first | rfl | simp)).drew | exact ((RowO.lit _ 9 1 0 #[] rfl (Nat.zero_le _) (by first | rfl | simp)).drew).drew) A1 vl c1 (vs.map strV) rfl (by rw [List.length_map, Nat.mul_one]; exact Hvl.out) (HRx.out.ext (by repeat (first | exact Below.refl _ _ | exact HE4.out | apply ext_drew | apply ext_drewN | apply ext_alloc))) (strV_one vs) HNl0.out hp3 hp4 ?_
                        intro A4 c4 x4 hr4 ho4 hA4
                        obtain ⟨hE4, hn4⟩ := fresh_grow (w0 := wx) (by repeat (first | exact Below.refl _ _ | exact HE4.out | apply ext_drew | apply ext_drewN | apply ext_alloc)) ho4 hA4 (fun q hq => by rw [inA_some] at hq; subst hq; first | exact Nat.le_refl _ | (simp; done))
                        have HE4 : Hid (Below wx.heap.size wx x4) := Lib.hid hE4
                        have Hr4 : Hid (RowO x4 9 1 A4 vl c4 (vs.map strV)) := Lib.hid (by rw [Nat.zero_add] at hr4; exact hr4)
                        simp only [Nat.zero_add]
                        clear hr4 ho4 hA4 hE4 hn4
                        refine hK.out _ _ ?_ (fun hHeld => ?_)
                        · try dsimp only
                          exact HK.out _ (by repeat (first | exact Below.refl _ _ | exact HE4.out | apply ext_drew | apply ext_drewN | apply ext_alloc))
                        clear hK K
                        refine wpAnyH_take (i := 8) (v := ?_) (take_list rfl) (by kernel_rfl) (by kernel_rfl) (by kernel_rfl) (fun _ _ _ h => h) (Or.inl ⟨by rfl, ?_⟩) (by assumption) ?_
                        rotate_left
                        · intro w hSw
                          try dsimp only at hSw
                          first | (go_simp; done) | (go_simp; with_reducible rfl)
                        try simp only [Act.put, List.setIfInBounds_toArray, List.set_cons_zero, List.set_cons_succ]
                        refine wpAnyH_ready (rs := [9]) (by kernel_rfl) (by simp) ?_
                        refine AllReadyH.cons (take_list rfl) (fun K hK => ?_) ?_
                        · skip
                          go_simp
                          refine hK.out _ _ ?_ (fun hHeld => ?_)
                          · try dsimp only
                            exact HK.out _ (by repeat (first | exact Below.refl _ _ | exact HE4.out | apply ext_drew | apply ext_drewN | apply ext_alloc))
                          clear hK K
                          refine wpAnyH_ready (rs := [10]) (by kernel_rfl) (by simp) ?_
                          refine AllReadyH.cons (take_list rfl) (fun K hK => ?_) ?_
                          · skip
                            refine step_appO _ rfl (.tmp 63) (.tmp 71) _ rfl 47 _ 2 32 Tryd.underlying22 info_ln rfl D p d xs rfl (HNx.out.row.ext (by repeat (first | exact Below.refl _ _ | exact HE4.out | apply ext_drew | apply ext_drewN | apply ext_alloc) : Below wx.heap.size wx _)) (some ⟨_, 0, none⟩) 1 1 [.int .i64 id_, .slice A4 vl c4] rfl rfl (by first | exact Rd.lit_at _ #[.int .i64 id_, .slice A4 vl c4] _ (by first | rfl | simp) | exact Rd.drew (Rd.lit_at _ #[.int .i64 id_, .slice A4 vl c4] _ (by first | rfl | simp))) (by intro u hu; simp at hu; rcases hu with rfl | rfl <;> rfl) (by intro h; cases h) hp1 hp2 ?_
                            intro A5 c5 x5 hr5 ho5 hA5
                            have hbl : Below wx.heap.size wx (x4.alloc (.cells #[.int .i64 id_, .slice A4 vl c4] 47)) := ext_alloc HE4.out _
                            have hN5 := HNx.out.grow hbl hr5 ho5 hA5
                            have h4 := (Hr4.out.alloc (.cells #[.int .i64 id_, .slice A4 vl c4] 47)).only ho5 (Hr4.out.ne_row (HNx.out.row.ext HE4.out) (by decide))
                            have hone : RowT x5 [.int .i64 id_, .slice A4 vl c4] [⟨id_, vs⟩] := by
                              have := RowT.one (w := x5) (x := ⟨id_, vs⟩) (B := A4) (c := c4) HIi.out (by rw [Hvl.out]; exact h4)
                              rw [Hvl.out] at this
                              exact this
                            have hT5 := (((HTx.out.ext hbl)).only (HNx.out.row.ext hbl) (by decide) ho5).app hone
                            have hgD : ¬ inA D g := HNx.out.row.ne_blk HBx.out (by decide)
                            have hB5 := (HBx.out.ext hbl).only ho5 hgD
                            have hX5 := (HX.out.ext hbl).only ho5 HXD.out
                            have b1 := hB5.cell 1
                            have gb1 := hB5.free 1
                            simp only [List.getElem?_toArray, List.getElem?_cons_zero, List.getElem?_cons_succ] at b1
                            have HB6 := Lib.hid (hB5.put 1 (.slice A5 (p + 1) c5))
                            have HN6 := Lib.hid (hN5.far (p := ⟨g, 1, none⟩) (hr5.ne_blk hB5 (by decide)) Hgw2.out (.slice A5 (p + 1) c5))
                            have HT6 := Lib.hid (hT5.far hB5 (by decide) 1 (.slice A5 (p + 1) c5))
                            have k0 := hX5.cell 0
                            have k1 := hX5.cell 1
                            have hX6 := hX5.far (p := ⟨g, 1, none⟩) HXg.out (.slice A5 (p + 1) c5)
                            have l0 := hX6.cell 0
                            have l1 := hX6.cell 1
                            simp only [List.getElem?_toArray, List.getElem?_cons_zero, List.getElem?_cons_succ] at k0 k1 l0 l1
                            clear hr5 ho5 hA5 hgD hB5 hX5 hX6 hT5 hN5 hone h4
                            refine hK.out _ _ ?_ (fun hHeld => ?_)
                            · try dsimp only
                              exact ⟨k0, k1⟩
                            clear hK K
                            refine wpAnyH_take (i := 11) (v := ?_) (take_list rfl) (by kernel_rfl) (by kernel_rfl) (by kernel_rfl) (fun _ _ _ h => h) (Or.inl ⟨by rfl, ?_⟩) (by assumption) ?_
                            rotate_left
                            · intro w hSw
                              try dsimp only at hSw
                              first | (go_simp; done) | (go_simp; with_reducible rfl)
                            try simp only [Act.put, List.setIfInBounds_toArray, List.set_cons_zero, List.set_cons_succ]
                            refine wpAnyH_ready (rs := [12]) (by kernel_rfl) (by simp) ?_
                            refine AllReadyH.cons (take_list rfl) (fun K hK => ?_) ?_
                            · skip
                              go_simp
                              refine hK.out _ _ ?_ (fun hHeld => ?_)
                              · try dsimp only
                                exact ⟨l0, l1⟩
                              clear hK K
                              refine wpAnyH_done (by kernel_rfl) ?_ _
                              go_wp2
                              go_roundw
                              case rel => exact ⟨q + 1, p + 1, A5, c5, _, by omega, by go_num, Lib.hid (by rw [Hp.out]; omega), HB6, HN6, Lib.hid (by rw [HT1.out]; exact HT6.out)⟩
                              case measure => simp [intOf]; omega
                            exact AllReadyH.nil
                          exact AllReadyH.nil
                        exact AllReadyH.nil
                      exact AllReadyH.nil
                    exact AllReadyH.nil
                  refine AllReadyH.cons (take_list rfl) (fun K hK => ?_) ?_
                  · skip
                    go_simp
                    refine hK.out _ _ ?_ (fun hHeld => ?_)
                    · try dsimp only
                      exact HK.out _ (by repeat (first | exact Below.refl _ _ | exact HE4.out | apply ext_drew | apply ext_drewN | apply ext_alloc))
                    clear hK K
                    refine wpAnyH_ready (rs := [1, 7]) (by kernel_rfl) (by simp) ?_
                    refine AllReadyH.cons (take_list rfl) (fun K hK => ?_) ?_
                    · skip
                      have ql := HKg.out (wx.alloc (.cells #[] 9)) (by repeat (first | exact Below.refl _ _ | exact HE4.out | apply ext_drew | apply ext_drewN | apply ext_alloc))
                      go_simp
                      clear ql
                      refine hK.out _ _ ?_ (fun hHeld => ?_)
                      · try dsimp only
                        exact HK.out _ (by repeat (first | exact Below.refl _ _ | exact HE4.out | apply ext_drew | apply ext_drewN | apply ext_alloc))
                      clear hK K
                      refine wpAnyH_ready (rs := [7]) (by kernel_rfl) (by simp) ?_
                      refine AllReadyH.cons (take_list rfl) (fun K hK => ?_) ?_
                      · skip
                        refine step_appO _ rfl (.tmp 66) (.tmp 68) _ rfl 9 _ 1 16 Tryd.underlying45 info_gstr rfl (some ⟨_, 0, none⟩) 0 0 [] rfl (by first | exact RowO.lit _ 9 1 0 #[] rfl (Nat.zero_le _) (by first | rfl | simp) | exact (RowO.lit _ 9 1 0 #[] rfl (Nat.zero_le _) (by first | rfl | simp)).drew | exact ((RowO.lit _ 9 1 0 #[] rfl (Nat.zero_le _) (by first | rfl | simp)).drew).drew) A1 vl c1 (vs.map strV) rfl (by rw [List.length_map, Nat.mul_one]; exact Hvl.out) (HRx.out.ext (by repeat (first | exact Below.refl _ _ | exact HE4.out | apply ext_drew | apply ext_drewN | apply ext_alloc))) (strV_one vs) HNl0.out hp3 hp4 ?_
                        intro A4 c4 x4 hr4 ho4 hA4
                        obtain ⟨hE4, hn4⟩ := fresh_grow (w0 := wx) (by repeat (first | exact Below.refl _ _ | exact HE4.out | apply ext_drew | apply ext_drewN | apply ext_alloc)) ho4 hA4 (fun q hq => by rw [inA_some] at hq; subst hq; first | exact Nat.le_refl _ | (simp; done))
                        have HE4 : Hid (Below wx.heap.size wx x4) := Lib.hid hE4
                        have Hr4 : Hid (RowO x4 9 1 A4 vl c4 (vs.map strV)) := Lib.hid (by rw [Nat.zero_add] at hr4; exact hr4)
                        simp only [Nat.zero_add]
                        clear hr4 ho4 hA4 hE4 hn4
                        refine hK.out _ _ ?_ (fun hHeld => ?_)
                        · try dsimp only
                          exact HK.out _ (by repeat (first | exact Below.refl _ _ | exact HE4.out | apply ext_drew | apply ext_drewN | apply ext_alloc))
                        clear hK K
                        refine wpAnyH_take (i := 8) (v := ?_) (take_list rfl) (by kernel_rfl) (by kernel_rfl) (by kernel_rfl) (fun _ _ _ h => h) (Or.inl ⟨by rfl, ?_⟩) (by assumption) ?_
                        rotate_left
                        · intro w hSw
                          try dsimp only at hSw
                          first | (go_simp; done) | (go_simp; with_reducible rfl)
                        try simp only [Act.put, List.setIfInBounds_toArray, List.set_cons_zero, List.set_cons_succ]
                        refine wpAnyH_ready (rs := [9]) (by kernel_rfl) (by simp) ?_
                        refine AllReadyH.cons (take_list rfl) (fun K hK => ?_) ?_
                        · skip
                          go_simp
                          refine hK.out _ _ ?_ (fun hHeld => ?_)
                          · try dsimp only
                            exact HK.out _ (by repeat (first | exact Below.refl _ _ | exact HE4.out | apply ext_drew | apply ext_drewN | apply ext_alloc))
                          clear hK K
                          refine wpAnyH_ready (rs := [10]) (by kernel_rfl) (by simp) ?_
                          refine AllReadyH.cons (take_list rfl) (fun K hK => ?_) ?_
                          · skip
                            refine step_appO _ rfl (.tmp 63) (.tmp 71) _ rfl 47 _ 2 32 Tryd.underlying22 info_ln rfl D p d xs rfl (HNx.out.row.ext (by repeat (first | exact Below.refl _ _ | exact HE4.out | apply ext_drew | apply ext_drewN | apply ext_alloc) : Below wx.heap.size wx _)) (some ⟨_, 0, none⟩) 1 1 [.int .i64 id_, .slice A4 vl c4] rfl rfl (by first | exact Rd.lit_at _ #[.int .i64 id_, .slice A4 vl c4] _ (by first | rfl | simp) | exact Rd.drew (Rd.lit_at _ #[.int .i64 id_, .slice A4 vl c4] _ (by first | rfl | simp))) (by intro u hu; simp at hu; rcases hu with rfl | rfl <;> rfl) (by intro h; cases h) hp1 hp2 ?_
                            intro A5 c5 x5 hr5 ho5 hA5
                            have hbl : Below wx.heap.size wx (x4.alloc (.cells #[.int .i64 id_, .slice A4 vl c4] 47)) := ext_alloc HE4.out _
                            have hN5 := HNx.out.grow hbl hr5 ho5 hA5
                            have h4 := (Hr4.out.alloc (.cells #[.int .i64 id_, .slice A4 vl c4] 47)).only ho5 (Hr4.out.ne_row (HNx.out.row.ext HE4.out) (by decide))
                            have hone : RowT x5 [.int .i64 id_, .slice A4 vl c4] [⟨id_, vs⟩] := by
                              have := RowT.one (w := x5) (x := ⟨id_, vs⟩) (B := A4) (c := c4) HIi.out (by rw [Hvl.out]; exact h4)
                              rw [Hvl.out] at this
                              exact this
                            have hT5 := (((HTx.out.ext hbl)).only (HNx.out.row.ext hbl) (by decide) ho5).app hone
                            have hgD : ¬ inA D g := HNx.out.row.ne_blk HBx.out (by decide)
                            have hB5 := (HBx.out.ext hbl).only ho5 hgD
                            have hX5 := (HX.out.ext hbl).only ho5 HXD.out
                            have b1 := hB5.cell 1
                            have gb1 := hB5.free 1
                            simp only [List.getElem?_toArray, List.getElem?_cons_zero, List.getElem?_cons_succ] at b1
                            have HB6 := Lib.hid (hB5.put 1 (.slice A5 (p + 1) c5))
                            have HN6 := Lib.hid (hN5.far (p := ⟨g, 1, none⟩) (hr5.ne_blk hB5 (by decide)) Hgw2.out (.slice A5 (p + 1) c5))
                            have HT6 := Lib.hid (hT5.far hB5 (by decide) 1 (.slice A5 (p + 1) c5))
                            have k0 := hX5.cell 0
                            have k1 := hX5.cell 1
                            have hX6 := hX5.far (p := ⟨g, 1, none⟩) HXg.out (.slice A5 (p + 1) c5)
                            have l0 := hX6.cell 0
                            have l1 := hX6.cell 1
                            simp only [List.getElem?_toArray, List.getElem?_cons_zero, List.getElem?_cons_succ] at k0 k1 l0 l1
                            clear hr5 ho5 hA5 hgD hB5 hX5 hX6 hT5 hN5 hone h4
                            refine hK.out _ _ ?_ (fun hHeld => ?_)
                            · try dsimp only
                              exact ⟨k0, k1⟩
                            clear hK K
                            refine wpAnyH_take (i := 11) (v := ?_) (take_list rfl) (by kernel_rfl) (by kernel_rfl) (by kernel_rfl) (fun _ _ _ h => h) (Or.inl ⟨by rfl, ?_⟩) (by assumption) ?_
                            rotate_left
                            · intro w hSw
                              try dsimp only at hSw
                              first | (go_simp; done) | (go_simp; with_reducible rfl)
                            try simp only [Act.put, List.setIfInBounds_toArray, List.set_cons_zero, List.set_cons_succ]
                            refine wpAnyH_ready (rs := [12]) (by kernel_rfl) (by simp) ?_
                            refine AllReadyH.cons (take_list rfl) (fun K hK => ?_) ?_
                            · skip
                              go_simp
                              refine hK.out _ _ ?_ (fun hHeld => ?_)
                              · try dsimp only
                                exact ⟨l0, l1⟩
                              clear hK K
                              refine wpAnyH_done (by kernel_rfl) ?_ _
                              go_wp2
                              go_roundw
                              case rel => exact ⟨q + 1, p + 1, A5, c5, _, by omega, by go_num, Lib.hid (by rw [Hp.out]; omega), HB6, HN6, Lib.hid (by rw [HT1.out]; exact HT6.out)⟩
                              case measure => simp [intOf]; omega
                            exact AllReadyH.nil
                          exact AllReadyH.nil
                        exact AllReadyH.nil
                      exact AllReadyH.nil
                    refine AllReadyH.cons (take_list rfl) (fun K hK => ?_) ?_
                    · skip
                      refine step_appO _ rfl (.tmp 66) (.tmp 68) _ rfl 9 _ 1 16 Tryd.underlying45 info_gstr rfl (some ⟨_, 0, none⟩) 0 0 [] rfl (by first | exact RowO.lit _ 9 1 0 #[] rfl (Nat.zero_le _) (by first | rfl | simp) | exact (RowO.lit _ 9 1 0 #[] rfl (Nat.zero_le _) (by first | rfl | simp)).drew | exact ((RowO.lit _ 9 1 0 #[] rfl (Nat.zero_le _) (by first | rfl | simp)).drew).drew) A1 vl c1 (vs.map strV) rfl (by rw [List.length_map, Nat.mul_one]; exact Hvl.out) (HRx.out.ext (by repeat (first | exact Below.refl _ _ | exact HE4.out | apply ext_drew | apply ext_drewN | apply ext_alloc))) (strV_one vs) HNl0.out hp3 hp4 ?_
                      intro A4 c4 x4 hr4 ho4 hA4
                      obtain ⟨hE4, hn4⟩ := fresh_grow (w0 := wx) (by repeat (first | exact Below.refl _ _ | exact HE4.out | apply ext_drew | apply ext_drewN | apply ext_alloc)) ho4 hA4 (fun q hq => by rw [inA_some] at hq; subst hq; first | exact Nat.le_refl _ | (simp; done))
                      have HE4 : Hid (Below wx.heap.size wx x4) := Lib.hid hE4
                      have Hr4 : Hid (RowO x4 9 1 A4 vl c4 (vs.map strV)) := Lib.hid (by rw [Nat.zero_add] at hr4; exact hr4)
                      simp only [Nat.zero_add]
                      clear hr4 ho4 hA4 hE4 hn4
                      refine hK.out _ _ ?_ (fun hHeld => ?_)
                      · try dsimp only
                        exact HK.out _ (by repeat (first | exact Below.refl _ _ | exact HE4.out | apply ext_drew | apply ext_drewN | apply ext_alloc))
                      clear hK K
                      refine wpAnyH_take (i := 8) (v := ?_) (take_list rfl) (by kernel_rfl) (by kernel_rfl) (by kernel_rfl) (fun _ _ _ h => h) (Or.inl ⟨by rfl, ?_⟩) (by assumption) ?_
                      rotate_left
                      · intro w hSw
                        try dsimp only at hSw
                        first | (go_simp; done) | (go_simp; with_reducible rfl)
                      try simp only [Act.put, List.setIfInBounds_toArray, List.set_cons_zero, List.set_cons_succ]
                      refine wpAnyH_ready (rs := [1, 9]) (by kernel_rfl) (by simp) ?_
                      refine AllReadyH.cons (take_list rfl) (fun K hK => ?_) ?_
                      · skip
                        have ql := HKg.out (x4) (by repeat (first | exact Below.refl _ _ | exact HE4.out | apply ext_drew | apply ext_drewN | apply ext_alloc))
                        go_simp
                        clear ql
                        refine hK.out _ _ ?_ (fun hHeld => ?_)
                        · try dsimp only
                          exact HK.out _ (by repeat (first | exact Below.refl _ _ | exact HE4.out | apply ext_drew | apply ext_drewN | apply ext_alloc))
                        clear hK K
                        refine wpAnyH_ready (rs := [9]) (by kernel_rfl) (by simp) ?_
                        refine AllReadyH.cons (take_list rfl) (fun K hK => ?_) ?_
                        · skip
                          go_simp
                          refine hK.out _ _ ?_ (fun hHeld => ?_)
                          · try dsimp only
                            exact HK.out _ (by repeat (first | exact Below.refl _ _ | exact HE4.out | apply ext_drew | apply ext_drewN | apply ext_alloc))
                          clear hK K
                          refine wpAnyH_ready (rs := [10]) (by kernel_rfl) (by simp) ?_
                          refine AllReadyH.cons (take_list rfl) (fun K hK => ?_) ?_
                          · skip
                            refine step_appO _ rfl (.tmp 63) (.tmp 71) _ rfl 47 _ 2 32 Tryd.underlying22 info_ln rfl D p d xs rfl (HNx.out.row.ext (by repeat (first | exact Below.refl _ _ | exact HE4.out | apply ext_drew | apply ext_drewN | apply ext_alloc) : Below wx.heap.size wx _)) (some ⟨_, 0, none⟩) 1 1 [.int .i64 id_, .slice A4 vl c4] rfl rfl (by first | exact Rd.lit_at _ #[.int .i64 id_, .slice A4 vl c4] _ (by first | rfl | simp) | exact Rd.drew (Rd.lit_at _ #[.int .i64 id_, .slice A4 vl c4] _ (by first | rfl | simp))) (by intro u hu; simp at hu; rcases hu with rfl | rfl <;> rfl) (by intro h; cases h) hp1 hp2 ?_
                            intro A5 c5 x5 hr5 ho5 hA5
                            have hbl : Below wx.heap.size wx (x4.alloc (.cells #[.int .i64 id_, .slice A4 vl c4] 47)) := ext_alloc HE4.out _
                            have hN5 := HNx.out.grow hbl hr5 ho5 hA5
                            have h4 := (Hr4.out.alloc (.cells #[.int .i64 id_, .slice A4 vl c4] 47)).only ho5 (Hr4.out.ne_row (HNx.out.row.ext HE4.out) (by decide))
                            have hone : RowT x5 [.int .i64 id_, .slice A4 vl c4] [⟨id_, vs⟩] := by
                              have := RowT.one (w := x5) (x := ⟨id_, vs⟩) (B := A4) (c := c4) HIi.out (by rw [Hvl.out]; exact h4)
                              rw [Hvl.out] at this
                              exact this
                            have hT5 := (((HTx.out.ext hbl)).only (HNx.out.row.ext hbl) (by decide) ho5).app hone
                            have hgD : ¬ inA D g := HNx.out.row.ne_blk HBx.out (by decide)
                            have hB5 := (HBx.out.ext hbl).only ho5 hgD
                            have hX5 := (HX.out.ext hbl).only ho5 HXD.out
                            have b1 := hB5.cell 1
                            have gb1 := hB5.free 1
                            simp only [List.getElem?_toArray, List.getElem?_cons_zero, List.getElem?_cons_succ] at b1
                            have HB6 := Lib.hid (hB5.put 1 (.slice A5 (p + 1) c5))
                            have HN6 := Lib.hid (hN5.far (p := ⟨g, 1, none⟩) (hr5.ne_blk hB5 (by decide)) Hgw2.out (.slice A5 (p + 1) c5))
                            have HT6 := Lib.hid (hT5.far hB5 (by decide) 1 (.slice A5 (p + 1) c5))
                            have k0 := hX5.cell 0
                            have k1 := hX5.cell 1
                            have hX6 := hX5.far (p := ⟨g, 1, none⟩) HXg.out (.slice A5 (p + 1) c5)
                            have l0 := hX6.cell 0
                            have l1 := hX6.cell 1
                            simp only [List.getElem?_toArray, List.getElem?_cons_zero, List.getElem?_cons_succ] at k0 k1 l0 l1
                            clear hr5 ho5 hA5 hgD hB5 hX5 hX6 hT5 hN5 hone h4
                            refine hK.out _ _ ?_ (fun hHeld => ?_)
                            · try dsimp only
                              exact ⟨k0, k1⟩
                            clear hK K
                            refine wpAnyH_take (i := 11) (v := ?_) (take_list rfl) (by kernel_rfl) (by kernel_rfl) (by kernel_rfl) (fun _ _ _ h => h) (Or.inl ⟨by rfl, ?_⟩) (by assumption) ?_
                            rotate_left
                            · intro w hSw
                              try dsimp only at hSw
                              first | (go_simp; done) | (go_simp; with_reducible rfl)
                            try simp only [Act.put, List.setIfInBounds_toArray, List.set_cons_zero, List.set_cons_succ]
                            refine wpAnyH_ready (rs := [12]) (by kernel_rfl) (by simp) ?_
                            refine AllReadyH.cons (take_list rfl) (fun K hK => ?_) ?_
                            · skip
                              go_simp
                              refine hK.out _ _ ?_ (fun hHeld => ?_)
                              · try dsimp only
                                exact ⟨l0, l1⟩
                              clear hK K
                              refine wpAnyH_done (by kernel_rfl) ?_ _
                              go_wp2
                              go_roundw
                              case rel => exact ⟨q + 1, p + 1, A5, c5, _, by omega, by go_num, Lib.hid (by rw [Hp.out]; omega), HB6, HN6, Lib.hid (by rw [HT1.out]; exact HT6.out)⟩
                              case measure => simp [intOf]; omega
                            exact AllReadyH.nil
                          exact AllReadyH.nil
                        exact AllReadyH.nil
                      refine AllReadyH.cons (take_list rfl) (fun K hK => ?_) ?_
                      · skip
                        go_simp
                        refine hK.out _ _ ?_ (fun hHeld => ?_)
                        · try dsimp only
                          exact HK.out _ (by repeat (first | exact Below.refl _ _ | exact HE4.out | apply ext_drew | apply ext_drewN | apply ext_alloc))
                        clear hK K
                        refine wpAnyH_ready (rs := [1]) (by kernel_rfl) (by simp) ?_
                        refine AllReadyH.cons (take_list rfl) (fun K hK => ?_) ?_
                        · skip
                          have ql := HKg.out (x4.alloc (.cells #[.int .i64 id_, .slice A4 vl c4] 47)) (by repeat (first | exact Below.refl _ _ | exact HE4.out | apply ext_drew | apply ext_drewN | apply ext_alloc))
                          go_simp
                          clear ql
                          refine hK.out _ _ ?_ (fun hHeld => ?_)
                          · try dsimp only
                            exact HK.out _ (by repeat (first | exact Below.refl _ _ | exact HE4.out | apply ext_drew | apply ext_drewN | apply ext_alloc))
                          clear hK K
                          refine wpAnyH_ready (rs := [10]) (by kernel_rfl) (by simp) ?_
                          refine AllReadyH.cons (take_list rfl) (fun K hK => ?_) ?_
                          · skip
                            refine step_appO _ rfl (.tmp 63) (.tmp 71) _ rfl 47 _ 2 32 Tryd.underlying22 info_ln rfl D p d xs rfl (HNx.out.row.ext (by repeat (first | exact Below.refl _ _ | exact HE4.out | apply ext_drew | apply ext_drewN | apply ext_alloc) : Below wx.heap.size wx _)) (some ⟨_, 0, none⟩) 1 1 [.int .i64 id_, .slice A4 vl c4] rfl rfl (by first | exact Rd.lit_at _ #[.int .i64 id_, .slice A4 vl c4] _ (by first | rfl | simp) | exact Rd.drew (Rd.lit_at _ #[.int .i64 id_, .slice A4 vl c4] _ (by first | rfl | simp))) (by intro u hu; simp at hu; rcases hu with rfl | rfl <;> rfl) (by intro h; cases h) hp1 hp2 ?_
                            intro A5 c5 x5 hr5 ho5 hA5
                            have hbl : Below wx.heap.size wx (x4.alloc (.cells #[.int .i64 id_, .slice A4 vl c4] 47)) := ext_alloc HE4.out _
                            have hN5 := HNx.out.grow hbl hr5 ho5 hA5
                            have h4 := (Hr4.out.alloc (.cells #[.int .i64 id_, .slice A4 vl c4] 47)).only ho5 (Hr4.out.ne_row (HNx.out.row.ext HE4.out) (by decide))
                            have hone : RowT x5 [.int .i64 id_, .slice A4 vl c4] [⟨id_, vs⟩] := by
                              have := RowT.one (w := x5) (x := ⟨id_, vs⟩) (B := A4) (c := c4) HIi.out (by rw [Hvl.out]; exact h4)
                              rw [Hvl.out] at this
                              exact this
                            have hT5 := (((HTx.out.ext hbl)).only (HNx.out.row.ext hbl) (by decide) ho5).app hone
                            have hgD : ¬ inA D g := HNx.out.row.ne_blk HBx.out (by decide)
                            have hB5 := (HBx.out.ext hbl).only ho5 hgD
                            have hX5 := (HX.out.ext hbl).only ho5 HXD.out
                            have b1 := hB5.cell 1
                            have gb1 := hB5.free 1
                            simp only [List.getElem?_toArray, List.getElem?_cons_zero, List.getElem?_cons_succ] at b1
                            have HB6 := Lib.hid (hB5.put 1 (.slice A5 (p + 1) c5))
                            have HN6 := Lib.hid (hN5.far (p := ⟨g, 1, none⟩) (hr5.ne_blk hB5 (by decide)) Hgw2.out (.slice A5 (p + 1) c5))
                            have HT6 := Lib.hid (hT5.far hB5 (by decide) 1 (.slice A5 (p + 1) c5))
                            have k0 := hX5.cell 0
                            have k1 := hX5.cell 1
                            have hX6 := hX5.far (p := ⟨g, 1, none⟩) HXg.out (.slice A5 (p + 1) c5)
                            have l0 := hX6.cell 0
                            have l1 := hX6.cell 1
                            simp only [List.getElem?_toArray, List.getElem?_cons_zero, List.getElem?_cons_succ] at k0 k1 l0 l1
                            clear hr5 ho5 hA5 hgD hB5 hX5 hX6 hT5 hN5 hone h4
                            refine hK.out _ _ ?_ (fun hHeld => ?_)
                            · try dsimp only
                              exact ⟨k0, k1⟩
                            clear hK K
                            refine wpAnyH_take (i := 11) (v := ?_) (take_list rfl) (by kernel_rfl) (by kernel_rfl) (by kernel_rfl) (fun _ _ _ h => h) (Or.inl ⟨by rfl, ?_⟩) (by assumption) ?_
                            rotate_left
                            · intro w hSw
                              try dsimp only at hSw
                              first | (go_simp; done) | (go_simp; with_reducible rfl)
                            try simp only [Act.put, List.setIfInBounds_toArray, List.set_cons_zero, List.set_cons_succ]
                            refine wpAnyH_ready (rs := [12]) (by kernel_rfl) (by simp) ?_
                            refine AllReadyH.cons (take_list rfl) (fun K hK => ?_) ?_
                            · skip
                              go_simp
                              refine hK.out _ _ ?_ (fun hHeld => ?_)
                              · try dsimp only
                                exact ⟨l0, l1⟩
                              clear hK K
                              refine wpAnyH_done (by kernel_rfl) ?_ _
                              go_wp2
                              go_roundw
                              case rel => exact ⟨q + 1, p + 1, A5, c5, _, by omega, by go_num, Lib.hid (by rw [Hp.out]; omega), HB6, HN6, Lib.hid (by rw [HT1.out]; exact HT6.out)⟩
                              case measure => simp [intOf]; omega
                            exact AllReadyH.nil
                          exact AllReadyH.nil
                        exact AllReadyH.nil
                      exact AllReadyH.nil
                    exact AllReadyH.nil
                  exact AllReadyH.nil
                · obtain rfl : q = m := by omega
                  have HLq : Hid (lnsTo l k ++ sl.take q = lnsTo l (k + 1)) := Lib.hid (by rw [HLs.out, ← Hm.out, List.take_length])
                  go_wp2_with fail
                  go_roundw
                  case rel => exact ⟨k + 1, p, D, d, xs, by omega, by go_num, Lib.hid (by rw [HLs.out, List.length_append, ← Hn.out, Hm.out]; exact Hp.out), HokN, HBk, HN, Lib.hid (by rw [← HLq.out]; exact HT.out)⟩
                  case measure => simp [intOf]; omega
            exact AllReadyH.nil
          · have Hno : Hid (R = (⟨0, []⟩, 1)) := Lib.hid (by rcases Hnq.out with h | h; exact absurd h.2 he; exact h)
            have hed : (sf != IntKind.i64.wrap (F + (n : Int))) = true := by rw [hwr]; simpa using he
            have hed2 : decide (sf = IntKind.i64.wrap (F + (n : Int))) = false := by rw [hwr]; exact decide_eq_false he
            have hed3 : ¬ sf = IntKind.i64.wrap (F + (n : Int)) := by rw [hwr]; exact he
            clear hFp hwr
            refine wp_region_held_drew (S := fun W => W.cell? ⟨gA, oA + k * 2, none⟩ = some (.int .i64 sf) ∧ W.cell? ⟨gA, oA + k * 2 + 1, none⟩ = some (.slice B m cb) ∧ W.cell? ⟨g, 0, none⟩ = some (.int .i64 F) ∧ W.cell? ⟨g, 1, none⟩ = some (.slice D n d)) (by kernel_rfl) ?_ (fun hHeld => ?_)
            · exact HK.out _ (by repeat (first | exact Below.refl _ _ | exact HE2.out | apply ext_drew | apply ext_drewN | apply ext_alloc))
            refine wpAnyH_take (i := 0) (v := ?_) (take_list rfl) (by kernel_rfl) (by kernel_rfl) (by kernel_rfl) (fun _ _ _ h => h) (Or.inl ⟨by rfl, ?_⟩) (by assumption) ?_
            rotate_left
            · intro w hSw
              try dsimp only at hSw
              first | (go_simp; done) | (go_simp; with_reducible rfl)
            try simp only [Act.put, List.setIfInBounds_toArray, List.set_cons_zero, List.set_cons_succ]
            refine wpAnyH_take (i := 1) (v := ?_) (take_list rfl) (by kernel_rfl) (by kernel_rfl) (by kernel_rfl) (fun _ _ _ h => h) (Or.inl ⟨by rfl, ?_⟩) (by assumption) ?_
            rotate_left
            · intro w hSw
              try dsimp only at hSw
              first | (go_simp; done) | (go_simp; with_reducible rfl)
            try simp only [Act.put, List.setIfInBounds_toArray, List.set_cons_zero, List.set_cons_succ]
            refine wpAnyH_take (i := 2) (v := ?_) (take_list rfl) (by kernel_rfl) (by kernel_rfl) (by kernel_rfl) (fun _ _ _ h => h) (Or.inl ⟨by rfl, ?_⟩) (by assumption) ?_
            rotate_left
            · intro w hSw
              try dsimp only at hSw
              first | (go_simp; done) | (go_simp; with_reducible rfl)
            try simp only [Act.put, List.setIfInBounds_toArray, List.set_cons_zero, List.set_cons_succ]
            refine wpAnyH_take (i := 3) (v := ?_) (take_list rfl) (by kernel_rfl) (by kernel_rfl) (by kernel_rfl) (fun _ _ _ h => h) (Or.inl ⟨by rfl, ?_⟩) (by assumption) ?_
            rotate_left
            · intro w hSw
              try dsimp only at hSw
              first | (go_simp; done) | (go_simp; with_reducible rfl)
            try simp only [Act.put, List.setIfInBounds_toArray, List.set_cons_zero, List.set_cons_succ]
            refine wpAnyH_ready (rs := [4]) (by kernel_rfl) (by simp) ?_
            refine AllReadyH.cons (take_list rfl) (fun K hK => ?_) ?_
            · skip
              go_simp
              refine (HIs2.out _ (by repeat (first | exact Below.refl _ _ | exact HE2.out | apply ext_drew | apply ext_drewN | apply ext_alloc))).mono ?_
              rintro e xa ⟨rfl, hbx⟩
              dsimp only
              have HE2 : Hid (Below wr.heap.size wr xa) := Lib.hid (ext_trans (by repeat (first | exact Below.refl _ _ | exact HE2.out | apply ext_drew | apply ext_drewN | apply ext_alloc)) hbx)
              clear hbx
              refine hK.out _ _ ?_ (fun hHeld => ?_)
              · try dsimp only
                exact HK.out _ (by repeat (first | exact Below.refl _ _ | exact HE2.out | apply ext_drew | apply ext_drewN | apply ext_alloc))
              clear hK K
              refine wpAnyH_take (i := 5) (v := ?_) (take_list rfl) (by kernel_rfl) (by kernel_rfl) (by kernel_rfl) (fun _ _ _ h => h) (Or.inl ⟨by rfl, ?_⟩) (by assumption) ?_
              rotate_left
              · intro w hSw
                try dsimp only at hSw
                first | (go_simp; done) | (go_simp; with_reducible rfl)
              try simp only [Act.put, List.setIfInBounds_toArray, List.set_cons_zero, List.set_cons_succ]
              refine wpAnyH_take (i := 6) (v := ?_) (take_list rfl) (by kernel_rfl) (by kernel_rfl) (by kernel_rfl) (fun _ _ _ h => h) (Or.inl ⟨by rfl, ?_⟩) (by assumption) ?_
              rotate_left
              · intro w hSw
                try dsimp only at hSw
                first | (go_simp; done) | (go_simp; with_reducible rfl)
              try simp only [Act.put, List.setIfInBounds_toArray, List.set_cons_zero, List.set_cons_succ]
              refine wpAnyH_take (i := 7) (v := ?_) (take_list rfl) (by kernel_rfl) (by kernel_rfl) (by kernel_rfl) (fun _ _ _ h => h) (Or.inl ⟨by rfl, ?_⟩) (by assumption) ?_
              rotate_left
              · intro w hSw
                try dsimp only at hSw
                first | (go_simp; done) | (go_simp; with_reducible rfl)
              try simp only [Act.put, List.setIfInBounds_toArray, List.set_cons_zero, List.set_cons_succ]
              refine wpAnyH_take (i := 8) (v := ?_) (take_list rfl) (by kernel_rfl) (by kernel_rfl) (by kernel_rfl) (fun _ _ _ h => h) (Or.inl ⟨by rfl, ?_⟩) (by assumption) ?_
              rotate_left
              · intro w hSw
                try dsimp only at hSw
                first | (go_simp; done) | (go_simp; with_reducible rfl)
              try simp only [Act.put, List.setIfInBounds_toArray, List.set_cons_zero, List.set_cons_succ]
              refine wpAnyH_take (i := 9) (v := ?_) (take_list rfl) (by kernel_rfl) (by kernel_rfl) (by kernel_rfl) (fun _ _ _ h => h) (Or.inl ⟨by rfl, ?_⟩) (by assumption) ?_
              rotate_left
              · intro w hSw
                try dsimp only at hSw
                first | (go_simp; done) | (go_simp; with_reducible rfl)
              try simp only [Act.put, List.setIfInBounds_toArray, List.set_cons_zero, List.set_cons_succ]
              refine wpAnyH_take (i := 10) (v := ?_) (take_list rfl) (by kernel_rfl) (by kernel_rfl) (by kernel_rfl) (fun _ _ _ h => h) (Or.inl ⟨by rfl, ?_⟩) (by assumption) ?_
              rotate_left
              · intro w hSw
                try dsimp only at hSw
                first | (go_simp; done) | (go_simp; with_reducible rfl)
              try simp only [Act.put, List.setIfInBounds_toArray, List.set_cons_zero, List.set_cons_succ]
              refine wpAnyH_take (i := 11) (v := ?_) (take_list rfl) (by kernel_rfl) (by kernel_rfl) (by kernel_rfl) (fun _ _ _ h => h) (Or.inl ⟨by rfl, ?_⟩) (by assumption) ?_
              rotate_left
              · intro w hSw
                try dsimp only at hSw
                first | (go_simp; done) | (go_simp; with_reducible rfl)
              try simp only [Act.put, List.setIfInBounds_toArray, List.set_cons_zero, List.set_cons_succ]
              refine wpAnyH_take (i := 12) (v := ?_) (take_list rfl) (by kernel_rfl) (by kernel_rfl) (by kernel_rfl) (fun _ _ _ h => h) (Or.inl ⟨by rfl, ?_⟩) (by assumption) ?_
              rotate_left
              · intro w hSw
                try dsimp only at hSw
                first | (go_simp; done) | (go_simp; with_reducible rfl)
              try simp only [Act.put, List.setIfInBounds_toArray, List.set_cons_zero, List.set_cons_succ]
              refine wpAnyH_take (i := 13) (v := ?_) (take_list rfl) (by kernel_rfl) (by kernel_rfl) (by kernel_rfl) (fun _ _ _ h => h) (Or.inl ⟨by rfl, ?_⟩) (by assumption) ?_
              rotate_left
              · intro w hSw
                try dsimp only at hSw
                first | (go_simp; done) | (go_simp; with_reducible rfl)
              try simp only [Act.put, List.setIfInBounds_toArray, List.set_cons_zero, List.set_cons_succ]
              refine wpAnyH_take (i := 14) (v := ?_) (take_list rfl) (by kernel_rfl) (by kernel_rfl) (by kernel_rfl) (fun _ _ _ h => h) (Or.inl ⟨by rfl, ?_⟩) (by assumption) ?_
              rotate_left
              · intro w hSw
                try dsimp only at hSw
                first | (go_simp; done) | (go_simp; with_reducible rfl)
              try simp only [Act.put, List.setIfInBounds_toArray, List.set_cons_zero, List.set_cons_succ]
              refine wpAnyH_take (i := 15) (v := ?_) (take_list rfl) (by kernel_rfl) (by kernel_rfl) (by kernel_rfl) (fun _ _ _ h => h) (Or.inl ⟨by rfl, ?_⟩) (by assumption) ?_
              rotate_left
              · intro w hSw
                try dsimp only at hSw
                first | (go_simp; done) | (go_simp; with_reducible rfl)
              try simp only [Act.put, List.setIfInBounds_toArray, List.set_cons_zero, List.set_cons_succ]
              refine wpAnyH_take (i := 16) (v := ?_) (take_list rfl) (by kernel_rfl) (by kernel_rfl) (by kernel_rfl) (fun _ _ _ h => h) (Or.inl ⟨by rfl, ?_⟩) (by assumption) ?_
              rotate_left
              · intro w hSw
                try dsimp only at hSw
                first | (go_simp; done) | (go_simp; with_reducible rfl)
              try simp only [Act.put, List.setIfInBounds_toArray, List.set_cons_zero, List.set_cons_succ]
              refine wpAnyH_take (i := 17) (v := ?_) (take_list rfl) (by kernel_rfl) (by kernel_rfl) (by kernel_rfl) (fun _ _ _ h => h) (Or.inl ⟨by rfl, ?_⟩) (by assumption) ?_
              rotate_left
              · intro w hSw
                try dsimp only at hSw
                first | (go_simp; done) | (go_simp; with_reducible rfl)
              try simp only [Act.put, List.setIfInBounds_toArray, List.set_cons_zero, List.set_cons_succ]
              refine wpAnyH_take (i := 18) (v := ?_) (take_list rfl) (by kernel_rfl) (by kernel_rfl) (by kernel_rfl) (fun _ _ _ h => h) (Or.inl ⟨by rfl, ?_⟩) (by assumption) ?_
              rotate_left
              · intro w hSw
                try dsimp only at hSw
                first | (go_simp; done) | (go_simp; with_reducible rfl)
              try simp only [Act.put, List.setIfInBounds_toArray, List.set_cons_zero, List.set_cons_succ]
              refine wpAnyH_take (i := 19) (v := ?_) (take_list rfl) (by kernel_rfl) (by kernel_rfl) (by kernel_rfl) (fun _ _ _ h => h) (Or.inl ⟨by rfl, ?_⟩) (by assumption) ?_
              rotate_left
              · intro w hSw
                try dsimp only at hSw
                first | (go_simp; done) | (go_simp; with_reducible rfl)
              try simp only [Act.put, List.setIfInBounds_toArray, List.set_cons_zero, List.set_cons_succ]
              refine wpAnyH_done (by kernel_rfl) ?_ _
              have hR := HB0.out.ext (ext_trans HN.out.bel HE2.out)
              have z0 := hR.cell 0
              have g0 := hR.free 0
              have hR1 := hR.put 0 (.int .i64 0)
              have z1 := hR1.cell 1
              have g1 := hR1.free 1
              have hR2 := hR1.put 1 (.slice none 0 0)
              have r0 := hR2.cell 0
              have r1 := hR2.cell 1
              simp only [List.getElem?_toArray, List.setIfInBounds_toArray, List.set_cons_zero, List.set_cons_succ, List.getElem?_cons_zero, List.getElem?_cons_succ] at z0 z1 r0 r1
              have Hbr : Hid (Below w.heap.size w ((xa.setCell ⟨w.heap.size, 0, none⟩ (.int .i64 0)).setCell ⟨w.heap.size, 1, none⟩ (.slice none 0 0))) := Lib.hid (Below.setCell (Below.setCell (ext_trans Hb0.out (ext_trans HN.out.bel HE2.out)) (Nat.le_refl _) _) (Nat.le_refl _) _)
              clear hR hR1 hR2
              go_wp2
              refine bodyPost_ret (v := .tuple #[.agg #[.int .i64 0, .slice none 0 0], .int .i64 1]) (by simp [results, Tryd.results14, go_sem, r0, r1]) rfl ?_
              rw [Hno.out]
              exact ⟨none, 0, rfl, SgIn.none_ _, Hbr.out⟩
            exact AllReadyH.nil
      · obtain rfl : k = l.length := by omega
        have hint : isInt F := by
          rw [HFk.out h0]
          have := ((isG_iff _).1 (HG.out 0 h0 h0)).1
          exact ⟨by omega, by omega⟩
        have hin : SgIn wr ⟨F, lnsTo l l.length⟩ D d := ⟨hint, by show (lnsTo l l.length).length ≤ d; rw [← Hn.out]; exact HN.out.row.le, HN.out.row.max, HN.out.row.nil_cap, HT.out.row HN.out.row⟩
        have HI := Lib.hid (ris18_any _ D d wr hin (fun x hx v hv => by have := lnsTo_mem (Nat.le_refl _) HG.out x hx v hv; unfold maxLen; omega))
        have HE := Lib.hid (HEnd.out (fun j hj => Hok.out j hj hj))
        unfold sgV at HI
        dsimp only at HI
        rw [← Hn.out] at HI
        have b0 := HBk.out.cell 0
        have b1 := HBk.out.cell 1
        simp only [List.getElem?_toArray, List.getElem?_cons_zero, List.getElem?_cons_succ] at b0 b1
        have HDn : Hid (¬ inA D w.heap.size) := Lib.hid (fun h => by have h1 := HN.out.2.2 _ h; have h2 := Hgw.out; omega)
        have Hnn := Lib.hid Hn.out
        clear hin HNo HEnd Hok HG Hs hnl HFe HFk HA
        obtain ⟨L, hL⟩ : ∃ L, lnsTo l l.length = L := ⟨_, rfl⟩
        rw [hL] at HI HE HT Hnn
        clear hL Hn HBs
        cases hi : isG ⟨F, L⟩ with
        | false =>
          rw [hi] at HI HE
          have Hno : Hid (R = (⟨0, []⟩, 1)) := Lib.hid (by have h := HE.out; rw [if_neg (by simp)] at h; exact h)
          clear hi HE
          go_wp2_with fail
          refine HI.out.mono ?_
          rintro e x1 ⟨rfl, hb1⟩
          have HE2 : Hid (Below wr.heap.size wr x1) := Lib.hid hb1
          clear hb1 b0 b1
          have hR := HB0.out.ext (ext_trans HN.out.bel HE2.out)
          have z0 := hR.cell 0
          have g0 := hR.free 0
          have hR1 := hR.put 0 (.int .i64 0)
          have z1 := hR1.cell 1
          have g1 := hR1.free 1
          have hR2 := hR1.put 1 (.slice none 0 0)
          have r0 := hR2.cell 0
          have r1 := hR2.cell 1
          simp only [List.getElem?_toArray, List.setIfInBounds_toArray, List.set_cons_zero, List.set_cons_succ, List.getElem?_cons_zero, List.getElem?_cons_succ] at z0 z1 r0 r1
          have Hbr : Hid (Below w.heap.size w ((x1.setCell ⟨w.heap.size, 0, none⟩ (.int .i64 0)).setCell ⟨w.heap.size, 1, none⟩ (.slice none 0 0))) := Lib.hid (Below.setCell (Below.setCell (ext_trans Hb0.out (ext_trans HN.out.bel HE2.out)) (Nat.le_refl _) _) (Nat.le_refl _) _)
          clear hR hR1 hR2
          go_wp2
          refine bodyPost_ret (v := .tuple #[.agg #[.int .i64 0, .slice none 0 0], .int .i64 1]) (by simp [results, Tryd.results14, go_sem, r0, r1]) rfl ?_
          rw [Hno.out]
          exact ⟨none, 0, rfl, SgIn.none_ _, Hbr.out⟩
        | true =>
          rw [hi] at HI HE
          have Hyes : Hid (R = (⟨F, L⟩, 0)) := Lib.hid (by have h := HE.out; rw [if_pos rfl] at h; exact h)
          clear hi HE
          go_wp2_with fail
          refine HI.out.mono ?_
          rintro e x1 ⟨rfl, hb1⟩
          have HE2 : Hid (Below wr.heap.size wr x1) := Lib.hid hb1
          have hB1 := HBk.out.ext hb1
          have c0 := hB1.cell 0
          have c1 := hB1.cell 1
          simp only [List.getElem?_toArray, List.getElem?_cons_zero, List.getElem?_cons_succ] at c0 c1
          clear hb1 b0 b1 hB1
          have hR := HB0.out.ext (ext_trans HN.out.bel HE2.out)
          have z0 := hR.cell 0
          have g0 := hR.free 0
          have hR1 := hR.put 0 (.int .i64 F)
          have z1 := hR1.cell 1
          have g1 := hR1.free 1
          have hR2 := hR1.put 1 (.slice D n d)
          have r0 := hR2.cell 0
          have r1 := hR2.cell 1
          simp only [List.getElem?_toArray, List.setIfInBounds_toArray, List.set_cons_zero, List.set_cons_succ, List.getElem?_cons_zero, List.getElem?_cons_succ] at z0 z1 r0 r1
          have Hbr : Hid (Below w.heap.size w ((x1.setCell ⟨w.heap.size, 0, none⟩ (.int .i64 F)).setCell ⟨w.heap.size, 1, none⟩ (.slice D n d))) := Lib.hid (Below.setCell (Below.setCell (ext_trans Hb0.out (ext_trans HN.out.bel HE2.out)) (Nat.le_refl _) _) (Nat.le_refl _) _)
          have HRo := Lib.hid (((HN.out.row.ext HE2.out).far (p := ⟨w.heap.size, 0, none⟩) HDn.out (.int .i64 F)).far (p := ⟨w.heap.size, 1, none⟩) HDn.out (.slice D n d))
          have HRt := Lib.hid (((HT.out.ext HE2.out).far hR (by decide) 0 (.int .i64 F)).far hR1 (by decide) 1 (.slice D n d))
          clear hR hR1 hR2
          go_wp2
          refine bodyPost_ret (v := .tuple #[.agg #[.int .i64 F, .slice D n d], .int .i64 0]) (by simp [results, Tryd.results14, go_sem, r0, r1]) rfl ?_
          rw [Hyes.out]
          exact ⟨D, d, by rw [← Hnn.out], ⟨hint, by show L.length ≤ d; rw [← Hnn.out]; exact HRo.out.le, HRo.out.max, HRo.out.nil_cap, HRt.out.row HRo.out⟩, Hbr.out⟩
end Go.Proofs.YtpjgkacekelkdaaDoor
