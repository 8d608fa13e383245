/-
  Texts of this claim, joined (part 15): contracts and lemmas that the last text goes by. No statement of the seat is proved here.
-/
import Derived.Test.YtpjgkacekelkdaaGreatDoorAll11
import Derived.Test.YtpjgkacekelkdaaGreatDoorAll14
set_option linter.unusedVariables false
set_option linter.unusedSimpArgs false
/-
  Where a text stands; each text once (reference). No statement of the seat is proved here.
-/
namespace Go.Proofs.YtpjgkacekelkdaaGreatDoor
open Go Go.RowKit
set_option maxRecDepth 100000

/-- less, as the walk spells it -/
theorem less_cases (x y : List UInt8) : ∃ Y Z : ByteArray, strV x = .string Y ∧ strV y = .string Z ∧ Op.bytesLess Y.toList Z.toList = decide (x < y) :=
  ⟨_, _, rfl, rfl, by rw [Go.Proofs.bytesLess_eq, ByteArray.toList_mk, ByteArray.toList_mk]⟩
set_option maxHeartbeats 4000000 in
theorem rplace_any (A : Option Addr) (c : Nat) (W : List (List UInt8)) (s : List UInt8) (w : World) (hA : Rd w A (W.map strV)) (hs : CalmT W) (hl : W.length ≤ 1000000) :
    Calls Tryz.prog 59 #[.slice A W.length c, strV s] w fun e w' => e = .returned (.int .i64 (placeT W s : Int)) ∧ w = w' := by
  have hli : (W.length : Int) ≤ 1000000 := by omega
  obtain ⟨h1, h2⟩ := placeT_spec (s := s) hs
  have H1 : Hid (∀ t (ht : t < W.length), W[t] < s → t + 1 ≤ placeT W s) := Lib.hid (fun t ht hlt => by
    rcases Nat.lt_or_ge t (placeT W s) with h | h
    · exact h
    · exact absurd hlt (h2 t ht h))
  have H2 : Hid (∀ t (ht : t < W.length), ¬ W[t] < s → placeT W s ≤ t) := Lib.hid (fun t ht hlt => by
    rcases Nat.lt_or_ge t (placeT W s) with h | h
    · exact absurd (h1 t ht h) hlt
    · exact h)
  have Hp := Lib.hid (placeT_le W s)
  have HA := Lib.hid hA
  have HL : Hid (∀ x : List UInt8, ∃ Y Z : ByteArray, strV x = .string Y ∧ strV s = .string Z ∧ Op.bytesLess Y.toList Z.toList = decide (x < s)) := Lib.hid (fun x => less_cases x s)
  generalize placeT W s = P at *
  obtain ⟨Z, hZ⟩ : ∃ Z : ByteArray, strV s = .string Z := ⟨_, rfl⟩
  have HZ := Lib.hid hZ
  rw [hZ]
  clear hA h1 h2 hs hZ
  go_enter Tryz.func59, Tryz.ntmps59
  go_wp2
  go_loop [5, 6] (fun l h => ∃ a b : Nat, l = .int .i64 (a : Int) ∧ h = .int .i64 (b : Int) ∧ Hid (a ≤ P ∧ P ≤ b ∧ b ≤ W.length)) (fun l h => (intOf h).toNat - (intOf l).toNat)
  case atStart => exact ⟨0, W.length, rfl, rfl, Lib.hid ⟨Nat.zero_le _, Hp.out, Nat.le_refl _⟩⟩
  case round =>
    obtain ⟨a, b, rfl, rfl, Hab⟩ := hrel
    have hbl : (b : Int) ≤ 1000000 := by have := Hab.out; omega
    have hal : (a : Int) ≤ 1000000 := by have := Hab.out; omega
    by_cases hlt : a < b
    · have hlti : (a : Int) < (b : Int) := by omega
      obtain ⟨m, hm⟩ : ∃ m, (a + b) / 2 = m := ⟨_, rfl⟩
      have hmb : m < W.length := by have := Hab.out; omega
      have hmi : ((a : Int) + (b : Int)) / 2 = (m : Int) := by omega
      have hmd : ((a : Int) + (b : Int)).tdiv 2 = (m : Int) := by rw [Int.tdiv_eq_ediv_of_nonneg (by omega)]; exact hmi
      have hml : (m : Int) ≤ 1000000 := by have := Hab.out; omega
      have hm2 : (m : Int) < (W.length : Int) := by omega
      have Hm : Hid (a ≤ m ∧ m < b) := Lib.hid (by omega)
      obtain ⟨ad, hB, hcell⟩ := rd_str HA.out hmb
      subst hB
      obtain ⟨Y, Z', e1, e2, hls⟩ := HL.out W[m]
      rw [HZ.out] at e2
      injection e2 with e2
      subst e2
      rw [e1] at hcell
      have hwa : IntKind.i64.wrap ((a : Int) + (b : Int)) = (a : Int) + (b : Int) := IntWalk.i64_in _ (by omega)
      have Hw1 : Hid (W[m] < s → m + 1 ≤ P) := Lib.hid (H1.out m hmb)
      have Hw2 : Hid (¬ W[m] < s → P ≤ m) := Lib.hid (H2.out m hmb)
      clear hm e1
      generalize W[m] = x at *
      by_cases hx : x < s
      · rw [decide_eq_true hx] at hls
        have Hpm := Lib.hid (Hw1.out hx)
        clear hx Hw1 Hw2
        go_wp2
        go_round
        case rel => exact ⟨m + 1, b, by go_num, rfl, Lib.hid (by have := Hab.out; have := Hpm.out; omega)⟩
        case measure => simp [intOf]; have := Hm.out; omega
      · rw [decide_eq_false hx] at hls
        have Hpm := Lib.hid (Hw2.out hx)
        clear hx Hw1 Hw2
        go_wp2
        go_round
        case rel => exact ⟨a, m, rfl, rfl, Lib.hid (by have := Hab.out; have := Hpm.out; have := Hm.out; omega)⟩
        case measure => simp [intOf]; have := Hm.out; omega
    · have hge : ¬ (a : Int) < (b : Int) := by omega
      have hpa : P = a := by have := Hab.out; omega
      have HPa := Lib.hid hpa
      clear hpa
      go_wp2
      go_ret
      exact ⟨by rw [HPa.out]; rfl, rfl⟩

/-! ### each text once -/
theorem insT_in {out : List (List UInt8)} {s : List UInt8} (h : s ∈ out) : insT out s = out := if_pos h
theorem insT_out {out : List (List UInt8)} {s : List UInt8} (h : s ∉ out) : insT out s = out.take (placeT out s) ++ s :: out.drop (placeT out s) := if_neg h
theorem grow_fresh {w0 X w4 : World} {A A4 : Option Addr} (hb : Below w0.heap.size w0 X) (ho : Only (inA A) X w4) (hA : ∀ q, inA A4 q → inA A q ∨ (X.heap.size ≤ q ∧ q < w4.heap.size)) (hn : ∀ q, inA A q → w0.heap.size ≤ q) : Below w0.heap.size w0 w4 ∧ ∀ q, inA A4 q → w0.heap.size ≤ q :=
  ⟨hb.trans (ho.below hn hb.size), fun q hq => (hA q hq).elim (hn q) (fun h => Nat.le_trans hb.size h.1)⟩
/-- what a round leaves: the new row, all of it made since the law began -/
theorem words_grow {w wr w0 w5 w7 : World} {B A5 A7 : Option Addr} {n cB m7 c7 : Nat} {O L1 L2 : List (List UInt8)} {s : List UInt8} (hN : NewO w wr 9 1 B n cB (O.map strV)) (h0 : Below wr.heap.size wr w0) (h5 : Below w0.heap.size w0 w5)
    (hn5 : ∀ q, inA A5 q → w0.heap.size ≤ q) (hr7 : RowO w7 9 1 A7 m7 c7 ((L1 ++ [s]).map strV ++ L2.map strV)) (ho7 : Only (inA A5) w5 w7) (hA7 : ∀ q, inA A7 q → inA A5 q ∨ (w5.heap.size ≤ q ∧ q < w7.heap.size)) : NewO w w7 9 1 A7 m7 c7 ((L1 ++ s :: L2).map strV) := by
  have e : (L1 ++ s :: L2).map strV = (L1 ++ [s]).map strV ++ L2.map strV := by simp
  have hb5 := ext_trans (ext_trans hN.bel h0) h5
  have hs := (ext_trans hN.bel h0).size
  rw [e]
  refine ⟨hr7, hb5.trans (ho7.below (fun i hi => Nat.le_trans hs (hn5 i hi)) hb5.size), fun q hq => ?_⟩
  rcases hA7 q hq with h | h
  · exact Nat.le_trans hs (hn5 q h)
  · have := hb5.size; omega
set_option maxHeartbeats 16000000 in
theorem rwords_any (A : Option Addr) (c : Nat) (l : List (List UInt8)) (w : World) (hA : Rd w A (l.map strV)) (hl : l.length ≤ 32768) :
    Calls Tryz.prog 58 #[.slice A l.length c] w fun e w' => ∃ A' c', e = .returned (.slice A' (wordsT l).length c') ∧ NewO w w' 9 1 A' (wordsT l).length c' ((wordsT l).map strV) := by
  have hli : (l.length : Int) ≤ 32768 := by omega
  have HA := Lib.hid hA
  have HE : Hid (wordsT l = wordsTo l l.length) := Lib.hid rfl
  have HLn := Lib.hid (wordsTo_len l)
  have HRi := Lib.hid (wordsTo_rises l)
  generalize wordsT l = R at *
  clear hA
  go_enter Tryz.func58, Tryz.ntmps58
  go_wp2
  go_loopw [3, 4] (fun o i wr => ∃ (k : Nat) (O : List (List UInt8)) (B : Option Addr) (cB n : Nat), k ≤ l.length ∧ i = .int .i64 (k : Int) ∧ o = .slice B n cB ∧ Hid (n = O.length) ∧ Hid (O = wordsTo l k) ∧ Hid (NewO w wr 9 1 B n cB (O.map strV))) (fun _ i _ => l.length - (intOf i).toNat)
  case atStart => exact ⟨0, [], none, 0, 0, Nat.zero_le _, rfl, rfl, Lib.hid rfl, Lib.hid rfl, Lib.hid (NewO.start _ _ _)⟩
  case round =>
    obtain ⟨k, O, B, cB, n, hk, rfl, rfl, Hn, HO, HN⟩ := hrel
    by_cases hlt : k < l.length
    · have hki : (k : Int) < (l.length : Int) := by omega
      have Hnl : Hid (n ≤ 32768) := Lib.hid (by have := HLn.out k; rw [← HO.out, ← Hn.out] at this; omega)
      have hri : RisesT O := by rw [HO.out]; exact HRi.out k
      obtain ⟨ad, hB, hcell⟩ := rd_str (HA.out.ext HN.out.bel) hlt
      subst hB
      have Hsn : Hid (wordsTo l (k + 1) = insT O l[k]) := Lib.hid (by
        rw [wordsTo, HO.out, List.getD_eq_getElem?_getD, List.getElem?_eq_getElem hlt]
        rfl)
      generalize l[k] = s at *
      have HPl := Lib.hid (rplace_any B cB O s wr HN.out.rd hri.calm (by have := Hnl.out; have := Hn.out; omega))
      have hmem := placeT_mem (s := s) hri
      have hple := placeT_le O s
      have Hins : Hid (s ∉ O → insT O s = O.take (placeT O s) ++ s :: O.drop (placeT O s)) := Lib.hid insT_out
      have Hin2 : Hid (s ∈ O → insT O s = O) := Lib.hid insT_in
      rw [← Hn.out] at HPl hple
      have HX : Hid (∀ W, Below wr.heap.size wr W → W.cell? (ad.add k) = some (strV s)) := Lib.hid (fun W hW => cell_only hcell (Only.of_ext (S := fun _ => False) hW) (fun h => h))
      have hnl : (n : Int) ≤ 32768 := by have := Hnl.out; omega
      generalize placeT O s = P at *
      have hPi : (P : Int) ≤ (n : Int) := by omega
      by_cases hin : s ∈ O
      · obtain ⟨hpl, hps⟩ := hmem.2 hin
        have hpn : P < n := by have := Hn.out; omega
        have hpni : (P : Int) < (n : Int) := by omega
        obtain ⟨ad2, hB2, hcell2⟩ := rd_str HN.out.rd hpl
        subst hB2
        rw [hps] at hcell2
        have Hk1 : Hid (O = wordsTo l (k + 1)) := Lib.hid (by rw [Hsn.out, Hin2.out hin])
        obtain ⟨Z, hZ⟩ : ∃ Z : ByteArray, strV s = .string Z := ⟨_, rfl⟩
        rw [hZ] at hcell hcell2 HPl HX
        have hcl := HX.out wr (Below.refl _ _)
        clear hmem hri hpl hps hin Hins Hin2 Hsn hple hZ
        go_wp2_with fail
        refine HPl.out.mono ?_
        rintro e w' ⟨rfl, rfl⟩
        go_wp2_with fail
        go_quiet (fail)
        go_wp2
        go_roundw
        case rel => exact ⟨k + 1, O, some ad2, cB, n, by omega, by go_num, rfl, Hn, Hk1, Lib.hid (HN.out.ext (below_drewN_ _ _))⟩
        case measure => simp [intOf]; omega
      · have Hk1 : Hid (wordsTo l (k + 1) = O.take P ++ s :: O.drop P) := Lib.hid (by rw [Hsn.out, Hins.out hin])
        have hPO : P ≤ O.length := by have := Hn.out; omega
        have HPO := Lib.hid hPO
        have htl : (O.take P).length = P := by rw [List.length_take]; omega
        have hdl : (O.drop P).length = n - P := by rw [List.length_drop, Hn.out]
        obtain ⟨L1, hL1⟩ : ∃ L1, O.take P = L1 := ⟨_, rfl⟩
        obtain ⟨L2, hL2⟩ : ∃ L2, O.drop P = L2 := ⟨_, rfl⟩
        have HT1 : Hid (∀ W, Below wr.heap.size wr W → Rd W B (L1.map strV)) := Lib.hid (fun W hW => by
          have := (HN.out.rd.ext hW).take P
          rw [← List.map_take, hL1] at this
          exact this)
        have HT2 : Hid (∀ W, Below wr.heap.size wr W → Rd W (if cB = P then B else B.map (·.add (P * 1))) (L2.map strV)) := Lib.hid (fun W hW => by
          have := Rd.cut (HN.out.rd.ext hW) (k := P) (cap := cB) (by rw [List.length_map, ← Hn.out]; exact HN.out.row.le)
          rw [← List.map_drop, hL2] at this
          exact this)
        rw [hL1] at htl Hk1
        rw [hL2] at hdl Hk1
        have Hl1 := Lib.hid htl
        have Hl2 := Lib.hid hdl
        have hne : ∀ hpl : P < O.length, O[P] ≠ s := fun hpl h => hin (by rw [← h]; exact List.getElem_mem _)
        have Hne := Lib.hid hne
        have Hcap : Hid (n ≤ cB) := Lib.hid HN.out.row.le
        have hBn : B = none → n = 0 ∧ cB = 0 := fun e => by
          rcases HN.out.row.2 with ⟨_, h1, h2⟩ | ⟨_, _, _, h1, _⟩
          · exact ⟨h1, h2⟩
          · rw [e] at h1; cases h1
        have HBn := Lib.hid hBn
        obtain ⟨Z, hZ⟩ : ∃ Z : ByteArray, strV s = .string Z := ⟨_, rfl⟩
        have HZ := Lib.hid hZ
        have hcell0 := hcell
        rw [hZ] at hcell HPl HX
        clear hmem hri hin Hins Hin2 Hsn hple hL1 hL2 htl hdl hne hBn hPO hcell0
        have hp1 : 0 + P ≤ maxLen := by unfold maxLen; have := Hnl.out; omega
        have hp2 : (0 + P) * 16 ≤ 140737488355328 := by have := Hnl.out; omega
        have hp3 : P + 1 ≤ maxLen := by unfold maxLen; have := Hnl.out; omega
        have hp4 : (P + 1) * 16 ≤ 140737488355328 := by have := Hnl.out; omega
        have hp5 : P + 1 + (n - P) ≤ maxLen := by unfold maxLen; have := Hnl.out; omega
        have hp6 : (P + 1 + (n - P)) * 16 ≤ 140737488355328 := by have := Hnl.out; omega
        have hwp : IntKind.i64.wrap (P : Int) = (P : Int) := IntWalk.i64_in _ (by omega)
        have hpc : P ≤ cB := by have := Hcap.out; omega
        go_wp2_with fail
        refine HPl.out.mono ?_
        rintro e w' ⟨rfl, rfl⟩
        clear HPl hZ
        -- whether a text stands at the place
        by_cases hpn : P < n
        · have hpni : (P : Int) < (n : Int) := by omega
          obtain ⟨ad2, hB2, hcell2⟩ := rd_str HN.out.rd (by have := Hn.out; omega : P < O.length)
          subst hB2
          obtain ⟨Y, Z', e1, e2, hc⟩ := str_cases (O[P]'(by have := Hn.out; omega)) s
          rw [HZ.out] at e2
          injection e2 with e2
          subst e2
          rw [e1] at hcell2
          have hf : (Y.toList == Z.toList) = false := by
            rcases hc with ⟨h, _⟩ | ⟨_, h⟩
            · exact absurd h (Hne.out _)
            · exact h
          have hcl := HX.out wr (Below.refl _ _)
          clear e1 hc
          go_wp2_with fail
          go_quiet (fail)
          obtain ⟨w0, hw0⟩ : ∃ w0, w0 = wr.drewN nq := ⟨_, rfl⟩
          have Hb0 : Hid (Below wr.heap.size wr w0) := Lib.hid (by rw [hw0]; exact below_drewN_ _ _)
          rw [← hw0]
          clear hw0 hcell hcell2 hcl
          have hcell := HX.out w0 Hb0.out
          go_wp2_with fail
          refine wp_region_held_drew (S := fun W => W.cell? (ad.add k) = some (.string Z)) (by kernel_rfl) ?_ (fun hHeld => ?_)
          · exact HX.out _ (ext_trans Hb0.out (by repeat (first | exact Below.refl _ _ | apply ext_drew)))
          refine wpAnyH_take (i := 1) (v := ?_) (take_list rfl) (by kernel_rfl) (by kernel_rfl) (by kernel_rfl) (fun _ _ _ h => h) (Or.inl ⟨by rfl, ?_⟩) (by assumption) ?_
          rotate_left
          · intro w hSw
            try dsimp only at hSw
            first | (go_simp; done) | (go_simp; with_reducible rfl)
          try simp only [Act.put, List.setIfInBounds_toArray, List.set_cons_zero, List.set_cons_succ]
          refine wpAnyH_take (i := 2) (v := ?_) (take_list rfl) (by kernel_rfl) (by kernel_rfl) (by kernel_rfl) (fun _ _ _ h => h) (Or.inl ⟨by rfl, ?_⟩) (by assumption) ?_
          rotate_left
          · intro w hSw
            try dsimp only at hSw
            first | (go_simp; done) | (go_simp; with_reducible rfl)
          try simp only [Act.put, List.setIfInBounds_toArray, List.set_cons_zero, List.set_cons_succ]
          refine wpAnyH_take (i := 3) (v := ?_) (take_list rfl) (by kernel_rfl) (by kernel_rfl) (by kernel_rfl) (fun _ _ _ h => h) (Or.inl ⟨by rfl, ?_⟩) (by assumption) ?_
          rotate_left
          · intro w hSw
            try dsimp only at hSw
            first | (go_simp; done) | (go_simp; with_reducible rfl)
          try simp only [Act.put, List.setIfInBounds_toArray, List.set_cons_zero, List.set_cons_succ]
          refine wpAnyH_take (i := 5) (v := ?_) (take_list rfl) (by kernel_rfl) (by kernel_rfl) (by kernel_rfl) (fun _ _ _ h => h) (Or.inl ⟨by rfl, ?_⟩) (by assumption) ?_
          rotate_left
          · intro w hSw
            try dsimp only at hSw
            first | (go_simp; done) | (go_simp; with_reducible rfl)
          try simp only [Act.put, List.setIfInBounds_toArray, List.set_cons_zero, List.set_cons_succ]
          refine wpAnyH_take (i := 6) (v := ?_) (take_list rfl) (by kernel_rfl) (by kernel_rfl) (by kernel_rfl) (fun _ _ _ h => h) (Or.inl ⟨by rfl, ?_⟩) (by assumption) ?_
          rotate_left
          · intro w hSw
            try dsimp only at hSw
            first | (go_simp; done) | (go_simp; with_reducible rfl)
          try simp only [Act.put, List.setIfInBounds_toArray, List.set_cons_zero, List.set_cons_succ]
          refine wpAnyH_take (i := 7) (v := ?_) (take_list rfl) (by kernel_rfl) (by kernel_rfl) (by kernel_rfl) (fun _ _ _ h => h) (Or.inl ⟨by rfl, ?_⟩) (by assumption) ?_
          rotate_left
          · intro w hSw
            try dsimp only at hSw
            first | (go_simp; done) | (go_simp; with_reducible rfl)
          try simp only [Act.put, List.setIfInBounds_toArray, List.set_cons_zero, List.set_cons_succ]
          refine wpAnyH_take (i := 8) (v := ?_) (take_list rfl) (by kernel_rfl) (by kernel_rfl) (by kernel_rfl) (fun _ _ _ h => h) (Or.inl ⟨by rfl, ?_⟩) (by assumption) ?_
          rotate_left
          · intro w hSw
            try dsimp only at hSw
            first | (go_simp; done) | (go_simp; with_reducible rfl)
          try simp only [Act.put, List.setIfInBounds_toArray, List.set_cons_zero, List.set_cons_succ]
          refine wpAnyH_ready (rs := [0, 9]) (by kernel_rfl) (by simp) ?_
          refine AllReadyH.cons (take_list rfl) (fun K hK => ?_) ?_
          · skip
            go_simp
            refine hK.out _ _ ?_ (fun hHeld => ?_)
            · try dsimp only
              exact HX.out _ (ext_trans Hb0.out (by repeat (first | exact Below.refl _ _ | exact Hx4.out | exact Hx5.out | apply ext_drew | apply ext_drewN | apply ext_alloc)))
            clear hK K
            refine wpAnyH_ready (rs := [4, 9]) (by kernel_rfl) (by simp) ?_
            refine AllReadyH.cons (take_list rfl) (fun K hK => ?_) ?_
            · skip
              refine step_appO _ rfl (.tmp 34) (.tmp 37) _ rfl 9 _ 1 16 Tryz.underlying45 info_str rfl (some ⟨_, 0, none⟩) 0 0 [] rfl ((RowO.lit _ 9 1 0 #[] rfl (Nat.zero_le _) (by first | rfl | simp))) (some ad2) P _ (L1.map strV) rfl (by rw [List.length_map, Hl1.out, Nat.mul_one]) (HT1.out _ (ext_trans Hb0.out (by repeat (first | exact Below.refl _ _ | exact Hx4.out | apply ext_drew | apply ext_drewN | apply ext_alloc)))) (strVs_one _) (by intro h; have := HBn.out h; omega) hp1 hp2 ?_
              intro A4 c4 w4 hr4 ho4 hA4
              rw [Nat.zero_add, List.nil_append] at hr4
              obtain ⟨hx4, hn4⟩ := grow_fresh (w0 := w0) (by repeat (first | exact Below.refl _ _ | exact Hx4.out | apply ext_drew | apply ext_drewN | apply ext_alloc)) ho4 hA4 (fun q hq => by rw [inA_some] at hq; subst hq; first | exact Nat.le_refl _ | simp)
              have Hx4 := Lib.hid hx4
              have Hn4 := Lib.hid hn4
              clear hx4 hn4
              have Hr4 := Lib.hid hr4
              clear hr4 ho4 hA4
              refine hK.out _ _ ?_ (fun hHeld => ?_)
              · try dsimp only
                exact HX.out _ (ext_trans Hb0.out (by repeat (first | exact Below.refl _ _ | exact Hx4.out | exact Hx5.out | apply ext_drew | apply ext_drewN | apply ext_alloc)))
              clear hK K
              refine wpAnyH_ready (rs := [9]) (by kernel_rfl) (by simp) ?_
              refine AllReadyH.cons (take_list rfl) (fun K hK => ?_) ?_
              · skip
                go_simp
                refine hK.out _ _ ?_ (fun hHeld => ?_)
                · try dsimp only
                  exact HX.out _ (ext_trans Hb0.out (by repeat (first | exact Below.refl _ _ | exact Hx4.out | exact Hx5.out | apply ext_drew | apply ext_drewN | apply ext_alloc)))
                clear hK K
                refine wpAnyH_ready (rs := [10]) (by kernel_rfl) (by simp) ?_
                refine AllReadyH.cons (take_list rfl) (fun K hK => ?_) ?_
                · skip
                  refine step_appO _ rfl (.tmp 38) (.tmp 43) _ rfl 9 _ 1 16 Tryz.underlying45 info_str rfl A4 P c4 (L1.map strV) rfl (Hr4.out.alloc _) (some ⟨_, 0, none⟩) 1 1 [.string Z] rfl rfl (Rd.lit_at _ #[.string Z] _ (by first | rfl | simp)) (by intro u hu; simp at hu; rw [hu]; rfl) (by intro h; cases h) hp3 hp4 ?_
                  intro A5 c5 w5 hr5 ho5 hA5
                  obtain ⟨hx5, hn5⟩ := grow_fresh (w0 := w0) (by repeat (first | exact Below.refl _ _ | exact Hx4.out | apply ext_drew | apply ext_drewN | apply ext_alloc)) ho5 hA5 (fun q hq => Hn4.out q hq)
                  have Hx5 := Lib.hid hx5
                  have Hn5 := Lib.hid hn5
                  clear hx5 hn5
                  have Hr5 := Lib.hid hr5
                  clear hr5 ho5 hA5
                  refine hK.out _ _ ?_ (fun hHeld => ?_)
                  · try dsimp only
                    exact HX.out _ (ext_trans Hb0.out (by repeat (first | exact Below.refl _ _ | exact Hx4.out | exact Hx5.out | apply ext_drew | apply ext_drewN | apply ext_alloc)))
                  clear hK K
                  refine wpAnyH_take (i := 11) (v := ?_) (take_list rfl) (by kernel_rfl) (by kernel_rfl) (by kernel_rfl) (fun _ _ _ h => h) (Or.inl ⟨by rfl, ?_⟩) (by assumption) ?_
                  rotate_left
                  · intro w hSw
                    try dsimp only at hSw
                    first | (go_simp; done) | (go_simp; with_reducible rfl)
                  try simp only [Act.put, List.setIfInBounds_toArray, List.set_cons_zero, List.set_cons_succ]
                  refine wpAnyH_done (by kernel_rfl) ?_ _
                  have Hrow5 : Hid (RowO w5 9 1 A5 (P + 1) c5 ((L1 ++ [s]).map strV)) := Lib.hid (by rw [List.map_append, List.map_singleton, HZ.out]; exact Hr5.out)
                  have HT5 := Lib.hid (HT2.out w5 (ext_trans Hb0.out Hx5.out))
                  have hcp : ¬ cB = P := by have := Hcap.out; omega
                  have hcp2 : ¬ P = cB := fun h => hcp h.symm
                  rw [if_neg hcp] at HT5
                  have HT6 : Hid (Rd w5 (some (ad2.add P)) (L2.map strV)) := Lib.hid (by have h := HT5.out; rw [Nat.mul_one] at h; exact h)
                  clear HT5
                  go_wp2_with (at_builtin
                               refine wpList_appO _ rfl (.tmp 45) (.tmp 48) _ rfl 9 _ 1 16 Tryz.underlying45 info_str rfl A5 (P + 1) c5 _ rfl Hrow5.out (some (ad2.add P)) (n - P) _ (L2.map strV) rfl (by rw [List.length_map, Hl2.out, Nat.mul_one]) HT6.out (strVs_one _) (by intro h; cases h) hp5 hp6 ?_
                               intro A7 c7 w7 hr7 ho7 hA7
                               have Hr7 := Lib.hid hr7
                               have Ho7 := Lib.hid ho7
                               have HA7 := Lib.hid hA7
                               clear hr7 ho7 hA7)
                  go_roundw
                  case rel => exact ⟨k + 1, L1 ++ s :: L2, A7, c7, P + 1 + (n - P), by omega, by go_num, rfl, Lib.hid (by rw [List.length_append, List.length_cons, Hl1.out, Hl2.out]; omega), Lib.hid Hk1.out.symm, Lib.hid (words_grow HN.out Hb0.out Hx5.out Hn5.out Hr7.out Ho7.out HA7.out)⟩
                  case measure => simp [intOf]; omega
                exact AllReadyH.nil
              exact AllReadyH.nil
            refine AllReadyH.cons (take_list rfl) (fun K hK => ?_) ?_
            · skip
              go_simp
              refine hK.out _ _ ?_ (fun hHeld => ?_)
              · try dsimp only
                exact HX.out _ (ext_trans Hb0.out (by repeat (first | exact Below.refl _ _ | exact Hx4.out | exact Hx5.out | apply ext_drew | apply ext_drewN | apply ext_alloc)))
              clear hK K
              refine wpAnyH_ready (rs := [4]) (by kernel_rfl) (by simp) ?_
              refine AllReadyH.cons (take_list rfl) (fun K hK => ?_) ?_
              · skip
                refine step_appO _ rfl (.tmp 34) (.tmp 37) _ rfl 9 _ 1 16 Tryz.underlying45 info_str rfl (some ⟨_, 0, none⟩) 0 0 [] rfl (by first | exact (RowO.lit _ 9 1 0 #[] rfl (Nat.zero_le _) (by first | rfl | simp)).alloc _ | exact ((RowO.lit _ 9 1 0 #[] rfl (Nat.zero_le _) (by first | rfl | simp)).alloc _).drew) (some ad2) P _ (L1.map strV) rfl (by rw [List.length_map, Hl1.out, Nat.mul_one]) (HT1.out _ (ext_trans Hb0.out (by repeat (first | exact Below.refl _ _ | exact Hx4.out | apply ext_drew | apply ext_drewN | apply ext_alloc)))) (strVs_one _) (by intro h; have := HBn.out h; omega) hp1 hp2 ?_
                intro A4 c4 w4 hr4 ho4 hA4
                rw [Nat.zero_add, List.nil_append] at hr4
                obtain ⟨hx4, hn4⟩ := grow_fresh (w0 := w0) (by repeat (first | exact Below.refl _ _ | exact Hx4.out | apply ext_drew | apply ext_drewN | apply ext_alloc)) ho4 hA4 (fun q hq => by rw [inA_some] at hq; subst hq; first | exact Nat.le_refl _ | simp)
                have Hx4 := Lib.hid hx4
                have Hn4 := Lib.hid hn4
                clear hx4 hn4
                have Hr4 := Lib.hid hr4
                have Hlt : Hid (Rd w4 (some ⟨w0.heap.size + 1, 0, none⟩) [.string Z]) := Lib.hid (Rd.only (by first | exact Rd.lit_at _ #[.string Z] _ (by first | rfl | simp) | exact Rd.drew (Rd.lit_at _ #[.string Z] _ (by first | rfl | simp)) | exact Rd.alloc (Rd.lit_at _ #[.string Z] _ (by first | rfl | simp)) _ | exact Rd.drew (Rd.alloc (Rd.lit_at _ #[.string Z] _ (by first | rfl | simp)) _)) ho4 (fun ad e _ hq => by injection e with e; subst e; rw [inA_some] at hq; simp at hq))
                clear hr4 ho4 hA4
                refine hK.out _ _ ?_ (fun hHeld => ?_)
                · try dsimp only
                  exact HX.out _ (ext_trans Hb0.out (by repeat (first | exact Below.refl _ _ | exact Hx4.out | exact Hx5.out | apply ext_drew | apply ext_drewN | apply ext_alloc)))
                clear hK K
                refine wpAnyH_ready (rs := [10]) (by kernel_rfl) (by simp) ?_
                refine AllReadyH.cons (take_list rfl) (fun K hK => ?_) ?_
                · skip
                  simp only [Nat.zero_add]
                  refine step_appO _ rfl (.tmp 38) (.tmp 43) _ rfl 9 _ 1 16 Tryz.underlying45 info_str rfl A4 P c4 (L1.map strV) rfl (Hr4.out) (some ⟨_, 0, none⟩) 1 1 [.string Z] rfl rfl (Hlt.out) (by intro u hu; simp at hu; rw [hu]; rfl) (by intro h; cases h) hp3 hp4 ?_
                  intro A5 c5 w5 hr5 ho5 hA5
                  obtain ⟨hx5, hn5⟩ := grow_fresh (w0 := w0) (by repeat (first | exact Below.refl _ _ | exact Hx4.out | apply ext_drew | apply ext_drewN | apply ext_alloc)) ho5 hA5 (fun q hq => Hn4.out q hq)
                  have Hx5 := Lib.hid hx5
                  have Hn5 := Lib.hid hn5
                  clear hx5 hn5
                  have Hr5 := Lib.hid hr5
                  clear hr5 ho5 hA5
                  refine hK.out _ _ ?_ (fun hHeld => ?_)
                  · try dsimp only
                    exact HX.out _ (ext_trans Hb0.out (by repeat (first | exact Below.refl _ _ | exact Hx4.out | exact Hx5.out | apply ext_drew | apply ext_drewN | apply ext_alloc)))
                  clear hK K
                  refine wpAnyH_take (i := 11) (v := ?_) (take_list rfl) (by kernel_rfl) (by kernel_rfl) (by kernel_rfl) (fun _ _ _ h => h) (Or.inl ⟨by rfl, ?_⟩) (by assumption) ?_
                  rotate_left
                  · intro w hSw
                    try dsimp only at hSw
                    first | (go_simp; done) | (go_simp; with_reducible rfl)
                  try simp only [Act.put, List.setIfInBounds_toArray, List.set_cons_zero, List.set_cons_succ]
                  refine wpAnyH_done (by kernel_rfl) ?_ _
                  have Hrow5 : Hid (RowO w5 9 1 A5 (P + 1) c5 ((L1 ++ [s]).map strV)) := Lib.hid (by rw [List.map_append, List.map_singleton, HZ.out]; exact Hr5.out)
                  have HT5 := Lib.hid (HT2.out w5 (ext_trans Hb0.out Hx5.out))
                  have hcp : ¬ cB = P := by have := Hcap.out; omega
                  have hcp2 : ¬ P = cB := fun h => hcp h.symm
                  rw [if_neg hcp] at HT5
                  have HT6 : Hid (Rd w5 (some (ad2.add P)) (L2.map strV)) := Lib.hid (by have h := HT5.out; rw [Nat.mul_one] at h; exact h)
                  clear HT5
                  go_wp2_with (at_builtin
                               refine wpList_appO _ rfl (.tmp 45) (.tmp 48) _ rfl 9 _ 1 16 Tryz.underlying45 info_str rfl A5 (P + 1) c5 _ rfl Hrow5.out (some (ad2.add P)) (n - P) _ (L2.map strV) rfl (by rw [List.length_map, Hl2.out, Nat.mul_one]) HT6.out (strVs_one _) (by intro h; cases h) hp5 hp6 ?_
                               intro A7 c7 w7 hr7 ho7 hA7
                               have Hr7 := Lib.hid hr7
                               have Ho7 := Lib.hid ho7
                               have HA7 := Lib.hid hA7
                               clear hr7 ho7 hA7)
                  go_roundw
                  case rel => exact ⟨k + 1, L1 ++ s :: L2, A7, c7, P + 1 + (n - P), by omega, by go_num, rfl, Lib.hid (by rw [List.length_append, List.length_cons, Hl1.out, Hl2.out]; omega), Lib.hid Hk1.out.symm, Lib.hid (words_grow HN.out Hb0.out Hx5.out Hn5.out Hr7.out Ho7.out HA7.out)⟩
                  case measure => simp [intOf]; omega
                exact AllReadyH.nil
              exact AllReadyH.nil
            exact AllReadyH.nil
          refine AllReadyH.cons (take_list rfl) (fun K hK => ?_) ?_
          · skip
            go_simp
            refine hK.out _ _ ?_ (fun hHeld => ?_)
            · try dsimp only
              exact HX.out _ (ext_trans Hb0.out (by repeat (first | exact Below.refl _ _ | exact Hx4.out | exact Hx5.out | apply ext_drew | apply ext_drewN | apply ext_alloc)))
            clear hK K
            refine wpAnyH_ready (rs := [0]) (by kernel_rfl) (by simp) ?_
            refine AllReadyH.cons (take_list rfl) (fun K hK => ?_) ?_
            · skip
              go_simp
              refine hK.out _ _ ?_ (fun hHeld => ?_)
              · try dsimp only
                exact HX.out _ (ext_trans Hb0.out (by repeat (first | exact Below.refl _ _ | exact Hx4.out | exact Hx5.out | apply ext_drew | apply ext_drewN | apply ext_alloc)))
              clear hK K
              refine wpAnyH_ready (rs := [4]) (by kernel_rfl) (by simp) ?_
              refine AllReadyH.cons (take_list rfl) (fun K hK => ?_) ?_
              · skip
                refine step_appO _ rfl (.tmp 34) (.tmp 37) _ rfl 9 _ 1 16 Tryz.underlying45 info_str rfl (some ⟨_, 0, none⟩) 0 0 [] rfl (by first | exact (RowO.lit _ 9 1 0 #[] rfl (Nat.zero_le _) (by first | rfl | simp)) | exact (RowO.lit _ 9 1 0 #[] rfl (Nat.zero_le _) (by first | rfl | simp)).drew) (some ad2) P _ (L1.map strV) rfl (by rw [List.length_map, Hl1.out, Nat.mul_one]) (HT1.out _ (ext_trans Hb0.out (by repeat (first | exact Below.refl _ _ | exact Hx4.out | apply ext_drew | apply ext_drewN | apply ext_alloc)))) (strVs_one _) (by intro h; have := HBn.out h; omega) hp1 hp2 ?_
                intro A4 c4 w4 hr4 ho4 hA4
                rw [Nat.zero_add, List.nil_append] at hr4
                obtain ⟨hx4, hn4⟩ := grow_fresh (w0 := w0) (by repeat (first | exact Below.refl _ _ | exact Hx4.out | apply ext_drew | apply ext_drewN | apply ext_alloc)) ho4 hA4 (fun q hq => by rw [inA_some] at hq; subst hq; first | exact Nat.le_refl _ | simp)
                have Hx4 := Lib.hid hx4
                have Hn4 := Lib.hid hn4
                clear hx4 hn4
                have Hr4 := Lib.hid hr4
                have Hlt : Hid (Rd w4 (some ⟨w0.heap.size, 0, none⟩) [.string Z]) := Lib.hid (Rd.only (by first | exact Rd.lit_at _ #[.string Z] _ (by first | rfl | simp) | exact Rd.drew (Rd.lit_at _ #[.string Z] _ (by first | rfl | simp)) | exact Rd.alloc (Rd.lit_at _ #[.string Z] _ (by first | rfl | simp)) _ | exact Rd.drew (Rd.alloc (Rd.lit_at _ #[.string Z] _ (by first | rfl | simp)) _)) ho4 (fun ad e _ hq => by injection e with e; subst e; rw [inA_some] at hq; simp at hq))
                clear hr4 ho4 hA4
                refine hK.out _ _ ?_ (fun hHeld => ?_)
                · try dsimp only
                  exact HX.out _ (ext_trans Hb0.out (by repeat (first | exact Below.refl _ _ | exact Hx4.out | exact Hx5.out | apply ext_drew | apply ext_drewN | apply ext_alloc)))
                clear hK K
                refine wpAnyH_ready (rs := [10]) (by kernel_rfl) (by simp) ?_
                refine AllReadyH.cons (take_list rfl) (fun K hK => ?_) ?_
                · skip
                  simp only [Nat.zero_add]
                  refine step_appO _ rfl (.tmp 38) (.tmp 43) _ rfl 9 _ 1 16 Tryz.underlying45 info_str rfl A4 P c4 (L1.map strV) rfl (Hr4.out) (some ⟨_, 0, none⟩) 1 1 [.string Z] rfl rfl (Hlt.out) (by intro u hu; simp at hu; rw [hu]; rfl) (by intro h; cases h) hp3 hp4 ?_
                  intro A5 c5 w5 hr5 ho5 hA5
                  obtain ⟨hx5, hn5⟩ := grow_fresh (w0 := w0) (by repeat (first | exact Below.refl _ _ | exact Hx4.out | apply ext_drew | apply ext_drewN | apply ext_alloc)) ho5 hA5 (fun q hq => Hn4.out q hq)
                  have Hx5 := Lib.hid hx5
                  have Hn5 := Lib.hid hn5
                  clear hx5 hn5
                  have Hr5 := Lib.hid hr5
                  clear hr5 ho5 hA5
                  refine hK.out _ _ ?_ (fun hHeld => ?_)
                  · try dsimp only
                    exact HX.out _ (ext_trans Hb0.out (by repeat (first | exact Below.refl _ _ | exact Hx4.out | exact Hx5.out | apply ext_drew | apply ext_drewN | apply ext_alloc)))
                  clear hK K
                  refine wpAnyH_take (i := 11) (v := ?_) (take_list rfl) (by kernel_rfl) (by kernel_rfl) (by kernel_rfl) (fun _ _ _ h => h) (Or.inl ⟨by rfl, ?_⟩) (by assumption) ?_
                  rotate_left
                  · intro w hSw
                    try dsimp only at hSw
                    first | (go_simp; done) | (go_simp; with_reducible rfl)
                  try simp only [Act.put, List.setIfInBounds_toArray, List.set_cons_zero, List.set_cons_succ]
                  refine wpAnyH_done (by kernel_rfl) ?_ _
                  have Hrow5 : Hid (RowO w5 9 1 A5 (P + 1) c5 ((L1 ++ [s]).map strV)) := Lib.hid (by rw [List.map_append, List.map_singleton, HZ.out]; exact Hr5.out)
                  have HT5 := Lib.hid (HT2.out w5 (ext_trans Hb0.out Hx5.out))
                  have hcp : ¬ cB = P := by have := Hcap.out; omega
                  have hcp2 : ¬ P = cB := fun h => hcp h.symm
                  rw [if_neg hcp] at HT5
                  have HT6 : Hid (Rd w5 (some (ad2.add P)) (L2.map strV)) := Lib.hid (by have h := HT5.out; rw [Nat.mul_one] at h; exact h)
                  clear HT5
                  go_wp2_with (at_builtin
                               refine wpList_appO _ rfl (.tmp 45) (.tmp 48) _ rfl 9 _ 1 16 Tryz.underlying45 info_str rfl A5 (P + 1) c5 _ rfl Hrow5.out (some (ad2.add P)) (n - P) _ (L2.map strV) rfl (by rw [List.length_map, Hl2.out, Nat.mul_one]) HT6.out (strVs_one _) (by intro h; cases h) hp5 hp6 ?_
                               intro A7 c7 w7 hr7 ho7 hA7
                               have Hr7 := Lib.hid hr7
                               have Ho7 := Lib.hid ho7
                               have HA7 := Lib.hid hA7
                               clear hr7 ho7 hA7)
                  go_roundw
                  case rel => exact ⟨k + 1, L1 ++ s :: L2, A7, c7, P + 1 + (n - P), by omega, by go_num, rfl, Lib.hid (by rw [List.length_append, List.length_cons, Hl1.out, Hl2.out]; omega), Lib.hid Hk1.out.symm, Lib.hid (words_grow HN.out Hb0.out Hx5.out Hn5.out Hr7.out Ho7.out HA7.out)⟩
                  case measure => simp [intOf]; omega
                exact AllReadyH.nil
              exact AllReadyH.nil
            exact AllReadyH.nil
          exact AllReadyH.nil
        · have hpni : ¬ (P : Int) < (n : Int) := by omega
          go_wp2_with fail
          go_quiet (fail)
          obtain ⟨w0, hw0⟩ : ∃ w0, w0 = wr.drewN nq := ⟨_, rfl⟩
          have Hb0 : Hid (Below wr.heap.size wr w0) := Lib.hid (by rw [hw0]; exact below_drewN_ _ _)
          rw [← hw0]
          clear hw0 hcell
          have hcell := HX.out w0 Hb0.out
          go_wp2_with fail
          refine wp_region_held_drew (S := fun W => W.cell? (ad.add k) = some (.string Z)) (by kernel_rfl) ?_ (fun hHeld => ?_)
          · exact HX.out _ (ext_trans Hb0.out (by repeat (first | exact Below.refl _ _ | apply ext_drew)))
          refine wpAnyH_take (i := 1) (v := ?_) (take_list rfl) (by kernel_rfl) (by kernel_rfl) (by kernel_rfl) (fun _ _ _ h => h) (Or.inl ⟨by rfl, ?_⟩) (by assumption) ?_
          rotate_left
          · intro w hSw
            try dsimp only at hSw
            first | (go_simp; done) | (go_simp; with_reducible rfl)
          try simp only [Act.put, List.setIfInBounds_toArray, List.set_cons_zero, List.set_cons_succ]
          refine wpAnyH_take (i := 2) (v := ?_) (take_list rfl) (by kernel_rfl) (by kernel_rfl) (by kernel_rfl) (fun _ _ _ h => h) (Or.inl ⟨by rfl, ?_⟩) (by assumption) ?_
          rotate_left
          · intro w hSw
            try dsimp only at hSw
            first | (go_simp; done) | (go_simp; with_reducible rfl)
          try simp only [Act.put, List.setIfInBounds_toArray, List.set_cons_zero, List.set_cons_succ]
          refine wpAnyH_take (i := 3) (v := ?_) (take_list rfl) (by kernel_rfl) (by kernel_rfl) (by kernel_rfl) (fun _ _ _ h => h) (Or.inl ⟨by rfl, ?_⟩) (by assumption) ?_
          rotate_left
          · intro w hSw
            try dsimp only at hSw
            first | (go_simp; done) | (go_simp; with_reducible rfl)
          try simp only [Act.put, List.setIfInBounds_toArray, List.set_cons_zero, List.set_cons_succ]
          refine wpAnyH_take (i := 5) (v := ?_) (take_list rfl) (by kernel_rfl) (by kernel_rfl) (by kernel_rfl) (fun _ _ _ h => h) (Or.inl ⟨by rfl, ?_⟩) (by assumption) ?_
          rotate_left
          · intro w hSw
            try dsimp only at hSw
            first | (go_simp; done) | (go_simp; with_reducible rfl)
          try simp only [Act.put, List.setIfInBounds_toArray, List.set_cons_zero, List.set_cons_succ]
          refine wpAnyH_take (i := 6) (v := ?_) (take_list rfl) (by kernel_rfl) (by kernel_rfl) (by kernel_rfl) (fun _ _ _ h => h) (Or.inl ⟨by rfl, ?_⟩) (by assumption) ?_
          rotate_left
          · intro w hSw
            try dsimp only at hSw
            first | (go_simp; done) | (go_simp; with_reducible rfl)
          try simp only [Act.put, List.setIfInBounds_toArray, List.set_cons_zero, List.set_cons_succ]
          refine wpAnyH_take (i := 7) (v := ?_) (take_list rfl) (by kernel_rfl) (by kernel_rfl) (by kernel_rfl) (fun _ _ _ h => h) (Or.inl ⟨by rfl, ?_⟩) (by assumption) ?_
          rotate_left
          · intro w hSw
            try dsimp only at hSw
            first | (go_simp; done) | (go_simp; with_reducible rfl)
          try simp only [Act.put, List.setIfInBounds_toArray, List.set_cons_zero, List.set_cons_succ]
          refine wpAnyH_take (i := 8) (v := ?_) (take_list rfl) (by kernel_rfl) (by kernel_rfl) (by kernel_rfl) (fun _ _ _ h => h) (Or.inl ⟨by rfl, ?_⟩) (by assumption) ?_
          rotate_left
          · intro w hSw
            try dsimp only at hSw
            first | (go_simp; done) | (go_simp; with_reducible rfl)
          try simp only [Act.put, List.setIfInBounds_toArray, List.set_cons_zero, List.set_cons_succ]
          refine wpAnyH_ready (rs := [0, 9]) (by kernel_rfl) (by simp) ?_
          refine AllReadyH.cons (take_list rfl) (fun K hK => ?_) ?_
          · skip
            go_simp
            refine hK.out _ _ ?_ (fun hHeld => ?_)
            · try dsimp only
              exact HX.out _ (ext_trans Hb0.out (by repeat (first | exact Below.refl _ _ | exact Hx4.out | exact Hx5.out | apply ext_drew | apply ext_drewN | apply ext_alloc)))
            clear hK K
            refine wpAnyH_ready (rs := [4, 9]) (by kernel_rfl) (by simp) ?_
            refine AllReadyH.cons (take_list rfl) (fun K hK => ?_) ?_
            · skip
              refine step_appO _ rfl (.tmp 34) (.tmp 37) _ rfl 9 _ 1 16 Tryz.underlying45 info_str rfl (some ⟨_, 0, none⟩) 0 0 [] rfl ((RowO.lit _ 9 1 0 #[] rfl (Nat.zero_le _) (by first | rfl | simp))) B P _ (L1.map strV) rfl (by rw [List.length_map, Hl1.out, Nat.mul_one]) (HT1.out _ (ext_trans Hb0.out (by repeat (first | exact Below.refl _ _ | exact Hx4.out | apply ext_drew | apply ext_drewN | apply ext_alloc)))) (strVs_one _) (by intro h; have := HBn.out h; omega) hp1 hp2 ?_
              intro A4 c4 w4 hr4 ho4 hA4
              rw [Nat.zero_add, List.nil_append] at hr4
              obtain ⟨hx4, hn4⟩ := grow_fresh (w0 := w0) (by repeat (first | exact Below.refl _ _ | exact Hx4.out | apply ext_drew | apply ext_drewN | apply ext_alloc)) ho4 hA4 (fun q hq => by rw [inA_some] at hq; subst hq; first | exact Nat.le_refl _ | simp)
              have Hx4 := Lib.hid hx4
              have Hn4 := Lib.hid hn4
              clear hx4 hn4
              have Hr4 := Lib.hid hr4
              clear hr4 ho4 hA4
              refine hK.out _ _ ?_ (fun hHeld => ?_)
              · try dsimp only
                exact HX.out _ (ext_trans Hb0.out (by repeat (first | exact Below.refl _ _ | exact Hx4.out | exact Hx5.out | apply ext_drew | apply ext_drewN | apply ext_alloc)))
              clear hK K
              refine wpAnyH_ready (rs := [9]) (by kernel_rfl) (by simp) ?_
              refine AllReadyH.cons (take_list rfl) (fun K hK => ?_) ?_
              · skip
                go_simp
                refine hK.out _ _ ?_ (fun hHeld => ?_)
                · try dsimp only
                  exact HX.out _ (ext_trans Hb0.out (by repeat (first | exact Below.refl _ _ | exact Hx4.out | exact Hx5.out | apply ext_drew | apply ext_drewN | apply ext_alloc)))
                clear hK K
                refine wpAnyH_ready (rs := [10]) (by kernel_rfl) (by simp) ?_
                refine AllReadyH.cons (take_list rfl) (fun K hK => ?_) ?_
                · skip
                  refine step_appO _ rfl (.tmp 38) (.tmp 43) _ rfl 9 _ 1 16 Tryz.underlying45 info_str rfl A4 P c4 (L1.map strV) rfl (Hr4.out.alloc _) (some ⟨_, 0, none⟩) 1 1 [.string Z] rfl rfl (Rd.lit_at _ #[.string Z] _ (by first | rfl | simp)) (by intro u hu; simp at hu; rw [hu]; rfl) (by intro h; cases h) hp3 hp4 ?_
                  intro A5 c5 w5 hr5 ho5 hA5
                  obtain ⟨hx5, hn5⟩ := grow_fresh (w0 := w0) (by repeat (first | exact Below.refl _ _ | exact Hx4.out | apply ext_drew | apply ext_drewN | apply ext_alloc)) ho5 hA5 (fun q hq => Hn4.out q hq)
                  have Hx5 := Lib.hid hx5
                  have Hn5 := Lib.hid hn5
                  clear hx5 hn5
                  have Hr5 := Lib.hid hr5
                  clear hr5 ho5 hA5
                  refine hK.out _ _ ?_ (fun hHeld => ?_)
                  · try dsimp only
                    exact HX.out _ (ext_trans Hb0.out (by repeat (first | exact Below.refl _ _ | exact Hx4.out | exact Hx5.out | apply ext_drew | apply ext_drewN | apply ext_alloc)))
                  clear hK K
                  refine wpAnyH_take (i := 11) (v := ?_) (take_list rfl) (by kernel_rfl) (by kernel_rfl) (by kernel_rfl) (fun _ _ _ h => h) (Or.inl ⟨by rfl, ?_⟩) (by assumption) ?_
                  rotate_left
                  · intro w hSw
                    try dsimp only at hSw
                    first | (go_simp; done) | (go_simp; with_reducible rfl)
                  try simp only [Act.put, List.setIfInBounds_toArray, List.set_cons_zero, List.set_cons_succ]
                  refine wpAnyH_done (by kernel_rfl) ?_ _
                  have Hrow5 : Hid (RowO w5 9 1 A5 (P + 1) c5 ((L1 ++ [s]).map strV)) := Lib.hid (by rw [List.map_append, List.map_singleton, HZ.out]; exact Hr5.out)
                  have HT5 := Lib.hid (HT2.out w5 (ext_trans Hb0.out Hx5.out))
                  by_cases hcp : cB = P
                  · have hz1 : cB - P = 0 := by omega
                    have hz2 : n - P = 0 := by have := Hcap.out; omega
                    obtain rfl : L2 = [] := List.eq_nil_of_length_eq_zero (by rw [Hl2.out]; exact hz2)
                    have hq1 : P + 1 + 0 ≤ maxLen := hp3
                    have hq2 : (P + 1 + 0) * 16 ≤ 140737488355328 := hp4
                    have Hnp : Hid (n = P) := Lib.hid (by have := Hcap.out; omega)
                    clear HT5
                    go_wp2_with (at_builtin
                                 refine wpList_appO _ rfl (.tmp 45) (.tmp 48) _ rfl 9 _ 1 16 Tryz.underlying45 info_str rfl A5 (P + 1) c5 _ rfl Hrow5.out B 0 _ [] rfl rfl (Rd.nil _ _) (by simp) (fun _ => rfl) hq1 hq2 ?_
                                 intro A7 c7 w7 hr7 ho7 hA7
                                 have Hr7 := Lib.hid hr7
                                 have Ho7 := Lib.hid ho7
                                 have HA7 := Lib.hid hA7
                                 clear hr7 ho7 hA7)
                    go_roundw
                    case rel => exact ⟨k + 1, L1 ++ s :: [], A7, c7, P + 1, by omega, by go_num, rfl, Lib.hid (by rw [List.length_append, List.length_cons, Hl1.out]; rfl), Lib.hid Hk1.out.symm, Lib.hid (words_grow (L2 := []) HN.out Hb0.out Hx5.out Hn5.out Hr7.out Ho7.out HA7.out)⟩
                    case measure => simp [intOf]; omega
                  · have hcp2 : ¬ P = cB := fun h => hcp h.symm
                    rw [if_neg hcp] at HT5
                    obtain ⟨ad2, hB2⟩ : ∃ ad2, B = some ad2 := by cases B with | none => exact absurd (HBn.out rfl).2 (by omega) | some a => exact ⟨a, rfl⟩
                    subst hB2
                    have HT6 : Hid (Rd w5 (some (ad2.add P)) (L2.map strV)) := Lib.hid (by have h := HT5.out; rw [Nat.mul_one] at h; exact h)
                    clear HT5
                    go_wp2_with (at_builtin
                                 refine wpList_appO _ rfl (.tmp 45) (.tmp 48) _ rfl 9 _ 1 16 Tryz.underlying45 info_str rfl A5 (P + 1) c5 _ rfl Hrow5.out (some (ad2.add P)) (n - P) _ (L2.map strV) rfl (by rw [List.length_map, Hl2.out, Nat.mul_one]) HT6.out (strVs_one _) (by intro h; cases h) hp5 hp6 ?_
                                 intro A7 c7 w7 hr7 ho7 hA7
                                 have Hr7 := Lib.hid hr7
                                 have Ho7 := Lib.hid ho7
                                 have HA7 := Lib.hid hA7
                                 clear hr7 ho7 hA7)
                    go_roundw
                    case rel => exact ⟨k + 1, L1 ++ s :: L2, A7, c7, P + 1 + (n - P), by omega, by go_num, rfl, Lib.hid (by rw [List.length_append, List.length_cons, Hl1.out, Hl2.out]; omega), Lib.hid Hk1.out.symm, Lib.hid (words_grow HN.out Hb0.out Hx5.out Hn5.out Hr7.out Ho7.out HA7.out)⟩
                    case measure => simp [intOf]; omega
                exact AllReadyH.nil
              exact AllReadyH.nil
            refine AllReadyH.cons (take_list rfl) (fun K hK => ?_) ?_
            · skip
              go_simp
              refine hK.out _ _ ?_ (fun hHeld => ?_)
              · try dsimp only
                exact HX.out _ (ext_trans Hb0.out (by repeat (first | exact Below.refl _ _ | exact Hx4.out | exact Hx5.out | apply ext_drew | apply ext_drewN | apply ext_alloc)))
              clear hK K
              refine wpAnyH_ready (rs := [4]) (by kernel_rfl) (by simp) ?_
              refine AllReadyH.cons (take_list rfl) (fun K hK => ?_) ?_
              · skip
                refine step_appO _ rfl (.tmp 34) (.tmp 37) _ rfl 9 _ 1 16 Tryz.underlying45 info_str rfl (some ⟨_, 0, none⟩) 0 0 [] rfl (by first | exact (RowO.lit _ 9 1 0 #[] rfl (Nat.zero_le _) (by first | rfl | simp)).alloc _ | exact ((RowO.lit _ 9 1 0 #[] rfl (Nat.zero_le _) (by first | rfl | simp)).alloc _).drew) B P _ (L1.map strV) rfl (by rw [List.length_map, Hl1.out, Nat.mul_one]) (HT1.out _ (ext_trans Hb0.out (by repeat (first | exact Below.refl _ _ | exact Hx4.out | apply ext_drew | apply ext_drewN | apply ext_alloc)))) (strVs_one _) (by intro h; have := HBn.out h; omega) hp1 hp2 ?_
                intro A4 c4 w4 hr4 ho4 hA4
                rw [Nat.zero_add, List.nil_append] at hr4
                obtain ⟨hx4, hn4⟩ := grow_fresh (w0 := w0) (by repeat (first | exact Below.refl _ _ | exact Hx4.out | apply ext_drew | apply ext_drewN | apply ext_alloc)) ho4 hA4 (fun q hq => by rw [inA_some] at hq; subst hq; first | exact Nat.le_refl _ | simp)
                have Hx4 := Lib.hid hx4
                have Hn4 := Lib.hid hn4
                clear hx4 hn4
                have Hr4 := Lib.hid hr4
                have Hlt : Hid (Rd w4 (some ⟨w0.heap.size + 1, 0, none⟩) [.string Z]) := Lib.hid (Rd.only (by first | exact Rd.lit_at _ #[.string Z] _ (by first | rfl | simp) | exact Rd.drew (Rd.lit_at _ #[.string Z] _ (by first | rfl | simp)) | exact Rd.alloc (Rd.lit_at _ #[.string Z] _ (by first | rfl | simp)) _ | exact Rd.drew (Rd.alloc (Rd.lit_at _ #[.string Z] _ (by first | rfl | simp)) _)) ho4 (fun ad e _ hq => by injection e with e; subst e; rw [inA_some] at hq; simp at hq))
                clear hr4 ho4 hA4
                refine hK.out _ _ ?_ (fun hHeld => ?_)
                · try dsimp only
                  exact HX.out _ (ext_trans Hb0.out (by repeat (first | exact Below.refl _ _ | exact Hx4.out | exact Hx5.out | apply ext_drew | apply ext_drewN | apply ext_alloc)))
                clear hK K
                refine wpAnyH_ready (rs := [10]) (by kernel_rfl) (by simp) ?_
                refine AllReadyH.cons (take_list rfl) (fun K hK => ?_) ?_
                · skip
                  simp only [Nat.zero_add]
                  refine step_appO _ rfl (.tmp 38) (.tmp 43) _ rfl 9 _ 1 16 Tryz.underlying45 info_str rfl A4 P c4 (L1.map strV) rfl (Hr4.out) (some ⟨_, 0, none⟩) 1 1 [.string Z] rfl rfl (Hlt.out) (by intro u hu; simp at hu; rw [hu]; rfl) (by intro h; cases h) hp3 hp4 ?_
                  intro A5 c5 w5 hr5 ho5 hA5
                  obtain ⟨hx5, hn5⟩ := grow_fresh (w0 := w0) (by repeat (first | exact Below.refl _ _ | exact Hx4.out | apply ext_drew | apply ext_drewN | apply ext_alloc)) ho5 hA5 (fun q hq => Hn4.out q hq)
                  have Hx5 := Lib.hid hx5
                  have Hn5 := Lib.hid hn5
                  clear hx5 hn5
                  have Hr5 := Lib.hid hr5
                  clear hr5 ho5 hA5
                  refine hK.out _ _ ?_ (fun hHeld => ?_)
                  · try dsimp only
                    exact HX.out _ (ext_trans Hb0.out (by repeat (first | exact Below.refl _ _ | exact Hx4.out | exact Hx5.out | apply ext_drew | apply ext_drewN | apply ext_alloc)))
                  clear hK K
                  refine wpAnyH_take (i := 11) (v := ?_) (take_list rfl) (by kernel_rfl) (by kernel_rfl) (by kernel_rfl) (fun _ _ _ h => h) (Or.inl ⟨by rfl, ?_⟩) (by assumption) ?_
                  rotate_left
                  · intro w hSw
                    try dsimp only at hSw
                    first | (go_simp; done) | (go_simp; with_reducible rfl)
                  try simp only [Act.put, List.setIfInBounds_toArray, List.set_cons_zero, List.set_cons_succ]
                  refine wpAnyH_done (by kernel_rfl) ?_ _
                  have Hrow5 : Hid (RowO w5 9 1 A5 (P + 1) c5 ((L1 ++ [s]).map strV)) := Lib.hid (by rw [List.map_append, List.map_singleton, HZ.out]; exact Hr5.out)
                  have HT5 := Lib.hid (HT2.out w5 (ext_trans Hb0.out Hx5.out))
                  by_cases hcp : cB = P
                  · have hz1 : cB - P = 0 := by omega
                    have hz2 : n - P = 0 := by have := Hcap.out; omega
                    obtain rfl : L2 = [] := List.eq_nil_of_length_eq_zero (by rw [Hl2.out]; exact hz2)
                    have hq1 : P + 1 + 0 ≤ maxLen := hp3
                    have hq2 : (P + 1 + 0) * 16 ≤ 140737488355328 := hp4
                    have Hnp : Hid (n = P) := Lib.hid (by have := Hcap.out; omega)
                    clear HT5
                    go_wp2_with (at_builtin
                                 refine wpList_appO _ rfl (.tmp 45) (.tmp 48) _ rfl 9 _ 1 16 Tryz.underlying45 info_str rfl A5 (P + 1) c5 _ rfl Hrow5.out B 0 _ [] rfl rfl (Rd.nil _ _) (by simp) (fun _ => rfl) hq1 hq2 ?_
                                 intro A7 c7 w7 hr7 ho7 hA7
                                 have Hr7 := Lib.hid hr7
                                 have Ho7 := Lib.hid ho7
                                 have HA7 := Lib.hid hA7
                                 clear hr7 ho7 hA7)
                    go_roundw
                    case rel => exact ⟨k + 1, L1 ++ s :: [], A7, c7, P + 1, by omega, by go_num, rfl, Lib.hid (by rw [List.length_append, List.length_cons, Hl1.out]; rfl), Lib.hid Hk1.out.symm, Lib.hid (words_grow (L2 := []) HN.out Hb0.out Hx5.out Hn5.out Hr7.out Ho7.out HA7.out)⟩
                    case measure => simp [intOf]; omega
                  · have hcp2 : ¬ P = cB := fun h => hcp h.symm
                    rw [if_neg hcp] at HT5
                    obtain ⟨ad2, hB2⟩ : ∃ ad2, B = some ad2 := by cases B with | none => exact absurd (HBn.out rfl).2 (by omega) | some a => exact ⟨a, rfl⟩
                    subst hB2
                    have HT6 : Hid (Rd w5 (some (ad2.add P)) (L2.map strV)) := Lib.hid (by have h := HT5.out; rw [Nat.mul_one] at h; exact h)
                    clear HT5
                    go_wp2_with (at_builtin
                                 refine wpList_appO _ rfl (.tmp 45) (.tmp 48) _ rfl 9 _ 1 16 Tryz.underlying45 info_str rfl A5 (P + 1) c5 _ rfl Hrow5.out (some (ad2.add P)) (n - P) _ (L2.map strV) rfl (by rw [List.length_map, Hl2.out, Nat.mul_one]) HT6.out (strVs_one _) (by intro h; cases h) hp5 hp6 ?_
                                 intro A7 c7 w7 hr7 ho7 hA7
                                 have Hr7 := Lib.hid hr7
                                 have Ho7 := Lib.hid ho7
                                 have HA7 := Lib.hid hA7
                                 clear hr7 ho7 hA7)
                    go_roundw
                    case rel => exact ⟨k + 1, L1 ++ s :: L2, A7, c7, P + 1 + (n - P), by omega, by go_num, rfl, Lib.hid (by rw [List.length_append, List.length_cons, Hl1.out, Hl2.out]; omega), Lib.hid Hk1.out.symm, Lib.hid (words_grow HN.out Hb0.out Hx5.out Hn5.out Hr7.out Ho7.out HA7.out)⟩
                    case measure => simp [intOf]; omega
                exact AllReadyH.nil
              exact AllReadyH.nil
            exact AllReadyH.nil
          refine AllReadyH.cons (take_list rfl) (fun K hK => ?_) ?_
          · skip
            go_simp
            refine hK.out _ _ ?_ (fun hHeld => ?_)
            · try dsimp only
              exact HX.out _ (ext_trans Hb0.out (by repeat (first | exact Below.refl _ _ | exact Hx4.out | exact Hx5.out | apply ext_drew | apply ext_drewN | apply ext_alloc)))
            clear hK K
            refine wpAnyH_ready (rs := [0]) (by kernel_rfl) (by simp) ?_
            refine AllReadyH.cons (take_list rfl) (fun K hK => ?_) ?_
            · skip
              go_simp
              refine hK.out _ _ ?_ (fun hHeld => ?_)
              · try dsimp only
                exact HX.out _ (ext_trans Hb0.out (by repeat (first | exact Below.refl _ _ | exact Hx4.out | exact Hx5.out | apply ext_drew | apply ext_drewN | apply ext_alloc)))
              clear hK K
              refine wpAnyH_ready (rs := [4]) (by kernel_rfl) (by simp) ?_
              refine AllReadyH.cons (take_list rfl) (fun K hK => ?_) ?_
              · skip
                refine step_appO _ rfl (.tmp 34) (.tmp 37) _ rfl 9 _ 1 16 Tryz.underlying45 info_str rfl (some ⟨_, 0, none⟩) 0 0 [] rfl (by first | exact (RowO.lit _ 9 1 0 #[] rfl (Nat.zero_le _) (by first | rfl | simp)) | exact (RowO.lit _ 9 1 0 #[] rfl (Nat.zero_le _) (by first | rfl | simp)).drew) B P _ (L1.map strV) rfl (by rw [List.length_map, Hl1.out, Nat.mul_one]) (HT1.out _ (ext_trans Hb0.out (by repeat (first | exact Below.refl _ _ | exact Hx4.out | apply ext_drew | apply ext_drewN | apply ext_alloc)))) (strVs_one _) (by intro h; have := HBn.out h; omega) hp1 hp2 ?_
                intro A4 c4 w4 hr4 ho4 hA4
                rw [Nat.zero_add, List.nil_append] at hr4
                obtain ⟨hx4, hn4⟩ := grow_fresh (w0 := w0) (by repeat (first | exact Below.refl _ _ | exact Hx4.out | apply ext_drew | apply ext_drewN | apply ext_alloc)) ho4 hA4 (fun q hq => by rw [inA_some] at hq; subst hq; first | exact Nat.le_refl _ | simp)
                have Hx4 := Lib.hid hx4
                have Hn4 := Lib.hid hn4
                clear hx4 hn4
                have Hr4 := Lib.hid hr4
                have Hlt : Hid (Rd w4 (some ⟨w0.heap.size, 0, none⟩) [.string Z]) := Lib.hid (Rd.only (by first | exact Rd.lit_at _ #[.string Z] _ (by first | rfl | simp) | exact Rd.drew (Rd.lit_at _ #[.string Z] _ (by first | rfl | simp)) | exact Rd.alloc (Rd.lit_at _ #[.string Z] _ (by first | rfl | simp)) _ | exact Rd.drew (Rd.alloc (Rd.lit_at _ #[.string Z] _ (by first | rfl | simp)) _)) ho4 (fun ad e _ hq => by injection e with e; subst e; rw [inA_some] at hq; simp at hq))
                clear hr4 ho4 hA4
                refine hK.out _ _ ?_ (fun hHeld => ?_)
                · try dsimp only
                  exact HX.out _ (ext_trans Hb0.out (by repeat (first | exact Below.refl _ _ | exact Hx4.out | exact Hx5.out | apply ext_drew | apply ext_drewN | apply ext_alloc)))
                clear hK K
                refine wpAnyH_ready (rs := [10]) (by kernel_rfl) (by simp) ?_
                refine AllReadyH.cons (take_list rfl) (fun K hK => ?_) ?_
                · skip
                  simp only [Nat.zero_add]
                  refine step_appO _ rfl (.tmp 38) (.tmp 43) _ rfl 9 _ 1 16 Tryz.underlying45 info_str rfl A4 P c4 (L1.map strV) rfl (Hr4.out) (some ⟨_, 0, none⟩) 1 1 [.string Z] rfl rfl (Hlt.out) (by intro u hu; simp at hu; rw [hu]; rfl) (by intro h; cases h) hp3 hp4 ?_
                  intro A5 c5 w5 hr5 ho5 hA5
                  obtain ⟨hx5, hn5⟩ := grow_fresh (w0 := w0) (by repeat (first | exact Below.refl _ _ | exact Hx4.out | apply ext_drew | apply ext_drewN | apply ext_alloc)) ho5 hA5 (fun q hq => Hn4.out q hq)
                  have Hx5 := Lib.hid hx5
                  have Hn5 := Lib.hid hn5
                  clear hx5 hn5
                  have Hr5 := Lib.hid hr5
                  clear hr5 ho5 hA5
                  refine hK.out _ _ ?_ (fun hHeld => ?_)
                  · try dsimp only
                    exact HX.out _ (ext_trans Hb0.out (by repeat (first | exact Below.refl _ _ | exact Hx4.out | exact Hx5.out | apply ext_drew | apply ext_drewN | apply ext_alloc)))
                  clear hK K
                  refine wpAnyH_take (i := 11) (v := ?_) (take_list rfl) (by kernel_rfl) (by kernel_rfl) (by kernel_rfl) (fun _ _ _ h => h) (Or.inl ⟨by rfl, ?_⟩) (by assumption) ?_
                  rotate_left
                  · intro w hSw
                    try dsimp only at hSw
                    first | (go_simp; done) | (go_simp; with_reducible rfl)
                  try simp only [Act.put, List.setIfInBounds_toArray, List.set_cons_zero, List.set_cons_succ]
                  refine wpAnyH_done (by kernel_rfl) ?_ _
                  have Hrow5 : Hid (RowO w5 9 1 A5 (P + 1) c5 ((L1 ++ [s]).map strV)) := Lib.hid (by rw [List.map_append, List.map_singleton, HZ.out]; exact Hr5.out)
                  have HT5 := Lib.hid (HT2.out w5 (ext_trans Hb0.out Hx5.out))
                  by_cases hcp : cB = P
                  · have hz1 : cB - P = 0 := by omega
                    have hz2 : n - P = 0 := by have := Hcap.out; omega
                    obtain rfl : L2 = [] := List.eq_nil_of_length_eq_zero (by rw [Hl2.out]; exact hz2)
                    have hq1 : P + 1 + 0 ≤ maxLen := hp3
                    have hq2 : (P + 1 + 0) * 16 ≤ 140737488355328 := hp4
                    have Hnp : Hid (n = P) := Lib.hid (by have := Hcap.out; omega)
                    clear HT5
                    go_wp2_with (at_builtin
                                 refine wpList_appO _ rfl (.tmp 45) (.tmp 48) _ rfl 9 _ 1 16 Tryz.underlying45 info_str rfl A5 (P + 1) c5 _ rfl Hrow5.out B 0 _ [] rfl rfl (Rd.nil _ _) (by simp) (fun _ => rfl) hq1 hq2 ?_
                                 intro A7 c7 w7 hr7 ho7 hA7
                                 have Hr7 := Lib.hid hr7
                                 have Ho7 := Lib.hid ho7
                                 have HA7 := Lib.hid hA7
                                 clear hr7 ho7 hA7)
                    go_roundw
                    case rel => exact ⟨k + 1, L1 ++ s :: [], A7, c7, P + 1, by omega, by go_num, rfl, Lib.hid (by rw [List.length_append, List.length_cons, Hl1.out]; rfl), Lib.hid Hk1.out.symm, Lib.hid (words_grow (L2 := []) HN.out Hb0.out Hx5.out Hn5.out Hr7.out Ho7.out HA7.out)⟩
                    case measure => simp [intOf]; omega
                  · have hcp2 : ¬ P = cB := fun h => hcp h.symm
                    rw [if_neg hcp] at HT5
                    obtain ⟨ad2, hB2⟩ : ∃ ad2, B = some ad2 := by cases B with | none => exact absurd (HBn.out rfl).2 (by omega) | some a => exact ⟨a, rfl⟩
                    subst hB2
                    have HT6 : Hid (Rd w5 (some (ad2.add P)) (L2.map strV)) := Lib.hid (by have h := HT5.out; rw [Nat.mul_one] at h; exact h)
                    clear HT5
                    go_wp2_with (at_builtin
                                 refine wpList_appO _ rfl (.tmp 45) (.tmp 48) _ rfl 9 _ 1 16 Tryz.underlying45 info_str rfl A5 (P + 1) c5 _ rfl Hrow5.out (some (ad2.add P)) (n - P) _ (L2.map strV) rfl (by rw [List.length_map, Hl2.out, Nat.mul_one]) HT6.out (strVs_one _) (by intro h; cases h) hp5 hp6 ?_
                                 intro A7 c7 w7 hr7 ho7 hA7
                                 have Hr7 := Lib.hid hr7
                                 have Ho7 := Lib.hid ho7
                                 have HA7 := Lib.hid hA7
                                 clear hr7 ho7 hA7)
                    go_roundw
                    case rel => exact ⟨k + 1, L1 ++ s :: L2, A7, c7, P + 1 + (n - P), by omega, by go_num, rfl, Lib.hid (by rw [List.length_append, List.length_cons, Hl1.out, Hl2.out]; omega), Lib.hid Hk1.out.symm, Lib.hid (words_grow HN.out Hb0.out Hx5.out Hn5.out Hr7.out Ho7.out HA7.out)⟩
                    case measure => simp [intOf]; omega
                exact AllReadyH.nil
              exact AllReadyH.nil
            exact AllReadyH.nil
          exact AllReadyH.nil
    · obtain rfl : k = l.length := by omega
      have hO := HO.out
      rw [← HE.out] at hO
      have HO2 := Lib.hid hO
      clear hO
      go_wp2
      go_ret
      have h1 := HN.out
      rw [Hn.out, HO2.out] at h1
      exact ⟨B, cB, by rw [Hn.out, HO2.out]; rfl, h1⟩
end Go.Proofs.YtpjgkacekelkdaaGreatDoor
