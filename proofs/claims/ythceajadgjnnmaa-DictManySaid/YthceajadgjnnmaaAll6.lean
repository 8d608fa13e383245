/-
  Texts of this claim, joined (part 6): contracts and lemmas that the last text goes by. No statement of the seat is proved here.
-/
import Derived.Test.YthceajadgjnnmaaAll5
set_option linter.unusedVariables false
set_option linter.unusedSimpArgs false
/-
  Where a text stands; each text once (reference). No statement of the seat is proved here.
-/
namespace Go.Proofs.Ythceajadgjnnmaa
open Go Go.RowKit
set_option maxRecDepth 100000

/-- less, as the walk spells it -/
theorem less_cases (x y : List UInt8) : ∃ Y Z : ByteArray, strV x = .string Y ∧ strV y = .string Z ∧ Op.bytesLess Y.toList Z.toList = decide (x < y) :=
  ⟨_, _, rfl, rfl, by rw [Go.Proofs.bytesLess_eq, ByteArray.toList_mk, ByteArray.toList_mk]⟩
set_option maxHeartbeats 4000000 in
theorem rplace_any (A : Option Addr) (c : Nat) (W : List (List UInt8)) (s : List UInt8) (w : World) (hA : Rd w A (W.map strV)) (hs : CalmT W) (hl : W.length ≤ 1000000) :
    Calls Try.prog 58 #[.slice A W.length c, strV s] w fun e w' => e = .returned (.int .i64 (placeT W s : Int)) ∧ w = w' := by
  have hli : (W.length : Int) ≤ 1000000 := by omega
  obtain ⟨h1, h2⟩ := placeT_spec (s := s) hs
  have H1 : Hid (∀ t (ht : t < W.length), W[t] < s → t + 1 ≤ placeT W s) := Lib.hid (fun t ht hlt => by
    rcases Nat.lt_or_ge t (placeT W s) with h | h
    · exact h
    · exact absurd hlt (h2 t ht h))
  have H2 : Hid (∀ t (ht : t < W.length), ¬ W[t] < s → placeT W s ≤ t) := Lib.hid (fun t ht hlt => by
    rcases Nat.lt_or_ge t (placeT W s) with h | h
    · exact absurd (h1 t ht h) hlt
    · exact h)
  have Hp := Lib.hid (placeT_le W s)
  have HA := Lib.hid hA
  have HL : Hid (∀ x : List UInt8, ∃ Y Z : ByteArray, strV x = .string Y ∧ strV s = .string Z ∧ Op.bytesLess Y.toList Z.toList = decide (x < s)) := Lib.hid (fun x => less_cases x s)
  generalize placeT W s = P at *
  obtain ⟨Z, hZ⟩ : ∃ Z : ByteArray, strV s = .string Z := ⟨_, rfl⟩
  have HZ := Lib.hid hZ
  rw [hZ]
  clear hA h1 h2 hs hZ
  go_enter Try.func58, Try.ntmps58
  go_wp2
  go_loop [5, 6] (fun l h => ∃ a b : Nat, l = .int .i64 (a : Int) ∧ h = .int .i64 (b : Int) ∧ Hid (a ≤ P ∧ P ≤ b ∧ b ≤ W.length)) (fun l h => (intOf h).toNat - (intOf l).toNat)
  case atStart => exact ⟨0, W.length, rfl, rfl, Lib.hid ⟨Nat.zero_le _, Hp.out, Nat.le_refl _⟩⟩
  case round =>
    obtain ⟨a, b, rfl, rfl, Hab⟩ := hrel
    have hbl : (b : Int) ≤ 1000000 := by have := Hab.out; omega
    have hal : (a : Int) ≤ 1000000 := by have := Hab.out; omega
    by_cases hlt : a < b
    · have hlti : (a : Int) < (b : Int) := by omega
      obtain ⟨m, hm⟩ : ∃ m, (a + b) / 2 = m := ⟨_, rfl⟩
      have hmb : m < W.length := by have := Hab.out; omega
      have hmi : ((a : Int) + (b : Int)) / 2 = (m : Int) := by omega
      have hmd : ((a : Int) + (b : Int)).tdiv 2 = (m : Int) := by rw [Int.tdiv_eq_ediv_of_nonneg (by omega)]; exact hmi
      have hml : (m : Int) ≤ 1000000 := by have := Hab.out; omega
      have hm2 : (m : Int) < (W.length : Int) := by omega
      have Hm : Hid (a ≤ m ∧ m < b) := Lib.hid (by omega)
      obtain ⟨ad, hB, hcell⟩ := rd_str HA.out hmb
      subst hB
      obtain ⟨Y, Z', e1, e2, hls⟩ := HL.out W[m]
      rw [HZ.out] at e2
      injection e2 with e2
      subst e2
      rw [e1] at hcell
      have hwa : IntKind.i64.wrap ((a : Int) + (b : Int)) = (a : Int) + (b : Int) := IntWalk.i64_in _ (by omega)
      have Hw1 : Hid (W[m] < s → m + 1 ≤ P) := Lib.hid (H1.out m hmb)
      have Hw2 : Hid (¬ W[m] < s → P ≤ m) := Lib.hid (H2.out m hmb)
      clear hm e1
      generalize W[m] = x at *
      by_cases hx : x < s
      · rw [decide_eq_true hx] at hls
        have Hpm := Lib.hid (Hw1.out hx)
        clear hx Hw1 Hw2
        go_wp2
        go_round
        case rel => exact ⟨m + 1, b, by go_num, rfl, Lib.hid (by have := Hab.out; have := Hpm.out; omega)⟩
        case measure => simp [intOf]; have := Hm.out; omega
      · rw [decide_eq_false hx] at hls
        have Hpm := Lib.hid (Hw2.out hx)
        clear hx Hw1 Hw2
        go_wp2
        go_round
        case rel => exact ⟨a, m, rfl, rfl, Lib.hid (by have := Hab.out; have := Hpm.out; have := Hm.out; omega)⟩
        case measure => simp [intOf]; have := Hm.out; omega
    · have hge : ¬ (a : Int) < (b : Int) := by omega
      have hpa : P = a := by have := Hab.out; omega
      have HPa := Lib.hid hpa
      clear hpa
      go_wp2
      go_ret
      exact ⟨by rw [HPa.out]; rfl, rfl⟩

/-! ### each text once -/
theorem insT_in {out : List (List UInt8)} {s : List UInt8} (h : s ∈ out) : insT out s = out := if_pos h
theorem insT_out {out : List (List UInt8)} {s : List UInt8} (h : s ∉ out) : insT out s = out.take (placeT out s) ++ s :: out.drop (placeT out s) := if_neg h
theorem grow_fresh {w0 X w4 : World} {A A4 : Option Addr} (hb : Below w0.heap.size w0 X) (ho : Only (inA A) X w4) (hA : ∀ q, inA A4 q → inA A q ∨ (X.heap.size ≤ q ∧ q < w4.heap.size)) (hn : ∀ q, inA A q → w0.heap.size ≤ q) : Below w0.heap.size w0 w4 ∧ ∀ q, inA A4 q → w0.heap.size ≤ q :=
  ⟨hb.trans (ho.below hn hb.size), fun q hq => (hA q hq).elim (hn q) (fun h => Nat.le_trans hb.size h.1)⟩
/-- what a round leaves: the new row, all of it made since the law began -/
theorem words_grow {w wr w0 w5 w7 : World} {B A5 A7 : Option Addr} {n cB m7 c7 : Nat} {O L1 L2 : List (List UInt8)} {s : List UInt8} (hN : NewO w wr 9 1 B n cB (O.map strV)) (h0 : Below wr.heap.size wr w0) (h5 : Below w0.heap.size w0 w5)
    (hn5 : ∀ q, inA A5 q → w0.heap.size ≤ q) (hr7 : RowO w7 9 1 A7 m7 c7 ((L1 ++ [s]).map strV ++ L2.map strV)) (ho7 : Only (inA A5) w5 w7) (hA7 : ∀ q, inA A7 q → inA A5 q ∨ (w5.heap.size ≤ q ∧ q < w7.heap.size)) : NewO w w7 9 1 A7 m7 c7 ((L1 ++ s :: L2).map strV) := by
  have e : (L1 ++ s :: L2).map strV = (L1 ++ [s]).map strV ++ L2.map strV := by simp
  have hb5 := ext_trans (ext_trans hN.bel h0) h5
  have hs := (ext_trans hN.bel h0).size
  rw [e]
  refine ⟨hr7, hb5.trans (ho7.below (fun i hi => Nat.le_trans hs (hn5 i hi)) hb5.size), fun q hq => ?_⟩
  rcases hA7 q hq with h | h
  · exact Nat.le_trans hs (hn5 q h)
  · have := hb5.size; omega
set_option maxHeartbeats 16000000 in
theorem rwords_any (A : Option Addr) (c : Nat) (l : List (List UInt8)) (w : World) (hA : Rd w A (l.map strV)) (hl : l.length ≤ 32768) :
    Calls Try.prog 30 #[.slice A l.length c] w fun e w' => ∃ A' c', e = .returned (.slice A' (wordsT l).length c') ∧ NewO w w' 9 1 A' (wordsT l).length c' ((wordsT l).map strV) := by
  have hli : (l.length : Int) ≤ 32768 := by omega
  have HA := Lib.hid hA
  have HE : Hid (wordsT l = wordsTo l l.length) := Lib.hid rfl
  have HLn := Lib.hid (wordsTo_len l)
  have HRi := Lib.hid (wordsTo_rises l)
  generalize wordsT l = R at *
  clear hA
  go_enter Try.func30, Try.ntmps30
  go_wp2
  go_loopw [3, 4] (fun o i wr => ∃ (k : Nat) (O : List (List UInt8)) (B : Option Addr) (cB n : Nat), k ≤ l.length ∧ i = .int .i64 (k : Int) ∧ o = .slice B n cB ∧ Hid (n = O.length) ∧ Hid (O = wordsTo l k) ∧ Hid (NewO w wr 9 1 B n cB (O.map strV))) (fun _ i _ => l.length - (intOf i).toNat)
  case atStart => exact ⟨0, [], none, 0, 0, Nat.zero_le _, rfl, rfl, Lib.hid rfl, Lib.hid rfl, Lib.hid (NewO.start _ _ _)⟩
  case round =>
    obtain ⟨k, O, B, cB, n, hk, rfl, rfl, Hn, HO, HN⟩ := hrel
    by_cases hlt : k < l.length
    · have hki : (k : Int) < (l.length : Int) := by omega
      have Hnl : Hid (n ≤ 32768) := Lib.hid (by have := HLn.out k; rw [← HO.out, ← Hn.out] at this; omega)
      have hri : RisesT O := by rw [HO.out]; exact HRi.out k
      obtain ⟨ad, hB, hcell⟩ := rd_str (HA.out.ext HN.out.bel) hlt
      subst hB
      have Hsn : Hid (wordsTo l (k + 1) = insT O l[k]) := Lib.hid (by
        rw [wordsTo, HO.out, List.getD_eq_getElem?_getD, List.getElem?_eq_getElem hlt]
        rfl)
      generalize l[k] = s at *
      have HPl := Lib.hid (rplace_any B cB O s wr HN.out.rd hri.calm (by have := Hnl.out; have := Hn.out; omega))
      have hmem := placeT_mem (s := s) hri
      have hple := placeT_le O s
      have Hins : Hid (s ∉ O → insT O s = O.take (placeT O s) ++ s :: O.drop (placeT O s)) := Lib.hid insT_out
      have Hin2 : Hid (s ∈ O → insT O s = O) := Lib.hid insT_in
      rw [← Hn.out] at HPl hple
      have HX : Hid (∀ W, Below wr.heap.size wr W → W.cell? (ad.add k) = some (strV s)) := Lib.hid (fun W hW => cell_only hcell (Only.of_ext (S := fun _ => False) hW) (fun h => h))
      have hnl : (n : Int) ≤ 32768 := by have := Hnl.out; omega
      generalize placeT O s = P at *
      have hPi : (P : Int) ≤ (n : Int) := by omega
      by_cases hin : s ∈ O
      · obtain ⟨hpl, hps⟩ := hmem.2 hin
        have hpn : P < n := by have := Hn.out; omega
        have hpni : (P : Int) < (n : Int) := by omega
        obtain ⟨ad2, hB2, hcell2⟩ := rd_str HN.out.rd hpl
        subst hB2
        rw [hps] at hcell2
        have Hk1 : Hid (O = wordsTo l (k + 1)) := Lib.hid (by rw [Hsn.out, Hin2.out hin])
        obtain ⟨Z, hZ⟩ : ∃ Z : ByteArray, strV s = .string Z := ⟨_, rfl⟩
        rw [hZ] at hcell hcell2 HPl HX
        have hcl := HX.out wr (Below.refl _ _)
        clear hmem hri hpl hps hin Hins Hin2 Hsn hple hZ
        go_wp2_with fail
        refine HPl.out.mono ?_
        rintro e w' ⟨rfl, rfl⟩
        go_wp2_with fail
        go_quiet (fail)
        go_wp2
        go_roundw
        case rel => exact ⟨k + 1, O, some ad2, cB, n, by omega, by go_num, rfl, Hn, Hk1, Lib.hid (HN.out.ext (below_drewN_ _ _))⟩
        case measure => simp [intOf]; omega
      · have Hk1 : Hid (wordsTo l (k + 1) = O.take P ++ s :: O.drop P) := Lib.hid (by rw [Hsn.out, Hins.out hin])
        have hPO : P ≤ O.length := by have := Hn.out; omega
        have HPO := Lib.hid hPO
        have htl : (O.take P).length = P := by rw [List.length_take]; omega
        have hdl : (O.drop P).length = n - P := by rw [List.length_drop, Hn.out]
        obtain ⟨L1, hL1⟩ : ∃ L1, O.take P = L1 := ⟨_, rfl⟩
        obtain ⟨L2, hL2⟩ : ∃ L2, O.drop P = L2 := ⟨_, rfl⟩
        have HT1 : Hid (∀ W, Below wr.heap.size wr W → Rd W B (L1.map strV)) := Lib.hid (fun W hW => by
          have := (HN.out.rd.ext hW).take P
          rw [← List.map_take, hL1] at this
          exact this)
        have HT2 : Hid (∀ W, Below wr.heap.size wr W → Rd W (if cB = P then B else B.map (·.add (P * 1))) (L2.map strV)) := Lib.hid (fun W hW => by
          have := Rd.cut (HN.out.rd.ext hW) (k := P) (cap := cB) (by rw [List.length_map, ← Hn.out]; exact HN.out.row.le)
          rw [← List.map_drop, hL2] at this
          exact this)
        rw [hL1] at htl Hk1
        rw [hL2] at hdl Hk1
        have Hl1 := Lib.hid htl
        have Hl2 := Lib.hid hdl
        have hne : ∀ hpl : P < O.length, O[P] ≠ s := fun hpl h => hin (by rw [← h]; exact List.getElem_mem _)
        have Hne := Lib.hid hne
        have Hcap : Hid (n ≤ cB) := Lib.hid HN.out.row.le
        have hBn : B = none → n = 0 ∧ cB = 0 := fun e => by
          rcases HN.out.row.2 with ⟨_, h1, h2⟩ | ⟨_, _, _, h1, _⟩
          · exact ⟨h1, h2⟩
          · rw [e] at h1; cases h1
        have HBn := Lib.hid hBn
        obtain ⟨Z, hZ⟩ : ∃ Z : ByteArray, strV s = .string Z := ⟨_, rfl⟩
        have HZ := Lib.hid hZ
        have hcell0 := hcell
        rw [hZ] at hcell HPl HX
        clear hmem hri hin Hins Hin2 Hsn hple hL1 hL2 htl hdl hne hBn hPO hcell0
        have hp1 : 0 + P ≤ maxLen := by unfold maxLen; have := Hnl.out; omega
        have hp2 : (0 + P) * 16 ≤ 140737488355328 := by have := Hnl.out; omega
        have hp3 : P + 1 ≤ maxLen := by unfold maxLen; have := Hnl.out; omega
        have hp4 : (P + 1) * 16 ≤ 140737488355328 := by have := Hnl.out; omega
        have hp5 : P + 1 + (n - P) ≤ maxLen := by unfold maxLen; have := Hnl.out; omega
        have hp6 : (P + 1 + (n - P)) * 16 ≤ 140737488355328 := by have := Hnl.out; omega
        have hwp : IntKind.i64.wrap (P : Int) = (P : Int) := IntWalk.i64_in _ (by omega)
        have hpc : P ≤ cB := by have := Hcap.out; omega
        go_wp2_with fail
        refine HPl.out.mono ?_
        rintro e w' ⟨rfl, rfl⟩
        clear HPl hZ
        -- whether a text stands at the place
        by_cases hpn : P < n
        · have hpni : (P : Int) < (n : Int) := by omega
          obtain ⟨ad2, hB2, hcell2⟩ := rd_str HN.out.rd (by have := Hn.out; omega : P < O.length)
          subst hB2
          obtain ⟨Y, Z', e1, e2, hc⟩ := str_cases (O[P]'(by have := Hn.out; omega)) s
          rw [HZ.out] at e2
          injection e2 with e2
          subst e2
          rw [e1] at hcell2
          have hf : (Y.toList == Z.toList) = false := by
            rcases hc with ⟨h, _⟩ | ⟨_, h⟩
            · exact absurd h (Hne.out _)
            · exact h
          have hcl := HX.out wr (Below.refl _ _)
          clear e1 hc
          go_wp2_with fail
          go_quiet (fail)
          obtain ⟨w0, hw0⟩ : ∃ w0, w0 = wr.drewN nq := ⟨_, rfl⟩
          have Hb0 : Hid (Below wr.heap.size wr w0) := Lib.hid (by rw [hw0]; exact below_drewN_ _ _)
          rw [← hw0]
          clear hw0 hcell hcell2 hcl
          have hcell := HX.out w0 Hb0.out
          go_wp2_with fail
          refine wp_region_held_drew (S := fun W => W.cell? (ad.add k) = some (.string Z)) (by kernel_rfl) ?_ (fun hHeld => ?_)
          · exact HX.out _ (ext_trans Hb0.out (by repeat (first | exact Below.refl _ _ | apply ext_drew)))
          refine wpAnyH_take (i := 1) (v := ?_) (take_list rfl) (by kernel_rfl) (by kernel_rfl) (by kernel_rfl) (fun _ _ _ h => h) (Or.inl ⟨by rfl, ?_⟩) (by assumption) ?_
          rotate_left
          · intro w hSw
            try dsimp only at hSw
            first | (go_simp; done) | (go_simp; with_reducible rfl)
          try simp only [Act.put, List.setIfInBounds_toArray, List.set_cons_zero, List.set_cons_succ]
          refine wpAnyH_take (i := 2) (v := ?_) (take_list rfl) (by kernel_rfl) (by kernel_rfl) (by kernel_rfl) (fun _ _ _ h => h) (Or.inl ⟨by rfl, ?_⟩) (by assumption) ?_
          rotate_left
          · intro w hSw
            try dsimp only at hSw
            first | (go_simp; done) | (go_simp; with_reducible rfl)
          try simp only [Act.put, List.setIfInBounds_toArray, List.set_cons_zero, List.set_cons_succ]
          refine wpAnyH_take (i := 3) (v := ?_) (take_list rfl) (by kernel_rfl) (by kernel_rfl) (by kernel_rfl) (fun _ _ _ h => h) (Or.inl ⟨by rfl, ?_⟩) (by assumption) ?_
          rotate_left
          · intro w hSw
            try dsimp only at hSw
            first | (go_simp; done) | (go_simp; with_reducible rfl)
          try simp only [Act.put, List.setIfInBounds_toArray, List.set_cons_zero, List.set_cons_succ]
          refine wpAnyH_take (i := 5) (v := ?_) (take_list rfl) (by kernel_rfl) (by kernel_rfl) (by kernel_rfl) (fun _ _ _ h => h) (Or.inl ⟨by rfl, ?_⟩) (by assumption) ?_
          rotate_left
          · intro w hSw
            try dsimp only at hSw
            first | (go_simp; done) | (go_simp; with_reducible rfl)
          try simp only [Act.put, List.setIfInBounds_toArray, List.set_cons_zero, List.set_cons_succ]
          refine wpAnyH_take (i := 6) (v := ?_) (take_list rfl) (by kernel_rfl) (by kernel_rfl) (by kernel_rfl) (fun _ _ _ h => h) (Or.inl ⟨by rfl, ?_⟩) (by assumption) ?_
          rotate_left
          · intro w hSw
            try dsimp only at hSw
            first | (go_simp; done) | (go_simp; with_reducible rfl)
          try simp only [Act.put, List.setIfInBounds_toArray, List.set_cons_zero, List.set_cons_succ]
          refine wpAnyH_take (i := 7) (v := ?_) (take_list rfl) (by kernel_rfl) (by kernel_rfl) (by kernel_rfl) (fun _ _ _ h => h) (Or.inl ⟨by rfl, ?_⟩) (by assumption) ?_
          rotate_left
          · intro w hSw
            try dsimp only at hSw
            first | (go_simp; done) | (go_simp; with_reducible rfl)
          try simp only [Act.put, List.setIfInBounds_toArray, List.set_cons_zero, List.set_cons_succ]
          refine wpAnyH_take (i := 8) (v := ?_) (take_list rfl) (by kernel_rfl) (by kernel_rfl) (by kernel_rfl) (fun _ _ _ h => h) (Or.inl ⟨by rfl, ?_⟩) (by assumption) ?_
          rotate_left
          · intro w hSw
            try dsimp only at hSw
            first | (go_simp; done) | (go_simp; with_reducible rfl)
          try simp only [Act.put, List.setIfInBounds_toArray, List.set_cons_zero, List.set_cons_succ]
          refine wpAnyH_ready (rs := [0, 9]) (by kernel_rfl) (by simp) ?_
          refine AllReadyH.cons (take_list rfl) (fun K hK => ?_) ?_
          · skip
            go_simp
            refine hK.out _ _ ?_ (fun hHeld => ?_)
            · try dsimp only
              exact HX.out _ (ext_trans Hb0.out (by repeat (first | exact Below.refl _ _ | exact Hx4.out | exact Hx5.out | apply ext_drew | apply ext_drewN | apply ext_alloc)))
            clear hK K
            refine wpAnyH_ready (rs := [4, 9]) (by kernel_rfl) (by simp) ?_
            refine AllReadyH.cons (take_list rfl) (fun K hK => ?_) ?_
            · skip
              refine step_appO _ rfl (.tmp 34) (.tmp 37) _ rfl 9 _ 1 16 Try.underlying40 info_str rfl (some ⟨_, 0, none⟩) 0 0 [] rfl ((RowO.lit _ 9 1 0 #[] rfl (Nat.zero_le _) (by first | rfl | simp))) (some ad2) P _ (L1.map strV) rfl (by rw [List.length_map, Hl1.out, Nat.mul_one]) (HT1.out _ (ext_trans Hb0.out (by repeat (first | exact Below.refl _ _ | exact Hx4.out | apply ext_drew | apply ext_drewN | apply ext_alloc)))) (strVs_one _) (by intro h; have := HBn.out h; omega) hp1 hp2 ?_
              intro A4 c4 w4 hr4 ho4 hA4
              rw [Nat.zero_add, List.nil_append] at hr4
              obtain ⟨hx4, hn4⟩ := grow_fresh (w0 := w0) (by repeat (first | exact Below.refl _ _ | exact Hx4.out | apply ext_drew | apply ext_drewN | apply ext_alloc)) ho4 hA4 (fun q hq => by rw [inA_some] at hq; subst hq; first | exact Nat.le_refl _ | simp)
              have Hx4 := Lib.hid hx4
              have Hn4 := Lib.hid hn4
              clear hx4 hn4
              have Hr4 := Lib.hid hr4
              clear hr4 ho4 hA4
              refine hK.out _ _ ?_ (fun hHeld => ?_)
              · try dsimp only
                exact HX.out _ (ext_trans Hb0.out (by repeat (first | exact Below.refl _ _ | exact Hx4.out | exact Hx5.out | apply ext_drew | apply ext_drewN | apply ext_alloc)))
              clear hK K
              refine wpAnyH_ready (rs := [9]) (by kernel_rfl) (by simp) ?_
              refine AllReadyH.cons (take_list rfl) (fun K hK => ?_) ?_
              · skip
                go_simp
                refine hK.out _ _ ?_ (fun hHeld => ?_)
                · try dsimp only
                  exact HX.out _ (ext_trans Hb0.out (by repeat (first | exact Below.refl _ _ | exact Hx4.out | exact Hx5.out | apply ext_drew | apply ext_drewN | apply ext_alloc)))
                clear hK K
                refine wpAnyH_ready (rs := [10]) (by kernel_rfl) (by simp) ?_
                refine AllReadyH.cons (take_list rfl) (fun K hK => ?_) ?_
                · skip
                  refine step_appO _ rfl (.tmp 38) (.tmp 43) _ rfl 9 _ 1 16 Try.underlying40 info_str rfl A4 P c4 (L1.map strV) rfl (Hr4.out.alloc _) (some ⟨_, 0, none⟩) 1 1 [.string Z] rfl rfl (Rd.lit_at _ #[.string Z] _ (by first | rfl | simp)) (by intro u hu; simp at hu; rw [hu]; rfl) (by intro h; cases h) hp3 hp4 ?_
                  intro A5 c5 w5 hr5 ho5 hA5
                  obtain ⟨hx5, hn5⟩ := grow_fresh (w0 := w0) (by repeat (first | exact Below.refl _ _ | exact Hx4.out | apply ext_drew | apply ext_drewN | apply ext_alloc)) ho5 hA5 (fun q hq => Hn4.out q hq)
                  have Hx5 := Lib.hid hx5
                  have Hn5 := Lib.hid hn5
                  clear hx5 hn5
                  have Hr5 := Lib.hid hr5
                  clear hr5 ho5 hA5
                  refine hK.out _ _ ?_ (fun hHeld => ?_)
                  · try dsimp only
                    exact HX.out _ (ext_trans Hb0.out (by repeat (first | exact Below.refl _ _ | exact Hx4.out | exact Hx5.out | apply ext_drew | apply ext_drewN | apply ext_alloc)))
                  clear hK K
                  refine wpAnyH_take (i := 11) (v := ?_) (take_list rfl) (by kernel_rfl) (by kernel_rfl) (by kernel_rfl) (fun _ _ _ h => h) (Or.inl ⟨by rfl, ?_⟩) (by assumption) ?_
                  rotate_left
                  · intro w hSw
                    try dsimp only at hSw
                    first | (go_simp; done) | (go_simp; with_reducible rfl)
                  try simp only [Act.put, List.setIfInBounds_toArray, List.set_cons_zero, List.set_cons_succ]
                  refine wpAnyH_done (by kernel_rfl) ?_ _
                  have Hrow5 : Hid (RowO w5 9 1 A5 (P + 1) c5 ((L1 ++ [s]).map strV)) := Lib.hid (by rw [List.map_append, List.map_singleton, HZ.out]; exact Hr5.out)
                  have HT5 := Lib.hid (HT2.out w5 (ext_trans Hb0.out Hx5.out))
                  have hcp : ¬ cB = P := by have := Hcap.out; omega
                  have hcp2 : ¬ P = cB := fun h => hcp h.symm
                  rw [if_neg hcp] at HT5
                  have HT6 : Hid (Rd w5 (some (ad2.add P)) (L2.map strV)) := Lib.hid (by have h := HT5.out; rw [Nat.mul_one] at h; exact h)
                  clear HT5
                  go_wp2_with (at_builtin
                               refine wpList_appO _ rfl (.tmp 45) (.tmp 48) _ rfl 9 _ 1 16 Try.underlying40 info_str rfl A5 (P + 1) c5 _ rfl Hrow5.out (some (ad2.add P)) (n - P) _ (L2.map strV) rfl (by rw [List.length_map, Hl2.out, Nat.mul_one]) HT6.out (strVs_one _) (by intro h; cases h) hp5 hp6 ?_
                               intro A7 c7 w7 hr7 ho7 hA7
                               have Hr7 := Lib.hid hr7
                               have Ho7 := Lib.hid ho7
                               have HA7 := Lib.hid hA7
                               clear hr7 ho7 hA7)
                  go_roundw
                  case rel => exact ⟨k + 1, L1 ++ s :: L2, A7, c7, P + 1 + (n - P), by omega, by go_num, rfl, Lib.hid (by rw [List.length_append, List.length_cons, Hl1.out, Hl2.out]; omega), Lib.hid Hk1.out.symm, Lib.hid (words_grow HN.out Hb0.out Hx5.out Hn5.out Hr7.out Ho7.out HA7.out)⟩
                  case measure => simp [intOf]; omega
                exact AllReadyH.nil
              exact AllReadyH.nil
            refine AllReadyH.cons (take_list rfl) (fun K hK => ?_) ?_
            · skip
              go_simp
              refine hK.out _ _ ?_ (fun hHeld => ?_)
              · try dsimp only
                exact HX.out _ (ext_trans Hb0.out (by repeat (first | exact Below.refl _ _ | exact Hx4.out | exact Hx5.out | apply ext_drew | apply ext_drewN | apply ext_alloc)))
              clear hK K
              refine wpAnyH_ready (rs := [4]) (by kernel_rfl) (by simp) ?_
              refine AllReadyH.cons (take_list rfl) (fun K hK => ?_) ?_
              · skip
                refine step_appO _ rfl (.tmp 34) (.tmp 37) _ rfl 9 _ 1 16 Try.underlying40 info_str rfl (some ⟨_, 0, none⟩) 0 0 [] rfl (by first | exact (RowO.lit _ 9 1 0 #[] rfl (Nat.zero_le _) (by first | rfl | simp)).alloc _ | exact ((RowO.lit _ 9 1 0 #[] rfl (Nat.zero_le _) (by first | rfl | simp)).alloc _).drew) (some ad2) P _ (L1.map strV) rfl (by rw [List.length_map, Hl1.out, Nat.mul_one]) (HT1.out _ (ext_trans Hb0.out (by repeat (first | exact Below.refl _ _ | exact Hx4.out | apply ext_drew | apply ext_drewN | apply ext_alloc)))) (strVs_one _) (by intro h; have := HBn.out h; omega) hp1 hp2 ?_
                intro A4 c4 w4 hr4 ho4 hA4
                rw [Nat.zero_add, List.nil_append] at hr4
                obtain ⟨hx4, hn4⟩ := grow_fresh (w0 := w0) (by repeat (first | exact Below.refl _ _ | exact Hx4.out | apply ext_drew | apply ext_drewN | apply ext_alloc)) ho4 hA4 (fun q hq => by rw [inA_some] at hq; subst hq; first | exact Nat.le_refl _ | simp)
                have Hx4 := Lib.hid hx4
                have Hn4 := Lib.hid hn4
                clear hx4 hn4
                have Hr4 := Lib.hid hr4
                have Hlt : Hid (Rd w4 (some ⟨w0.heap.size + 1, 0, none⟩) [.string Z]) := Lib.hid (Rd.only (by first | exact Rd.lit_at _ #[.string Z] _ (by first | rfl | simp) | exact Rd.drew (Rd.lit_at _ #[.string Z] _ (by first | rfl | simp)) | exact Rd.alloc (Rd.lit_at _ #[.string Z] _ (by first | rfl | simp)) _ | exact Rd.drew (Rd.alloc (Rd.lit_at _ #[.string Z] _ (by first | rfl | simp)) _)) ho4 (fun ad e _ hq => by injection e with e; subst e; rw [inA_some] at hq; simp at hq))
                clear hr4 ho4 hA4
                refine hK.out _ _ ?_ (fun hHeld => ?_)
                · try dsimp only
                  exact HX.out _ (ext_trans Hb0.out (by repeat (first | exact Below.refl _ _ | exact Hx4.out | exact Hx5.out | apply ext_drew | apply ext_drewN | apply ext_alloc)))
                clear hK K
                refine wpAnyH_ready (rs := [10]) (by kernel_rfl) (by simp) ?_
                refine AllReadyH.cons (take_list rfl) (fun K hK => ?_) ?_
                · skip
                  simp only [Nat.zero_add]
                  refine step_appO _ rfl (.tmp 38) (.tmp 43) _ rfl 9 _ 1 16 Try.underlying40 info_str rfl A4 P c4 (L1.map strV) rfl (Hr4.out) (some ⟨_, 0, none⟩) 1 1 [.string Z] rfl rfl (Hlt.out) (by intro u hu; simp at hu; rw [hu]; rfl) (by intro h; cases h) hp3 hp4 ?_
                  intro A5 c5 w5 hr5 ho5 hA5
                  obtain ⟨hx5, hn5⟩ := grow_fresh (w0 := w0) (by repeat (first | exact Below.refl _ _ | exact Hx4.out | apply ext_drew | apply ext_drewN | apply ext_alloc)) ho5 hA5 (fun q hq => Hn4.out q hq)
                  have Hx5 := Lib.hid hx5
                  have Hn5 := Lib.hid hn5
                  clear hx5 hn5
                  have Hr5 := Lib.hid hr5
                  clear hr5 ho5 hA5
                  refine hK.out _ _ ?_ (fun hHeld => ?_)
                  · try dsimp only
                    exact HX.out _ (ext_trans Hb0.out (by repeat (first | exact Below.refl _ _ | exact Hx4.out | exact Hx5.out | apply ext_drew | apply ext_drewN | apply ext_alloc)))
                  clear hK K
                  refine wpAnyH_take (i := 11) (v := ?_) (take_list rfl) (by kernel_rfl) (by kernel_rfl) (by kernel_rfl) (fun _ _ _ h => h) (Or.inl ⟨by rfl, ?_⟩) (by assumption) ?_
                  rotate_left
                  · intro w hSw
                    try dsimp only at hSw
                    first | (go_simp; done) | (go_simp; with_reducible rfl)
                  try simp only [Act.put, List.setIfInBounds_toArray, List.set_cons_zero, List.set_cons_succ]
                  refine wpAnyH_done (by kernel_rfl) ?_ _
                  have Hrow5 : Hid (RowO w5 9 1 A5 (P + 1) c5 ((L1 ++ [s]).map strV)) := Lib.hid (by rw [List.map_append, List.map_singleton, HZ.out]; exact Hr5.out)
                  have HT5 := Lib.hid (HT2.out w5 (ext_trans Hb0.out Hx5.out))
                  have hcp : ¬ cB = P := by have := Hcap.out; omega
                  have hcp2 : ¬ P = cB := fun h => hcp h.symm
                  rw [if_neg hcp] at HT5
                  have HT6 : Hid (Rd w5 (some (ad2.add P)) (L2.map strV)) := Lib.hid (by have h := HT5.out; rw [Nat.mul_one] at h; exact h)
                  clear HT5
                  go_wp2_with (at_builtin
                               refine wpList_appO _ rfl (.tmp 45) (.tmp 48) _ rfl 9 _ 1 16 Try.underlying40 info_str rfl A5 (P + 1) c5 _ rfl Hrow5.out (some (ad2.add P)) (n - P) _ (L2.map strV) rfl (by rw [List.length_map, Hl2.out, Nat.mul_one]) HT6.out (strVs_one _) (by intro h; cases h) hp5 hp6 ?_
                               intro A7 c7 w7 hr7 ho7 hA7
                               have Hr7 := Lib.hid hr7
                               have Ho7 := Lib.hid ho7
                               have HA7 := Lib.hid hA7
                               clear hr7 ho7 hA7)
                  go_roundw
                  case rel => exact ⟨k + 1, L1 ++ s :: L2, A7, c7, P + 1 + (n - P), by omega, by go_num, rfl, Lib.hid (by rw [List.length_append, List.length_cons, Hl1.out, Hl2.out]; omega), Lib.hid Hk1.out.symm, Lib.hid (words_grow HN.out Hb0.out Hx5.out Hn5.out Hr7.out Ho7.out HA7.out)⟩
                  case measure => simp [intOf]; omega
                exact AllReadyH.nil
              exact AllReadyH.nil
            exact AllReadyH.nil
          refine AllReadyH.cons (take_list rfl) (fun K hK => ?_) ?_
          · skip
            go_simp
            refine hK.out _ _ ?_ (fun hHeld => ?_)
            · try dsimp only
              exact HX.out _ (ext_trans Hb0.out (by repeat (first | exact Below.refl _ _ | exact Hx4.out | exact Hx5.out | apply ext_drew | apply ext_drewN | apply ext_alloc)))
            clear hK K
            refine wpAnyH_ready (rs := [0]) (by kernel_rfl) (by simp) ?_
            refine AllReadyH.cons (take_list rfl) (fun K hK => ?_) ?_
            · skip
              go_simp
              refine hK.out _ _ ?_ (fun hHeld => ?_)
              · try dsimp only
                exact HX.out _ (ext_trans Hb0.out (by repeat (first | exact Below.refl _ _ | exact Hx4.out | exact Hx5.out | apply ext_drew | apply ext_drewN | apply ext_alloc)))
              clear hK K
              refine wpAnyH_ready (rs := [4]) (by kernel_rfl) (by simp) ?_
              refine AllReadyH.cons (take_list rfl) (fun K hK => ?_) ?_
              · skip
                refine step_appO _ rfl (.tmp 34) (.tmp 37) _ rfl 9 _ 1 16 Try.underlying40 info_str rfl (some ⟨_, 0, none⟩) 0 0 [] rfl (by first | exact (RowO.lit _ 9 1 0 #[] rfl (Nat.zero_le _) (by first | rfl | simp)) | exact (RowO.lit _ 9 1 0 #[] rfl (Nat.zero_le _) (by first | rfl | simp)).drew) (some ad2) P _ (L1.map strV) rfl (by rw [List.length_map, Hl1.out, Nat.mul_one]) (HT1.out _ (ext_trans Hb0.out (by repeat (first | exact Below.refl _ _ | exact Hx4.out | apply ext_drew | apply ext_drewN | apply ext_alloc)))) (strVs_one _) (by intro h; have := HBn.out h; omega) hp1 hp2 ?_
                intro A4 c4 w4 hr4 ho4 hA4
                rw [Nat.zero_add, List.nil_append] at hr4
                obtain ⟨hx4, hn4⟩ := grow_fresh (w0 := w0) (by repeat (first | exact Below.refl _ _ | exact Hx4.out | apply ext_drew | apply ext_drewN | apply ext_alloc)) ho4 hA4 (fun q hq => by rw [inA_some] at hq; subst hq; first | exact Nat.le_refl _ | simp)
                have Hx4 := Lib.hid hx4
                have Hn4 := Lib.hid hn4
                clear hx4 hn4
                have Hr4 := Lib.hid hr4
                have Hlt : Hid (Rd w4 (some ⟨w0.heap.size, 0, none⟩) [.string Z]) := Lib.hid (Rd.only (by first | exact Rd.lit_at _ #[.string Z] _ (by first | rfl | simp) | exact Rd.drew (Rd.lit_at _ #[.string Z] _ (by first | rfl | simp)) | exact Rd.alloc (Rd.lit_at _ #[.string Z] _ (by first | rfl | simp)) _ | exact Rd.drew (Rd.alloc (Rd.lit_at _ #[.string Z] _ (by first | rfl | simp)) _)) ho4 (fun ad e _ hq => by injection e with e; subst e; rw [inA_some] at hq; simp at hq))
                clear hr4 ho4 hA4
                refine hK.out _ _ ?_ (fun hHeld => ?_)
                · try dsimp only
                  exact HX.out _ (ext_trans Hb0.out (by repeat (first | exact Below.refl _ _ | exact Hx4.out | exact Hx5.out | apply ext_drew | apply ext_drewN | apply ext_alloc)))
                clear hK K
                refine wpAnyH_ready (rs := [10]) (by kernel_rfl) (by simp) ?_
                refine AllReadyH.cons (take_list rfl) (fun K hK => ?_) ?_
                · skip
                  simp only [Nat.zero_add]
                  refine step_appO _ rfl (.tmp 38) (.tmp 43) _ rfl 9 _ 1 16 Try.underlying40 info_str rfl A4 P c4 (L1.map strV) rfl (Hr4.out) (some ⟨_, 0, none⟩) 1 1 [.string Z] rfl rfl (Hlt.out) (by intro u hu; simp at hu; rw [hu]; rfl) (by intro h; cases h) hp3 hp4 ?_
                  intro A5 c5 w5 hr5 ho5 hA5
                  obtain ⟨hx5, hn5⟩ := grow_fresh (w0 := w0) (by repeat (first | exact Below.refl _ _ | exact Hx4.out | apply ext_drew | apply ext_drewN | apply ext_alloc)) ho5 hA5 (fun q hq => Hn4.out q hq)
                  have Hx5 := Lib.hid hx5
                  have Hn5 := Lib.hid hn5
                  clear hx5 hn5
                  have Hr5 := Lib.hid hr5
                  clear hr5 ho5 hA5
                  refine hK.out _ _ ?_ (fun hHeld => ?_)
                  · try dsimp only
                    exact HX.out _ (ext_trans Hb0.out (by repeat (first | exact Below.refl _ _ | exact Hx4.out | exact Hx5.out | apply ext_drew | apply ext_drewN | apply ext_alloc)))
                  clear hK K
                  refine wpAnyH_take (i := 11) (v := ?_) (take_list rfl) (by kernel_rfl) (by kernel_rfl) (by kernel_rfl) (fun _ _ _ h => h) (Or.inl ⟨by rfl, ?_⟩) (by assumption) ?_
                  rotate_left
                  · intro w hSw
                    try dsimp only at hSw
                    first | (go_simp; done) | (go_simp; with_reducible rfl)
                  try simp only [Act.put, List.setIfInBounds_toArray, List.set_cons_zero, List.set_cons_succ]
                  refine wpAnyH_done (by kernel_rfl) ?_ _
                  have Hrow5 : Hid (RowO w5 9 1 A5 (P + 1) c5 ((L1 ++ [s]).map strV)) := Lib.hid (by rw [List.map_append, List.map_singleton, HZ.out]; exact Hr5.out)
                  have HT5 := Lib.hid (HT2.out w5 (ext_trans Hb0.out Hx5.out))
                  have hcp : ¬ cB = P := by have := Hcap.out; omega
                  have hcp2 : ¬ P = cB := fun h => hcp h.symm
                  rw [if_neg hcp] at HT5
                  have HT6 : Hid (Rd w5 (some (ad2.add P)) (L2.map strV)) := Lib.hid (by have h := HT5.out; rw [Nat.mul_one] at h; exact h)
                  clear HT5
                  go_wp2_with (at_builtin
                               refine wpList_appO _ rfl (.tmp 45) (.tmp 48) _ rfl 9 _ 1 16 Try.underlying40 info_str rfl A5 (P + 1) c5 _ rfl Hrow5.out (some (ad2.add P)) (n - P) _ (L2.map strV) rfl (by rw [List.length_map, Hl2.out, Nat.mul_one]) HT6.out (strVs_one _) (by intro h; cases h) hp5 hp6 ?_
                               intro A7 c7 w7 hr7 ho7 hA7
                               have Hr7 := Lib.hid hr7
                               have Ho7 := Lib.hid ho7
                               have HA7 := Lib.hid hA7
                               clear hr7 ho7 hA7)
                  go_roundw
                  case rel => exact ⟨k + 1, L1 ++ s :: L2, A7, c7, P + 1 + (n - P), by omega, by go_num, rfl, Lib.hid (by rw [List.length_append, List.length_cons, Hl1.out, Hl2.out]; omega), Lib.hid Hk1.out.symm, Lib.hid (words_grow HN.out Hb0.out Hx5.out Hn5.out Hr7.out Ho7.out HA7.out)⟩
                  case measure => simp [intOf]; omega
                exact AllReadyH.nil
              exact AllReadyH.nil
            exact AllReadyH.nil
          exact AllReadyH.nil
        · have hpni : ¬ (P : Int) < (n : Int) := by omega
          go_wp2_with fail
          go_quiet (fail)
          obtain ⟨w0, hw0⟩ : ∃ w0, w0 = wr.drewN nq := ⟨_, rfl⟩
          have Hb0 : Hid (Below wr.heap.size wr w0) := Lib.hid (by rw [hw0]; exact below_drewN_ _ _)
          rw [← hw0]
          clear hw0 hcell
          have hcell := HX.out w0 Hb0.out
          go_wp2_with fail
          refine wp_region_held_drew (S := fun W => W.cell? (ad.add k) = some (.string Z)) (by kernel_rfl) ?_ (fun hHeld => ?_)
          · exact HX.out _ (ext_trans Hb0.out (by repeat (first | exact Below.refl _ _ | apply ext_drew)))
          refine wpAnyH_take (i := 1) (v := ?_) (take_list rfl) (by kernel_rfl) (by kernel_rfl) (by kernel_rfl) (fun _ _ _ h => h) (Or.inl ⟨by rfl, ?_⟩) (by assumption) ?_
          rotate_left
          · intro w hSw
            try dsimp only at hSw
            first | (go_simp; done) | (go_simp; with_reducible rfl)
          try simp only [Act.put, List.setIfInBounds_toArray, List.set_cons_zero, List.set_cons_succ]
          refine wpAnyH_take (i := 2) (v := ?_) (take_list rfl) (by kernel_rfl) (by kernel_rfl) (by kernel_rfl) (fun _ _ _ h => h) (Or.inl ⟨by rfl, ?_⟩) (by assumption) ?_
          rotate_left
          · intro w hSw
            try dsimp only at hSw
            first | (go_simp; done) | (go_simp; with_reducible rfl)
          try simp only [Act.put, List.setIfInBounds_toArray, List.set_cons_zero, List.set_cons_succ]
          refine wpAnyH_take (i := 3) (v := ?_) (take_list rfl) (by kernel_rfl) (by kernel_rfl) (by kernel_rfl) (fun _ _ _ h => h) (Or.inl ⟨by rfl, ?_⟩) (by assumption) ?_
          rotate_left
          · intro w hSw
            try dsimp only at hSw
            first | (go_simp; done) | (go_simp; with_reducible rfl)
          try simp only [Act.put, List.setIfInBounds_toArray, List.set_cons_zero, List.set_cons_succ]
          refine wpAnyH_take (i := 5) (v := ?_) (take_list rfl) (by kernel_rfl) (by kernel_rfl) (by kernel_rfl) (fun _ _ _ h => h) (Or.inl ⟨by rfl, ?_⟩) (by assumption) ?_
          rotate_left
          · intro w hSw
            try dsimp only at hSw
            first | (go_simp; done) | (go_simp; with_reducible rfl)
          try simp only [Act.put, List.setIfInBounds_toArray, List.set_cons_zero, List.set_cons_succ]
          refine wpAnyH_take (i := 6) (v := ?_) (take_list rfl) (by kernel_rfl) (by kernel_rfl) (by kernel_rfl) (fun _ _ _ h => h) (Or.inl ⟨by rfl, ?_⟩) (by assumption) ?_
          rotate_left
          · intro w hSw
            try dsimp only at hSw
            first | (go_simp; done) | (go_simp; with_reducible rfl)
          try simp only [Act.put, List.setIfInBounds_toArray, List.set_cons_zero, List.set_cons_succ]
          refine wpAnyH_take (i := 7) (v := ?_) (take_list rfl) (by kernel_rfl) (by kernel_rfl) (by kernel_rfl) (fun _ _ _ h => h) (Or.inl ⟨by rfl, ?_⟩) (by assumption) ?_
          rotate_left
          · intro w hSw
            try dsimp only at hSw
            first | (go_simp; done) | (go_simp; with_reducible rfl)
          try simp only [Act.put, List.setIfInBounds_toArray, List.set_cons_zero, List.set_cons_succ]
          refine wpAnyH_take (i := 8) (v := ?_) (take_list rfl) (by kernel_rfl) (by kernel_rfl) (by kernel_rfl) (fun _ _ _ h => h) (Or.inl ⟨by rfl, ?_⟩) (by assumption) ?_
          rotate_left
          · intro w hSw
            try dsimp only at hSw
            first | (go_simp; done) | (go_simp; with_reducible rfl)
          try simp only [Act.put, List.setIfInBounds_toArray, List.set_cons_zero, List.set_cons_succ]
          refine wpAnyH_ready (rs := [0, 9]) (by kernel_rfl) (by simp) ?_
          refine AllReadyH.cons (take_list rfl) (fun K hK => ?_) ?_
          · skip
            go_simp
            refine hK.out _ _ ?_ (fun hHeld => ?_)
            · try dsimp only
              exact HX.out _ (ext_trans Hb0.out (by repeat (first | exact Below.refl _ _ | exact Hx4.out | exact Hx5.out | apply ext_drew | apply ext_drewN | apply ext_alloc)))
            clear hK K
            refine wpAnyH_ready (rs := [4, 9]) (by kernel_rfl) (by simp) ?_
            refine AllReadyH.cons (take_list rfl) (fun K hK => ?_) ?_
            · skip
              refine step_appO _ rfl (.tmp 34) (.tmp 37) _ rfl 9 _ 1 16 Try.underlying40 info_str rfl (some ⟨_, 0, none⟩) 0 0 [] rfl ((RowO.lit _ 9 1 0 #[] rfl (Nat.zero_le _) (by first | rfl | simp))) B P _ (L1.map strV) rfl (by rw [List.length_map, Hl1.out, Nat.mul_one]) (HT1.out _ (ext_trans Hb0.out (by repeat (first | exact Below.refl _ _ | exact Hx4.out | apply ext_drew | apply ext_drewN | apply ext_alloc)))) (strVs_one _) (by intro h; have := HBn.out h; omega) hp1 hp2 ?_
              intro A4 c4 w4 hr4 ho4 hA4
              rw [Nat.zero_add, List.nil_append] at hr4
              obtain ⟨hx4, hn4⟩ := grow_fresh (w0 := w0) (by repeat (first | exact Below.refl _ _ | exact Hx4.out | apply ext_drew | apply ext_drewN | apply ext_alloc)) ho4 hA4 (fun q hq => by rw [inA_some] at hq; subst hq; first | exact Nat.le_refl _ | simp)
              have Hx4 := Lib.hid hx4
              have Hn4 := Lib.hid hn4
              clear hx4 hn4
              have Hr4 := Lib.hid hr4
              clear hr4 ho4 hA4
              refine hK.out _ _ ?_ (fun hHeld => ?_)
              · try dsimp only
                exact HX.out _ (ext_trans Hb0.out (by repeat (first | exact Below.refl _ _ | exact Hx4.out | exact Hx5.out | apply ext_drew | apply ext_drewN | apply ext_alloc)))
              clear hK K
              refine wpAnyH_ready (rs := [9]) (by kernel_rfl) (by simp) ?_
              refine AllReadyH.cons (take_list rfl) (fun K hK => ?_) ?_
              · skip
                go_simp
                refine hK.out _ _ ?_ (fun hHeld => ?_)
                · try dsimp only
                  exact HX.out _ (ext_trans Hb0.out (by repeat (first | exact Below.refl _ _ | exact Hx4.out | exact Hx5.out | apply ext_drew | apply ext_drewN | apply ext_alloc)))
                clear hK K
                refine wpAnyH_ready (rs := [10]) (by kernel_rfl) (by simp) ?_
                refine AllReadyH.cons (take_list rfl) (fun K hK => ?_) ?_
                · skip
                  refine step_appO _ rfl (.tmp 38) (.tmp 43) _ rfl 9 _ 1 16 Try.underlying40 info_str rfl A4 P c4 (L1.map strV) rfl (Hr4.out.alloc _) (some ⟨_, 0, none⟩) 1 1 [.string Z] rfl rfl (Rd.lit_at _ #[.string Z] _ (by first | rfl | simp)) (by intro u hu; simp at hu; rw [hu]; rfl) (by intro h; cases h) hp3 hp4 ?_
                  intro A5 c5 w5 hr5 ho5 hA5
                  obtain ⟨hx5, hn5⟩ := grow_fresh (w0 := w0) (by repeat (first | exact Below.refl _ _ | exact Hx4.out | apply ext_drew | apply ext_drewN | apply ext_alloc)) ho5 hA5 (fun q hq => Hn4.out q hq)
                  have Hx5 := Lib.hid hx5
                  have Hn5 := Lib.hid hn5
                  clear hx5 hn5
                  have Hr5 := Lib.hid hr5
                  clear hr5 ho5 hA5
                  refine hK.out _ _ ?_ (fun hHeld => ?_)
                  · try dsimp only
                    exact HX.out _ (ext_trans Hb0.out (by repeat (first | exact Below.refl _ _ | exact Hx4.out | exact Hx5.out | apply ext_drew | apply ext_drewN | apply ext_alloc)))
                  clear hK K
                  refine wpAnyH_take (i := 11) (v := ?_) (take_list rfl) (by kernel_rfl) (by kernel_rfl) (by kernel_rfl) (fun _ _ _ h => h) (Or.inl ⟨by rfl, ?_⟩) (by assumption) ?_
                  rotate_left
                  · intro w hSw
                    try dsimp only at hSw
                    first | (go_simp; done) | (go_simp; with_reducible rfl)
                  try simp only [Act.put, List.setIfInBounds_toArray, List.set_cons_zero, List.set_cons_succ]
                  refine wpAnyH_done (by kernel_rfl) ?_ _
                  have Hrow5 : Hid (RowO w5 9 1 A5 (P + 1) c5 ((L1 ++ [s]).map strV)) := Lib.hid (by rw [List.map_append, List.map_singleton, HZ.out]; exact Hr5.out)
                  have HT5 := Lib.hid (HT2.out w5 (ext_trans Hb0.out Hx5.out))
                  by_cases hcp : cB = P
                  · have hz1 : cB - P = 0 := by omega
                    have hz2 : n - P = 0 := by have := Hcap.out; omega
                    obtain rfl : L2 = [] := List.eq_nil_of_length_eq_zero (by rw [Hl2.out]; exact hz2)
                    have hq1 : P + 1 + 0 ≤ maxLen := hp3
                    have hq2 : (P + 1 + 0) * 16 ≤ 140737488355328 := hp4
                    have Hnp : Hid (n = P) := Lib.hid (by have := Hcap.out; omega)
                    clear HT5
                    go_wp2_with (at_builtin
                                 refine wpList_appO _ rfl (.tmp 45) (.tmp 48) _ rfl 9 _ 1 16 Try.underlying40 info_str rfl A5 (P + 1) c5 _ rfl Hrow5.out B 0 _ [] rfl rfl (Rd.nil _ _) (by simp) (fun _ => rfl) hq1 hq2 ?_
                                 intro A7 c7 w7 hr7 ho7 hA7
                                 have Hr7 := Lib.hid hr7
                                 have Ho7 := Lib.hid ho7
                                 have HA7 := Lib.hid hA7
                                 clear hr7 ho7 hA7)
                    go_roundw
                    case rel => exact ⟨k + 1, L1 ++ s :: [], A7, c7, P + 1, by omega, by go_num, rfl, Lib.hid (by rw [List.length_append, List.length_cons, Hl1.out]; rfl), Lib.hid Hk1.out.symm, Lib.hid (words_grow (L2 := []) HN.out Hb0.out Hx5.out Hn5.out Hr7.out Ho7.out HA7.out)⟩
                    case measure => simp [intOf]; omega
                  · have hcp2 : ¬ P = cB := fun h => hcp h.symm
                    rw [if_neg hcp] at HT5
                    obtain ⟨ad2, hB2⟩ : ∃ ad2, B = some ad2 := by cases B with | none => exact absurd (HBn.out rfl).2 (by omega) | some a => exact ⟨a, rfl⟩
                    subst hB2
                    have HT6 : Hid (Rd w5 (some (ad2.add P)) (L2.map strV)) := Lib.hid (by have h := HT5.out; rw [Nat.mul_one] at h; exact h)
                    clear HT5
                    go_wp2_with (at_builtin
                                 refine wpList_appO _ rfl (.tmp 45) (.tmp 48) _ rfl 9 _ 1 16 Try.underlying40 info_str rfl A5 (P + 1) c5 _ rfl Hrow5.out (some (ad2.add P)) (n - P) _ (L2.map strV) rfl (by rw [List.length_map, Hl2.out, Nat.mul_one]) HT6.out (strVs_one _) (by intro h; cases h) hp5 hp6 ?_
                                 intro A7 c7 w7 hr7 ho7 hA7
                                 have Hr7 := Lib.hid hr7
                                 have Ho7 := Lib.hid ho7
                                 have HA7 := Lib.hid hA7
                                 clear hr7 ho7 hA7)
                    go_roundw
                    case rel => exact ⟨k + 1, L1 ++ s :: L2, A7, c7, P + 1 + (n - P), by omega, by go_num, rfl, Lib.hid (by rw [List.length_append, List.length_cons, Hl1.out, Hl2.out]; omega), Lib.hid Hk1.out.symm, Lib.hid (words_grow HN.out Hb0.out Hx5.out Hn5.out Hr7.out Ho7.out HA7.out)⟩
                    case measure => simp [intOf]; omega
                exact AllReadyH.nil
              exact AllReadyH.nil
            refine AllReadyH.cons (take_list rfl) (fun K hK => ?_) ?_
            · skip
              go_simp
              refine hK.out _ _ ?_ (fun hHeld => ?_)
              · try dsimp only
                exact HX.out _ (ext_trans Hb0.out (by repeat (first | exact Below.refl _ _ | exact Hx4.out | exact Hx5.out | apply ext_drew | apply ext_drewN | apply ext_alloc)))
              clear hK K
              refine wpAnyH_ready (rs := [4]) (by kernel_rfl) (by simp) ?_
              refine AllReadyH.cons (take_list rfl) (fun K hK => ?_) ?_
              · skip
                refine step_appO _ rfl (.tmp 34) (.tmp 37) _ rfl 9 _ 1 16 Try.underlying40 info_str rfl (some ⟨_, 0, none⟩) 0 0 [] rfl (by first | exact (RowO.lit _ 9 1 0 #[] rfl (Nat.zero_le _) (by first | rfl | simp)).alloc _ | exact ((RowO.lit _ 9 1 0 #[] rfl (Nat.zero_le _) (by first | rfl | simp)).alloc _).drew) B P _ (L1.map strV) rfl (by rw [List.length_map, Hl1.out, Nat.mul_one]) (HT1.out _ (ext_trans Hb0.out (by repeat (first | exact Below.refl _ _ | exact Hx4.out | apply ext_drew | apply ext_drewN | apply ext_alloc)))) (strVs_one _) (by intro h; have := HBn.out h; omega) hp1 hp2 ?_
                intro A4 c4 w4 hr4 ho4 hA4
                rw [Nat.zero_add, List.nil_append] at hr4
                obtain ⟨hx4, hn4⟩ := grow_fresh (w0 := w0) (by repeat (first | exact Below.refl _ _ | exact Hx4.out | apply ext_drew | apply ext_drewN | apply ext_alloc)) ho4 hA4 (fun q hq => by rw [inA_some] at hq; subst hq; first | exact Nat.le_refl _ | simp)
                have Hx4 := Lib.hid hx4
                have Hn4 := Lib.hid hn4
                clear hx4 hn4
                have Hr4 := Lib.hid hr4
                have Hlt : Hid (Rd w4 (some ⟨w0.heap.size + 1, 0, none⟩) [.string Z]) := Lib.hid (Rd.only (by first | exact Rd.lit_at _ #[.string Z] _ (by first | rfl | simp) | exact Rd.drew (Rd.lit_at _ #[.string Z] _ (by first | rfl | simp)) | exact Rd.alloc (Rd.lit_at _ #[.string Z] _ (by first | rfl | simp)) _ | exact Rd.drew (Rd.alloc (Rd.lit_at _ #[.string Z] _ (by first | rfl | simp)) _)) ho4 (fun ad e _ hq => by injection e with e; subst e; rw [inA_some] at hq; simp at hq))
                clear hr4 ho4 hA4
                refine hK.out _ _ ?_ (fun hHeld => ?_)
                · try dsimp only
                  exact HX.out _ (ext_trans Hb0.out (by repeat (first | exact Below.refl _ _ | exact Hx4.out | exact Hx5.out | apply ext_drew | apply ext_drewN | apply ext_alloc)))
                clear hK K
                refine wpAnyH_ready (rs := [10]) (by kernel_rfl) (by simp) ?_
                refine AllReadyH.cons (take_list rfl) (fun K hK => ?_) ?_
                · skip
                  simp only [Nat.zero_add]
                  refine step_appO _ rfl (.tmp 38) (.tmp 43) _ rfl 9 _ 1 16 Try.underlying40 info_str rfl A4 P c4 (L1.map strV) rfl (Hr4.out) (some ⟨_, 0, none⟩) 1 1 [.string Z] rfl rfl (Hlt.out) (by intro u hu; simp at hu; rw [hu]; rfl) (by intro h; cases h) hp3 hp4 ?_
                  intro A5 c5 w5 hr5 ho5 hA5
                  obtain ⟨hx5, hn5⟩ := grow_fresh (w0 := w0) (by repeat (first | exact Below.refl _ _ | exact Hx4.out | apply ext_drew | apply ext_drewN | apply ext_alloc)) ho5 hA5 (fun q hq => Hn4.out q hq)
                  have Hx5 := Lib.hid hx5
                  have Hn5 := Lib.hid hn5
                  clear hx5 hn5
                  have Hr5 := Lib.hid hr5
                  clear hr5 ho5 hA5
                  refine hK.out _ _ ?_ (fun hHeld => ?_)
                  · try dsimp only
                    exact HX.out _ (ext_trans Hb0.out (by repeat (first | exact Below.refl _ _ | exact Hx4.out | exact Hx5.out | apply ext_drew | apply ext_drewN | apply ext_alloc)))
                  clear hK K
                  refine wpAnyH_take (i := 11) (v := ?_) (take_list rfl) (by kernel_rfl) (by kernel_rfl) (by kernel_rfl) (fun _ _ _ h => h) (Or.inl ⟨by rfl, ?_⟩) (by assumption) ?_
                  rotate_left
                  · intro w hSw
                    try dsimp only at hSw
                    first | (go_simp; done) | (go_simp; with_reducible rfl)
                  try simp only [Act.put, List.setIfInBounds_toArray, List.set_cons_zero, List.set_cons_succ]
                  refine wpAnyH_done (by kernel_rfl) ?_ _
                  have Hrow5 : Hid (RowO w5 9 1 A5 (P + 1) c5 ((L1 ++ [s]).map strV)) := Lib.hid (by rw [List.map_append, List.map_singleton, HZ.out]; exact Hr5.out)
                  have HT5 := Lib.hid (HT2.out w5 (ext_trans Hb0.out Hx5.out))
                  by_cases hcp : cB = P
                  · have hz1 : cB - P = 0 := by omega
                    have hz2 : n - P = 0 := by have := Hcap.out; omega
                    obtain rfl : L2 = [] := List.eq_nil_of_length_eq_zero (by rw [Hl2.out]; exact hz2)
                    have hq1 : P + 1 + 0 ≤ maxLen := hp3
                    have hq2 : (P + 1 + 0) * 16 ≤ 140737488355328 := hp4
                    have Hnp : Hid (n = P) := Lib.hid (by have := Hcap.out; omega)
                    clear HT5
                    go_wp2_with (at_builtin
                                 refine wpList_appO _ rfl (.tmp 45) (.tmp 48) _ rfl 9 _ 1 16 Try.underlying40 info_str rfl A5 (P + 1) c5 _ rfl Hrow5.out B 0 _ [] rfl rfl (Rd.nil _ _) (by simp) (fun _ => rfl) hq1 hq2 ?_
                                 intro A7 c7 w7 hr7 ho7 hA7
                                 have Hr7 := Lib.hid hr7
                                 have Ho7 := Lib.hid ho7
                                 have HA7 := Lib.hid hA7
                                 clear hr7 ho7 hA7)
                    go_roundw
                    case rel => exact ⟨k + 1, L1 ++ s :: [], A7, c7, P + 1, by omega, by go_num, rfl, Lib.hid (by rw [List.length_append, List.length_cons, Hl1.out]; rfl), Lib.hid Hk1.out.symm, Lib.hid (words_grow (L2 := []) HN.out Hb0.out Hx5.out Hn5.out Hr7.out Ho7.out HA7.out)⟩
                    case measure => simp [intOf]; omega
                  · have hcp2 : ¬ P = cB := fun h => hcp h.symm
                    rw [if_neg hcp] at HT5
                    obtain ⟨ad2, hB2⟩ : ∃ ad2, B = some ad2 := by cases B with | none => exact absurd (HBn.out rfl).2 (by omega) | some a => exact ⟨a, rfl⟩
                    subst hB2
                    have HT6 : Hid (Rd w5 (some (ad2.add P)) (L2.map strV)) := Lib.hid (by have h := HT5.out; rw [Nat.mul_one] at h; exact h)
                    clear HT5
                    go_wp2_with (at_builtin
                                 refine wpList_appO _ rfl (.tmp 45) (.tmp 48) _ rfl 9 _ 1 16 Try.underlying40 info_str rfl A5 (P + 1) c5 _ rfl Hrow5.out (some (ad2.add P)) (n - P) _ (L2.map strV) rfl (by rw [List.length_map, Hl2.out, Nat.mul_one]) HT6.out (strVs_one _) (by intro h; cases h) hp5 hp6 ?_
                                 intro A7 c7 w7 hr7 ho7 hA7
                                 have Hr7 := Lib.hid hr7
                                 have Ho7 := Lib.hid ho7
                                 have HA7 := Lib.hid hA7
                                 clear hr7 ho7 hA7)
                    go_roundw
                    case rel => exact ⟨k + 1, L1 ++ s :: L2, A7, c7, P + 1 + (n - P), by omega, by go_num, rfl, Lib.hid (by rw [List.length_append, List.length_cons, Hl1.out, Hl2.out]; omega), Lib.hid Hk1.out.symm, Lib.hid (words_grow HN.out Hb0.out Hx5.out Hn5.out Hr7.out Ho7.out HA7.out)⟩
                    case measure => simp [intOf]; omega
                exact AllReadyH.nil
              exact AllReadyH.nil
            exact AllReadyH.nil
          refine AllReadyH.cons (take_list rfl) (fun K hK => ?_) ?_
          · skip
            go_simp
            refine hK.out _ _ ?_ (fun hHeld => ?_)
            · try dsimp only
              exact HX.out _ (ext_trans Hb0.out (by repeat (first | exact Below.refl _ _ | exact Hx4.out | exact Hx5.out | apply ext_drew | apply ext_drewN | apply ext_alloc)))
            clear hK K
            refine wpAnyH_ready (rs := [0]) (by kernel_rfl) (by simp) ?_
            refine AllReadyH.cons (take_list rfl) (fun K hK => ?_) ?_
            · skip
              go_simp
              refine hK.out _ _ ?_ (fun hHeld => ?_)
              · try dsimp only
                exact HX.out _ (ext_trans Hb0.out (by repeat (first | exact Below.refl _ _ | exact Hx4.out | exact Hx5.out | apply ext_drew | apply ext_drewN | apply ext_alloc)))
              clear hK K
              refine wpAnyH_ready (rs := [4]) (by kernel_rfl) (by simp) ?_
              refine AllReadyH.cons (take_list rfl) (fun K hK => ?_) ?_
              · skip
                refine step_appO _ rfl (.tmp 34) (.tmp 37) _ rfl 9 _ 1 16 Try.underlying40 info_str rfl (some ⟨_, 0, none⟩) 0 0 [] rfl (by first | exact (RowO.lit _ 9 1 0 #[] rfl (Nat.zero_le _) (by first | rfl | simp)) | exact (RowO.lit _ 9 1 0 #[] rfl (Nat.zero_le _) (by first | rfl | simp)).drew) B P _ (L1.map strV) rfl (by rw [List.length_map, Hl1.out, Nat.mul_one]) (HT1.out _ (ext_trans Hb0.out (by repeat (first | exact Below.refl _ _ | exact Hx4.out | apply ext_drew | apply ext_drewN | apply ext_alloc)))) (strVs_one _) (by intro h; have := HBn.out h; omega) hp1 hp2 ?_
                intro A4 c4 w4 hr4 ho4 hA4
                rw [Nat.zero_add, List.nil_append] at hr4
                obtain ⟨hx4, hn4⟩ := grow_fresh (w0 := w0) (by repeat (first | exact Below.refl _ _ | exact Hx4.out | apply ext_drew | apply ext_drewN | apply ext_alloc)) ho4 hA4 (fun q hq => by rw [inA_some] at hq; subst hq; first | exact Nat.le_refl _ | simp)
                have Hx4 := Lib.hid hx4
                have Hn4 := Lib.hid hn4
                clear hx4 hn4
                have Hr4 := Lib.hid hr4
                have Hlt : Hid (Rd w4 (some ⟨w0.heap.size, 0, none⟩) [.string Z]) := Lib.hid (Rd.only (by first | exact Rd.lit_at _ #[.string Z] _ (by first | rfl | simp) | exact Rd.drew (Rd.lit_at _ #[.string Z] _ (by first | rfl | simp)) | exact Rd.alloc (Rd.lit_at _ #[.string Z] _ (by first | rfl | simp)) _ | exact Rd.drew (Rd.alloc (Rd.lit_at _ #[.string Z] _ (by first | rfl | simp)) _)) ho4 (fun ad e _ hq => by injection e with e; subst e; rw [inA_some] at hq; simp at hq))
                clear hr4 ho4 hA4
                refine hK.out _ _ ?_ (fun hHeld => ?_)
                · try dsimp only
                  exact HX.out _ (ext_trans Hb0.out (by repeat (first | exact Below.refl _ _ | exact Hx4.out | exact Hx5.out | apply ext_drew | apply ext_drewN | apply ext_alloc)))
                clear hK K
                refine wpAnyH_ready (rs := [10]) (by kernel_rfl) (by simp) ?_
                refine AllReadyH.cons (take_list rfl) (fun K hK => ?_) ?_
                · skip
                  simp only [Nat.zero_add]
                  refine step_appO _ rfl (.tmp 38) (.tmp 43) _ rfl 9 _ 1 16 Try.underlying40 info_str rfl A4 P c4 (L1.map strV) rfl (Hr4.out) (some ⟨_, 0, none⟩) 1 1 [.string Z] rfl rfl (Hlt.out) (by intro u hu; simp at hu; rw [hu]; rfl) (by intro h; cases h) hp3 hp4 ?_
                  intro A5 c5 w5 hr5 ho5 hA5
                  obtain ⟨hx5, hn5⟩ := grow_fresh (w0 := w0) (by repeat (first | exact Below.refl _ _ | exact Hx4.out | apply ext_drew | apply ext_drewN | apply ext_alloc)) ho5 hA5 (fun q hq => Hn4.out q hq)
                  have Hx5 := Lib.hid hx5
                  have Hn5 := Lib.hid hn5
                  clear hx5 hn5
                  have Hr5 := Lib.hid hr5
                  clear hr5 ho5 hA5
                  refine hK.out _ _ ?_ (fun hHeld => ?_)
                  · try dsimp only
                    exact HX.out _ (ext_trans Hb0.out (by repeat (first | exact Below.refl _ _ | exact Hx4.out | exact Hx5.out | apply ext_drew | apply ext_drewN | apply ext_alloc)))
                  clear hK K
                  refine wpAnyH_take (i := 11) (v := ?_) (take_list rfl) (by kernel_rfl) (by kernel_rfl) (by kernel_rfl) (fun _ _ _ h => h) (Or.inl ⟨by rfl, ?_⟩) (by assumption) ?_
                  rotate_left
                  · intro w hSw
                    try dsimp only at hSw
                    first | (go_simp; done) | (go_simp; with_reducible rfl)
                  try simp only [Act.put, List.setIfInBounds_toArray, List.set_cons_zero, List.set_cons_succ]
                  refine wpAnyH_done (by kernel_rfl) ?_ _
                  have Hrow5 : Hid (RowO w5 9 1 A5 (P + 1) c5 ((L1 ++ [s]).map strV)) := Lib.hid (by rw [List.map_append, List.map_singleton, HZ.out]; exact Hr5.out)
                  have HT5 := Lib.hid (HT2.out w5 (ext_trans Hb0.out Hx5.out))
                  by_cases hcp : cB = P
                  · have hz1 : cB - P = 0 := by omega
                    have hz2 : n - P = 0 := by have := Hcap.out; omega
                    obtain rfl : L2 = [] := List.eq_nil_of_length_eq_zero (by rw [Hl2.out]; exact hz2)
                    have hq1 : P + 1 + 0 ≤ maxLen := hp3
                    have hq2 : (P + 1 + 0) * 16 ≤ 140737488355328 := hp4
                    have Hnp : Hid (n = P) := Lib.hid (by have := Hcap.out; omega)
                    clear HT5
                    go_wp2_with (at_builtin
                                 refine wpList_appO _ rfl (.tmp 45) (.tmp 48) _ rfl 9 _ 1 16 Try.underlying40 info_str rfl A5 (P + 1) c5 _ rfl Hrow5.out B 0 _ [] rfl rfl (Rd.nil _ _) (by simp) (fun _ => rfl) hq1 hq2 ?_
                                 intro A7 c7 w7 hr7 ho7 hA7
                                 have Hr7 := Lib.hid hr7
                                 have Ho7 := Lib.hid ho7
                                 have HA7 := Lib.hid hA7
                                 clear hr7 ho7 hA7)
                    go_roundw
                    case rel => exact ⟨k + 1, L1 ++ s :: [], A7, c7, P + 1, by omega, by go_num, rfl, Lib.hid (by rw [List.length_append, List.length_cons, Hl1.out]; rfl), Lib.hid Hk1.out.symm, Lib.hid (words_grow (L2 := []) HN.out Hb0.out Hx5.out Hn5.out Hr7.out Ho7.out HA7.out)⟩
                    case measure => simp [intOf]; omega
                  · have hcp2 : ¬ P = cB := fun h => hcp h.symm
                    rw [if_neg hcp] at HT5
                    obtain ⟨ad2, hB2⟩ : ∃ ad2, B = some ad2 := by cases B with | none => exact absurd (HBn.out rfl).2 (by omega) | some a => exact ⟨a, rfl⟩
                    subst hB2
                    have HT6 : Hid (Rd w5 (some (ad2.add P)) (L2.map strV)) := Lib.hid (by have h := HT5.out; rw [Nat.mul_one] at h; exact h)
                    clear HT5
                    go_wp2_with (at_builtin
                                 refine wpList_appO _ rfl (.tmp 45) (.tmp 48) _ rfl 9 _ 1 16 Try.underlying40 info_str rfl A5 (P + 1) c5 _ rfl Hrow5.out (some (ad2.add P)) (n - P) _ (L2.map strV) rfl (by rw [List.length_map, Hl2.out, Nat.mul_one]) HT6.out (strVs_one _) (by intro h; cases h) hp5 hp6 ?_
                                 intro A7 c7 w7 hr7 ho7 hA7
                                 have Hr7 := Lib.hid hr7
                                 have Ho7 := Lib.hid ho7
                                 have HA7 := Lib.hid hA7
                                 clear hr7 ho7 hA7)
                    go_roundw
                    case rel => exact ⟨k + 1, L1 ++ s :: L2, A7, c7, P + 1 + (n - P), by omega, by go_num, rfl, Lib.hid (by rw [List.length_append, List.length_cons, Hl1.out, Hl2.out]; omega), Lib.hid Hk1.out.symm, Lib.hid (words_grow HN.out Hb0.out Hx5.out Hn5.out Hr7.out Ho7.out HA7.out)⟩
                    case measure => simp [intOf]; omega
                exact AllReadyH.nil
              exact AllReadyH.nil
            exact AllReadyH.nil
          exact AllReadyH.nil
    · obtain rfl : k = l.length := by omega
      have hO := HO.out
      rw [← HE.out] at hO
      have HO2 := Lib.hid hO
      clear hO
      go_wp2
      go_ret
      have h1 := HN.out
      rw [Hn.out, HO2.out] at h1
      exact ⟨B, cB, by rw [Hn.out, HO2.out]; rfl, h1⟩
end Go.Proofs.Ythceajadgjnnmaa

/-
  Encode (reference). No statement of the seat is proved here.
-/
namespace Go.Proofs.Ythceajadgjnnmaa
open Go Go.RowKit
set_option maxRecDepth 100000

theorem plc_snoc (W l : List (List UInt8)) {k : Nat} (h : k < l.length) : (l.take (k + 1)).map (fun s => (placeT W s : Int)) = (l.take k).map (fun s => (placeT W s : Int)) ++ [(placeT W l[k] : Int)] := by
  rw [List.take_succ_eq_append_getElem h, List.map_append]
  rfl
theorem refnum_digD (n : Nat) (hn : n ≤ 32768) : numsB [(n : Int)] = dig n := by rw [numsB_one, clamp_of_nat (by omega)]

set_option maxHeartbeats 16000000 in
theorem rencodeD_any (A : Option Addr) (c : Nat) (l : List (List UInt8)) (w : World) (hA : Rd w A (l.map strV)) (hl : l.length ≤ 1000000) (hs : ∀ s ∈ l, s.length ≤ 1000000) :
    Calls Try.prog 27 #[.slice A l.length c] w fun e w' => ∃ A' c', e = .returned (.tuple #[.slice A' (ansD l).1.length c', .int .i64 (ansD l).2]) ∧ New w w' A' c' (ansD l).1 ∧ Below w.heap.size w w' := by
  by_cases h1 : l.length ≤ 32768
  case neg =>
    have h1i : (32768 : Int) < (l.length : Int) := by omega
    have HR : Hid (ansD l = ([], 1)) := Lib.hid (by unfold ansD; rw [mayD_len h1]; rfl)
    clear hA hs
    go_enter Try.func27, Try.ntmps27
    go_wp2
    go_ret2
    rw [HR.out]
    exact ⟨none, 0, rfl, Own.none_ _ _ _, Below.refl _ _⟩
  have h1i : ¬ (32768 : Int) < (l.length : Int) := by omega
  have hli : (l.length : Int) ≤ 32768 := by omega
  have HA := Lib.hid hA
  have H1 := Lib.hid h1
  have HLs : Hid (∀ s ∈ l, s.length ≤ 1000000) := Lib.hid hs
  have HNo : Hid (∀ (k : Nat) (hk : k < l.length), longT l[k] = true → ansD l = ([], 1)) := Lib.hid (fun k hk h => by
    unfold ansD mayD
    rw [show l.any longT = true from List.any_eq_true.2 ⟨l[k], List.getElem_mem hk, h⟩]
    simp)
  have HYes : Hid ((∀ (k : Nat) (hk : k < l.length), longT l[k] = false) → mayD l = true) := Lib.hid (fun h => by
    unfold mayD
    rw [show l.any longT = false by
      rw [List.any_eq_false]
      intro s hs
      obtain ⟨j, hj, rfl⟩ := List.mem_iff_getElem.1 hs
      simp [h j hj], decide_eq_true h1]
    rfl)
  clear hA hs h1
  go_enter Try.func27, Try.ntmps27
  go_wp2
  go_loop [4] (fun i => ∃ k : Nat, k ≤ l.length ∧ i = .int .i64 (k : Int) ∧ Hid (∀ (j : Nat) (hj : j < l.length), j < k → longT l[j] = false)) (fun i => l.length - (intOf i).toNat)
  case atStart => exact ⟨0, Nat.zero_le _, rfl, Lib.hid (fun j _ h => absurd h (by omega))⟩
  case round =>
    obtain ⟨k, hk, rfl, Hno⟩ := hrel
    by_cases hlt : k < l.length
    · have hki : (k : Int) < (l.length : Int) := by omega
      obtain ⟨ad, hB, hcell⟩ := rd_str HA.out hlt
      subst hB
      have hsl := HLs.out _ (List.getElem_mem hlt)
      have HF : Hid (longT l[k] = false → ∀ (j : Nat) (hj : j < l.length), j < k + 1 → longT l[j] = false) := Lib.hid (fun h j hj hj2 => by
        rcases Nat.lt_succ_iff_lt_or_eq.1 hj2 with h3 | rfl
        · exact Hno.out j hj h3
        · exact h)
      have HNk : Hid (longT l[k] = true → ansD l = ([], 1)) := Lib.hid (HNo.out k hlt)
      have hlg : longT l[k] = decide (4096 < l[k].length) := rfl
      generalize l[k] = s at *
      have hsz : (⟨s.toArray⟩ : ByteArray).size = s.length := rfl
      unfold strV at hcell
      obtain ⟨Z, hZ⟩ : ∃ Z : ByteArray, (⟨s.toArray⟩ : ByteArray) = Z := ⟨_, rfl⟩
      rw [hZ] at hcell hsz
      by_cases hx : 4096 < s.length
      · have hzi : (4096 : Int) < (Z.size : Int) := by omega
        have HR2 := Lib.hid (HNk.out (by rw [hlg]; exact decide_eq_true hx))
        clear hZ hsz hlg HF HNk hx
        go_wp2
        go_ret2
        rw [HR2.out]
        exact ⟨none, 0, rfl, Own.none_ _ _ _, Below.refl _ _⟩
      · have hzi : ¬ (4096 : Int) < (Z.size : Int) := by omega
        have hzj : (Z.size : Int) ≤ 4096 := by omega
        have Hf := Lib.hid (HF.out (by rw [hlg]; exact decide_eq_false hx))
        clear hZ hsz hlg HF HNk hx
        go_wp2
        go_round
        case rel => exact ⟨k + 1, by omega, by go_num, Hf⟩
        case measure => simp [intOf]; omega
    · obtain rfl : k = l.length := by omega
      have hmy := HYes.out (fun j hj => Hno.out j hj hj)
      have h4 := ((mayD_iff l).1 hmy).2
      have HR : Hid (ansD l = (encD l, 0)) := Lib.hid (by unfold ansD; rw [if_pos hmy])
      have HWd := Lib.hid (rwords_any A c l w HA.out H1.out)
      have HWl := Lib.hid (wordsT_len l)
      have H4 : Hid (∀ s ∈ wordsT l, s.length ≤ 4096) := Lib.hid (fun s hs => h4 s (wordsT_mem.1 hs))
      have HRi := Lib.hid (wordsT_rises l).calm
      have HPl : Hid (placesT l = (l.take l.length).map fun s => (placeT (wordsT l) s : Int)) := Lib.hid (by rw [List.take_length]; rfl)
      have HBs : Hid (∀ (B : Option Addr) (cB : Nat) (W : World), Rd W B ((placesT l).map iv) → WayC 20 B (placesT l).length cB (bestP (placesT l)) W) := Lib.hid (fun B cB W hW => way_of (places_may H1.out) (rbest_any B cB (placesT l) W hW (by rw [placesT_len]; have := H1.out; omega)))
      have HBl : Hid ((bestP (placesT l)).length ≤ 2000000) := Lib.hid (best_len (places_may H1.out) (by rw [placesT_len]; have := H1.out; omega))
      have HE : Hid (encD l = numsB [((wordsT l).length : Int)] ++ (rowsTo (wordsT l) (wordsT l).length ++ rowsB [bestP (placesT l)])) := Lib.hid (by rw [rowsTo_all]; rfl)
      have hpll := placesT_len l
      have Hpll := Lib.hid hpll
      unfold WayC at HBs
      generalize placesT l = PL at *
      generalize wordsT l = Wd at *
      generalize bestP PL = b at *
      have HL := Lib.hid (rowsTo_lenD Wd H4.out)
      have HN1 : Hid ((numsB [(Wd.length : Int)]).length ≤ 9) := Lib.hid (dig_nine _)
      have hwi : (Wd.length : Int) ≤ 32768 := by have := HWl.out; omega
      have Hwi := Lib.hid hwi
      clear hmy h4 Hno HNo HYes hpll
      go_wp2_with fail
      refine HWd.out.mono ?_
      rintro e w1 ⟨A1, c1, rfl, hN⟩
      have Hb1 := Lib.hid hN.bel
      have Hr1 := Lib.hid hN.rd
      obtain ⟨Nb, hNb⟩ : ∃ Nb, numsB [(Wd.length : Int)] = Nb := ⟨_, rfl⟩
      have hNd : dig (clamp (Wd.length : Int)) = Nb := by rw [← hNb, numsB_one]
      have HRn := Lib.hid (refnum_any (Wd.length : Int) w1 ⟨by omega, by omega⟩)
      rw [hNd] at HRn
      rw [hNb] at HE HN1
      clear hN HWd hNb hNd
      go_wp2_with fail
      refine HRn.out.mono ?_
      rintro e w2 ⟨A2, c2, rfl, hn2, hb2⟩
      have Hb2 := Lib.hid hb2
      have Hn2 := Lib.hid hn2
      clear hn2 hb2 HRn
      go_wp2
      go_loopw [6, 7] (fun s i wr => ∃ (k : Nat) (ds : List UInt8) (A1 : Option Addr) (c1 : Nat), k ≤ Wd.length ∧ i = .int .i64 (k : Int) ∧ s = .slice A1 ds.length c1 ∧ Hid (ds = Nb ++ rowsTo Wd k) ∧ Hid (New w1 wr A1 c1 ds) ∧ Hid (Below w1.heap.size w1 wr)) (fun _ i _ => Wd.length - (intOf i).toNat)
      case atStart => exact ⟨0, Nb, A2, c2, Nat.zero_le _, rfl, rfl, Lib.hid (by simp [rowsTo, rowsB]), Hn2, Hb2⟩
      case round =>
        obtain ⟨k, ds, A3, c3, hk, rfl, rfl, Hds, Hn, Hb⟩ := hrel
        have hdl : ds.length ≤ 200000000 := by
          rw [Hds.out, List.length_append]
          have := HL.out k
          have := HN1.out
          have := HWl.out
          have := H1.out
          omega
        have Hdl := Lib.hid hdl
        by_cases hlt : k < Wd.length
        · have hki : (k : Int) < (Wd.length : Int) := by omega
          obtain ⟨ad, hBa, hcell⟩ := rd_str (Hr1.out.ext Hb.out) hlt
          subst hBa
          have Hsn : Hid (Nb ++ rowsTo Wd (k + 1) = (Nb ++ rowsTo Wd k) ++ (dig Wd[k].length ++ Wd[k])) := Lib.hid (by rw [rowsTo_succ Wd k hlt]; simp)
          have hs5 := H4.out _ (List.getElem_mem hlt)
          generalize Wd[k] = s at *
          obtain ⟨Y, hY⟩ : ∃ Y, dig s.length ++ s = Y := ⟨_, rfl⟩
          have hyl : Y.length ≤ 4105 := by
            have h2 := dig_len 9 s.length (by have : (128 : Nat) ^ 9 = 9223372036854775808 := rfl; omega) (by omega)
            rw [← hY, List.length_append]
            omega
          rw [hY] at Hsn
          obtain ⟨cc, wc, hcv, hcc, hrc, hbc, hzc⟩ := str_row wr s
          unfold strV at hcell
          have HC := Lib.hid (refbytes_any _ s.length cc s Y wc rfl hY hrc (by omega))
          have Hbc := Lib.hid hbc
          have hk1 : ds.length + Y.length ≤ maxLen := by unfold maxLen; omega
          have hk2 : (ds.length + Y.length) * 1 ≤ 140737488355328 := by omega
          clear hrc hbc hzc hcc hY hs5 hdl hyl
          go_wp2_with fail
          refine HC.out.mono ?_
          rintro e w4 ⟨A4, c4, rfl, hn4, hb4⟩
          have Hb4 := Lib.hid (ext_trans Hbc.out hb4)
          have Hn4 := Lib.hid hn4
          clear hn4 hb4
          go_wp2_with (at_builtin
                       refine wpList_app _ rfl (.tmp 38) (.tmp 44) _ rfl _ _ 1 Try.underlying23 info_u8 rfl A3 ds.length c3 (ds.map bv) rfl (by rw [List.length_map]) (Hn.out.ext Hb4.out) A4 Y.length c4 (Y.map bv) rfl (by rw [List.length_map]) Hn4.out.rd (bvs_one _) hk1 hk2 ?_
                       intro A5 c5 w5 hown5 honly5)
          go_roundw
          case rel =>
            obtain ⟨g1, g2⟩ := New.grow (ext_trans Hb.out Hb4.out) hown5 honly5
            exact ⟨k + 1, ds ++ Y, A5, c5, by omega, by go_num, by rw [List.length_append], Lib.hid (by rw [Hsn.out, Hds.out]), Lib.hid g1, Lib.hid g2⟩
          case measure => simp [intOf]; omega
        · obtain rfl : k = Wd.length := by omega
          obtain ⟨wo, hwo⟩ : ∃ wo : World, wo = wr := ⟨_, rfl⟩
          subst hwo
          have HPL2 : Hid ((l.take l.length).map (fun s => (placeT Wd s : Int)) = PL) := Lib.hid HPl.out.symm
          have HSt : Hid (∀ (k : Nat) (hk : k < l.length), (l.take (k + 1)).map (fun s => (placeT Wd s : Int)) = (l.take k).map (fun s => (placeT Wd s : Int)) ++ [(placeT Wd l[k] : Int)]) := Lib.hid (fun k hk => plc_snoc Wd l hk)
          have HPx := Lib.hid (fun (x : List UInt8) (V : World) (hV : Rd V A1 (Wd.map strV)) => rplace_any A1 c1 Wd x V hV HRi.out (by have := HWl.out; have := H1.out; omega))
          have HEn : Hid (encD l = ds ++ rowsB [b]) := Lib.hid (by rw [HE.out, Hds.out, List.append_assoc])
          have H0 : Hid ((l.take 0).map (fun s => (placeT Wd s : Int)) = []) := Lib.hid rfl
          have hpm : ∀ x, placeT Wd x ≤ 32768 := fun x => by have := placeT_le Wd x; have := HWl.out; have := H1.out; omega
          have Hpm := Lib.hid hpm
          obtain ⟨AT, hAT⟩ : ∃ AT : Nat → List Int, AT = fun k => (l.take k).map (fun s => (placeT Wd s : Int)) := ⟨_, rfl⟩
          have HA0 : Hid (AT 0 = []) := Lib.hid (by rw [hAT]; rfl)
          have HAn : Hid (AT l.length = PL) := Lib.hid (by rw [hAT]; exact HPL2.out)
          have HAs : Hid (∀ (k : Nat) (hk : k < l.length), AT (k + 1) = AT k ++ [(placeT Wd l[k] : Int)]) := Lib.hid (fun k hk => by rw [hAT]; exact HSt.out k hk)
          clear hAT HPL2 HSt H0 hpm hdl HPl
          go_wp2
          go_loopw [8, 9] (fun s i wr => ∃ (k : Nat) (B : Option Addr) (cB : Nat), k ≤ l.length ∧ i = .int .i64 (k : Int) ∧ s = .slice B k cB ∧ Hid (NewO wo wr 3 1 B k cB ((AT k).map iv))) (fun _ i _ => l.length - (intOf i).toNat)
          case atStart => exact ⟨0, none, 0, Nat.zero_le _, rfl, rfl, Lib.hid (by rw [HA0.out]; exact NewO.start _ _ _)⟩
          case round =>
            obtain ⟨k, B, cB, hk, rfl, rfl, HN⟩ := hrel
            by_cases hlt2 : k < l.length
            · have hki : (k : Int) < (l.length : Int) := by omega
              obtain ⟨ad, hBa, hcell⟩ := rd_str (HA.out.ext (ext_trans Hb1.out (ext_trans Hb.out HN.out.bel))) hlt2
              subst hBa
              have HP2 := Lib.hid (HPx.out l[k] wr (Hr1.out.ext (ext_trans Hb.out HN.out.bel)))
              have Hsn := Lib.hid (HAs.out k hlt2)
              have hk2 : k + 1 ≤ maxLen := by unfold maxLen; have := H1.out; omega
              have hk3 : (k + 1) * 8 ≤ 140737488355328 := by have := H1.out; omega
              generalize l[k] = s at *
              generalize placeT Wd s = P at *
              unfold strV at hcell HP2
              obtain ⟨Z, hZ⟩ : ∃ Z : ByteArray, (⟨s.toArray⟩ : ByteArray) = Z := ⟨_, rfl⟩
              rw [hZ] at hcell HP2
              clear hZ
              go_wp2_with fail
              refine HP2.out.mono ?_
              rintro e w' ⟨rfl, rfl⟩
              go_wp2_with (at_builtin
                           refine wpList_app_new rfl (.tmp 52) (.tmp 59) _ rfl 3 _ 1 8 Try.underlying22 info_int rfl B _ cB _ HN.out (ext_alloc (Below.refl _ _) _) rfl ⟨wr.heap.size, 0, none⟩ 1 [.int .i64 (P : Int)] rfl rfl (Rd.lit _ #[.int .i64 (P : Int)] _) ?_ hk2 hk3 ?_
                           · intro x hx; simp at hx; rw [hx]; rfl
                           intro A7 c7 w7 hN7 hb7
                           have HN7 : Hid (NewO wo w7 3 1 A7 (k + 1) c7 ((AT (k + 1)).map iv)) := Lib.hid (by rw [Hsn.out, List.map_append]; exact hN7)
                           clear hN7 hb7)
              go_roundw
              case rel => exact ⟨k + 1, A7, c7, by omega, by go_num, rfl, HN7⟩
              case measure => simp [intOf]; omega
            · obtain rfl : k = l.length := by omega
              have hrd := HN.out.rd
              rw [HAn.out] at hrd
              have HBx := Lib.hid (HBs.out B cB wr hrd)
              rw [Hpll.out] at HBx
              have Hbo := Lib.hid HN.out.bel
              have HY := Lib.hid (fun (A : Option Addr) (c : Nat) (W : World) (hW : Rd W A (b.map bv)) => refbytes_any A b.length c b (dig b.length ++ b) W rfl rfl hW (by have := HBl.out; omega))
              rw [rowsB_sing] at HEn
              have hyl : (dig b.length ++ b).length ≤ 2000009 := by have := rowsB_lenD b HBl.out; rwa [rowsB_sing] at this
              generalize dig b.length ++ b = Y at *
              have hk1 : ds.length + Y.length ≤ maxLen := by unfold maxLen; have := Hdl.out; omega
              have hk2 : (ds.length + Y.length) * 1 ≤ 140737488355328 := by have := Hdl.out; omega
              clear hrd HBs hyl
              go_wp2_with fail
              refine HBx.out.mono ?_
              rintro e w4 ⟨A4, c4, rfl, hr4, hc4, hb4⟩
              have HY4 := Lib.hid (HY.out A4 c4 w4 hr4)
              have Hb4 := Lib.hid (ext_trans Hbo.out hb4)
              clear hr4 hc4 hb4 HY
              go_wp2_with fail
              refine HY4.out.mono ?_
              rintro e w5 ⟨A5, c5, rfl, hn5, hb5⟩
              have Hb5 := Lib.hid (ext_trans Hb4.out hb5)
              have Hn5 := Lib.hid hn5
              clear hn5 hb5
              go_wp2_with (at_builtin
                           refine wpList_app _ rfl (.tmp 66) (.tmp 68) _ rfl _ _ 1 Try.underlying23 info_u8 rfl A3 ds.length c3 (ds.map bv) rfl (by rw [List.length_map]) (Hn.out.ext Hb5.out) A5 Y.length c5 (Y.map bv) rfl (by rw [List.length_map]) Hn5.out.rd (bvs_one _) hk1 hk2 ?_
                           intro A6 c6 w6 hown6 honly6)
              go_ret2
              obtain ⟨g1, g2⟩ := New.grow (ext_trans Hb.out Hb5.out) hown6 honly6
              rw [HR.out]
              refine ⟨A6, c6, ?_, ?_, ext_trans Hb1.out g2⟩
              · show _ = Ending.returned (.tuple #[.slice A6 (encD l).length c6, .int .i64 0])
                rw [HEn.out, List.length_append]
                rfl
              · show New w w6 A6 c6 (encD l)
                rw [HEn.out]
                exact g1.back Hb1.out.size
end Go.Proofs.Ythceajadgjnnmaa

/-
  Decode (reference). No statement of the seat is proved here.
-/
namespace Go.Proofs.Ythceajadgjnnmaa
open Go Go.RowKit
set_option maxRecDepth 100000

theorem plcD_of {N : Nat} {p b0 : List UInt8} {bad0 : Bool} {acc : List (List UInt8)} {rest : List UInt8} {bad : Bool} (h1 : (stNum p false).2 = (b0, bad0)) (h2 : takeR N b0 bad0 = (acc, rest, bad)) : plcD N p = stBytes rest bad := by
  unfold plcD wrdD
  rw [h1, h2]
/-- how much there can be -/
theorem tkd_le {L : Nat} {acc : List (List UInt8)} {rest : List UInt8} {s : List UInt8} (h : acc.length + rest.length ≤ L) : ((stBytes rest false).2.2 = false → (acc ++ [s]).length + (stBytes rest false).2.1.length ≤ L) ∧ (acc ++ [s]).length ≤ L + 1 := by
  rw [List.length_append]
  refine ⟨fun hb => ?_, by simp; omega⟩
  have := stBytes_good hb
  simp
  omega
/-- what is answered, told by the place where the reading ended -/
theorem rdec_cases {p b0 : List UInt8} {bad0 : Bool} {acc : List (List UInt8)} {rest : List UInt8} {bad : Bool} (h1 : (stNum p false).2 = (b0, bad0)) (h2 : takeR (cntD p) b0 bad0 = (acc, rest, bad)) :
    ((stBytes rest bad).2.2 = true → decD p = ([], 2)) ∧ ((decR (stBytes rest bad).1).2 ≠ 0 → decD p = ([], 2)) ∧ ((decR (stBytes rest bad).1).2 = 0 → (decR (stBytes rest bad).1).1.all (inD acc) = false → decD p = ([], 2)) ∧
      ((decR (stBytes rest bad).1).2 = 0 → (decR (stBytes rest bad).1).1.all (inD acc) = true → decD p = if (ansD ((decR (stBytes rest bad).1).1.map (pkD acc))).2 = 0 ∧ decide ((ansD ((decR (stBytes rest bad).1).1.map (pkD acc))).1 = p) = true then ((decR (stBytes rest bad).1).1.map (pkD acc), 0) else ([], 2)) := by
  have ht := takD_of (N := cntD p) h1 h2
  refine ⟨fun h => ?_, fun h => ?_, fun h h' => ?_, fun h h' => ?_⟩
  · exact dec_flag p (.inl rfl) (by rw [plcD_of h1 h2]; exact h)
  · rw [if_neg (fun hx => h hx.1)] at ht
    rw [dec_take (.inl rfl) ht, if_neg (by simp)]
  · rw [if_neg (fun hx => by rw [h'] at hx; exact absurd hx.2 (by simp))] at ht
    rw [dec_take (.inl rfl) ht, if_neg (by simp)]
  · rw [if_pos ⟨h, h'⟩] at ht
    rw [dec_take (.inl rfl) ht]
    simp

set_option maxHeartbeats 16000000 in
theorem rdecodeD_any (p : List UInt8) (A : Option Addr) (ca : Nat) (w : World) (hA : Rd w A (p.map bv)) (hc : p.length ≤ ca) (hp : p.length ≤ 900000) :
    Calls Try.prog 33 #[.slice A p.length ca] w fun e w' => ∃ A' c', e = .returned (.tuple #[.slice A' (decD p).1.length c', .int .i64 (decD p).2]) ∧ TxtAt w' A' c' (decD p).1 ∧ Below w.heap.size w w' := by
  have HCs : Hid (∀ acc rest bad, takeR (stNum p false).1 (stNum p false).2.1 (stNum p false).2.2 = (acc, rest, bad) → ((stBytes rest bad).2.2 = true → decD p = ([], 2)) ∧ ((decR (stBytes rest bad).1).2 ≠ 0 → decD p = ([], 2)) ∧ ((decR (stBytes rest bad).1).2 = 0 → (decR (stBytes rest bad).1).1.all (inD acc) = false → decD p = ([], 2)) ∧
      ((decR (stBytes rest bad).1).2 = 0 → (decR (stBytes rest bad).1).1.all (inD acc) = true → decD p = if (ansD ((decR (stBytes rest bad).1).1.map (pkD acc))).2 = 0 ∧ decide ((ansD ((decR (stBytes rest bad).1).1.map (pkD acc))).1 = p) = true then ((decR (stBytes rest bad).1).1.map (pkD acc), 0) else ([], 2))) := Lib.hid (fun acc rest bad h => rdec_cases rfl h)
  generalize decD p = R at *
  have HA := Lib.hid hA
  obtain ⟨w2, hw2⟩ : ∃ w2, w2 = w.alloc (.cells #[.slice A p.length ca, .bool false] 66) := ⟨_, rfl⟩
  have Hb2 : Hid (Below w.heap.size w w2) := Lib.hid (by rw [hw2]; exact ext_alloc (Below.refl _ _) _)
  have HR2 : Hid (RRd w2 (fun k => k < w.heap.size ∨ k = w.heap.size) w.heap.size p false) := Lib.hid (by
    refine ⟨.inr rfl, (fun h => by cases h), A, ca, ?_, hA.ext Hb2.out, fun ad e hne => ?_, hc⟩
    · rw [hw2]; exact Blk.new _ _ _
    · obtain ⟨ad', e', hcell⟩ := hA.at_ (k := 0) (by have := List.length_pos_iff.2 hne; simpa using this)
      rw [e] at e'; injection e' with e'; subst e'
      have hl := World.block_lt_of_cell? w _ hcell
      rw [block_add] at hl
      exact ⟨.inl hl, by omega⟩)
  have Hw2 := Lib.hid hw2
  obtain ⟨g, hg⟩ : ∃ g, w.heap.size = g := ⟨_, rfl⟩
  have h1l := stNum_len p false
  have hnl := stNum_le p false
  have Hp := Lib.hid hp
  clear hw2 hA
  go_enter Try.func33, Try.ntmps33
  go_wp2_with fail
  rw [← Hw2.out]
  rw [hg] at HR2
  have Hg := Lib.hid hg
  clear hg
  refine (refnum_st _ g p false w2 HR2.out (by omega)).mono ?_
  rintro e w5 ⟨rfl, hr3, ho3⟩
  generalize stNum p false = q1 at *
  obtain ⟨N, b0, bad0⟩ := q1
  simp only at HCs hr3 h1l hnl ⊢
  have Hr5 := Lib.hid hr3
  have Hb5 : Hid (Below w.heap.size w w5) := Lib.hid (Hb2.out.trans (ho3.below (fun i hi => by have := Hg.out; omega) Hb2.out.size))
  have Hgl : Hid (g < w5.heap.size) := Lib.hid hr3.lt
  have Hb0l : Hid (b0.length ≤ 900000) := Lib.hid (by omega)
  have hNi : (N : Int) ≤ 4611686018427387904 := by omega
  clear hr3 ho3 h1l hp
  go_wp2
  go_loopw [6, 8] (fun s i wr => ∃ (j m : Nat) (acc : List (List UInt8)) (rest : List UInt8) (bad : Bool) (A1 : Option Addr) (c1 : Nat), i = .int .i64 (j : Int) ∧ s = .slice A1 acc.length c1 ∧ Hid (j + m = N) ∧ Hid (Tkd N b0 bad0 m acc rest bad) ∧ Hid ((bad = false → acc.length + rest.length ≤ b0.length) ∧ acc.length ≤ b0.length + 1) ∧ RRd wr (fun k => k < g ∨ k = g) g rest bad ∧ FrS w5 wr A1 c1 acc ∧ Only (fun k => k = g) w5 wr) (fun _ i _ => N - (intOf i).toNat)
  case atStart => exact ⟨0, N, [], b0, bad0, none, 0, rfl, rfl, Lib.hid (by omega), Lib.hid ⟨rfl, rfl, by simp, by simp, Nat.le_refl _⟩, Lib.hid ⟨fun _ => by simp, by simp⟩, Hr5.out, FrS.start _ _, Only.refl _ _⟩
  case round =>
    obtain ⟨j, m, acc, rest, bad, A1, c1, rfl, rfl, Hjm, Hrd, Hal, hr, hS, ho⟩ := hrel
    have Hr := Lib.hid hr
    have HS := Lib.hid hS
    have Ho := Lib.hid ho
    obtain ⟨_, _, Ar, cr, hblk, _, _, _⟩ := hr
    have hc1 := hblk.cell 1
    simp only [List.getElem?_toArray, List.getElem?_cons_zero, List.getElem?_cons_succ] at hc1
    have Hen : Hid (acc.length ≤ 900001) := Lib.hid (by have := Hal.out.2; have := Hb0l.out; omega)
    have Hea : Hid (∀ s ∈ acc, s.length ≤ 1000000) := Lib.hid (fun s hs => by have := Hrd.out.each s hs; have := Hb0l.out; omega)
    have Hrs : Hid (rest.length ≤ 900000) := Lib.hid (Nat.le_trans Hrd.out.short Hb0l.out)
    have HEX := Lib.hid (fun (he : m = 0 ∨ bad = true) => HCs.out acc rest bad (Hrd.out.end_ he))
    have HBY := Lib.hid (refbytes_st (fun k => k < g ∨ k = g) g rest bad wr Hr.out (by have := Hrs.out; omega))
    have hji : (j : Int) ≤ 4611686018427387904 := by have := Hjm.out; omega
    clear hS ho hblk
    by_cases hm : m = 0
    · have hjN : ¬ (j : Int) < (N : Int) := by have := Hjm.out; omega
      have HC := Lib.hid (HEX.out (.inl hm))
      clear HEX hm
      obtain ⟨⟨B, rs2, fl⟩, hB⟩ : ∃ q, stBytes rest bad = q := ⟨_, rfl⟩
      have hBl : B.length ≤ 900000 := by have := (stBytes_len rest bad).2; rw [hB] at this; exact Nat.le_trans this Hrs.out
      rw [hB] at HC HBY
      simp only at HC HBY
      have HDe := Lib.hid (fun (A : Option Addr) (c : Nat) (W : World) (hW : Rd W A (B.map bv)) (hc : B.length ≤ c) => rdecode_any B A c W hW hc (by omega))
      have hRl := decR_len B
      have hRe := decR_snd B
      have hRv : ∀ v ∈ (decR B).1, 0 ≤ v ∧ v ≤ 1099511627776 := by
        rcases hRe with h | h
        · exact ((mayP_iff _).1 (decR_ok h)).2
        · rw [h]; simp
      obtain ⟨pl, er, hR⟩ : ∃ pl er, decR B = (pl, er) := ⟨_, _, rfl⟩
      rw [hR] at HC hRl hRe hRv
      simp only [hR] at HDe
      simp only at HC hRl hRe hRv
      have HRl := Lib.hid hRl
      have HRe : Hid (er = 0 ∨ (pl = [] ∧ er = 2)) := Lib.hid (by
        rcases hRe with h | h
        · exact .inl h
        · injection h with h1 h2; exact .inr ⟨h1, h2⟩)
      have HRv := Lib.hid hRv
      have hpli : (pl.length : Int) ≤ 32768 := by omega
      clear hB hBl hRl hRe hRv hR
      go_wp2_with fail
      refine HBY.out.mono ?_
      rintro e x1 ⟨A2, c2, rfl, hn2, hr2, ho2⟩
      have hc2 : B.length ≤ c2 := by have := Own.cap hn2; simpa using this
      have HD2 := Lib.hid (HDe.out A2 c2 x1 hn2.rd hc2)
      have Ho2 := Lib.hid (Ho.out.trans ho2 (fun _ _ h => h))
      have hrow : RowO x1 9 1 A1 acc.length c1 (acc.map strV) := HS.out.row.only ho2 (fun k hk e => by have := HS.out.new k hk; have := Hgl.out; omega)
      have Hrow := Lib.hid hrow.rd
      have HR2 := Lib.hid hr2
      clear hn2 hr2 ho2 hc2 hrow HDe HBY hc1
      go_wp2_with fail
      refine HD2.out.mono ?_
      rintro e x2 ⟨A5, c5, rfl, hr5, hb5⟩
      have Hr5 := Lib.hid hr5
      have Hw5 := Lib.hid (Hrow.out.ext hb5)
      have Ho5 : Hid (Only (fun k => k = g) w5 x2) := Lib.hid (Ho2.out.trans (Only.of_ext (S := fun k => k = g) hb5) (fun _ _ h => h))
      have Hb6 : Hid (Below w.heap.size w x2) := Lib.hid (Hb5.out.trans (Ho5.out.below (fun i hi => by have := Hg.out; omega) Hb5.out.size))
      obtain ⟨_, _, Ar2, cr2, hblk2, _, _, _⟩ := HR2.out.ext hb5
      have hc1 := hblk2.cell 1
      simp only [List.getElem?_toArray, List.getElem?_cons_zero, List.getElem?_cons_succ] at hc1
      clear hr5 hb5 HD2 hblk2
      cases fl with
      | true =>
        have HRR : Hid (R = ([], 2)) := Lib.hid (HC.out.1 rfl)
        clear HC
        go_wp2
        go_ret2
        rw [HRR.out]
        exact ⟨none, 0, rfl, TxtAt.none_ _, Hb6.out⟩
      | false =>
      by_cases he0 : er = 0
      case neg =>
        have HRR : Hid (R = ([], 2)) := Lib.hid (HC.out.2.1 he0)
        have hne : (er != 0) = true := by simpa using he0
        clear HC
        go_wp2
        go_ret2
        rw [HRR.out]
        exact ⟨none, 0, rfl, TxtAt.none_ _, Hb6.out⟩
      subst he0
      go_wp2
      go_loopw [7, 11] (fun s i wr2 => ∃ (k : Nat) (A6 : Option Addr) (c6 : Nat), k ≤ pl.length ∧ i = .int .i64 (k : Int) ∧ s = .slice A6 k c6 ∧ Hid (∀ j (hj : j < pl.length), j < k → inD acc pl[j] = true) ∧ Hid (NewO x2 wr2 9 1 A6 k c6 (((pl.take k).map (pkD acc)).map strV))) (fun _ i _ => pl.length - (intOf i).toNat)
      case atStart => exact ⟨0, none, 0, Nat.zero_le _, rfl, rfl, Lib.hid (fun j _ h => absurd h (by omega)), Lib.hid (NewO.start _ _ _)⟩
      case round =>
        obtain ⟨k, A6, c6, hk, rfl, rfl, Hno, HN6⟩ := hrel
        by_cases hlt : k < pl.length
        · have hki : (k : Int) < (pl.length : Int) := by omega
          obtain ⟨ad, hB, hcell⟩ := rd_int (Hr5.out.ext HN6.out.bel) hlt
          subst hB
          have hv := HRv.out _ (List.getElem_mem hlt)
          by_cases hin : pl[k] < (acc.length : Int)
          · obtain ⟨v, hvn⟩ : ∃ v : Nat, pl[k] = (v : Int) := ⟨pl[k].toNat, by omega⟩
            have hva : v < acc.length := by omega
            obtain ⟨ad2, hA, hcell2⟩ := rd_str (Hw5.out.ext HN6.out.bel) hva
            subst hA
            have Hsn : Hid (((pl.take (k + 1)).map (pkD acc)).map strV = ((pl.take k).map (pkD acc)).map strV ++ [strV acc[v]]) := Lib.hid (by
              rw [List.take_succ_eq_append_getElem hlt, List.map_append, List.map_append, List.map_singleton, List.map_singleton, hvn]
              unfold pkD
              rw [Int.toNat_natCast, List.getD_eq_getElem?_getD, List.getElem?_eq_getElem hva]
              rfl)
            have Hno2 : Hid (∀ j (hj : j < pl.length), j < k + 1 → inD acc pl[j] = true) := Lib.hid (fun j hj hj2 => by
              rcases Nat.lt_succ_iff_lt_or_eq.1 hj2 with h3 | rfl
              · exact Hno.out j hj h3
              · exact decide_eq_true hin)
            have hge : ¬ (acc.length : Int) ≤ (v : Int) := by omega
            have hgen : decide (acc.length ≤ v) = false := decide_eq_false (by omega)
            have hvi : (v : Int) < (acc.length : Int) := by omega
            have hk2 : k + 1 ≤ maxLen := by unfold maxLen; have := HRl.out; omega
            have hk3 : (k + 1) * 16 ≤ 140737488355328 := by have := HRl.out; omega
            rw [hvn] at hcell
            obtain ⟨Z, hu⟩ : ∃ Z : ByteArray, strV acc[v] = .string Z := ⟨_, rfl⟩
            rw [hu] at hcell2 Hsn
            clear hvn hin hv hu hva
            go_wp2_with (at_builtin
                         refine wpList_app_new rfl (.tmp 63) (.tmp 71) _ rfl 9 _ 1 16 Try.underlying40 info_str rfl A6 _ c6 _ HN6.out (ext_alloc (Below.refl _ _) _) rfl ⟨wr.heap.size, 0, none⟩ 1 [.string Z] rfl rfl (Rd.lit _ #[.string Z] _) ?_ hk2 hk3 ?_
                         · intro x hx; simp at hx; rw [hx]; rfl
                         intro A7 c7 w7 hN7 hb7
                         rw [← Hsn.out] at hN7
                         have HN7 := Lib.hid hN7
                         clear hN7 hb7)
            go_roundw
            case rel => exact ⟨k + 1, A7, c7, by omega, by go_num, rfl, Hno2, HN7⟩
            case measure => simp [intOf]; omega
          · have HRR : Hid (R = ([], 2)) := Lib.hid (HC.out.2.2.1 (by simp) (by
              rw [List.all_eq_false]
              exact ⟨pl[k], List.getElem_mem hlt, by simpa [inD] using hin⟩))
            obtain ⟨v, hvn⟩ : ∃ v : Nat, pl[k] = (v : Int) := ⟨pl[k].toNat, by omega⟩
            have hge : (acc.length : Int) ≤ (v : Int) := by omega
            have hgen : decide (acc.length ≤ v) = true := decide_eq_true (by omega)
            rw [hvn] at hcell
            clear hvn hin hv HC
            go_wp2
            go_ret2
            rw [HRR.out]
            exact ⟨none, 0, rfl, TxtAt.none_ _, ext_trans Hb6.out HN6.out.bel⟩
        · obtain rfl : k = pl.length := by omega
          have hTx := HN6.out
          rw [List.take_length] at hTx
          have HRr : Hid (R = if (ansD (pl.map (pkD acc))).2 = 0 ∧ decide ((ansD (pl.map (pkD acc))).1 = p) = true then (pl.map (pkD acc), 0) else ([], 2)) := Lib.hid (HC.out.2.2.2 (by simp) (List.all_eq_true.2 fun v hv => by
            obtain ⟨j, hj, rfl⟩ := List.mem_iff_getElem.1 hv
            exact Hno.out j hj hj))
          have HTl : Hid ((pl.map (pkD acc)).length = pl.length) := Lib.hid (by rw [List.length_map])
          have HTe : Hid (∀ s ∈ pl.map (pkD acc), s.length ≤ 1000000) := Lib.hid (fun s hs => by
            obtain ⟨v, hv, rfl⟩ := List.mem_map.1 hs
            unfold pkD
            by_cases hx : v.toNat < acc.length
            · rw [List.getD_eq_getElem?_getD, List.getElem?_eq_getElem hx]
              exact Hea.out _ (List.getElem_mem hx)
            · rw [List.getD_eq_getElem?_getD, List.getElem?_eq_none (by omega)]
              simp)
          generalize pl.map (pkD acc) = T at *
          have HTx := Lib.hid (TxtAt.of_row hTx.row HTl.out.symm)
          have Hb7 := Lib.hid (ext_trans Hb6.out hTx.bel)
          have HE := Lib.hid (rencodeD_any A6 c6 T wr HTx.out.rd (by rw [HTl.out]; have := HRl.out; omega) HTe.out)
          rw [HTl.out] at HE
          obtain ⟨q, eq, ha⟩ : ∃ b er, ansD T = (b, er) := ⟨_, _, rfl⟩
          rw [ha] at HE HRr
          simp only at HE HRr
          clear ha hTx HC
          go_wp2_with fail
          refine HE.out.mono ?_
          rintro e w7 ⟨A7, c7, rfl, hn7, hb7⟩
          have Hb8 := Lib.hid (ext_trans Hb7.out hb7)
          have HTx8 := Lib.hid (HTx.out.ext hb7)
          by_cases h0 : eq = 0
          · subst h0
            by_cases hqp : q = p
            · have HRR : Hid (R = (T, 0)) := Lib.hid (by rw [HRr.out, if_pos ⟨rfl, decide_eq_true hqp⟩])
              subst hqp
              have hcv1 := conv_bytes w7 A7 q.length c7 q rfl hn7.rd
              have hcv2 := conv_bytes w7 A q.length ca q rfl (HA.out.ext Hb8.out)
              obtain ⟨Z, hZ⟩ : ∃ Z : ByteArray, (⟨q.toArray⟩ : ByteArray) = Z := ⟨_, rfl⟩
              rw [hZ] at hcv1 hcv2
              clear hZ HRr hn7 hb7 HE
              go_wp2
              go_ret2
              rw [HRR.out]
              exact ⟨A6, c6, by rw [HTl.out]; rfl, HTx8.out, Hb8.out⟩
            · have HRR : Hid (R = ([], 2)) := Lib.hid (by rw [HRr.out, if_neg (by rw [decide_eq_false hqp]; simp)])
              have hcv1 := conv_bytes w7 A7 q.length c7 q rfl hn7.rd
              have hcv2 := conv_bytes w7 A p.length ca p rfl (HA.out.ext Hb8.out)
              have hne2 : ((⟨q.toArray⟩ : ByteArray).toList == (⟨p.toArray⟩ : ByteArray).toList) = false := ne_strP hqp
              obtain ⟨Z, hZ⟩ : ∃ Z : ByteArray, (⟨q.toArray⟩ : ByteArray) = Z := ⟨_, rfl⟩
              obtain ⟨Y, hY'⟩ : ∃ Z : ByteArray, (⟨p.toArray⟩ : ByteArray) = Z := ⟨_, rfl⟩
              rw [hZ] at hcv1 hne2
              rw [hY'] at hcv2 hne2
              clear hZ hY' hqp HRr hn7 hb7 HE
              go_wp2
              go_ret2
              rw [HRR.out]
              exact ⟨none, 0, rfl, TxtAt.none_ _, Hb8.out⟩
          · have HRR : Hid (R = ([], 2)) := Lib.hid (by rw [HRr.out, if_neg (fun h => h0 h.1)])
            have hne : (eq != 0) = true := by simpa using h0
            clear HRr hn7 hb7 HE
            go_wp2
            go_ret2
            rw [HRR.out]
            exact ⟨none, 0, rfl, TxtAt.none_ _, Hb8.out⟩
    have hjN : (j : Int) < (N : Int) := by have := Hjm.out; omega
    have hjNn : j < N := by have := Hjm.out; omega
    cases bad with
    | true =>
      have HC := Lib.hid (HEX.out (.inr rfl))
      clear HEX hm
      obtain ⟨⟨B, rs2, fl⟩, hB⟩ : ∃ q, stBytes rest true = q := ⟨_, rfl⟩
      have hBl : B.length ≤ 900000 := by have := (stBytes_len rest true).2; rw [hB] at this; exact Nat.le_trans this Hrs.out
      rw [hB] at HC HBY
      simp only at HC HBY
      have HDe := Lib.hid (fun (A : Option Addr) (c : Nat) (W : World) (hW : Rd W A (B.map bv)) (hc : B.length ≤ c) => rdecode_any B A c W hW hc (by omega))
      have hRl := decR_len B
      have hRe := decR_snd B
      have hRv : ∀ v ∈ (decR B).1, 0 ≤ v ∧ v ≤ 1099511627776 := by
        rcases hRe with h | h
        · exact ((mayP_iff _).1 (decR_ok h)).2
        · rw [h]; simp
      obtain ⟨pl, er, hR⟩ : ∃ pl er, decR B = (pl, er) := ⟨_, _, rfl⟩
      rw [hR] at HC hRl hRe hRv
      simp only [hR] at HDe
      simp only at HC hRl hRe hRv
      have HRl := Lib.hid hRl
      have HRe : Hid (er = 0 ∨ (pl = [] ∧ er = 2)) := Lib.hid (by
        rcases hRe with h | h
        · exact .inl h
        · injection h with h1 h2; exact .inr ⟨h1, h2⟩)
      have HRv := Lib.hid hRv
      have hpli : (pl.length : Int) ≤ 32768 := by omega
      clear hB hBl hRl hRe hRv hR
      go_wp2_with fail
      refine HBY.out.mono ?_
      rintro e x1 ⟨A2, c2, rfl, hn2, hr2, ho2⟩
      have hc2 : B.length ≤ c2 := by have := Own.cap hn2; simpa using this
      have HD2 := Lib.hid (HDe.out A2 c2 x1 hn2.rd hc2)
      have Ho2 := Lib.hid (Ho.out.trans ho2 (fun _ _ h => h))
      have hrow : RowO x1 9 1 A1 acc.length c1 (acc.map strV) := HS.out.row.only ho2 (fun k hk e => by have := HS.out.new k hk; have := Hgl.out; omega)
      have Hrow := Lib.hid hrow.rd
      have HR2 := Lib.hid hr2
      clear hn2 hr2 ho2 hc2 hrow HDe HBY hc1
      go_wp2_with fail
      refine HD2.out.mono ?_
      rintro e x2 ⟨A5, c5, rfl, hr5, hb5⟩
      have Hr5 := Lib.hid hr5
      have Hw5 := Lib.hid (Hrow.out.ext hb5)
      have Ho5 : Hid (Only (fun k => k = g) w5 x2) := Lib.hid (Ho2.out.trans (Only.of_ext (S := fun k => k = g) hb5) (fun _ _ h => h))
      have Hb6 : Hid (Below w.heap.size w x2) := Lib.hid (Hb5.out.trans (Ho5.out.below (fun i hi => by have := Hg.out; omega) Hb5.out.size))
      obtain ⟨_, _, Ar2, cr2, hblk2, _, _, _⟩ := HR2.out.ext hb5
      have hc1 := hblk2.cell 1
      simp only [List.getElem?_toArray, List.getElem?_cons_zero, List.getElem?_cons_succ] at hc1
      clear hr5 hb5 HD2 hblk2
      cases fl with
      | true =>
        have HRR : Hid (R = ([], 2)) := Lib.hid (HC.out.1 rfl)
        clear HC
        go_wp2
        go_ret2
        rw [HRR.out]
        exact ⟨none, 0, rfl, TxtAt.none_ _, Hb6.out⟩
      | false =>
      by_cases he0 : er = 0
      case neg =>
        have HRR : Hid (R = ([], 2)) := Lib.hid (HC.out.2.1 he0)
        have hne : (er != 0) = true := by simpa using he0
        clear HC
        go_wp2
        go_ret2
        rw [HRR.out]
        exact ⟨none, 0, rfl, TxtAt.none_ _, Hb6.out⟩
      subst he0
      go_wp2
      go_loopw [7, 11] (fun s i wr2 => ∃ (k : Nat) (A6 : Option Addr) (c6 : Nat), k ≤ pl.length ∧ i = .int .i64 (k : Int) ∧ s = .slice A6 k c6 ∧ Hid (∀ j (hj : j < pl.length), j < k → inD acc pl[j] = true) ∧ Hid (NewO x2 wr2 9 1 A6 k c6 (((pl.take k).map (pkD acc)).map strV))) (fun _ i _ => pl.length - (intOf i).toNat)
      case atStart => exact ⟨0, none, 0, Nat.zero_le _, rfl, rfl, Lib.hid (fun j _ h => absurd h (by omega)), Lib.hid (NewO.start _ _ _)⟩
      case round =>
        obtain ⟨k, A6, c6, hk, rfl, rfl, Hno, HN6⟩ := hrel
        by_cases hlt : k < pl.length
        · have hki : (k : Int) < (pl.length : Int) := by omega
          obtain ⟨ad, hB, hcell⟩ := rd_int (Hr5.out.ext HN6.out.bel) hlt
          subst hB
          have hv := HRv.out _ (List.getElem_mem hlt)
          by_cases hin : pl[k] < (acc.length : Int)
          · obtain ⟨v, hvn⟩ : ∃ v : Nat, pl[k] = (v : Int) := ⟨pl[k].toNat, by omega⟩
            have hva : v < acc.length := by omega
            obtain ⟨ad2, hA, hcell2⟩ := rd_str (Hw5.out.ext HN6.out.bel) hva
            subst hA
            have Hsn : Hid (((pl.take (k + 1)).map (pkD acc)).map strV = ((pl.take k).map (pkD acc)).map strV ++ [strV acc[v]]) := Lib.hid (by
              rw [List.take_succ_eq_append_getElem hlt, List.map_append, List.map_append, List.map_singleton, List.map_singleton, hvn]
              unfold pkD
              rw [Int.toNat_natCast, List.getD_eq_getElem?_getD, List.getElem?_eq_getElem hva]
              rfl)
            have Hno2 : Hid (∀ j (hj : j < pl.length), j < k + 1 → inD acc pl[j] = true) := Lib.hid (fun j hj hj2 => by
              rcases Nat.lt_succ_iff_lt_or_eq.1 hj2 with h3 | rfl
              · exact Hno.out j hj h3
              · exact decide_eq_true hin)
            have hge : ¬ (acc.length : Int) ≤ (v : Int) := by omega
            have hgen : decide (acc.length ≤ v) = false := decide_eq_false (by omega)
            have hvi : (v : Int) < (acc.length : Int) := by omega
            have hk2 : k + 1 ≤ maxLen := by unfold maxLen; have := HRl.out; omega
            have hk3 : (k + 1) * 16 ≤ 140737488355328 := by have := HRl.out; omega
            rw [hvn] at hcell
            obtain ⟨Z, hu⟩ : ∃ Z : ByteArray, strV acc[v] = .string Z := ⟨_, rfl⟩
            rw [hu] at hcell2 Hsn
            clear hvn hin hv hu hva
            go_wp2_with (at_builtin
                         refine wpList_app_new rfl (.tmp 63) (.tmp 71) _ rfl 9 _ 1 16 Try.underlying40 info_str rfl A6 _ c6 _ HN6.out (ext_alloc (Below.refl _ _) _) rfl ⟨wr.heap.size, 0, none⟩ 1 [.string Z] rfl rfl (Rd.lit _ #[.string Z] _) ?_ hk2 hk3 ?_
                         · intro x hx; simp at hx; rw [hx]; rfl
                         intro A7 c7 w7 hN7 hb7
                         rw [← Hsn.out] at hN7
                         have HN7 := Lib.hid hN7
                         clear hN7 hb7)
            go_roundw
            case rel => exact ⟨k + 1, A7, c7, by omega, by go_num, rfl, Hno2, HN7⟩
            case measure => simp [intOf]; omega
          · have HRR : Hid (R = ([], 2)) := Lib.hid (HC.out.2.2.1 (by simp) (by
              rw [List.all_eq_false]
              exact ⟨pl[k], List.getElem_mem hlt, by simpa [inD] using hin⟩))
            obtain ⟨v, hvn⟩ : ∃ v : Nat, pl[k] = (v : Int) := ⟨pl[k].toNat, by omega⟩
            have hge : (acc.length : Int) ≤ (v : Int) := by omega
            have hgen : decide (acc.length ≤ v) = true := decide_eq_true (by omega)
            rw [hvn] at hcell
            clear hvn hin hv HC
            go_wp2
            go_ret2
            rw [HRR.out]
            exact ⟨none, 0, rfl, TxtAt.none_ _, ext_trans Hb6.out HN6.out.bel⟩
        · obtain rfl : k = pl.length := by omega
          have hTx := HN6.out
          rw [List.take_length] at hTx
          have HRr : Hid (R = if (ansD (pl.map (pkD acc))).2 = 0 ∧ decide ((ansD (pl.map (pkD acc))).1 = p) = true then (pl.map (pkD acc), 0) else ([], 2)) := Lib.hid (HC.out.2.2.2 (by simp) (List.all_eq_true.2 fun v hv => by
            obtain ⟨j, hj, rfl⟩ := List.mem_iff_getElem.1 hv
            exact Hno.out j hj hj))
          have HTl : Hid ((pl.map (pkD acc)).length = pl.length) := Lib.hid (by rw [List.length_map])
          have HTe : Hid (∀ s ∈ pl.map (pkD acc), s.length ≤ 1000000) := Lib.hid (fun s hs => by
            obtain ⟨v, hv, rfl⟩ := List.mem_map.1 hs
            unfold pkD
            by_cases hx : v.toNat < acc.length
            · rw [List.getD_eq_getElem?_getD, List.getElem?_eq_getElem hx]
              exact Hea.out _ (List.getElem_mem hx)
            · rw [List.getD_eq_getElem?_getD, List.getElem?_eq_none (by omega)]
              simp)
          generalize pl.map (pkD acc) = T at *
          have HTx := Lib.hid (TxtAt.of_row hTx.row HTl.out.symm)
          have Hb7 := Lib.hid (ext_trans Hb6.out hTx.bel)
          have HE := Lib.hid (rencodeD_any A6 c6 T wr HTx.out.rd (by rw [HTl.out]; have := HRl.out; omega) HTe.out)
          rw [HTl.out] at HE
          obtain ⟨q, eq, ha⟩ : ∃ b er, ansD T = (b, er) := ⟨_, _, rfl⟩
          rw [ha] at HE HRr
          simp only at HE HRr
          clear ha hTx HC
          go_wp2_with fail
          refine HE.out.mono ?_
          rintro e w7 ⟨A7, c7, rfl, hn7, hb7⟩
          have Hb8 := Lib.hid (ext_trans Hb7.out hb7)
          have HTx8 := Lib.hid (HTx.out.ext hb7)
          by_cases h0 : eq = 0
          · subst h0
            by_cases hqp : q = p
            · have HRR : Hid (R = (T, 0)) := Lib.hid (by rw [HRr.out, if_pos ⟨rfl, decide_eq_true hqp⟩])
              subst hqp
              have hcv1 := conv_bytes w7 A7 q.length c7 q rfl hn7.rd
              have hcv2 := conv_bytes w7 A q.length ca q rfl (HA.out.ext Hb8.out)
              obtain ⟨Z, hZ⟩ : ∃ Z : ByteArray, (⟨q.toArray⟩ : ByteArray) = Z := ⟨_, rfl⟩
              rw [hZ] at hcv1 hcv2
              clear hZ HRr hn7 hb7 HE
              go_wp2
              go_ret2
              rw [HRR.out]
              exact ⟨A6, c6, by rw [HTl.out]; rfl, HTx8.out, Hb8.out⟩
            · have HRR : Hid (R = ([], 2)) := Lib.hid (by rw [HRr.out, if_neg (by rw [decide_eq_false hqp]; simp)])
              have hcv1 := conv_bytes w7 A7 q.length c7 q rfl hn7.rd
              have hcv2 := conv_bytes w7 A p.length ca p rfl (HA.out.ext Hb8.out)
              have hne2 : ((⟨q.toArray⟩ : ByteArray).toList == (⟨p.toArray⟩ : ByteArray).toList) = false := ne_strP hqp
              obtain ⟨Z, hZ⟩ : ∃ Z : ByteArray, (⟨q.toArray⟩ : ByteArray) = Z := ⟨_, rfl⟩
              obtain ⟨Y, hY'⟩ : ∃ Z : ByteArray, (⟨p.toArray⟩ : ByteArray) = Z := ⟨_, rfl⟩
              rw [hZ] at hcv1 hne2
              rw [hY'] at hcv2 hne2
              clear hZ hY' hqp HRr hn7 hb7 HE
              go_wp2
              go_ret2
              rw [HRR.out]
              exact ⟨none, 0, rfl, TxtAt.none_ _, Hb8.out⟩
          · have HRR : Hid (R = ([], 2)) := Lib.hid (by rw [HRr.out, if_neg (fun h => h0 h.1)])
            have hne : (eq != 0) = true := by simpa using h0
            clear HRr hn7 hb7 HE
            go_wp2
            go_ret2
            rw [HRR.out]
            exact ⟨none, 0, rfl, TxtAt.none_ _, Hb8.out⟩
    | false =>
      clear HEX
      obtain ⟨k, hk⟩ : ∃ k, m = k + 1 := ⟨m - 1, by omega⟩
      have HRs := Lib.hid (Tkd.step (by rw [← hk]; exact Hrd.out))
      have HLe : Hid (((stBytes rest false).2.2 = false → (acc ++ [(stBytes rest false).1]).length + (stBytes rest false).2.1.length ≤ b0.length) ∧ (acc ++ [(stBytes rest false).1]).length ≤ b0.length + 1) := Lib.hid (tkd_le (Hal.out.1 rfl))
      have hk2 : acc.length + 1 ≤ maxLen := by unfold maxLen; have := Hen.out; omega
      have hk3 : (acc.length + 1) * 16 ≤ 140737488355328 := by have := Hen.out; omega
      generalize stBytes rest false = q at *
      obtain ⟨bs, rest', bd'⟩ := q
      simp only at HRs HBY HLe
      have Hk := Lib.hid hk
      have HjN := Lib.hid hjNn
      clear hk hm hjNn
      go_wp2_with fail
      refine HBY.out.mono ?_
      rintro e x1 ⟨A2, c2, rfl, hn2, hr2, ho2⟩
      have hcv := conv_bytes x1 A2 bs.length c2 bs rfl hn2.rd
      have hrow : RowO x1 9 1 A1 acc.length c1 (acc.map strV) := HS.out.row.only ho2 (fun k hk e => by have := HS.out.new k hk; have := Hgl.out; omega)
      have Hrow := Lib.hid hrow
      have Hr2 := Lib.hid hr2
      have Ho2 := Lib.hid (Ho.out.trans ho2 (fun _ _ h => h))
      have hsv : (.string ⟨bs.toArray⟩ : Value) = strV bs := rfl
      rw [hsv] at hcv
      obtain ⟨Z, hv⟩ : ∃ Z : ByteArray, strV bs = .string Z := ⟨_, rfl⟩
      rw [hv] at hcv
      have Hv := Lib.hid hv
      clear hrow hr2 ho2 hn2 hv hsv
      go_wp2_with (at_builtin
                   refine wpList_appO _ rfl (.tmp 30) (.tmp 34) _ rfl 9 _ 1 16 Try.underlying40 info_str rfl A1 _ c1 _ rfl (Hrow.out.alloc _) (some ⟨x1.heap.size, 0, none⟩) 1 1 [.string Z] rfl rfl (Rd.lit _ #[.string Z] _) ?_ ?_ hk2 hk3 ?_
                   · intro u hu; simp at hu; rw [hu]; rfl
                   · intro h; cases h
                   intro A3 c3 w3 hrow3 honly3 hA3
                   rw [← Hv.out] at hrow3 honly3
                   have hx1 : w5.heap.size ≤ (x1.alloc (.cells #[.string Z] 9)).heap.size := by rw [World.size_alloc]; have := Ho2.out.size; omega
                   have hF3 : FrS w5 w3 A3 c3 (acc ++ [bs]) := HS.out.grow hx1 hrow3 hA3
                   have hO3 := HS.out.only (Ho2.out.alloc (.cells #[strV bs] 9)) honly3
                   have hR3 : RRd w3 (fun k => k < g ∨ k = g) g rest' bd' := (Hr2.out.ext (ext_alloc (Below.refl _ _) _)).only honly3 (fun k hk hi => by have h1 := HS.out.new k hi; have h2 := Hgl.out; omega)
                   have HF3 := Lib.hid hF3
                   have HO3 := Lib.hid hO3
                   have HR3 := Lib.hid hR3
                   clear hrow3 honly3 hA3 hx1 hF3 hO3 hR3)
      go_roundw
      case rel => exact ⟨j + 1, k, acc ++ [bs], rest', bd', A3, c3, by go_num, by rw [List.length_append]; rfl, Lib.hid (by have := Hjm.out; have := Hk.out; omega), HRs, HLe, HR3.out, HF3.out, HO3.out⟩
      case measure => simp [intOf]; have := HjN.out; omega
end Go.Proofs.Ythceajadgjnnmaa
