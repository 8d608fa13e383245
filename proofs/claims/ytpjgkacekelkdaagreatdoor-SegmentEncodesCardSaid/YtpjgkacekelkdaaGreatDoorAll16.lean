/-
  Texts of this claim, joined (part 16): contracts and lemmas that the last text goes by. No statement of the seat is proved here.
-/
import Derived.Test.YtpjgkacekelkdaaGreatDoorAll15
set_option linter.unusedVariables false
set_option linter.unusedSimpArgs false
/-
  Encode (reference). No statement of the seat is proved here.
-/
namespace Go.Proofs.YtpjgkacekelkdaaGreatDoor
open Go Go.RowKit
set_option maxRecDepth 100000

theorem plc_snoc (W l : List (List UInt8)) {k : Nat} (h : k < l.length) : (l.take (k + 1)).map (fun s => (placeT W s : Int)) = (l.take k).map (fun s => (placeT W s : Int)) ++ [(placeT W l[k] : Int)] := by
  rw [List.take_succ_eq_append_getElem h, List.map_append]
  rfl
theorem refnum_digD (n : Nat) (hn : n ≤ 32768) : numsB [(n : Int)] = dig n := by rw [numsB_one, clamp_of_nat (by omega)]

set_option maxHeartbeats 16000000 in
theorem rencodeD_any (A : Option Addr) (c : Nat) (l : List (List UInt8)) (w : World) (hA : Rd w A (l.map strV)) (hl : l.length ≤ 1000000) (hs : ∀ s ∈ l, s.length ≤ 1000000) :
    Calls Tryz.prog 23 #[.slice A l.length c] w fun e w' => ∃ A' c', e = .returned (.tuple #[.slice A' (ansD l).1.length c', .int .i64 (ansD l).2]) ∧ New w w' A' c' (ansD l).1 ∧ Below w.heap.size w w' := by
  by_cases h1 : l.length ≤ 32768
  case neg =>
    have h1i : (32768 : Int) < (l.length : Int) := by omega
    have HR : Hid (ansD l = ([], 1)) := Lib.hid (by unfold ansD; rw [mayD_len h1]; rfl)
    clear hA hs
    go_enter Tryz.func23, Tryz.ntmps23
    go_wp2
    go_ret2
    rw [HR.out]
    exact ⟨none, 0, rfl, Own.none_ _ _ _, Below.refl _ _⟩
  have h1i : ¬ (32768 : Int) < (l.length : Int) := by omega
  have hli : (l.length : Int) ≤ 32768 := by omega
  have HA := Lib.hid hA
  have H1 := Lib.hid h1
  have HLs : Hid (∀ s ∈ l, s.length ≤ 1000000) := Lib.hid hs
  have HNo : Hid (∀ (k : Nat) (hk : k < l.length), longT l[k] = true → ansD l = ([], 1)) := Lib.hid (fun k hk h => by
    unfold ansD mayD
    rw [show l.any longT = true from List.any_eq_true.2 ⟨l[k], List.getElem_mem hk, h⟩]
    simp)
  have HYes : Hid ((∀ (k : Nat) (hk : k < l.length), longT l[k] = false) → mayD l = true) := Lib.hid (fun h => by
    unfold mayD
    rw [show l.any longT = false by
      rw [List.any_eq_false]
      intro s hs
      obtain ⟨j, hj, rfl⟩ := List.mem_iff_getElem.1 hs
      simp [h j hj], decide_eq_true h1]
    rfl)
  clear hA hs h1
  go_enter Tryz.func23, Tryz.ntmps23
  go_wp2
  go_loop [4] (fun i => ∃ k : Nat, k ≤ l.length ∧ i = .int .i64 (k : Int) ∧ Hid (∀ (j : Nat) (hj : j < l.length), j < k → longT l[j] = false)) (fun i => l.length - (intOf i).toNat)
  case atStart => exact ⟨0, Nat.zero_le _, rfl, Lib.hid (fun j _ h => absurd h (by omega))⟩
  case round =>
    obtain ⟨k, hk, rfl, Hno⟩ := hrel
    by_cases hlt : k < l.length
    · have hki : (k : Int) < (l.length : Int) := by omega
      obtain ⟨ad, hB, hcell⟩ := rd_str HA.out hlt
      subst hB
      have hsl := HLs.out _ (List.getElem_mem hlt)
      have HF : Hid (longT l[k] = false → ∀ (j : Nat) (hj : j < l.length), j < k + 1 → longT l[j] = false) := Lib.hid (fun h j hj hj2 => by
        rcases Nat.lt_succ_iff_lt_or_eq.1 hj2 with h3 | rfl
        · exact Hno.out j hj h3
        · exact h)
      have HNk : Hid (longT l[k] = true → ansD l = ([], 1)) := Lib.hid (HNo.out k hlt)
      have hlg : longT l[k] = decide (4096 < l[k].length) := rfl
      generalize l[k] = s at *
      have hsz : (⟨s.toArray⟩ : ByteArray).size = s.length := rfl
      unfold strV at hcell
      obtain ⟨Z, hZ⟩ : ∃ Z : ByteArray, (⟨s.toArray⟩ : ByteArray) = Z := ⟨_, rfl⟩
      rw [hZ] at hcell hsz
      by_cases hx : 4096 < s.length
      · have hzi : (4096 : Int) < (Z.size : Int) := by omega
        have HR2 := Lib.hid (HNk.out (by rw [hlg]; exact decide_eq_true hx))
        clear hZ hsz hlg HF HNk hx
        go_wp2
        go_ret2
        rw [HR2.out]
        exact ⟨none, 0, rfl, Own.none_ _ _ _, Below.refl _ _⟩
      · have hzi : ¬ (4096 : Int) < (Z.size : Int) := by omega
        have hzj : (Z.size : Int) ≤ 4096 := by omega
        have Hf := Lib.hid (HF.out (by rw [hlg]; exact decide_eq_false hx))
        clear hZ hsz hlg HF HNk hx
        go_wp2
        go_round
        case rel => exact ⟨k + 1, by omega, by go_num, Hf⟩
        case measure => simp [intOf]; omega
    · obtain rfl : k = l.length := by omega
      have hmy := HYes.out (fun j hj => Hno.out j hj hj)
      have h4 := ((mayD_iff l).1 hmy).2
      have HR : Hid (ansD l = (encD l, 0)) := Lib.hid (by unfold ansD; rw [if_pos hmy])
      have HWd := Lib.hid (rwords_any A c l w HA.out H1.out)
      have HWl := Lib.hid (wordsT_len l)
      have H4 : Hid (∀ s ∈ wordsT l, s.length ≤ 4096) := Lib.hid (fun s hs => h4 s (wordsT_mem.1 hs))
      have HRi := Lib.hid (wordsT_rises l).calm
      have HPl : Hid (placesT l = (l.take l.length).map fun s => (placeT (wordsT l) s : Int)) := Lib.hid (by rw [List.take_length]; rfl)
      have HBs : Hid (∀ (B : Option Addr) (cB : Nat) (W : World), Rd W B ((placesT l).map iv) → WayC 22 B (placesT l).length cB (bestP (placesT l)) W) := Lib.hid (fun B cB W hW => way_of (places_may H1.out) (rbest_any B cB (placesT l) W hW (by rw [placesT_len]; have := H1.out; omega)))
      have HBl : Hid ((bestP (placesT l)).length ≤ 2000000) := Lib.hid (best_len (places_may H1.out) (by rw [placesT_len]; have := H1.out; omega))
      have HE : Hid (encD l = numsB [((wordsT l).length : Int)] ++ (rowsTo (wordsT l) (wordsT l).length ++ rowsB [bestP (placesT l)])) := Lib.hid (by rw [rowsTo_all]; rfl)
      have hpll := placesT_len l
      have Hpll := Lib.hid hpll
      unfold WayC at HBs
      generalize placesT l = PL at *
      generalize wordsT l = Wd at *
      generalize bestP PL = b at *
      have HL := Lib.hid (rowsTo_lenD Wd H4.out)
      have HN1 : Hid ((numsB [(Wd.length : Int)]).length ≤ 9) := Lib.hid (dig_nine _)
      have hwi : (Wd.length : Int) ≤ 32768 := by have := HWl.out; omega
      have Hwi := Lib.hid hwi
      clear hmy h4 Hno HNo HYes hpll
      go_wp2_with fail
      refine HWd.out.mono ?_
      rintro e w1 ⟨A1, c1, rfl, hN⟩
      have Hb1 := Lib.hid hN.bel
      have Hr1 := Lib.hid hN.rd
      obtain ⟨Nb, hNb⟩ : ∃ Nb, numsB [(Wd.length : Int)] = Nb := ⟨_, rfl⟩
      have hNd : dig (clamp (Wd.length : Int)) = Nb := by rw [← hNb, numsB_one]
      have HRn := Lib.hid (refnum_any (Wd.length : Int) w1 ⟨by omega, by omega⟩)
      rw [hNd] at HRn
      rw [hNb] at HE HN1
      clear hN HWd hNb hNd
      go_wp2_with fail
      refine HRn.out.mono ?_
      rintro e w2 ⟨A2, c2, rfl, hn2, hb2⟩
      have Hb2 := Lib.hid hb2
      have Hn2 := Lib.hid hn2
      clear hn2 hb2 HRn
      go_wp2
      go_loopw [6, 7] (fun s i wr => ∃ (k : Nat) (ds : List UInt8) (A1 : Option Addr) (c1 : Nat), k ≤ Wd.length ∧ i = .int .i64 (k : Int) ∧ s = .slice A1 ds.length c1 ∧ Hid (ds = Nb ++ rowsTo Wd k) ∧ Hid (New w1 wr A1 c1 ds) ∧ Hid (Below w1.heap.size w1 wr)) (fun _ i _ => Wd.length - (intOf i).toNat)
      case atStart => exact ⟨0, Nb, A2, c2, Nat.zero_le _, rfl, rfl, Lib.hid (by simp [rowsTo, rowsB]), Hn2, Hb2⟩
      case round =>
        obtain ⟨k, ds, A3, c3, hk, rfl, rfl, Hds, Hn, Hb⟩ := hrel
        have hdl : ds.length ≤ 200000000 := by
          rw [Hds.out, List.length_append]
          have := HL.out k
          have := HN1.out
          have := HWl.out
          have := H1.out
          omega
        have Hdl := Lib.hid hdl
        by_cases hlt : k < Wd.length
        · have hki : (k : Int) < (Wd.length : Int) := by omega
          obtain ⟨ad, hBa, hcell⟩ := rd_str (Hr1.out.ext Hb.out) hlt
          subst hBa
          have Hsn : Hid (Nb ++ rowsTo Wd (k + 1) = (Nb ++ rowsTo Wd k) ++ (dig Wd[k].length ++ Wd[k])) := Lib.hid (by rw [rowsTo_succ Wd k hlt]; simp)
          have hs5 := H4.out _ (List.getElem_mem hlt)
          generalize Wd[k] = s at *
          obtain ⟨Y, hY⟩ : ∃ Y, dig s.length ++ s = Y := ⟨_, rfl⟩
          have hyl : Y.length ≤ 4105 := by
            have h2 := dig_len 9 s.length (by have : (128 : Nat) ^ 9 = 9223372036854775808 := rfl; omega) (by omega)
            rw [← hY, List.length_append]
            omega
          rw [hY] at Hsn
          obtain ⟨cc, wc, hcv, hcc, hrc, hbc, hzc⟩ := str_row wr s
          unfold strV at hcell
          have HC := Lib.hid (refbytes_any _ s.length cc s Y wc rfl hY hrc (by omega))
          have Hbc := Lib.hid hbc
          have hk1 : ds.length + Y.length ≤ maxLen := by unfold maxLen; omega
          have hk2 : (ds.length + Y.length) * 1 ≤ 140737488355328 := by omega
          clear hrc hbc hzc hcc hY hs5 hdl hyl
          go_wp2_with fail
          refine HC.out.mono ?_
          rintro e w4 ⟨A4, c4, rfl, hn4, hb4⟩
          have Hb4 := Lib.hid (ext_trans Hbc.out hb4)
          have Hn4 := Lib.hid hn4
          clear hn4 hb4
          go_wp2_with (at_builtin
                       refine wpList_app _ rfl (.tmp 38) (.tmp 44) _ rfl _ _ 1 Tryz.underlying26 info_u8 rfl A3 ds.length c3 (ds.map bv) rfl (by rw [List.length_map]) (Hn.out.ext Hb4.out) A4 Y.length c4 (Y.map bv) rfl (by rw [List.length_map]) Hn4.out.rd (bvs_one _) hk1 hk2 ?_
                       intro A5 c5 w5 hown5 honly5)
          go_roundw
          case rel =>
            obtain ⟨g1, g2⟩ := New.grow (ext_trans Hb.out Hb4.out) hown5 honly5
            exact ⟨k + 1, ds ++ Y, A5, c5, by omega, by go_num, by rw [List.length_append], Lib.hid (by rw [Hsn.out, Hds.out]), Lib.hid g1, Lib.hid g2⟩
          case measure => simp [intOf]; omega
        · obtain rfl : k = Wd.length := by omega
          obtain ⟨wo, hwo⟩ : ∃ wo : World, wo = wr := ⟨_, rfl⟩
          subst hwo
          have HPL2 : Hid ((l.take l.length).map (fun s => (placeT Wd s : Int)) = PL) := Lib.hid HPl.out.symm
          have HSt : Hid (∀ (k : Nat) (hk : k < l.length), (l.take (k + 1)).map (fun s => (placeT Wd s : Int)) = (l.take k).map (fun s => (placeT Wd s : Int)) ++ [(placeT Wd l[k] : Int)]) := Lib.hid (fun k hk => plc_snoc Wd l hk)
          have HPx := Lib.hid (fun (x : List UInt8) (V : World) (hV : Rd V A1 (Wd.map strV)) => rplace_any A1 c1 Wd x V hV HRi.out (by have := HWl.out; have := H1.out; omega))
          have HEn : Hid (encD l = ds ++ rowsB [b]) := Lib.hid (by rw [HE.out, Hds.out, List.append_assoc])
          have H0 : Hid ((l.take 0).map (fun s => (placeT Wd s : Int)) = []) := Lib.hid rfl
          have hpm : ∀ x, placeT Wd x ≤ 32768 := fun x => by have := placeT_le Wd x; have := HWl.out; have := H1.out; omega
          have Hpm := Lib.hid hpm
          obtain ⟨AT, hAT⟩ : ∃ AT : Nat → List Int, AT = fun k => (l.take k).map (fun s => (placeT Wd s : Int)) := ⟨_, rfl⟩
          have HA0 : Hid (AT 0 = []) := Lib.hid (by rw [hAT]; rfl)
          have HAn : Hid (AT l.length = PL) := Lib.hid (by rw [hAT]; exact HPL2.out)
          have HAs : Hid (∀ (k : Nat) (hk : k < l.length), AT (k + 1) = AT k ++ [(placeT Wd l[k] : Int)]) := Lib.hid (fun k hk => by rw [hAT]; exact HSt.out k hk)
          clear hAT HPL2 HSt H0 hpm hdl HPl
          go_wp2
          go_loopw [8, 9] (fun s i wr => ∃ (k : Nat) (B : Option Addr) (cB : Nat), k ≤ l.length ∧ i = .int .i64 (k : Int) ∧ s = .slice B k cB ∧ Hid (NewO wo wr 3 1 B k cB ((AT k).map iv))) (fun _ i _ => l.length - (intOf i).toNat)
          case atStart => exact ⟨0, none, 0, Nat.zero_le _, rfl, rfl, Lib.hid (by rw [HA0.out]; exact NewO.start _ _ _)⟩
          case round =>
            obtain ⟨k, B, cB, hk, rfl, rfl, HN⟩ := hrel
            by_cases hlt2 : k < l.length
            · have hki : (k : Int) < (l.length : Int) := by omega
              obtain ⟨ad, hBa, hcell⟩ := rd_str (HA.out.ext (ext_trans Hb1.out (ext_trans Hb.out HN.out.bel))) hlt2
              subst hBa
              have HP2 := Lib.hid (HPx.out l[k] wr (Hr1.out.ext (ext_trans Hb.out HN.out.bel)))
              have Hsn := Lib.hid (HAs.out k hlt2)
              have hk2 : k + 1 ≤ maxLen := by unfold maxLen; have := H1.out; omega
              have hk3 : (k + 1) * 8 ≤ 140737488355328 := by have := H1.out; omega
              generalize l[k] = s at *
              generalize placeT Wd s = P at *
              unfold strV at hcell HP2
              obtain ⟨Z, hZ⟩ : ∃ Z : ByteArray, (⟨s.toArray⟩ : ByteArray) = Z := ⟨_, rfl⟩
              rw [hZ] at hcell HP2
              clear hZ
              go_wp2_with fail
              refine HP2.out.mono ?_
              rintro e w' ⟨rfl, rfl⟩
              go_wp2_with (at_builtin
                           refine wpList_app_new rfl (.tmp 52) (.tmp 59) _ rfl 3 _ 1 8 Tryz.underlying48 info_int rfl B _ cB _ HN.out (ext_alloc (Below.refl _ _) _) rfl ⟨wr.heap.size, 0, none⟩ 1 [.int .i64 (P : Int)] rfl rfl (Rd.lit _ #[.int .i64 (P : Int)] _) ?_ hk2 hk3 ?_
                           · intro x hx; simp at hx; rw [hx]; rfl
                           intro A7 c7 w7 hN7 hb7
                           have HN7 : Hid (NewO wo w7 3 1 A7 (k + 1) c7 ((AT (k + 1)).map iv)) := Lib.hid (by rw [Hsn.out, List.map_append]; exact hN7)
                           clear hN7 hb7)
              go_roundw
              case rel => exact ⟨k + 1, A7, c7, by omega, by go_num, rfl, HN7⟩
              case measure => simp [intOf]; omega
            · obtain rfl : k = l.length := by omega
              have hrd := HN.out.rd
              rw [HAn.out] at hrd
              have HBx := Lib.hid (HBs.out B cB wr hrd)
              rw [Hpll.out] at HBx
              have Hbo := Lib.hid HN.out.bel
              have HY := Lib.hid (fun (A : Option Addr) (c : Nat) (W : World) (hW : Rd W A (b.map bv)) => refbytes_any A b.length c b (dig b.length ++ b) W rfl rfl hW (by have := HBl.out; omega))
              rw [rowsB_sing] at HEn
              have hyl : (dig b.length ++ b).length ≤ 2000009 := by have := rowsB_lenD b HBl.out; rwa [rowsB_sing] at this
              generalize dig b.length ++ b = Y at *
              have hk1 : ds.length + Y.length ≤ maxLen := by unfold maxLen; have := Hdl.out; omega
              have hk2 : (ds.length + Y.length) * 1 ≤ 140737488355328 := by have := Hdl.out; omega
              clear hrd HBs hyl
              go_wp2_with fail
              refine HBx.out.mono ?_
              rintro e w4 ⟨A4, c4, rfl, hr4, hc4, hb4⟩
              have HY4 := Lib.hid (HY.out A4 c4 w4 hr4)
              have Hb4 := Lib.hid (ext_trans Hbo.out hb4)
              clear hr4 hc4 hb4 HY
              go_wp2_with fail
              refine HY4.out.mono ?_
              rintro e w5 ⟨A5, c5, rfl, hn5, hb5⟩
              have Hb5 := Lib.hid (ext_trans Hb4.out hb5)
              have Hn5 := Lib.hid hn5
              clear hn5 hb5
              go_wp2_with (at_builtin
                           refine wpList_app _ rfl (.tmp 66) (.tmp 68) _ rfl _ _ 1 Tryz.underlying26 info_u8 rfl A3 ds.length c3 (ds.map bv) rfl (by rw [List.length_map]) (Hn.out.ext Hb5.out) A5 Y.length c5 (Y.map bv) rfl (by rw [List.length_map]) Hn5.out.rd (bvs_one _) hk1 hk2 ?_
                           intro A6 c6 w6 hown6 honly6)
              go_ret2
              obtain ⟨g1, g2⟩ := New.grow (ext_trans Hb.out Hb5.out) hown6 honly6
              rw [HR.out]
              refine ⟨A6, c6, ?_, ?_, ext_trans Hb1.out g2⟩
              · show _ = Ending.returned (.tuple #[.slice A6 (encD l).length c6, .int .i64 0])
                rw [HEn.out, List.length_append]
                rfl
              · show New w w6 A6 c6 (encD l)
                rw [HEn.out]
                exact g1.back Hb1.out.size
end Go.Proofs.YtpjgkacekelkdaaGreatDoor
