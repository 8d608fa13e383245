/-
  Texts of this claim, joined (part 14): contracts and lemmas that the last text goes by. No statement of the seat is proved here.
-/
import Derived.Test.YtpjgkacekelkdaaGreatDoorAll13
import Derived.Test.YtpjgkacekelkdaaGreatDoorAll4
import Derived.Deep.RegionHeld3
set_option linter.unusedVariables false
set_option linter.unusedSimpArgs false
/-
  As runs; the shortest (reference). No statement of the seat is proved here.
-/
namespace Go.Proofs.YtpjgkacekelkdaaGreatDoor
open Go Go.RowKit
set_option maxRecDepth 100000

theorem below_drewN_ (w : World) (n : Nat) : Below w.heap.size w (w.drewN n) := ext_drewN (Below.refl _ _) n
theorem info_pair : (Tryz.prog.info? 130).map (fun i => (i.zero, i.size, i.bytes)) = some (some (.agg #[.int .i64 0, .int .i64 0]), 2, 16) := by kernel_rfl

set_option maxHeartbeats 8000000 in
theorem rruns_any (A : Option Addr) (c : Nat) (l : List Int) (w : World) (hA : Rd w A (l.map iv)) (hl : l.length ≤ 1099511627776) :
    Calls Tryz.prog 57 #[.slice A l.length c] w fun e w' => ∃ A' c', e = .returned (.tuple #[.slice A' (ansP l (runsB l)).1.length c', .int .i64 (ansP l (runsB l)).2]) ∧ New w w' A' c' (ansP l (runsB l)).1 ∧ Below w.heap.size w w' := by
  have HM := Lib.hid (rmay_any A c l w hA hl)
  have HA := Lib.hid hA
  cases hm : mayP l with
  | false =>
    have HR : Hid (ansP l (runsB l) = ([], 1)) := Lib.hid (by unfold ansP; rw [hm]; rfl)
    rw [hm] at HM
    clear hm hA
    go_enter Tryz.func57, Tryz.ntmps57
    go_wp2_with fail
    refine HM.out.mono ?_
    rintro e w' ⟨rfl, rfl⟩
    go_wp2
    go_ret2
    rw [HR.out]
    exact ⟨none, 0, rfl, Own.none_ _ _ _, Below.refl _ _⟩
  | true =>
    obtain ⟨h1, h2⟩ := (mayP_iff l).1 hm
    have hli : (l.length : Int) ≤ 32768 := by omega
    have HR : Hid (ansP l (runsB l) = (runsB l, 0)) := Lib.hid (by unfold ansP; rw [hm]; rfl)
    have H2 := Lib.hid h2
    have H1 := Lib.hid h1
    rw [hm] at HM
    clear hm hA h2
    go_enter Tryz.func57, Tryz.ntmps57
    go_wp2_with fail
    refine HM.out.mono ?_
    rintro e w' ⟨rfl, rfl⟩
    go_wp2
    go_loopw [4, 5] (fun s i wr => ∃ (k : Nat) (R : List (Nat × Int)) (B : Option Addr) (c : Nat), k ≤ l.length ∧ i = .int .i64 (k : Int) ∧ R = runsTo l k ∧ s = .slice B R.length c ∧ NewO w wr 130 2 B R.length c (cellsQ R)) (fun _ i _ => l.length - (intOf i).toNat)
    case atStart => exact ⟨0, [], none, 0, by omega, rfl, rfl, rfl, NewO.start _ _ _⟩
    case round =>
      obtain ⟨k, R, B, cR, hk, rfl, hR, rfl, hN⟩ := hrel
      by_cases hlt : k < l.length
      · have hki : (k : Int) < (l.length : Int) := by omega
        have hrl := runsTo_len l k
        rw [← hR] at hrl
        have hgd : l.getD k 0 = l[k] := by rw [List.getD_eq_getElem?_getD, List.getElem?_eq_getElem hlt]; rfl
        have hrd := HA.out.ext hN.bel
        obtain ⟨ad, hB, hcell⟩ := rd_int hrd hlt
        subst hB
        have hm1 : R.length + 1 ≤ maxLen := by unfold maxLen; omega
        have hm2 : (R.length + 1) * 16 ≤ 140737488355328 := by omega
        have HX : Hid (∀ W, Below wr.heap.size wr W → W.cell? (ad.add k) = some (.int .i64 l[k])) := Lib.hid (fun W hW => cell_only hcell (Only.of_ext (S := fun _ => False) hW) (fun h => h))
        by_cases hnew : k = 0 ∨ l.getD (k - 1) 0 ≠ l.getD k 0
        · have Hsn : Hid (runsTo l (k + 1) = R ++ [(1, l[k])]) := Lib.hid (by rw [runsTo_new l k hnew, hgd, hR])
          have HN := Lib.hid hN
          rcases Nat.eq_zero_or_pos k with hk0 | hk0
          · subst hk0
            have hd0 : decide ((0 : Int) < ((0 : Nat) : Int)) = false := rfl
            have hd1 : decide ((0 : Int) < 0) = false := rfl
            have hz : ad.add 0 = ad := by simp [Addr.add]
            rw [hz] at hcell HX
            generalize l[0] = x at *
            clear hR hnew hgd hrd hz
            go_wp2_with fail
            go_quiet (fail)
            have hcell := HX.out (wr.drewN nq) (below_drewN_ _ _)
            go_wp2_with (at_builtin
                         refine wpList_app_new rfl (.tmp 41) (.tmp 47) _ rfl 130 _ 2 16 Tryz.underlying129 info_pair rfl B _ cR _ HN.out (ext_alloc (below_drewN_ _ _) _) rfl ⟨(wr.drewN nq).heap.size, 0, none⟩ 1 [.int .i64 1, .int .i64 x] rfl rfl (Rd.lit _ #[.int .i64 1, .int .i64 x] _) ?_ hm1 hm2 ?_
                         · simp; exact ⟨rfl, rfl⟩
                         intro A3 c3 w3 hN3 hb3
                         have hN4 : NewO w w3 130 2 A3 (R.length + 1) c3 (cellsQ (R ++ [(1, x)])) := by rw [cellsQ_append]; exact hN3
                         have HN4 := Lib.hid hN4
                         clear hN3 hb3 hN4)
            go_roundw
            case rel => exact ⟨1, R ++ [(1, x)], A3, c3, by omega, by go_num, Hsn.out.symm, by simp, by rw [List.length_append]; exact HN4.out⟩
            case measure => simp [intOf]; omega
          · have hne : l.getD (k - 1) 0 ≠ l.getD k 0 := by
              rcases hnew with h | h
              · omega
              · exact h
            have hlt1 : k - 1 < l.length := by omega
            obtain ⟨ad', hB, hcell1⟩ := rd_int hrd hlt1
            injection hB with hB
            subst hB
            have hgd1 : l.getD (k - 1) 0 = l[k - 1] := by rw [List.getD_eq_getElem?_getD, List.getElem?_eq_getElem hlt1]; rfl
            rw [hgd, hgd1] at hne
            have hki1 : (k : Int) - 1 = ((k - 1 : Nat) : Int) := by omega
            have hk1i : ((k - 1 : Nat) : Int) < (l.length : Int) := by omega
            have hkz : decide ((0 : Int) < (k : Int)) = true := decide_eq_true (by omega)
            have hkz2 : (0 : Int) < (k : Int) := by omega
            generalize l[k - 1] = y at *
            generalize l[k] = x at *
            have hyx : (x == y) = false := by simpa using fun h => hne h.symm
            clear hR hnew hgd hrd hgd1
            go_wp2_with fail
            go_quiet (fail)
            have hcell := HX.out (wr.drewN nq) (below_drewN_ _ _)
            go_wp2_with (at_builtin
                         refine wpList_app_new rfl (.tmp 41) (.tmp 47) _ rfl 130 _ 2 16 Tryz.underlying129 info_pair rfl B _ cR _ HN.out (ext_alloc (below_drewN_ _ _) _) rfl ⟨(wr.drewN nq).heap.size, 0, none⟩ 1 [.int .i64 1, .int .i64 x] rfl rfl (Rd.lit _ #[.int .i64 1, .int .i64 x] _) ?_ hm1 hm2 ?_
                         · simp; exact ⟨rfl, rfl⟩
                         intro A3 c3 w3 hN3 hb3
                         have hN4 : NewO w w3 130 2 A3 (R.length + 1) c3 (cellsQ (R ++ [(1, x)])) := by rw [cellsQ_append]; exact hN3
                         have HN4 := Lib.hid hN4
                         clear hN3 hb3 hN4)
            go_roundw
            case rel => exact ⟨k + 1, R ++ [(1, x)], A3, c3, by omega, by go_num, Hsn.out.symm, by simp, by rw [List.length_append]; exact HN4.out⟩
            case measure => simp [intOf]; omega
        · have hk0 : 0 < k := by rcases Nat.eq_zero_or_pos k with h | h; exact absurd (.inl h) hnew; exact h
          have heq : l.getD (k - 1) 0 = l.getD k 0 := Classical.not_not.1 fun h => hnew (.inr h)
          have hlt1 : k - 1 < l.length := by omega
          obtain ⟨ad', hB, hcell1⟩ := rd_int hrd hlt1
          injection hB with hB
          subst hB
          have hgd1 : l.getD (k - 1) 0 = l[k - 1] := by rw [List.getD_eq_getElem?_getD, List.getElem?_eq_getElem hlt1]; rfl
          obtain ⟨rs, cc, e1, e2⟩ := runsTo_same l (k - 1) (by rw [show k - 1 + 1 = k by omega]; exact heq)
          rw [show k - 1 + 1 = k by omega] at e1 e2
          rw [show k - 1 + 2 = k + 1 by omega] at e2
          rw [hgd] at e1 e2
          rw [hgd, hgd1] at heq
          have hki1 : (k : Int) - 1 = ((k - 1 : Nat) : Int) := by omega
          have hk1i : ((k - 1 : Nat) : Int) < (l.length : Int) := by omega
          have hkz : decide ((0 : Int) < (k : Int)) = true := decide_eq_true (by omega)
          have hkz2 : (0 : Int) < (k : Int) := by omega
          rw [heq] at hcell1
          have hmem := (runsTo_mem l k (by omega) (cc, l[k]) (by rw [e1]; simp)).2.1
          generalize l[k - 1] = y at *
          generalize l[k] = x at *
          have hyx : (x == x) = true := by simp
          obtain rfl : R = rs ++ [(cc, x)] := hR.trans e1
          have HE2 := Lib.hid e2
          obtain ⟨g, o, hA3, q1, q2⟩ := hN.row.cellQ (k := rs.length) (by simp)
          subst hA3
          simp only [List.getElem_append_right (Nat.le_refl _), Nat.sub_self, List.getElem_cons_zero] at q1
          have hfr := hN.row.free (o + rs.length * 2)
          rw [List.length_append, List.length_singleton] at hN hrl ⊢
          have HN : Hid (∀ n : Nat, NewO w ((wr.drewN n).setCell ⟨g, o + rs.length * 2, none⟩ (.int .i64 ((cc : Int) + 1))) 130 2 (some ⟨g, o, none⟩) (rs ++ [(cc + 1, x)]).length cR (cellsQ (rs ++ [(cc + 1, x)]))) := Lib.hid (fun n => by
            have hd : NewO w (wr.drewN n) 130 2 (some ⟨g, o, none⟩) (rs.length + 1) cR (cellsQ (rs ++ [(cc, x)])) := hN.ext (below_drewN_ _ _)
            have h5 := hd.set (rs.length * 2) (by rw [cellsQ_length, List.length_append, List.length_singleton]; omega) (iv ((cc + 1 : Nat) : Int))
            rw [cellsQ_set] at h5
            rw [List.length_append]
            exact h5)
          have hlast : ((rs.length + 1 : Nat) : Int) - 1 = (rs.length : Int) := by omega
          have hcw : IntKind.i64.wrap ((cc : Int) + 1) = (((cc + 1 : Nat) : Int)) := by rw [show (cc : Int) + 1 = ((cc + 1 : Nat) : Int) by omega]; exact IntWalk.i64_in _ (by simp at hmem; omega)
          have hcc : (cc : Int) ≤ 32768 := by simp at hmem; omega
          have Hq1 := Lib.hid q1
          have Hfr := Lib.hid hfr
          clear hR hnew hgd hrd hgd1 q2 e1 e2 hm1 hm2 hN q1 hfr HX
          go_wp2_with fail
          go_quiet (fail)
          have q1b := Hq1.out
          have hfrb := Hfr.out
          have q1 : (wr.drewN nq).drew.cell? ⟨g, o + rs.length * 2, none⟩ = some (.int .i64 (cc : Int)) := Hq1.out
          have hfr : (wr.drewN nq).drew.frozen? ⟨g, o + rs.length * 2, none⟩ = false := Hfr.out
          go_wp2_with fail
          go_region
          go_wp2
          go_roundw
          case rel => exact ⟨k + 1, rs ++ [(cc + 1, x)], some ⟨g, o, none⟩, cR, by omega, by go_num, HE2.out.symm, by simp, HN.out _⟩
          case measure => simp [intOf]; omega
      · obtain rfl : k = l.length := by omega
        have hrl := runsTo_len l l.length
        rw [← hR] at hrl
        have HB := Lib.hid (runsTo_mem l l.length (Nat.le_refl _))
        have HP : Hid (runsB l = numsB [2, (R.length : Int)] ++ pairsTo R R.length) := Lib.hid (by rw [pairsTo_all, hR]; rfl)
        rw [← hR] at HB
        have HN2 := Lib.hid (nums_two_len 2 (R.length : Int))
        have HNl := Lib.hid (pairsTo_len R)
        have hri : (R.length : Int) ≤ 32768 := by omega
        have Hrl : Hid (R.length ≤ 32768) := Lib.hid (by omega)
        obtain ⟨N, hN⟩ : ∃ N, numsB [2, (R.length : Int)] = N := ⟨_, rfl⟩
        have HNN := Lib.hid hN
        rw [hN] at HP HN2
        rename_i hNw
        have Hrow := Lib.hid hNw.row
        have Hbw := Lib.hid hNw.bel
        clear hN hR hNw
        go_wp2_with fail
        refine (refnums_any _ 2 2 [2, (R.length : Int)] N _ rfl HNN.out (Rd.lit wr #[.int .i64 2, .int .i64 (R.length : Int)] _) (by
          intro v hv
          simp only [List.mem_cons, List.not_mem_nil, or_false] at hv
          rcases hv with rfl | rfl
          · exact ⟨by omega, by omega⟩
          · exact ⟨by omega, by omega⟩) (by simp)).mono ?_
        rintro e w3 ⟨A3, c3, rfl, hn3, hb3⟩
        have Hb3 : Hid (Below wr.heap.size wr w3) := Lib.hid (ext_trans (ext_alloc (Below.refl _ _) _) hb3)
        have Hn3 : Hid (New wr w3 A3 c3 N) := Lib.hid (hn3.back (ext_alloc (Below.refl _ _) _).size)
        clear hn3 hb3
        generalize wr = wa at *
        go_wp2
        go_loopw [6, 7] (fun s i x => ∃ (k : Nat) (ds : List UInt8) (A1 : Option Addr) (c1 : Nat), k ≤ R.length ∧ i = .int .i64 (k : Int) ∧ s = .slice A1 ds.length c1 ∧ Hid (ds = N ++ pairsTo R k) ∧ New wa x A1 c1 ds ∧ Below wa.heap.size wa x) (fun _ i _ => R.length - (intOf i).toNat)
        case atStart => exact ⟨0, N, A3, c3, Nat.zero_le _, rfl, rfl, Lib.hid (by simp [pairsTo, pairsB]), Hn3.out, Hb3.out⟩
        case round =>
          obtain ⟨k, ds, A1, c1, hk, rfl, rfl, Hds, hn, hb⟩ := hrel
          have Hn := Lib.hid hn
          have Hb := Lib.hid hb
          have hdl : ds.length ≤ 18 + 18 * k := by
            rw [Hds.out, List.length_append]
            have := HNl.out k
            have := HN2.out
            omega
          by_cases hlt : k < R.length
          · have hki : (k : Int) < (R.length : Int) := by omega
            obtain ⟨g, o, hB, c0, c1'⟩ := (Hrow.out.ext hb).cellQ hlt
            subst hB
            have Hsn : Hid (N ++ pairsTo R (k + 1) = (N ++ pairsTo R k) ++ numsB [(R[k].1 : Int), R[k].2]) := Lib.hid (by rw [pairsTo_succ R k hlt, List.append_assoc])
            have HS : Hid (∀ W, Below wa.heap.size wa W → W.cell? ⟨g, o + k * 2, none⟩ = some (.int .i64 (R[k].1 : Int)) ∧ W.cell? ⟨g, o + k * 2 + 1, none⟩ = some (.int .i64 R[k].2)) := Lib.hid (fun W hW => by
              obtain ⟨g', o', hB', r1, r2⟩ := (Hrow.out.ext hW).cellQ hlt
              injection hB' with hB'
              injection hB' with e1 e2 _
              subst e1 e2
              exact ⟨r1, r2⟩)
            obtain ⟨b1, b2, b3⟩ := HB.out _ (List.getElem_mem hlt)
            have b4 := H2.out _ b3
            have b5 : R[k].1 ≤ 32768 := by omega
            generalize R[k].1 = cc at *
            generalize R[k].2 = x at *
            obtain ⟨Y, hY⟩ : ∃ Y, numsB [(cc : Int), x] = Y := ⟨_, rfl⟩
            have hyl : Y.length ≤ 18 := by rw [← hY]; exact nums_two_len _ _
            rw [hY] at Hsn
            have HFN : Hid (∀ (W : World) (ad : Addr), Rd W (some ad) [.int .i64 (cc : Int), .int .i64 x] → Calls Tryz.prog 91 #[.slice (some ad) 2 2] W fun e w' => ∃ A' c', e = .returned (.slice A' Y.length c') ∧ New W w' A' c' Y ∧ Below W.heap.size W w') := Lib.hid (fun W ad hW =>
              refnums_any _ 2 2 [(cc : Int), x] Y _ rfl hY hW (by
                intro v hv
                simp only [List.mem_cons, List.not_mem_nil, or_false] at hv
                rcases hv with rfl | rfl
                · exact ⟨by omega, by omega⟩
                · exact ⟨by omega, by omega⟩) (by simp))
            have hk1 : ds.length + Y.length ≤ maxLen := by unfold maxLen; omega
            have hk2 : (ds.length + Y.length) * 1 ≤ 140737488355328 := by omega
            clear hn hb hY hdl hyl b1 b2 b3 b4 b5
            go_wp2_with fail
            refine wp_region_held_drew (S := fun W => W.cell? ⟨g, o + k * 2, none⟩ = some (.int .i64 (cc : Int)) ∧ W.cell? ⟨g, o + k * 2 + 1, none⟩ = some (.int .i64 x)) (by kernel_rfl) ?_ (fun hHeld => ?_)
            · exact HS.out _ (by first | exact g2 | exact ext_trans Hb.out HE.out | (repeat (first | exact Hb.out | apply ext_drew | apply ext_drewN | apply ext_alloc)))
            refine wpAnyH_take (i := 0) (v := ?_) (take_list rfl) (by kernel_rfl) (by kernel_rfl) (by kernel_rfl) (fun _ _ _ h => h) (Or.inl ⟨by rfl, ?_⟩) (by assumption) ?_
            rotate_left
            · intro w hSw
              try dsimp only at hSw
              first | (go_simp; done) | (go_simp; with_reducible rfl)
            try simp only [Act.put, List.setIfInBounds_toArray, List.set_cons_zero, List.set_cons_succ]
            refine wpAnyH_take (i := 1) (v := ?_) (take_list rfl) (by kernel_rfl) (by kernel_rfl) (by kernel_rfl) (fun _ _ _ h => h) (Or.inl ⟨by rfl, ?_⟩) (by assumption) ?_
            rotate_left
            · intro w hSw
              try dsimp only at hSw
              first | (go_simp; done) | (go_simp; with_reducible rfl)
            try simp only [Act.put, List.setIfInBounds_toArray, List.set_cons_zero, List.set_cons_succ]
            refine wpAnyH_take (i := 2) (v := ?_) (take_list rfl) (by kernel_rfl) (by kernel_rfl) (by kernel_rfl) (fun _ _ _ h => h) (Or.inl ⟨by rfl, ?_⟩) (by assumption) ?_
            rotate_left
            · intro w hSw
              try dsimp only at hSw
              first | (go_simp; done) | (go_simp; with_reducible rfl)
            try simp only [Act.put, List.setIfInBounds_toArray, List.set_cons_zero, List.set_cons_succ]
            refine wpAnyH_take (i := 3) (v := ?_) (take_list rfl) (by kernel_rfl) (by kernel_rfl) (by kernel_rfl) (fun _ _ _ h => h) (Or.inl ⟨by rfl, ?_⟩) (by assumption) ?_
            rotate_left
            · intro w hSw
              try dsimp only at hSw
              first | (go_simp; done) | (go_simp; with_reducible rfl)
            try simp only [Act.put, List.setIfInBounds_toArray, List.set_cons_zero, List.set_cons_succ]
            refine wpAnyH_take (i := 4) (v := ?_) (take_list rfl) (by kernel_rfl) (by kernel_rfl) (by kernel_rfl) (fun _ _ _ h => h) (Or.inl ⟨by rfl, ?_⟩) (by assumption) ?_
            rotate_left
            · intro w hSw
              try dsimp only at hSw
              first | (go_simp; done) | (go_simp; with_reducible rfl)
            try simp only [Act.put, List.setIfInBounds_toArray, List.set_cons_zero, List.set_cons_succ]
            refine wpAnyH_take (i := 5) (v := ?_) (take_list rfl) (by kernel_rfl) (by kernel_rfl) (by kernel_rfl) (fun _ _ _ h => h) (Or.inl ⟨by rfl, ?_⟩) (by assumption) ?_
            rotate_left
            · intro w hSw
              try dsimp only at hSw
              first | (go_simp; done) | (go_simp; with_reducible rfl)
            try simp only [Act.put, List.setIfInBounds_toArray, List.set_cons_zero, List.set_cons_succ]
            refine wpAnyH_take (i := 6) (v := ?_) (take_list rfl) (by kernel_rfl) (by kernel_rfl) (by kernel_rfl) (fun _ _ _ h => h) (Or.inl ⟨by rfl, ?_⟩) (by assumption) ?_
            rotate_left
            · intro w hSw
              try dsimp only at hSw
              first | (go_simp; done) | (go_simp; with_reducible rfl)
            try simp only [Act.put, List.setIfInBounds_toArray, List.set_cons_zero, List.set_cons_succ]
            refine wpAnyH_take (i := 7) (v := ?_) (take_list rfl) (by kernel_rfl) (by kernel_rfl) (by kernel_rfl) (fun _ _ _ h => h) (Or.inl ⟨by rfl, ?_⟩) (by assumption) ?_
            rotate_left
            · intro w hSw
              try dsimp only at hSw
              first | (go_simp; done) | (go_simp; with_reducible rfl)
            try simp only [Act.put, List.setIfInBounds_toArray, List.set_cons_zero, List.set_cons_succ]
            refine wpAnyH_take (i := 8) (v := ?_) (take_list rfl) (by kernel_rfl) (by kernel_rfl) (by kernel_rfl) (fun _ _ _ h => h) (Or.inl ⟨by rfl, ?_⟩) (by assumption) ?_
            rotate_left
            · intro w hSw
              try dsimp only at hSw
              first | (go_simp; done) | (go_simp; with_reducible rfl)
            try simp only [Act.put, List.setIfInBounds_toArray, List.set_cons_zero, List.set_cons_succ]
            refine wpAnyH_take (i := 9) (v := ?_) (take_list rfl) (by kernel_rfl) (by kernel_rfl) (by kernel_rfl) (fun _ _ _ h => h) (Or.inl ⟨by rfl, ?_⟩) (by assumption) ?_
            rotate_left
            · intro w hSw
              try dsimp only at hSw
              first | (go_simp; done) | (go_simp; with_reducible rfl)
            try simp only [Act.put, List.setIfInBounds_toArray, List.set_cons_zero, List.set_cons_succ]
            refine wpAnyH_take (i := 10) (v := ?_) (take_list rfl) (by kernel_rfl) (by kernel_rfl) (by kernel_rfl) (fun _ _ _ h => h) (Or.inl ⟨by rfl, ?_⟩) (by assumption) ?_
            rotate_left
            · intro w hSw
              try dsimp only at hSw
              first | (go_simp; done) | (go_simp; with_reducible rfl)
            try simp only [Act.put, List.setIfInBounds_toArray, List.set_cons_zero, List.set_cons_succ]
            refine wpAnyH_ready (rs := [11]) (by kernel_rfl) (by simp) ?_
            refine AllReadyH.cons (take_list rfl) (fun K hK => ?_) ?_
            · skip
              go_simp
              refine hK.out _ _ ?_ (fun hHeld => ?_)
              · try dsimp only
                exact HS.out _ (by first | exact g2 | exact ext_trans Hb.out HE.out | (repeat (first | exact Hb.out | apply ext_drew | apply ext_drewN | apply ext_alloc)))
              clear hK K
              refine wpAnyH_ready (rs := [12]) (by kernel_rfl) (by simp) ?_
              refine AllReadyH.cons (take_list rfl) (fun K hK => ?_) ?_
              · skip
                go_simp
                refine (HFN.out _ _ (Rd.lit wr #[.int .i64 (cc : Int), .int .i64 x] _).drew).mono ?_
                rintro e x1 ⟨A4, c4, rfl, hn4, hb4⟩
                dsimp only
                have HE : Hid (Below wr.heap.size wr x1) := Lib.hid (ext_trans (by repeat (first | exact Below.refl _ _ | apply ext_drew | apply ext_drewN | apply ext_alloc)) hb4)
                have Hn4 := Lib.hid hn4
                clear hn4 hb4
                refine hK.out _ _ ?_ (fun hHeld => ?_)
                · try dsimp only
                  exact HS.out _ (by first | exact g2 | exact ext_trans Hb.out HE.out | (repeat (first | exact Hb.out | apply ext_drew | apply ext_drewN | apply ext_alloc)))
                clear hK K
                refine wpAnyH_ready (rs := [13]) (by kernel_rfl) (by simp) ?_
                refine AllReadyH.cons (take_list rfl) (fun K hK => ?_) ?_
                · skip
                  refine step_appT rfl (.tmp 59) (.tmp 71) _ rfl 5 _ 1 Tryz.underlying26 info_u8 rfl A1 ds.length c1 (ds.map bv) rfl (by rw [List.length_map]) (Hn.out.ext HE.out) A4 Y.length c4 (Y.map bv) rfl (by rw [List.length_map]) Hn4.out.rd (bvs_one _) hk1 hk2 ?_
                  intro A5 c5 w5 hown5 honly5
                  obtain ⟨g1, g2⟩ := New.grow (ext_trans Hb.out HE.out) hown5 honly5
                  refine hK.out _ _ ?_ (fun hHeld => ?_)
                  · try dsimp only
                    exact HS.out _ (by first | exact g2 | exact ext_trans Hb.out HE.out | (repeat (first | exact Hb.out | apply ext_drew | apply ext_drewN | apply ext_alloc)))
                  clear hK K
                  refine wpAnyH_take (i := 14) (v := ?_) (take_list rfl) (by kernel_rfl) (by kernel_rfl) (by kernel_rfl) (fun _ _ _ h => h) (Or.inl ⟨by rfl, ?_⟩) (by assumption) ?_
                  rotate_left
                  · intro w hSw
                    try dsimp only at hSw
                    first | (go_simp; done) | (go_simp; with_reducible rfl)
                  try simp only [Act.put, List.setIfInBounds_toArray, List.set_cons_zero, List.set_cons_succ]
                  refine wpAnyH_done (by kernel_rfl) ?_ _
                  go_wp2
                  go_roundw
                  case rel => exact ⟨k + 1, ds ++ Y, A5, c5, by omega, by go_num, by rw [List.length_append], Lib.hid (by rw [Hsn.out, Hds.out]), g1, g2⟩
                  case measure => simp [intOf]; omega
                exact AllReadyH.nil
              exact AllReadyH.nil
            exact AllReadyH.nil
          · obtain rfl : k = R.length := by omega
            go_wp2
            go_ret2
            rw [HR.out]
            refine ⟨A1, c1, ?_, ?_, ext_trans Hbw.out hb⟩
            · show _ = Ending.returned (.tuple #[.slice A1 (runsB l).length c1, .int .i64 0])
              rw [HP.out, ← Hds.out]
              rfl
            · show New w wr A1 c1 (runsB l)
              rw [HP.out, ← Hds.out]
              exact hn.back Hbw.out.size
end Go.Proofs.YtpjgkacekelkdaaGreatDoor

/-
  The shortest (reference). No statement of the seat is proved here.
-/
namespace Go.Proofs.YtpjgkacekelkdaaGreatDoor
open Go Go.RowKit
set_option maxRecDepth 100000

set_option maxHeartbeats 8000000 in
theorem rbest_any (A : Option Addr) (c : Nat) (l : List Int) (w : World) (hA : Rd w A (l.map iv)) (hl : l.length ≤ 1099511627776) :
    Calls Tryz.prog 22 #[.slice A l.length c] w fun e w' => ∃ A' c', e = .returned (.tuple #[.slice A' (ansP l (bestP l)).1.length c', .int .i64 (ansP l (bestP l)).2]) ∧ New w w' A' c' (ansP l (bestP l)).1 ∧ Below w.heap.size w w' := by
  have H1 := Lib.hid (rplain_any A c l w hA hl)
  have H2 := Lib.hid (fun (W : World) (hb : Below w.heap.size w W) => rdelta_any A c l W (hA.ext hb) hl)
  have H3 := Lib.hid (fun (W : World) (hb : Below w.heap.size w W) => rruns_any A c l W (hA.ext hb) hl)
  have HP : Hid (bestP l = shortP (shortP (plainP l) (deltaP l)) (runsB l)) := Lib.hid rfl
  cases hm : mayP l with
  | false =>
    have e1 : ∀ b, ansP l b = ([], 1) := fun b => by unfold ansP; rw [hm]; rfl
    rw [e1] at H1 ⊢
    clear e1 hm hA H2 H3 HP
    go_enter Tryz.func22, Tryz.ntmps22
    go_wp2_with fail
    refine H1.out.mono ?_
    rintro e w1 ⟨A1, c1, rfl, hn1, hb1⟩
    have Hb1 := Lib.hid hb1
    clear hn1 hb1
    go_wp2
    go_ret2
    exact ⟨none, 0, rfl, Own.none_ _ _ _, Hb1.out⟩
  | true =>
    have e1 : ∀ b, ansP l b = (b, 0) := fun b => by unfold ansP; rw [hm]; rfl
    simp only [e1] at H1 H2 H3 ⊢
    generalize bestP l = P at *
    generalize plainP l = P1 at *
    generalize deltaP l = P2 at *
    generalize runsB l = P3 at *
    clear e1 hm hA
    have HF : ∀ (d1 : P2.length < P1.length ∨ ¬ P2.length < P1.length), True := fun _ => trivial
    clear HF
    by_cases h1 : P2.length < P1.length
    · have h1i : (P2.length : Int) < (P1.length : Int) := by omega
      by_cases h2 : P3.length < P2.length
      · have h2i : (P3.length : Int) < (P2.length : Int) := by omega
        have HE : Hid (P = P3) := Lib.hid (by rw [HP.out]; unfold shortP; rw [if_pos h1, if_pos h2])
        clear HP h1 h2
        go_enter Tryz.func22, Tryz.ntmps22
        go_wp2_with fail
        refine H1.out.mono ?_
        rintro e w1 ⟨A1, c1, rfl, hn1, hb1⟩
        have Hn1a := Lib.hid hn1
        have Hb1 := Lib.hid hb1
        clear hn1 hb1 H1
        go_wp2_with fail
        refine (H2.out w1 Hb1.out).mono ?_
        rintro e w2 ⟨A2, c2, rfl, hn2, hb2⟩
        have Hn1b := Lib.hid (Hn1a.out.ext hb2)
        have Hn2a := Lib.hid (hn2.back Hb1.out.size)
        have Hb2 := Lib.hid (ext_trans Hb1.out hb2)
        clear hn2 hb2 H2 Hn1a
        go_wp2_with fail
        refine (H3.out w2 Hb2.out).mono ?_
        rintro e w3 ⟨A3, c3, rfl, hn3, hb3⟩
        have Hn1 := Lib.hid (Hn1b.out.ext hb3)
        have Hn2 := Lib.hid (Hn2a.out.ext hb3)
        have Hn3 := Lib.hid (hn3.back Hb2.out.size)
        have Hb3 := Lib.hid (ext_trans Hb2.out hb3)
        clear hn3 hb3 H3 Hn2a Hn1b
        go_wp2
        go_ret2
        rw [HE.out]
        exact ⟨A3, c3, rfl, Hn3.out, Hb3.out⟩
      · have h2i : ¬ (P3.length : Int) < (P2.length : Int) := by omega
        have HE : Hid (P = P2) := Lib.hid (by rw [HP.out]; unfold shortP; rw [if_pos h1, if_neg h2])
        clear HP h1 h2
        go_enter Tryz.func22, Tryz.ntmps22
        go_wp2_with fail
        refine H1.out.mono ?_
        rintro e w1 ⟨A1, c1, rfl, hn1, hb1⟩
        have Hn1a := Lib.hid hn1
        have Hb1 := Lib.hid hb1
        clear hn1 hb1 H1
        go_wp2_with fail
        refine (H2.out w1 Hb1.out).mono ?_
        rintro e w2 ⟨A2, c2, rfl, hn2, hb2⟩
        have Hn1b := Lib.hid (Hn1a.out.ext hb2)
        have Hn2a := Lib.hid (hn2.back Hb1.out.size)
        have Hb2 := Lib.hid (ext_trans Hb1.out hb2)
        clear hn2 hb2 H2 Hn1a
        go_wp2_with fail
        refine (H3.out w2 Hb2.out).mono ?_
        rintro e w3 ⟨A3, c3, rfl, hn3, hb3⟩
        have Hn1 := Lib.hid (Hn1b.out.ext hb3)
        have Hn2 := Lib.hid (Hn2a.out.ext hb3)
        have Hn3 := Lib.hid (hn3.back Hb2.out.size)
        have Hb3 := Lib.hid (ext_trans Hb2.out hb3)
        clear hn3 hb3 H3 Hn2a Hn1b
        go_wp2
        go_ret2
        rw [HE.out]
        exact ⟨A2, c2, rfl, Hn2.out, Hb3.out⟩
    · have h1i : ¬ (P2.length : Int) < (P1.length : Int) := by omega
      by_cases h2 : P3.length < P1.length
      · have h2i : (P3.length : Int) < (P1.length : Int) := by omega
        have HE : Hid (P = P3) := Lib.hid (by rw [HP.out]; unfold shortP; rw [if_neg h1, if_pos h2])
        clear HP h1 h2
        go_enter Tryz.func22, Tryz.ntmps22
        go_wp2_with fail
        refine H1.out.mono ?_
        rintro e w1 ⟨A1, c1, rfl, hn1, hb1⟩
        have Hn1a := Lib.hid hn1
        have Hb1 := Lib.hid hb1
        clear hn1 hb1 H1
        go_wp2_with fail
        refine (H2.out w1 Hb1.out).mono ?_
        rintro e w2 ⟨A2, c2, rfl, hn2, hb2⟩
        have Hn1b := Lib.hid (Hn1a.out.ext hb2)
        have Hn2a := Lib.hid (hn2.back Hb1.out.size)
        have Hb2 := Lib.hid (ext_trans Hb1.out hb2)
        clear hn2 hb2 H2 Hn1a
        go_wp2_with fail
        refine (H3.out w2 Hb2.out).mono ?_
        rintro e w3 ⟨A3, c3, rfl, hn3, hb3⟩
        have Hn1 := Lib.hid (Hn1b.out.ext hb3)
        have Hn2 := Lib.hid (Hn2a.out.ext hb3)
        have Hn3 := Lib.hid (hn3.back Hb2.out.size)
        have Hb3 := Lib.hid (ext_trans Hb2.out hb3)
        clear hn3 hb3 H3 Hn2a Hn1b
        go_wp2
        go_ret2
        rw [HE.out]
        exact ⟨A3, c3, rfl, Hn3.out, Hb3.out⟩
      · have h2i : ¬ (P3.length : Int) < (P1.length : Int) := by omega
        have HE : Hid (P = P1) := Lib.hid (by rw [HP.out]; unfold shortP; rw [if_neg h1, if_neg h2])
        clear HP h1 h2
        go_enter Tryz.func22, Tryz.ntmps22
        go_wp2_with fail
        refine H1.out.mono ?_
        rintro e w1 ⟨A1, c1, rfl, hn1, hb1⟩
        have Hn1a := Lib.hid hn1
        have Hb1 := Lib.hid hb1
        clear hn1 hb1 H1
        go_wp2_with fail
        refine (H2.out w1 Hb1.out).mono ?_
        rintro e w2 ⟨A2, c2, rfl, hn2, hb2⟩
        have Hn1b := Lib.hid (Hn1a.out.ext hb2)
        have Hn2a := Lib.hid (hn2.back Hb1.out.size)
        have Hb2 := Lib.hid (ext_trans Hb1.out hb2)
        clear hn2 hb2 H2 Hn1a
        go_wp2_with fail
        refine (H3.out w2 Hb2.out).mono ?_
        rintro e w3 ⟨A3, c3, rfl, hn3, hb3⟩
        have Hn1 := Lib.hid (Hn1b.out.ext hb3)
        have Hn2 := Lib.hid (Hn2a.out.ext hb3)
        have Hn3 := Lib.hid (hn3.back Hb2.out.size)
        have Hb3 := Lib.hid (ext_trans Hb2.out hb3)
        clear hn3 hb3 H3 Hn2a Hn1b
        go_wp2
        go_ret2
        rw [HE.out]
        exact ⟨A1, c1, rfl, Hn1.out, Hb3.out⟩
end Go.Proofs.YtpjgkacekelkdaaGreatDoor
