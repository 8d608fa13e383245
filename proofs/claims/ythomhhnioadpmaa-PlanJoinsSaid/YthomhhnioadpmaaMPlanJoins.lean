/-
  Statement PlanJoins: what is picked can be joined, and covers the same lines; at last nothing is picked: no two neighbours fit. No condition.
-/
import Derived.Test.YthomhhnioadpmaaAll2
set_option linter.unusedVariables false
set_option linter.unusedSimpArgs false
namespace Go.Proofs.Ythomhhnioadpmaa
open Go Go.ChangeShapes Go.WideShapes Go.ChangeAt Go.RowKit
namespace PlanJoins
set_option maxRecDepth 100000
theorem blk_atS {w : World} {g : Nat} (t : TypeId) (cs : Array Value) (h : g = w.heap.size) : Blk (w.alloc (.cells cs t)) g t cs := by subst h; exact Blk.new _ _ _
theorem pick_some {l : List Sp} {k : Nat} (hk : pickS l = some k) : numP (pickS l) = (k : Int) ∧ (pickS l).isSome = true := by rw [hk]; exact ⟨rfl, rfl⟩
set_option maxHeartbeats 16000000 in
theorem joins19 (A : Option Addr) (n c : Nat) (l : List Sp) (w : World) (hn : n = l.length) (h : SpsAt w A l) (h0 : A = none → n = 0 ∧ c = 0) (hok : ∀ k, k < l.length → (l.getD k spZ).ok) (hm : n ≤ maxLen) :
    Calls Try.prog 4 #[.slice A n c] w fun e w' => e = .returned (.bool true) ∧ Below w.heap.size w w' := by
  subst hn
  unfold maxLen at hm
  by_cases h60 : l.length ≤ 60
  case neg =>
    have hi : (60 : Int) < (l.length : Int) := by omega
    clear h hok h0
    go_enter Try.func4, Try.ntmps4
    go_wp2
    go_ret
    exact ⟨rfl, Below.refl _ _⟩
  have hi : ¬ (60 : Int) < (l.length : Int) := by omega
  have HI := Lib.hid (ris_any A l.length c l w rfl (by omega) h)
  have H := Lib.hid h
  have HO := Lib.hid hok
  obtain ⟨I, hI⟩ : ∃ I, isS l = I := ⟨_, rfl⟩
  rw [hI] at HI
  have HIs := Lib.hid hI
  clear h hok hI
  cases I with
  | false =>
    clear h0
    go_enter Try.func4, Try.ntmps4
    go_wp2_with fail
    refine HI.out.mono ?_
    rintro e w1 ⟨rfl, hb1⟩
    go_wp2
    go_ret
    exact ⟨rfl, hb1⟩
  | true =>
  by_cases hl0 : l.length = 0
  case pos =>
    rw [hl0] at HI ⊢
    clear h0
    go_enter Try.func4, Try.ntmps4
    go_wp2_with fail
    refine HI.out.mono ?_
    rintro e w1 ⟨rfl, hb1⟩
    go_wp2
    go_ret
    exact ⟨rfl, hb1⟩
  obtain ⟨g, o, rfl⟩ : ∃ g o, A = some ⟨g, o, none⟩ := by
    obtain ⟨g, o, e, _⟩ := H.out.at_ (k := 0) (by omega)
    exact ⟨g, o, e⟩
  clear h0
  obtain ⟨n, hnl⟩ : ∃ n, l.length = n := ⟨_, rfl⟩
  have Hnl := Lib.hid hnl
  rw [hnl] at HI hl0 hi h60 hm ⊢
  have hnb : ((n : Int) == 0) = false := by simpa using hl0
  have hni : (n : Int) ≤ 60 := by omega
  clear hnl
  go_enter Try.func4, Try.ntmps4
  go_wp2_with fail
  refine HI.out.mono ?_
  rintro e w1 ⟨rfl, hb1⟩
  have Hb1 := Lib.hid hb1
  have H1 := Lib.hid (H.out.ext hb1)
  clear hb1 HI
  go_wp2
  go_loopw [3, 4] (fun v3 v wr => ∃ i : Nat, i ≤ n ∧ v = .int .i64 (i : Int) ∧ ∃ M : Int, v3 = .int .i64 M ∧ Hid (M = maxTo l i) ∧ Hid (Below w1.heap.size w1 wr)) (fun _ v _ => n - (intOf v).toNat)
  case atStart => exact ⟨0, Nat.zero_le _, rfl, 0, rfl, Lib.hid rfl, Lib.hid (Below.refl _ _)⟩
  case round =>
    obtain ⟨i, hil, rfl, M, rfl, HM, Hb⟩ := hrel
    by_cases hlt : i < n
    · have hii : (i : Int) < (n : Int) := by omega
      obtain ⟨g', o', e, x0, -, -⟩ := (H1.out.ext Hb.out).at_ (k := i) (by rw [Hnl.out]; exact hlt)
      injection e with e
      injection e with e1 e2 _
      subst e1 e2
      have HS : Hid (maxTo l (i + 1) = if M < (l.getD i spZ).id then (l.getD i spZ).id else M) := Lib.hid (by rw [HM.out]; rfl)
      obtain ⟨a, ha⟩ : ∃ a, (l.getD i spZ).id = a := ⟨_, rfl⟩
      rw [ha] at x0 HS
      clear ha
      by_cases hMa : M < a
      all_goals
        go_wp2
        go_roundw
        case rel => first
          | exact ⟨i + 1, by omega, by go_num, a, rfl, Lib.hid (by rw [HS.out, if_pos hMa]), Hb⟩
          | exact ⟨i + 1, by omega, by go_num, M, rfl, Lib.hid (by rw [HS.out, if_neg (by omega)]), Hb⟩
          | exact ⟨i + 1, by omega, by go_num, _, rfl, Lib.hid HS.out.symm, Hb⟩
        case measure => simp [intOf]; omega
    · obtain rfl : i = n := by omega
      rename World => w2
      have Hb2 := Lib.hid (ext_trans Hb1.out Hb.out)
      have hM0 := maxTo_nn l i
      have hMg : ∀ j, j < l.length → (l.getD j spZ).id ≤ M := fun j hj => by rw [HM.out]; exact maxTo_ge l i j (by rw [← Hnl.out]; exact hj)
      rw [← HM.out] at hM0
      by_cases hbig : 1073741824 < M
      · have HK := Lib.hid (known_any w2)
        go_wp2_with fail
        refine HK.out.mono ?_
        rintro e w3 ⟨rfl, hb3⟩
        go_wp2
        go_ret
        exact ⟨rfl, ext_trans Hb2.out hb3⟩
      · have hinv : Inv l l M := ⟨HIs.out, by rw [Hnl.out]; omega, hMg, rfl, rfl⟩
        have HV := Lib.hid hinv
        have hrow0 := RowO.lit w2 24 3 0 #[] rfl (Nat.zero_le _) rfl
        have hrd0 : Rd (w2.alloc (.cells #[] 24)) (some ⟨g, o, none⟩) (spsV l) := ((H1.out.ext Hb.out).rd).alloc _
        have hsl : (spsV l).length = i * 3 := by rw [spsV_len, Hnl.out]
        have hsone := spsV_one l
        clear hinv hMg
        go_wp2_with (first
          | (at_builtin; refine wpList_appO _ rfl (.tmp 43) (.tmp 44) _ rfl _ _ 3 24 Try.underlying22 info_sp rfl (some ⟨w2.heap.size, 0, none⟩) 0 0 [] rfl hrow0 (some ⟨g, o, none⟩) i c (spsV l) rfl hsl hrd0 hsone (by intro h; cases h) (by unfold maxLen; omega) (by omega) ?_
             intro A3 c3 w3 hr3 ho3 hA3
             rw [List.nil_append, Nat.zero_add] at hr3
             rw [Nat.zero_add])
          | fail)
        have hb3 : Below w2.heap.size w2 w3 := (ext_alloc (Below.refl w2.heap.size w2) _).trans (ho3.below (B := w2.heap.size) (fun j hj => by rw [inA_some] at hj; omega) (by simp))
        have Hb3 := Lib.hid (ext_trans Hb2.out hb3)
        have HB23 := Lib.hid hb3
        have Hs3 := Lib.hid (hr3.sps)
        clear hrow0 hrd0 hsl hsone hr3 ho3 hA3 hb3
        have hM1 : M ≤ 1073741824 := by omega
        go_wp2
        go_loopw [3, 5, 6] (fun v3 v5 v wr => ∃ k : Nat, k < i ∧ v = .int .i64 (k : Int) ∧ ∃ (now : List Sp) (m : Nat) (A2 : Option Addr) (c2 : Nat), v3 = .int .i64 (M + (k : Int)) ∧ v5 = .slice A2 m c2 ∧ m + k = i ∧ Hid (m = now.length) ∧ Hid (Inv l now (M + (k : Int))) ∧ Hid (SpsAt wr A2 now) ∧ Hid (Below w3.heap.size w3 wr)) (fun _ _ v _ => i - (intOf v).toNat)
        case atStart => exact ⟨0, by omega, rfl, l, i, A3, c3, by simp, rfl, by omega, Lib.hid Hnl.out.symm, Lib.hid (by simpa using HV.out), Hs3, Lib.hid (Below.refl _ _)⟩
        case round =>
          obtain ⟨k, hki, rfl, now, m, A2, c2, rfl, rfl, hmk, HML, HV2, Hs, Hb4⟩ := hrel
          rename World => w4
          have hkii : (k : Int) ≤ (i : Int) := by omega
          have hposn := HV2.out.pos
          rw [← HML.out] at hposn
          have HP := Lib.hid (pick_any A2 m c2 now w4 HML.out (by rw [← HML.out]; omega) Hs.out (oks_of HV2.out.is))
          cases hp : pickS now with
          | some p =>
            obtain ⟨hn1, hn2⟩ := pick_some hp
            rw [hn1, hn2] at HP
            obtain ⟨hcj, his, hp1⟩ := canJ_of hp
            have hstep := HV2.out.step hp (by omega) (by omega)
            have hJR : joinR now (p : Int) (M + (k : Int) + 1) = putS now p (oneS now p (M + (k : Int) + 1)) := by unfold joinR; rw [hcj]; rfl
            have hlen := putS_len now p (oneS now p (M + (k : Int) + 1)) (by omega)
            have HJ : Hid (∀ W, Below w4.heap.size w4 W → Calls Try.prog 9 #[.slice A2 m c2, .int .i64 (p : Int), .int .i64 (M + (k : Int) + 1)] W fun e w' => ∃ A' c', e = .returned (.tuple #[.slice A' (m - 1) c', .bool true]) ∧ NewO W w' 24 3 A' (m - 1) c' (spsV (putS now p (oneS now p (M + (k : Int) + 1))))) := Lib.hid fun W hW => by
              have hj := join_any A2 m c2 now (p : Int) (M + (k : Int) + 1) W HML.out (by rw [← HML.out]; omega) (Hs.out.ext hW) (fun e => by
                obtain ⟨_, _, e2, _⟩ := Hs.out.at_ (k := 0) (by omega)
                rw [e] at e2; cases e2) (oks_of his) (by rw [← HML.out] at hp1; unfold isInt; omega) (by unfold isInt; omega)
              rw [hJR, hcj, hlen, ← HML.out] at hj
              exact hj
            have Hstep := Lib.hid hstep
            have Hlen := Lib.hid (show (putS now p (oneS now p (M + (k : Int) + 1))).length = m - 1 by rw [hlen, HML.out])
            have hpm : p + 1 < m := by rw [HML.out]; exact hp1
            clear hn1 hn2 hcj his hp1 hstep hJR hlen hp
            have hwM : IntKind.i64.wrap (M + (k : Int) + 1) = M + (k : Int) + 1 := by rw [IntKind.wrap_i64]; omega
            have hmi : (m : Int) ≤ 60 := by omega
            have hm1 : ((m - 1 : Nat) : Int) = (m : Int) - 1 := by omega
            have hneq : (((m - 1 : Nat) : Int) != (m : Int) - 1) = false := by rw [hm1]; simp
            go_wp2_with fail
            refine HP.out.mono ?_
            rintro e w5 ⟨rfl, hb5⟩
            have Hb5 := Lib.hid hb5
            clear hb5 HP
            go_wp2_with fail
            refine (HJ.out w5 Hb5.out).mono ?_
            rintro e w6 ⟨A6, c6, rfl, hN6⟩
            have Hb6 := Lib.hid (ext_trans Hb5.out hN6.bel)
            have Hs6 := Lib.hid hN6.row.sps
            have HIs6 := Lib.hid (is_any A6 (m - 1) c6 _ w6 Hlen.out.symm (by rw [Hlen.out]; omega) Hs6.out (oks_of Hstep.out.is))
            rw [Hstep.out.is] at HIs6
            clear hN6 HJ
            go_wp2_with fail
            refine HIs6.out.mono ?_
            rintro e w7 ⟨rfl, hb7⟩
            have Hb7 := Lib.hid (ext_trans Hb4.out (ext_trans Hb6.out hb7))
            have Hs7 := Lib.hid (Hs6.out.ext hb7)
            clear hb7 HIs6
            go_wp2
            go_roundw
            case rel => exact ⟨k + 1, by omega, by go_num, _, m - 1, A6, c6, by go_num, rfl, by omega, Lib.hid Hlen.out.symm, Lib.hid (by rw [show M + ((k + 1 : Nat) : Int) = M + (k : Int) + 1 by omega]; exact Hstep.out), Hs7, Hb7⟩
            case measure => simp [intOf]; omega
          | none =>
            rw [hp] at HP
            have HPn := Lib.hid (pick_none HV2.out.is hp)
            clear hp
            go_wp2_with fail
            refine HP.out.mono ?_
            rintro e w5 ⟨rfl, hb5⟩
            have Hb5 := Lib.hid (ext_trans Hb4.out hb5)
            have Hs5 := Lib.hid (Hs.out.ext hb5)
            clear hb5 HP
            obtain ⟨g2, o2, rfl⟩ : ∃ g o, A2 = some ⟨g, o, none⟩ := by
              obtain ⟨g, o, e, _⟩ := Hs.out.at_ (k := 0) (by rw [← HML.out]; omega)
              exact ⟨g, o, e⟩
            go_wp2
            go_loopw [11] (fun v wr => ∃ j : Nat, j ≤ m ∧ v = .int .i64 (j : Int) ∧ Hid (Below w5.heap.size w5 wr)) (fun v _ => m - (intOf v).toNat)
            case atStart => exact ⟨0, Nat.zero_le _, rfl, Lib.hid (Below.refl _ _)⟩
            case round =>
              obtain ⟨j, hjm, rfl, Hb6⟩ := hrel
              by_cases hlt3 : j + 1 < m
              · have hjj : (j : Int) + 1 < (m : Int) := by omega
                have hjj0 : (j : Int) < (m : Int) := by omega
                obtain ⟨g', o', e, -, -, x2⟩ := (Hs5.out.ext Hb6.out).at_ (k := j) (by rw [← HML.out]; omega)
                injection e with e
                injection e with e1 e2 _
                subst e1 e2
                obtain ⟨g', o', e, -, -, y2⟩ := (Hs5.out.ext Hb6.out).at_ (k := j + 1) (by rw [← HML.out]; omega)
                injection e with e
                injection e with e1 e2 _
                subst e1 e2
                have ht := isS_tog HV2.out.is j (by rw [← HML.out]; omega)
                have hgt := HPn.out j (by rw [← HML.out]; omega)
                have htog : togS now j = (now.getD j spZ).count + (now.getD (j + 1) spZ).count := rfl
                obtain ⟨a, ha⟩ : ∃ a, (now.getD j spZ).count = a := ⟨_, rfl⟩
                obtain ⟨b, hb⟩ : ∃ b, (now.getD (j + 1) spZ).count = b := ⟨_, rfl⟩
                rw [ha] at x2
                rw [hb] at y2
                rw [ha, hb] at htog
                rw [htog] at ht hgt
                unfold isInt at ht
                have ht1 := ht.1
                have ht2 := ht.2
                have hw2 : IntKind.i64.wrap (a + b) = a + b := by rw [IntKind.wrap_i64]; omega
                have hw1 : IntKind.i64.wrap ((j : Int) + 1) = (j : Int) + 1 := by rw [IntKind.wrap_i64]; omega
                have hkn : ((j : Int) + 1).toNat = j + 1 := by omega
                clear ha hb htog ht
                go_wp2
                go_quiet (fail)
                go_wp2
                go_roundw
                case rel => exact ⟨j + 1, by omega, by go_num, Lib.hid (by repeat (first | exact Hb6.out | apply ext_drew | apply ext_drewN))⟩
                case measure => simp [intOf]; omega
              · rename World => w6
                have hjn : ¬ (j : Int) + 1 < (m : Int) := by omega
                have hHl := (H1.out.ext Hb.out).ext (show Below w2.heap.size w2 w6 from ext_trans HB23.out (ext_trans Hb5.out Hb6.out))
                have hHn := Hs5.out.ext Hb6.out
                obtain ⟨g', o', e, -, z1, -⟩ := hHl.at_ (k := 0) (by rw [Hnl.out]; omega)
                injection e with e
                injection e with e1 e2 _
                subst e1 e2
                obtain ⟨g', o', e, x0, x1, x2⟩ := hHl.at_ (k := i - 1) (by rw [Hnl.out]; omega)
                injection e with e
                injection e with e1 e2 _
                subst e1 e2
                obtain ⟨g', o', e, -, u1, -⟩ := hHn.at_ (k := 0) (by rw [← HML.out]; omega)
                injection e with e
                injection e with e1 e2 _
                subst e1 e2
                obtain ⟨g', o', e, y0, y1, y2⟩ := hHn.at_ (k := m - 1) (by rw [← HML.out]; omega)
                injection e with e
                injection e with e1 e2 _
                subst e1 e2
                have hfst := HV2.out.first
                have hlst := HV2.out.last
                unfold endS at hlst
                rw [← HML.out, Hnl.out] at hlst
                have hrl := (rightS_iff _).1 (isS_right HIs.out (k := i - 1) (by rw [Hnl.out]; omega))
                have hrn := (rightS_iff _).1 (isS_right HV2.out.is (k := m - 1) (by rw [← HML.out]; omega))
                obtain ⟨fz, hfz⟩ : ∃ fz, (l.getD 0 spZ).first = fz := ⟨_, rfl⟩
                rw [hfz] at z1 hfst
                rw [hfst] at u1
                obtain ⟨⟨sa, sb, sd⟩, hs⟩ : ∃ s, l.getD (i - 1) spZ = s := ⟨_, rfl⟩
                obtain ⟨⟨ta, tb, td⟩, hts⟩ : ∃ s, now.getD (m - 1) spZ = s := ⟨_, rfl⟩
                rw [hs] at x0 x1 x2 hlst hrl
                rw [hts] at y0 y1 y2 hlst hrn
                dsimp only at x0 x1 x2 y0 y1 y2 hlst hrl hrn
                obtain ⟨E, hE⟩ : ∃ E, sb + sd = E := ⟨_, rfl⟩
                have hwA : IntKind.i64.wrap (sb + sd) = E := by rw [IntKind.wrap_i64]; omega
                have hwB : IntKind.i64.wrap (tb + td) = E := by rw [IntKind.wrap_i64]; omega
                simp only [Nat.zero_mul, Nat.add_zero] at z1 u1
                have hp1 : 0 < m := by rw [HML.out]; exact HV2.out.pos
                have hwi : IntKind.i64.wrap ((i : Int) - 1) = (i : Int) - 1 := by rw [IntKind.wrap_i64]; omega
                have hwm : IntKind.i64.wrap ((m : Int) - 1) = (m : Int) - 1 := by rw [IntKind.wrap_i64]; omega
                have hin : ((i : Int) - 1).toNat = i - 1 := by omega
                have hmn : ((m : Int) - 1).toNat = m - 1 := by omega
                have hi1 : (1 : Int) ≤ (i : Int) := by omega
                have hm1 : (1 : Int) ≤ (m : Int) := by omega
                have hi2 : (0 : Int) ≤ (i : Int) - 1 := by omega
                have hm2 : (0 : Int) ≤ (m : Int) - 1 := by omega
                have hi3 : (i : Int) - 1 < (i : Int) := by omega
                have hm3 : (m : Int) - 1 < (m : Int) := by omega
                have hi4 : (0 : Int) < (i : Int) := by omega
                have hi5 : 0 < i := by omega
                have hm4 : (0 : Int) < (m : Int) := by omega
                have hgl : g < w6.heap.size := World.block_lt_of_cell? w6 _ x0
                have hgl2 : g2 < w6.heap.size := World.block_lt_of_cell? w6 _ y0
                have HSS : Hid (∀ W, Below w6.heap.size w6 W → (W.cell? ⟨g, o + 1, none⟩ = some (.int .i64 fz) ∧ W.cell? ⟨g, o + (i - 1) * 3, none⟩ = some (.int .i64 sa) ∧ W.cell? ⟨g, o + (i - 1) * 3 + 1, none⟩ = some (.int .i64 sb) ∧ W.cell? ⟨g, o + (i - 1) * 3 + 2, none⟩ = some (.int .i64 sd) ∧ W.cell? ⟨g2, o2 + 1, none⟩ = some (.int .i64 fz) ∧ W.cell? ⟨g2, o2 + (m - 1) * 3, none⟩ = some (.int .i64 ta) ∧ W.cell? ⟨g2, o2 + (m - 1) * 3 + 1, none⟩ = some (.int .i64 tb) ∧ W.cell? ⟨g2, o2 + (m - 1) * 3 + 2, none⟩ = some (.int .i64 td))) := Lib.hid fun W hW => by
                  have hk1 : ∀ j, W.cell? ⟨g, j, none⟩ = w6.cell? ⟨g, j, none⟩ := fun j => World.cell?_of_block (a := ⟨g, j, none⟩) (hW.block g hgl)
                  have hk2 : ∀ j, W.cell? ⟨g2, j, none⟩ = w6.cell? ⟨g2, j, none⟩ := fun j => World.cell?_of_block (a := ⟨g2, j, none⟩) (hW.block g2 hgl2)
                  exact ⟨(hk1 _).trans z1, (hk1 _).trans x0, (hk1 _).trans x1, (hk1 _).trans x2, (hk2 _).trans u1, (hk2 _).trans y0, (hk2 _).trans y1, (hk2 _).trans y2⟩
                have HBF := Lib.hid (ext_trans Hb2.out (ext_trans HB23.out (ext_trans Hb5.out Hb6.out)))
                have hbx : Below w6.heap.size w6 w6 := Below.refl _ _
                clear hfst hlst hrl hrn hfz hs hts hE hHl hHn
                go_wp2
                refine wp_region_held_drew (S := fun W => W.cell? ⟨g, o + 1, none⟩ = some (.int .i64 fz) ∧ W.cell? ⟨g, o + (i - 1) * 3, none⟩ = some (.int .i64 sa) ∧ W.cell? ⟨g, o + (i - 1) * 3 + 1, none⟩ = some (.int .i64 sb) ∧ W.cell? ⟨g, o + (i - 1) * 3 + 2, none⟩ = some (.int .i64 sd) ∧ W.cell? ⟨g2, o2 + 1, none⟩ = some (.int .i64 fz) ∧ W.cell? ⟨g2, o2 + (m - 1) * 3, none⟩ = some (.int .i64 ta) ∧ W.cell? ⟨g2, o2 + (m - 1) * 3 + 1, none⟩ = some (.int .i64 tb) ∧ W.cell? ⟨g2, o2 + (m - 1) * 3 + 2, none⟩ = some (.int .i64 td)) (by kernel_rfl) ?_ (fun hHeld => ?_)
                · exact HSS.out _ (by repeat (first | exact hbx | apply ext_alloc | apply ext_drew | apply ext_drewN | exact Below.refl _ _))
                refine wpAnyH_take (i := 0) (v := ?_) (take_list rfl) (by kernel_rfl) (by kernel_rfl) (by kernel_rfl) (fun _ _ _ h => h) (Or.inl ⟨by rfl, ?_⟩) (by assumption) ?_
                rotate_left
                · intro w hSw
                  try dsimp only at hSw
                  first | (go_simp; done) | (go_simp; with_reducible rfl)
                try simp only [Act.put, List.setIfInBounds_toArray, List.set_cons_zero, List.set_cons_succ]
                refine wpAnyH_take (i := 1) (v := ?_) (take_list rfl) (by kernel_rfl) (by kernel_rfl) (by kernel_rfl) (fun _ _ _ h => h) (Or.inl ⟨by rfl, ?_⟩) (by assumption) ?_
                rotate_left
                · intro w hSw
                  try dsimp only at hSw
                  first | (go_simp; done) | (go_simp; with_reducible rfl)
                try simp only [Act.put, List.setIfInBounds_toArray, List.set_cons_zero, List.set_cons_succ]
                refine wpAnyH_take (i := 2) (v := ?_) (take_list rfl) (by kernel_rfl) (by kernel_rfl) (by kernel_rfl) (fun _ _ _ h => h) (Or.inl ⟨by rfl, ?_⟩) (by assumption) ?_
                rotate_left
                · intro w hSw
                  try dsimp only at hSw
                  first | (go_simp; done) | (go_simp; with_reducible rfl)
                try simp only [Act.put, List.setIfInBounds_toArray, List.set_cons_zero, List.set_cons_succ]
                refine wpAnyH_take (i := 3) (v := ?_) (take_list rfl) (by kernel_rfl) (by kernel_rfl) (by kernel_rfl) (fun _ _ _ h => h) (Or.inl ⟨by rfl, ?_⟩) (by assumption) ?_
                rotate_left
                · intro w hSw
                  try dsimp only at hSw
                  first | (go_simp; done) | (go_simp; with_reducible rfl)
                try simp only [Act.put, List.setIfInBounds_toArray, List.set_cons_zero, List.set_cons_succ]
                refine wpAnyH_take (i := 4) (v := ?_) (take_list rfl) (by kernel_rfl) (by kernel_rfl) (by kernel_rfl) (fun _ _ _ h => h) (Or.inl ⟨by rfl, ?_⟩) (by assumption) ?_
                rotate_left
                · intro w hSw
                  try dsimp only at hSw
                  first | (go_simp; done) | (go_simp; with_reducible rfl)
                try simp only [Act.put, List.setIfInBounds_toArray, List.set_cons_zero, List.set_cons_succ]
                refine wpAnyH_take (i := 5) (v := ?_) (take_list rfl) (by kernel_rfl) (by kernel_rfl) (by kernel_rfl) (fun _ _ _ h => h) (Or.inl ⟨by rfl, ?_⟩) (by assumption) ?_
                rotate_left
                · intro w hSw
                  try dsimp only at hSw
                  first | (go_simp; done) | (go_simp; with_reducible rfl)
                try simp only [Act.put, List.setIfInBounds_toArray, List.set_cons_zero, List.set_cons_succ]
                refine wpAnyH_take (i := 6) (v := ?_) (take_list rfl) (by kernel_rfl) (by kernel_rfl) (by kernel_rfl) (fun _ _ _ h => h) (Or.inl ⟨by rfl, ?_⟩) (by assumption) ?_
                rotate_left
                · intro w hSw
                  try dsimp only at hSw
                  first | (go_simp; done) | (go_simp; with_reducible rfl)
                try simp only [Act.put, List.setIfInBounds_toArray, List.set_cons_zero, List.set_cons_succ]
                refine wpAnyH_take (i := 7) (v := ?_) (take_list rfl) (by kernel_rfl) (by kernel_rfl) (by kernel_rfl) (fun _ _ _ h => h) (Or.inl ⟨by rfl, ?_⟩) (by assumption) ?_
                rotate_left
                · intro w hSw
                  try dsimp only at hSw
                  first | (go_simp; done) | (go_simp; with_reducible rfl)
                try simp only [Act.put, List.setIfInBounds_toArray, List.set_cons_zero, List.set_cons_succ]
                refine wpAnyH_take (i := 8) (v := ?_) (take_list rfl) (by kernel_rfl) (by kernel_rfl) (by kernel_rfl) (fun _ _ _ h => h) (Or.inl ⟨by rfl, ?_⟩) (by assumption) ?_
                rotate_left
                · intro w hSw
                  try dsimp only at hSw
                  first | (go_simp; done) | (go_simp; with_reducible rfl)
                try simp only [Act.put, List.setIfInBounds_toArray, List.set_cons_zero, List.set_cons_succ]
                refine wpAnyH_take (i := 9) (v := ?_) (take_list rfl) (by kernel_rfl) (by kernel_rfl) (by kernel_rfl) (fun _ _ _ h => h) (Or.inl ⟨by rfl, ?_⟩) (by assumption) ?_
                rotate_left
                · intro w hSw
                  try dsimp only at hSw
                  first | (go_simp; done) | (go_simp; with_reducible rfl)
                try simp only [Act.put, List.setIfInBounds_toArray, List.set_cons_zero, List.set_cons_succ]
                refine wpAnyH_take (i := 10) (v := ?_) (take_list rfl) (by kernel_rfl) (by kernel_rfl) (by kernel_rfl) (fun _ _ _ h => h) (Or.inl ⟨by rfl, ?_⟩) (by assumption) ?_
                rotate_left
                · intro w hSw
                  try dsimp only at hSw
                  first | (go_simp; done) | (go_simp; with_reducible rfl)
                try simp only [Act.put, List.setIfInBounds_toArray, List.set_cons_zero, List.set_cons_succ]
                refine wpAnyH_take (i := 11) (v := ?_) (take_list rfl) (by kernel_rfl) (by kernel_rfl) (by kernel_rfl) (fun _ _ _ h => h) (Or.inl ⟨by rfl, ?_⟩) (by assumption) ?_
                rotate_left
                · intro w hSw
                  try dsimp only at hSw
                  first | (go_simp; done) | (go_simp; with_reducible rfl)
                try simp only [Act.put, List.setIfInBounds_toArray, List.set_cons_zero, List.set_cons_succ]
                refine wpAnyH_ready (rs := [12, 13]) (by kernel_rfl) (by simp) ?_
                refine AllReadyH.cons (take_list rfl) (fun K hK => ?_) ?_
                · skip
                  go_simp
                  refine hK.out _ _ ?_ (fun hHeld => ?_)
                  · try dsimp only
                    exact HSS.out _ (by repeat (first | exact hbx | apply ext_alloc | apply ext_drew | apply ext_drewN | exact Below.refl _ _))
                  clear hK K
                  refine wpAnyH_ready (rs := [13]) (by kernel_rfl) (by simp) ?_
                  refine AllReadyH.cons (take_list rfl) (fun K hK => ?_) ?_
                  · skip
                    go_simp
                    refine hK.out _ _ ?_ (fun hHeld => ?_)
                    · try dsimp only
                      exact HSS.out _ (by repeat (first | exact hbx | apply ext_alloc | apply ext_drew | apply ext_drewN | exact Below.refl _ _))
                    clear hK K
                    refine wpAnyH_ready (rs := [14]) (by kernel_rfl) (by simp) ?_
                    refine AllReadyH.cons (take_list rfl) (fun K hK => ?_) ?_
                    · skip
                      refine step_store_sp rfl (.tmp 12) (.tmp 109) rfl (w6.heap.size) rfl rfl (by simp [Value.oneCell']) (cs := #[.int .i64 0, .int .i64 0, .int .i64 0]) (t := 24) (by first | exact (blk_atS 24 #[.int .i64 0, .int .i64 0, .int .i64 0] rfl).alloc _ | exact ((blk_atS 24 #[.int .i64 0, .int .i64 0, .int .i64 0] rfl).alloc _).drew) rfl ?_
                      intro w14 hB14 ho14
                      have hb14 : Below w6.heap.size w6 w14 := (show Below w6.heap.size w6 _ from (by repeat (first | exact hbx | apply ext_alloc | apply ext_drew | apply ext_drewN | exact Below.refl _ _))).trans (ho14.below (B := w6.heap.size) (fun i hi => by omega) (by first | (simp; done) | (simp; omega)))
                      have hB13 : Blk w14 (w6.heap.size + 1) 24 #[.int .i64 0, .int .i64 0, .int .i64 0] := Blk.only (by first | exact blk_atS 24 #[.int .i64 0, .int .i64 0, .int .i64 0] (World.size_alloc _ _).symm | exact (blk_atS 24 #[.int .i64 0, .int .i64 0, .int .i64 0] (World.size_alloc _ _).symm).drew) ho14 (by omega)
                      have hbx := hb14
                      refine hK.out _ _ ?_ (fun hHeld => ?_)
                      · try dsimp only
                        exact HSS.out _ (by repeat (first | exact hbx | apply ext_alloc | apply ext_drew | apply ext_drewN | exact Below.refl _ _))
                      clear hK K
                      refine wpAnyH_ready (rs := [15]) (by kernel_rfl) (by simp) ?_
                      refine AllReadyH.cons (take_list rfl) (fun K hK => ?_) ?_
                      · skip
                        refine step_store_sp rfl (.tmp 13) (.tmp 115) rfl (w6.heap.size + 1) rfl rfl (by simp [Value.oneCell']) (cs := #[.int .i64 0, .int .i64 0, .int .i64 0]) (t := 24) (by first | exact hB13 | exact hB13.drew) rfl ?_
                        intro w15 hB15 ho15
                        have hb15 : Below w6.heap.size w6 w15 := (show Below w6.heap.size w6 _ from (by repeat (first | exact hbx | apply ext_alloc | apply ext_drew | apply ext_drewN | exact Below.refl _ _))).trans (ho15.below (B := w6.heap.size) (fun i hi => by omega) (by have := hb14.size; first | exact this | simpa using this))
                        have hB12 := Blk.only (by first | exact hB14 | exact hB14.drew) ho15 (by omega)
                        have hbx := hb15
                        refine hK.out _ _ ?_ (fun hHeld => ?_)
                        · try dsimp only
                          exact HSS.out _ (by repeat (first | exact hbx | apply ext_alloc | apply ext_drew | apply ext_drewN | exact Below.refl _ _))
                        clear hK K
                        refine wpAnyH_done (by kernel_rfl) ?_ _
                        have HSF := HSS.out w15 hb15
                        have HB12 := Lib.hid hB12
                        have HB15 := Lib.hid hB15
                        have HSG : Hid (∀ W, Below w15.heap.size w15 W → ((W.cell? ⟨g, o + 1, none⟩ = some (.int .i64 fz) ∧ W.cell? ⟨g, o + (i - 1) * 3, none⟩ = some (.int .i64 sa) ∧ W.cell? ⟨g, o + (i - 1) * 3 + 1, none⟩ = some (.int .i64 sb) ∧ W.cell? ⟨g, o + (i - 1) * 3 + 2, none⟩ = some (.int .i64 sd) ∧ W.cell? ⟨g2, o2 + 1, none⟩ = some (.int .i64 fz) ∧ W.cell? ⟨g2, o2 + (m - 1) * 3, none⟩ = some (.int .i64 ta) ∧ W.cell? ⟨g2, o2 + (m - 1) * 3 + 1, none⟩ = some (.int .i64 tb) ∧ W.cell? ⟨g2, o2 + (m - 1) * 3 + 2, none⟩ = some (.int .i64 td)) ∧ W.cell? ⟨w6.heap.size, 1, none⟩ = some (.int .i64 sb) ∧ W.cell? ⟨w6.heap.size, 2, none⟩ = some (.int .i64 sd) ∧ W.cell? ⟨w6.heap.size + 1, 1, none⟩ = some (.int .i64 tb) ∧ W.cell? ⟨w6.heap.size + 1, 2, none⟩ = some (.int .i64 td))) := Lib.hid fun W hW => ⟨HSS.out W (ext_trans hb15 hW), (HB12.out.ext hW).cell 1, (HB12.out.ext hW).cell 2, (HB15.out.ext hW).cell 1, (HB15.out.ext hW).cell 2⟩
                        have HBG := Lib.hid (ext_trans HBF.out hb15)
                        clear HSF hb14 hb15 hbx hB12 hB13 hB14 hB15
                        have hbx : Below w15.heap.size w15 w15 := Below.refl _ _
                        have HK := Lib.hid (fun W => known_any W)
                        go_wp2
                        refine wp_region_held_drew (S := fun W => (W.cell? ⟨g, o + 1, none⟩ = some (.int .i64 fz) ∧ W.cell? ⟨g, o + (i - 1) * 3, none⟩ = some (.int .i64 sa) ∧ W.cell? ⟨g, o + (i - 1) * 3 + 1, none⟩ = some (.int .i64 sb) ∧ W.cell? ⟨g, o + (i - 1) * 3 + 2, none⟩ = some (.int .i64 sd) ∧ W.cell? ⟨g2, o2 + 1, none⟩ = some (.int .i64 fz) ∧ W.cell? ⟨g2, o2 + (m - 1) * 3, none⟩ = some (.int .i64 ta) ∧ W.cell? ⟨g2, o2 + (m - 1) * 3 + 1, none⟩ = some (.int .i64 tb) ∧ W.cell? ⟨g2, o2 + (m - 1) * 3 + 2, none⟩ = some (.int .i64 td)) ∧ W.cell? ⟨w6.heap.size, 1, none⟩ = some (.int .i64 sb) ∧ W.cell? ⟨w6.heap.size, 2, none⟩ = some (.int .i64 sd) ∧ W.cell? ⟨w6.heap.size + 1, 1, none⟩ = some (.int .i64 tb) ∧ W.cell? ⟨w6.heap.size + 1, 2, none⟩ = some (.int .i64 td)) (by kernel_rfl) ?_ (fun hHeld => ?_)
                        · exact HSG.out _ (by repeat (first | exact hbx | apply ext_alloc | apply ext_drew | apply ext_drewN | exact Below.refl _ _))
                        refine wpAnyH_take (i := 0) (v := ?_) (take_list rfl) (by kernel_rfl) (by kernel_rfl) (by kernel_rfl) (fun _ _ _ h => h) (Or.inl ⟨by rfl, ?_⟩) (by assumption) ?_
                        rotate_left
                        · intro w hSw
                          try dsimp only at hSw
                          first | (go_simp; done) | (go_simp; with_reducible rfl)
                        try simp only [Act.put, List.setIfInBounds_toArray, List.set_cons_zero, List.set_cons_succ]
                        refine wpAnyH_take (i := 1) (v := ?_) (take_list rfl) (by kernel_rfl) (by kernel_rfl) (by kernel_rfl) (fun _ _ _ h => h) (Or.inl ⟨by rfl, ?_⟩) (by assumption) ?_
                        rotate_left
                        · intro w hSw
                          try dsimp only at hSw
                          first | (go_simp; done) | (go_simp; with_reducible rfl)
                        try simp only [Act.put, List.setIfInBounds_toArray, List.set_cons_zero, List.set_cons_succ]
                        refine wpAnyH_take (i := 2) (v := ?_) (take_list rfl) (by kernel_rfl) (by kernel_rfl) (by kernel_rfl) (fun _ _ _ h => h) (Or.inl ⟨by rfl, ?_⟩) (by assumption) ?_
                        rotate_left
                        · intro w hSw
                          try dsimp only at hSw
                          first | (go_simp; done) | (go_simp; with_reducible rfl)
                        try simp only [Act.put, List.setIfInBounds_toArray, List.set_cons_zero, List.set_cons_succ]
                        refine wpAnyH_take (i := 3) (v := ?_) (take_list rfl) (by kernel_rfl) (by kernel_rfl) (by kernel_rfl) (fun _ _ _ h => h) (Or.inl ⟨by rfl, ?_⟩) (by assumption) ?_
                        rotate_left
                        · intro w hSw
                          try dsimp only at hSw
                          first | (go_simp; done) | (go_simp; with_reducible rfl)
                        try simp only [Act.put, List.setIfInBounds_toArray, List.set_cons_zero, List.set_cons_succ]
                        refine wpAnyH_take (i := 4) (v := ?_) (take_list rfl) (by kernel_rfl) (by kernel_rfl) (by kernel_rfl) (fun _ _ _ h => h) (Or.inl ⟨by rfl, ?_⟩) (by assumption) ?_
                        rotate_left
                        · intro w hSw
                          try dsimp only at hSw
                          first | (go_simp; done) | (go_simp; with_reducible rfl)
                        try simp only [Act.put, List.setIfInBounds_toArray, List.set_cons_zero, List.set_cons_succ]
                        refine wpAnyH_take (i := 5) (v := ?_) (take_list rfl) (by kernel_rfl) (by kernel_rfl) (by kernel_rfl) (fun _ _ _ h => h) (Or.inl ⟨by rfl, ?_⟩) (by assumption) ?_
                        rotate_left
                        · intro w hSw
                          try dsimp only at hSw
                          first | (go_simp; done) | (go_simp; with_reducible rfl)
                        try simp only [Act.put, List.setIfInBounds_toArray, List.set_cons_zero, List.set_cons_succ]
                        refine wpAnyH_take (i := 6) (v := ?_) (take_list rfl) (by kernel_rfl) (by kernel_rfl) (by kernel_rfl) (fun _ _ _ h => h) (Or.inl ⟨by rfl, ?_⟩) (by assumption) ?_
                        rotate_left
                        · intro w hSw
                          try dsimp only at hSw
                          first | (go_simp; done) | (go_simp; with_reducible rfl)
                        try simp only [Act.put, List.setIfInBounds_toArray, List.set_cons_zero, List.set_cons_succ]
                        refine wpAnyH_take (i := 7) (v := ?_) (take_list rfl) (by kernel_rfl) (by kernel_rfl) (by kernel_rfl) (fun _ _ _ h => h) (Or.inl ⟨by rfl, ?_⟩) (by assumption) ?_
                        rotate_left
                        · intro w hSw
                          try dsimp only at hSw
                          first | (go_simp; done) | (go_simp; with_reducible rfl)
                        try simp only [Act.put, List.setIfInBounds_toArray, List.set_cons_zero, List.set_cons_succ]
                        refine wpAnyH_take (i := 8) (v := ?_) (take_list rfl) (by kernel_rfl) (by kernel_rfl) (by kernel_rfl) (fun _ _ _ h => h) (Or.inl ⟨by rfl, ?_⟩) (by assumption) ?_
                        rotate_left
                        · intro w hSw
                          try dsimp only at hSw
                          first | (go_simp; done) | (go_simp; with_reducible rfl)
                        try simp only [Act.put, List.setIfInBounds_toArray, List.set_cons_zero, List.set_cons_succ]
                        refine wpAnyH_take (i := 9) (v := ?_) (take_list rfl) (by kernel_rfl) (by kernel_rfl) (by kernel_rfl) (fun _ _ _ h => h) (Or.inl ⟨by rfl, ?_⟩) (by assumption) ?_
                        rotate_left
                        · intro w hSw
                          try dsimp only at hSw
                          first | (go_simp; done) | (go_simp; with_reducible rfl)
                        try simp only [Act.put, List.setIfInBounds_toArray, List.set_cons_zero, List.set_cons_succ]
                        refine wpAnyH_take (i := 10) (v := ?_) (take_list rfl) (by kernel_rfl) (by kernel_rfl) (by kernel_rfl) (fun _ _ _ h => h) (Or.inl ⟨by rfl, ?_⟩) (by assumption) ?_
                        rotate_left
                        · intro w hSw
                          try dsimp only at hSw
                          first | (go_simp; done) | (go_simp; with_reducible rfl)
                        try simp only [Act.put, List.setIfInBounds_toArray, List.set_cons_zero, List.set_cons_succ]
                        refine wpAnyH_take (i := 11) (v := ?_) (take_list rfl) (by kernel_rfl) (by kernel_rfl) (by kernel_rfl) (fun _ _ _ h => h) (Or.inl ⟨by rfl, ?_⟩) (by assumption) ?_
                        rotate_left
                        · intro w hSw
                          try dsimp only at hSw
                          first | (go_simp; done) | (go_simp; with_reducible rfl)
                        try simp only [Act.put, List.setIfInBounds_toArray, List.set_cons_zero, List.set_cons_succ]
                        refine wpAnyH_take (i := 12) (v := ?_) (take_list rfl) (by kernel_rfl) (by kernel_rfl) (by kernel_rfl) (fun _ _ _ h => h) (Or.inl ⟨by rfl, ?_⟩) (by assumption) ?_
                        rotate_left
                        · intro w hSw
                          try dsimp only at hSw
                          first | (go_simp; done) | (go_simp; with_reducible rfl)
                        try simp only [Act.put, List.setIfInBounds_toArray, List.set_cons_zero, List.set_cons_succ]
                        refine wpAnyH_take (i := 13) (v := ?_) (take_list rfl) (by kernel_rfl) (by kernel_rfl) (by kernel_rfl) (fun _ _ _ h => h) (Or.inl ⟨by rfl, ?_⟩) (by assumption) ?_
                        rotate_left
                        · intro w hSw
                          try dsimp only at hSw
                          first | (go_simp; done) | (go_simp; with_reducible rfl)
                        try simp only [Act.put, List.setIfInBounds_toArray, List.set_cons_zero, List.set_cons_succ]
                        refine wpAnyH_take (i := 14) (v := ?_) (take_list rfl) (by kernel_rfl) (by kernel_rfl) (by kernel_rfl) (fun _ _ _ h => h) (Or.inl ⟨by rfl, ?_⟩) (by assumption) ?_
                        rotate_left
                        · intro w hSw
                          try dsimp only at hSw
                          first | (go_simp; done) | (go_simp; with_reducible rfl)
                        try simp only [Act.put, List.setIfInBounds_toArray, List.set_cons_zero, List.set_cons_succ]
                        refine wpAnyH_take (i := 15) (v := ?_) (take_list rfl) (by kernel_rfl) (by kernel_rfl) (by kernel_rfl) (fun _ _ _ h => h) (Or.inl ⟨by rfl, ?_⟩) (by assumption) ?_
                        rotate_left
                        · intro w hSw
                          try dsimp only at hSw
                          first | (go_simp; done) | (go_simp; with_reducible rfl)
                        try simp only [Act.put, List.setIfInBounds_toArray, List.set_cons_zero, List.set_cons_succ]
                        refine wpAnyH_take (i := 16) (v := ?_) (take_list rfl) (by kernel_rfl) (by kernel_rfl) (by kernel_rfl) (fun _ _ _ h => h) (Or.inl ⟨by rfl, ?_⟩) (by assumption) ?_
                        rotate_left
                        · intro w hSw
                          try dsimp only at hSw
                          first | (go_simp; done) | (go_simp; with_reducible rfl)
                        try simp only [Act.put, List.setIfInBounds_toArray, List.set_cons_zero, List.set_cons_succ]
                        refine wpAnyH_take (i := 17) (v := ?_) (take_list rfl) (by kernel_rfl) (by kernel_rfl) (by kernel_rfl) (fun _ _ _ h => h) (Or.inl ⟨by rfl, ?_⟩) (by assumption) ?_
                        rotate_left
                        · intro w hSw
                          try dsimp only at hSw
                          first | (go_simp; done) | (go_simp; with_reducible rfl)
                        try simp only [Act.put, List.setIfInBounds_toArray, List.set_cons_zero, List.set_cons_succ]
                        refine wpAnyH_take (i := 18) (v := ?_) (take_list rfl) (by kernel_rfl) (by kernel_rfl) (by kernel_rfl) (fun _ _ _ h => h) (Or.inl ⟨by rfl, ?_⟩) (by assumption) ?_
                        rotate_left
                        · intro w hSw
                          try dsimp only at hSw
                          first | (go_simp; done) | (go_simp; with_reducible rfl)
                        try simp only [Act.put, List.setIfInBounds_toArray, List.set_cons_zero, List.set_cons_succ]
                        refine wpAnyH_take (i := 19) (v := ?_) (take_list rfl) (by kernel_rfl) (by kernel_rfl) (by kernel_rfl) (fun _ _ _ h => h) (Or.inl ⟨by rfl, ?_⟩) (by assumption) ?_
                        rotate_left
                        · intro w hSw
                          try dsimp only at hSw
                          first | (go_simp; done) | (go_simp; with_reducible rfl)
                        try simp only [Act.put, List.setIfInBounds_toArray, List.set_cons_zero, List.set_cons_succ]
                        refine wpAnyH_take (i := 20) (v := ?_) (take_list rfl) (by kernel_rfl) (by kernel_rfl) (by kernel_rfl) (fun _ _ _ h => h) (Or.inl ⟨by rfl, ?_⟩) (by assumption) ?_
                        rotate_left
                        · intro w hSw
                          try dsimp only at hSw
                          first | (go_simp; done) | (go_simp; with_reducible rfl)
                        try simp only [Act.put, List.setIfInBounds_toArray, List.set_cons_zero, List.set_cons_succ]
                        refine wpAnyH_take (i := 21) (v := ?_) (take_list rfl) (by kernel_rfl) (by kernel_rfl) (by kernel_rfl) (fun _ _ _ h => h) (Or.inl ⟨by rfl, ?_⟩) (by assumption) ?_
                        rotate_left
                        · intro w hSw
                          try dsimp only at hSw
                          first | (go_simp; done) | (go_simp; with_reducible rfl)
                        try simp only [Act.put, List.setIfInBounds_toArray, List.set_cons_zero, List.set_cons_succ]
                        refine wpAnyH_take (i := 22) (v := ?_) (take_list rfl) (by kernel_rfl) (by kernel_rfl) (by kernel_rfl) (fun _ _ _ h => h) (Or.inl ⟨by rfl, ?_⟩) (by assumption) ?_
                        rotate_left
                        · intro w hSw
                          try dsimp only at hSw
                          first | (go_simp; done) | (go_simp; with_reducible rfl)
                        try simp only [Act.put, List.setIfInBounds_toArray, List.set_cons_zero, List.set_cons_succ]
                        refine wpAnyH_ready (rs := [23]) (by kernel_rfl) (by simp) ?_
                        refine AllReadyH.cons (take_list rfl) (fun K hK => ?_) ?_
                        · skip
                          go_simp
                          refine (HK.out _).mono ?_
                          rintro e x2 ⟨rfl, hbx'⟩
                          dsimp only
                          have hbx : Below w15.heap.size w15 x2 := ext_trans (by repeat (first | exact hbx | apply ext_alloc | apply ext_drew | apply ext_drewN | exact Below.refl _ _)) hbx'
                          refine hK.out _ _ ?_ (fun hHeld => ?_)
                          · try dsimp only
                            exact HSG.out _ (by repeat (first | exact hbx | apply ext_alloc | apply ext_drew | apply ext_drewN | exact Below.refl _ _))
                          clear hK K
                          refine wpAnyH_take (i := 24) (v := ?_) (take_list rfl) (by kernel_rfl) (by kernel_rfl) (by kernel_rfl) (fun _ _ _ h => h) (Or.inl ⟨by rfl, ?_⟩) (by assumption) ?_
                          rotate_left
                          · intro w hSw
                            try dsimp only at hSw
                            first | (go_simp; done) | (go_simp; with_reducible rfl)
                          try simp only [Act.put, List.setIfInBounds_toArray, List.set_cons_zero, List.set_cons_succ]
                          refine wpAnyH_take (i := 25) (v := ?_) (take_list rfl) (by kernel_rfl) (by kernel_rfl) (by kernel_rfl) (fun _ _ _ h => h) (Or.inl ⟨by rfl, ?_⟩) (by assumption) ?_
                          rotate_left
                          · intro w hSw
                            try dsimp only at hSw
                            first | (go_simp; done) | (go_simp; with_reducible rfl)
                          try simp only [Act.put, List.setIfInBounds_toArray, List.set_cons_zero, List.set_cons_succ]
                          refine wpAnyH_done (by kernel_rfl) ?_ _
                          go_wp2
                          go_ret
                          exact ⟨rfl, ext_trans HBG.out (by repeat (first | exact hbx | apply ext_alloc | apply ext_drew | apply ext_drewN | exact Below.refl _ _))⟩
                        exact AllReadyH.nil
                      exact AllReadyH.nil
                    exact AllReadyH.nil
                  exact AllReadyH.nil
                refine AllReadyH.cons (take_list rfl) (fun K hK => ?_) ?_
                · skip
                  go_simp
                  refine hK.out _ _ ?_ (fun hHeld => ?_)
                  · try dsimp only
                    exact HSS.out _ (by repeat (first | exact hbx | apply ext_alloc | apply ext_drew | apply ext_drewN | exact Below.refl _ _))
                  clear hK K
                  refine wpAnyH_ready (rs := [12]) (by kernel_rfl) (by simp) ?_
                  refine AllReadyH.cons (take_list rfl) (fun K hK => ?_) ?_
                  · skip
                    go_simp
                    refine hK.out _ _ ?_ (fun hHeld => ?_)
                    · try dsimp only
                      exact HSS.out _ (by repeat (first | exact hbx | apply ext_alloc | apply ext_drew | apply ext_drewN | exact Below.refl _ _))
                    clear hK K
                    refine wpAnyH_ready (rs := [14]) (by kernel_rfl) (by simp) ?_
                    refine AllReadyH.cons (take_list rfl) (fun K hK => ?_) ?_
                    · skip
                      refine step_store_sp rfl (.tmp 12) (.tmp 109) rfl (w6.heap.size + 1) rfl rfl (by simp [Value.oneCell']) (cs := #[.int .i64 0, .int .i64 0, .int .i64 0]) (t := 24) (by first | exact blk_atS 24 #[.int .i64 0, .int .i64 0, .int .i64 0] (World.size_alloc _ _).symm | exact (blk_atS 24 #[.int .i64 0, .int .i64 0, .int .i64 0] (World.size_alloc _ _).symm).drew) rfl ?_
                      intro w14 hB14 ho14
                      have hb14 : Below w6.heap.size w6 w14 := (show Below w6.heap.size w6 _ from (by repeat (first | exact hbx | apply ext_alloc | apply ext_drew | apply ext_drewN | exact Below.refl _ _))).trans (ho14.below (B := w6.heap.size) (fun i hi => by omega) (by first | (simp; done) | (simp; omega)))
                      have hB13 : Blk w14 (w6.heap.size) 24 #[.int .i64 0, .int .i64 0, .int .i64 0] := Blk.only (by first | exact (blk_atS 24 #[.int .i64 0, .int .i64 0, .int .i64 0] rfl).alloc _ | exact ((blk_atS 24 #[.int .i64 0, .int .i64 0, .int .i64 0] rfl).alloc _).drew) ho14 (by omega)
                      have hbx := hb14
                      refine hK.out _ _ ?_ (fun hHeld => ?_)
                      · try dsimp only
                        exact HSS.out _ (by repeat (first | exact hbx | apply ext_alloc | apply ext_drew | apply ext_drewN | exact Below.refl _ _))
                      clear hK K
                      refine wpAnyH_ready (rs := [15]) (by kernel_rfl) (by simp) ?_
                      refine AllReadyH.cons (take_list rfl) (fun K hK => ?_) ?_
                      · skip
                        refine step_store_sp rfl (.tmp 13) (.tmp 115) rfl (w6.heap.size) rfl rfl (by simp [Value.oneCell']) (cs := #[.int .i64 0, .int .i64 0, .int .i64 0]) (t := 24) (by first | exact hB13 | exact hB13.drew) rfl ?_
                        intro w15 hB15 ho15
                        have hb15 : Below w6.heap.size w6 w15 := (show Below w6.heap.size w6 _ from (by repeat (first | exact hbx | apply ext_alloc | apply ext_drew | apply ext_drewN | exact Below.refl _ _))).trans (ho15.below (B := w6.heap.size) (fun i hi => by omega) (by have := hb14.size; first | exact this | simpa using this))
                        have hB12 := Blk.only (by first | exact hB14 | exact hB14.drew) ho15 (by omega)
                        have hbx := hb15
                        refine hK.out _ _ ?_ (fun hHeld => ?_)
                        · try dsimp only
                          exact HSS.out _ (by repeat (first | exact hbx | apply ext_alloc | apply ext_drew | apply ext_drewN | exact Below.refl _ _))
                        clear hK K
                        refine wpAnyH_done (by kernel_rfl) ?_ _
                        have HSF := HSS.out w15 hb15
                        have HB12 := Lib.hid hB12
                        have HB15 := Lib.hid hB15
                        have HSG : Hid (∀ W, Below w15.heap.size w15 W → ((W.cell? ⟨g, o + 1, none⟩ = some (.int .i64 fz) ∧ W.cell? ⟨g, o + (i - 1) * 3, none⟩ = some (.int .i64 sa) ∧ W.cell? ⟨g, o + (i - 1) * 3 + 1, none⟩ = some (.int .i64 sb) ∧ W.cell? ⟨g, o + (i - 1) * 3 + 2, none⟩ = some (.int .i64 sd) ∧ W.cell? ⟨g2, o2 + 1, none⟩ = some (.int .i64 fz) ∧ W.cell? ⟨g2, o2 + (m - 1) * 3, none⟩ = some (.int .i64 ta) ∧ W.cell? ⟨g2, o2 + (m - 1) * 3 + 1, none⟩ = some (.int .i64 tb) ∧ W.cell? ⟨g2, o2 + (m - 1) * 3 + 2, none⟩ = some (.int .i64 td)) ∧ W.cell? ⟨w6.heap.size + 1, 1, none⟩ = some (.int .i64 sb) ∧ W.cell? ⟨w6.heap.size + 1, 2, none⟩ = some (.int .i64 sd) ∧ W.cell? ⟨w6.heap.size, 1, none⟩ = some (.int .i64 tb) ∧ W.cell? ⟨w6.heap.size, 2, none⟩ = some (.int .i64 td))) := Lib.hid fun W hW => ⟨HSS.out W (ext_trans hb15 hW), (HB12.out.ext hW).cell 1, (HB12.out.ext hW).cell 2, (HB15.out.ext hW).cell 1, (HB15.out.ext hW).cell 2⟩
                        have HBG := Lib.hid (ext_trans HBF.out hb15)
                        clear HSF hb14 hb15 hbx hB12 hB13 hB14 hB15
                        have hbx : Below w15.heap.size w15 w15 := Below.refl _ _
                        have HK := Lib.hid (fun W => known_any W)
                        go_wp2
                        refine wp_region_held_drew (S := fun W => (W.cell? ⟨g, o + 1, none⟩ = some (.int .i64 fz) ∧ W.cell? ⟨g, o + (i - 1) * 3, none⟩ = some (.int .i64 sa) ∧ W.cell? ⟨g, o + (i - 1) * 3 + 1, none⟩ = some (.int .i64 sb) ∧ W.cell? ⟨g, o + (i - 1) * 3 + 2, none⟩ = some (.int .i64 sd) ∧ W.cell? ⟨g2, o2 + 1, none⟩ = some (.int .i64 fz) ∧ W.cell? ⟨g2, o2 + (m - 1) * 3, none⟩ = some (.int .i64 ta) ∧ W.cell? ⟨g2, o2 + (m - 1) * 3 + 1, none⟩ = some (.int .i64 tb) ∧ W.cell? ⟨g2, o2 + (m - 1) * 3 + 2, none⟩ = some (.int .i64 td)) ∧ W.cell? ⟨w6.heap.size + 1, 1, none⟩ = some (.int .i64 sb) ∧ W.cell? ⟨w6.heap.size + 1, 2, none⟩ = some (.int .i64 sd) ∧ W.cell? ⟨w6.heap.size, 1, none⟩ = some (.int .i64 tb) ∧ W.cell? ⟨w6.heap.size, 2, none⟩ = some (.int .i64 td)) (by kernel_rfl) ?_ (fun hHeld => ?_)
                        · exact HSG.out _ (by repeat (first | exact hbx | apply ext_alloc | apply ext_drew | apply ext_drewN | exact Below.refl _ _))
                        refine wpAnyH_take (i := 0) (v := ?_) (take_list rfl) (by kernel_rfl) (by kernel_rfl) (by kernel_rfl) (fun _ _ _ h => h) (Or.inl ⟨by rfl, ?_⟩) (by assumption) ?_
                        rotate_left
                        · intro w hSw
                          try dsimp only at hSw
                          first | (go_simp; done) | (go_simp; with_reducible rfl)
                        try simp only [Act.put, List.setIfInBounds_toArray, List.set_cons_zero, List.set_cons_succ]
                        refine wpAnyH_take (i := 1) (v := ?_) (take_list rfl) (by kernel_rfl) (by kernel_rfl) (by kernel_rfl) (fun _ _ _ h => h) (Or.inl ⟨by rfl, ?_⟩) (by assumption) ?_
                        rotate_left
                        · intro w hSw
                          try dsimp only at hSw
                          first | (go_simp; done) | (go_simp; with_reducible rfl)
                        try simp only [Act.put, List.setIfInBounds_toArray, List.set_cons_zero, List.set_cons_succ]
                        refine wpAnyH_take (i := 2) (v := ?_) (take_list rfl) (by kernel_rfl) (by kernel_rfl) (by kernel_rfl) (fun _ _ _ h => h) (Or.inl ⟨by rfl, ?_⟩) (by assumption) ?_
                        rotate_left
                        · intro w hSw
                          try dsimp only at hSw
                          first | (go_simp; done) | (go_simp; with_reducible rfl)
                        try simp only [Act.put, List.setIfInBounds_toArray, List.set_cons_zero, List.set_cons_succ]
                        refine wpAnyH_take (i := 3) (v := ?_) (take_list rfl) (by kernel_rfl) (by kernel_rfl) (by kernel_rfl) (fun _ _ _ h => h) (Or.inl ⟨by rfl, ?_⟩) (by assumption) ?_
                        rotate_left
                        · intro w hSw
                          try dsimp only at hSw
                          first | (go_simp; done) | (go_simp; with_reducible rfl)
                        try simp only [Act.put, List.setIfInBounds_toArray, List.set_cons_zero, List.set_cons_succ]
                        refine wpAnyH_take (i := 4) (v := ?_) (take_list rfl) (by kernel_rfl) (by kernel_rfl) (by kernel_rfl) (fun _ _ _ h => h) (Or.inl ⟨by rfl, ?_⟩) (by assumption) ?_
                        rotate_left
                        · intro w hSw
                          try dsimp only at hSw
                          first | (go_simp; done) | (go_simp; with_reducible rfl)
                        try simp only [Act.put, List.setIfInBounds_toArray, List.set_cons_zero, List.set_cons_succ]
                        refine wpAnyH_take (i := 5) (v := ?_) (take_list rfl) (by kernel_rfl) (by kernel_rfl) (by kernel_rfl) (fun _ _ _ h => h) (Or.inl ⟨by rfl, ?_⟩) (by assumption) ?_
                        rotate_left
                        · intro w hSw
                          try dsimp only at hSw
                          first | (go_simp; done) | (go_simp; with_reducible rfl)
                        try simp only [Act.put, List.setIfInBounds_toArray, List.set_cons_zero, List.set_cons_succ]
                        refine wpAnyH_take (i := 6) (v := ?_) (take_list rfl) (by kernel_rfl) (by kernel_rfl) (by kernel_rfl) (fun _ _ _ h => h) (Or.inl ⟨by rfl, ?_⟩) (by assumption) ?_
                        rotate_left
                        · intro w hSw
                          try dsimp only at hSw
                          first | (go_simp; done) | (go_simp; with_reducible rfl)
                        try simp only [Act.put, List.setIfInBounds_toArray, List.set_cons_zero, List.set_cons_succ]
                        refine wpAnyH_take (i := 7) (v := ?_) (take_list rfl) (by kernel_rfl) (by kernel_rfl) (by kernel_rfl) (fun _ _ _ h => h) (Or.inl ⟨by rfl, ?_⟩) (by assumption) ?_
                        rotate_left
                        · intro w hSw
                          try dsimp only at hSw
                          first | (go_simp; done) | (go_simp; with_reducible rfl)
                        try simp only [Act.put, List.setIfInBounds_toArray, List.set_cons_zero, List.set_cons_succ]
                        refine wpAnyH_take (i := 8) (v := ?_) (take_list rfl) (by kernel_rfl) (by kernel_rfl) (by kernel_rfl) (fun _ _ _ h => h) (Or.inl ⟨by rfl, ?_⟩) (by assumption) ?_
                        rotate_left
                        · intro w hSw
                          try dsimp only at hSw
                          first | (go_simp; done) | (go_simp; with_reducible rfl)
                        try simp only [Act.put, List.setIfInBounds_toArray, List.set_cons_zero, List.set_cons_succ]
                        refine wpAnyH_take (i := 9) (v := ?_) (take_list rfl) (by kernel_rfl) (by kernel_rfl) (by kernel_rfl) (fun _ _ _ h => h) (Or.inl ⟨by rfl, ?_⟩) (by assumption) ?_
                        rotate_left
                        · intro w hSw
                          try dsimp only at hSw
                          first | (go_simp; done) | (go_simp; with_reducible rfl)
                        try simp only [Act.put, List.setIfInBounds_toArray, List.set_cons_zero, List.set_cons_succ]
                        refine wpAnyH_take (i := 10) (v := ?_) (take_list rfl) (by kernel_rfl) (by kernel_rfl) (by kernel_rfl) (fun _ _ _ h => h) (Or.inl ⟨by rfl, ?_⟩) (by assumption) ?_
                        rotate_left
                        · intro w hSw
                          try dsimp only at hSw
                          first | (go_simp; done) | (go_simp; with_reducible rfl)
                        try simp only [Act.put, List.setIfInBounds_toArray, List.set_cons_zero, List.set_cons_succ]
                        refine wpAnyH_take (i := 11) (v := ?_) (take_list rfl) (by kernel_rfl) (by kernel_rfl) (by kernel_rfl) (fun _ _ _ h => h) (Or.inl ⟨by rfl, ?_⟩) (by assumption) ?_
                        rotate_left
                        · intro w hSw
                          try dsimp only at hSw
                          first | (go_simp; done) | (go_simp; with_reducible rfl)
                        try simp only [Act.put, List.setIfInBounds_toArray, List.set_cons_zero, List.set_cons_succ]
                        refine wpAnyH_take (i := 12) (v := ?_) (take_list rfl) (by kernel_rfl) (by kernel_rfl) (by kernel_rfl) (fun _ _ _ h => h) (Or.inl ⟨by rfl, ?_⟩) (by assumption) ?_
                        rotate_left
                        · intro w hSw
                          try dsimp only at hSw
                          first | (go_simp; done) | (go_simp; with_reducible rfl)
                        try simp only [Act.put, List.setIfInBounds_toArray, List.set_cons_zero, List.set_cons_succ]
                        refine wpAnyH_take (i := 13) (v := ?_) (take_list rfl) (by kernel_rfl) (by kernel_rfl) (by kernel_rfl) (fun _ _ _ h => h) (Or.inl ⟨by rfl, ?_⟩) (by assumption) ?_
                        rotate_left
                        · intro w hSw
                          try dsimp only at hSw
                          first | (go_simp; done) | (go_simp; with_reducible rfl)
                        try simp only [Act.put, List.setIfInBounds_toArray, List.set_cons_zero, List.set_cons_succ]
                        refine wpAnyH_take (i := 14) (v := ?_) (take_list rfl) (by kernel_rfl) (by kernel_rfl) (by kernel_rfl) (fun _ _ _ h => h) (Or.inl ⟨by rfl, ?_⟩) (by assumption) ?_
                        rotate_left
                        · intro w hSw
                          try dsimp only at hSw
                          first | (go_simp; done) | (go_simp; with_reducible rfl)
                        try simp only [Act.put, List.setIfInBounds_toArray, List.set_cons_zero, List.set_cons_succ]
                        refine wpAnyH_take (i := 15) (v := ?_) (take_list rfl) (by kernel_rfl) (by kernel_rfl) (by kernel_rfl) (fun _ _ _ h => h) (Or.inl ⟨by rfl, ?_⟩) (by assumption) ?_
                        rotate_left
                        · intro w hSw
                          try dsimp only at hSw
                          first | (go_simp; done) | (go_simp; with_reducible rfl)
                        try simp only [Act.put, List.setIfInBounds_toArray, List.set_cons_zero, List.set_cons_succ]
                        refine wpAnyH_take (i := 16) (v := ?_) (take_list rfl) (by kernel_rfl) (by kernel_rfl) (by kernel_rfl) (fun _ _ _ h => h) (Or.inl ⟨by rfl, ?_⟩) (by assumption) ?_
                        rotate_left
                        · intro w hSw
                          try dsimp only at hSw
                          first | (go_simp; done) | (go_simp; with_reducible rfl)
                        try simp only [Act.put, List.setIfInBounds_toArray, List.set_cons_zero, List.set_cons_succ]
                        refine wpAnyH_take (i := 17) (v := ?_) (take_list rfl) (by kernel_rfl) (by kernel_rfl) (by kernel_rfl) (fun _ _ _ h => h) (Or.inl ⟨by rfl, ?_⟩) (by assumption) ?_
                        rotate_left
                        · intro w hSw
                          try dsimp only at hSw
                          first | (go_simp; done) | (go_simp; with_reducible rfl)
                        try simp only [Act.put, List.setIfInBounds_toArray, List.set_cons_zero, List.set_cons_succ]
                        refine wpAnyH_take (i := 18) (v := ?_) (take_list rfl) (by kernel_rfl) (by kernel_rfl) (by kernel_rfl) (fun _ _ _ h => h) (Or.inl ⟨by rfl, ?_⟩) (by assumption) ?_
                        rotate_left
                        · intro w hSw
                          try dsimp only at hSw
                          first | (go_simp; done) | (go_simp; with_reducible rfl)
                        try simp only [Act.put, List.setIfInBounds_toArray, List.set_cons_zero, List.set_cons_succ]
                        refine wpAnyH_take (i := 19) (v := ?_) (take_list rfl) (by kernel_rfl) (by kernel_rfl) (by kernel_rfl) (fun _ _ _ h => h) (Or.inl ⟨by rfl, ?_⟩) (by assumption) ?_
                        rotate_left
                        · intro w hSw
                          try dsimp only at hSw
                          first | (go_simp; done) | (go_simp; with_reducible rfl)
                        try simp only [Act.put, List.setIfInBounds_toArray, List.set_cons_zero, List.set_cons_succ]
                        refine wpAnyH_take (i := 20) (v := ?_) (take_list rfl) (by kernel_rfl) (by kernel_rfl) (by kernel_rfl) (fun _ _ _ h => h) (Or.inl ⟨by rfl, ?_⟩) (by assumption) ?_
                        rotate_left
                        · intro w hSw
                          try dsimp only at hSw
                          first | (go_simp; done) | (go_simp; with_reducible rfl)
                        try simp only [Act.put, List.setIfInBounds_toArray, List.set_cons_zero, List.set_cons_succ]
                        refine wpAnyH_take (i := 21) (v := ?_) (take_list rfl) (by kernel_rfl) (by kernel_rfl) (by kernel_rfl) (fun _ _ _ h => h) (Or.inl ⟨by rfl, ?_⟩) (by assumption) ?_
                        rotate_left
                        · intro w hSw
                          try dsimp only at hSw
                          first | (go_simp; done) | (go_simp; with_reducible rfl)
                        try simp only [Act.put, List.setIfInBounds_toArray, List.set_cons_zero, List.set_cons_succ]
                        refine wpAnyH_take (i := 22) (v := ?_) (take_list rfl) (by kernel_rfl) (by kernel_rfl) (by kernel_rfl) (fun _ _ _ h => h) (Or.inl ⟨by rfl, ?_⟩) (by assumption) ?_
                        rotate_left
                        · intro w hSw
                          try dsimp only at hSw
                          first | (go_simp; done) | (go_simp; with_reducible rfl)
                        try simp only [Act.put, List.setIfInBounds_toArray, List.set_cons_zero, List.set_cons_succ]
                        refine wpAnyH_ready (rs := [23]) (by kernel_rfl) (by simp) ?_
                        refine AllReadyH.cons (take_list rfl) (fun K hK => ?_) ?_
                        · skip
                          go_simp
                          refine (HK.out _).mono ?_
                          rintro e x2 ⟨rfl, hbx'⟩
                          dsimp only
                          have hbx : Below w15.heap.size w15 x2 := ext_trans (by repeat (first | exact hbx | apply ext_alloc | apply ext_drew | apply ext_drewN | exact Below.refl _ _)) hbx'
                          refine hK.out _ _ ?_ (fun hHeld => ?_)
                          · try dsimp only
                            exact HSG.out _ (by repeat (first | exact hbx | apply ext_alloc | apply ext_drew | apply ext_drewN | exact Below.refl _ _))
                          clear hK K
                          refine wpAnyH_take (i := 24) (v := ?_) (take_list rfl) (by kernel_rfl) (by kernel_rfl) (by kernel_rfl) (fun _ _ _ h => h) (Or.inl ⟨by rfl, ?_⟩) (by assumption) ?_
                          rotate_left
                          · intro w hSw
                            try dsimp only at hSw
                            first | (go_simp; done) | (go_simp; with_reducible rfl)
                          try simp only [Act.put, List.setIfInBounds_toArray, List.set_cons_zero, List.set_cons_succ]
                          refine wpAnyH_take (i := 25) (v := ?_) (take_list rfl) (by kernel_rfl) (by kernel_rfl) (by kernel_rfl) (fun _ _ _ h => h) (Or.inl ⟨by rfl, ?_⟩) (by assumption) ?_
                          rotate_left
                          · intro w hSw
                            try dsimp only at hSw
                            first | (go_simp; done) | (go_simp; with_reducible rfl)
                          try simp only [Act.put, List.setIfInBounds_toArray, List.set_cons_zero, List.set_cons_succ]
                          refine wpAnyH_done (by kernel_rfl) ?_ _
                          go_wp2
                          go_ret
                          exact ⟨rfl, ext_trans HBG.out (by repeat (first | exact hbx | apply ext_alloc | apply ext_drew | apply ext_drewN | exact Below.refl _ _))⟩
                        exact AllReadyH.nil
                      exact AllReadyH.nil
                    exact AllReadyH.nil
                  exact AllReadyH.nil
                exact AllReadyH.nil

set_option maxRecDepth 100000 in
theorem contract (H : Type) (enc : TypeId × Value → H) (W : World) (base : Nat) (args : Array Value) (ds gs : List (DataW H)) (before : List MemPlace)
    (hval : ∀ (j : Nat) t v, Try.f4.params[j]? = some t → args[j]? = some v → Value.okWide Try.prog W .any base t v)
    (hW : DataW.Whole enc Try.prog Try.f4.params.toList Rows.planJoinsSpec.vars false W args.toList ds gs before) :
    Calls Try.prog 4 args W fun e W' => ∃ v, e = .returned v ∧ Rows.planJoinsSpec.post enc Try.prog Try.f4 false true false false W args v W' := by
  have hW' := hW
  obtain ⟨p, q, hA0, hV, rfl, hfz, hnd⟩ := hW
  have hA : DataW.TrodAll enc Try.prog W 0 (fun _ => true) true Try.f4.params.toList args.toList ds p := hA0
  rw [Try.params4] at hA hval
  obtain ⟨x0, d0, rfl, rfl, h0⟩ := trodAll_one hA
  obtain ⟨A0, n0, c0, xs0, rfl, hn0, hc0, hm0, hr0, hi0⟩ := arg_spans (hval 0 _ x0 rfl rfl) h0
  have walk : Calls Try.prog 4 #[.slice A0 n0 c0] W fun e w' => e = .returned (.bool true) ∧ Below W.heap.size W w' := joins19 _ _ _ _ _ hn0 hr0 hi0.2 hi0.1 (by omega)
  refine walk.mono fun e W' ⟨he, hb⟩ => ?_
  subst he
  exact ⟨_, rfl, law_post rfl rfl (by kernel_rfl) ⟨rfl, rfl, rfl⟩ hW' hb⟩

theorem laid_met (os : Os) : laidMet Try.prog Rows.planJoinsRow.laid ((plainWorld os).forCall (fun _ _ => 0) ⟨#[], #[.slice none 0 0], []⟩).memory :=
  laidMet_of_run' 8 (by kernel_rfl) (by kernel_rfl)
theorem reads (os : Os) {H : Type} (enc : TypeId × Value → H) : ∃ places, DataW.whole enc Try.prog ((plainWorld os).forCall (fun _ _ => 0) ⟨#[], #[.slice none 0 0], []⟩).memory Try.f4.params.toList Rows.planJoinsSpec.vars false #[Value.slice none 0 0].toList 8 = some ([.nil], [], places) :=
  ⟨[], by kernel_rfl⟩

set_option maxRecDepth 100000 in
theorem lifted (os : Os) (started : os.Started) (H : Type) (enc : TypeId × Value → H) (F : Stop.Interp) :
    ReturnsInHanded {} Try.checked os 4 .any ((OpenSpec.ofChange Rows.planJoinsSpec).preRow enc Try.prog Try.f4 Rows.planJoinsRow.domain false Rows.planJoinsRow.laid) (((OpenSpec.ofChange Rows.planJoinsSpec).at F).post enc Try.prog Try.f4 false true false false) := by
  obtain ⟨places, hx⟩ := reads os enc
  refine returnsInHanded_of_row (C := Try.checked) (s := OpenSpec.ofChange Rows.planJoinsSpec) own started (by kernel_rfl) Try.func4
    (witness_row_at (enc := enc) (C := Try.checked) false (plainWorld os) #[.slice none 0 0] rfl (by kernel_rfl) (by kernel_rfl) (by kernel_rfl)
      (OpenSpec.preRow_of_cond 8 hx (by kernel_rfl) (fun k hk => by cases hk) (by kernel_rfl) (laid_met os))) ?_
  intro W base args ds gs before hval hW _ _ _ _ _ _
  exact contract H enc W base args ds gs before hval hW

theorem said : Rows.PlanJoinsSaid :=
  OpenClaim.holds_of_cond 4 Try.f4 rfl rfl rfl rfl rfl rfl rfl ⟨rfl, rfl, rfl, rfl, rfl⟩ rfl rfl rfl rfl rfl (by kernel_rfl) Try.func4 (by kernel_rfl)
    (of_decide_eq_true (by kernel_rfl)) (by unfold Func.isWrapper; first | (rw [if_pos (by decide +kernel)]; kernel_rfl) | (rw [if_neg (by decide +kernel)]; exact ⟨rfl, rfl⟩))
    (fun os started H enc _ F => by rw [OpenClaim.pre_eq_preRow]; exact lifted os started H enc F)

end Go.Proofs.Ythomhhnioadpmaa.PlanJoins
