/-
  Statement PartTells: of any template and tokens what the template of the tokens is, how alike they are, what both are merged, the variables. No condition.
-/
import Derived.Test.YtbigdkkjajlekaaAll2
set_option linter.unusedVariables false
set_option linter.unusedSimpArgs false
namespace Go.Proofs.Ytbigdkkjajlekaa
open Go Go.ChangeShapes Go.WideShapes Go.ChangeAt Go.RowKit
namespace PartTells
set_option maxRecDepth 100000
set_option maxHeartbeats 8000000 in
theorem tells (A0 : Option Addr) (n0 c0 : Nat) (l0 : List Prt) (A1 : Option Addr) (n1 c1 : Nat) (l1 : List Tok) (A2 : Option Addr) (n2 c2 : Nat) (l2 : List Prt) (w : World) (hn0 : n0 = l0.length) (hn1 : n1 = l1.length) (hn2 : n2 = l2.length) (h0 : PartsAt w A0 l0) (hc0 : l0.length ≤ c0) (hs0 : ∀ p ∈ l0, p.text.length ≤ 140737488355328) (hl0 : l0.length ≤ 140737488355328) (h1 : ToksAt w A1 l1) (hc1 : l1.length ≤ c1) (hs1 : ∀ p ∈ l1, p.text.length ≤ 140737488355328) (hl1 : l1.length ≤ 140737488355328) (h2 : PartsAt w A2 l2) (hc2 : l2.length ≤ c2) (hs2 : ∀ p ∈ l2, p.text.length ≤ 140737488355328) (hl2 : l2.length ≤ 140737488355328) :
    Calls Try.prog 3 #[.slice A0 n0 c0, .slice A1 n1 c1, .slice A2 n2 c2] w fun e w' => e = .returned (.bool true) ∧ Below w.heap.size w w' := by
  subst hn0 hn1 hn2
  have HW0 := Lib.hid (wide_any A0 _ c0 l0 w rfl h0 hs0 hl0)
  have HW2 := Lib.hid (wide_any A2 _ c2 l2 w rfl h2 hs2 hl2)
  have HW1 := Lib.hid (long_any A1 _ c1 l1 w rfl h1 hs1 hl1)
  by_cases hw0 : wideB l0 = true
  · rw [hw0] at HW0
    clear hw0
    go_enter Try.func3, Try.ntmps3
    go_wp2_with fail
    refine HW0.out.mono ?_
    rintro e w' ⟨rfl, rfl⟩
    go_wp2
    go_ret
    exact ⟨rfl, Below.refl _ _⟩
  have hx0 : wideB l0 = false := by simpa using hw0
  rw [hx0] at HW0
  have hm0 : sumP l0 l0.length ≤ 1500 := by have := of_decide_eq_false hx0; omega
  have hq0 : l0.length ≤ 1000000 := by have := sumP_ge l0 l0.length (Nat.le_refl _); omega
  clear hw0 hx0
  by_cases hw2 : wideB l2 = true
  · rw [hw2] at HW2
    clear hw2
    go_enter Try.func3, Try.ntmps3
    go_wp2_with fail
    refine HW0.out.mono ?_
    rintro e w' ⟨rfl, rfl⟩
    go_wp2_with fail
    refine HW2.out.mono ?_
    rintro e w' ⟨rfl, rfl⟩
    go_wp2
    go_ret
    exact ⟨rfl, Below.refl _ _⟩
  have hx2 : wideB l2 = false := by simpa using hw2
  rw [hx2] at HW2
  have hm2 : sumP l2 l2.length ≤ 1500 := by have := of_decide_eq_false hx2; omega
  have hq2 : l2.length ≤ 1000000 := by have := sumP_ge l2 l2.length (Nat.le_refl _); omega
  clear hw2 hx2
  by_cases hw1 : longB l1 = true
  · rw [hw1] at HW1
    clear hw1
    go_enter Try.func3, Try.ntmps3
    go_wp2_with fail
    refine HW0.out.mono ?_
    rintro e w' ⟨rfl, rfl⟩
    go_wp2_with fail
    refine HW2.out.mono ?_
    rintro e w' ⟨rfl, rfl⟩
    go_wp2_with fail
    refine HW1.out.mono ?_
    rintro e w' ⟨rfl, rfl⟩
    go_wp2
    go_ret
    exact ⟨rfl, Below.refl _ _⟩
  have hx1 : longB l1 = false := by simpa using hw1
  rw [hx1] at HW1
  have hm1 : sumT l1 l1.length ≤ 1500 := by have := of_decide_eq_false hx1; omega
  have hq1 : l1.length ≤ 1000000 := by have := sumT_ge l1 l1.length (Nat.le_refl _); omega
  clear hw1 hx1
  clear hs0 hs1 hs2 hl0 hl1 hl2 hm0 hm1 hm2
  have HRA := Lib.hid (fun W (hb : Below w.heap.size w W) => ralike_any A0 _ c0 l0 A1 _ c1 l1 W rfl rfl (h0.ext hb) (h1.ext hb) hq0 hq1)
  have HA := Lib.hid (fun W (hb : Below w.heap.size w W) => alike_any A0 _ c0 l0 A1 _ c1 l1 W rfl rfl (h0.ext hb) (h1.ext hb) hq0 hq1)
  have HFi := Lib.hid (fun W (hb : Below w.heap.size w W) => fits_any A0 _ c0 l0 A1 _ c1 l1 W rfl rfl (h0.ext hb) (h1.ext hb) hq0 hq1)
  have HOf := Lib.hid (fun W (hb : Below w.heap.size w W) => of_any A1 _ c1 l1 W rfl (h1.ext hb) hq1)
  have HROf := Lib.hid (fun W (hb : Below w.heap.size w W) => rof_any A1 _ c1 l1 W rfl (h1.ext hb) hq1)
  have HM := Lib.hid (fun W (hb : Below w.heap.size w W) => merge_any_ A0 _ c0 l0 A1 _ c1 l1 W rfl rfl (h0.ext hb) (h1.ext hb) hq0 hq1)
  have HRM := Lib.hid (fun W (hb : Below w.heap.size w W) => rmerge_any A0 _ c0 l0 A1 _ c1 l1 W rfl rfl (h0.ext hb) (h1.ext hb) hq0 hq1)
  have HV := Lib.hid (fun W (hb : Below w.heap.size w W) => vars_any A0 _ c0 l0 A1 _ c1 l1 W rfl rfl hc0 (h0.ext hb) (h1.ext hb) hq0 hq1)
  have HRV := Lib.hid (fun W (hb : Below w.heap.size w W) => rvars_any A0 _ c0 l0 A1 _ c1 l1 W rfl rfl hc0 (h0.ext hb) (h1.ext hb) hq0 hq1)
  have HWi := Lib.hid (fun W (hb : Below w.heap.size w W) => wild_any A0 _ c0 l0 W rfl (h0.ext hb) hq0)
  have HRW := Lib.hid (fun W (hb : Below w.heap.size w W) => rwild_any A0 _ c0 l0 W rfl (h0.ext hb) hq0)
  have HS := Lib.hid (fun W (hb : Below w.heap.size w W) => same_any A0 _ c0 l0 A2 _ c2 l2 W rfl rfl (h0.ext hb) (h2.ext hb) hq0 hq2)
  have HRS := Lib.hid (fun W (hb : Below w.heap.size w W) => rsame_any A0 _ c0 l0 A2 _ c2 l2 W rfl rfl (h0.ext hb) (h2.ext hb) hq0 hq2)
  have HSS : Hid (∀ W, Below w.heap.size w W → Calls Try.prog 23 #[.slice A0 l0.length c0, .slice A0 l0.length c0] W (SaysEq true W)) := Lib.hid (fun W hb => by
    have := same_any A0 _ c0 l0 A0 _ c0 l0 W rfl rfl (h0.ext hb) (h0.ext hb) hq0 hq0
    rwa [decide_eq_true rfl] at this)
  have HRQ : ∀ (l : List Prt), l.length ≤ 1000000 → Hid (∀ (B C : Option Addr) (cb cc : Nat) (W : World), PartsAt W B l → PartsAt W C l → Calls Try.prog 11 #[.slice B l.length cb, .slice C l.length cc] W (SaysEq true W)) := fun l hl => Lib.hid (fun B C cb cc W hB hC => by
    have := rsame_any B _ cb l C _ cc l W rfl rfl hB hC hl hl
    rwa [decide_eq_true rfl] at this)
  have HQ1 := HRQ (ofL l1) (by rw [ofL_len]; exact hq1)
  have HQ2 := HRQ (mergeL l0 l1) (by rw [mergeL_len]; exact hq0)
  have hvl : (varsL l0 l1).length ≤ 1000000 := by
    have h3 := varsTo_len l0 l1 l0.length
    rw [varsTo_all l0 l1 l0.length (.inl (Nat.le_refl _))] at h3
    omega
  have HT : Hid (∀ (B C : Option Addr) (cb cc : Nat) (W : World), Rd W B ((varsL l0 l1).map strV) → Rd W C ((varsL l0 l1).map strV) → Calls Try.prog 18 #[.slice B (varsL l0 l1).length cb, .slice C (varsL l0 l1).length cc] W (SaysEq true W)) := Lib.hid (fun B C cb cc W hB hC => by
    have := texts_any (w := W) B cb (varsL l0 l1) hB C cc (varsL l0 l1) hC hvl hvl
    rwa [decide_eq_true rfl] at this)
  have hfb : fitsB l0 l1 = decide (alikeI l0 l1 = (l0.length : Int)) := rfl
  clear HRQ hvl
  rw [hfb] at HFi
  clear hfb
  by_cases hfit : alikeI l0 l1 = (l0.length : Int)
  · rw [decide_eq_true hfit] at HFi
    rw [hfit] at HRA HA
    have hi0 : (0 : Int) ≤ (l0.length : Int) := by omega
    clear hfit
    go_enter Try.func3, Try.ntmps3
    go_wp2_with fail
    refine HW0.out.mono ?_
    rintro e w' ⟨rfl, rfl⟩
    go_wp2_with fail
    refine HW2.out.mono ?_
    rintro e w' ⟨rfl, rfl⟩
    go_wp2_with fail
    refine HW1.out.mono ?_
    rintro e w' ⟨rfl, rfl⟩
    go_wp2_with fail
    refine (HRA.out _ (Below.refl _ _)).mono ?_
    rintro e w1 ⟨rfl, hb1⟩
    have Hb1 := Lib.hid (hb1)
    clear hb1
    go_wp2_with fail
    refine (HOf.out _ Hb1.out).mono ?_
    rintro e w2 ⟨B1, d1, rfl, hn2⟩
    have Hn2 := Lib.hid hn2
    have Hb2 := Lib.hid (ext_trans Hb1.out hn2.bel)
    clear hn2
    go_wp2_with fail
    refine (HROf.out _ Hb2.out).mono ?_
    rintro e w3 ⟨B2, d2, rfl, hn3⟩
    have Hn3 := Lib.hid hn3
    have Hb3 := Lib.hid (ext_trans Hb2.out hn3.bel)
    clear hn3
    go_wp2_with fail
    refine (HQ1.out B1 B2 d1 d2 _ (Hn2.out.at_.ext Hn3.out.bel) Hn3.out.at_).mono ?_
    rintro e w4 ⟨rfl, hb4⟩
    have Hb4 := Lib.hid (ext_trans Hb3.out hb4)
    clear hb4
    go_wp2_with fail
    refine (HA.out _ Hb4.out).mono ?_
    rintro e w5 ⟨rfl, hb5⟩
    have Hb5 := Lib.hid (ext_trans Hb4.out hb5)
    clear hb5
    go_wp2_with fail
    refine (HFi.out _ Hb5.out).mono ?_
    rintro e w6 ⟨rfl, hb6⟩
    have Hb6 := Lib.hid (ext_trans Hb5.out hb6)
    clear hb6
    go_wp2_with fail
    refine (HM.out _ Hb6.out).mono ?_
    rintro e w7 ⟨B3, d3, rfl, hn7⟩
    have Hn7 := Lib.hid hn7
    have Hb7 := Lib.hid (ext_trans Hb6.out hn7.bel)
    clear hn7
    go_wp2_with fail
    refine (HRM.out _ Hb7.out).mono ?_
    rintro e w8 ⟨B4, d4, rfl, hn8⟩
    have Hn8 := Lib.hid hn8
    have Hb8 := Lib.hid (ext_trans Hb7.out hn8.bel)
    clear hn8
    go_wp2_with fail
    refine (HQ2.out B3 B4 d3 d4 _ (Hn7.out.at_.ext Hn8.out.bel) Hn8.out.at_).mono ?_
    rintro e w9 ⟨rfl, hb9⟩
    have Hb9 := Lib.hid (ext_trans Hb8.out hb9)
    clear hb9
    go_wp2_with fail
    refine (HV.out _ Hb9.out).mono ?_
    rintro e w10 ⟨B5, d5, rfl, hn10⟩
    have Hn10 := Lib.hid hn10
    have Hb10 := Lib.hid (ext_trans Hb9.out hn10.bel)
    clear hn10
    go_wp2_with fail
    refine (HRV.out _ Hb10.out).mono ?_
    rintro e w11 ⟨B6, d6, rfl, hn11⟩
    have Hn11 := Lib.hid hn11
    have Hb11 := Lib.hid (ext_trans Hb10.out hn11.bel)
    clear hn11
    go_wp2_with fail
    refine (HT.out B5 B6 d5 d6 _ (Hn10.out.rd.ext Hn11.out.bel) Hn11.out.rd).mono ?_
    rintro e w12 ⟨rfl, hb12⟩
    have Hb12 := Lib.hid (ext_trans Hb11.out hb12)
    clear hb12
    go_wp2_with fail
    refine (HWi.out _ Hb12.out).mono ?_
    rintro e w13 ⟨rfl, hb13⟩
    have Hb13 := Lib.hid (ext_trans Hb12.out hb13)
    clear hb13
    go_wp2_with fail
    refine (HRW.out _ Hb13.out).mono ?_
    rintro e w14 ⟨rfl, hb14⟩
    have Hb14 := Lib.hid (ext_trans Hb13.out hb14)
    clear hb14
    go_wp2_with fail
    refine (HS.out _ Hb14.out).mono ?_
    rintro e w15 ⟨rfl, hb15⟩
    have Hb15 := Lib.hid (ext_trans Hb14.out hb15)
    clear hb15
    go_wp2_with fail
    refine (HRS.out _ Hb15.out).mono ?_
    rintro e w16 ⟨rfl, hb16⟩
    have Hb16 := Lib.hid (ext_trans Hb15.out hb16)
    clear hb16
    go_wp2_with fail
    refine (HSS.out _ Hb16.out).mono ?_
    rintro e w17 ⟨rfl, hb17⟩
    have Hb17 := Lib.hid (ext_trans Hb16.out hb17)
    clear hb17
    go_wp2_with fail
    refine (known14_any _).mono ?_
    rintro e w18 ⟨rfl, hb18⟩
    have Hb18 := Lib.hid (ext_trans Hb17.out hb18)
    clear hb18
    go_wp2
    go_ret
    exact ⟨rfl, Hb18.out⟩
  · rw [decide_eq_false hfit] at HFi
    generalize alikeI l0 l1 = z at hfit HRA HA
    have hfx : (z == (l0.length : Int)) = false := beq_eq_false_iff_ne.2 hfit
    go_enter Try.func3, Try.ntmps3
    go_wp2_with fail
    refine HW0.out.mono ?_
    rintro e w' ⟨rfl, rfl⟩
    go_wp2_with fail
    refine HW2.out.mono ?_
    rintro e w' ⟨rfl, rfl⟩
    go_wp2_with fail
    refine HW1.out.mono ?_
    rintro e w' ⟨rfl, rfl⟩
    go_wp2_with fail
    refine (HRA.out _ (Below.refl _ _)).mono ?_
    rintro e w1 ⟨rfl, hb1⟩
    have Hb1 := Lib.hid (hb1)
    clear hb1
    go_wp2_with fail
    refine (HOf.out _ Hb1.out).mono ?_
    rintro e w2 ⟨B1, d1, rfl, hn2⟩
    have Hn2 := Lib.hid hn2
    have Hb2 := Lib.hid (ext_trans Hb1.out hn2.bel)
    clear hn2
    go_wp2_with fail
    refine (HROf.out _ Hb2.out).mono ?_
    rintro e w3 ⟨B2, d2, rfl, hn3⟩
    have Hn3 := Lib.hid hn3
    have Hb3 := Lib.hid (ext_trans Hb2.out hn3.bel)
    clear hn3
    go_wp2_with fail
    refine (HQ1.out B1 B2 d1 d2 _ (Hn2.out.at_.ext Hn3.out.bel) Hn3.out.at_).mono ?_
    rintro e w4 ⟨rfl, hb4⟩
    have Hb4 := Lib.hid (ext_trans Hb3.out hb4)
    clear hb4
    go_wp2_with fail
    refine (HA.out _ Hb4.out).mono ?_
    rintro e w5 ⟨rfl, hb5⟩
    have Hb5 := Lib.hid (ext_trans Hb4.out hb5)
    clear hb5
    go_wp2_with fail
    refine (HFi.out _ Hb5.out).mono ?_
    rintro e w6 ⟨rfl, hb6⟩
    have Hb6 := Lib.hid (ext_trans Hb5.out hb6)
    clear hb6
    go_wp2_with fail
    refine (HM.out _ Hb6.out).mono ?_
    rintro e w7 ⟨B3, d3, rfl, hn7⟩
    have Hn7 := Lib.hid hn7
    have Hb7 := Lib.hid (ext_trans Hb6.out hn7.bel)
    clear hn7
    go_wp2_with fail
    refine (HRM.out _ Hb7.out).mono ?_
    rintro e w8 ⟨B4, d4, rfl, hn8⟩
    have Hn8 := Lib.hid hn8
    have Hb8 := Lib.hid (ext_trans Hb7.out hn8.bel)
    clear hn8
    go_wp2_with fail
    refine (HQ2.out B3 B4 d3 d4 _ (Hn7.out.at_.ext Hn8.out.bel) Hn8.out.at_).mono ?_
    rintro e w9 ⟨rfl, hb9⟩
    have Hb9 := Lib.hid (ext_trans Hb8.out hb9)
    clear hb9
    go_wp2_with fail
    refine (HV.out _ Hb9.out).mono ?_
    rintro e w10 ⟨B5, d5, rfl, hn10⟩
    have Hn10 := Lib.hid hn10
    have Hb10 := Lib.hid (ext_trans Hb9.out hn10.bel)
    clear hn10
    go_wp2_with fail
    refine (HRV.out _ Hb10.out).mono ?_
    rintro e w11 ⟨B6, d6, rfl, hn11⟩
    have Hn11 := Lib.hid hn11
    have Hb11 := Lib.hid (ext_trans Hb10.out hn11.bel)
    clear hn11
    go_wp2_with fail
    refine (HT.out B5 B6 d5 d6 _ (Hn10.out.rd.ext Hn11.out.bel) Hn11.out.rd).mono ?_
    rintro e w12 ⟨rfl, hb12⟩
    have Hb12 := Lib.hid (ext_trans Hb11.out hb12)
    clear hb12
    go_wp2_with fail
    refine (HWi.out _ Hb12.out).mono ?_
    rintro e w13 ⟨rfl, hb13⟩
    have Hb13 := Lib.hid (ext_trans Hb12.out hb13)
    clear hb13
    go_wp2_with fail
    refine (HRW.out _ Hb13.out).mono ?_
    rintro e w14 ⟨rfl, hb14⟩
    have Hb14 := Lib.hid (ext_trans Hb13.out hb14)
    clear hb14
    go_wp2_with fail
    refine (HS.out _ Hb14.out).mono ?_
    rintro e w15 ⟨rfl, hb15⟩
    have Hb15 := Lib.hid (ext_trans Hb14.out hb15)
    clear hb15
    go_wp2_with fail
    refine (HRS.out _ Hb15.out).mono ?_
    rintro e w16 ⟨rfl, hb16⟩
    have Hb16 := Lib.hid (ext_trans Hb15.out hb16)
    clear hb16
    go_wp2_with fail
    refine (HSS.out _ Hb16.out).mono ?_
    rintro e w17 ⟨rfl, hb17⟩
    have Hb17 := Lib.hid (ext_trans Hb16.out hb17)
    clear hb17
    go_wp2_with fail
    refine (known14_any _).mono ?_
    rintro e w18 ⟨rfl, hb18⟩
    have Hb18 := Lib.hid (ext_trans Hb17.out hb18)
    clear hb18
    go_wp2
    go_ret
    exact ⟨rfl, Hb18.out⟩

set_option maxRecDepth 100000 in
theorem contract (H : Type) (enc : TypeId × Value → H) (W : World) (base : Nat) (args : Array Value) (ds gs : List (DataW H)) (before : List MemPlace)
    (hval : ∀ (j : Nat) t v, Try.f3.params[j]? = some t → args[j]? = some v → Value.okWide Try.prog W .any base t v)
    (hW : DataW.Whole enc Try.prog Try.f3.params.toList Rows.partTellsSpec.vars false W args.toList ds gs before) (hz : (DataW.weightsEach Try.prog (Try.f3.params.toList ++ (OpenSpec.ofChange Rows.partTellsSpec).bare.plain.varTypes Try.prog) (ds ++ gs)).all (· ≤ reachBytes) = true) :
    Calls Try.prog 3 args W fun e W' => ∃ v, e = .returned v ∧ Rows.partTellsSpec.post enc Try.prog Try.f3 false true false false W args v W' := by
  have hW' := hW
  obtain ⟨p, q, hA0, hV, rfl, hfz, hnd⟩ := hW
  have hA : DataW.TrodAll enc Try.prog W 0 (fun _ => true) true Try.f3.params.toList args.toList ds p := hA0
  rw [Try.params3] at hA hval
  obtain ⟨x0, x1, x2, d0, d1, d2, p0, p1, p2, rfl, rfl, rfl, h0, h1, h2⟩ := trodAll_three hA
  obtain ⟨A0, n0, c0, xs0, rfl, hn0, hc0, hm0, hr0, hz0, hu0⟩ := arg_parts (hval 0 _ x0 rfl rfl) h0
  obtain ⟨hs0, hl0⟩ := hz0.le (sized_of hz (j := 0) (by rw [Try.params3]; rfl) rfl)
  obtain ⟨A1, n1, c1, xs1, rfl, hn1, hc1, hm1, hr1, hz1, hu1⟩ := arg_toks (hval 1 _ x1 rfl rfl) h1
  obtain ⟨hs1, hl1⟩ := hz1.le (sized_of hz (j := 1) (by rw [Try.params3]; rfl) rfl)
  obtain ⟨A2, n2, c2, xs2, rfl, hn2, hc2, hm2, hr2, hz2, hu2⟩ := arg_parts (hval 2 _ x2 rfl rfl) h2
  obtain ⟨hs2, hl2⟩ := hz2.le (sized_of hz (j := 2) (by rw [Try.params3]; rfl) rfl)
  have walk : Calls Try.prog 3 #[.slice A0 n0 c0, .slice A1 n1 c1, .slice A2 n2 c2] W fun e w' => e = .returned (.bool true) ∧ Below W.heap.size W w' := tells A0 n0 c0 xs0 A1 n1 c1 xs1 A2 n2 c2 xs2 W hn0 hn1 hn2 hr0 hc0 (fun p hp => hs0 _ (List.mem_map.2 ⟨p, hp, rfl⟩)) hl0 hr1 hc1 (fun p hp => hs1 _ (List.mem_map.2 ⟨p, hp, rfl⟩)) hl1 hr2 hc2 (fun p hp => hs2 _ (List.mem_map.2 ⟨p, hp, rfl⟩)) hl2
  refine walk.mono fun e W' ⟨he, hb⟩ => ?_
  subst he
  exact ⟨_, rfl, law_post rfl rfl (by kernel_rfl) ⟨rfl, rfl, rfl⟩ hW' hb⟩

theorem laid_met (os : Os) : laidMet Try.prog Rows.partTellsRow.laid ((plainWorld os).forCall (fun _ _ => 0) ⟨#[], #[.slice none 0 0, .slice none 0 0, .slice none 0 0], []⟩).memory :=
  laidMet_of_run' 8 (by kernel_rfl) (by kernel_rfl)
theorem reads (os : Os) {H : Type} (enc : TypeId × Value → H) : ∃ places, DataW.whole enc Try.prog ((plainWorld os).forCall (fun _ _ => 0) ⟨#[], #[.slice none 0 0, .slice none 0 0, .slice none 0 0], []⟩).memory Try.f3.params.toList Rows.partTellsSpec.vars false #[Value.slice none 0 0, .slice none 0 0, .slice none 0 0].toList 8 = some ([.nil, .nil, .nil], [], places) :=
  ⟨[], by kernel_rfl⟩

set_option maxRecDepth 100000 in
theorem lifted (os : Os) (started : os.Started) (H : Type) (enc : TypeId × Value → H) (F : Stop.Interp) :
    ReturnsInHanded {} Try.checked os 3 .any ((OpenSpec.ofChange Rows.partTellsSpec).preRow enc Try.prog Try.f3 Rows.partTellsRow.domain false Rows.partTellsRow.laid) (((OpenSpec.ofChange Rows.partTellsSpec).at F).post enc Try.prog Try.f3 false true false false) := by
  obtain ⟨places, hx⟩ := reads os enc
  refine returnsInHanded_of_row (C := Try.checked) (s := OpenSpec.ofChange Rows.partTellsSpec) own started (by kernel_rfl) Try.func3
    (witness_row_at (enc := enc) (C := Try.checked) false (plainWorld os) #[.slice none 0 0, .slice none 0 0, .slice none 0 0] rfl (by kernel_rfl) (by kernel_rfl) (by kernel_rfl)
      (OpenSpec.preRow_of_cond 8 hx (by kernel_rfl) (fun k hk => by cases hk) (by kernel_rfl) (laid_met os))) ?_
  intro W base args ds gs before hval hW _ _ hz _ _ _
  exact contract H enc W base args ds gs before hval hW hz

theorem said : Rows.PartTellsSaid :=
  OpenClaim.holds_of_cond 3 Try.f3 rfl rfl rfl rfl rfl rfl rfl ⟨rfl, rfl, rfl, rfl, rfl⟩ rfl rfl rfl rfl rfl (by kernel_rfl) Try.func3 (by kernel_rfl)
    (of_decide_eq_true (by kernel_rfl)) (by unfold Func.isWrapper; first | (rw [if_pos (by decide +kernel)]; kernel_rfl) | (rw [if_neg (by decide +kernel)]; exact ⟨rfl, rfl⟩))
    (fun os started H enc _ F => by rw [OpenClaim.pre_eq_preRow]; exact lifted os started H enc F)

end Go.Proofs.Ytbigdkkjajlekaa.PartTells
