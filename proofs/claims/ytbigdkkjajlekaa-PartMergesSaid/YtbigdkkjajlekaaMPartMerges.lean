/-
  Statement PartMerges: what is merged fits these tokens, and all that it fitted; it is Any just there where it was, or they part. No condition.
-/
import Derived.Test.YtbigdkkjajlekaaAll2
set_option linter.unusedVariables false
set_option linter.unusedSimpArgs false
namespace Go.Proofs.Ytbigdkkjajlekaa
open Go Go.ChangeShapes Go.WideShapes Go.ChangeAt Go.RowKit
namespace PartMerges
set_option maxRecDepth 100000
set_option maxHeartbeats 8000000 in
theorem merges (A0 : Option Addr) (n0 c0 : Nat) (l0 : List Prt) (A1 : Option Addr) (n1 c1 : Nat) (l1 : List Tok) (A2 : Option Addr) (n2 c2 : Nat) (l2 : List Tok) (w : World) (hn0 : n0 = l0.length) (hn1 : n1 = l1.length) (hn2 : n2 = l2.length) (h0 : PartsAt w A0 l0) (hc0 : l0.length ≤ c0) (hs0 : ∀ p ∈ l0, p.text.length ≤ 140737488355328) (hl0 : l0.length ≤ 140737488355328) (h1 : ToksAt w A1 l1) (hc1 : l1.length ≤ c1) (hs1 : ∀ p ∈ l1, p.text.length ≤ 140737488355328) (hl1 : l1.length ≤ 140737488355328) (h2 : ToksAt w A2 l2) (hc2 : l2.length ≤ c2) (hs2 : ∀ p ∈ l2, p.text.length ≤ 140737488355328) (hl2 : l2.length ≤ 140737488355328) :
    Calls Try.prog 6 #[.slice A0 n0 c0, .slice A1 n1 c1, .slice A2 n2 c2] w fun e w' => e = .returned (.bool true) ∧ Below w.heap.size w w' := by
  subst hn0 hn1 hn2
  have HW0 := Lib.hid (wide_any A0 _ c0 l0 w rfl h0 hs0 hl0)
  have HW1 := Lib.hid (long_any A1 _ c1 l1 w rfl h1 hs1 hl1)
  have HW2 := Lib.hid (long_any A2 _ c2 l2 w rfl h2 hs2 hl2)
  by_cases hw0 : wideB l0 = true
  · rw [hw0] at HW0
    clear hw0
    go_enter Try.func6, Try.ntmps6
    go_wp2_with fail
    refine HW0.out.mono ?_
    rintro e w' ⟨rfl, rfl⟩
    go_wp2
    go_ret
    exact ⟨rfl, Below.refl _ _⟩
  have hx0 : wideB l0 = false := by simpa using hw0
  rw [hx0] at HW0
  have hm0 : sumP l0 l0.length ≤ 1500 := by have := of_decide_eq_false hx0; omega
  have hq0 : l0.length ≤ 1000000 := by have := sumP_ge l0 l0.length (Nat.le_refl _); omega
  clear hw0 hx0
  by_cases hw1 : longB l1 = true
  · rw [hw1] at HW1
    clear hw1
    go_enter Try.func6, Try.ntmps6
    go_wp2_with fail
    refine HW0.out.mono ?_
    rintro e w' ⟨rfl, rfl⟩
    go_wp2_with fail
    refine HW1.out.mono ?_
    rintro e w' ⟨rfl, rfl⟩
    go_wp2
    go_ret
    exact ⟨rfl, Below.refl _ _⟩
  have hx1 : longB l1 = false := by simpa using hw1
  rw [hx1] at HW1
  have hm1 : sumT l1 l1.length ≤ 1500 := by have := of_decide_eq_false hx1; omega
  have hq1 : l1.length ≤ 1000000 := by have := sumT_ge l1 l1.length (Nat.le_refl _); omega
  clear hw1 hx1
  by_cases hw2 : longB l2 = true
  · rw [hw2] at HW2
    clear hw2
    go_enter Try.func6, Try.ntmps6
    go_wp2_with fail
    refine HW0.out.mono ?_
    rintro e w' ⟨rfl, rfl⟩
    go_wp2_with fail
    refine HW1.out.mono ?_
    rintro e w' ⟨rfl, rfl⟩
    go_wp2_with fail
    refine HW2.out.mono ?_
    rintro e w' ⟨rfl, rfl⟩
    go_wp2
    go_ret
    exact ⟨rfl, Below.refl _ _⟩
  have hx2 : longB l2 = false := by simpa using hw2
  rw [hx2] at HW2
  have hm2 : sumT l2 l2.length ≤ 1500 := by have := of_decide_eq_false hx2; omega
  have hq2 : l2.length ≤ 1000000 := by have := sumT_ge l2 l2.length (Nat.le_refl _); omega
  clear hw2 hx2
  clear hs0 hs1 hs2 hl0 hl1 hl2 hm0 hm1 hm2
  by_cases e1 : l0.length = l1.length
  case neg =>
    have e1i : ¬ (l0.length : Int) = (l1.length : Int) := by omega
    clear e1
    go_enter Try.func6, Try.ntmps6
    go_wp2_with fail
    refine HW0.out.mono ?_
    rintro e w' ⟨rfl, rfl⟩
    go_wp2_with fail
    refine HW1.out.mono ?_
    rintro e w' ⟨rfl, rfl⟩
    go_wp2_with fail
    refine HW2.out.mono ?_
    rintro e w' ⟨rfl, rfl⟩
    go_wp2
    go_ret
    exact ⟨rfl, Below.refl _ _⟩
  have hqm : (mergeL l0 l1).length ≤ 1000000 := by rw [mergeL_len]; exact hq0
  have HM1 : Hid (∀ W, Below w.heap.size w W → Calls Try.prog 16 #[.slice A0 l0.length c0, .slice A1 l1.length c1] W fun e w' => ∃ A c, e = .returned (.slice A l0.length c) ∧ NewP W w' A c (mergeL l0 l1)) := Lib.hid (fun W hb => (merge_any_ A0 _ c0 l0 A1 _ c1 l1 W rfl rfl (h0.ext hb) (h1.ext hb) hq0 hq1).mono (by
    rintro e w' ⟨A, c, rfl, h⟩
    exact ⟨A, c, by rw [mergeL_len], h⟩))
  have HM2 : Hid (∀ (B : Option Addr) (d : Nat) W, Below w.heap.size w W → PartsAt W B (mergeL l0 l1) → Calls Try.prog 16 #[.slice B l0.length d, .slice A1 l1.length c1] W fun e w' => ∃ A c, e = .returned (.slice A l0.length c) ∧ NewP W w' A c (mergeL l0 l1)) := Lib.hid (fun B d W hb hB => (merge_any_ B _ d (mergeL l0 l1) A1 _ c1 l1 W (mergeL_len l0 l1).symm rfl hB (h1.ext hb) hqm hq1).mono (by
    rintro e w' ⟨A, c, rfl, h⟩
    rw [merge_again l0 l1 e1] at h ⊢
    exact ⟨A, c, by rw [mergeL_len], h⟩))
  have HF1 : Hid (∀ (B : Option Addr) (d : Nat) W, Below w.heap.size w W → PartsAt W B (mergeL l0 l1) → Calls Try.prog 15 #[.slice B l0.length d, .slice A1 l1.length c1] W (SaysEq true W)) := Lib.hid (fun B d W hb hB => by
    have := fits_any B _ d (mergeL l0 l1) A1 _ c1 l1 W (mergeL_len l0 l1).symm rfl hB (h1.ext hb) hqm hq1
    rwa [merge_fits l0 l1 l1 e1 (.inr rfl)] at this)
  have HFt := Lib.hid (fun W (hb : Below w.heap.size w W) => fits_any A0 _ c0 l0 A2 _ c2 l2 W rfl rfl (h0.ext hb) (h2.ext hb) hq0 hq2)
  have HF2 : fitsB l0 l2 = true → Hid (∀ (B : Option Addr) (d : Nat) W, Below w.heap.size w W → PartsAt W B (mergeL l0 l1) → Calls Try.prog 15 #[.slice B l0.length d, .slice A2 l2.length c2] W (SaysEq true W)) := fun hf => Lib.hid (fun B d W hb hB => by
    have := fits_any B _ d (mergeL l0 l1) A2 _ c2 l2 W (mergeL_len l0 l1).symm rfl hB (h2.ext hb) hqm hq2
    rwa [merge_fits l0 l1 l2 e1 (.inl hf)] at this)
  have HS : Hid (∀ (B C : Option Addr) (cb cc : Nat) (W : World), PartsAt W B (mergeL l0 l1) → PartsAt W C (mergeL l0 l1) → Calls Try.prog 11 #[.slice B l0.length cb, .slice C l0.length cc] W (SaysEq true W)) := Lib.hid (fun B C cb cc W hB hC => by
    have := rsame_any B l0.length cb (mergeL l0 l1) C l0.length cc (mergeL l0 l1) W (mergeL_len l0 l1).symm (mergeL_len l0 l1).symm hB hC hqm hqm
    rwa [decide_eq_true rfl] at this)
  have e1i : (l0.length : Int) = (l1.length : Int) := by omega
  have E1 := Lib.hid e1
  have hq0i : (l0.length : Int) ≤ 1000000 := by omega
  clear e1 hqm
  by_cases hfit : fitsB l0 l2 = true
  · have HF2' := HF2 hfit
    rw [hfit] at HFt
    clear hfit HF2
    go_enter Try.func6, Try.ntmps6
    go_wp2_with fail
    refine HW0.out.mono ?_
    rintro e w' ⟨rfl, rfl⟩
    go_wp2_with fail
    refine HW1.out.mono ?_
    rintro e w' ⟨rfl, rfl⟩
    go_wp2_with fail
    refine HW2.out.mono ?_
    rintro e w' ⟨rfl, rfl⟩
    go_wp2_with fail
    refine (HM1.out _ (Below.refl _ _)).mono ?_
    rintro e w1 ⟨B1, d1, rfl, hn1⟩
    have Hn1 := Lib.hid hn1
    have Hb1 := Lib.hid (hn1.bel)
    clear hn1
    have HX1 := Lib.hid (Hn1.out.at_)
    go_wp2_with fail
    refine (HF1.out B1 d1 _ Hb1.out HX1.out).mono ?_
    rintro e w2 ⟨rfl, hb2⟩
    have Hb2 := Lib.hid (ext_trans Hb1.out hb2)
    have HX2 := Lib.hid (HX1.out.ext hb2)
    clear hb2
    go_wp2_with fail
    refine (HFt.out _ Hb2.out).mono ?_
    rintro e w3 ⟨rfl, hb3⟩
    have Hb3 := Lib.hid (ext_trans Hb2.out hb3)
    have HX3 := Lib.hid (HX2.out.ext hb3)
    clear hb3
    go_wp2_with fail
    refine (HF2'.out B1 d1 _ Hb3.out HX3.out).mono ?_
    rintro e w4 ⟨rfl, hb4⟩
    have Hb4 := Lib.hid (ext_trans Hb3.out hb4)
    have HX4 := Lib.hid (HX3.out.ext hb4)
    clear hb4
    have HE1 := Lib.hid e1i
    clear e1i
    go_wp2
    go_loopw [8] (fun i wr => ∃ k : Nat, k ≤ l0.length ∧ i = .int .i64 (k : Int) ∧ Hid (Below w4.heap.size w4 wr)) (fun i _ => l0.length - (intOf i).toNat)
    case atStart => exact ⟨0, Nat.zero_le _, rfl, Lib.hid (Below.refl _ _)⟩
    case round =>
      obtain ⟨k, hk, rfl, Hr⟩ := hrel
      have Hwr := Lib.hid (ext_trans Hb4.out Hr.out)
      have HXr := Lib.hid (HX4.out.ext Hr.out)
      by_cases hlt : k < l0.length
      · have hlt1 : k < l1.length := by have := E1.out; omega
        obtain ⟨g, o, rfl, c0, c1⟩ := (h0.ext Hwr.out).at_ hlt
        obtain ⟨g2, o2, rfl, -, c3⟩ := (h1.ext Hwr.out).at_ hlt1
        obtain ⟨g4, o4, rfl, c4, c5⟩ := HXr.out.at_ (k := k) (by rw [mergeL_len]; exact hlt)
        rw [mergeL_at l0 l1 k hlt, List.getElem?_eq_getElem hlt1] at c4 c5
        have hki : (k : Int) < (l0.length : Int) := by omega
        have hki1 : (k : Int) < (l1.length : Int) := by omega
        have hk0 : (0 : Int) ≤ (k : Int) := by omega
        obtain ⟨Y, Z, hY, hZ, hc⟩ := str_cases l0[k].text l1[k].text
        rw [hZ] at c3
        cases hA : l0[k].any
        · rw [hA] at c0
          rcases hc with ⟨he, rfl⟩ | ⟨he, hf⟩
          · rw [merge1_same hA he] at c4 c5
            rw [hA] at c4
            rw [hY] at c1 c5
            clear hY hZ hA he
            go_wp2
            go_quiet (fail)
            go_wp2
            go_roundw
            case rel => exact ⟨k + 1, by omega, by go_num, Lib.hid (ext_drewN Hr.out _)⟩
            case measure => simp [intOf]; omega
          · rw [merge1_other hA he] at c4 c5
            rw [hY] at c1
            have c4' : wr.cell? ⟨g4, o4 + k * 2, none⟩ = some (.bool true) := c4
            have c5' : wr.cell? ⟨g4, o4 + k * 2 + 1, none⟩ = some (.string ⟨#[]⟩) := c5
            clear hY hZ hA he c4 c5
            go_wp2
            go_quiet (fail)
            go_wp2
            go_roundw
            case rel => exact ⟨k + 1, by omega, by go_num, Lib.hid (ext_drewN Hr.out _)⟩
            case measure => simp [intOf]; omega
        · rw [hA] at c0
          rw [merge1_dot _ hA] at c4 c5
          rw [hY] at c1
          have c4' : wr.cell? ⟨g4, o4 + k * 2, none⟩ = some (.bool true) := c4
          have c5' : wr.cell? ⟨g4, o4 + k * 2 + 1, none⟩ = some (.string ⟨#[]⟩) := c5
          clear hY hZ hA hc c4 c5
          go_wp2
          go_quiet (fail)
          go_wp2
          go_roundw
          case rel => exact ⟨k + 1, by omega, by go_num, Lib.hid (ext_drewN Hr.out _)⟩
          case measure => simp [intOf]; omega
      · obtain rfl : k = l0.length := by omega
        go_wp2_with fail
        refine (HM2.out B1 d1 _ Hwr.out HXr.out).mono ?_
        rintro e w7 ⟨B2, d2, rfl, hn7⟩
        have Hn7 := Lib.hid hn7.at_
        have HX7 := Lib.hid (HXr.out.ext hn7.bel)
        have Hb7 := Lib.hid (ext_trans Hwr.out hn7.bel)
        clear hn7
        go_wp2_with fail
        refine (HS.out B2 B1 d2 d1 _ Hn7.out HX7.out).mono ?_
        rintro e w8 ⟨rfl, hb8⟩
        have Hb8 := Lib.hid (ext_trans Hb7.out hb8)
        clear hb8
        go_wp2_with fail
        refine (known14_any _).mono ?_
        rintro e w9 ⟨rfl, hb9⟩
        have Hb9 := Lib.hid (ext_trans Hb8.out hb9)
        clear hb9
        go_wp2
        go_ret
        exact ⟨rfl, Hb9.out⟩
  · rw [show fitsB l0 l2 = false by simpa using hfit] at HFt
    clear hfit HF2
    go_enter Try.func6, Try.ntmps6
    go_wp2_with fail
    refine HW0.out.mono ?_
    rintro e w' ⟨rfl, rfl⟩
    go_wp2_with fail
    refine HW1.out.mono ?_
    rintro e w' ⟨rfl, rfl⟩
    go_wp2_with fail
    refine HW2.out.mono ?_
    rintro e w' ⟨rfl, rfl⟩
    go_wp2_with fail
    refine (HM1.out _ (Below.refl _ _)).mono ?_
    rintro e w1 ⟨B1, d1, rfl, hn1⟩
    have Hn1 := Lib.hid hn1
    have Hb1 := Lib.hid (hn1.bel)
    clear hn1
    have HX1 := Lib.hid (Hn1.out.at_)
    go_wp2_with fail
    refine (HF1.out B1 d1 _ Hb1.out HX1.out).mono ?_
    rintro e w2 ⟨rfl, hb2⟩
    have Hb2 := Lib.hid (ext_trans Hb1.out hb2)
    have HX2 := Lib.hid (HX1.out.ext hb2)
    clear hb2
    go_wp2_with fail
    refine (HFt.out _ Hb2.out).mono ?_
    rintro e w3 ⟨rfl, hb3⟩
    have Hb3 := Lib.hid (ext_trans Hb2.out hb3)
    have HX3 := Lib.hid (HX2.out.ext hb3)
    clear hb3
    have HE1 := Lib.hid e1i
    clear e1i
    go_wp2
    go_loopw [8] (fun i wr => ∃ k : Nat, k ≤ l0.length ∧ i = .int .i64 (k : Int) ∧ Hid (Below w3.heap.size w3 wr)) (fun i _ => l0.length - (intOf i).toNat)
    case atStart => exact ⟨0, Nat.zero_le _, rfl, Lib.hid (Below.refl _ _)⟩
    case round =>
      obtain ⟨k, hk, rfl, Hr⟩ := hrel
      have Hwr := Lib.hid (ext_trans Hb3.out Hr.out)
      have HXr := Lib.hid (HX3.out.ext Hr.out)
      by_cases hlt : k < l0.length
      · have hlt1 : k < l1.length := by have := E1.out; omega
        obtain ⟨g, o, rfl, c0, c1⟩ := (h0.ext Hwr.out).at_ hlt
        obtain ⟨g2, o2, rfl, -, c3⟩ := (h1.ext Hwr.out).at_ hlt1
        obtain ⟨g4, o4, rfl, c4, c5⟩ := HXr.out.at_ (k := k) (by rw [mergeL_len]; exact hlt)
        rw [mergeL_at l0 l1 k hlt, List.getElem?_eq_getElem hlt1] at c4 c5
        have hki : (k : Int) < (l0.length : Int) := by omega
        have hki1 : (k : Int) < (l1.length : Int) := by omega
        have hk0 : (0 : Int) ≤ (k : Int) := by omega
        obtain ⟨Y, Z, hY, hZ, hc⟩ := str_cases l0[k].text l1[k].text
        rw [hZ] at c3
        cases hA : l0[k].any
        · rw [hA] at c0
          rcases hc with ⟨he, rfl⟩ | ⟨he, hf⟩
          · rw [merge1_same hA he] at c4 c5
            rw [hA] at c4
            rw [hY] at c1 c5
            clear hY hZ hA he
            go_wp2
            go_quiet (fail)
            go_wp2
            go_roundw
            case rel => exact ⟨k + 1, by omega, by go_num, Lib.hid (ext_drewN Hr.out _)⟩
            case measure => simp [intOf]; omega
          · rw [merge1_other hA he] at c4 c5
            rw [hY] at c1
            have c4' : wr.cell? ⟨g4, o4 + k * 2, none⟩ = some (.bool true) := c4
            have c5' : wr.cell? ⟨g4, o4 + k * 2 + 1, none⟩ = some (.string ⟨#[]⟩) := c5
            clear hY hZ hA he c4 c5
            go_wp2
            go_quiet (fail)
            go_wp2
            go_roundw
            case rel => exact ⟨k + 1, by omega, by go_num, Lib.hid (ext_drewN Hr.out _)⟩
            case measure => simp [intOf]; omega
        · rw [hA] at c0
          rw [merge1_dot _ hA] at c4 c5
          rw [hY] at c1
          have c4' : wr.cell? ⟨g4, o4 + k * 2, none⟩ = some (.bool true) := c4
          have c5' : wr.cell? ⟨g4, o4 + k * 2 + 1, none⟩ = some (.string ⟨#[]⟩) := c5
          clear hY hZ hA hc c4 c5
          go_wp2
          go_quiet (fail)
          go_wp2
          go_roundw
          case rel => exact ⟨k + 1, by omega, by go_num, Lib.hid (ext_drewN Hr.out _)⟩
          case measure => simp [intOf]; omega
      · obtain rfl : k = l0.length := by omega
        go_wp2_with fail
        refine (HM2.out B1 d1 _ Hwr.out HXr.out).mono ?_
        rintro e w7 ⟨B2, d2, rfl, hn7⟩
        have Hn7 := Lib.hid hn7.at_
        have HX7 := Lib.hid (HXr.out.ext hn7.bel)
        have Hb7 := Lib.hid (ext_trans Hwr.out hn7.bel)
        clear hn7
        go_wp2_with fail
        refine (HS.out B2 B1 d2 d1 _ Hn7.out HX7.out).mono ?_
        rintro e w8 ⟨rfl, hb8⟩
        have Hb8 := Lib.hid (ext_trans Hb7.out hb8)
        clear hb8
        go_wp2_with fail
        refine (known14_any _).mono ?_
        rintro e w9 ⟨rfl, hb9⟩
        have Hb9 := Lib.hid (ext_trans Hb8.out hb9)
        clear hb9
        go_wp2
        go_ret
        exact ⟨rfl, Hb9.out⟩

set_option maxRecDepth 100000 in
theorem contract (H : Type) (enc : TypeId × Value → H) (W : World) (base : Nat) (args : Array Value) (ds gs : List (DataW H)) (before : List MemPlace)
    (hval : ∀ (j : Nat) t v, Try.f6.params[j]? = some t → args[j]? = some v → Value.okWide Try.prog W .any base t v)
    (hW : DataW.Whole enc Try.prog Try.f6.params.toList Rows.partMergesSpec.vars false W args.toList ds gs before) (hz : (DataW.weightsEach Try.prog (Try.f6.params.toList ++ (OpenSpec.ofChange Rows.partMergesSpec).bare.plain.varTypes Try.prog) (ds ++ gs)).all (· ≤ reachBytes) = true) :
    Calls Try.prog 6 args W fun e W' => ∃ v, e = .returned v ∧ Rows.partMergesSpec.post enc Try.prog Try.f6 false true false false W args v W' := by
  have hW' := hW
  obtain ⟨p, q, hA0, hV, rfl, hfz, hnd⟩ := hW
  have hA : DataW.TrodAll enc Try.prog W 0 (fun _ => true) true Try.f6.params.toList args.toList ds p := hA0
  rw [Try.params6] at hA hval
  obtain ⟨x0, x1, x2, d0, d1, d2, p0, p1, p2, rfl, rfl, rfl, h0, h1, h2⟩ := trodAll_three hA
  obtain ⟨A0, n0, c0, xs0, rfl, hn0, hc0, hm0, hr0, hz0, hu0⟩ := arg_parts (hval 0 _ x0 rfl rfl) h0
  obtain ⟨hs0, hl0⟩ := hz0.le (sized_of hz (j := 0) (by rw [Try.params6]; rfl) rfl)
  obtain ⟨A1, n1, c1, xs1, rfl, hn1, hc1, hm1, hr1, hz1, hu1⟩ := arg_toks (hval 1 _ x1 rfl rfl) h1
  obtain ⟨hs1, hl1⟩ := hz1.le (sized_of hz (j := 1) (by rw [Try.params6]; rfl) rfl)
  obtain ⟨A2, n2, c2, xs2, rfl, hn2, hc2, hm2, hr2, hz2, hu2⟩ := arg_toks (hval 2 _ x2 rfl rfl) h2
  obtain ⟨hs2, hl2⟩ := hz2.le (sized_of hz (j := 2) (by rw [Try.params6]; rfl) rfl)
  have walk : Calls Try.prog 6 #[.slice A0 n0 c0, .slice A1 n1 c1, .slice A2 n2 c2] W fun e w' => e = .returned (.bool true) ∧ Below W.heap.size W w' := merges A0 n0 c0 xs0 A1 n1 c1 xs1 A2 n2 c2 xs2 W hn0 hn1 hn2 hr0 hc0 (fun p hp => hs0 _ (List.mem_map.2 ⟨p, hp, rfl⟩)) hl0 hr1 hc1 (fun p hp => hs1 _ (List.mem_map.2 ⟨p, hp, rfl⟩)) hl1 hr2 hc2 (fun p hp => hs2 _ (List.mem_map.2 ⟨p, hp, rfl⟩)) hl2
  refine walk.mono fun e W' ⟨he, hb⟩ => ?_
  subst he
  exact ⟨_, rfl, law_post rfl rfl (by kernel_rfl) ⟨rfl, rfl, rfl⟩ hW' hb⟩

theorem laid_met (os : Os) : laidMet Try.prog Rows.partMergesRow.laid ((plainWorld os).forCall (fun _ _ => 0) ⟨#[], #[.slice none 0 0, .slice none 0 0, .slice none 0 0], []⟩).memory :=
  laidMet_of_run' 8 (by kernel_rfl) (by kernel_rfl)
theorem reads (os : Os) {H : Type} (enc : TypeId × Value → H) : ∃ places, DataW.whole enc Try.prog ((plainWorld os).forCall (fun _ _ => 0) ⟨#[], #[.slice none 0 0, .slice none 0 0, .slice none 0 0], []⟩).memory Try.f6.params.toList Rows.partMergesSpec.vars false #[Value.slice none 0 0, .slice none 0 0, .slice none 0 0].toList 8 = some ([.nil, .nil, .nil], [], places) :=
  ⟨[], by kernel_rfl⟩

set_option maxRecDepth 100000 in
theorem lifted (os : Os) (started : os.Started) (H : Type) (enc : TypeId × Value → H) (F : Stop.Interp) :
    ReturnsInHanded {} Try.checked os 6 .any ((OpenSpec.ofChange Rows.partMergesSpec).preRow enc Try.prog Try.f6 Rows.partMergesRow.domain false Rows.partMergesRow.laid) (((OpenSpec.ofChange Rows.partMergesSpec).at F).post enc Try.prog Try.f6 false true false false) := by
  obtain ⟨places, hx⟩ := reads os enc
  refine returnsInHanded_of_row (C := Try.checked) (s := OpenSpec.ofChange Rows.partMergesSpec) own started (by kernel_rfl) Try.func6
    (witness_row_at (enc := enc) (C := Try.checked) false (plainWorld os) #[.slice none 0 0, .slice none 0 0, .slice none 0 0] rfl (by kernel_rfl) (by kernel_rfl) (by kernel_rfl)
      (OpenSpec.preRow_of_cond 8 hx (by kernel_rfl) (fun k hk => by cases hk) (by kernel_rfl) (laid_met os))) ?_
  intro W base args ds gs before hval hW _ _ hz _ _ _
  exact contract H enc W base args ds gs before hval hW hz

theorem said : Rows.PartMergesSaid :=
  OpenClaim.holds_of_cond 6 Try.f6 rfl rfl rfl rfl rfl rfl rfl ⟨rfl, rfl, rfl, rfl, rfl⟩ rfl rfl rfl rfl rfl (by kernel_rfl) Try.func6 (by kernel_rfl)
    (of_decide_eq_true (by kernel_rfl)) (by unfold Func.isWrapper; first | (rw [if_pos (by decide +kernel)]; kernel_rfl) | (rw [if_neg (by decide +kernel)]; exact ⟨rfl, rfl⟩))
    (fun os started H enc _ F => by rw [OpenClaim.pre_eq_preRow]; exact lifted os started H enc F)

end Go.Proofs.Ytbigdkkjajlekaa.PartMerges
