/-
  Statement PlanLeast: what is picked has the fewest lines of all neighbours, and is the first of those. No condition.
-/
import Derived.Test.YthomhhnioadpmaaAll1
set_option linter.unusedVariables false
set_option linter.unusedSimpArgs false
namespace Go.Proofs.Ythomhhnioadpmaa
open Go Go.ChangeShapes Go.WideShapes Go.ChangeAt Go.RowKit
namespace PlanLeast
set_option maxRecDepth 100000
set_option maxHeartbeats 2000000 in
theorem least (A : Option Addr) (n c : Nat) (l : List Sp) (w : World) (hn : n = l.length) (h : SpsAt w A l) (hok : ∀ k, k < l.length → (l.getD k spZ).ok) (hm : n ≤ maxLen) :
    Calls Try.prog 6 #[.slice A n c] w fun e w' => e = .returned (.bool true) ∧ Below w.heap.size w w' := by
  subst hn
  unfold maxLen at hm
  by_cases h100 : l.length ≤ 100
  case neg =>
    have hi : (100 : Int) < (l.length : Int) := by omega
    clear h hok
    go_enter Try.func6, Try.ntmps6
    go_wp2
    go_ret
    exact ⟨rfl, Below.refl _ _⟩
  have hi : ¬ (100 : Int) < (l.length : Int) := by omega
  have HI := Lib.hid (ris_any A l.length c l w rfl (by omega) h)
  have H := Lib.hid h
  have HO := Lib.hid hok
  obtain ⟨I, hI⟩ : ∃ I, isS l = I := ⟨_, rfl⟩
  rw [hI] at HI
  have HIs := Lib.hid hI
  clear h hok hI
  go_enter Try.func6, Try.ntmps6
  go_wp2_with fail
  refine HI.out.mono ?_
  rintro e w1 ⟨rfl, hb1⟩
  have Hb1 := Lib.hid hb1
  clear hb1 HI
  cases I with
  | false =>
    go_wp2
    go_ret
    exact ⟨rfl, Hb1.out⟩
  | true =>
    have HP := Lib.hid (pick_any A l.length c l w1 rfl (by omega) (H.out.ext Hb1.out) HO.out)
    have hV0 : pickS l = pickTo l l.length := by unfold pickS; rw [HIs.out]; rfl
    obtain ⟨V, hV⟩ : ∃ V, pickS l = V := ⟨_, rfl⟩
    rw [hV] at HP hV0
    have HV := Lib.hid hV0.symm
    clear hV0 hV
    go_wp2_with fail
    refine HP.out.mono ?_
    rintro e w2 ⟨rfl, hb2⟩
    have Hb2 := Lib.hid (ext_trans Hb1.out hb2)
    clear hb2 HP
    go_wp2
    go_loopw [5] (fun v wr => ∃ i : Nat, i ≤ l.length ∧ v = .int .i64 (i : Int) ∧ Hid (Below w.heap.size w wr)) (fun v _ => l.length - (intOf v).toNat)
    case atStart => exact ⟨0, Nat.zero_le _, rfl, Hb2⟩
    case round =>
      obtain ⟨i, hil, rfl, Hb⟩ := hrel
      by_cases hlt : i + 1 < l.length
      · have hii : (i : Int) + 1 < (l.length : Int) := by omega
        have hii0 : (i : Int) < (l.length : Int) := by omega
        have hsi := H.out.ext Hb.out
        obtain ⟨g, o, rfl, -, -, x2⟩ := hsi.at_ (k := i) (by omega)
        obtain ⟨g', o', e, -, -, y2⟩ := hsi.at_ (k := i + 1) hlt
        injection e with e
        injection e with e1 e2 _
        subst e1 e2
        have ht := isS_tog HIs.out i hlt
        have hw1 : IntKind.i64.wrap ((i : Int) + 1) = (i : Int) + 1 := by rw [IntKind.wrap_i64]; omega
        have hkn : ((i : Int) + 1).toNat = i + 1 := by omega
        have hleast : togS l i ≤ 512 → ∃ p, V = some p ∧ p + 1 < l.length ∧ isInt (togS l p) ∧ (togS l p < togS l i ∨ (togS l p = togS l i ∧ p ≤ i)) := fun h5 => by
          obtain ⟨p, hp, hq⟩ := pickTo_least (l := l) (k := l.length) (i := i) (by omega) (by simp [joinsK]; omega)
          have := pickTo_at hp
          exact ⟨p, by rw [← HV.out]; exact hp, this.2.1, isS_tog HIs.out p this.2.1, hq⟩
        have htog : togS l i = (l.getD i spZ).count + (l.getD (i + 1) spZ).count := rfl
        obtain ⟨a, ha⟩ : ∃ a, (l.getD i spZ).count = a := ⟨_, rfl⟩
        obtain ⟨b, hb⟩ : ∃ b, (l.getD (i + 1) spZ).count = b := ⟨_, rfl⟩
        rw [ha] at x2
        rw [hb] at y2
        rw [ha, hb] at htog
        rw [htog] at ht hleast
        unfold isInt at ht
        have ht1 := ht.1
        have ht2 := ht.2
        have hw2 : IntKind.i64.wrap (a + b) = a + b := by rw [IntKind.wrap_i64]; omega
        have Hl := Lib.hid hleast
        have HS := Lib.hid hsi
        clear hleast hsi ha hb htog ht
        by_cases h5 : 512 < a + b
        · go_wp2
          go_quiet (fail)
          go_wp2
          go_roundw
          case rel => exact ⟨i + 1, by omega, by go_num, Lib.hid (by repeat (first | exact Hb.out | apply ext_drew | apply ext_drewN))⟩
          case measure => simp [intOf]; omega
        · obtain ⟨p, hp, hp1, hp2, hp3⟩ := Hl.out (by omega)
          obtain ⟨g', o', e, -, -, z2⟩ := HS.out.at_ (k := p) (by omega)
          injection e with e
          injection e with e1 e2 _
          subst e1 e2
          obtain ⟨g', o', e, -, -, u2⟩ := HS.out.at_ (k := p + 1) hp1
          injection e with e
          injection e with e1 e2 _
          subst e1 e2
          have htog : togS l p = (l.getD p spZ).count + (l.getD (p + 1) spZ).count := rfl
          obtain ⟨a2, ha2⟩ : ∃ a2, (l.getD p spZ).count = a2 := ⟨_, rfl⟩
          obtain ⟨b2, hb2⟩ : ∃ b2, (l.getD (p + 1) spZ).count = b2 := ⟨_, rfl⟩
          rw [ha2] at z2
          rw [hb2] at u2
          rw [ha2, hb2] at htog
          rw [htog] at hp2 hp3
          unfold isInt at hp2
          have hp21 := hp2.1
          have hp22 := hp2.2
          have hw3 : IntKind.i64.wrap (a2 + b2) = a2 + b2 := by rw [IntKind.wrap_i64]; omega
          have hw4 : IntKind.i64.wrap ((p : Int) + 1) = (p : Int) + 1 := by rw [IntKind.wrap_i64]; omega
          have hkp : ((p : Int) + 1).toNat = p + 1 := by omega
          have hpi : (p : Int) + 1 < (l.length : Int) := by omega
          have hpi0 : (p : Int) < (l.length : Int) := by omega
          have hV : numP V = (p : Int) := by rw [hp]; rfl
          have hV2 : V.isSome = true := by rw [hp]; rfl
          have hno : ¬ (a + b < a2 + b2) := by omega
          rw [hV, hV2]
          clear ha2 hb2 htog hp hp2 hV hV2 Hl
          by_cases heq : a + b = a2 + b2
          · have hpil : ¬ (i : Int) < (p : Int) := by omega
            go_wp2
            go_quiet (fail)
            go_wp2
            go_quiet (fail)
            go_wp2
            go_roundw
            case rel => exact ⟨i + 1, by omega, by go_num, Lib.hid (by repeat (first | exact Hb.out | apply ext_drew | apply ext_drewN))⟩
            case measure => simp [intOf]; omega
          · go_wp2
            go_quiet (fail)
            go_wp2
            go_quiet (fail)
            go_wp2
            go_roundw
            case rel => exact ⟨i + 1, by omega, by go_num, Lib.hid (by repeat (first | exact Hb.out | apply ext_drew | apply ext_drewN))⟩
            case measure => simp [intOf]; omega
      · have HK := Lib.hid (known_any wr)
        have hii : ¬ (i : Int) + 1 < (l.length : Int) := by omega
        go_wp2_with fail
        refine HK.out.mono ?_
        rintro e w3 ⟨rfl, hb3⟩
        go_wp2
        go_ret
        exact ⟨rfl, ext_trans Hb.out hb3⟩

set_option maxRecDepth 100000 in
theorem contract (H : Type) (enc : TypeId × Value → H) (W : World) (base : Nat) (args : Array Value) (ds gs : List (DataW H)) (before : List MemPlace)
    (hval : ∀ (j : Nat) t v, Try.f6.params[j]? = some t → args[j]? = some v → Value.okWide Try.prog W .any base t v)
    (hW : DataW.Whole enc Try.prog Try.f6.params.toList Rows.planLeastSpec.vars false W args.toList ds gs before) :
    Calls Try.prog 6 args W fun e W' => ∃ v, e = .returned v ∧ Rows.planLeastSpec.post enc Try.prog Try.f6 false true false false W args v W' := by
  have hW' := hW
  obtain ⟨p, q, hA0, hV, rfl, hfz, hnd⟩ := hW
  have hA : DataW.TrodAll enc Try.prog W 0 (fun _ => true) true Try.f6.params.toList args.toList ds p := hA0
  rw [Try.params6] at hA hval
  obtain ⟨x0, d0, rfl, rfl, h0⟩ := trodAll_one hA
  obtain ⟨A0, n0, c0, xs0, rfl, hn0, hc0, hm0, hr0, hi0⟩ := arg_spans (hval 0 _ x0 rfl rfl) h0
  have walk : Calls Try.prog 6 #[.slice A0 n0 c0] W fun e w' => e = .returned (.bool true) ∧ Below W.heap.size W w' := least _ _ _ _ _ hn0 hr0 hi0.1 (by omega)
  refine walk.mono fun e W' ⟨he, hb⟩ => ?_
  subst he
  exact ⟨_, rfl, law_post rfl rfl (by kernel_rfl) ⟨rfl, rfl, rfl⟩ hW' hb⟩

theorem laid_met (os : Os) : laidMet Try.prog Rows.planLeastRow.laid ((plainWorld os).forCall (fun _ _ => 0) ⟨#[], #[.slice none 0 0], []⟩).memory :=
  laidMet_of_run' 8 (by kernel_rfl) (by kernel_rfl)
theorem reads (os : Os) {H : Type} (enc : TypeId × Value → H) : ∃ places, DataW.whole enc Try.prog ((plainWorld os).forCall (fun _ _ => 0) ⟨#[], #[.slice none 0 0], []⟩).memory Try.f6.params.toList Rows.planLeastSpec.vars false #[Value.slice none 0 0].toList 8 = some ([.nil], [], places) :=
  ⟨[], by kernel_rfl⟩

set_option maxRecDepth 100000 in
theorem lifted (os : Os) (started : os.Started) (H : Type) (enc : TypeId × Value → H) (F : Stop.Interp) :
    ReturnsInHanded {} Try.checked os 6 .any ((OpenSpec.ofChange Rows.planLeastSpec).preRow enc Try.prog Try.f6 Rows.planLeastRow.domain false Rows.planLeastRow.laid) (((OpenSpec.ofChange Rows.planLeastSpec).at F).post enc Try.prog Try.f6 false true false false) := by
  obtain ⟨places, hx⟩ := reads os enc
  refine returnsInHanded_of_row (C := Try.checked) (s := OpenSpec.ofChange Rows.planLeastSpec) own started (by kernel_rfl) Try.func6
    (witness_row_at (enc := enc) (C := Try.checked) false (plainWorld os) #[.slice none 0 0] rfl (by kernel_rfl) (by kernel_rfl) (by kernel_rfl)
      (OpenSpec.preRow_of_cond 8 hx (by kernel_rfl) (fun k hk => by cases hk) (by kernel_rfl) (laid_met os))) ?_
  intro W base args ds gs before hval hW _ _ _ _ _ _
  exact contract H enc W base args ds gs before hval hW

theorem said : Rows.PlanLeastSaid :=
  OpenClaim.holds_of_cond 6 Try.f6 rfl rfl rfl rfl rfl rfl rfl ⟨rfl, rfl, rfl, rfl, rfl⟩ rfl rfl rfl rfl rfl (by kernel_rfl) Try.func6 (by kernel_rfl)
    (of_decide_eq_true (by kernel_rfl)) (by unfold Func.isWrapper; first | (rw [if_pos (by decide +kernel)]; kernel_rfl) | (rw [if_neg (by decide +kernel)]; exact ⟨rfl, rfl⟩))
    (fun os started H enc _ F => by rw [OpenClaim.pre_eq_preRow]; exact lifted os started H enc F)

end Go.Proofs.Ythomhhnioadpmaa.PlanLeast
