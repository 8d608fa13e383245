/-
  Statement ClassJoins: what is in any, in all, in none of some sets.
-/
import Derived.Test.YtjlakbcbfbcmhaaDoorAll1
set_option linter.unusedVariables false
set_option linter.unusedSimpArgs false
namespace Go.Proofs.YtjlakbcbfbcmhaaDoor
open Go Go.ChangeShapes Go.WideShapes Go.ChangeAt Go.RowKit
namespace ClassJoins

def someB (l : List (List Nat)) (b : Nat) : Bool := l.any fun x => hasB x b
def allB (l : List (List Nat)) (b : Nat) : Bool := l.all fun x => hasB x b
theorem someB_snoc (l : List (List Nat)) (x : List Nat) (b : Nat) : someB (l ++ [x]) b = (someB l b || hasB x b) := by simp [someB]
theorem allB_snoc (l : List (List Nat)) (x : List Nat) (b : Nat) : allB (l ++ [x]) b = (allB l b && hasB x b) := by simp [allB]

set_option maxHeartbeats 4000000 in
theorem joins (A : Option Addr) (n c : Nat) (l : List (List Nat)) (b : Nat) (hb : b < 256) (w : World) (ht : Tab w) (hn : n = l.length) (hm : n ≤ maxLen) (hr : SetsR w A l) :
    Calls Tryd.prog 4 #[.slice A n c, .int .u8 (b : Int)] w fun e w' => e = .returned (.bool true) ∧ Below w.heap.size w w' := by
  subst hn
  have hmi : (l.length : Int) ≤ 9223372036854775807 := by unfold maxLen at hm; omega
  by_cases h50 : 50 < l.length
  · have h50i : (50 : Int) < (l.length : Int) := by omega
    go_enter Tryd.func4, Tryd.ntmps4
    go_wp2
    go_ret
    exact ⟨rfl, Below.refl _ _⟩
  have h50i : (l.length : Int) ≤ 50 := by omega
  have hH : ∀ W ws, SetOk ws → Calls Tryd.prog 15 #[.agg (cellsU ws), .int .u8 (b : Int)] W fun e w' => e = .returned (.bool (hasB ws b)) ∧ Below W.heap.size W w' := fun W ws hs => has_any ws hs b hb W
  have hRH : ∀ W ws, SetOk ws → Calls Tryd.prog 16 #[.agg (cellsU ws), .int .u8 (b : Int)] W fun e w' => e = .returned (.bool (hasB ws b)) ∧ Below W.heap.size W w' := fun W ws hs => rhas_any ws hs b hb W
  have hN : ∀ W ws, SetOk ws → Calls Tryd.prog 18 #[.agg (cellsU ws)] W fun e w' => e = .returned (.agg (cellsU (notB ws))) ∧ Below W.heap.size W w' := fun W ws hs => not_any ws hs W
  have hJ : ∀ W, Below w.heap.size w W → Calls Tryd.prog 19 #[.slice A l.length c] W fun e w' => e = .returned (.agg (cellsU (joinB l))) ∧ Below W.heap.size W w' := fun W hW => join_any A _ c l W rfl (by omega) (hr.ext hW)
  have hRJ : ∀ W, Below w.heap.size w W → Calls Tryd.prog 20 #[.slice A l.length c] W fun e w' => e = .returned (.agg (cellsU (joinB l))) ∧ Below W.heap.size W w' := fun W hW => rjoin_any A _ c l W rfl (by omega) (hr.ext hW)
  have hM : ∀ W, Below w.heap.size w W → Calls Tryd.prog 21 #[.slice A l.length c] W fun e w' => e = .returned (.agg (cellsU (meetB l))) ∧ Below W.heap.size W w' := fun W hW => meet_any A _ c l W rfl (by omega) (hr.ext hW)
  have hRM : ∀ W, Below w.heap.size w W → Calls Tryd.prog 22 #[.slice A l.length c] W fun e w' => e = .returned (.agg (cellsU (meetB l))) ∧ Below W.heap.size W w' := fun W hW => rmeet_any A _ c l W rfl (by omega) (hr.ext hW)
  have hK : ∀ W, Below w.heap.size w W → Calls Tryd.prog 17 #[] W fun e w' => e = .returned (.bool true) ∧ Below W.heap.size W w' := fun W hW => known_any W (ht.ext hW)
  have hjo := join_ok hr.ok
  have hmo := meet_ok hr.ok
  have he1 := eq_set hjo
  have he2 := eq_set hmo
  have hHJ : ∀ W, Calls Tryd.prog 15 #[.agg (cellsU (joinB l)), .int .u8 (b : Int)] W fun e w' => e = .returned (.bool (someB l b)) ∧ Below W.heap.size W w' := fun W => by
    have := hH W _ hjo
    rwa [hasB_join hr.ok hb] at this
  have hHM : ∀ W, Calls Tryd.prog 15 #[.agg (cellsU (meetB l)), .int .u8 (b : Int)] W fun e w' => e = .returned (.bool (allB l b)) ∧ Below W.heap.size W w' := fun W => by
    have := hH W _ hmo
    rwa [hasB_meet hr.ok hb] at this
  have hNH : ∀ W ws, SetOk ws → Calls Tryd.prog 15 #[.agg (cellsU (notB ws)), .int .u8 (b : Int)] W fun e w' => e = .returned (.bool (!hasB ws b)) ∧ Below W.heap.size W w' := fun W ws hs => by
    have := hH W _ (not_ok hs)
    rwa [hasB_not hs hb] at this
  generalize joinB l = uj at hJ hRJ he1 hHJ
  generalize meetB l = um at hM hRM he2 hHM
  have HRH := Lib.hid hRH
  have HN := Lib.hid hN
  have HNH := Lib.hid hNH
  have HJ := Lib.hid hJ
  have HRJ := Lib.hid hRJ
  have HM := Lib.hid hM
  have HRM := Lib.hid hRM
  have HK := Lib.hid hK
  have HHJ := Lib.hid hHJ
  have HHM := Lib.hid hHM
  clear hH hRH hN hNH hJ hRJ hM hRM hK hHJ hHM hjo hmo ht hm
  go_enter Tryd.func4, Tryd.ntmps4
  go_wp2
  go_loopw [5, 6, 7] (fun s a i wr => ∃ k : Nat, k ≤ l.length ∧ i = .int .i64 (k : Int) ∧ s = .bool (someB (l.take k) b) ∧ a = .bool (allB (l.take k) b) ∧ Below w.heap.size w wr) (fun _ _ i _ => l.length - (intOf i).toNat)
  case atStart => exact ⟨0, Nat.zero_le _, rfl, rfl, rfl, Below.refl _ _⟩
  case round =>
    obtain ⟨k, hk, rfl, rfl, rfl, hbel⟩ := hrel
    by_cases hlt : k < l.length
    · have hki : (k : Int) < (l.length : Int) := by omega
      obtain ⟨g, o, rfl, hrg⟩ := (hr.ext hbel).range hlt
      have hx := hr.ok l[k] (List.getElem_mem hlt)
      have h1 : someB (l.take (k + 1)) b = (someB (l.take k) b || hasB l[k] b) := by rw [take_snoc l k hlt, someB_snoc]
      have h2 : allB (l.take (k + 1)) b = (allB (l.take k) b && hasB l[k] b) := by rw [take_snoc l k hlt, allB_snoc]
      have hrg2 : ∀ W, Below w.heap.size w W → W.rangeAt g (o + k * 4) (l[k].map uv) := fun W hW => by
        obtain ⟨g', o', e, h3⟩ := (hr.ext hW).range hlt
        injection e with e
        injection e with e1 e2
        subst e1; subst e2
        exact h3
      have Hr2 := Lib.hid hrg2
      have Hr := Lib.hid hr
      clear hrg2 hr
      obtain ⟨x, hxe⟩ : ∃ x, l[k] = x := ⟨_, rfl⟩
      rw [hxe] at hrg hx h1 h2 Hr2
      clear hxe
      have hi4 := size_four hx
      obtain ⟨q, hq⟩ : ∃ q, hasB x b = q := ⟨_, rfl⟩
      have HRx : Hid (∀ W, Calls Tryd.prog 16 #[.agg (x.map uv).toArray, .int .u8 (b : Int)] W fun e w' => e = .returned (.bool q) ∧ Below W.heap.size W w') := by
        have := Lib.hid fun W => HRH.out W x hx
        rwa [hq] at this
      have HNx : Hid (∀ W, Calls Tryd.prog 18 #[.agg (x.map uv).toArray] W fun e w' => e = .returned (.agg (cellsU (notB x))) ∧ Below W.heap.size W w') := Lib.hid fun W => HN.out W x hx
      have HNHx : Hid (∀ W, Calls Tryd.prog 15 #[.agg (cellsU (notB x)), .int .u8 (b : Int)] W fun e w' => e = .returned (.bool (!q)) ∧ Below W.heap.size W w') := by
        have := Lib.hid fun W => HNH.out W x hx
        rwa [hq] at this
      rw [hq] at h1 h2
      clear hq
      obtain ⟨s, hs⟩ : ∃ s, someB (l.take k) b = s := ⟨_, rfl⟩
      obtain ⟨a, ha⟩ : ∃ a, allB (l.take k) b = a := ⟨_, rfl⟩
      rw [hs] at h1 ⊢
      rw [ha] at h2 ⊢
      have H1 := Lib.hid h1
      have H2 := Lib.hid h2
      have Hrg := Lib.hid hrg
      clear h1 h2 hs ha hx hrg
      generalize cellsU (notB x) = nx at HNx HNHx
      generalize x.map uv = xs at Hrg Hr2 HRx HNx hi4
      have hrg := Hrg.out
      go_wp2_with (refine wpList_load_mid rfl 25 _ rfl g (o + k * 4) rfl _ _ hrg Tryd.underlying25 rfl hi4 ?_)
      refine (HRx.out _).mono ?_
      rintro e w2 ⟨rfl, hb2⟩
      have hbel2 := ext_trans hbel hb2
      have hrg2 := Hr2.out w2 hbel2
      clear hrg
      cases q <;> cases s <;> cases a
      all_goals
        go_wp2_with (refine wpList_load_mid rfl 25 _ rfl g (o + k * 4) rfl _ _ hrg2 Tryd.underlying25 rfl hi4 ?_)
        refine (HNx.out _).mono ?_
        rintro e w3 ⟨rfl, hb3⟩
        go_wp2_with fail
        refine (HNHx.out _).mono ?_
        rintro e w4 ⟨rfl, hb4⟩
        go_wp2
        go_roundw
        case rel => exact ⟨k + 1, by omega, by go_num, by rw [H1.out]; rfl, by rw [H2.out]; rfl, ext_trans (ext_trans hbel2 hb3) hb4⟩
        case measure => simp [intOf]; omega
    · obtain rfl : k = l.length := by omega
      rw [List.take_length]
      clear hr hk hlt hmi h50i
      go_wp2_with fail
      refine (HJ.out _ hbel).mono ?_
      rintro e w2 ⟨rfl, hb2⟩
      have hbel2 := ext_trans hbel hb2
      go_wp2_with fail
      refine (HRJ.out _ hbel2).mono ?_
      rintro e w3 ⟨rfl, hb3⟩
      have hbel3 := ext_trans hbel2 hb3
      go_wp2_with fail
      refine (HM.out _ hbel3).mono ?_
      rintro e w4 ⟨rfl, hb4⟩
      have hbel4 := ext_trans hbel3 hb4
      go_wp2_with fail
      refine (HRM.out _ hbel4).mono ?_
      rintro e w5 ⟨rfl, hb5⟩
      have hbel5 := ext_trans hbel4 hb5
      go_wp2_with fail
      refine (HJ.out _ hbel5).mono ?_
      rintro e w6 ⟨rfl, hb6⟩
      have hbel6 := ext_trans hbel5 hb6
      go_wp2_with fail
      refine (HHJ.out _).mono ?_
      rintro e w7 ⟨rfl, hb7⟩
      have hbel7 := ext_trans hbel6 hb7
      go_wp2_with fail
      refine (HM.out _ hbel7).mono ?_
      rintro e w8 ⟨rfl, hb8⟩
      have hbel8 := ext_trans hbel7 hb8
      go_wp2_with fail
      refine (HHM.out _).mono ?_
      rintro e w9 ⟨rfl, hb9⟩
      have hbel9 := ext_trans hbel8 hb9
      go_wp2_with fail
      refine (HK.out _ hbel9).mono ?_
      rintro e w10 ⟨rfl, hb10⟩
      have hbel10 := ext_trans hbel9 hb10
      go_wp2
      go_ret
      exact ⟨rfl, hbel10⟩

theorem joins_args (A : Option Addr) (n c : Nat) (l : List (List Nat)) (v1 : Int) (i1 : 0 ≤ v1 ∧ v1 ≤ 255) (w : World) (ht : Tab w) (hn : n = l.length) (hc : l.length ≤ c) (hm : c ≤ maxLen) (hr : SetsR w A l) :
    Calls Tryd.prog 4 #[.slice A n c, .int .u8 v1] w fun e w' => e = .returned (.bool true) ∧ Below w.heap.size w w' := by
  obtain ⟨b, rfl⟩ : ∃ b : Nat, v1 = (b : Int) := ⟨v1.toNat, by omega⟩
  exact joins A n c l b (by omega) w ht hn (by omega) hr

set_option maxRecDepth 100000 in
theorem contract (H : Type) (enc : TypeId × Value → H) (W : World) (base : Nat) (args : Array Value) (ds gs : List (DataW H)) (before : List MemPlace)
    (hval : ∀ (j : Nat) t v, Tryd.f4.params[j]? = some t → args[j]? = some v → Value.okWide Tryd.prog W .any base t v)
    (hW : DataW.Whole enc Tryd.prog Tryd.f4.params.toList Rows.classJoinsSpec.vars false W args.toList ds gs before) (hL : laidMetH Tryd.prog Rows.classJoinsRow.laid W) :
    Calls Tryd.prog 4 args W fun e W' => ∃ v, e = .returned v ∧ Rows.classJoinsSpec.post enc Tryd.prog Tryd.f4 false true false false W args v W' := by
  have ht : Tab W := tab_of_laid hL
  have hW' := hW
  obtain ⟨p, q, hA0, hV, rfl, hfz, hnd⟩ := hW
  have hA : DataW.TrodAll enc Tryd.prog W 0 (fun _ => true) true Tryd.f4.params.toList args.toList ds p := hA0
  rw [Tryd.params4] at hA hval
  obtain ⟨x0, x1, d0, d1, p0, p1, rfl, rfl, rfl, h0, h1⟩ := trodAll_two hA
  obtain ⟨A0, n0, c0, xs0, rfl, hn0, hc0, hm0, hr0⟩ := arg_sets (hval 0 _ x0 rfl rfl) h0
  obtain ⟨v1, rfl, rfl, rfl, wv1⟩ := open_int Tryd.underlying5 (hval 1 _ x1 rfl rfl) h1
  have i1 := u8_of_wf wv1
  have walk : Calls Tryd.prog 4 #[.slice A0 n0 c0, .int .u8 v1] W fun e w' => e = .returned (.bool true) ∧ Below W.heap.size W w' := joins_args A0 n0 c0 xs0 v1 i1 W ht hn0 hc0 hm0 hr0
  refine walk.mono fun e W' ⟨he, hb⟩ => ?_
  subst he
  exact ⟨_, rfl, law_post rfl rfl (by kernel_rfl) ⟨rfl, rfl, rfl⟩ hW' hb⟩

theorem laid_met (os : Os) : laidMet Tryd.prog Rows.classJoinsRow.laid ((laidWorld os).forCall (fun _ _ => 0) ⟨#[], #[.slice none 0 0, .int .u8 0], []⟩).memory :=
  laidMet_of_run' 8 (by kernel_rfl) (by kernel_rfl)
theorem reads (os : Os) {H : Type} (enc : TypeId × Value → H) : ∃ places, DataW.whole enc Tryd.prog ((laidWorld os).forCall (fun _ _ => 0) ⟨#[], #[.slice none 0 0, .int .u8 0], []⟩).memory Tryd.f4.params.toList Rows.classJoinsSpec.vars false #[Value.slice none 0 0, .int .u8 0].toList 8 = some ([.nil, .lit (.int .u8 0)], [], places) :=
  ⟨[], by kernel_rfl⟩

set_option maxRecDepth 100000 in
theorem lifted (os : Os) (started : os.Started) (H : Type) (enc : TypeId × Value → H) (F : Stop.Interp) :
    ReturnsInHanded {} Tryd.checked os 4 .any ((OpenSpec.ofChange Rows.classJoinsSpec).preRow enc Tryd.prog Tryd.f4 Rows.classJoinsRow.domain false Rows.classJoinsRow.laid) (((OpenSpec.ofChange Rows.classJoinsSpec).at F).post enc Tryd.prog Tryd.f4 false true false false) := by
  obtain ⟨places, hx⟩ := reads os enc
  refine returnsInHanded_of_row (C := Tryd.checked) (s := OpenSpec.ofChange Rows.classJoinsSpec) own started (by kernel_rfl) Tryd.func4
    (witness_row_at (enc := enc) (C := Tryd.checked) false (laidWorld os) #[.slice none 0 0, .int .u8 0] rfl (by kernel_rfl) (by kernel_rfl) (by kernel_rfl)
      (OpenSpec.preRow_of_cond 8 hx (by kernel_rfl) (fun k hk => by cases hk) (by kernel_rfl) (laid_met os))) ?_
  intro W base args ds gs before hval hW _ _ _ hL _ _
  exact contract H enc W base args ds gs before hval hW hL

theorem said : Rows.ClassJoinsSaid :=
  OpenClaim.holds_of_cond 4 Tryd.f4 rfl rfl rfl rfl rfl rfl rfl ⟨rfl, rfl, rfl, rfl, rfl⟩ rfl rfl rfl rfl rfl (by kernel_rfl) Tryd.func4 (by kernel_rfl)
    (of_decide_eq_true (by kernel_rfl)) (by unfold Func.isWrapper; first | (rw [if_pos (by decide +kernel)]; kernel_rfl) | (rw [if_neg (by decide +kernel)]; exact ⟨rfl, rfl⟩))
    (fun os started H enc _ F => by rw [OpenClaim.pre_eq_preRow]; exact lifted os started H enc F)

theorem plain (f : FuncId) (fn : Func) (hf : Tryd.pinned.checked.prog.funcNamed "winnower/winnowerlaw5.ClassJoins" = some f) (hfn : Tryd.pinned.checked.prog.funcs[f]? = some fn) :
    false = Tryd.pinned.checked.prog.looks [] ∧ ∀ (j : Nat) t, fn.params[j]? = some t → Tryd.pinned.checked.prog.wantsStandIn t = false := by
  obtain rfl : f = 4 := Option.some.inj ((show Tryd.prog.funcNamed "winnower/winnowerlaw5.ClassJoins" = some 4 by kernel_rfl).symm.trans hf) |>.symm
  obtain rfl : fn = Tryd.f4 := (Option.some.inj (Tryd.func4.symm.trans hfn)).symm
  refine ⟨by kernel_rfl, fun j t ht => ?_⟩
  have hall : Tryd.f4.params.all (fun t => !Tryd.prog.wantsStandIn t) = true := by kernel_rfl
  have h1 := Array.all_eq_true'.1 hall t (Array.mem_of_getElem? ht)
  have h2 : Tryd.prog.wantsStandIn t = false := by simpa using h1
  exact h2

/-- THE CARD -/
theorem classJoins_card : Rows.ClassJoinsCardSaid :=
  Claim7.holds_tied_plain_at .later [] _ _ _ _ said (fun _ h => by cases h) (by kernel_rfl) (fun _ h => by cases h) classJoins_row_tie rfl ⟨rfl, rfl⟩ (by kernel_rfl) rfl plain (by kernel_rfl)
end Go.Proofs.YtjlakbcbfbcmhaaDoor.ClassJoins
