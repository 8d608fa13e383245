/-
  PROVED HERE: SuperOfNothing's tied card (the first form, every argument): a nil Super has nothing; none is on a disk that is too small, or of noughts.
  Conditions: none of our own; the card's row lists the table octet.crcSteps, which the card ties to the program's text.
-/
import Derived.Test.YtlpjeopeboemmaaDoorNone
import Derived.Test.YtlpjeopeboemmaaDoorArgs
namespace Go.Proofs.YtlpjeopeboemmaaDoor.SuperOfNothing
open Go Go.ChangeShapes Go.WideShapes Go.ChangeAt Go.RowKit

set_option maxHeartbeats 1000000 in
theorem walk_out (v : Int) (A : Option Addr) (m c : Nat) (bs : List UInt8) (W : World) (hm : m = bs.length) (hl : bs.length ≤ maxLen) (h : v < 1 ∨ (1 ≤ v ∧ 100 < v) ∨ (1 ≤ v ∧ v ≤ 100 ∧ 500 < bs.length)) :
    Calls Tryd.prog 8 #[.int .i64 v, .slice A m c] W fun e w' => e = .returned (.bool true) ∧ Below W.heap.size W w' := by
  subst hm
  unfold maxLen at hl
  rcases h with h | ⟨h, h1⟩ | ⟨h, h1, h2⟩
  · go_enter Tryd.func8, Tryd.ntmps8
    go_wp2
    go_ret
    exact ⟨rfl, Below.refl _ _⟩
  · go_enter Tryd.func8, Tryd.ntmps8
    go_wp2
    go_ret
    exact ⟨rfl, Below.refl _ _⟩
  · have h3 : (500 : Int) < (bs.length : Int) := by omega
    have d1 : decide (v < 1) = false := decide_eq_false (by omega)
    have d2 : decide (100 < v) = false := decide_eq_false (by omega)
    go_enter Tryd.func8, Tryd.ntmps8
    go_wp2
    go_ret
    exact ⟨rfl, Below.refl _ _⟩

set_option maxRecDepth 100000 in
set_option maxHeartbeats 2000000 in
theorem walk_in (n : Nat) (A : Option Addr) (m c : Nat) (bs : List UInt8) (W : World) (ht : Tab W) (hB : Bs W A m c bs) (h1 : 1 ≤ n) (h2 : n ≤ 100) (h3 : bs.length ≤ 500) :
    Calls Tryd.prog 8 #[.int .i64 (n : Int), .slice A m c] W fun e w' => e = .returned (.bool true) ∧ Below W.heap.size W w' := by
  have hm := hB.1
  subst hm
  have hnew := new_step n W W (Below.refl _ _) h1 (by omega)
  have Hnew := Lib.hid hnew
  have d1 : (1 : Int) ≤ (n : Int) := by omega
  have d2 : (n : Int) ≤ 100 := by omega
  have d3 : (bs.length : Int) ≤ 500 := by omega
  have hzl : (zeroS n).length = n := by simp [zeroS]
  have Hzl := Lib.hid hzl
  clear hnew hzl
  by_cases h32 : n < 32
  · have d4 : (n : Int) < 32 := by omega
    go_enter Tryd.func8, Tryd.ntmps8
    go_wp2_with fail
    refine Hnew.out.mono ?_
    rintro e w1 ⟨gd, rfl, hI1, hb1⟩
    have hop := open_small hI1 (by rw [Hzl.out]; exact h32)
    have Hop := Lib.hid hop
    clear hop
    go_wp2_with fail
    refine Hop.out.mono ?_
    rintro e w2 ⟨rfl, rfl⟩
    go_wp2_with fail
    refine (open_nil w1).mono ?_
    rintro e w2 ⟨rfl, rfl⟩
    go_wp2_with fail
    refine (format_nil w1 _).mono ?_
    rintro e w2 ⟨rfl, rfl⟩
    go_wp2_with fail
    refine (commit_nil w1 _).mono ?_
    rintro e w2 ⟨rfl, rfl⟩
    go_wp2_with fail
    refine (image_nil w1).mono ?_
    rintro e w2 ⟨rfl, rfl⟩
    go_wp2_with fail
    refine (number_nil w1).mono ?_
    rintro e w2 ⟨rfl, rfl⟩
    go_wp2_with fail
    refine (dead_nil w1).mono ?_
    rintro e w2 ⟨rfl, rfl⟩
    go_wp2_with fail
    refine (known_any w1 (ht.ext hb1)).mono ?_
    rintro e w2 ⟨rfl, hb2⟩
    go_wp2
    go_ret
    exact ⟨rfl, ext_trans hb1 hb2⟩
  · have d4 : (32 : Int) ≤ (n : Int) := by omega
    go_enter Tryd.func8, Tryd.ntmps8
    go_wp2_with fail
    refine Hnew.out.mono ?_
    rintro e w1 ⟨gd, rfl, hI1, hb1⟩
    have hop := step_open_none hI1 hb1 ht (small_mono (small_zero n) (by omega)) (by rw [Hzl.out]; omega) (tell_zero n (by omega))
    have Hop := Lib.hid hop
    clear hop
    go_wp2_with fail
    refine Hop.out.mono ?_
    rintro e w2 ⟨rfl, hb2⟩
    have hb := ext_trans hb1 hb2
    go_wp2_with fail
    refine (open_nil w2).mono ?_
    rintro e w3 ⟨rfl, rfl⟩
    go_wp2_with fail
    refine (format_nil w2 _).mono ?_
    rintro e w3 ⟨rfl, rfl⟩
    go_wp2_with fail
    refine (commit_nil w2 _).mono ?_
    rintro e w3 ⟨rfl, rfl⟩
    go_wp2_with fail
    refine (image_nil w2).mono ?_
    rintro e w3 ⟨rfl, rfl⟩
    go_wp2_with fail
    refine (number_nil w2).mono ?_
    rintro e w3 ⟨rfl, rfl⟩
    go_wp2_with fail
    refine (dead_nil w2).mono ?_
    rintro e w3 ⟨rfl, rfl⟩
    go_wp2_with fail
    refine (known_any w2 (ht.ext hb)).mono ?_
    rintro e w3 ⟨rfl, hb3⟩
    go_wp2
    go_ret
    exact ⟨rfl, ext_trans hb hb3⟩
theorem walk (v : Int) (A : Option Addr) (m c : Nat) (bs : List UInt8) (W : World) (ht : Tab W) (hm : m = bs.length) (hc : bs.length ≤ c) (hcm : c ≤ maxLen) (hr : Rd W A (bs.map bv)) :
    Calls Tryd.prog 8 #[.int .i64 v, .slice A m c] W fun e w' => e = .returned (.bool true) ∧ Below W.heap.size W w' := by
  by_cases h : v < 1 ∨ (1 ≤ v ∧ 100 < v) ∨ (1 ≤ v ∧ v ≤ 100 ∧ 500 < bs.length)
  · exact walk_out v A m c bs W hm (Nat.le_trans hc hcm) h
  · obtain ⟨n, rfl⟩ : ∃ n : Nat, v = (n : Int) := ⟨v.toNat, by omega⟩
    exact walk_in n A m c bs W ht ⟨hm, hc, hr⟩ (by omega) (by omega) (by omega)

set_option maxRecDepth 100000 in
theorem contract (H : Type) (enc : TypeId × Value → H) (W : World) (base : Nat) (args : Array Value) (ds gs : List (DataW H)) (before : List MemPlace)
    (hval : ∀ (j : Nat) t v, Tryd.f8.params[j]? = some t → args[j]? = some v → Value.okWide Tryd.prog W .any base t v)
    (hW : DataW.Whole enc Tryd.prog Tryd.f8.params.toList Rows.superOfNothingSpec.vars false W args.toList ds gs before) (hL : laidMetH Tryd.prog Rows.superOfNothingRow.laid W) :
    Calls Tryd.prog 8 args W fun e W' => ∃ v, e = .returned v ∧ Rows.superOfNothingSpec.post enc Tryd.prog Tryd.f8 false true false false W args v W' := by
  have ht : Tab W := tab_of_laid hL
  have hW' := hW
  obtain ⟨p, q, hA0, hV, rfl, hfz, hnd⟩ := hW
  have hA : DataW.TrodAll enc Tryd.prog W 0 (fun _ => true) true Tryd.f8.params.toList args.toList ds p := hA0
  rw [Tryd.params8] at hA hval
  obtain ⟨x0, x1, d0, d1, p0, p1, rfl, rfl, rfl, h0, h1⟩ := trodAll_two hA
  obtain ⟨v0, rfl, rfl, rfl, wv0⟩ := open_int Tryd.underlying3 (hval 0 _ x0 rfl rfl) h0
  have i0 := int_of_wf wv0
  obtain ⟨A1, n1, c1, xs1, rfl, hn1, hc1, hm1, hr1⟩ := arg_bytes (hval 1 _ x1 rfl rfl) h1
  have walk : Calls Tryd.prog 8 #[.int .i64 v0, .slice A1 n1 c1] W fun e w' => e = .returned (.bool true) ∧ Below W.heap.size W w' := walk v0 A1 n1 c1 xs1 W ht hn1 hc1 hm1 hr1
  refine walk.mono fun e W' ⟨he, hb⟩ => ?_
  subst he
  exact ⟨_, rfl, law_post rfl rfl (by kernel_rfl) ⟨rfl, rfl, rfl⟩ hW' hb⟩

theorem laid_met (os : Os) : laidMet Tryd.prog Rows.superOfNothingRow.laid ((laidWorld os).forCall (fun _ _ => 0) ⟨#[], #[.int .i64 0, .slice none 0 0], []⟩).memory :=
  laidMet_of_run' 8 (by kernel_rfl) (by kernel_rfl)
theorem reads (os : Os) {H : Type} (enc : TypeId × Value → H) : ∃ places, DataW.whole enc Tryd.prog ((laidWorld os).forCall (fun _ _ => 0) ⟨#[], #[.int .i64 0, .slice none 0 0], []⟩).memory Tryd.f8.params.toList Rows.superOfNothingSpec.vars false #[Value.int .i64 0, .slice none 0 0].toList 8 = some ([.lit (.int .i64 0), .nil], [], places) :=
  ⟨[], by kernel_rfl⟩

set_option maxRecDepth 100000 in
theorem lifted (os : Os) (started : os.Started) (H : Type) (enc : TypeId × Value → H) (F : Stop.Interp) :
    ReturnsInHanded {} Tryd.checked os 8 .any ((OpenSpec.ofChange Rows.superOfNothingSpec).preRow enc Tryd.prog Tryd.f8 Rows.superOfNothingRow.domain false Rows.superOfNothingRow.laid) (((OpenSpec.ofChange Rows.superOfNothingSpec).at F).post enc Tryd.prog Tryd.f8 false true false false) := by
  obtain ⟨places, hx⟩ := reads os enc
  refine returnsInHanded_of_row (C := Tryd.checked) (s := OpenSpec.ofChange Rows.superOfNothingSpec) own started (by kernel_rfl) Tryd.func8
    (witness_row_at (enc := enc) (C := Tryd.checked) false (laidWorld os) #[.int .i64 0, .slice none 0 0] rfl (by kernel_rfl) (by kernel_rfl) (by kernel_rfl)
      (OpenSpec.preRow_of_cond 8 hx (by kernel_rfl) (fun k hk => by cases hk) (by kernel_rfl) (laid_met os))) ?_
  intro W base args ds gs before hval hW _ _ _ hL _ _
  exact contract H enc W base args ds gs before hval hW hL

theorem said : Rows.SuperOfNothingSaid :=
  OpenClaim.holds_of_cond 8 Tryd.f8 rfl rfl rfl rfl rfl rfl rfl ⟨rfl, rfl, rfl, rfl, rfl⟩ rfl rfl rfl rfl rfl (by kernel_rfl) Tryd.func8 (by kernel_rfl)
    (of_decide_eq_true (by kernel_rfl)) (by unfold Func.isWrapper; first | (rw [if_pos (by decide +kernel)]; kernel_rfl) | (rw [if_neg (by decide +kernel)]; exact ⟨rfl, rfl⟩))
    (fun os started H enc _ F => by rw [OpenClaim.pre_eq_preRow]; exact lifted os started H enc F)

theorem plain (f : FuncId) (fn : Func) (hf : Tryd.pinned.checked.prog.funcNamed "winnower/winnowerlaw3.SuperOfNothing" = some f) (hfn : Tryd.pinned.checked.prog.funcs[f]? = some fn) :
    false = Tryd.pinned.checked.prog.looks [] ∧ ∀ (j : Nat) t, fn.params[j]? = some t → Tryd.pinned.checked.prog.wantsStandIn t = false := by
  obtain rfl : f = 8 := Option.some.inj ((show Tryd.prog.funcNamed "winnower/winnowerlaw3.SuperOfNothing" = some 8 by kernel_rfl).symm.trans hf) |>.symm
  obtain rfl : fn = Tryd.f8 := (Option.some.inj (Tryd.func8.symm.trans hfn)).symm
  refine ⟨by kernel_rfl, fun j t ht => ?_⟩
  have hall : Tryd.f8.params.all (fun t => !Tryd.prog.wantsStandIn t) = true := by kernel_rfl
  have h1 := Array.all_eq_true'.1 hall t (Array.mem_of_getElem? ht)
  have h2 : Tryd.prog.wantsStandIn t = false := by simpa using h1
  exact h2

/-- THE CARD -/
theorem superOfNothing_card : Rows.SuperOfNothingCardSaid :=
  Claim7.holds_tied_plain_at .later [] _ _ _ _ said (fun _ h => by cases h) (by kernel_rfl) (fun _ h => by cases h) superOfNothing_row_tie rfl ⟨rfl, rfl⟩ (by kernel_rfl) rfl plain (by kernel_rfl)
end Go.Proofs.YtlpjeopeboemmaaDoor.SuperOfNothing
