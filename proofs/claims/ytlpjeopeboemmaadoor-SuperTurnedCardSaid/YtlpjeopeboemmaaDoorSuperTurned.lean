/-
  PROVED HERE: SuperTurned's tied card (the first form, every argument): when any byte of the slot that counts is spoilt, the image of the one ahead is told, or there is none, if there was none ahead.
  Conditions: none of our own; the card's row lists the table octet.crcSteps, which the card ties to the program's text.
-/
import Derived.Test.YtlpjeopeboemmaaDoorTurn2
import Derived.Test.YtlpjeopeboemmaaDoorArgs
namespace Go.Proofs.YtlpjeopeboemmaaDoor.SuperTurned
open Go Go.ChangeShapes Go.WideShapes Go.ChangeAt Go.RowKit

theorem trodAll_five {H : Type} {enc : TypeId × Value → H} {P : Program} {w : World} {base : Nat} {spare : Nat → Bool} {held : Bool} {t0 t1 t2 t3 t4 : TypeId} {args : Array Value} {ds : List (DataW H)} {ps : List MemPlace} (h : DataW.TrodAll enc P w base spare held [t0, t1, t2, t3, t4] args.toList ds ps) :
    ∃ v0 v1 v2 v3 v4 d0 d1 d2 d3 d4 p0 p1 p2 p3 p4, args = #[v0, v1, v2, v3, v4] ∧ ds = [d0, d1, d2, d3, d4] ∧ ps = p0 ++ p1 ++ p2 ++ p3 ++ p4 ∧ DataW.Trod enc P w base spare held t0 v0 d0 p0 ∧ DataW.Trod enc P w base spare held t1 v1 d1 p1 ∧ DataW.Trod enc P w base spare held t2 v2 d2 p2 ∧ DataW.Trod enc P w base spare held t3 v3 d3 p3 ∧ DataW.Trod enc P w base spare held t4 v4 d4 p4 := by
  obtain ⟨v0, vs0, d0, ds0, p0, q0, hargs, rfl, rfl, h0, r0⟩ := trodAll_cons h
  obtain ⟨v1, vs1, d1, ds1, p1, q1, rfl, rfl, rfl, h1, r1⟩ := trodAll_cons r0
  obtain ⟨v2, vs2, d2, ds2, p2, q2, rfl, rfl, rfl, h2, r2⟩ := trodAll_cons r1
  obtain ⟨v3, vs3, d3, ds3, p3, q3, rfl, rfl, rfl, h3, r3⟩ := trodAll_cons r2
  obtain ⟨v4, vs4, d4, ds4, p4, q4, rfl, rfl, rfl, h4, r4⟩ := trodAll_cons r3
  obtain ⟨rfl, rfl, rfl⟩ := trodAll_nil r4
  exact ⟨v0, v1, v2, v3, v4, d0, d1, d2, d3, d4, p0, p1, p2, p3, p4, by cases args; simp_all, rfl, by simp, h0, h1, h2, h3, h4⟩

theorem walk (A B : Option Addr) (n m c d : Nat) (xa xb : List UInt8) (at_ by_ : Int) (once : Bool) (W : World) (ht : Tab W) (hn : n = xa.length) (hc : xa.length ≤ c) (hcm : c ≤ maxLen) (hr : Rd W A (xa.map bv)) (hm : m = xb.length) (hd : xb.length ≤ d) (hdm : d ≤ maxLen) (hr2 : Rd W B (xb.map bv)) (hby : 0 ≤ by_ ∧ by_ ≤ 255) :
    Calls Tryd.prog 9 #[.slice A n c, .slice B m d, .int .i64 at_, .int .u8 by_, .bool once] W fun e w' => e = .returned (.bool true) ∧ Below W.heap.size W w' := by
  by_cases h : 814 < xa.length ∨ (xa.length ≤ 814 ∧ 814 < xb.length) ∨ (xa.length ≤ 814 ∧ xb.length ≤ 814 ∧ by_ = 0)
  · exact walk_out A B n m c d xa xb at_ by_ once W hn hm (Nat.le_trans hc hcm) (Nat.le_trans hd hdm) h
  · have la : xa.length ≤ 814 := by omega
    have lb : xb.length ≤ 814 := by omega
    have h0 : by_ ≠ 0 := by omega
    cases once
    · exact walk_twice A B n m c d xa xb at_ by_ W ht ⟨hn, hc, hr⟩ ⟨hm, hd, hr2⟩ la lb h0 hby.1 hby.2
    · exact walk_once A B n m c d xa xb at_ by_ W ht ⟨hn, hc, hr⟩ ⟨hm, hd, hr2⟩ la lb h0 hby.1 hby.2

set_option maxRecDepth 100000 in
theorem contract (H : Type) (enc : TypeId × Value → H) (W : World) (base : Nat) (args : Array Value) (ds gs : List (DataW H)) (before : List MemPlace)
    (hval : ∀ (j : Nat) t v, Tryd.f9.params[j]? = some t → args[j]? = some v → Value.okWide Tryd.prog W .any base t v)
    (hW : DataW.Whole enc Tryd.prog Tryd.f9.params.toList Rows.superTurnedSpec.vars false W args.toList ds gs before) (hL : laidMetH Tryd.prog Rows.superTurnedRow.laid W) :
    Calls Tryd.prog 9 args W fun e W' => ∃ v, e = .returned v ∧ Rows.superTurnedSpec.post enc Tryd.prog Tryd.f9 false true false false W args v W' := by
  have ht : Tab W := tab_of_laid hL
  have hW' := hW
  obtain ⟨p, q, hA0, hV, rfl, hfz, hnd⟩ := hW
  have hA : DataW.TrodAll enc Tryd.prog W 0 (fun _ => true) true Tryd.f9.params.toList args.toList ds p := hA0
  rw [Tryd.params9] at hA hval
  obtain ⟨x0, x1, x2, x3, x4, d0, d1, d2, d3, d4, p0, p1, p2, p3, p4, rfl, rfl, rfl, h0, h1, h2, h3, h4⟩ := trodAll_five hA
  obtain ⟨A0, n0, c0, xs0, rfl, hn0, hc0, hm0, hr0⟩ := arg_bytes (hval 0 _ x0 rfl rfl) h0
  obtain ⟨A1, n1, c1, xs1, rfl, hn1, hc1, hm1, hr1⟩ := arg_bytes (hval 1 _ x1 rfl rfl) h1
  obtain ⟨v2, rfl, rfl, rfl, wv2⟩ := open_int Tryd.underlying3 (hval 2 _ x2 rfl rfl) h2
  have i2 := int_of_wf wv2
  obtain ⟨v3, rfl, rfl, rfl, wv3⟩ := open_int Tryd.underlying5 (hval 3 _ x3 rfl rfl) h3
  have i3 := u8_of_wf wv3
  obtain ⟨v4, rfl, -, -⟩ := open_bool Tryd.underlying4 (hval 4 _ x4 rfl rfl) h4
  have walk : Calls Tryd.prog 9 #[.slice A0 n0 c0, .slice A1 n1 c1, .int .i64 v2, .int .u8 v3, .bool v4] W fun e w' => e = .returned (.bool true) ∧ Below W.heap.size W w' := walk A0 A1 n0 n1 c0 c1 xs0 xs1 v2 v3 v4 W ht hn0 hc0 hm0 hr0 hn1 hc1 hm1 hr1 i3
  refine walk.mono fun e W' ⟨he, hb⟩ => ?_
  subst he
  exact ⟨_, rfl, law_post rfl rfl (by kernel_rfl) ⟨rfl, rfl, rfl⟩ hW' hb⟩

theorem laid_met (os : Os) : laidMet Tryd.prog Rows.superTurnedRow.laid ((laidWorld os).forCall (fun _ _ => 0) ⟨#[], #[.slice none 0 0, .slice none 0 0, .int .i64 0, .int .u8 0, .bool false], []⟩).memory :=
  laidMet_of_run' 8 (by kernel_rfl) (by kernel_rfl)
theorem reads (os : Os) {H : Type} (enc : TypeId × Value → H) : ∃ places, DataW.whole enc Tryd.prog ((laidWorld os).forCall (fun _ _ => 0) ⟨#[], #[.slice none 0 0, .slice none 0 0, .int .i64 0, .int .u8 0, .bool false], []⟩).memory Tryd.f9.params.toList Rows.superTurnedSpec.vars false #[Value.slice none 0 0, .slice none 0 0, .int .i64 0, .int .u8 0, .bool false].toList 8 = some ([.nil, .nil, .lit (.int .i64 0), .lit (.int .u8 0), .lit (.bool false)], [], places) :=
  ⟨[], by kernel_rfl⟩

set_option maxRecDepth 100000 in
theorem lifted (os : Os) (started : os.Started) (H : Type) (enc : TypeId × Value → H) (F : Stop.Interp) :
    ReturnsInHanded {} Tryd.checked os 9 .any ((OpenSpec.ofChange Rows.superTurnedSpec).preRow enc Tryd.prog Tryd.f9 Rows.superTurnedRow.domain false Rows.superTurnedRow.laid) (((OpenSpec.ofChange Rows.superTurnedSpec).at F).post enc Tryd.prog Tryd.f9 false true false false) := by
  obtain ⟨places, hx⟩ := reads os enc
  refine returnsInHanded_of_row (C := Tryd.checked) (s := OpenSpec.ofChange Rows.superTurnedSpec) own started (by kernel_rfl) Tryd.func9
    (witness_row_at (enc := enc) (C := Tryd.checked) false (laidWorld os) #[.slice none 0 0, .slice none 0 0, .int .i64 0, .int .u8 0, .bool false] rfl (by kernel_rfl) (by kernel_rfl) (by kernel_rfl)
      (OpenSpec.preRow_of_cond 8 hx (by kernel_rfl) (fun k hk => by cases hk) (by kernel_rfl) (laid_met os))) ?_
  intro W base args ds gs before hval hW _ _ _ hL _ _
  exact contract H enc W base args ds gs before hval hW hL

theorem said : Rows.SuperTurnedSaid :=
  OpenClaim.holds_of_cond 9 Tryd.f9 rfl rfl rfl rfl rfl rfl rfl ⟨rfl, rfl, rfl, rfl, rfl⟩ rfl rfl rfl rfl rfl (by kernel_rfl) Tryd.func9 (by kernel_rfl)
    (of_decide_eq_true (by kernel_rfl)) (by unfold Func.isWrapper; first | (rw [if_pos (by decide +kernel)]; kernel_rfl) | (rw [if_neg (by decide +kernel)]; exact ⟨rfl, rfl⟩))
    (fun os started H enc _ F => by rw [OpenClaim.pre_eq_preRow]; exact lifted os started H enc F)

theorem plain (f : FuncId) (fn : Func) (hf : Tryd.pinned.checked.prog.funcNamed "winnower/winnowerlaw3.SuperTurned" = some f) (hfn : Tryd.pinned.checked.prog.funcs[f]? = some fn) :
    false = Tryd.pinned.checked.prog.looks [] ∧ ∀ (j : Nat) t, fn.params[j]? = some t → Tryd.pinned.checked.prog.wantsStandIn t = false := by
  obtain rfl : f = 9 := Option.some.inj ((show Tryd.prog.funcNamed "winnower/winnowerlaw3.SuperTurned" = some 9 by kernel_rfl).symm.trans hf) |>.symm
  obtain rfl : fn = Tryd.f9 := (Option.some.inj (Tryd.func9.symm.trans hfn)).symm
  refine ⟨by kernel_rfl, fun j t ht => ?_⟩
  have hall : Tryd.f9.params.all (fun t => !Tryd.prog.wantsStandIn t) = true := by kernel_rfl
  have h1 := Array.all_eq_true'.1 hall t (Array.mem_of_getElem? ht)
  have h2 : Tryd.prog.wantsStandIn t = false := by simpa using h1
  exact h2

/-- THE CARD -/
theorem superTurned_card : Rows.SuperTurnedCardSaid :=
  Claim7.holds_tied_plain_at .later [] _ _ _ _ said (fun _ h => by cases h) (by kernel_rfl) (fun _ h => by cases h) superTurned_row_tie rfl ⟨rfl, rfl⟩ (by kernel_rfl) rfl plain (by kernel_rfl)
end Go.Proofs.YtlpjeopeboemmaaDoor.SuperTurned
