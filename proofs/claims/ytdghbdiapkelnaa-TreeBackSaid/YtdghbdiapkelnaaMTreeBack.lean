/-
  Statement TreeBack (sized form): a tree's bytes give the tree back, and a tree and its copy assign alike.
-/
import Derived.Test.YtdghbdiapkelnaaAll16
import Derived.SizedLaws
set_option linter.unusedVariables false
set_option linter.unusedSimpArgs false
namespace Go.Proofs.Ytdghbdiapkelnaa
open Go Go.ChangeShapes Go.WideShapes Go.ChangeAt Go.RowKit
namespace TreeBack
set_option maxRecDepth 100000
theorem back (A : Option Addr) (n c : Nat) (l : List (List Tok)) (B : Option Addr) (n2 c2 : Nat) (m : List (List Tok)) (w : World) (hn : n = l.length) (hc : l.length ≤ c) (hm : c ≤ maxLen) (h : RowR IsTks 1 w A l) (hz : ∀ r ∈ l, ∀ t ∈ r, t.text.length ≤ 140737488355328)
    (hn2 : n2 = m.length) (hc2 : m.length ≤ c2) (hm2 : c2 ≤ maxLen) (h2 : RowR IsTks 1 w B m) (hz2 : ∀ r ∈ m, ∀ t ∈ r, t.text.length ≤ 140737488355328) :
    Calls Try.prog 6 #[.slice A n c, .slice B n2 c2] w fun e w' => e = .returned (.bool true) ∧ Below w.heap.size w w' := by
  subst hn hn2
  exact back_walk A c l B c2 m w h (Nat.le_trans hc hm) hz h2 (Nat.le_trans hc2 hm2) hz2

set_option maxRecDepth 100000 in
theorem contract (H : Type) (enc : TypeId × Value → H) (W : World) (base : Nat) (args : Array Value) (ds gs : List (DataW H)) (before : List MemPlace)
    (hval : ∀ (j : Nat) t v, Try.f6.params[j]? = some t → args[j]? = some v → Value.okWide Try.prog W .any base t v)
    (hW : DataW.Whole enc Try.prog Try.f6.params.toList Rows.treeBackSpec.vars false W args.toList ds gs before) (hz : (DataW.weightsEach Try.prog (Try.f6.params.toList ++ (OpenSpec.ofChange Rows.treeBackSpec).bare.plain.varTypes Try.prog) (ds ++ gs)).all (· ≤ reachBytes) = true) :
    Calls Try.prog 6 args W fun e W' => ∃ v, e = .returned v ∧ Rows.treeBackSpec.post enc Try.prog Try.f6 false true false false W args v W' := by
  have hW' := hW
  obtain ⟨p, q, hA0, hV, rfl, hfz, hnd⟩ := hW
  have hA : DataW.TrodAll enc Try.prog W 0 (fun _ => true) true Try.f6.params.toList args.toList ds p := hA0
  rw [Try.params6] at hA hval
  obtain ⟨x0, x1, d0, d1, p0, p1, rfl, rfl, rfl, h0, h1⟩ := trodAll_two hA
  obtain ⟨A0, n0, c0, xs0, rfl, hn0, hc0, hm0, hr0, hu0⟩ := arg_tokss (hval 0 _ x0 rfl rfl) h0
  have z0 := Told.sized (j := 0) hz hu0 (by rw [Try.params6]; rfl) rfl
  obtain ⟨A1, n1, c1, xs1, rfl, hn1, hc1, hm1, hr1, hu1⟩ := arg_tokss (hval 1 _ x1 rfl rfl) h1
  have z1 := Told.sized (j := 1) hz hu1 (by rw [Try.params6]; rfl) rfl
  have walk : Calls Try.prog 6 #[.slice A0 n0 c0, .slice A1 n1 c1] W fun e w' => e = .returned (.bool true) ∧ Below W.heap.size W w' := back A0 n0 c0 xs0 A1 n1 c1 xs1 W hn0 hc0 hm0 hr0 (lens_tokss hc0 z0) hn1 hc1 hm1 hr1 (lens_tokss hc1 z1)
  refine walk.mono fun e W' ⟨he, hb⟩ => ?_
  subst he
  exact ⟨_, rfl, law_post rfl rfl (by kernel_rfl) ⟨rfl, rfl, rfl⟩ hW' hb⟩

theorem laid_met (os : Os) : laidMet Try.prog Rows.treeBackRow.laid ((plainWorld os).forCall (fun _ _ => 0) ⟨#[], #[.slice none 0 0, .slice none 0 0], []⟩).memory :=
  laidMet_of_run' 8 (by kernel_rfl) (by kernel_rfl)
theorem reads (os : Os) {H : Type} (enc : TypeId × Value → H) : ∃ places, DataW.whole enc Try.prog ((plainWorld os).forCall (fun _ _ => 0) ⟨#[], #[.slice none 0 0, .slice none 0 0], []⟩).memory Try.f6.params.toList Rows.treeBackSpec.vars false #[Value.slice none 0 0, .slice none 0 0].toList 8 = some ([.nil, .nil], [], places) :=
  ⟨[], by kernel_rfl⟩

set_option maxRecDepth 100000 in
theorem lifted (os : Os) (started : os.Started) (H : Type) (enc : TypeId × Value → H) (F : Stop.Interp) :
    ReturnsInHanded {} Try.checked os 6 .any ((OpenSpec.ofChange Rows.treeBackSpec).preRow enc Try.prog Try.f6 Rows.treeBackRow.domain false Rows.treeBackRow.laid) (((OpenSpec.ofChange Rows.treeBackSpec).at F).post enc Try.prog Try.f6 false true false false) := by
  obtain ⟨places, hx⟩ := reads os enc
  refine returnsInHanded_of_row (C := Try.checked) (s := OpenSpec.ofChange Rows.treeBackSpec) own started (by kernel_rfl) Try.func6
    (witness_row_at (enc := enc) (C := Try.checked) false (plainWorld os) #[.slice none 0 0, .slice none 0 0] rfl (by kernel_rfl) (by kernel_rfl) (by kernel_rfl)
      (OpenSpec.preRow_of_cond 8 hx (by kernel_rfl) (fun k hk => by cases hk) (by kernel_rfl) (laid_met os))) ?_
  intro W base args ds gs before hval hW _ _ hz _ _ _
  exact contract H enc W base args ds gs before hval hW hz

theorem said : Rows.TreeBackSaid :=
  OpenClaim.holds_of_cond 6 Try.f6 rfl rfl rfl rfl rfl rfl rfl ⟨rfl, rfl, rfl, rfl, rfl⟩ rfl rfl rfl rfl rfl (by kernel_rfl) Try.func6 (by kernel_rfl)
    (of_decide_eq_true (by kernel_rfl)) (by unfold Func.isWrapper; first | (rw [if_pos (by decide +kernel)]; kernel_rfl) | (rw [if_neg (by decide +kernel)]; exact ⟨rfl, rfl⟩))
    (fun os started H enc _ F => by rw [OpenClaim.pre_eq_preRow]; exact lifted os started H enc F)

end Go.Proofs.Ytdghbdiapkelnaa.TreeBack
