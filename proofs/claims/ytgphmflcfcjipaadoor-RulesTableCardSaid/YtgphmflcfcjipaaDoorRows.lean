/-
  NARROWER THAN 'FOR EVERY INPUT', by the rows' own cells (each row's printed sentence says how): RulesTable: laid.
  DERIVED. THE GIVEN ROWS OF THIS SEAT. 1 by the template 'for every input the law returns true; each argument reads behind the call as it read before'; 0 by the template 'total and deterministic' (their statements: YtgphmflcfcjipaaDoorTotals.lean).
  GIVEN WITH THE SEED: the statements are not yours to turn. If you find one false, say at which input.
  Laid BY PROGRAM, IN A SANDBOX (cutbox-rows.mjs): the forced cells as the released guide's own fill.sh prints them over the translation 4f896bdb2a9bf18e… (all of the seat's roots in one cut). By AI agents, Wed Nov 11 2026. No macro, syntax, notation, axiom, sorry.
-/
import Derived.Test.YtgphmflcfcjipaaDoorChecked
import GoSem.Claim
import GoSem.ClaimJoined
import GoSem.ClaimMapViews
import Derived.JoinedTies
import Derived.KernelRfl
namespace Go.Proofs.YtgphmflcfcjipaaDoor
/- THE CELL 'sum', in the pinned program and in every row, IS THE sha256 OF THE DUMP (.gsa) THAT YtgphmflcfcjipaaDoorProg.lean LOADS. Nothing in Lean hashes anything: it is a label: what it is worth is what the hold of that sum in a sandbox is worth. -/
noncomputable def Tryd.pinned : Pinned := { name := "ytgphmflcfcjipaadoor", sum := "4f896bdb2a9bf18ef03ad2e232dfc437d8af2ca2ef99c970c8704e4c6bc5d5a9", checked := Tryd.checked }
namespace Rows
def none {H : Type} : Left H := { results := [], args := [] }

/- WHAT THE LISTED PACKAGE-LEVEL VARIABLES READ AS WHEN THE CALL BEGINS. Each datum BY PROGRAM (the guide's laid-datum.mjs) off the statement by which the dump's own 'gosem.cut.vars' lays the variable. In a bare row this is a premise. The card (YtgphmflcfcjipaaDoorCards.lean) ties it to the program's text. -/
def laid_winnower_rules_all {H : Type} : DataW H := .agg [.agg [.lit (.string [115, 116, 97, 109, 112]), .lit (.string [91, 48, 45, 57, 93, 123, 52, 125, 92, 120, 50, 100, 91, 48, 45, 57, 93, 123, 50, 125, 92, 120, 50, 100, 91, 48, 45, 57, 93, 123, 50, 125, 84, 91, 48, 45, 57, 93, 123, 50, 125, 58, 91, 48, 45, 57, 93, 123, 50, 125, 58, 91, 48, 45, 57, 93, 123, 50, 125])], .agg [.lit (.string [105, 112]), .lit (.string [91, 48, 45, 57, 93, 123, 49, 44, 51, 125, 40, 92, 46, 91, 48, 45, 57, 93, 123, 49, 44, 51, 125, 41, 123, 51, 125])], .agg [.lit (.string [109, 97, 99]), .lit (.string [91, 48, 45, 57, 97, 45, 102, 93, 123, 50, 125, 40, 58, 91, 48, 45, 57, 97, 45, 102, 93, 123, 50, 125, 41, 123, 53, 125])], .agg [.lit (.string [104, 101, 120]), .lit (.string [48, 120, 91, 48, 45, 57, 97, 45, 102, 65, 45, 70, 93, 43])], .agg [.lit (.string [110, 117, 109, 98, 101, 114]), .lit (.string [92, 45, 63, 91, 48, 45, 57, 93, 43, 40, 92, 46, 91, 48, 45, 57, 93, 43, 41, 63])], .agg [.lit (.string [113, 117, 111, 116, 101, 100]), .lit (.string [34, 40, 91, 94, 34, 92, 92, 93, 124, 92, 92, 46, 41, 42, 34])], .agg [.lit (.string [119, 111, 114, 100]), .lit (.string [91, 65, 45, 90, 97, 45, 122, 95, 93, 91, 65, 45, 90, 97, 45, 122, 48, 45, 57, 95, 93, 42])], .agg [.lit (.string [98, 108, 97, 110, 107]), .lit (.string [91, 32, 92, 116, 93, 43])], .agg [.lit (.string [111, 116, 104, 101, 114]), .lit (.string [46])]]

/-- 'winnowerlaw12.RulesTable': WHATEVER THE INPUT: true; the input reads as it did. -/
def rulesTableSpec : ChangeSpec := { name := "rulesTable", fn := fun _ => fun
  | [d1, d2] => { results := [.lit (.bool true)], args := [d1, d2] }
  | _ => none }
def rulesTableRow : OpenClaim := { program := "ytgphmflcfcjipaadoor", sum := "4f896bdb2a9bf18ef03ad2e232dfc437d8af2ca2ef99c970c8704e4c6bc5d5a9", func := "winnower/winnowerlaw12.RulesTable", spec := "rulesTable", named := ["winnower/rules.all"], apart := false, laid := [("winnower/rules.all", laid_winnower_rules_all)] }
def RulesTableSaid : Prop := rulesTableRow.holds Tryd.pinned (OpenSpec.ofChange rulesTableSpec)

/-- ITS FALSE NEIGHBOUR: 'it returns false'. Refute it at one input. -/
def rulesTableWrong : ChangeSpec := { name := "rulesTable", fn := fun _ => fun
  | [d1, d2] => { results := [.lit (.bool false)], args := [d1, d2] }
  | _ => none }
def RulesTableWrongFalsely : Prop := rulesTableRow.holds Tryd.pinned (OpenSpec.ofChange rulesTableWrong)

/- THE SECOND FORM. 'bulk': how many values and letters a reading holds, each counted each time it is reached (what is shared counts as often as it is met; a slice's spare places count too). A statement '..UptoSaid' is the law's where the arguments, and the package variables that the reading takes, are together of bulk at most 1048576: NARROWER than '..Said'. Prove '..Said' where nothing that the law and all that it calls make is longer than what came in: it says more and counts as full. Else prove '..UptoSaid'. A law counts once. -/
mutual
def uptoBulk {H : Type} : DataW H → Nat
  | .lit (.string bytes) => bytes.length + 1
  | .lit _ => 1
  | .nil => 1
  | .ptr d => uptoBulk d + 1
  | .slice elems spare => uptoBulkAll elems + uptoBulkAll spare + 1
  | .agg parts => uptoBulkAll parts + 1
  | .iface _ d => uptoBulk d + 1
  | .map entries => uptoBulkEntries entries + 1
  | .held _ => 1
def uptoBulkAll {H : Type} : List (DataW H) → Nat
  | [] => 0
  | d :: r => uptoBulk d + uptoBulkAll r
def uptoBulkEntries {H : Type} : List (Lit × DataW H) → Nat
  | [] => 0
  | x :: r => uptoBulkEntry x + uptoBulkEntries r
def uptoBulkEntry {H : Type} : Lit × DataW H → Nat
  | (.string bytes, d) => bytes.length + uptoBulk d + 1
  | (_, d) => uptoBulk d + 1
 end
def uptoSmall : (H : Type) → List (DataW H) → Bool := fun _ ds => decide (uptoBulkAll ds ≤ 1048576)
def OpenSpec.upto (s : _root_.Go.ChangeSpec) : _root_.Go.OpenSpec := { _root_.Go.OpenSpec.ofChange s with cond := some uptoSmall }

/-- 'winnowerlaw12.RulesTable', WHERE WHAT IT READS IS OF BULK AT MOST 1048576: true; the input reads as it did. -/
def rulesTableUptoRow : OpenClaim := { program := "ytgphmflcfcjipaadoor", sum := "4f896bdb2a9bf18ef03ad2e232dfc437d8af2ca2ef99c970c8704e4c6bc5d5a9", func := "winnower/winnowerlaw12.RulesTable", spec := "rulesTable", named := ["winnower/rules.all"], apart := false, laid := [("winnower/rules.all", laid_winnower_rules_all)], narrowed := true }
def RulesTableUptoSaid : Prop := rulesTableUptoRow.holds Tryd.pinned (OpenSpec.upto rulesTableSpec)

end Rows
end Go.Proofs.YtgphmflcfcjipaaDoor
