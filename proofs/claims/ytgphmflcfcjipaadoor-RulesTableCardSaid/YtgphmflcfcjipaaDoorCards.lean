/-
  DERIVED. GIVEN WITH THE SEED: THE CARDS: each row of YtgphmflcfcjipaaDoorRows.lean that lists a variable, with what it lists TIED to the program's text (the seventh form; the later family's looks); each row that meets fmt, with fmt's text TOLD by the authors' own Lean function (tested against real Go, not proved from fmt's source: count such statements apart). THE CARD IS WHAT COUNTS. Prove the row's statement (the work); the ties are given (YtgphmflcfcjipaaDoorTie.lean); close each card by the builder's one call (the guide's Derived/Test/ToyasCard.lean, 'card_holds'). Laid BY PROGRAM, IN A SANDBOX (cutbox-door.mjs). By AI agents, Wed Nov 11 2026. No macro, syntax, notation, axiom, sorry.
-/
import Derived.Test.YtgphmflcfcjipaaDoorRows
import GoSem.ClaimSeven
namespace Go.Proofs.YtgphmflcfcjipaaDoor
namespace Rows

/-- THE TIED CARD OF 'winnowerlaw12.RulesTable'. -/
def rulesTableCard : Claim7 := { stood := { row := rulesTableRow, standIns := [], harness := (true, "5d80fe3e81bb1219c5c5048d09bba4eaf767af4c45676b21f5696a5562c37dcf"), looks := false }, kinds := [], alts := [], laidByText := true, laidKinds := [.data], laidTests := true, laidLooks := .later }
def RulesTableCardSaid : Prop := Claim7.holds Tryd.pinned (.plain (OpenSpec.ofChange rulesTableSpec)) rulesTableCard

/-- THE SECOND FORM's CARD OF 'winnowerlaw12.RulesTable'. -/
def rulesTableUptoCard : Claim7 := { stood := { row := rulesTableUptoRow, standIns := [], harness := (true, "5d80fe3e81bb1219c5c5048d09bba4eaf767af4c45676b21f5696a5562c37dcf"), looks := false }, kinds := [], alts := [], laidByText := true, laidKinds := [.data], laidTests := true, laidLooks := .later }
def RulesTableUptoCardSaid : Prop := Claim7.holds Tryd.pinned (.plain (OpenSpec.upto rulesTableSpec)) rulesTableUptoCard
end Rows
end Go.Proofs.YtgphmflcfcjipaaDoor
