/-
  DERIVED. GIVEN WITH THE SEED: THE CARDS: each row of YtjlakbcbfbcmhaaDoorRows.lean that lists a variable, with what it lists TIED to the program's text (the seventh form; the later family's looks); each row that meets fmt, with fmt's text TOLD by the authors' own Lean function (tested against real Go, not proved from fmt's source: count such statements apart). THE CARD IS WHAT COUNTS. Prove the row's statement (the work); the ties are given (YtjlakbcbfbcmhaaDoorTie.lean); close each card by the builder's one call (the guide's Derived/Test/ToyasCard.lean, 'card_holds'). Laid BY PROGRAM, IN A SANDBOX (cutbox-door.mjs). By AI agents, Wed Nov 11 2026. No macro, syntax, notation, axiom, sorry.
-/
import Derived.Test.YtjlakbcbfbcmhaaDoorRows
import GoSem.ClaimSeven
namespace Go.Proofs.YtjlakbcbfbcmhaaDoor
namespace Rows

/-- THE TIED CARD OF 'winnowerlaw5.ClassTells'. -/
def classTellsCard : Claim7 := { stood := { row := classTellsRow, standIns := [], harness := (true, "e3f44a3ac3a658876ec80c9036b2358a0e718cc6eb73aa1aba98dce9536ab8c4"), looks := false }, kinds := [], alts := [], laidByText := true, laidKinds := [.data], laidTests := true, laidLooks := .later }
def ClassTellsCardSaid : Prop := Claim7.holds Tryd.pinned (.plain (OpenSpec.ofChange classTellsSpec)) classTellsCard

/-- THE TIED CARD OF 'winnowerlaw5.ClassJoins'. -/
def classJoinsCard : Claim7 := { stood := { row := classJoinsRow, standIns := [], harness := (true, "e3f44a3ac3a658876ec80c9036b2358a0e718cc6eb73aa1aba98dce9536ab8c4"), looks := false }, kinds := [], alts := [], laidByText := true, laidKinds := [.data], laidTests := true, laidLooks := .later }
def ClassJoinsCardSaid : Prop := Claim7.holds Tryd.pinned (.plain (OpenSpec.ofChange classJoinsSpec)) classJoinsCard

/-- THE TIED CARD OF 'winnowerlaw5.ClassTurned'. -/
def classTurnedCard : Claim7 := { stood := { row := classTurnedRow, standIns := [], harness := (true, "e3f44a3ac3a658876ec80c9036b2358a0e718cc6eb73aa1aba98dce9536ab8c4"), looks := false }, kinds := [], alts := [], laidByText := true, laidKinds := [.data], laidTests := true, laidLooks := .later }
def ClassTurnedCardSaid : Prop := Claim7.holds Tryd.pinned (.plain (OpenSpec.ofChange classTurnedSpec)) classTurnedCard

/-- THE SECOND FORM's CARD OF 'winnowerlaw5.ClassTells'. -/
def classTellsUptoCard : Claim7 := { stood := { row := classTellsUptoRow, standIns := [], harness := (true, "e3f44a3ac3a658876ec80c9036b2358a0e718cc6eb73aa1aba98dce9536ab8c4"), looks := false }, kinds := [], alts := [], laidByText := true, laidKinds := [.data], laidTests := true, laidLooks := .later }
def ClassTellsUptoCardSaid : Prop := Claim7.holds Tryd.pinned (.plain (OpenSpec.upto classTellsSpec)) classTellsUptoCard

/-- THE SECOND FORM's CARD OF 'winnowerlaw5.ClassJoins'. -/
def classJoinsUptoCard : Claim7 := { stood := { row := classJoinsUptoRow, standIns := [], harness := (true, "e3f44a3ac3a658876ec80c9036b2358a0e718cc6eb73aa1aba98dce9536ab8c4"), looks := false }, kinds := [], alts := [], laidByText := true, laidKinds := [.data], laidTests := true, laidLooks := .later }
def ClassJoinsUptoCardSaid : Prop := Claim7.holds Tryd.pinned (.plain (OpenSpec.upto classJoinsSpec)) classJoinsUptoCard

/-- THE SECOND FORM's CARD OF 'winnowerlaw5.ClassTurned'. -/
def classTurnedUptoCard : Claim7 := { stood := { row := classTurnedUptoRow, standIns := [], harness := (true, "e3f44a3ac3a658876ec80c9036b2358a0e718cc6eb73aa1aba98dce9536ab8c4"), looks := false }, kinds := [], alts := [], laidByText := true, laidKinds := [.data], laidTests := true, laidLooks := .later }
def ClassTurnedUptoCardSaid : Prop := Claim7.holds Tryd.pinned (.plain (OpenSpec.upto classTurnedSpec)) classTurnedUptoCard
end Rows
end Go.Proofs.YtjlakbcbfbcmhaaDoor
