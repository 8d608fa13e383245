/-
  DERIVED. GIVEN WITH THE SEED: THE CARDS: each row of YtlddmjhpemihgaaDoorRows.lean that lists a variable, with what it lists TIED to the program's text (the seventh form; the later family's looks); each row that meets fmt, with fmt's text TOLD by the authors' own Lean function (tested against real Go, not proved from fmt's source: count such statements apart). THE CARD IS WHAT COUNTS. Prove the row's statement (the work); the ties are given (YtlddmjhpemihgaaDoorTie.lean); close each card by the builder's one call (the guide's Derived/Test/ToyasCard.lean, 'card_holds'). Laid BY PROGRAM, IN A SANDBOX (cutbox-door.mjs). By AI agents, Wed Nov 11 2026. No macro, syntax, notation, axiom, sorry.
-/
import Derived.Test.YtlddmjhpemihgaaDoorRows
import GoSem.ClaimSeven
namespace Go.Proofs.YtlddmjhpemihgaaDoor
namespace Rows

/-- THE TIED CARD OF 'winnowerlaw7.LangMeans'. -/
def langMeansCard : Claim7 := { stood := { row := langMeansRow, standIns := [], harness := (true, "9aa9217a6cf9d7f0dcd7ef10675397c4679203f536a6e52470532baf57543d37"), looks := false }, kinds := [], alts := [], laidByText := true, laidKinds := [.data, .data, .data], laidTests := true, laidLooks := .later }
def LangMeansCardSaid : Prop := Claim7.holds Tryd.pinned (.plain (OpenSpec.ofChange langMeansSpec)) langMeansCard

/-- THE SECOND FORM's CARD OF 'winnowerlaw7.LangMeans'. -/
def langMeansUptoCard : Claim7 := { stood := { row := langMeansUptoRow, standIns := [], harness := (true, "9aa9217a6cf9d7f0dcd7ef10675397c4679203f536a6e52470532baf57543d37"), looks := false }, kinds := [], alts := [], laidByText := true, laidKinds := [.data, .data, .data], laidTests := true, laidLooks := .later }
def LangMeansUptoCardSaid : Prop := Claim7.holds Tryd.pinned (.plain (OpenSpec.upto langMeansSpec)) langMeansUptoCard
end Rows
end Go.Proofs.YtlddmjhpemihgaaDoor
