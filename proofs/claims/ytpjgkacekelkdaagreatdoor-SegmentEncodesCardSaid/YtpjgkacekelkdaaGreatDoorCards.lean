/-
  DERIVED. GIVEN WITH THE SEED: THE CARDS: each row of YtpjgkacekelkdaaGreatDoorRows.lean that lists a variable, with what it lists TIED to the program's text (the seventh form; the later family's looks); each row that meets fmt, with fmt's text TOLD by the authors' own Lean function (tested against real Go, not proved from fmt's source: count such statements apart). THE CARD IS WHAT COUNTS. Prove the row's statement (the work); the ties are given (YtpjgkacekelkdaaGreatDoorTie.lean); close each card by the builder's one call (the guide's Derived/Test/ToyasCard.lean, 'card_holds'). Laid BY PROGRAM, IN A SANDBOX (cutbox-door.mjs). By AI agents, Wed Nov 11 2026. No macro, syntax, notation, axiom, sorry.
-/
import Derived.Test.YtpjgkacekelkdaaGreatDoorRows
import GoSem.ClaimSeven
namespace Go.Proofs.YtpjgkacekelkdaaGreatDoor
namespace Rows

/-- THE TIED CARD OF 'winnowerlaw18.SegmentEncodes'. -/
def segmentEncodesCard : Claim7 := { stood := { row := segmentEncodesRow, standIns := [], harness := (true, "c24aac070c8532b4f7256b0f724790ec3ecdd42529a95f4e868f8bfb99c82635"), looks := false }, kinds := [], alts := [], laidByText := true, laidKinds := [.data], laidTests := true, laidLooks := .later }
def SegmentEncodesCardSaid : Prop := Claim7.holds Tryz.pinned (.plain (OpenSpec.ofChange segmentEncodesSpec)) segmentEncodesCard

/-- THE TIED CARD OF 'winnowerlaw18.SegmentDecodes'. -/
def segmentDecodesCard : Claim7 := { stood := { row := segmentDecodesRow, standIns := [], harness := (true, "c24aac070c8532b4f7256b0f724790ec3ecdd42529a95f4e868f8bfb99c82635"), looks := false }, kinds := [], alts := [], laidByText := true, laidKinds := [.data], laidTests := true, laidLooks := .later }
def SegmentDecodesCardSaid : Prop := Claim7.holds Tryz.pinned (.plain (OpenSpec.ofChange segmentDecodesSpec)) segmentDecodesCard

/-- THE SECOND FORM's CARD OF 'winnowerlaw18.SegmentEncodes'. -/
def segmentEncodesUptoCard : Claim7 := { stood := { row := segmentEncodesUptoRow, standIns := [], harness := (true, "c24aac070c8532b4f7256b0f724790ec3ecdd42529a95f4e868f8bfb99c82635"), looks := false }, kinds := [], alts := [], laidByText := true, laidKinds := [.data], laidTests := true, laidLooks := .later }
def SegmentEncodesUptoCardSaid : Prop := Claim7.holds Tryz.pinned (.plain (OpenSpec.upto segmentEncodesSpec)) segmentEncodesUptoCard

/-- THE SECOND FORM's CARD OF 'winnowerlaw18.SegmentDecodes'. -/
def segmentDecodesUptoCard : Claim7 := { stood := { row := segmentDecodesUptoRow, standIns := [], harness := (true, "c24aac070c8532b4f7256b0f724790ec3ecdd42529a95f4e868f8bfb99c82635"), looks := false }, kinds := [], alts := [], laidByText := true, laidKinds := [.data], laidTests := true, laidLooks := .later }
def SegmentDecodesUptoCardSaid : Prop := Claim7.holds Tryz.pinned (.plain (OpenSpec.upto segmentDecodesSpec)) segmentDecodesUptoCard
end Rows
end Go.Proofs.YtpjgkacekelkdaaGreatDoor
