/-
  DERIVED. GIVEN WITH THE SEED: THE CARDS: each row of YtpjgkacekelkdaaDoorRows.lean that lists a variable, with what it lists TIED to the program's text (the seventh form; the later family's looks); each row that meets fmt, with fmt's text TOLD by the authors' own Lean function (tested against real Go, not proved from fmt's source: count such statements apart). THE CARD IS WHAT COUNTS. Prove the row's statement (the work); the ties are given (YtpjgkacekelkdaaDoorTie.lean); close each card by the builder's one call (the guide's Derived/Test/ToyasCard.lean, 'card_holds'). Laid BY PROGRAM, IN A SANDBOX (cutbox-door.mjs). By AI agents, Wed Nov 11 2026. No macro, syntax, notation, axiom, sorry.
-/
import Derived.Test.YtpjgkacekelkdaaDoorRows
import GoSem.ClaimSeven
namespace Go.Proofs.YtpjgkacekelkdaaDoor
namespace Rows

/-- THE TIED CARD OF 'winnowerlaw18.SegmentBack'. -/
def segmentBackCard : Claim7 := { stood := { row := segmentBackRow, standIns := [], harness := (true, "a51c5c8dc467ea230ef3f89d50e371210f0ff6f02c557395dc9d03b4ea148ea0"), looks := false }, kinds := [], alts := [], laidByText := true, laidKinds := [.data], laidTests := true, laidLooks := .later }
def SegmentBackCardSaid : Prop := Claim7.holds Tryd.pinned (.plain (OpenSpec.ofChange segmentBackSpec)) segmentBackCard

/-- THE TIED CARD OF 'winnowerlaw18.SegmentJoins'. -/
def segmentJoinsCard : Claim7 := { stood := { row := segmentJoinsRow, standIns := [], harness := (true, "a51c5c8dc467ea230ef3f89d50e371210f0ff6f02c557395dc9d03b4ea148ea0"), looks := false }, kinds := [], alts := [], laidByText := true, laidKinds := [.data], laidTests := true, laidLooks := .later }
def SegmentJoinsCardSaid : Prop := Claim7.holds Tryd.pinned (.plain (OpenSpec.ofChange segmentJoinsSpec)) segmentJoinsCard

/-- THE TIED CARD OF 'winnowerlaw18.SegmentParts'. -/
def segmentPartsCard : Claim7 := { stood := { row := segmentPartsRow, standIns := [], harness := (true, "a51c5c8dc467ea230ef3f89d50e371210f0ff6f02c557395dc9d03b4ea148ea0"), looks := false }, kinds := [], alts := [], laidByText := true, laidKinds := [.data], laidTests := true, laidLooks := .later }
def SegmentPartsCardSaid : Prop := Claim7.holds Tryd.pinned (.plain (OpenSpec.ofChange segmentPartsSpec)) segmentPartsCard

/-- THE SECOND FORM's CARD OF 'winnowerlaw18.SegmentBack'. -/
def segmentBackUptoCard : Claim7 := { stood := { row := segmentBackUptoRow, standIns := [], harness := (true, "a51c5c8dc467ea230ef3f89d50e371210f0ff6f02c557395dc9d03b4ea148ea0"), looks := false }, kinds := [], alts := [], laidByText := true, laidKinds := [.data], laidTests := true, laidLooks := .later }
def SegmentBackUptoCardSaid : Prop := Claim7.holds Tryd.pinned (.plain (OpenSpec.upto segmentBackSpec)) segmentBackUptoCard

/-- THE SECOND FORM's CARD OF 'winnowerlaw18.SegmentJoins'. -/
def segmentJoinsUptoCard : Claim7 := { stood := { row := segmentJoinsUptoRow, standIns := [], harness := (true, "a51c5c8dc467ea230ef3f89d50e371210f0ff6f02c557395dc9d03b4ea148ea0"), looks := false }, kinds := [], alts := [], laidByText := true, laidKinds := [.data], laidTests := true, laidLooks := .later }
def SegmentJoinsUptoCardSaid : Prop := Claim7.holds Tryd.pinned (.plain (OpenSpec.upto segmentJoinsSpec)) segmentJoinsUptoCard

/-- THE SECOND FORM's CARD OF 'winnowerlaw18.SegmentParts'. -/
def segmentPartsUptoCard : Claim7 := { stood := { row := segmentPartsUptoRow, standIns := [], harness := (true, "a51c5c8dc467ea230ef3f89d50e371210f0ff6f02c557395dc9d03b4ea148ea0"), looks := false }, kinds := [], alts := [], laidByText := true, laidKinds := [.data], laidTests := true, laidLooks := .later }
def SegmentPartsUptoCardSaid : Prop := Claim7.holds Tryd.pinned (.plain (OpenSpec.upto segmentPartsSpec)) segmentPartsUptoCard
end Rows
end Go.Proofs.YtpjgkacekelkdaaDoor
