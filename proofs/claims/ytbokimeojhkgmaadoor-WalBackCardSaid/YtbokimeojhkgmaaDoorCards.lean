/-
  DERIVED. GIVEN WITH THE SEED: THE CARDS: each row of YtbokimeojhkgmaaDoorRows.lean that lists a variable, with what it lists TIED to the program's text (the seventh form; the later family's looks); each row that meets fmt, with fmt's text TOLD by the authors' own Lean function (tested against real Go, not proved from fmt's source: count such statements apart). THE CARD IS WHAT COUNTS. Prove the row's statement (the work); the ties are given (YtbokimeojhkgmaaDoorTie.lean); close each card by the builder's one call (the guide's Derived/Test/ToyasCard.lean, 'card_holds'). Laid BY PROGRAM, IN A SANDBOX (cutbox-door.mjs). By AI agents, Wed Nov 11 2026. No macro, syntax, notation, axiom, sorry.
-/
import Derived.Test.YtbokimeojhkgmaaDoorRows
import GoSem.ClaimSeven
namespace Go.Proofs.YtbokimeojhkgmaaDoor
namespace Rows

/-- THE TIED CARD OF 'winnowerlaw20.WalEncodes'. -/
def walEncodesCard : Claim7 := { stood := { row := walEncodesRow, standIns := [], harness := (true, "b37875351355721d18dc2e766e88724a3649b40d6c3d339fd2fb1a36b15759bf"), looks := true }, kinds := [], alts := [], laidByText := true, laidKinds := [.data, .data, .data, .data, .sentinel, .sentinel], laidTests := true, laidLooks := .later }
def WalEncodesCardSaid : Prop := Claim7.holds Tryd.pinned (.plain (OpenSpec.ofChange walEncodesSpec)) walEncodesCard

/-- THE TIED CARD OF 'winnowerlaw20.WalDecodes'. -/
def walDecodesCard : Claim7 := { stood := { row := walDecodesRow, standIns := [], harness := (true, "b37875351355721d18dc2e766e88724a3649b40d6c3d339fd2fb1a36b15759bf"), looks := true }, kinds := [], alts := [], laidByText := true, laidKinds := [.data, .data, .data, .data, .sentinel, .sentinel], laidTests := true, laidLooks := .later }
def WalDecodesCardSaid : Prop := Claim7.holds Tryd.pinned (.plain (OpenSpec.ofChange walDecodesSpec)) walDecodesCard

/-- THE TIED CARD OF 'winnowerlaw20.WalBack'. -/
def walBackCard : Claim7 := { stood := { row := walBackRow, standIns := [], harness := (true, "b37875351355721d18dc2e766e88724a3649b40d6c3d339fd2fb1a36b15759bf"), looks := true }, kinds := [], alts := [], laidByText := true, laidKinds := [.data, .data, .data, .data, .sentinel, .sentinel], laidTests := true, laidLooks := .later }
def WalBackCardSaid : Prop := Claim7.holds Tryd.pinned (.plain (OpenSpec.ofChange walBackSpec)) walBackCard

/-- THE TIED CARD OF 'winnowerlaw20.WalNames'. -/
def walNamesCard : Claim7 := { stood := { row := walNamesRow, standIns := [], harness := (true, "b37875351355721d18dc2e766e88724a3649b40d6c3d339fd2fb1a36b15759bf"), looks := true }, kinds := [], alts := [], laidByText := true, laidKinds := [.data, .data, .data, .sentinel, .sentinel], laidTests := true, laidLooks := .later }
def WalNamesCardSaid : Prop := Claim7.holds Tryd.pinned (.plain (OpenSpec.ofChange walNamesSpec)) walNamesCard

/-- THE TIED CARD OF 'winnowerlaw20.WalChains'. -/
def walChainsCard : Claim7 := { stood := { row := walChainsRow, standIns := [], harness := (true, "b37875351355721d18dc2e766e88724a3649b40d6c3d339fd2fb1a36b15759bf"), looks := true }, kinds := [], alts := [], laidByText := true, laidKinds := [.data, .data, .data, .sentinel, .sentinel], laidTests := true, laidLooks := .later }
def WalChainsCardSaid : Prop := Claim7.holds Tryd.pinned (.plain (OpenSpec.ofChange walChainsSpec)) walChainsCard

/-- THE TIED CARD OF 'winnowerlaw20.WalSpoilt'. -/
def walSpoiltCard : Claim7 := { stood := { row := walSpoiltRow, standIns := [], harness := (true, "b37875351355721d18dc2e766e88724a3649b40d6c3d339fd2fb1a36b15759bf"), looks := true }, kinds := [], alts := [], laidByText := true, laidKinds := [.data, .data, .data, .data, .sentinel, .sentinel], laidTests := true, laidLooks := .later }
def WalSpoiltCardSaid : Prop := Claim7.holds Tryd.pinned (.plain (OpenSpec.ofChange walSpoiltSpec)) walSpoiltCard

/-- THE SECOND FORM's CARD OF 'winnowerlaw20.WalEncodes'. -/
def walEncodesUptoCard : Claim7 := { stood := { row := walEncodesUptoRow, standIns := [], harness := (true, "b37875351355721d18dc2e766e88724a3649b40d6c3d339fd2fb1a36b15759bf"), looks := true }, kinds := [], alts := [], laidByText := true, laidKinds := [.data, .data, .data, .data, .sentinel, .sentinel], laidTests := true, laidLooks := .later }
def WalEncodesUptoCardSaid : Prop := Claim7.holds Tryd.pinned (.plain (OpenSpec.upto walEncodesSpec)) walEncodesUptoCard

/-- THE SECOND FORM's CARD OF 'winnowerlaw20.WalDecodes'. -/
def walDecodesUptoCard : Claim7 := { stood := { row := walDecodesUptoRow, standIns := [], harness := (true, "b37875351355721d18dc2e766e88724a3649b40d6c3d339fd2fb1a36b15759bf"), looks := true }, kinds := [], alts := [], laidByText := true, laidKinds := [.data, .data, .data, .data, .sentinel, .sentinel], laidTests := true, laidLooks := .later }
def WalDecodesUptoCardSaid : Prop := Claim7.holds Tryd.pinned (.plain (OpenSpec.upto walDecodesSpec)) walDecodesUptoCard

/-- THE SECOND FORM's CARD OF 'winnowerlaw20.WalBack'. -/
def walBackUptoCard : Claim7 := { stood := { row := walBackUptoRow, standIns := [], harness := (true, "b37875351355721d18dc2e766e88724a3649b40d6c3d339fd2fb1a36b15759bf"), looks := true }, kinds := [], alts := [], laidByText := true, laidKinds := [.data, .data, .data, .data, .sentinel, .sentinel], laidTests := true, laidLooks := .later }
def WalBackUptoCardSaid : Prop := Claim7.holds Tryd.pinned (.plain (OpenSpec.upto walBackSpec)) walBackUptoCard

/-- THE SECOND FORM's CARD OF 'winnowerlaw20.WalNames'. -/
def walNamesUptoCard : Claim7 := { stood := { row := walNamesUptoRow, standIns := [], harness := (true, "b37875351355721d18dc2e766e88724a3649b40d6c3d339fd2fb1a36b15759bf"), looks := true }, kinds := [], alts := [], laidByText := true, laidKinds := [.data, .data, .data, .sentinel, .sentinel], laidTests := true, laidLooks := .later }
def WalNamesUptoCardSaid : Prop := Claim7.holds Tryd.pinned (.plain (OpenSpec.upto walNamesSpec)) walNamesUptoCard

/-- THE SECOND FORM's CARD OF 'winnowerlaw20.WalChains'. -/
def walChainsUptoCard : Claim7 := { stood := { row := walChainsUptoRow, standIns := [], harness := (true, "b37875351355721d18dc2e766e88724a3649b40d6c3d339fd2fb1a36b15759bf"), looks := true }, kinds := [], alts := [], laidByText := true, laidKinds := [.data, .data, .data, .sentinel, .sentinel], laidTests := true, laidLooks := .later }
def WalChainsUptoCardSaid : Prop := Claim7.holds Tryd.pinned (.plain (OpenSpec.upto walChainsSpec)) walChainsUptoCard

/-- THE SECOND FORM's CARD OF 'winnowerlaw20.WalSpoilt'. -/
def walSpoiltUptoCard : Claim7 := { stood := { row := walSpoiltUptoRow, standIns := [], harness := (true, "b37875351355721d18dc2e766e88724a3649b40d6c3d339fd2fb1a36b15759bf"), looks := true }, kinds := [], alts := [], laidByText := true, laidKinds := [.data, .data, .data, .data, .sentinel, .sentinel], laidTests := true, laidLooks := .later }
def WalSpoiltUptoCardSaid : Prop := Claim7.holds Tryd.pinned (.plain (OpenSpec.upto walSpoiltSpec)) walSpoiltUptoCard
end Rows
end Go.Proofs.YtbokimeojhkgmaaDoor
