/-
  DERIVED. GIVEN WITH THE SEED: THE CARDS: each row of YtdpmfcifgimleaaGreatDoorRows.lean that lists a variable, with what it lists TIED to the program's text (the seventh form; the later family's looks); each row that meets fmt, with fmt's text TOLD by the authors' own Lean function (tested against real Go, not proved from fmt's source: count such statements apart). THE CARD IS WHAT COUNTS. Prove the row's statement (the work); the ties are given (YtdpmfcifgimleaaGreatDoorTie.lean); close each card by the builder's one call (the guide's Derived/Test/ToyasCard.lean, 'card_holds'). Laid BY PROGRAM, IN A SANDBOX (cutbox-door.mjs). By AI agents, Wed Nov 11 2026. No macro, syntax, notation, axiom, sorry.
-/
import Derived.Test.YtdpmfcifgimleaaGreatDoorRows
import GoSem.ClaimSeven
namespace Go.Proofs.YtdpmfcifgimleaaGreatDoor
namespace Rows

/-- THE TIED CARD OF 'winnowerlaw4.VaultPlays'. -/
def vaultPlaysCard : Claim7 := { stood := { row := vaultPlaysRow, standIns := [], harness := (true, "2d557845bc856be3cbed8f2307a39205a0c3085a5bc5de85a943dfad8451476b"), looks := false }, kinds := [], alts := [], laidByText := true, laidKinds := [.data], laidTests := true, laidLooks := .later }
def VaultPlaysCardSaid : Prop := Claim7.holds Tryz.pinned (.plain (OpenSpec.ofChange vaultPlaysSpec)) vaultPlaysCard

/-- THE TIED CARD OF 'winnowerlaw4.VaultLasts'. -/
def vaultLastsCard : Claim7 := { stood := { row := vaultLastsRow, standIns := [], harness := (true, "2d557845bc856be3cbed8f2307a39205a0c3085a5bc5de85a943dfad8451476b"), looks := false }, kinds := [], alts := [], laidByText := true, laidKinds := [.data], laidTests := true, laidLooks := .later }
def VaultLastsCardSaid : Prop := Claim7.holds Tryz.pinned (.plain (OpenSpec.ofChange vaultLastsSpec)) vaultLastsCard

/-- THE TIED CARD OF 'winnowerlaw4.VaultRoom'. -/
def vaultRoomCard : Claim7 := { stood := { row := vaultRoomRow, standIns := [], harness := (true, "2d557845bc856be3cbed8f2307a39205a0c3085a5bc5de85a943dfad8451476b"), looks := false }, kinds := [], alts := [], laidByText := true, laidKinds := [.data], laidTests := true, laidLooks := .later }
def VaultRoomCardSaid : Prop := Claim7.holds Tryz.pinned (.plain (OpenSpec.ofChange vaultRoomSpec)) vaultRoomCard

/-- THE TIED CARD OF 'winnowerlaw4.VaultFull'. -/
def vaultFullCard : Claim7 := { stood := { row := vaultFullRow, standIns := [], harness := (true, "2d557845bc856be3cbed8f2307a39205a0c3085a5bc5de85a943dfad8451476b"), looks := false }, kinds := [], alts := [], laidByText := true, laidKinds := [.data], laidTests := true, laidLooks := .later }
def VaultFullCardSaid : Prop := Claim7.holds Tryz.pinned (.plain (OpenSpec.ofChange vaultFullSpec)) vaultFullCard

/-- THE TIED CARD OF 'winnowerlaw4.VaultOfNothing'. -/
def vaultOfNothingCard : Claim7 := { stood := { row := vaultOfNothingRow, standIns := [], harness := (true, "2d557845bc856be3cbed8f2307a39205a0c3085a5bc5de85a943dfad8451476b"), looks := false }, kinds := [], alts := [], laidByText := true, laidKinds := [.data], laidTests := true, laidLooks := .later }
def VaultOfNothingCardSaid : Prop := Claim7.holds Tryz.pinned (.plain (OpenSpec.ofChange vaultOfNothingSpec)) vaultOfNothingCard

/-- THE TIED CARD OF 'winnowerlaw4.VaultReplaces'. -/
def vaultReplacesCard : Claim7 := { stood := { row := vaultReplacesRow, standIns := [], harness := (true, "2d557845bc856be3cbed8f2307a39205a0c3085a5bc5de85a943dfad8451476b"), looks := false }, kinds := [], alts := [], laidByText := true, laidKinds := [.data], laidTests := true, laidLooks := .later }
def VaultReplacesCardSaid : Prop := Claim7.holds Tryz.pinned (.plain (OpenSpec.ofChange vaultReplacesSpec)) vaultReplacesCard

/-- THE TIED CARD OF 'winnowerlaw4.VaultOwn'. -/
def vaultOwnCard : Claim7 := { stood := { row := vaultOwnRow, standIns := [], harness := (true, "2d557845bc856be3cbed8f2307a39205a0c3085a5bc5de85a943dfad8451476b"), looks := false }, kinds := [], alts := [], laidByText := true, laidKinds := [.data], laidTests := true, laidLooks := .later }
def VaultOwnCardSaid : Prop := Claim7.holds Tryz.pinned (.plain (OpenSpec.ofChange vaultOwnSpec)) vaultOwnCard

/-- THE TIED CARD OF 'winnowerlaw4.VaultSpoilt'. -/
def vaultSpoiltCard : Claim7 := { stood := { row := vaultSpoiltRow, standIns := [], harness := (true, "2d557845bc856be3cbed8f2307a39205a0c3085a5bc5de85a943dfad8451476b"), looks := false }, kinds := [], alts := [], laidByText := true, laidKinds := [.data], laidTests := true, laidLooks := .later }
def VaultSpoiltCardSaid : Prop := Claim7.holds Tryz.pinned (.plain (OpenSpec.ofChange vaultSpoiltSpec)) vaultSpoiltCard

/-- THE SECOND FORM's CARD OF 'winnowerlaw4.VaultPlays'. -/
def vaultPlaysUptoCard : Claim7 := { stood := { row := vaultPlaysUptoRow, standIns := [], harness := (true, "2d557845bc856be3cbed8f2307a39205a0c3085a5bc5de85a943dfad8451476b"), looks := false }, kinds := [], alts := [], laidByText := true, laidKinds := [.data], laidTests := true, laidLooks := .later }
def VaultPlaysUptoCardSaid : Prop := Claim7.holds Tryz.pinned (.plain (OpenSpec.upto vaultPlaysSpec)) vaultPlaysUptoCard

/-- THE SECOND FORM's CARD OF 'winnowerlaw4.VaultLasts'. -/
def vaultLastsUptoCard : Claim7 := { stood := { row := vaultLastsUptoRow, standIns := [], harness := (true, "2d557845bc856be3cbed8f2307a39205a0c3085a5bc5de85a943dfad8451476b"), looks := false }, kinds := [], alts := [], laidByText := true, laidKinds := [.data], laidTests := true, laidLooks := .later }
def VaultLastsUptoCardSaid : Prop := Claim7.holds Tryz.pinned (.plain (OpenSpec.upto vaultLastsSpec)) vaultLastsUptoCard

/-- THE SECOND FORM's CARD OF 'winnowerlaw4.VaultRoom'. -/
def vaultRoomUptoCard : Claim7 := { stood := { row := vaultRoomUptoRow, standIns := [], harness := (true, "2d557845bc856be3cbed8f2307a39205a0c3085a5bc5de85a943dfad8451476b"), looks := false }, kinds := [], alts := [], laidByText := true, laidKinds := [.data], laidTests := true, laidLooks := .later }
def VaultRoomUptoCardSaid : Prop := Claim7.holds Tryz.pinned (.plain (OpenSpec.upto vaultRoomSpec)) vaultRoomUptoCard

/-- THE SECOND FORM's CARD OF 'winnowerlaw4.VaultFull'. -/
def vaultFullUptoCard : Claim7 := { stood := { row := vaultFullUptoRow, standIns := [], harness := (true, "2d557845bc856be3cbed8f2307a39205a0c3085a5bc5de85a943dfad8451476b"), looks := false }, kinds := [], alts := [], laidByText := true, laidKinds := [.data], laidTests := true, laidLooks := .later }
def VaultFullUptoCardSaid : Prop := Claim7.holds Tryz.pinned (.plain (OpenSpec.upto vaultFullSpec)) vaultFullUptoCard

/-- THE SECOND FORM's CARD OF 'winnowerlaw4.VaultOfNothing'. -/
def vaultOfNothingUptoCard : Claim7 := { stood := { row := vaultOfNothingUptoRow, standIns := [], harness := (true, "2d557845bc856be3cbed8f2307a39205a0c3085a5bc5de85a943dfad8451476b"), looks := false }, kinds := [], alts := [], laidByText := true, laidKinds := [.data], laidTests := true, laidLooks := .later }
def VaultOfNothingUptoCardSaid : Prop := Claim7.holds Tryz.pinned (.plain (OpenSpec.upto vaultOfNothingSpec)) vaultOfNothingUptoCard

/-- THE SECOND FORM's CARD OF 'winnowerlaw4.VaultReplaces'. -/
def vaultReplacesUptoCard : Claim7 := { stood := { row := vaultReplacesUptoRow, standIns := [], harness := (true, "2d557845bc856be3cbed8f2307a39205a0c3085a5bc5de85a943dfad8451476b"), looks := false }, kinds := [], alts := [], laidByText := true, laidKinds := [.data], laidTests := true, laidLooks := .later }
def VaultReplacesUptoCardSaid : Prop := Claim7.holds Tryz.pinned (.plain (OpenSpec.upto vaultReplacesSpec)) vaultReplacesUptoCard

/-- THE SECOND FORM's CARD OF 'winnowerlaw4.VaultOwn'. -/
def vaultOwnUptoCard : Claim7 := { stood := { row := vaultOwnUptoRow, standIns := [], harness := (true, "2d557845bc856be3cbed8f2307a39205a0c3085a5bc5de85a943dfad8451476b"), looks := false }, kinds := [], alts := [], laidByText := true, laidKinds := [.data], laidTests := true, laidLooks := .later }
def VaultOwnUptoCardSaid : Prop := Claim7.holds Tryz.pinned (.plain (OpenSpec.upto vaultOwnSpec)) vaultOwnUptoCard

/-- THE SECOND FORM's CARD OF 'winnowerlaw4.VaultSpoilt'. -/
def vaultSpoiltUptoCard : Claim7 := { stood := { row := vaultSpoiltUptoRow, standIns := [], harness := (true, "2d557845bc856be3cbed8f2307a39205a0c3085a5bc5de85a943dfad8451476b"), looks := false }, kinds := [], alts := [], laidByText := true, laidKinds := [.data], laidTests := true, laidLooks := .later }
def VaultSpoiltUptoCardSaid : Prop := Claim7.holds Tryz.pinned (.plain (OpenSpec.upto vaultSpoiltSpec)) vaultSpoiltUptoCard
end Rows
end Go.Proofs.YtdpmfcifgimleaaGreatDoor
