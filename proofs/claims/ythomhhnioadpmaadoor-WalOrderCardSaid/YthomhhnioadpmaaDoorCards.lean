/-
  DERIVED. GIVEN WITH THE SEED: THE CARDS: each row of YthomhhnioadpmaaDoorRows.lean that lists a variable, with what it lists TIED to the program's text (the seventh form; the later family's looks); each row that meets fmt, with fmt's text TOLD by the authors' own Lean function (tested against real Go, not proved from fmt's source: count such statements apart). THE CARD IS WHAT COUNTS. Prove the row's statement (the work); the ties are given (YthomhhnioadpmaaDoorTie.lean); close each card by the builder's one call (the guide's Derived/Test/ToyasCard.lean, 'card_holds'). Laid BY PROGRAM, IN A SANDBOX (cutbox-door.mjs). By AI agents, Wed Nov 11 2026. No macro, syntax, notation, axiom, sorry.
-/
import Derived.Test.YthomhhnioadpmaaDoorRows
import GoSem.ClaimSeven
namespace Go.Proofs.YthomhhnioadpmaaDoor
namespace Rows

/-- THE TIED CARD OF 'winnowerlaw20.WalNames'. -/
def walNamesCard : Claim7 := { stood := { row := walNamesRow, standIns := [], harness := (true, "29d00dd541d0938564ce6ef3ad96314e1a010b04dcd9cf64ebff7db149bc8a71"), looks := true }, kinds := [], alts := [], laidByText := true, laidKinds := [.data, .data, .data, .sentinel, .sentinel], laidTests := true, laidLooks := .later }
def WalNamesCardSaid : Prop := Claim7.holds Tryd.pinned (.plain (OpenSpec.ofChange walNamesSpec)) walNamesCard

/-- THE TIED CARD OF 'winnowerlaw20.WalChains'. -/
def walChainsCard : Claim7 := { stood := { row := walChainsRow, standIns := [], harness := (true, "29d00dd541d0938564ce6ef3ad96314e1a010b04dcd9cf64ebff7db149bc8a71"), looks := true }, kinds := [], alts := [], laidByText := true, laidKinds := [.data, .data, .data, .sentinel, .sentinel], laidTests := true, laidLooks := .later }
def WalChainsCardSaid : Prop := Claim7.holds Tryd.pinned (.plain (OpenSpec.ofChange walChainsSpec)) walChainsCard

/-- THE TIED CARD OF 'winnowerlaw20.WalOrder'. -/
def walOrderCard : Claim7 := { stood := { row := walOrderRow, standIns := [], harness := (true, "29d00dd541d0938564ce6ef3ad96314e1a010b04dcd9cf64ebff7db149bc8a71"), looks := true }, kinds := [], alts := [], laidByText := true, laidKinds := [.data, .data, .data, .sentinel, .sentinel], laidTests := true, laidLooks := .later }
def WalOrderCardSaid : Prop := Claim7.holds Tryd.pinned (.plain (OpenSpec.ofChange walOrderSpec)) walOrderCard

/-- THE SECOND FORM's CARD OF 'winnowerlaw20.WalNames'. -/
def walNamesUptoCard : Claim7 := { stood := { row := walNamesUptoRow, standIns := [], harness := (true, "29d00dd541d0938564ce6ef3ad96314e1a010b04dcd9cf64ebff7db149bc8a71"), looks := true }, kinds := [], alts := [], laidByText := true, laidKinds := [.data, .data, .data, .sentinel, .sentinel], laidTests := true, laidLooks := .later }
def WalNamesUptoCardSaid : Prop := Claim7.holds Tryd.pinned (.plain (OpenSpec.upto walNamesSpec)) walNamesUptoCard

/-- THE SECOND FORM's CARD OF 'winnowerlaw20.WalChains'. -/
def walChainsUptoCard : Claim7 := { stood := { row := walChainsUptoRow, standIns := [], harness := (true, "29d00dd541d0938564ce6ef3ad96314e1a010b04dcd9cf64ebff7db149bc8a71"), looks := true }, kinds := [], alts := [], laidByText := true, laidKinds := [.data, .data, .data, .sentinel, .sentinel], laidTests := true, laidLooks := .later }
def WalChainsUptoCardSaid : Prop := Claim7.holds Tryd.pinned (.plain (OpenSpec.upto walChainsSpec)) walChainsUptoCard

/-- THE SECOND FORM's CARD OF 'winnowerlaw20.WalOrder'. -/
def walOrderUptoCard : Claim7 := { stood := { row := walOrderUptoRow, standIns := [], harness := (true, "29d00dd541d0938564ce6ef3ad96314e1a010b04dcd9cf64ebff7db149bc8a71"), looks := true }, kinds := [], alts := [], laidByText := true, laidKinds := [.data, .data, .data, .sentinel, .sentinel], laidTests := true, laidLooks := .later }
def WalOrderUptoCardSaid : Prop := Claim7.holds Tryd.pinned (.plain (OpenSpec.upto walOrderSpec)) walOrderUptoCard
end Rows
end Go.Proofs.YthomhhnioadpmaaDoor
