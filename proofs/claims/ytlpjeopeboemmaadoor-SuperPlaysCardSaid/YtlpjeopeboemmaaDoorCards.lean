/-
  DERIVED. GIVEN WITH THE SEED: THE CARDS: each row of YtlpjeopeboemmaaDoorRows.lean that lists a variable, with what it lists TIED to the program's text (the seventh form; the later family's looks); each row that meets fmt, with fmt's text TOLD by the authors' own Lean function (tested against real Go, not proved from fmt's source: count such statements apart). THE CARD IS WHAT COUNTS. Prove the row's statement (the work); the ties are given (YtlpjeopeboemmaaDoorTie.lean); close each card by the builder's one call (the guide's Derived/Test/ToyasCard.lean, 'card_holds'). Laid BY PROGRAM, IN A SANDBOX (cutbox-door.mjs). By AI agents, Wed Nov 11 2026. No macro, syntax, notation, axiom, sorry.
-/
import Derived.Test.YtlpjeopeboemmaaDoorRows
import GoSem.ClaimSeven
namespace Go.Proofs.YtlpjeopeboemmaaDoor
namespace Rows

/-- THE TIED CARD OF 'winnowerlaw3.SuperPlays'. -/
def superPlaysCard : Claim7 := { stood := { row := superPlaysRow, standIns := [], harness := (true, "b3e45b91d7ca59f0d9cbfc83b6d229d3ea7b3e0030bb88a05c19ce0936973c60"), looks := false }, kinds := [], alts := [], laidByText := true, laidKinds := [.data], laidTests := true, laidLooks := .later }
def SuperPlaysCardSaid : Prop := Claim7.holds Tryd.pinned (.plain (OpenSpec.ofChange superPlaysSpec)) superPlaysCard

/-- THE TIED CARD OF 'winnowerlaw3.SuperLasts'. -/
def superLastsCard : Claim7 := { stood := { row := superLastsRow, standIns := [], harness := (true, "b3e45b91d7ca59f0d9cbfc83b6d229d3ea7b3e0030bb88a05c19ce0936973c60"), looks := false }, kinds := [], alts := [], laidByText := true, laidKinds := [.data], laidTests := true, laidLooks := .later }
def SuperLastsCardSaid : Prop := Claim7.holds Tryd.pinned (.plain (OpenSpec.ofChange superLastsSpec)) superLastsCard

/-- THE TIED CARD OF 'winnowerlaw3.SuperPacks'. -/
def superPacksCard : Claim7 := { stood := { row := superPacksRow, standIns := [], harness := (true, "b3e45b91d7ca59f0d9cbfc83b6d229d3ea7b3e0030bb88a05c19ce0936973c60"), looks := false }, kinds := [], alts := [], laidByText := true, laidKinds := [.data], laidTests := true, laidLooks := .later }
def SuperPacksCardSaid : Prop := Claim7.holds Tryd.pinned (.plain (OpenSpec.ofChange superPacksSpec)) superPacksCard

/-- THE TIED CARD OF 'winnowerlaw3.SuperOpens'. -/
def superOpensCard : Claim7 := { stood := { row := superOpensRow, standIns := [], harness := (true, "b3e45b91d7ca59f0d9cbfc83b6d229d3ea7b3e0030bb88a05c19ce0936973c60"), looks := false }, kinds := [], alts := [], laidByText := true, laidKinds := [.data], laidTests := true, laidLooks := .later }
def SuperOpensCardSaid : Prop := Claim7.holds Tryd.pinned (.plain (OpenSpec.ofChange superOpensSpec)) superOpensCard

/-- THE TIED CARD OF 'winnowerlaw3.SuperRises'. -/
def superRisesCard : Claim7 := { stood := { row := superRisesRow, standIns := [], harness := (true, "b3e45b91d7ca59f0d9cbfc83b6d229d3ea7b3e0030bb88a05c19ce0936973c60"), looks := false }, kinds := [], alts := [], laidByText := true, laidKinds := [.data], laidTests := true, laidLooks := .later }
def SuperRisesCardSaid : Prop := Claim7.holds Tryd.pinned (.plain (OpenSpec.ofChange superRisesSpec)) superRisesCard

/-- THE TIED CARD OF 'winnowerlaw3.SuperOfNothing'. -/
def superOfNothingCard : Claim7 := { stood := { row := superOfNothingRow, standIns := [], harness := (true, "b3e45b91d7ca59f0d9cbfc83b6d229d3ea7b3e0030bb88a05c19ce0936973c60"), looks := false }, kinds := [], alts := [], laidByText := true, laidKinds := [.data], laidTests := true, laidLooks := .later }
def SuperOfNothingCardSaid : Prop := Claim7.holds Tryd.pinned (.plain (OpenSpec.ofChange superOfNothingSpec)) superOfNothingCard

/-- THE TIED CARD OF 'winnowerlaw3.SuperTurned'. -/
def superTurnedCard : Claim7 := { stood := { row := superTurnedRow, standIns := [], harness := (true, "b3e45b91d7ca59f0d9cbfc83b6d229d3ea7b3e0030bb88a05c19ce0936973c60"), looks := false }, kinds := [], alts := [], laidByText := true, laidKinds := [.data], laidTests := true, laidLooks := .later }
def SuperTurnedCardSaid : Prop := Claim7.holds Tryd.pinned (.plain (OpenSpec.ofChange superTurnedSpec)) superTurnedCard

/-- THE TIED CARD OF 'winnowerlaw3.SuperMany'. -/
def superManyCard : Claim7 := { stood := { row := superManyRow, standIns := [], harness := (true, "b3e45b91d7ca59f0d9cbfc83b6d229d3ea7b3e0030bb88a05c19ce0936973c60"), looks := false }, kinds := [], alts := [], laidByText := true, laidKinds := [.data], laidTests := true, laidLooks := .later }
def SuperManyCardSaid : Prop := Claim7.holds Tryd.pinned (.plain (OpenSpec.ofChange superManySpec)) superManyCard

/-- THE SECOND FORM's CARD OF 'winnowerlaw3.SuperPlays'. -/
def superPlaysUptoCard : Claim7 := { stood := { row := superPlaysUptoRow, standIns := [], harness := (true, "b3e45b91d7ca59f0d9cbfc83b6d229d3ea7b3e0030bb88a05c19ce0936973c60"), looks := false }, kinds := [], alts := [], laidByText := true, laidKinds := [.data], laidTests := true, laidLooks := .later }
def SuperPlaysUptoCardSaid : Prop := Claim7.holds Tryd.pinned (.plain (OpenSpec.upto superPlaysSpec)) superPlaysUptoCard

/-- THE SECOND FORM's CARD OF 'winnowerlaw3.SuperLasts'. -/
def superLastsUptoCard : Claim7 := { stood := { row := superLastsUptoRow, standIns := [], harness := (true, "b3e45b91d7ca59f0d9cbfc83b6d229d3ea7b3e0030bb88a05c19ce0936973c60"), looks := false }, kinds := [], alts := [], laidByText := true, laidKinds := [.data], laidTests := true, laidLooks := .later }
def SuperLastsUptoCardSaid : Prop := Claim7.holds Tryd.pinned (.plain (OpenSpec.upto superLastsSpec)) superLastsUptoCard

/-- THE SECOND FORM's CARD OF 'winnowerlaw3.SuperPacks'. -/
def superPacksUptoCard : Claim7 := { stood := { row := superPacksUptoRow, standIns := [], harness := (true, "b3e45b91d7ca59f0d9cbfc83b6d229d3ea7b3e0030bb88a05c19ce0936973c60"), looks := false }, kinds := [], alts := [], laidByText := true, laidKinds := [.data], laidTests := true, laidLooks := .later }
def SuperPacksUptoCardSaid : Prop := Claim7.holds Tryd.pinned (.plain (OpenSpec.upto superPacksSpec)) superPacksUptoCard

/-- THE SECOND FORM's CARD OF 'winnowerlaw3.SuperOpens'. -/
def superOpensUptoCard : Claim7 := { stood := { row := superOpensUptoRow, standIns := [], harness := (true, "b3e45b91d7ca59f0d9cbfc83b6d229d3ea7b3e0030bb88a05c19ce0936973c60"), looks := false }, kinds := [], alts := [], laidByText := true, laidKinds := [.data], laidTests := true, laidLooks := .later }
def SuperOpensUptoCardSaid : Prop := Claim7.holds Tryd.pinned (.plain (OpenSpec.upto superOpensSpec)) superOpensUptoCard

/-- THE SECOND FORM's CARD OF 'winnowerlaw3.SuperRises'. -/
def superRisesUptoCard : Claim7 := { stood := { row := superRisesUptoRow, standIns := [], harness := (true, "b3e45b91d7ca59f0d9cbfc83b6d229d3ea7b3e0030bb88a05c19ce0936973c60"), looks := false }, kinds := [], alts := [], laidByText := true, laidKinds := [.data], laidTests := true, laidLooks := .later }
def SuperRisesUptoCardSaid : Prop := Claim7.holds Tryd.pinned (.plain (OpenSpec.upto superRisesSpec)) superRisesUptoCard

/-- THE SECOND FORM's CARD OF 'winnowerlaw3.SuperOfNothing'. -/
def superOfNothingUptoCard : Claim7 := { stood := { row := superOfNothingUptoRow, standIns := [], harness := (true, "b3e45b91d7ca59f0d9cbfc83b6d229d3ea7b3e0030bb88a05c19ce0936973c60"), looks := false }, kinds := [], alts := [], laidByText := true, laidKinds := [.data], laidTests := true, laidLooks := .later }
def SuperOfNothingUptoCardSaid : Prop := Claim7.holds Tryd.pinned (.plain (OpenSpec.upto superOfNothingSpec)) superOfNothingUptoCard

/-- THE SECOND FORM's CARD OF 'winnowerlaw3.SuperTurned'. -/
def superTurnedUptoCard : Claim7 := { stood := { row := superTurnedUptoRow, standIns := [], harness := (true, "b3e45b91d7ca59f0d9cbfc83b6d229d3ea7b3e0030bb88a05c19ce0936973c60"), looks := false }, kinds := [], alts := [], laidByText := true, laidKinds := [.data], laidTests := true, laidLooks := .later }
def SuperTurnedUptoCardSaid : Prop := Claim7.holds Tryd.pinned (.plain (OpenSpec.upto superTurnedSpec)) superTurnedUptoCard

/-- THE SECOND FORM's CARD OF 'winnowerlaw3.SuperMany'. -/
def superManyUptoCard : Claim7 := { stood := { row := superManyUptoRow, standIns := [], harness := (true, "b3e45b91d7ca59f0d9cbfc83b6d229d3ea7b3e0030bb88a05c19ce0936973c60"), looks := false }, kinds := [], alts := [], laidByText := true, laidKinds := [.data], laidTests := true, laidLooks := .later }
def SuperManyUptoCardSaid : Prop := Claim7.holds Tryd.pinned (.plain (OpenSpec.upto superManySpec)) superManyUptoCard
end Rows
end Go.Proofs.YtlpjeopeboemmaaDoor
