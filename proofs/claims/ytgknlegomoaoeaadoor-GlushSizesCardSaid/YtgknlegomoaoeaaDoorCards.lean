/-
  DERIVED. GIVEN WITH THE SEED: THE CARDS: each row of YtgknlegomoaoeaaDoorRows.lean that lists a variable, with what it lists TIED to the program's text (the seventh form; the later family's looks); each row that meets fmt, with fmt's text TOLD by the authors' own Lean function (tested against real Go, not proved from fmt's source: count such statements apart). THE CARD IS WHAT COUNTS. Prove the row's statement (the work); the ties are given (YtgknlegomoaoeaaDoorTie.lean); close each card by the builder's one call (the guide's Derived/Test/ToyasCard.lean, 'card_holds'). Laid BY PROGRAM, IN A SANDBOX (cutbox-door.mjs). By AI agents, Wed Nov 11 2026. No macro, syntax, notation, axiom, sorry.
-/
import Derived.Test.YtgknlegomoaoeaaDoorRows
import GoSem.ClaimSeven
namespace Go.Proofs.YtgknlegomoaoeaaDoor
namespace Rows

/-- THE TIED CARD OF 'winnowerlaw8.GlushTells'. -/
def glushTellsCard : Claim7 := { stood := { row := glushTellsRow, standIns := [], harness := (true, "1c722e02011c8128f591e34e52adfcd9aa394ac5d15e4ab981f4d4020f10b238"), looks := false }, kinds := [], alts := [], laidByText := true, laidKinds := [.data, .data, .data], laidTests := true, laidLooks := .later }
def GlushTellsCardSaid : Prop := Claim7.holds Tryd.pinned (.plain (OpenSpec.ofChange glushTellsSpec)) glushTellsCard

/-- THE TIED CARD OF 'winnowerlaw8.GlushMeans'. -/
def glushMeansCard : Claim7 := { stood := { row := glushMeansRow, standIns := [], harness := (true, "1c722e02011c8128f591e34e52adfcd9aa394ac5d15e4ab981f4d4020f10b238"), looks := false }, kinds := [], alts := [], laidByText := true, laidKinds := [.data, .data, .data], laidTests := true, laidLooks := .later }
def GlushMeansCardSaid : Prop := Claim7.holds Tryd.pinned (.plain (OpenSpec.ofChange glushMeansSpec)) glushMeansCard

/-- THE TIED CARD OF 'winnowerlaw8.GlushSizes'. -/
def glushSizesCard : Claim7 := { stood := { row := glushSizesRow, standIns := [], harness := (true, "1c722e02011c8128f591e34e52adfcd9aa394ac5d15e4ab981f4d4020f10b238"), looks := false }, kinds := [], alts := [], laidByText := true, laidKinds := [.data, .data, .data], laidTests := true, laidLooks := .later }
def GlushSizesCardSaid : Prop := Claim7.holds Tryd.pinned (.plain (OpenSpec.ofChange glushSizesSpec)) glushSizesCard

/-- THE TIED CARD OF 'winnowerlaw9.DfaBuilds'. -/
def dfaBuildsCard : Claim7 := { stood := { row := dfaBuildsRow, standIns := [], harness := (true, "1c722e02011c8128f591e34e52adfcd9aa394ac5d15e4ab981f4d4020f10b238"), looks := false }, kinds := [], alts := [], laidByText := true, laidKinds := [.data], laidTests := true, laidLooks := .later }
def DfaBuildsCardSaid : Prop := Claim7.holds Tryd.pinned (.plain (OpenSpec.ofChange dfaBuildsSpec)) dfaBuildsCard

/-- THE TIED CARD OF 'winnowerlaw9.DfaLooks'. -/
def dfaLooksCard : Claim7 := { stood := { row := dfaLooksRow, standIns := [], harness := (true, "1c722e02011c8128f591e34e52adfcd9aa394ac5d15e4ab981f4d4020f10b238"), looks := false }, kinds := [], alts := [], laidByText := true, laidKinds := [.data], laidTests := true, laidLooks := .later }
def DfaLooksCardSaid : Prop := Claim7.holds Tryd.pinned (.plain (OpenSpec.ofChange dfaLooksSpec)) dfaLooksCard

/-- THE TIED CARD OF 'winnowerlaw9.DfaMeans'. -/
def dfaMeansCard : Claim7 := { stood := { row := dfaMeansRow, standIns := [], harness := (true, "1c722e02011c8128f591e34e52adfcd9aa394ac5d15e4ab981f4d4020f10b238"), looks := false }, kinds := [], alts := [], laidByText := true, laidKinds := [.data], laidTests := true, laidLooks := .later }
def DfaMeansCardSaid : Prop := Claim7.holds Tryd.pinned (.plain (OpenSpec.ofChange dfaMeansSpec)) dfaMeansCard

/-- THE TIED CARD OF 'winnowerlaw9.DfaTexts'. -/
def dfaTextsCard : Claim7 := { stood := { row := dfaTextsRow, standIns := [], harness := (true, "1c722e02011c8128f591e34e52adfcd9aa394ac5d15e4ab981f4d4020f10b238"), looks := false }, kinds := [], alts := [], laidByText := true, laidKinds := [.data], laidTests := true, laidLooks := .later }
def DfaTextsCardSaid : Prop := Claim7.holds Tryd.pinned (.plain (OpenSpec.ofChange dfaTextsSpec)) dfaTextsCard

/-- THE TIED CARD OF 'winnowerlaw9.DfaLarge'. -/
def dfaLargeCard : Claim7 := { stood := { row := dfaLargeRow, standIns := [], harness := (true, "1c722e02011c8128f591e34e52adfcd9aa394ac5d15e4ab981f4d4020f10b238"), looks := false }, kinds := [], alts := [], laidByText := true, laidKinds := [.data], laidTests := true, laidLooks := .later }
def DfaLargeCardSaid : Prop := Claim7.holds Tryd.pinned (.plain (OpenSpec.ofChange dfaLargeSpec)) dfaLargeCard

/-- THE SECOND FORM's CARD OF 'winnowerlaw8.GlushTells'. -/
def glushTellsUptoCard : Claim7 := { stood := { row := glushTellsUptoRow, standIns := [], harness := (true, "1c722e02011c8128f591e34e52adfcd9aa394ac5d15e4ab981f4d4020f10b238"), looks := false }, kinds := [], alts := [], laidByText := true, laidKinds := [.data, .data, .data], laidTests := true, laidLooks := .later }
def GlushTellsUptoCardSaid : Prop := Claim7.holds Tryd.pinned (.plain (OpenSpec.upto glushTellsSpec)) glushTellsUptoCard

/-- THE SECOND FORM's CARD OF 'winnowerlaw8.GlushMeans'. -/
def glushMeansUptoCard : Claim7 := { stood := { row := glushMeansUptoRow, standIns := [], harness := (true, "1c722e02011c8128f591e34e52adfcd9aa394ac5d15e4ab981f4d4020f10b238"), looks := false }, kinds := [], alts := [], laidByText := true, laidKinds := [.data, .data, .data], laidTests := true, laidLooks := .later }
def GlushMeansUptoCardSaid : Prop := Claim7.holds Tryd.pinned (.plain (OpenSpec.upto glushMeansSpec)) glushMeansUptoCard

/-- THE SECOND FORM's CARD OF 'winnowerlaw8.GlushSizes'. -/
def glushSizesUptoCard : Claim7 := { stood := { row := glushSizesUptoRow, standIns := [], harness := (true, "1c722e02011c8128f591e34e52adfcd9aa394ac5d15e4ab981f4d4020f10b238"), looks := false }, kinds := [], alts := [], laidByText := true, laidKinds := [.data, .data, .data], laidTests := true, laidLooks := .later }
def GlushSizesUptoCardSaid : Prop := Claim7.holds Tryd.pinned (.plain (OpenSpec.upto glushSizesSpec)) glushSizesUptoCard

/-- THE SECOND FORM's CARD OF 'winnowerlaw9.DfaBuilds'. -/
def dfaBuildsUptoCard : Claim7 := { stood := { row := dfaBuildsUptoRow, standIns := [], harness := (true, "1c722e02011c8128f591e34e52adfcd9aa394ac5d15e4ab981f4d4020f10b238"), looks := false }, kinds := [], alts := [], laidByText := true, laidKinds := [.data], laidTests := true, laidLooks := .later }
def DfaBuildsUptoCardSaid : Prop := Claim7.holds Tryd.pinned (.plain (OpenSpec.upto dfaBuildsSpec)) dfaBuildsUptoCard

/-- THE SECOND FORM's CARD OF 'winnowerlaw9.DfaLooks'. -/
def dfaLooksUptoCard : Claim7 := { stood := { row := dfaLooksUptoRow, standIns := [], harness := (true, "1c722e02011c8128f591e34e52adfcd9aa394ac5d15e4ab981f4d4020f10b238"), looks := false }, kinds := [], alts := [], laidByText := true, laidKinds := [.data], laidTests := true, laidLooks := .later }
def DfaLooksUptoCardSaid : Prop := Claim7.holds Tryd.pinned (.plain (OpenSpec.upto dfaLooksSpec)) dfaLooksUptoCard

/-- THE SECOND FORM's CARD OF 'winnowerlaw9.DfaMeans'. -/
def dfaMeansUptoCard : Claim7 := { stood := { row := dfaMeansUptoRow, standIns := [], harness := (true, "1c722e02011c8128f591e34e52adfcd9aa394ac5d15e4ab981f4d4020f10b238"), looks := false }, kinds := [], alts := [], laidByText := true, laidKinds := [.data], laidTests := true, laidLooks := .later }
def DfaMeansUptoCardSaid : Prop := Claim7.holds Tryd.pinned (.plain (OpenSpec.upto dfaMeansSpec)) dfaMeansUptoCard

/-- THE SECOND FORM's CARD OF 'winnowerlaw9.DfaTexts'. -/
def dfaTextsUptoCard : Claim7 := { stood := { row := dfaTextsUptoRow, standIns := [], harness := (true, "1c722e02011c8128f591e34e52adfcd9aa394ac5d15e4ab981f4d4020f10b238"), looks := false }, kinds := [], alts := [], laidByText := true, laidKinds := [.data], laidTests := true, laidLooks := .later }
def DfaTextsUptoCardSaid : Prop := Claim7.holds Tryd.pinned (.plain (OpenSpec.upto dfaTextsSpec)) dfaTextsUptoCard

/-- THE SECOND FORM's CARD OF 'winnowerlaw9.DfaLarge'. -/
def dfaLargeUptoCard : Claim7 := { stood := { row := dfaLargeUptoRow, standIns := [], harness := (true, "1c722e02011c8128f591e34e52adfcd9aa394ac5d15e4ab981f4d4020f10b238"), looks := false }, kinds := [], alts := [], laidByText := true, laidKinds := [.data], laidTests := true, laidLooks := .later }
def DfaLargeUptoCardSaid : Prop := Claim7.holds Tryd.pinned (.plain (OpenSpec.upto dfaLargeSpec)) dfaLargeUptoCard
end Rows
end Go.Proofs.YtgknlegomoaoeaaDoor
