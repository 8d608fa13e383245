/-
  DERIVED. GIVEN WITH THE SEED: THE CARDS: each row of YtmggajpecgnjkaaDoorRows.lean that lists a variable, with what it lists TIED to the program's text (the seventh form; the later family's looks); each row that meets fmt, with fmt's text TOLD by the authors' own Lean function (tested against real Go, not proved from fmt's source: count such statements apart). THE CARD IS WHAT COUNTS. Prove the row's statement (the work); the ties are given (YtmggajpecgnjkaaDoorTie.lean); close each card by the builder's one call (the guide's Derived/Test/ToyasCard.lean, 'card_holds'). Laid BY PROGRAM, IN A SANDBOX (cutbox-door.mjs). By AI agents, Wed Nov 11 2026. No macro, syntax, notation, axiom, sorry.
-/
import Derived.Test.YtmggajpecgnjkaaDoorRows
import GoSem.ClaimSeven
namespace Go.Proofs.YtmggajpecgnjkaaDoor
namespace Rows

/-- THE TIED CARD OF 'winnowerlaw6.RegexParses'. -/
def regexParsesCard : Claim7 := { stood := { row := regexParsesRow, standIns := [], harness := (true, "989f4a0ba971dcef93025c5075781221b1a623c2a6e4639b5ad705e88317a5b1"), looks := false }, kinds := [], alts := [], laidByText := true, laidKinds := [.data, .data, .data], laidTests := true, laidLooks := .later }
def RegexParsesCardSaid : Prop := Claim7.holds Tryd.pinned (.plain (OpenSpec.ofChange regexParsesSpec)) regexParsesCard

/-- THE TIED CARD OF 'winnowerlaw6.RegexLooks'. -/
def regexLooksCard : Claim7 := { stood := { row := regexLooksRow, standIns := [], harness := (true, "989f4a0ba971dcef93025c5075781221b1a623c2a6e4639b5ad705e88317a5b1"), looks := false }, kinds := [], alts := [], laidByText := true, laidKinds := [.data, .data, .data], laidTests := true, laidLooks := .later }
def RegexLooksCardSaid : Prop := Claim7.holds Tryd.pinned (.plain (OpenSpec.ofChange regexLooksSpec)) regexLooksCard

/-- THE TIED CARD OF 'winnowerlaw6.RegexBack'. -/
def regexBackCard : Claim7 := { stood := { row := regexBackRow, standIns := [], harness := (true, "989f4a0ba971dcef93025c5075781221b1a623c2a6e4639b5ad705e88317a5b1"), looks := false }, kinds := [], alts := [], laidByText := true, laidKinds := [.data, .data, .data], laidTests := true, laidLooks := .later }
def RegexBackCardSaid : Prop := Claim7.holds Tryd.pinned (.plain (OpenSpec.ofChange regexBackSpec)) regexBackCard

/-- THE TIED CARD OF 'winnowerlaw6.RegexSettles'. -/
def regexSettlesCard : Claim7 := { stood := { row := regexSettlesRow, standIns := [], harness := (true, "989f4a0ba971dcef93025c5075781221b1a623c2a6e4639b5ad705e88317a5b1"), looks := false }, kinds := [], alts := [], laidByText := true, laidKinds := [.data, .data, .data], laidTests := true, laidLooks := .later }
def RegexSettlesCardSaid : Prop := Claim7.holds Tryd.pinned (.plain (OpenSpec.ofChange regexSettlesSpec)) regexSettlesCard

/-- THE TIED CARD OF 'winnowerlaw6.RegexMakes'. -/
def regexMakesCard : Claim7 := { stood := { row := regexMakesRow, standIns := [], harness := (true, "989f4a0ba971dcef93025c5075781221b1a623c2a6e4639b5ad705e88317a5b1"), looks := false }, kinds := [], alts := [], laidByText := true, laidKinds := [.data, .data, .data], laidTests := true, laidLooks := .later }
def RegexMakesCardSaid : Prop := Claim7.holds Tryd.pinned (.plain (OpenSpec.ofChange regexMakesSpec)) regexMakesCard

/-- THE TIED CARD OF 'winnowerlaw6.RegexBytes'. -/
def regexBytesCard : Claim7 := { stood := { row := regexBytesRow, standIns := [], harness := (true, "989f4a0ba971dcef93025c5075781221b1a623c2a6e4639b5ad705e88317a5b1"), looks := false }, kinds := [], alts := [], laidByText := true, laidKinds := [.data, .data, .data], laidTests := true, laidLooks := .later }
def RegexBytesCardSaid : Prop := Claim7.holds Tryd.pinned (.plain (OpenSpec.ofChange regexBytesSpec)) regexBytesCard

/-- THE TIED CARD OF 'winnowerlaw6.RegexTimes'. -/
def regexTimesCard : Claim7 := { stood := { row := regexTimesRow, standIns := [], harness := (true, "989f4a0ba971dcef93025c5075781221b1a623c2a6e4639b5ad705e88317a5b1"), looks := false }, kinds := [], alts := [], laidByText := true, laidKinds := [.data, .data, .data], laidTests := true, laidLooks := .later }
def RegexTimesCardSaid : Prop := Claim7.holds Tryd.pinned (.plain (OpenSpec.ofChange regexTimesSpec)) regexTimesCard

/-- THE TIED CARD OF 'winnowerlaw6.RegexRows'. -/
def regexRowsCard : Claim7 := { stood := { row := regexRowsRow, standIns := [], harness := (true, "989f4a0ba971dcef93025c5075781221b1a623c2a6e4639b5ad705e88317a5b1"), looks := false }, kinds := [], alts := [], laidByText := true, laidKinds := [.data, .data, .data], laidTests := true, laidLooks := .later }
def RegexRowsCardSaid : Prop := Claim7.holds Tryd.pinned (.plain (OpenSpec.ofChange regexRowsSpec)) regexRowsCard

/-- THE TIED CARD OF 'winnowerlaw7.LangMeans'. -/
def langMeansCard : Claim7 := { stood := { row := langMeansRow, standIns := [], harness := (true, "989f4a0ba971dcef93025c5075781221b1a623c2a6e4639b5ad705e88317a5b1"), looks := false }, kinds := [], alts := [], laidByText := true, laidKinds := [.data, .data, .data], laidTests := true, laidLooks := .later }
def LangMeansCardSaid : Prop := Claim7.holds Tryd.pinned (.plain (OpenSpec.ofChange langMeansSpec)) langMeansCard

/-- THE TIED CARD OF 'winnowerlaw7.LangTimes'. -/
def langTimesCard : Claim7 := { stood := { row := langTimesRow, standIns := [], harness := (true, "989f4a0ba971dcef93025c5075781221b1a623c2a6e4639b5ad705e88317a5b1"), looks := false }, kinds := [], alts := [], laidByText := true, laidKinds := [.data, .data, .data], laidTests := true, laidLooks := .later }
def LangTimesCardSaid : Prop := Claim7.holds Tryd.pinned (.plain (OpenSpec.ofChange langTimesSpec)) langTimesCard

/-- THE TIED CARD OF 'winnowerlaw7.LangTexts'. -/
def langTextsCard : Claim7 := { stood := { row := langTextsRow, standIns := [], harness := (true, "989f4a0ba971dcef93025c5075781221b1a623c2a6e4639b5ad705e88317a5b1"), looks := false }, kinds := [], alts := [], laidByText := true, laidKinds := [.data, .data, .data], laidTests := true, laidLooks := .later }
def LangTextsCardSaid : Prop := Claim7.holds Tryd.pinned (.plain (OpenSpec.ofChange langTextsSpec)) langTextsCard

/-- THE TIED CARD OF 'winnowerlaw7.LangShifts'. -/
def langShiftsCard : Claim7 := { stood := { row := langShiftsRow, standIns := [], harness := (true, "989f4a0ba971dcef93025c5075781221b1a623c2a6e4639b5ad705e88317a5b1"), looks := false }, kinds := [], alts := [], laidByText := true, laidKinds := [.data, .data, .data], laidTests := true, laidLooks := .later }
def LangShiftsCardSaid : Prop := Claim7.holds Tryd.pinned (.plain (OpenSpec.ofChange langShiftsSpec)) langShiftsCard

/-- THE TIED CARD OF 'winnowerlaw7.LangAll'. -/
def langAllCard : Claim7 := { stood := { row := langAllRow, standIns := [], harness := (true, "989f4a0ba971dcef93025c5075781221b1a623c2a6e4639b5ad705e88317a5b1"), looks := false }, kinds := [], alts := [], laidByText := true, laidKinds := [.data, .data, .data], laidTests := true, laidLooks := .later }
def LangAllCardSaid : Prop := Claim7.holds Tryd.pinned (.plain (OpenSpec.ofChange langAllSpec)) langAllCard

/-- THE SECOND FORM's CARD OF 'winnowerlaw6.RegexParses'. -/
def regexParsesUptoCard : Claim7 := { stood := { row := regexParsesUptoRow, standIns := [], harness := (true, "989f4a0ba971dcef93025c5075781221b1a623c2a6e4639b5ad705e88317a5b1"), looks := false }, kinds := [], alts := [], laidByText := true, laidKinds := [.data, .data, .data], laidTests := true, laidLooks := .later }
def RegexParsesUptoCardSaid : Prop := Claim7.holds Tryd.pinned (.plain (OpenSpec.upto regexParsesSpec)) regexParsesUptoCard

/-- THE SECOND FORM's CARD OF 'winnowerlaw6.RegexLooks'. -/
def regexLooksUptoCard : Claim7 := { stood := { row := regexLooksUptoRow, standIns := [], harness := (true, "989f4a0ba971dcef93025c5075781221b1a623c2a6e4639b5ad705e88317a5b1"), looks := false }, kinds := [], alts := [], laidByText := true, laidKinds := [.data, .data, .data], laidTests := true, laidLooks := .later }
def RegexLooksUptoCardSaid : Prop := Claim7.holds Tryd.pinned (.plain (OpenSpec.upto regexLooksSpec)) regexLooksUptoCard

/-- THE SECOND FORM's CARD OF 'winnowerlaw6.RegexBack'. -/
def regexBackUptoCard : Claim7 := { stood := { row := regexBackUptoRow, standIns := [], harness := (true, "989f4a0ba971dcef93025c5075781221b1a623c2a6e4639b5ad705e88317a5b1"), looks := false }, kinds := [], alts := [], laidByText := true, laidKinds := [.data, .data, .data], laidTests := true, laidLooks := .later }
def RegexBackUptoCardSaid : Prop := Claim7.holds Tryd.pinned (.plain (OpenSpec.upto regexBackSpec)) regexBackUptoCard

/-- THE SECOND FORM's CARD OF 'winnowerlaw6.RegexSettles'. -/
def regexSettlesUptoCard : Claim7 := { stood := { row := regexSettlesUptoRow, standIns := [], harness := (true, "989f4a0ba971dcef93025c5075781221b1a623c2a6e4639b5ad705e88317a5b1"), looks := false }, kinds := [], alts := [], laidByText := true, laidKinds := [.data, .data, .data], laidTests := true, laidLooks := .later }
def RegexSettlesUptoCardSaid : Prop := Claim7.holds Tryd.pinned (.plain (OpenSpec.upto regexSettlesSpec)) regexSettlesUptoCard

/-- THE SECOND FORM's CARD OF 'winnowerlaw6.RegexMakes'. -/
def regexMakesUptoCard : Claim7 := { stood := { row := regexMakesUptoRow, standIns := [], harness := (true, "989f4a0ba971dcef93025c5075781221b1a623c2a6e4639b5ad705e88317a5b1"), looks := false }, kinds := [], alts := [], laidByText := true, laidKinds := [.data, .data, .data], laidTests := true, laidLooks := .later }
def RegexMakesUptoCardSaid : Prop := Claim7.holds Tryd.pinned (.plain (OpenSpec.upto regexMakesSpec)) regexMakesUptoCard

/-- THE SECOND FORM's CARD OF 'winnowerlaw6.RegexBytes'. -/
def regexBytesUptoCard : Claim7 := { stood := { row := regexBytesUptoRow, standIns := [], harness := (true, "989f4a0ba971dcef93025c5075781221b1a623c2a6e4639b5ad705e88317a5b1"), looks := false }, kinds := [], alts := [], laidByText := true, laidKinds := [.data, .data, .data], laidTests := true, laidLooks := .later }
def RegexBytesUptoCardSaid : Prop := Claim7.holds Tryd.pinned (.plain (OpenSpec.upto regexBytesSpec)) regexBytesUptoCard

/-- THE SECOND FORM's CARD OF 'winnowerlaw6.RegexTimes'. -/
def regexTimesUptoCard : Claim7 := { stood := { row := regexTimesUptoRow, standIns := [], harness := (true, "989f4a0ba971dcef93025c5075781221b1a623c2a6e4639b5ad705e88317a5b1"), looks := false }, kinds := [], alts := [], laidByText := true, laidKinds := [.data, .data, .data], laidTests := true, laidLooks := .later }
def RegexTimesUptoCardSaid : Prop := Claim7.holds Tryd.pinned (.plain (OpenSpec.upto regexTimesSpec)) regexTimesUptoCard

/-- THE SECOND FORM's CARD OF 'winnowerlaw6.RegexRows'. -/
def regexRowsUptoCard : Claim7 := { stood := { row := regexRowsUptoRow, standIns := [], harness := (true, "989f4a0ba971dcef93025c5075781221b1a623c2a6e4639b5ad705e88317a5b1"), looks := false }, kinds := [], alts := [], laidByText := true, laidKinds := [.data, .data, .data], laidTests := true, laidLooks := .later }
def RegexRowsUptoCardSaid : Prop := Claim7.holds Tryd.pinned (.plain (OpenSpec.upto regexRowsSpec)) regexRowsUptoCard

/-- THE SECOND FORM's CARD OF 'winnowerlaw7.LangMeans'. -/
def langMeansUptoCard : Claim7 := { stood := { row := langMeansUptoRow, standIns := [], harness := (true, "989f4a0ba971dcef93025c5075781221b1a623c2a6e4639b5ad705e88317a5b1"), looks := false }, kinds := [], alts := [], laidByText := true, laidKinds := [.data, .data, .data], laidTests := true, laidLooks := .later }
def LangMeansUptoCardSaid : Prop := Claim7.holds Tryd.pinned (.plain (OpenSpec.upto langMeansSpec)) langMeansUptoCard

/-- THE SECOND FORM's CARD OF 'winnowerlaw7.LangTimes'. -/
def langTimesUptoCard : Claim7 := { stood := { row := langTimesUptoRow, standIns := [], harness := (true, "989f4a0ba971dcef93025c5075781221b1a623c2a6e4639b5ad705e88317a5b1"), looks := false }, kinds := [], alts := [], laidByText := true, laidKinds := [.data, .data, .data], laidTests := true, laidLooks := .later }
def LangTimesUptoCardSaid : Prop := Claim7.holds Tryd.pinned (.plain (OpenSpec.upto langTimesSpec)) langTimesUptoCard

/-- THE SECOND FORM's CARD OF 'winnowerlaw7.LangTexts'. -/
def langTextsUptoCard : Claim7 := { stood := { row := langTextsUptoRow, standIns := [], harness := (true, "989f4a0ba971dcef93025c5075781221b1a623c2a6e4639b5ad705e88317a5b1"), looks := false }, kinds := [], alts := [], laidByText := true, laidKinds := [.data, .data, .data], laidTests := true, laidLooks := .later }
def LangTextsUptoCardSaid : Prop := Claim7.holds Tryd.pinned (.plain (OpenSpec.upto langTextsSpec)) langTextsUptoCard

/-- THE SECOND FORM's CARD OF 'winnowerlaw7.LangShifts'. -/
def langShiftsUptoCard : Claim7 := { stood := { row := langShiftsUptoRow, standIns := [], harness := (true, "989f4a0ba971dcef93025c5075781221b1a623c2a6e4639b5ad705e88317a5b1"), looks := false }, kinds := [], alts := [], laidByText := true, laidKinds := [.data, .data, .data], laidTests := true, laidLooks := .later }
def LangShiftsUptoCardSaid : Prop := Claim7.holds Tryd.pinned (.plain (OpenSpec.upto langShiftsSpec)) langShiftsUptoCard

/-- THE SECOND FORM's CARD OF 'winnowerlaw7.LangAll'. -/
def langAllUptoCard : Claim7 := { stood := { row := langAllUptoRow, standIns := [], harness := (true, "989f4a0ba971dcef93025c5075781221b1a623c2a6e4639b5ad705e88317a5b1"), looks := false }, kinds := [], alts := [], laidByText := true, laidKinds := [.data, .data, .data], laidTests := true, laidLooks := .later }
def LangAllUptoCardSaid : Prop := Claim7.holds Tryd.pinned (.plain (OpenSpec.upto langAllSpec)) langAllUptoCard
end Rows
end Go.Proofs.YtmggajpecgnjkaaDoor
