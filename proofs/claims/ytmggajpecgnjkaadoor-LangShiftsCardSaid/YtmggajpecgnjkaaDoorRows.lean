/-
  NARROWER THAN 'FOR EVERY INPUT', by the rows' own cells (each row's printed sentence says how): RegexParses: laid · RegexLooks: loops, laid · RegexBack: loops, laid · RegexSettles: laid · RegexMakes: loops, laid · RegexBytes: laid · RegexTimes: laid · RegexRows: laid · LangMeans: loops, laid · LangTimes: loops, laid · LangTexts: laid · LangShifts: loops, laid · LangAll: laid.
  DERIVED. THE GIVEN ROWS OF THIS SEAT. 13 by the template 'for every input the law returns true; each argument reads behind the call as it read before'; 0 by the template 'total and deterministic' (their statements: YtmggajpecgnjkaaDoorTotals.lean).
  GIVEN WITH THE SEED: the statements are not yours to turn. If you find one false, say at which input.
  Laid BY PROGRAM, IN A SANDBOX (cutbox-rows.mjs): the forced cells as the released guide's own fill.sh prints them over the translation 4bc9a1b933a2ad77… (all of the seat's roots in one cut). By AI agents, Wed Nov 11 2026. No macro, syntax, notation, axiom, sorry.
-/
import Derived.Test.YtmggajpecgnjkaaDoorChecked
import GoSem.Claim
import GoSem.ClaimJoined
import GoSem.ClaimMapViews
import Derived.JoinedTies
import Derived.KernelRfl
namespace Go.Proofs.YtmggajpecgnjkaaDoor
/- THE CELL 'sum', in the pinned program and in every row, IS THE sha256 OF THE DUMP (.gsa) THAT YtmggajpecgnjkaaDoorProg.lean LOADS. Nothing in Lean hashes anything: it is a label: what it is worth is what the hold of that sum in a sandbox is worth. -/
noncomputable def Tryd.pinned : Pinned := { name := "ytmggajpecgnjkaadoor", sum := "4bc9a1b933a2ad777243daaba3cd2dc8696501291aede07bec5946dd48f16330", checked := Tryd.checked }
namespace Rows
def none {H : Type} : Left H := { results := [], args := [] }

/- WHAT THE LISTED PACKAGE-LEVEL VARIABLES READ AS WHEN THE CALL BEGINS. Each datum BY PROGRAM (the guide's laid-datum.mjs) off the statement by which the dump's own 'gosem.cut.vars' lays the variable. In a bare row this is a premise. The card (YtmggajpecgnjkaaDoorCards.lean) ties it to the program's text. -/
def laid_math_bits_deBruijn32tab {H : Type} : DataW H := .agg [.lit (.int .u8 0), .lit (.int .u8 1), .lit (.int .u8 28), .lit (.int .u8 2), .lit (.int .u8 29), .lit (.int .u8 14), .lit (.int .u8 24), .lit (.int .u8 3), .lit (.int .u8 30), .lit (.int .u8 22), .lit (.int .u8 20), .lit (.int .u8 15), .lit (.int .u8 25), .lit (.int .u8 17), .lit (.int .u8 4), .lit (.int .u8 8), .lit (.int .u8 31), .lit (.int .u8 27), .lit (.int .u8 13), .lit (.int .u8 23), .lit (.int .u8 21), .lit (.int .u8 19), .lit (.int .u8 16), .lit (.int .u8 7), .lit (.int .u8 26), .lit (.int .u8 12), .lit (.int .u8 18), .lit (.int .u8 6), .lit (.int .u8 11), .lit (.int .u8 5), .lit (.int .u8 10), .lit (.int .u8 9)]
def laid_math_bits_deBruijn64tab {H : Type} : DataW H := .agg [.lit (.int .u8 0), .lit (.int .u8 1), .lit (.int .u8 56), .lit (.int .u8 2), .lit (.int .u8 57), .lit (.int .u8 49), .lit (.int .u8 28), .lit (.int .u8 3), .lit (.int .u8 61), .lit (.int .u8 58), .lit (.int .u8 42), .lit (.int .u8 50), .lit (.int .u8 38), .lit (.int .u8 29), .lit (.int .u8 17), .lit (.int .u8 4), .lit (.int .u8 62), .lit (.int .u8 47), .lit (.int .u8 59), .lit (.int .u8 36), .lit (.int .u8 45), .lit (.int .u8 43), .lit (.int .u8 51), .lit (.int .u8 22), .lit (.int .u8 53), .lit (.int .u8 39), .lit (.int .u8 33), .lit (.int .u8 30), .lit (.int .u8 24), .lit (.int .u8 18), .lit (.int .u8 12), .lit (.int .u8 5), .lit (.int .u8 63), .lit (.int .u8 55), .lit (.int .u8 48), .lit (.int .u8 27), .lit (.int .u8 60), .lit (.int .u8 41), .lit (.int .u8 37), .lit (.int .u8 16), .lit (.int .u8 46), .lit (.int .u8 35), .lit (.int .u8 44), .lit (.int .u8 21), .lit (.int .u8 52), .lit (.int .u8 32), .lit (.int .u8 23), .lit (.int .u8 11), .lit (.int .u8 54), .lit (.int .u8 26), .lit (.int .u8 40), .lit (.int .u8 15), .lit (.int .u8 34), .lit (.int .u8 20), .lit (.int .u8 31), .lit (.int .u8 10), .lit (.int .u8 25), .lit (.int .u8 14), .lit (.int .u8 19), .lit (.int .u8 9), .lit (.int .u8 13), .lit (.int .u8 8), .lit (.int .u8 7), .lit (.int .u8 6)]
def laid_internal_strconv_uint64pow10 {H : Type} : DataW H := .agg [.lit (.int .u64 1), .lit (.int .u64 10), .lit (.int .u64 100), .lit (.int .u64 1000), .lit (.int .u64 10000), .lit (.int .u64 100000), .lit (.int .u64 1000000), .lit (.int .u64 10000000), .lit (.int .u64 100000000), .lit (.int .u64 1000000000), .lit (.int .u64 10000000000), .lit (.int .u64 100000000000), .lit (.int .u64 1000000000000), .lit (.int .u64 10000000000000), .lit (.int .u64 100000000000000), .lit (.int .u64 1000000000000000), .lit (.int .u64 10000000000000000), .lit (.int .u64 100000000000000000), .lit (.int .u64 1000000000000000000), .lit (.int .u64 10000000000000000000)]

/-- 'winnowerlaw6.RegexParses': WHATEVER THE INPUT: true; the input reads as it did. -/
def regexParsesSpec : ChangeSpec := { name := "regexParses", fn := fun _ => fun
  | [d] => { results := [.lit (.bool true)], args := [d] }
  | _ => none }
def regexParsesRow : OpenClaim := { program := "ytmggajpecgnjkaadoor", sum := "4bc9a1b933a2ad777243daaba3cd2dc8696501291aede07bec5946dd48f16330", func := "winnower/winnowerlaw6.RegexParses", spec := "regexParses", inPlace := ["internal/bytealg.IndexByteString"], recurses := true, named := ["math/bits.deBruijn64tab", "internal/strconv.uint64pow10", "math/bits.deBruijn32tab"], apart := false, laid := [("math/bits.deBruijn32tab", laid_math_bits_deBruijn32tab), ("math/bits.deBruijn64tab", laid_math_bits_deBruijn64tab), ("internal/strconv.uint64pow10", laid_internal_strconv_uint64pow10)] }
def RegexParsesSaid : Prop := regexParsesRow.holds Tryd.pinned (OpenSpec.ofChange regexParsesSpec)

/-- ITS FALSE NEIGHBOUR: 'it returns false'. Refute it at one input. -/
def regexParsesWrong : ChangeSpec := { name := "regexParses", fn := fun _ => fun
  | [d] => { results := [.lit (.bool false)], args := [d] }
  | _ => none }
def RegexParsesWrongFalsely : Prop := regexParsesRow.holds Tryd.pinned (OpenSpec.ofChange regexParsesWrong)

/-- 'winnowerlaw6.RegexLooks': WHATEVER THE INPUT: true; the input reads as it did. -/
def regexLooksSpec : ChangeSpec := { name := "regexLooks", fn := fun _ => fun
  | [d1, d2] => { results := [.lit (.bool true)], args := [d1, d2] }
  | _ => none }
def regexLooksRow : OpenClaim := { program := "ytmggajpecgnjkaadoor", sum := "4bc9a1b933a2ad777243daaba3cd2dc8696501291aede07bec5946dd48f16330", func := "winnower/winnowerlaw6.RegexLooks", spec := "regexLooks", inPlace := ["internal/bytealg.IndexByteString"], unfollowed := true, recurses := true, named := ["math/bits.deBruijn64tab", "internal/strconv.uint64pow10", "math/bits.deBruijn32tab"], loops := true, apart := false, laid := [("math/bits.deBruijn32tab", laid_math_bits_deBruijn32tab), ("math/bits.deBruijn64tab", laid_math_bits_deBruijn64tab), ("internal/strconv.uint64pow10", laid_internal_strconv_uint64pow10)] }
def RegexLooksSaid : Prop := regexLooksRow.holds Tryd.pinned (OpenSpec.ofChange regexLooksSpec)

/-- ITS FALSE NEIGHBOUR: 'it returns false'. Refute it at one input. -/
def regexLooksWrong : ChangeSpec := { name := "regexLooks", fn := fun _ => fun
  | [d1, d2] => { results := [.lit (.bool false)], args := [d1, d2] }
  | _ => none }
def RegexLooksWrongFalsely : Prop := regexLooksRow.holds Tryd.pinned (OpenSpec.ofChange regexLooksWrong)

/-- 'winnowerlaw6.RegexBack': WHATEVER THE INPUT: true; the input reads as it did. -/
def regexBackSpec : ChangeSpec := { name := "regexBack", fn := fun _ => fun
  | [d] => { results := [.lit (.bool true)], args := [d] }
  | _ => none }
def regexBackRow : OpenClaim := { program := "ytmggajpecgnjkaadoor", sum := "4bc9a1b933a2ad777243daaba3cd2dc8696501291aede07bec5946dd48f16330", func := "winnower/winnowerlaw6.RegexBack", spec := "regexBack", inPlace := ["internal/bytealg.IndexByteString"], recurses := true, named := ["math/bits.deBruijn64tab", "internal/strconv.uint64pow10", "math/bits.deBruijn32tab"], loops := true, apart := false, laid := [("math/bits.deBruijn32tab", laid_math_bits_deBruijn32tab), ("math/bits.deBruijn64tab", laid_math_bits_deBruijn64tab), ("internal/strconv.uint64pow10", laid_internal_strconv_uint64pow10)] }
def RegexBackSaid : Prop := regexBackRow.holds Tryd.pinned (OpenSpec.ofChange regexBackSpec)

/-- ITS FALSE NEIGHBOUR: 'it returns false'. Refute it at one input. -/
def regexBackWrong : ChangeSpec := { name := "regexBack", fn := fun _ => fun
  | [d] => { results := [.lit (.bool false)], args := [d] }
  | _ => none }
def RegexBackWrongFalsely : Prop := regexBackRow.holds Tryd.pinned (OpenSpec.ofChange regexBackWrong)

/-- 'winnowerlaw6.RegexSettles': WHATEVER THE INPUT: true; the input reads as it did. -/
def regexSettlesSpec : ChangeSpec := { name := "regexSettles", fn := fun _ => fun
  | [d] => { results := [.lit (.bool true)], args := [d] }
  | _ => none }
def regexSettlesRow : OpenClaim := { program := "ytmggajpecgnjkaadoor", sum := "4bc9a1b933a2ad777243daaba3cd2dc8696501291aede07bec5946dd48f16330", func := "winnower/winnowerlaw6.RegexSettles", spec := "regexSettles", inPlace := ["internal/bytealg.IndexByteString"], recurses := true, named := ["math/bits.deBruijn64tab", "internal/strconv.uint64pow10", "math/bits.deBruijn32tab"], apart := false, laid := [("math/bits.deBruijn32tab", laid_math_bits_deBruijn32tab), ("math/bits.deBruijn64tab", laid_math_bits_deBruijn64tab), ("internal/strconv.uint64pow10", laid_internal_strconv_uint64pow10)] }
def RegexSettlesSaid : Prop := regexSettlesRow.holds Tryd.pinned (OpenSpec.ofChange regexSettlesSpec)

/-- ITS FALSE NEIGHBOUR: 'it returns false'. Refute it at one input. -/
def regexSettlesWrong : ChangeSpec := { name := "regexSettles", fn := fun _ => fun
  | [d] => { results := [.lit (.bool false)], args := [d] }
  | _ => none }
def RegexSettlesWrongFalsely : Prop := regexSettlesRow.holds Tryd.pinned (OpenSpec.ofChange regexSettlesWrong)

/-- 'winnowerlaw6.RegexMakes': WHATEVER THE INPUT: true; the input reads as it did. -/
def regexMakesSpec : ChangeSpec := { name := "regexMakes", fn := fun _ => fun
  | [d1, d2] => { results := [.lit (.bool true)], args := [d1, d2] }
  | _ => none }
def regexMakesRow : OpenClaim := { program := "ytmggajpecgnjkaadoor", sum := "4bc9a1b933a2ad777243daaba3cd2dc8696501291aede07bec5946dd48f16330", func := "winnower/winnowerlaw6.RegexMakes", spec := "regexMakes", inPlace := ["internal/bytealg.IndexByteString"], recurses := true, named := ["math/bits.deBruijn64tab", "internal/strconv.uint64pow10", "math/bits.deBruijn32tab"], loops := true, apart := false, laid := [("math/bits.deBruijn32tab", laid_math_bits_deBruijn32tab), ("math/bits.deBruijn64tab", laid_math_bits_deBruijn64tab), ("internal/strconv.uint64pow10", laid_internal_strconv_uint64pow10)] }
def RegexMakesSaid : Prop := regexMakesRow.holds Tryd.pinned (OpenSpec.ofChange regexMakesSpec)

/-- ITS FALSE NEIGHBOUR: 'it returns false'. Refute it at one input. -/
def regexMakesWrong : ChangeSpec := { name := "regexMakes", fn := fun _ => fun
  | [d1, d2] => { results := [.lit (.bool false)], args := [d1, d2] }
  | _ => none }
def RegexMakesWrongFalsely : Prop := regexMakesRow.holds Tryd.pinned (OpenSpec.ofChange regexMakesWrong)

/-- 'winnowerlaw6.RegexBytes': WHATEVER THE INPUT: true; the input reads as it did. -/
def regexBytesSpec : ChangeSpec := { name := "regexBytes", fn := fun _ => fun
  | [d] => { results := [.lit (.bool true)], args := [d] }
  | _ => none }
def regexBytesRow : OpenClaim := { program := "ytmggajpecgnjkaadoor", sum := "4bc9a1b933a2ad777243daaba3cd2dc8696501291aede07bec5946dd48f16330", func := "winnower/winnowerlaw6.RegexBytes", spec := "regexBytes", inPlace := ["internal/bytealg.IndexByteString"], recurses := true, named := ["math/bits.deBruijn64tab", "internal/strconv.uint64pow10", "math/bits.deBruijn32tab"], apart := false, laid := [("math/bits.deBruijn32tab", laid_math_bits_deBruijn32tab), ("math/bits.deBruijn64tab", laid_math_bits_deBruijn64tab), ("internal/strconv.uint64pow10", laid_internal_strconv_uint64pow10)] }
def RegexBytesSaid : Prop := regexBytesRow.holds Tryd.pinned (OpenSpec.ofChange regexBytesSpec)

/-- ITS FALSE NEIGHBOUR: 'it returns false'. Refute it at one input. -/
def regexBytesWrong : ChangeSpec := { name := "regexBytes", fn := fun _ => fun
  | [d] => { results := [.lit (.bool false)], args := [d] }
  | _ => none }
def RegexBytesWrongFalsely : Prop := regexBytesRow.holds Tryd.pinned (OpenSpec.ofChange regexBytesWrong)

/-- 'winnowerlaw6.RegexTimes': WHATEVER THE INPUT: true; the input reads as it did. -/
def regexTimesSpec : ChangeSpec := { name := "regexTimes", fn := fun _ => fun
  | [d1, d2, d3] => { results := [.lit (.bool true)], args := [d1, d2, d3] }
  | _ => none }
def regexTimesRow : OpenClaim := { program := "ytmggajpecgnjkaadoor", sum := "4bc9a1b933a2ad777243daaba3cd2dc8696501291aede07bec5946dd48f16330", func := "winnower/winnowerlaw6.RegexTimes", spec := "regexTimes", inPlace := ["internal/bytealg.IndexByteString"], recurses := true, named := ["math/bits.deBruijn64tab", "internal/strconv.uint64pow10", "math/bits.deBruijn32tab"], apart := false, laid := [("math/bits.deBruijn32tab", laid_math_bits_deBruijn32tab), ("math/bits.deBruijn64tab", laid_math_bits_deBruijn64tab), ("internal/strconv.uint64pow10", laid_internal_strconv_uint64pow10)] }
def RegexTimesSaid : Prop := regexTimesRow.holds Tryd.pinned (OpenSpec.ofChange regexTimesSpec)

/-- ITS FALSE NEIGHBOUR: 'it returns false'. Refute it at one input. -/
def regexTimesWrong : ChangeSpec := { name := "regexTimes", fn := fun _ => fun
  | [d1, d2, d3] => { results := [.lit (.bool false)], args := [d1, d2, d3] }
  | _ => none }
def RegexTimesWrongFalsely : Prop := regexTimesRow.holds Tryd.pinned (OpenSpec.ofChange regexTimesWrong)

/-- 'winnowerlaw6.RegexRows': WHATEVER THE INPUT: true; the input reads as it did. -/
def regexRowsSpec : ChangeSpec := { name := "regexRows", fn := fun _ => fun
  | [d] => { results := [.lit (.bool true)], args := [d] }
  | _ => none }
def regexRowsRow : OpenClaim := { program := "ytmggajpecgnjkaadoor", sum := "4bc9a1b933a2ad777243daaba3cd2dc8696501291aede07bec5946dd48f16330", func := "winnower/winnowerlaw6.RegexRows", spec := "regexRows", inPlace := ["internal/bytealg.IndexByteString"], recurses := true, named := ["math/bits.deBruijn64tab", "internal/strconv.uint64pow10", "math/bits.deBruijn32tab"], apart := false, laid := [("math/bits.deBruijn32tab", laid_math_bits_deBruijn32tab), ("math/bits.deBruijn64tab", laid_math_bits_deBruijn64tab), ("internal/strconv.uint64pow10", laid_internal_strconv_uint64pow10)] }
def RegexRowsSaid : Prop := regexRowsRow.holds Tryd.pinned (OpenSpec.ofChange regexRowsSpec)

/-- ITS FALSE NEIGHBOUR: 'it returns false'. Refute it at one input. -/
def regexRowsWrong : ChangeSpec := { name := "regexRows", fn := fun _ => fun
  | [d] => { results := [.lit (.bool false)], args := [d] }
  | _ => none }
def RegexRowsWrongFalsely : Prop := regexRowsRow.holds Tryd.pinned (OpenSpec.ofChange regexRowsWrong)

/-- 'winnowerlaw7.LangMeans': WHATEVER THE INPUT: true; the input reads as it did. -/
def langMeansSpec : ChangeSpec := { name := "langMeans", fn := fun _ => fun
  | [d1, d2, d3] => { results := [.lit (.bool true)], args := [d1, d2, d3] }
  | _ => none }
def langMeansRow : OpenClaim := { program := "ytmggajpecgnjkaadoor", sum := "4bc9a1b933a2ad777243daaba3cd2dc8696501291aede07bec5946dd48f16330", func := "winnower/winnowerlaw7.LangMeans", spec := "langMeans", unfollowed := true, recurses := true, named := ["math/bits.deBruijn64tab", "internal/strconv.uint64pow10", "math/bits.deBruijn32tab"], loops := true, apart := false, laid := [("math/bits.deBruijn32tab", laid_math_bits_deBruijn32tab), ("math/bits.deBruijn64tab", laid_math_bits_deBruijn64tab), ("internal/strconv.uint64pow10", laid_internal_strconv_uint64pow10)] }
def LangMeansSaid : Prop := langMeansRow.holds Tryd.pinned (OpenSpec.ofChange langMeansSpec)

/-- ITS FALSE NEIGHBOUR: 'it returns false'. Refute it at one input. -/
def langMeansWrong : ChangeSpec := { name := "langMeans", fn := fun _ => fun
  | [d1, d2, d3] => { results := [.lit (.bool false)], args := [d1, d2, d3] }
  | _ => none }
def LangMeansWrongFalsely : Prop := langMeansRow.holds Tryd.pinned (OpenSpec.ofChange langMeansWrong)

/-- 'winnowerlaw7.LangTimes': WHATEVER THE INPUT: true; the input reads as it did. -/
def langTimesSpec : ChangeSpec := { name := "langTimes", fn := fun _ => fun
  | [d1, d2, d3, d4] => { results := [.lit (.bool true)], args := [d1, d2, d3, d4] }
  | _ => none }
def langTimesRow : OpenClaim := { program := "ytmggajpecgnjkaadoor", sum := "4bc9a1b933a2ad777243daaba3cd2dc8696501291aede07bec5946dd48f16330", func := "winnower/winnowerlaw7.LangTimes", spec := "langTimes", unfollowed := true, recurses := true, named := ["math/bits.deBruijn64tab", "internal/strconv.uint64pow10", "math/bits.deBruijn32tab"], loops := true, apart := false, laid := [("math/bits.deBruijn32tab", laid_math_bits_deBruijn32tab), ("math/bits.deBruijn64tab", laid_math_bits_deBruijn64tab), ("internal/strconv.uint64pow10", laid_internal_strconv_uint64pow10)] }
def LangTimesSaid : Prop := langTimesRow.holds Tryd.pinned (OpenSpec.ofChange langTimesSpec)

/-- ITS FALSE NEIGHBOUR: 'it returns false'. Refute it at one input. -/
def langTimesWrong : ChangeSpec := { name := "langTimes", fn := fun _ => fun
  | [d1, d2, d3, d4] => { results := [.lit (.bool false)], args := [d1, d2, d3, d4] }
  | _ => none }
def LangTimesWrongFalsely : Prop := langTimesRow.holds Tryd.pinned (OpenSpec.ofChange langTimesWrong)

/-- 'winnowerlaw7.LangTexts': WHATEVER THE INPUT: true; the input reads as it did. -/
def langTextsSpec : ChangeSpec := { name := "langTexts", fn := fun _ => fun
  | [d1, d2] => { results := [.lit (.bool true)], args := [d1, d2] }
  | _ => none }
def langTextsRow : OpenClaim := { program := "ytmggajpecgnjkaadoor", sum := "4bc9a1b933a2ad777243daaba3cd2dc8696501291aede07bec5946dd48f16330", func := "winnower/winnowerlaw7.LangTexts", spec := "langTexts", unfollowed := true, recurses := true, named := ["math/bits.deBruijn64tab", "internal/strconv.uint64pow10", "math/bits.deBruijn32tab"], apart := false, laid := [("math/bits.deBruijn32tab", laid_math_bits_deBruijn32tab), ("math/bits.deBruijn64tab", laid_math_bits_deBruijn64tab), ("internal/strconv.uint64pow10", laid_internal_strconv_uint64pow10)] }
def LangTextsSaid : Prop := langTextsRow.holds Tryd.pinned (OpenSpec.ofChange langTextsSpec)

/-- ITS FALSE NEIGHBOUR: 'it returns false'. Refute it at one input. -/
def langTextsWrong : ChangeSpec := { name := "langTexts", fn := fun _ => fun
  | [d1, d2] => { results := [.lit (.bool false)], args := [d1, d2] }
  | _ => none }
def LangTextsWrongFalsely : Prop := langTextsRow.holds Tryd.pinned (OpenSpec.ofChange langTextsWrong)

/-- 'winnowerlaw7.LangShifts': WHATEVER THE INPUT: true; the input reads as it did. -/
def langShiftsSpec : ChangeSpec := { name := "langShifts", fn := fun _ => fun
  | [d1, d2, d3] => { results := [.lit (.bool true)], args := [d1, d2, d3] }
  | _ => none }
def langShiftsRow : OpenClaim := { program := "ytmggajpecgnjkaadoor", sum := "4bc9a1b933a2ad777243daaba3cd2dc8696501291aede07bec5946dd48f16330", func := "winnower/winnowerlaw7.LangShifts", spec := "langShifts", unfollowed := true, recurses := true, named := ["math/bits.deBruijn64tab", "internal/strconv.uint64pow10", "math/bits.deBruijn32tab"], loops := true, apart := false, laid := [("math/bits.deBruijn32tab", laid_math_bits_deBruijn32tab), ("math/bits.deBruijn64tab", laid_math_bits_deBruijn64tab), ("internal/strconv.uint64pow10", laid_internal_strconv_uint64pow10)] }
def LangShiftsSaid : Prop := langShiftsRow.holds Tryd.pinned (OpenSpec.ofChange langShiftsSpec)

/-- ITS FALSE NEIGHBOUR: 'it returns false'. Refute it at one input. -/
def langShiftsWrong : ChangeSpec := { name := "langShifts", fn := fun _ => fun
  | [d1, d2, d3] => { results := [.lit (.bool false)], args := [d1, d2, d3] }
  | _ => none }
def LangShiftsWrongFalsely : Prop := langShiftsRow.holds Tryd.pinned (OpenSpec.ofChange langShiftsWrong)

/-- 'winnowerlaw7.LangAll': WHATEVER THE INPUT: true; the input reads as it did. -/
def langAllSpec : ChangeSpec := { name := "langAll", fn := fun _ => fun
  | [d1, d2] => { results := [.lit (.bool true)], args := [d1, d2] }
  | _ => none }
def langAllRow : OpenClaim := { program := "ytmggajpecgnjkaadoor", sum := "4bc9a1b933a2ad777243daaba3cd2dc8696501291aede07bec5946dd48f16330", func := "winnower/winnowerlaw7.LangAll", spec := "langAll", unfollowed := true, recurses := true, named := ["math/bits.deBruijn64tab", "internal/strconv.uint64pow10", "math/bits.deBruijn32tab"], apart := false, laid := [("math/bits.deBruijn32tab", laid_math_bits_deBruijn32tab), ("math/bits.deBruijn64tab", laid_math_bits_deBruijn64tab), ("internal/strconv.uint64pow10", laid_internal_strconv_uint64pow10)] }
def LangAllSaid : Prop := langAllRow.holds Tryd.pinned (OpenSpec.ofChange langAllSpec)

/-- ITS FALSE NEIGHBOUR: 'it returns false'. Refute it at one input. -/
def langAllWrong : ChangeSpec := { name := "langAll", fn := fun _ => fun
  | [d1, d2] => { results := [.lit (.bool false)], args := [d1, d2] }
  | _ => none }
def LangAllWrongFalsely : Prop := langAllRow.holds Tryd.pinned (OpenSpec.ofChange langAllWrong)

/- THE SECOND FORM. 'bulk': how many values and letters a reading holds, each counted each time it is reached (what is shared counts as often as it is met; a slice's spare places count too). A statement '..UptoSaid' is the law's where the arguments, and the package variables that the reading takes, are together of bulk at most 1048576: NARROWER than '..Said'. Prove '..Said' where nothing that the law and all that it calls make is longer than what came in: it says more and counts as full. Else prove '..UptoSaid'. A law counts once. -/
mutual
def uptoBulk {H : Type} : DataW H → Nat
  | .lit (.string bytes) => bytes.length + 1
  | .lit _ => 1
  | .nil => 1
  | .ptr d => uptoBulk d + 1
  | .slice elems spare => uptoBulkAll elems + uptoBulkAll spare + 1
  | .agg parts => uptoBulkAll parts + 1
  | .iface _ d => uptoBulk d + 1
  | .map entries => uptoBulkEntries entries + 1
  | .held _ => 1
def uptoBulkAll {H : Type} : List (DataW H) → Nat
  | [] => 0
  | d :: r => uptoBulk d + uptoBulkAll r
def uptoBulkEntries {H : Type} : List (Lit × DataW H) → Nat
  | [] => 0
  | x :: r => uptoBulkEntry x + uptoBulkEntries r
def uptoBulkEntry {H : Type} : Lit × DataW H → Nat
  | (.string bytes, d) => bytes.length + uptoBulk d + 1
  | (_, d) => uptoBulk d + 1
 end
def uptoSmall : (H : Type) → List (DataW H) → Bool := fun _ ds => decide (uptoBulkAll ds ≤ 1048576)
def OpenSpec.upto (s : _root_.Go.ChangeSpec) : _root_.Go.OpenSpec := { _root_.Go.OpenSpec.ofChange s with cond := some uptoSmall }

/-- 'winnowerlaw6.RegexParses', WHERE WHAT IT READS IS OF BULK AT MOST 1048576: true; the input reads as it did. -/
def regexParsesUptoRow : OpenClaim := { program := "ytmggajpecgnjkaadoor", sum := "4bc9a1b933a2ad777243daaba3cd2dc8696501291aede07bec5946dd48f16330", func := "winnower/winnowerlaw6.RegexParses", spec := "regexParses", inPlace := ["internal/bytealg.IndexByteString"], recurses := true, named := ["math/bits.deBruijn64tab", "internal/strconv.uint64pow10", "math/bits.deBruijn32tab"], apart := false, laid := [("math/bits.deBruijn32tab", laid_math_bits_deBruijn32tab), ("math/bits.deBruijn64tab", laid_math_bits_deBruijn64tab), ("internal/strconv.uint64pow10", laid_internal_strconv_uint64pow10)], narrowed := true }
def RegexParsesUptoSaid : Prop := regexParsesUptoRow.holds Tryd.pinned (OpenSpec.upto regexParsesSpec)

/-- 'winnowerlaw6.RegexLooks', WHERE WHAT IT READS IS OF BULK AT MOST 1048576: true; the input reads as it did. -/
def regexLooksUptoRow : OpenClaim := { program := "ytmggajpecgnjkaadoor", sum := "4bc9a1b933a2ad777243daaba3cd2dc8696501291aede07bec5946dd48f16330", func := "winnower/winnowerlaw6.RegexLooks", spec := "regexLooks", inPlace := ["internal/bytealg.IndexByteString"], unfollowed := true, recurses := true, named := ["math/bits.deBruijn64tab", "internal/strconv.uint64pow10", "math/bits.deBruijn32tab"], loops := true, apart := false, laid := [("math/bits.deBruijn32tab", laid_math_bits_deBruijn32tab), ("math/bits.deBruijn64tab", laid_math_bits_deBruijn64tab), ("internal/strconv.uint64pow10", laid_internal_strconv_uint64pow10)], narrowed := true }
def RegexLooksUptoSaid : Prop := regexLooksUptoRow.holds Tryd.pinned (OpenSpec.upto regexLooksSpec)

/-- 'winnowerlaw6.RegexBack', WHERE WHAT IT READS IS OF BULK AT MOST 1048576: true; the input reads as it did. -/
def regexBackUptoRow : OpenClaim := { program := "ytmggajpecgnjkaadoor", sum := "4bc9a1b933a2ad777243daaba3cd2dc8696501291aede07bec5946dd48f16330", func := "winnower/winnowerlaw6.RegexBack", spec := "regexBack", inPlace := ["internal/bytealg.IndexByteString"], recurses := true, named := ["math/bits.deBruijn64tab", "internal/strconv.uint64pow10", "math/bits.deBruijn32tab"], loops := true, apart := false, laid := [("math/bits.deBruijn32tab", laid_math_bits_deBruijn32tab), ("math/bits.deBruijn64tab", laid_math_bits_deBruijn64tab), ("internal/strconv.uint64pow10", laid_internal_strconv_uint64pow10)], narrowed := true }
def RegexBackUptoSaid : Prop := regexBackUptoRow.holds Tryd.pinned (OpenSpec.upto regexBackSpec)

/-- 'winnowerlaw6.RegexSettles', WHERE WHAT IT READS IS OF BULK AT MOST 1048576: true; the input reads as it did. -/
def regexSettlesUptoRow : OpenClaim := { program := "ytmggajpecgnjkaadoor", sum := "4bc9a1b933a2ad777243daaba3cd2dc8696501291aede07bec5946dd48f16330", func := "winnower/winnowerlaw6.RegexSettles", spec := "regexSettles", inPlace := ["internal/bytealg.IndexByteString"], recurses := true, named := ["math/bits.deBruijn64tab", "internal/strconv.uint64pow10", "math/bits.deBruijn32tab"], apart := false, laid := [("math/bits.deBruijn32tab", laid_math_bits_deBruijn32tab), ("math/bits.deBruijn64tab", laid_math_bits_deBruijn64tab), ("internal/strconv.uint64pow10", laid_internal_strconv_uint64pow10)], narrowed := true }
def RegexSettlesUptoSaid : Prop := regexSettlesUptoRow.holds Tryd.pinned (OpenSpec.upto regexSettlesSpec)

/-- 'winnowerlaw6.RegexMakes', WHERE WHAT IT READS IS OF BULK AT MOST 1048576: true; the input reads as it did. -/
def regexMakesUptoRow : OpenClaim := { program := "ytmggajpecgnjkaadoor", sum := "4bc9a1b933a2ad777243daaba3cd2dc8696501291aede07bec5946dd48f16330", func := "winnower/winnowerlaw6.RegexMakes", spec := "regexMakes", inPlace := ["internal/bytealg.IndexByteString"], recurses := true, named := ["math/bits.deBruijn64tab", "internal/strconv.uint64pow10", "math/bits.deBruijn32tab"], loops := true, apart := false, laid := [("math/bits.deBruijn32tab", laid_math_bits_deBruijn32tab), ("math/bits.deBruijn64tab", laid_math_bits_deBruijn64tab), ("internal/strconv.uint64pow10", laid_internal_strconv_uint64pow10)], narrowed := true }
def RegexMakesUptoSaid : Prop := regexMakesUptoRow.holds Tryd.pinned (OpenSpec.upto regexMakesSpec)

/-- 'winnowerlaw6.RegexBytes', WHERE WHAT IT READS IS OF BULK AT MOST 1048576: true; the input reads as it did. -/
def regexBytesUptoRow : OpenClaim := { program := "ytmggajpecgnjkaadoor", sum := "4bc9a1b933a2ad777243daaba3cd2dc8696501291aede07bec5946dd48f16330", func := "winnower/winnowerlaw6.RegexBytes", spec := "regexBytes", inPlace := ["internal/bytealg.IndexByteString"], recurses := true, named := ["math/bits.deBruijn64tab", "internal/strconv.uint64pow10", "math/bits.deBruijn32tab"], apart := false, laid := [("math/bits.deBruijn32tab", laid_math_bits_deBruijn32tab), ("math/bits.deBruijn64tab", laid_math_bits_deBruijn64tab), ("internal/strconv.uint64pow10", laid_internal_strconv_uint64pow10)], narrowed := true }
def RegexBytesUptoSaid : Prop := regexBytesUptoRow.holds Tryd.pinned (OpenSpec.upto regexBytesSpec)

/-- 'winnowerlaw6.RegexTimes', WHERE WHAT IT READS IS OF BULK AT MOST 1048576: true; the input reads as it did. -/
def regexTimesUptoRow : OpenClaim := { program := "ytmggajpecgnjkaadoor", sum := "4bc9a1b933a2ad777243daaba3cd2dc8696501291aede07bec5946dd48f16330", func := "winnower/winnowerlaw6.RegexTimes", spec := "regexTimes", inPlace := ["internal/bytealg.IndexByteString"], recurses := true, named := ["math/bits.deBruijn64tab", "internal/strconv.uint64pow10", "math/bits.deBruijn32tab"], apart := false, laid := [("math/bits.deBruijn32tab", laid_math_bits_deBruijn32tab), ("math/bits.deBruijn64tab", laid_math_bits_deBruijn64tab), ("internal/strconv.uint64pow10", laid_internal_strconv_uint64pow10)], narrowed := true }
def RegexTimesUptoSaid : Prop := regexTimesUptoRow.holds Tryd.pinned (OpenSpec.upto regexTimesSpec)

/-- 'winnowerlaw6.RegexRows', WHERE WHAT IT READS IS OF BULK AT MOST 1048576: true; the input reads as it did. -/
def regexRowsUptoRow : OpenClaim := { program := "ytmggajpecgnjkaadoor", sum := "4bc9a1b933a2ad777243daaba3cd2dc8696501291aede07bec5946dd48f16330", func := "winnower/winnowerlaw6.RegexRows", spec := "regexRows", inPlace := ["internal/bytealg.IndexByteString"], recurses := true, named := ["math/bits.deBruijn64tab", "internal/strconv.uint64pow10", "math/bits.deBruijn32tab"], apart := false, laid := [("math/bits.deBruijn32tab", laid_math_bits_deBruijn32tab), ("math/bits.deBruijn64tab", laid_math_bits_deBruijn64tab), ("internal/strconv.uint64pow10", laid_internal_strconv_uint64pow10)], narrowed := true }
def RegexRowsUptoSaid : Prop := regexRowsUptoRow.holds Tryd.pinned (OpenSpec.upto regexRowsSpec)

/-- 'winnowerlaw7.LangMeans', WHERE WHAT IT READS IS OF BULK AT MOST 1048576: true; the input reads as it did. -/
def langMeansUptoRow : OpenClaim := { program := "ytmggajpecgnjkaadoor", sum := "4bc9a1b933a2ad777243daaba3cd2dc8696501291aede07bec5946dd48f16330", func := "winnower/winnowerlaw7.LangMeans", spec := "langMeans", unfollowed := true, recurses := true, named := ["math/bits.deBruijn64tab", "internal/strconv.uint64pow10", "math/bits.deBruijn32tab"], loops := true, apart := false, laid := [("math/bits.deBruijn32tab", laid_math_bits_deBruijn32tab), ("math/bits.deBruijn64tab", laid_math_bits_deBruijn64tab), ("internal/strconv.uint64pow10", laid_internal_strconv_uint64pow10)], narrowed := true }
def LangMeansUptoSaid : Prop := langMeansUptoRow.holds Tryd.pinned (OpenSpec.upto langMeansSpec)

/-- 'winnowerlaw7.LangTimes', WHERE WHAT IT READS IS OF BULK AT MOST 1048576: true; the input reads as it did. -/
def langTimesUptoRow : OpenClaim := { program := "ytmggajpecgnjkaadoor", sum := "4bc9a1b933a2ad777243daaba3cd2dc8696501291aede07bec5946dd48f16330", func := "winnower/winnowerlaw7.LangTimes", spec := "langTimes", unfollowed := true, recurses := true, named := ["math/bits.deBruijn64tab", "internal/strconv.uint64pow10", "math/bits.deBruijn32tab"], loops := true, apart := false, laid := [("math/bits.deBruijn32tab", laid_math_bits_deBruijn32tab), ("math/bits.deBruijn64tab", laid_math_bits_deBruijn64tab), ("internal/strconv.uint64pow10", laid_internal_strconv_uint64pow10)], narrowed := true }
def LangTimesUptoSaid : Prop := langTimesUptoRow.holds Tryd.pinned (OpenSpec.upto langTimesSpec)

/-- 'winnowerlaw7.LangTexts', WHERE WHAT IT READS IS OF BULK AT MOST 1048576: true; the input reads as it did. -/
def langTextsUptoRow : OpenClaim := { program := "ytmggajpecgnjkaadoor", sum := "4bc9a1b933a2ad777243daaba3cd2dc8696501291aede07bec5946dd48f16330", func := "winnower/winnowerlaw7.LangTexts", spec := "langTexts", unfollowed := true, recurses := true, named := ["math/bits.deBruijn64tab", "internal/strconv.uint64pow10", "math/bits.deBruijn32tab"], apart := false, laid := [("math/bits.deBruijn32tab", laid_math_bits_deBruijn32tab), ("math/bits.deBruijn64tab", laid_math_bits_deBruijn64tab), ("internal/strconv.uint64pow10", laid_internal_strconv_uint64pow10)], narrowed := true }
def LangTextsUptoSaid : Prop := langTextsUptoRow.holds Tryd.pinned (OpenSpec.upto langTextsSpec)

/-- 'winnowerlaw7.LangShifts', WHERE WHAT IT READS IS OF BULK AT MOST 1048576: true; the input reads as it did. -/
def langShiftsUptoRow : OpenClaim := { program := "ytmggajpecgnjkaadoor", sum := "4bc9a1b933a2ad777243daaba3cd2dc8696501291aede07bec5946dd48f16330", func := "winnower/winnowerlaw7.LangShifts", spec := "langShifts", unfollowed := true, recurses := true, named := ["math/bits.deBruijn64tab", "internal/strconv.uint64pow10", "math/bits.deBruijn32tab"], loops := true, apart := false, laid := [("math/bits.deBruijn32tab", laid_math_bits_deBruijn32tab), ("math/bits.deBruijn64tab", laid_math_bits_deBruijn64tab), ("internal/strconv.uint64pow10", laid_internal_strconv_uint64pow10)], narrowed := true }
def LangShiftsUptoSaid : Prop := langShiftsUptoRow.holds Tryd.pinned (OpenSpec.upto langShiftsSpec)

/-- 'winnowerlaw7.LangAll', WHERE WHAT IT READS IS OF BULK AT MOST 1048576: true; the input reads as it did. -/
def langAllUptoRow : OpenClaim := { program := "ytmggajpecgnjkaadoor", sum := "4bc9a1b933a2ad777243daaba3cd2dc8696501291aede07bec5946dd48f16330", func := "winnower/winnowerlaw7.LangAll", spec := "langAll", unfollowed := true, recurses := true, named := ["math/bits.deBruijn64tab", "internal/strconv.uint64pow10", "math/bits.deBruijn32tab"], apart := false, laid := [("math/bits.deBruijn32tab", laid_math_bits_deBruijn32tab), ("math/bits.deBruijn64tab", laid_math_bits_deBruijn64tab), ("internal/strconv.uint64pow10", laid_internal_strconv_uint64pow10)], narrowed := true }
def LangAllUptoSaid : Prop := langAllUptoRow.holds Tryd.pinned (OpenSpec.upto langAllSpec)

end Rows
end Go.Proofs.YtmggajpecgnjkaaDoor
