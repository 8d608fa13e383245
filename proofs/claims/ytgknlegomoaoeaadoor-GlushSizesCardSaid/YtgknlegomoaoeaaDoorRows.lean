/-
  NARROWER THAN 'FOR EVERY INPUT', by the rows' own cells (each row's printed sentence says how): GlushTells: loops, laid · GlushMeans: loops, laid · GlushSizes: loops, laid · DfaBuilds: laid · DfaLooks: laid · DfaMeans: loops, laid · DfaTexts: laid · DfaLarge: laid.
  DERIVED. THE GIVEN ROWS OF THIS SEAT. 8 by the template 'for every input the law returns true; each argument reads behind the call as it read before'; 0 by the template 'total and deterministic' (their statements: YtgknlegomoaoeaaDoorTotals.lean).
  GIVEN WITH THE SEED: the statements are not yours to turn. If you find one false, say at which input.
  Laid BY PROGRAM, IN A SANDBOX (cutbox-rows.mjs): the forced cells as the released guide's own fill.sh prints them over the translation 7815d4b3ee59a5c5… (all of the seat's roots in one cut). By AI agents, Wed Nov 11 2026. No macro, syntax, notation, axiom, sorry.
-/
import Derived.Test.YtgknlegomoaoeaaDoorChecked
import GoSem.Claim
import GoSem.ClaimJoined
import GoSem.ClaimMapViews
import Derived.JoinedTies
import Derived.KernelRfl
namespace Go.Proofs.YtgknlegomoaoeaaDoor
/- THE CELL 'sum', in the pinned program and in every row, IS THE sha256 OF THE DUMP (.gsa) THAT YtgknlegomoaoeaaDoorProg.lean LOADS. Nothing in Lean hashes anything: it is a label: what it is worth is what the hold of that sum in a sandbox is worth. -/
noncomputable def Tryd.pinned : Pinned := { name := "ytgknlegomoaoeaadoor", sum := "7815d4b3ee59a5c5d49445687d32ad0320150f3079f5de6b3abaea6f91703322", checked := Tryd.checked }
namespace Rows
def none {H : Type} : Left H := { results := [], args := [] }

/- WHAT THE LISTED PACKAGE-LEVEL VARIABLES READ AS WHEN THE CALL BEGINS. Each datum BY PROGRAM (the guide's laid-datum.mjs) off the statement by which the dump's own 'gosem.cut.vars' lays the variable. In a bare row this is a premise. The card (YtgknlegomoaoeaaDoorCards.lean) ties it to the program's text. -/
def laid_math_bits_deBruijn32tab {H : Type} : DataW H := .agg [.lit (.int .u8 0), .lit (.int .u8 1), .lit (.int .u8 28), .lit (.int .u8 2), .lit (.int .u8 29), .lit (.int .u8 14), .lit (.int .u8 24), .lit (.int .u8 3), .lit (.int .u8 30), .lit (.int .u8 22), .lit (.int .u8 20), .lit (.int .u8 15), .lit (.int .u8 25), .lit (.int .u8 17), .lit (.int .u8 4), .lit (.int .u8 8), .lit (.int .u8 31), .lit (.int .u8 27), .lit (.int .u8 13), .lit (.int .u8 23), .lit (.int .u8 21), .lit (.int .u8 19), .lit (.int .u8 16), .lit (.int .u8 7), .lit (.int .u8 26), .lit (.int .u8 12), .lit (.int .u8 18), .lit (.int .u8 6), .lit (.int .u8 11), .lit (.int .u8 5), .lit (.int .u8 10), .lit (.int .u8 9)]
def laid_math_bits_deBruijn64tab {H : Type} : DataW H := .agg [.lit (.int .u8 0), .lit (.int .u8 1), .lit (.int .u8 56), .lit (.int .u8 2), .lit (.int .u8 57), .lit (.int .u8 49), .lit (.int .u8 28), .lit (.int .u8 3), .lit (.int .u8 61), .lit (.int .u8 58), .lit (.int .u8 42), .lit (.int .u8 50), .lit (.int .u8 38), .lit (.int .u8 29), .lit (.int .u8 17), .lit (.int .u8 4), .lit (.int .u8 62), .lit (.int .u8 47), .lit (.int .u8 59), .lit (.int .u8 36), .lit (.int .u8 45), .lit (.int .u8 43), .lit (.int .u8 51), .lit (.int .u8 22), .lit (.int .u8 53), .lit (.int .u8 39), .lit (.int .u8 33), .lit (.int .u8 30), .lit (.int .u8 24), .lit (.int .u8 18), .lit (.int .u8 12), .lit (.int .u8 5), .lit (.int .u8 63), .lit (.int .u8 55), .lit (.int .u8 48), .lit (.int .u8 27), .lit (.int .u8 60), .lit (.int .u8 41), .lit (.int .u8 37), .lit (.int .u8 16), .lit (.int .u8 46), .lit (.int .u8 35), .lit (.int .u8 44), .lit (.int .u8 21), .lit (.int .u8 52), .lit (.int .u8 32), .lit (.int .u8 23), .lit (.int .u8 11), .lit (.int .u8 54), .lit (.int .u8 26), .lit (.int .u8 40), .lit (.int .u8 15), .lit (.int .u8 34), .lit (.int .u8 20), .lit (.int .u8 31), .lit (.int .u8 10), .lit (.int .u8 25), .lit (.int .u8 14), .lit (.int .u8 19), .lit (.int .u8 9), .lit (.int .u8 13), .lit (.int .u8 8), .lit (.int .u8 7), .lit (.int .u8 6)]
def laid_internal_strconv_uint64pow10 {H : Type} : DataW H := .agg [.lit (.int .u64 1), .lit (.int .u64 10), .lit (.int .u64 100), .lit (.int .u64 1000), .lit (.int .u64 10000), .lit (.int .u64 100000), .lit (.int .u64 1000000), .lit (.int .u64 10000000), .lit (.int .u64 100000000), .lit (.int .u64 1000000000), .lit (.int .u64 10000000000), .lit (.int .u64 100000000000), .lit (.int .u64 1000000000000), .lit (.int .u64 10000000000000), .lit (.int .u64 100000000000000), .lit (.int .u64 1000000000000000), .lit (.int .u64 10000000000000000), .lit (.int .u64 100000000000000000), .lit (.int .u64 1000000000000000000), .lit (.int .u64 10000000000000000000)]

/-- 'winnowerlaw8.GlushTells': WHATEVER THE INPUT: true; the input reads as it did. -/
def glushTellsSpec : ChangeSpec := { name := "glushTells", fn := fun _ => fun
  | [d] => { results := [.lit (.bool true)], args := [d] }
  | _ => none }
def glushTellsRow : OpenClaim := { program := "ytgknlegomoaoeaadoor", sum := "7815d4b3ee59a5c5d49445687d32ad0320150f3079f5de6b3abaea6f91703322", func := "winnower/winnowerlaw8.GlushTells", spec := "glushTells", recurses := true, named := ["math/bits.deBruijn64tab", "internal/strconv.uint64pow10", "math/bits.deBruijn32tab"], loops := true, apart := false, laid := [("math/bits.deBruijn32tab", laid_math_bits_deBruijn32tab), ("math/bits.deBruijn64tab", laid_math_bits_deBruijn64tab), ("internal/strconv.uint64pow10", laid_internal_strconv_uint64pow10)] }
def GlushTellsSaid : Prop := glushTellsRow.holds Tryd.pinned (OpenSpec.ofChange glushTellsSpec)

/-- ITS FALSE NEIGHBOUR: 'it returns false'. Refute it at one input. -/
def glushTellsWrong : ChangeSpec := { name := "glushTells", fn := fun _ => fun
  | [d] => { results := [.lit (.bool false)], args := [d] }
  | _ => none }
def GlushTellsWrongFalsely : Prop := glushTellsRow.holds Tryd.pinned (OpenSpec.ofChange glushTellsWrong)

/-- 'winnowerlaw8.GlushMeans': WHATEVER THE INPUT: true; the input reads as it did. -/
def glushMeansSpec : ChangeSpec := { name := "glushMeans", fn := fun _ => fun
  | [d1, d2] => { results := [.lit (.bool true)], args := [d1, d2] }
  | _ => none }
def glushMeansRow : OpenClaim := { program := "ytgknlegomoaoeaadoor", sum := "7815d4b3ee59a5c5d49445687d32ad0320150f3079f5de6b3abaea6f91703322", func := "winnower/winnowerlaw8.GlushMeans", spec := "glushMeans", recurses := true, named := ["math/bits.deBruijn64tab", "internal/strconv.uint64pow10", "math/bits.deBruijn32tab"], loops := true, apart := false, laid := [("math/bits.deBruijn32tab", laid_math_bits_deBruijn32tab), ("math/bits.deBruijn64tab", laid_math_bits_deBruijn64tab), ("internal/strconv.uint64pow10", laid_internal_strconv_uint64pow10)] }
def GlushMeansSaid : Prop := glushMeansRow.holds Tryd.pinned (OpenSpec.ofChange glushMeansSpec)

/-- ITS FALSE NEIGHBOUR: 'it returns false'. Refute it at one input. -/
def glushMeansWrong : ChangeSpec := { name := "glushMeans", fn := fun _ => fun
  | [d1, d2] => { results := [.lit (.bool false)], args := [d1, d2] }
  | _ => none }
def GlushMeansWrongFalsely : Prop := glushMeansRow.holds Tryd.pinned (OpenSpec.ofChange glushMeansWrong)

/-- 'winnowerlaw8.GlushSizes': WHATEVER THE INPUT: true; the input reads as it did. -/
def glushSizesSpec : ChangeSpec := { name := "glushSizes", fn := fun _ => fun
  | [d1, d2, d3] => { results := [.lit (.bool true)], args := [d1, d2, d3] }
  | _ => none }
def glushSizesRow : OpenClaim := { program := "ytgknlegomoaoeaadoor", sum := "7815d4b3ee59a5c5d49445687d32ad0320150f3079f5de6b3abaea6f91703322", func := "winnower/winnowerlaw8.GlushSizes", spec := "glushSizes", recurses := true, named := ["math/bits.deBruijn64tab", "internal/strconv.uint64pow10", "math/bits.deBruijn32tab"], loops := true, apart := false, laid := [("math/bits.deBruijn32tab", laid_math_bits_deBruijn32tab), ("math/bits.deBruijn64tab", laid_math_bits_deBruijn64tab), ("internal/strconv.uint64pow10", laid_internal_strconv_uint64pow10)] }
def GlushSizesSaid : Prop := glushSizesRow.holds Tryd.pinned (OpenSpec.ofChange glushSizesSpec)

/-- ITS FALSE NEIGHBOUR: 'it returns false'. Refute it at one input. -/
def glushSizesWrong : ChangeSpec := { name := "glushSizes", fn := fun _ => fun
  | [d1, d2, d3] => { results := [.lit (.bool false)], args := [d1, d2, d3] }
  | _ => none }
def GlushSizesWrongFalsely : Prop := glushSizesRow.holds Tryd.pinned (OpenSpec.ofChange glushSizesWrong)

/-- 'winnowerlaw9.DfaBuilds': WHATEVER THE INPUT: true; the input reads as it did. -/
def dfaBuildsSpec : ChangeSpec := { name := "dfaBuilds", fn := fun _ => fun
  | [d] => { results := [.lit (.bool true)], args := [d] }
  | _ => none }
def dfaBuildsRow : OpenClaim := { program := "ytgknlegomoaoeaadoor", sum := "7815d4b3ee59a5c5d49445687d32ad0320150f3079f5de6b3abaea6f91703322", func := "winnower/winnowerlaw9.DfaBuilds", spec := "dfaBuilds", recurses := true, named := ["math/bits.deBruijn64tab"], apart := false, laid := [("math/bits.deBruijn64tab", laid_math_bits_deBruijn64tab)] }
def DfaBuildsSaid : Prop := dfaBuildsRow.holds Tryd.pinned (OpenSpec.ofChange dfaBuildsSpec)

/-- ITS FALSE NEIGHBOUR: 'it returns false'. Refute it at one input. -/
def dfaBuildsWrong : ChangeSpec := { name := "dfaBuilds", fn := fun _ => fun
  | [d] => { results := [.lit (.bool false)], args := [d] }
  | _ => none }
def DfaBuildsWrongFalsely : Prop := dfaBuildsRow.holds Tryd.pinned (OpenSpec.ofChange dfaBuildsWrong)

/-- 'winnowerlaw9.DfaLooks': WHATEVER THE INPUT: true; the input reads as it did. -/
def dfaLooksSpec : ChangeSpec := { name := "dfaLooks", fn := fun _ => fun
  | [d1, d2, d3] => { results := [.lit (.bool true)], args := [d1, d2, d3] }
  | _ => none }
def dfaLooksRow : OpenClaim := { program := "ytgknlegomoaoeaadoor", sum := "7815d4b3ee59a5c5d49445687d32ad0320150f3079f5de6b3abaea6f91703322", func := "winnower/winnowerlaw9.DfaLooks", spec := "dfaLooks", recurses := true, named := ["math/bits.deBruijn64tab"], apart := false, laid := [("math/bits.deBruijn64tab", laid_math_bits_deBruijn64tab)] }
def DfaLooksSaid : Prop := dfaLooksRow.holds Tryd.pinned (OpenSpec.ofChange dfaLooksSpec)

/-- ITS FALSE NEIGHBOUR: 'it returns false'. Refute it at one input. -/
def dfaLooksWrong : ChangeSpec := { name := "dfaLooks", fn := fun _ => fun
  | [d1, d2, d3] => { results := [.lit (.bool false)], args := [d1, d2, d3] }
  | _ => none }
def DfaLooksWrongFalsely : Prop := dfaLooksRow.holds Tryd.pinned (OpenSpec.ofChange dfaLooksWrong)

/-- 'winnowerlaw9.DfaMeans': WHATEVER THE INPUT: true; the input reads as it did. -/
def dfaMeansSpec : ChangeSpec := { name := "dfaMeans", fn := fun _ => fun
  | [d1, d2] => { results := [.lit (.bool true)], args := [d1, d2] }
  | _ => none }
def dfaMeansRow : OpenClaim := { program := "ytgknlegomoaoeaadoor", sum := "7815d4b3ee59a5c5d49445687d32ad0320150f3079f5de6b3abaea6f91703322", func := "winnower/winnowerlaw9.DfaMeans", spec := "dfaMeans", recurses := true, named := ["math/bits.deBruijn64tab"], loops := true, apart := false, laid := [("math/bits.deBruijn64tab", laid_math_bits_deBruijn64tab)] }
def DfaMeansSaid : Prop := dfaMeansRow.holds Tryd.pinned (OpenSpec.ofChange dfaMeansSpec)

/-- ITS FALSE NEIGHBOUR: 'it returns false'. Refute it at one input. -/
def dfaMeansWrong : ChangeSpec := { name := "dfaMeans", fn := fun _ => fun
  | [d1, d2] => { results := [.lit (.bool false)], args := [d1, d2] }
  | _ => none }
def DfaMeansWrongFalsely : Prop := dfaMeansRow.holds Tryd.pinned (OpenSpec.ofChange dfaMeansWrong)

/-- 'winnowerlaw9.DfaTexts': WHATEVER THE INPUT: true; the input reads as it did. -/
def dfaTextsSpec : ChangeSpec := { name := "dfaTexts", fn := fun _ => fun
  | [d] => { results := [.lit (.bool true)], args := [d] }
  | _ => none }
def dfaTextsRow : OpenClaim := { program := "ytgknlegomoaoeaadoor", sum := "7815d4b3ee59a5c5d49445687d32ad0320150f3079f5de6b3abaea6f91703322", func := "winnower/winnowerlaw9.DfaTexts", spec := "dfaTexts", recurses := true, named := ["math/bits.deBruijn64tab"], apart := false, laid := [("math/bits.deBruijn64tab", laid_math_bits_deBruijn64tab)] }
def DfaTextsSaid : Prop := dfaTextsRow.holds Tryd.pinned (OpenSpec.ofChange dfaTextsSpec)

/-- ITS FALSE NEIGHBOUR: 'it returns false'. Refute it at one input. -/
def dfaTextsWrong : ChangeSpec := { name := "dfaTexts", fn := fun _ => fun
  | [d] => { results := [.lit (.bool false)], args := [d] }
  | _ => none }
def DfaTextsWrongFalsely : Prop := dfaTextsRow.holds Tryd.pinned (OpenSpec.ofChange dfaTextsWrong)

/-- 'winnowerlaw9.DfaLarge': WHATEVER THE INPUT: true; the input reads as it did. -/
def dfaLargeSpec : ChangeSpec := { name := "dfaLarge", fn := fun _ => fun
  | [d] => { results := [.lit (.bool true)], args := [d] }
  | _ => none }
def dfaLargeRow : OpenClaim := { program := "ytgknlegomoaoeaadoor", sum := "7815d4b3ee59a5c5d49445687d32ad0320150f3079f5de6b3abaea6f91703322", func := "winnower/winnowerlaw9.DfaLarge", spec := "dfaLarge", recurses := true, named := ["math/bits.deBruijn64tab"], apart := false, laid := [("math/bits.deBruijn64tab", laid_math_bits_deBruijn64tab)] }
def DfaLargeSaid : Prop := dfaLargeRow.holds Tryd.pinned (OpenSpec.ofChange dfaLargeSpec)

/-- ITS FALSE NEIGHBOUR: 'it returns false'. Refute it at one input. -/
def dfaLargeWrong : ChangeSpec := { name := "dfaLarge", fn := fun _ => fun
  | [d] => { results := [.lit (.bool false)], args := [d] }
  | _ => none }
def DfaLargeWrongFalsely : Prop := dfaLargeRow.holds Tryd.pinned (OpenSpec.ofChange dfaLargeWrong)

/- THE SECOND FORM. 'bulk': how many values and letters a reading holds, each counted each time it is reached (what is shared counts as often as it is met; a slice's spare places count too). A statement '..UptoSaid' is the law's where the arguments, and the package variables that the reading takes, are together of bulk at most 1048576: NARROWER than '..Said'. Prove '..Said' where nothing that the law and all that it calls make is longer than what came in: it says more and counts as full. Else prove '..UptoSaid'. A law counts once. -/
mutual
def uptoBulk {H : Type} : DataW H → Nat
  | .lit (.string bytes) => bytes.length + 1
  | .lit _ => 1
  | .nil => 1
  | .ptr d => uptoBulk d + 1
  | .slice elems spare => uptoBulkAll elems + uptoBulkAll spare + 1
  | .agg parts => uptoBulkAll parts + 1
  | .iface _ d => uptoBulk d + 1
  | .map entries => uptoBulkEntries entries + 1
  | .held _ => 1
def uptoBulkAll {H : Type} : List (DataW H) → Nat
  | [] => 0
  | d :: r => uptoBulk d + uptoBulkAll r
def uptoBulkEntries {H : Type} : List (Lit × DataW H) → Nat
  | [] => 0
  | x :: r => uptoBulkEntry x + uptoBulkEntries r
def uptoBulkEntry {H : Type} : Lit × DataW H → Nat
  | (.string bytes, d) => bytes.length + uptoBulk d + 1
  | (_, d) => uptoBulk d + 1
 end
def uptoSmall : (H : Type) → List (DataW H) → Bool := fun _ ds => decide (uptoBulkAll ds ≤ 1048576)
def OpenSpec.upto (s : _root_.Go.ChangeSpec) : _root_.Go.OpenSpec := { _root_.Go.OpenSpec.ofChange s with cond := some uptoSmall }

/-- 'winnowerlaw8.GlushTells', WHERE WHAT IT READS IS OF BULK AT MOST 1048576: true; the input reads as it did. -/
def glushTellsUptoRow : OpenClaim := { program := "ytgknlegomoaoeaadoor", sum := "7815d4b3ee59a5c5d49445687d32ad0320150f3079f5de6b3abaea6f91703322", func := "winnower/winnowerlaw8.GlushTells", spec := "glushTells", recurses := true, named := ["math/bits.deBruijn64tab", "internal/strconv.uint64pow10", "math/bits.deBruijn32tab"], loops := true, apart := false, laid := [("math/bits.deBruijn32tab", laid_math_bits_deBruijn32tab), ("math/bits.deBruijn64tab", laid_math_bits_deBruijn64tab), ("internal/strconv.uint64pow10", laid_internal_strconv_uint64pow10)], narrowed := true }
def GlushTellsUptoSaid : Prop := glushTellsUptoRow.holds Tryd.pinned (OpenSpec.upto glushTellsSpec)

/-- 'winnowerlaw8.GlushMeans', WHERE WHAT IT READS IS OF BULK AT MOST 1048576: true; the input reads as it did. -/
def glushMeansUptoRow : OpenClaim := { program := "ytgknlegomoaoeaadoor", sum := "7815d4b3ee59a5c5d49445687d32ad0320150f3079f5de6b3abaea6f91703322", func := "winnower/winnowerlaw8.GlushMeans", spec := "glushMeans", recurses := true, named := ["math/bits.deBruijn64tab", "internal/strconv.uint64pow10", "math/bits.deBruijn32tab"], loops := true, apart := false, laid := [("math/bits.deBruijn32tab", laid_math_bits_deBruijn32tab), ("math/bits.deBruijn64tab", laid_math_bits_deBruijn64tab), ("internal/strconv.uint64pow10", laid_internal_strconv_uint64pow10)], narrowed := true }
def GlushMeansUptoSaid : Prop := glushMeansUptoRow.holds Tryd.pinned (OpenSpec.upto glushMeansSpec)

/-- 'winnowerlaw8.GlushSizes', WHERE WHAT IT READS IS OF BULK AT MOST 1048576: true; the input reads as it did. -/
def glushSizesUptoRow : OpenClaim := { program := "ytgknlegomoaoeaadoor", sum := "7815d4b3ee59a5c5d49445687d32ad0320150f3079f5de6b3abaea6f91703322", func := "winnower/winnowerlaw8.GlushSizes", spec := "glushSizes", recurses := true, named := ["math/bits.deBruijn64tab", "internal/strconv.uint64pow10", "math/bits.deBruijn32tab"], loops := true, apart := false, laid := [("math/bits.deBruijn32tab", laid_math_bits_deBruijn32tab), ("math/bits.deBruijn64tab", laid_math_bits_deBruijn64tab), ("internal/strconv.uint64pow10", laid_internal_strconv_uint64pow10)], narrowed := true }
def GlushSizesUptoSaid : Prop := glushSizesUptoRow.holds Tryd.pinned (OpenSpec.upto glushSizesSpec)

/-- 'winnowerlaw9.DfaBuilds', WHERE WHAT IT READS IS OF BULK AT MOST 1048576: true; the input reads as it did. -/
def dfaBuildsUptoRow : OpenClaim := { program := "ytgknlegomoaoeaadoor", sum := "7815d4b3ee59a5c5d49445687d32ad0320150f3079f5de6b3abaea6f91703322", func := "winnower/winnowerlaw9.DfaBuilds", spec := "dfaBuilds", recurses := true, named := ["math/bits.deBruijn64tab"], apart := false, laid := [("math/bits.deBruijn64tab", laid_math_bits_deBruijn64tab)], narrowed := true }
def DfaBuildsUptoSaid : Prop := dfaBuildsUptoRow.holds Tryd.pinned (OpenSpec.upto dfaBuildsSpec)

/-- 'winnowerlaw9.DfaLooks', WHERE WHAT IT READS IS OF BULK AT MOST 1048576: true; the input reads as it did. -/
def dfaLooksUptoRow : OpenClaim := { program := "ytgknlegomoaoeaadoor", sum := "7815d4b3ee59a5c5d49445687d32ad0320150f3079f5de6b3abaea6f91703322", func := "winnower/winnowerlaw9.DfaLooks", spec := "dfaLooks", recurses := true, named := ["math/bits.deBruijn64tab"], apart := false, laid := [("math/bits.deBruijn64tab", laid_math_bits_deBruijn64tab)], narrowed := true }
def DfaLooksUptoSaid : Prop := dfaLooksUptoRow.holds Tryd.pinned (OpenSpec.upto dfaLooksSpec)

/-- 'winnowerlaw9.DfaMeans', WHERE WHAT IT READS IS OF BULK AT MOST 1048576: true; the input reads as it did. -/
def dfaMeansUptoRow : OpenClaim := { program := "ytgknlegomoaoeaadoor", sum := "7815d4b3ee59a5c5d49445687d32ad0320150f3079f5de6b3abaea6f91703322", func := "winnower/winnowerlaw9.DfaMeans", spec := "dfaMeans", recurses := true, named := ["math/bits.deBruijn64tab"], loops := true, apart := false, laid := [("math/bits.deBruijn64tab", laid_math_bits_deBruijn64tab)], narrowed := true }
def DfaMeansUptoSaid : Prop := dfaMeansUptoRow.holds Tryd.pinned (OpenSpec.upto dfaMeansSpec)

/-- 'winnowerlaw9.DfaTexts', WHERE WHAT IT READS IS OF BULK AT MOST 1048576: true; the input reads as it did. -/
def dfaTextsUptoRow : OpenClaim := { program := "ytgknlegomoaoeaadoor", sum := "7815d4b3ee59a5c5d49445687d32ad0320150f3079f5de6b3abaea6f91703322", func := "winnower/winnowerlaw9.DfaTexts", spec := "dfaTexts", recurses := true, named := ["math/bits.deBruijn64tab"], apart := false, laid := [("math/bits.deBruijn64tab", laid_math_bits_deBruijn64tab)], narrowed := true }
def DfaTextsUptoSaid : Prop := dfaTextsUptoRow.holds Tryd.pinned (OpenSpec.upto dfaTextsSpec)

/-- 'winnowerlaw9.DfaLarge', WHERE WHAT IT READS IS OF BULK AT MOST 1048576: true; the input reads as it did. -/
def dfaLargeUptoRow : OpenClaim := { program := "ytgknlegomoaoeaadoor", sum := "7815d4b3ee59a5c5d49445687d32ad0320150f3079f5de6b3abaea6f91703322", func := "winnower/winnowerlaw9.DfaLarge", spec := "dfaLarge", recurses := true, named := ["math/bits.deBruijn64tab"], apart := false, laid := [("math/bits.deBruijn64tab", laid_math_bits_deBruijn64tab)], narrowed := true }
def DfaLargeUptoSaid : Prop := dfaLargeUptoRow.holds Tryd.pinned (OpenSpec.upto dfaLargeSpec)

end Rows
end Go.Proofs.YtgknlegomoaoeaaDoor
