/-
  No cell of these rows narrows 'for every input' (looked for: loops, veiled, ifaces, maps, wideKeys, modest, calm, conditions, laid).
  DERIVED. THE GIVEN ROWS OF THIS SEAT. 5 by the template 'for every input the law returns true; each argument reads behind the call as it read before'; 0 by the template 'total and deterministic' (their statements: YtbigdkkjajlekaaTotals.lean).
  GIVEN WITH THE SEED: the statements are not yours to turn. If you find one false, say at which input.
  Laid BY PROGRAM, IN A SANDBOX (cutbox-rows.mjs): the forced cells as the released guide's own fill.sh prints them over the translation 0687e0ea19d1ce2a… (all of the seat's roots in one cut). By AI agents, Wed Nov 11 2026. No macro, syntax, notation, axiom, sorry.
-/
import Derived.Test.YtbigdkkjajlekaaChecked
import GoSem.Claim
import GoSem.ClaimJoined
import GoSem.ClaimMapViews
import Derived.JoinedTies
import Derived.KernelRfl
namespace Go.Proofs.Ytbigdkkjajlekaa
/- THE CELL 'sum', in the pinned program and in every row, IS THE sha256 OF THE DUMP (.gsa) THAT YtbigdkkjajlekaaProg.lean LOADS. Nothing in Lean hashes anything: it is a label: what it is worth is what the hold of that sum in a sandbox is worth. -/
noncomputable def Try.pinned : Pinned := { name := "ytbigdkkjajlekaa", sum := "0687e0ea19d1ce2a28ac8bb3c4bdbfd72c8a5954af2cc107674dc11eb090f0fc", checked := Try.checked }
namespace Rows
def none {H : Type} : Left H := { results := [], args := [] }

/-- 'winnowerlaw14.PartTells': WHATEVER THE INPUT: true; the input reads as it did. -/
def partTellsSpec : ChangeSpec := { name := "partTells", fn := fun _ => fun
  | [d1, d2, d3] => { results := [.lit (.bool true)], args := [d1, d2, d3] }
  | _ => none }
def partTellsRow : OpenClaim := { program := "ytbigdkkjajlekaa", sum := "0687e0ea19d1ce2a28ac8bb3c4bdbfd72c8a5954af2cc107674dc11eb090f0fc", func := "winnower/winnowerlaw14.PartTells", spec := "partTells", apart := false }
def PartTellsSaid : Prop := partTellsRow.holds Try.pinned (OpenSpec.ofChange partTellsSpec)

/-- ITS FALSE NEIGHBOUR: 'it returns false'. Refute it at one input. -/
def partTellsWrong : ChangeSpec := { name := "partTells", fn := fun _ => fun
  | [d1, d2, d3] => { results := [.lit (.bool false)], args := [d1, d2, d3] }
  | _ => none }
def PartTellsWrongFalsely : Prop := partTellsRow.holds Try.pinned (OpenSpec.ofChange partTellsWrong)

/-- 'winnowerlaw14.PartRenders': WHATEVER THE INPUT: true; the input reads as it did. -/
def partRendersSpec : ChangeSpec := { name := "partRenders", fn := fun _ => fun
  | [d1, d2] => { results := [.lit (.bool true)], args := [d1, d2] }
  | _ => none }
def partRendersRow : OpenClaim := { program := "ytbigdkkjajlekaa", sum := "0687e0ea19d1ce2a28ac8bb3c4bdbfd72c8a5954af2cc107674dc11eb090f0fc", func := "winnower/winnowerlaw14.PartRenders", spec := "partRenders", inPlace := ["internal/abi.NoEscape"], apart := false }
def PartRendersSaid : Prop := partRendersRow.holds Try.pinned (OpenSpec.ofChange partRendersSpec)

/-- ITS FALSE NEIGHBOUR: 'it returns false'. Refute it at one input. -/
def partRendersWrong : ChangeSpec := { name := "partRenders", fn := fun _ => fun
  | [d1, d2] => { results := [.lit (.bool false)], args := [d1, d2] }
  | _ => none }
def PartRendersWrongFalsely : Prop := partRendersRow.holds Try.pinned (OpenSpec.ofChange partRendersWrong)

/-- 'winnowerlaw14.PartBack': WHATEVER THE INPUT: true; the input reads as it did. -/
def partBackSpec : ChangeSpec := { name := "partBack", fn := fun _ => fun
  | [d1, d2] => { results := [.lit (.bool true)], args := [d1, d2] }
  | _ => none }
def partBackRow : OpenClaim := { program := "ytbigdkkjajlekaa", sum := "0687e0ea19d1ce2a28ac8bb3c4bdbfd72c8a5954af2cc107674dc11eb090f0fc", func := "winnower/winnowerlaw14.PartBack", spec := "partBack", inPlace := ["internal/abi.NoEscape"], apart := false }
def PartBackSaid : Prop := partBackRow.holds Try.pinned (OpenSpec.ofChange partBackSpec)

/-- ITS FALSE NEIGHBOUR: 'it returns false'. Refute it at one input. -/
def partBackWrong : ChangeSpec := { name := "partBack", fn := fun _ => fun
  | [d1, d2] => { results := [.lit (.bool false)], args := [d1, d2] }
  | _ => none }
def PartBackWrongFalsely : Prop := partBackRow.holds Try.pinned (OpenSpec.ofChange partBackWrong)

/-- 'winnowerlaw14.PartMerges': WHATEVER THE INPUT: true; the input reads as it did. -/
def partMergesSpec : ChangeSpec := { name := "partMerges", fn := fun _ => fun
  | [d1, d2, d3] => { results := [.lit (.bool true)], args := [d1, d2, d3] }
  | _ => none }
def partMergesRow : OpenClaim := { program := "ytbigdkkjajlekaa", sum := "0687e0ea19d1ce2a28ac8bb3c4bdbfd72c8a5954af2cc107674dc11eb090f0fc", func := "winnower/winnowerlaw14.PartMerges", spec := "partMerges", apart := false }
def PartMergesSaid : Prop := partMergesRow.holds Try.pinned (OpenSpec.ofChange partMergesSpec)

/-- ITS FALSE NEIGHBOUR: 'it returns false'. Refute it at one input. -/
def partMergesWrong : ChangeSpec := { name := "partMerges", fn := fun _ => fun
  | [d1, d2, d3] => { results := [.lit (.bool false)], args := [d1, d2, d3] }
  | _ => none }
def PartMergesWrongFalsely : Prop := partMergesRow.holds Try.pinned (OpenSpec.ofChange partMergesWrong)

/-- 'winnowerlaw14.PartWilder': WHATEVER THE INPUT: true; the input reads as it did. -/
def partWilderSpec : ChangeSpec := { name := "partWilder", fn := fun _ => fun
  | [d1, d2, d3] => { results := [.lit (.bool true)], args := [d1, d2, d3] }
  | _ => none }
def partWilderRow : OpenClaim := { program := "ytbigdkkjajlekaa", sum := "0687e0ea19d1ce2a28ac8bb3c4bdbfd72c8a5954af2cc107674dc11eb090f0fc", func := "winnower/winnowerlaw14.PartWilder", spec := "partWilder", apart := false }
def PartWilderSaid : Prop := partWilderRow.holds Try.pinned (OpenSpec.ofChange partWilderSpec)

/-- ITS FALSE NEIGHBOUR: 'it returns false'. Refute it at one input. -/
def partWilderWrong : ChangeSpec := { name := "partWilder", fn := fun _ => fun
  | [d1, d2, d3] => { results := [.lit (.bool false)], args := [d1, d2, d3] }
  | _ => none }
def PartWilderWrongFalsely : Prop := partWilderRow.holds Try.pinned (OpenSpec.ofChange partWilderWrong)

/- THE SECOND FORM. 'bulk': how many values and letters a reading holds, each counted each time it is reached (what is shared counts as often as it is met; a slice's spare places count too). A statement '..UptoSaid' is the law's where the arguments, and the package variables that the reading takes, are together of bulk at most 1048576: NARROWER than '..Said'. Prove '..Said' where nothing that the law and all that it calls make is longer than what came in: it says more and counts as full. Else prove '..UptoSaid'. A law counts once. -/
mutual
def uptoBulk {H : Type} : DataW H → Nat
  | .lit (.string bytes) => bytes.length + 1
  | .lit _ => 1
  | .nil => 1
  | .ptr d => uptoBulk d + 1
  | .slice elems spare => uptoBulkAll elems + uptoBulkAll spare + 1
  | .agg parts => uptoBulkAll parts + 1
  | .iface _ d => uptoBulk d + 1
  | .map entries => uptoBulkEntries entries + 1
  | .held _ => 1
def uptoBulkAll {H : Type} : List (DataW H) → Nat
  | [] => 0
  | d :: r => uptoBulk d + uptoBulkAll r
def uptoBulkEntries {H : Type} : List (Lit × DataW H) → Nat
  | [] => 0
  | x :: r => uptoBulkEntry x + uptoBulkEntries r
def uptoBulkEntry {H : Type} : Lit × DataW H → Nat
  | (.string bytes, d) => bytes.length + uptoBulk d + 1
  | (_, d) => uptoBulk d + 1
 end
def uptoSmall : (H : Type) → List (DataW H) → Bool := fun _ ds => decide (uptoBulkAll ds ≤ 1048576)
def OpenSpec.upto (s : _root_.Go.ChangeSpec) : _root_.Go.OpenSpec := { _root_.Go.OpenSpec.ofChange s with cond := some uptoSmall }

/-- 'winnowerlaw14.PartTells', WHERE WHAT IT READS IS OF BULK AT MOST 1048576: true; the input reads as it did. -/
def partTellsUptoRow : OpenClaim := { program := "ytbigdkkjajlekaa", sum := "0687e0ea19d1ce2a28ac8bb3c4bdbfd72c8a5954af2cc107674dc11eb090f0fc", func := "winnower/winnowerlaw14.PartTells", spec := "partTells", apart := false, narrowed := true }
def PartTellsUptoSaid : Prop := partTellsUptoRow.holds Try.pinned (OpenSpec.upto partTellsSpec)

/-- 'winnowerlaw14.PartRenders', WHERE WHAT IT READS IS OF BULK AT MOST 1048576: true; the input reads as it did. -/
def partRendersUptoRow : OpenClaim := { program := "ytbigdkkjajlekaa", sum := "0687e0ea19d1ce2a28ac8bb3c4bdbfd72c8a5954af2cc107674dc11eb090f0fc", func := "winnower/winnowerlaw14.PartRenders", spec := "partRenders", inPlace := ["internal/abi.NoEscape"], apart := false, narrowed := true }
def PartRendersUptoSaid : Prop := partRendersUptoRow.holds Try.pinned (OpenSpec.upto partRendersSpec)

/-- 'winnowerlaw14.PartBack', WHERE WHAT IT READS IS OF BULK AT MOST 1048576: true; the input reads as it did. -/
def partBackUptoRow : OpenClaim := { program := "ytbigdkkjajlekaa", sum := "0687e0ea19d1ce2a28ac8bb3c4bdbfd72c8a5954af2cc107674dc11eb090f0fc", func := "winnower/winnowerlaw14.PartBack", spec := "partBack", inPlace := ["internal/abi.NoEscape"], apart := false, narrowed := true }
def PartBackUptoSaid : Prop := partBackUptoRow.holds Try.pinned (OpenSpec.upto partBackSpec)

/-- 'winnowerlaw14.PartMerges', WHERE WHAT IT READS IS OF BULK AT MOST 1048576: true; the input reads as it did. -/
def partMergesUptoRow : OpenClaim := { program := "ytbigdkkjajlekaa", sum := "0687e0ea19d1ce2a28ac8bb3c4bdbfd72c8a5954af2cc107674dc11eb090f0fc", func := "winnower/winnowerlaw14.PartMerges", spec := "partMerges", apart := false, narrowed := true }
def PartMergesUptoSaid : Prop := partMergesUptoRow.holds Try.pinned (OpenSpec.upto partMergesSpec)

/-- 'winnowerlaw14.PartWilder', WHERE WHAT IT READS IS OF BULK AT MOST 1048576: true; the input reads as it did. -/
def partWilderUptoRow : OpenClaim := { program := "ytbigdkkjajlekaa", sum := "0687e0ea19d1ce2a28ac8bb3c4bdbfd72c8a5954af2cc107674dc11eb090f0fc", func := "winnower/winnowerlaw14.PartWilder", spec := "partWilder", apart := false, narrowed := true }
def PartWilderUptoSaid : Prop := partWilderUptoRow.holds Try.pinned (OpenSpec.upto partWilderSpec)

end Rows
end Go.Proofs.Ytbigdkkjajlekaa
