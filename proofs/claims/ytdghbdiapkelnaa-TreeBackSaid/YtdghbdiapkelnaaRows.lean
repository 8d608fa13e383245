/-
  No cell of these rows narrows 'for every input' (looked for: loops, veiled, ifaces, maps, wideKeys, modest, calm, conditions, laid).
  DERIVED. THE GIVEN ROWS OF THIS SEAT. 8 by the template 'for every input the law returns true; each argument reads behind the call as it read before'; 0 by the template 'total and deterministic' (their statements: YtdghbdiapkelnaaTotals.lean).
  GIVEN WITH THE SEED: the statements are not yours to turn. If you find one false, say at which input.
  Laid BY PROGRAM, IN A SANDBOX (cutbox-rows.mjs): the forced cells as the released guide's own fill.sh prints them over the translation dff1b8620c32fb7c… (all of the seat's roots in one cut). By AI agents, Wed Nov 11 2026. No macro, syntax, notation, axiom, sorry.
-/
import Derived.Test.YtdghbdiapkelnaaChecked
import GoSem.Claim
import GoSem.ClaimJoined
import GoSem.ClaimMapViews
import Derived.JoinedTies
import Derived.KernelRfl
namespace Go.Proofs.Ytdghbdiapkelnaa
/- THE CELL 'sum', in the pinned program and in every row, IS THE sha256 OF THE DUMP (.gsa) THAT YtdghbdiapkelnaaProg.lean LOADS. Nothing in Lean hashes anything: it is a label: what it is worth is what the hold of that sum in a sandbox is worth. -/
noncomputable def Try.pinned : Pinned := { name := "ytdghbdiapkelnaa", sum := "dff1b8620c32fb7cdf5c0baf13cae24bc85f8e30ad116709b462541a28e036b2", checked := Try.checked }
namespace Rows
def none {H : Type} : Left H := { results := [], args := [] }

/-- 'winnowerlaw15.TreeAssigns': WHATEVER THE INPUT: true; the input reads as it did. -/
def treeAssignsSpec : ChangeSpec := { name := "treeAssigns", fn := fun _ => fun
  | [d] => { results := [.lit (.bool true)], args := [d] }
  | _ => none }
def treeAssignsRow : OpenClaim := { program := "ytdghbdiapkelnaa", sum := "dff1b8620c32fb7cdf5c0baf13cae24bc85f8e30ad116709b462541a28e036b2", func := "winnower/winnowerlaw15.TreeAssigns", spec := "treeAssigns", inPlace := ["internal/abi.NoEscape"], plainKeys := false, apart := false }
def TreeAssignsSaid : Prop := treeAssignsRow.holds Try.pinned (OpenSpec.ofChange treeAssignsSpec)

/-- ITS FALSE NEIGHBOUR: 'it returns false'. Refute it at one input. -/
def treeAssignsWrong : ChangeSpec := { name := "treeAssigns", fn := fun _ => fun
  | [d] => { results := [.lit (.bool false)], args := [d] }
  | _ => none }
def TreeAssignsWrongFalsely : Prop := treeAssignsRow.holds Try.pinned (OpenSpec.ofChange treeAssignsWrong)

/-- 'winnowerlaw15.TreeRenders': WHATEVER THE INPUT: true; the input reads as it did. -/
def treeRendersSpec : ChangeSpec := { name := "treeRenders", fn := fun _ => fun
  | [d] => { results := [.lit (.bool true)], args := [d] }
  | _ => none }
def treeRendersRow : OpenClaim := { program := "ytdghbdiapkelnaa", sum := "dff1b8620c32fb7cdf5c0baf13cae24bc85f8e30ad116709b462541a28e036b2", func := "winnower/winnowerlaw15.TreeRenders", spec := "treeRenders", inPlace := ["internal/abi.NoEscape"], plainKeys := false, apart := false }
def TreeRendersSaid : Prop := treeRendersRow.holds Try.pinned (OpenSpec.ofChange treeRendersSpec)

/-- ITS FALSE NEIGHBOUR: 'it returns false'. Refute it at one input. -/
def treeRendersWrong : ChangeSpec := { name := "treeRenders", fn := fun _ => fun
  | [d] => { results := [.lit (.bool false)], args := [d] }
  | _ => none }
def TreeRendersWrongFalsely : Prop := treeRendersRow.holds Try.pinned (OpenSpec.ofChange treeRendersWrong)

/-- 'winnowerlaw15.TreeStays': WHATEVER THE INPUT: true; the input reads as it did. -/
def treeStaysSpec : ChangeSpec := { name := "treeStays", fn := fun _ => fun
  | [d] => { results := [.lit (.bool true)], args := [d] }
  | _ => none }
def treeStaysRow : OpenClaim := { program := "ytdghbdiapkelnaa", sum := "dff1b8620c32fb7cdf5c0baf13cae24bc85f8e30ad116709b462541a28e036b2", func := "winnower/winnowerlaw15.TreeStays", spec := "treeStays", inPlace := ["internal/abi.NoEscape"], plainKeys := false, apart := false }
def TreeStaysSaid : Prop := treeStaysRow.holds Try.pinned (OpenSpec.ofChange treeStaysSpec)

/-- ITS FALSE NEIGHBOUR: 'it returns false'. Refute it at one input. -/
def treeStaysWrong : ChangeSpec := { name := "treeStays", fn := fun _ => fun
  | [d] => { results := [.lit (.bool false)], args := [d] }
  | _ => none }
def TreeStaysWrongFalsely : Prop := treeStaysRow.holds Try.pinned (OpenSpec.ofChange treeStaysWrong)

/-- 'winnowerlaw15.TreeBack': WHATEVER THE INPUT: true; the input reads as it did. -/
def treeBackSpec : ChangeSpec := { name := "treeBack", fn := fun _ => fun
  | [d1, d2] => { results := [.lit (.bool true)], args := [d1, d2] }
  | _ => none }
def treeBackRow : OpenClaim := { program := "ytdghbdiapkelnaa", sum := "dff1b8620c32fb7cdf5c0baf13cae24bc85f8e30ad116709b462541a28e036b2", func := "winnower/winnowerlaw15.TreeBack", spec := "treeBack", inPlace := ["internal/abi.NoEscape"], plainKeys := false, apart := false }
def TreeBackSaid : Prop := treeBackRow.holds Try.pinned (OpenSpec.ofChange treeBackSpec)

/-- ITS FALSE NEIGHBOUR: 'it returns false'. Refute it at one input. -/
def treeBackWrong : ChangeSpec := { name := "treeBack", fn := fun _ => fun
  | [d1, d2] => { results := [.lit (.bool false)], args := [d1, d2] }
  | _ => none }
def TreeBackWrongFalsely : Prop := treeBackRow.holds Try.pinned (OpenSpec.ofChange treeBackWrong)

/-- 'winnowerlaw15.TreeDecodes': WHATEVER THE INPUT: true; the input reads as it did. -/
def treeDecodesSpec : ChangeSpec := { name := "treeDecodes", fn := fun _ => fun
  | [d] => { results := [.lit (.bool true)], args := [d] }
  | _ => none }
def treeDecodesRow : OpenClaim := { program := "ytdghbdiapkelnaa", sum := "dff1b8620c32fb7cdf5c0baf13cae24bc85f8e30ad116709b462541a28e036b2", func := "winnower/winnowerlaw15.TreeDecodes", spec := "treeDecodes", inPlace := ["internal/abi.NoEscape"], plainKeys := false, apart := false }
def TreeDecodesSaid : Prop := treeDecodesRow.holds Try.pinned (OpenSpec.ofChange treeDecodesSpec)

/-- ITS FALSE NEIGHBOUR: 'it returns false'. Refute it at one input. -/
def treeDecodesWrong : ChangeSpec := { name := "treeDecodes", fn := fun _ => fun
  | [d] => { results := [.lit (.bool false)], args := [d] }
  | _ => none }
def TreeDecodesWrongFalsely : Prop := treeDecodesRow.holds Try.pinned (OpenSpec.ofChange treeDecodesWrong)

/-- 'winnowerlaw15.TreeOfNothing': WHATEVER THE INPUT: true; the input reads as it did. -/
def treeOfNothingSpec : ChangeSpec := { name := "treeOfNothing", fn := fun _ => fun
  | [d] => { results := [.lit (.bool true)], args := [d] }
  | _ => none }
def treeOfNothingRow : OpenClaim := { program := "ytdghbdiapkelnaa", sum := "dff1b8620c32fb7cdf5c0baf13cae24bc85f8e30ad116709b462541a28e036b2", func := "winnower/winnowerlaw15.TreeOfNothing", spec := "treeOfNothing", inPlace := ["internal/abi.NoEscape"], plainKeys := false, apart := false }
def TreeOfNothingSaid : Prop := treeOfNothingRow.holds Try.pinned (OpenSpec.ofChange treeOfNothingSpec)

/-- ITS FALSE NEIGHBOUR: 'it returns false'. Refute it at one input. -/
def treeOfNothingWrong : ChangeSpec := { name := "treeOfNothing", fn := fun _ => fun
  | [d] => { results := [.lit (.bool false)], args := [d] }
  | _ => none }
def TreeOfNothingWrongFalsely : Prop := treeOfNothingRow.holds Try.pinned (OpenSpec.ofChange treeOfNothingWrong)

/-- 'winnowerlaw15.TreeTwice': WHATEVER THE INPUT: true; the input reads as it did. -/
def treeTwiceSpec : ChangeSpec := { name := "treeTwice", fn := fun _ => fun
  | [d1, d2] => { results := [.lit (.bool true)], args := [d1, d2] }
  | _ => none }
def treeTwiceRow : OpenClaim := { program := "ytdghbdiapkelnaa", sum := "dff1b8620c32fb7cdf5c0baf13cae24bc85f8e30ad116709b462541a28e036b2", func := "winnower/winnowerlaw15.TreeTwice", spec := "treeTwice", inPlace := ["internal/abi.NoEscape"], plainKeys := false, apart := false }
def TreeTwiceSaid : Prop := treeTwiceRow.holds Try.pinned (OpenSpec.ofChange treeTwiceSpec)

/-- ITS FALSE NEIGHBOUR: 'it returns false'. Refute it at one input. -/
def treeTwiceWrong : ChangeSpec := { name := "treeTwice", fn := fun _ => fun
  | [d1, d2] => { results := [.lit (.bool false)], args := [d1, d2] }
  | _ => none }
def TreeTwiceWrongFalsely : Prop := treeTwiceRow.holds Try.pinned (OpenSpec.ofChange treeTwiceWrong)

/-- 'winnowerlaw15.TreeFits': WHATEVER THE INPUT: true; the input reads as it did. -/
def treeFitsSpec : ChangeSpec := { name := "treeFits", fn := fun _ => fun
  | [d] => { results := [.lit (.bool true)], args := [d] }
  | _ => none }
def treeFitsRow : OpenClaim := { program := "ytdghbdiapkelnaa", sum := "dff1b8620c32fb7cdf5c0baf13cae24bc85f8e30ad116709b462541a28e036b2", func := "winnower/winnowerlaw15.TreeFits", spec := "treeFits", inPlace := ["internal/abi.NoEscape"], plainKeys := false, apart := false }
def TreeFitsSaid : Prop := treeFitsRow.holds Try.pinned (OpenSpec.ofChange treeFitsSpec)

/-- ITS FALSE NEIGHBOUR: 'it returns false'. Refute it at one input. -/
def treeFitsWrong : ChangeSpec := { name := "treeFits", fn := fun _ => fun
  | [d] => { results := [.lit (.bool false)], args := [d] }
  | _ => none }
def TreeFitsWrongFalsely : Prop := treeFitsRow.holds Try.pinned (OpenSpec.ofChange treeFitsWrong)

/- THE SECOND FORM. 'bulk': how many values and letters a reading holds, each counted each time it is reached (what is shared counts as often as it is met; a slice's spare places count too). A statement '..UptoSaid' is the law's where the arguments, and the package variables that the reading takes, are together of bulk at most 1048576: NARROWER than '..Said'. Prove '..Said' where nothing that the law and all that it calls make is longer than what came in: it says more and counts as full. Else prove '..UptoSaid'. A law counts once. -/
mutual
def uptoBulk {H : Type} : DataW H → Nat
  | .lit (.string bytes) => bytes.length + 1
  | .lit _ => 1
  | .nil => 1
  | .ptr d => uptoBulk d + 1
  | .slice elems spare => uptoBulkAll elems + uptoBulkAll spare + 1
  | .agg parts => uptoBulkAll parts + 1
  | .iface _ d => uptoBulk d + 1
  | .map entries => uptoBulkEntries entries + 1
  | .held _ => 1
def uptoBulkAll {H : Type} : List (DataW H) → Nat
  | [] => 0
  | d :: r => uptoBulk d + uptoBulkAll r
def uptoBulkEntries {H : Type} : List (Lit × DataW H) → Nat
  | [] => 0
  | x :: r => uptoBulkEntry x + uptoBulkEntries r
def uptoBulkEntry {H : Type} : Lit × DataW H → Nat
  | (.string bytes, d) => bytes.length + uptoBulk d + 1
  | (_, d) => uptoBulk d + 1
 end
def uptoSmall : (H : Type) → List (DataW H) → Bool := fun _ ds => decide (uptoBulkAll ds ≤ 1048576)
def OpenSpec.upto (s : _root_.Go.ChangeSpec) : _root_.Go.OpenSpec := { _root_.Go.OpenSpec.ofChange s with cond := some uptoSmall }

/-- 'winnowerlaw15.TreeAssigns', WHERE WHAT IT READS IS OF BULK AT MOST 1048576: true; the input reads as it did. -/
def treeAssignsUptoRow : OpenClaim := { program := "ytdghbdiapkelnaa", sum := "dff1b8620c32fb7cdf5c0baf13cae24bc85f8e30ad116709b462541a28e036b2", func := "winnower/winnowerlaw15.TreeAssigns", spec := "treeAssigns", inPlace := ["internal/abi.NoEscape"], plainKeys := false, apart := false, narrowed := true }
def TreeAssignsUptoSaid : Prop := treeAssignsUptoRow.holds Try.pinned (OpenSpec.upto treeAssignsSpec)

/-- 'winnowerlaw15.TreeRenders', WHERE WHAT IT READS IS OF BULK AT MOST 1048576: true; the input reads as it did. -/
def treeRendersUptoRow : OpenClaim := { program := "ytdghbdiapkelnaa", sum := "dff1b8620c32fb7cdf5c0baf13cae24bc85f8e30ad116709b462541a28e036b2", func := "winnower/winnowerlaw15.TreeRenders", spec := "treeRenders", inPlace := ["internal/abi.NoEscape"], plainKeys := false, apart := false, narrowed := true }
def TreeRendersUptoSaid : Prop := treeRendersUptoRow.holds Try.pinned (OpenSpec.upto treeRendersSpec)

/-- 'winnowerlaw15.TreeStays', WHERE WHAT IT READS IS OF BULK AT MOST 1048576: true; the input reads as it did. -/
def treeStaysUptoRow : OpenClaim := { program := "ytdghbdiapkelnaa", sum := "dff1b8620c32fb7cdf5c0baf13cae24bc85f8e30ad116709b462541a28e036b2", func := "winnower/winnowerlaw15.TreeStays", spec := "treeStays", inPlace := ["internal/abi.NoEscape"], plainKeys := false, apart := false, narrowed := true }
def TreeStaysUptoSaid : Prop := treeStaysUptoRow.holds Try.pinned (OpenSpec.upto treeStaysSpec)

/-- 'winnowerlaw15.TreeBack', WHERE WHAT IT READS IS OF BULK AT MOST 1048576: true; the input reads as it did. -/
def treeBackUptoRow : OpenClaim := { program := "ytdghbdiapkelnaa", sum := "dff1b8620c32fb7cdf5c0baf13cae24bc85f8e30ad116709b462541a28e036b2", func := "winnower/winnowerlaw15.TreeBack", spec := "treeBack", inPlace := ["internal/abi.NoEscape"], plainKeys := false, apart := false, narrowed := true }
def TreeBackUptoSaid : Prop := treeBackUptoRow.holds Try.pinned (OpenSpec.upto treeBackSpec)

/-- 'winnowerlaw15.TreeDecodes', WHERE WHAT IT READS IS OF BULK AT MOST 1048576: true; the input reads as it did. -/
def treeDecodesUptoRow : OpenClaim := { program := "ytdghbdiapkelnaa", sum := "dff1b8620c32fb7cdf5c0baf13cae24bc85f8e30ad116709b462541a28e036b2", func := "winnower/winnowerlaw15.TreeDecodes", spec := "treeDecodes", inPlace := ["internal/abi.NoEscape"], plainKeys := false, apart := false, narrowed := true }
def TreeDecodesUptoSaid : Prop := treeDecodesUptoRow.holds Try.pinned (OpenSpec.upto treeDecodesSpec)

/-- 'winnowerlaw15.TreeOfNothing', WHERE WHAT IT READS IS OF BULK AT MOST 1048576: true; the input reads as it did. -/
def treeOfNothingUptoRow : OpenClaim := { program := "ytdghbdiapkelnaa", sum := "dff1b8620c32fb7cdf5c0baf13cae24bc85f8e30ad116709b462541a28e036b2", func := "winnower/winnowerlaw15.TreeOfNothing", spec := "treeOfNothing", inPlace := ["internal/abi.NoEscape"], plainKeys := false, apart := false, narrowed := true }
def TreeOfNothingUptoSaid : Prop := treeOfNothingUptoRow.holds Try.pinned (OpenSpec.upto treeOfNothingSpec)

/-- 'winnowerlaw15.TreeTwice', WHERE WHAT IT READS IS OF BULK AT MOST 1048576: true; the input reads as it did. -/
def treeTwiceUptoRow : OpenClaim := { program := "ytdghbdiapkelnaa", sum := "dff1b8620c32fb7cdf5c0baf13cae24bc85f8e30ad116709b462541a28e036b2", func := "winnower/winnowerlaw15.TreeTwice", spec := "treeTwice", inPlace := ["internal/abi.NoEscape"], plainKeys := false, apart := false, narrowed := true }
def TreeTwiceUptoSaid : Prop := treeTwiceUptoRow.holds Try.pinned (OpenSpec.upto treeTwiceSpec)

/-- 'winnowerlaw15.TreeFits', WHERE WHAT IT READS IS OF BULK AT MOST 1048576: true; the input reads as it did. -/
def treeFitsUptoRow : OpenClaim := { program := "ytdghbdiapkelnaa", sum := "dff1b8620c32fb7cdf5c0baf13cae24bc85f8e30ad116709b462541a28e036b2", func := "winnower/winnowerlaw15.TreeFits", spec := "treeFits", inPlace := ["internal/abi.NoEscape"], plainKeys := false, apart := false, narrowed := true }
def TreeFitsUptoSaid : Prop := treeFitsUptoRow.holds Try.pinned (OpenSpec.upto treeFitsSpec)

end Rows
end Go.Proofs.Ytdghbdiapkelnaa
