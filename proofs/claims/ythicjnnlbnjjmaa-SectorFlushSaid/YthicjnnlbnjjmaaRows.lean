/-
  No cell of these rows narrows 'for every input' (looked for: loops, veiled, ifaces, maps, wideKeys, modest, calm, conditions, laid).
  DERIVED. THE GIVEN ROWS OF THIS SEAT. 7 by the template 'for every input the law returns true; each argument reads behind the call as it read before'; 0 by the template 'total and deterministic' (their statements: YthicjnnlbnjjmaaTotals.lean).
  GIVEN WITH THE SEED: the statements are not yours to turn. If you find one false, say at which input.
  Laid BY PROGRAM, IN A SANDBOX (cutbox-rows.mjs): the forced cells as the released guide's own fill.sh prints them over the translation 354a13493f9a7c7d… (all of the seat's roots in one cut). By AI agents, Wed Nov 11 2026. No macro, syntax, notation, axiom, sorry.
-/
import Derived.Test.YthicjnnlbnjjmaaChecked
import GoSem.Claim
import GoSem.ClaimJoined
import GoSem.ClaimMapViews
import Derived.JoinedTies
import Derived.KernelRfl
namespace Go.Proofs.Ythicjnnlbnjjmaa
/- THE CELL 'sum', in the pinned program and in every row, IS THE sha256 OF THE DUMP (.gsa) THAT YthicjnnlbnjjmaaProg.lean LOADS. Nothing in Lean hashes anything: it is a label: what it is worth is what the hold of that sum in a sandbox is worth. -/
noncomputable def Try.pinned : Pinned := { name := "ythicjnnlbnjjmaa", sum := "354a13493f9a7c7d2f79295c7aa1cb0dd632b1cc6c485f189cc8f31f3be1c5c0", checked := Try.checked }
namespace Rows
def none {H : Type} : Left H := { results := [], args := [] }

/-- 'winnowerlaw2.SectorPlays': WHATEVER THE INPUT: true; the input reads as it did. -/
def sectorPlaysSpec : ChangeSpec := { name := "sectorPlays", fn := fun _ => fun
  | [d1, d2] => { results := [.lit (.bool true)], args := [d1, d2] }
  | _ => none }
def sectorPlaysRow : OpenClaim := { program := "ythicjnnlbnjjmaa", sum := "354a13493f9a7c7d2f79295c7aa1cb0dd632b1cc6c485f189cc8f31f3be1c5c0", func := "winnower/winnowerlaw2.SectorPlays", spec := "sectorPlays", apart := false }
def SectorPlaysSaid : Prop := sectorPlaysRow.holds Try.pinned (OpenSpec.ofChange sectorPlaysSpec)

/-- ITS FALSE NEIGHBOUR: 'it returns false'. Refute it at one input. -/
def sectorPlaysWrong : ChangeSpec := { name := "sectorPlays", fn := fun _ => fun
  | [d1, d2] => { results := [.lit (.bool false)], args := [d1, d2] }
  | _ => none }
def SectorPlaysWrongFalsely : Prop := sectorPlaysRow.holds Try.pinned (OpenSpec.ofChange sectorPlaysWrong)

/-- 'winnowerlaw2.SectorCrash': WHATEVER THE INPUT: true; the input reads as it did. -/
def sectorCrashSpec : ChangeSpec := { name := "sectorCrash", fn := fun _ => fun
  | [d1, d2] => { results := [.lit (.bool true)], args := [d1, d2] }
  | _ => none }
def sectorCrashRow : OpenClaim := { program := "ythicjnnlbnjjmaa", sum := "354a13493f9a7c7d2f79295c7aa1cb0dd632b1cc6c485f189cc8f31f3be1c5c0", func := "winnower/winnowerlaw2.SectorCrash", spec := "sectorCrash", apart := false }
def SectorCrashSaid : Prop := sectorCrashRow.holds Try.pinned (OpenSpec.ofChange sectorCrashSpec)

/-- ITS FALSE NEIGHBOUR: 'it returns false'. Refute it at one input. -/
def sectorCrashWrong : ChangeSpec := { name := "sectorCrash", fn := fun _ => fun
  | [d1, d2] => { results := [.lit (.bool false)], args := [d1, d2] }
  | _ => none }
def SectorCrashWrongFalsely : Prop := sectorCrashRow.holds Try.pinned (OpenSpec.ofChange sectorCrashWrong)

/-- 'winnowerlaw2.SectorFlush': WHATEVER THE INPUT: true; the input reads as it did. -/
def sectorFlushSpec : ChangeSpec := { name := "sectorFlush", fn := fun _ => fun
  | [d1, d2] => { results := [.lit (.bool true)], args := [d1, d2] }
  | _ => none }
def sectorFlushRow : OpenClaim := { program := "ythicjnnlbnjjmaa", sum := "354a13493f9a7c7d2f79295c7aa1cb0dd632b1cc6c485f189cc8f31f3be1c5c0", func := "winnower/winnowerlaw2.SectorFlush", spec := "sectorFlush", apart := false }
def SectorFlushSaid : Prop := sectorFlushRow.holds Try.pinned (OpenSpec.ofChange sectorFlushSpec)

/-- ITS FALSE NEIGHBOUR: 'it returns false'. Refute it at one input. -/
def sectorFlushWrong : ChangeSpec := { name := "sectorFlush", fn := fun _ => fun
  | [d1, d2] => { results := [.lit (.bool false)], args := [d1, d2] }
  | _ => none }
def SectorFlushWrongFalsely : Prop := sectorFlushRow.holds Try.pinned (OpenSpec.ofChange sectorFlushWrong)

/-- 'winnowerlaw2.SectorFuse': WHATEVER THE INPUT: true; the input reads as it did. -/
def sectorFuseSpec : ChangeSpec := { name := "sectorFuse", fn := fun _ => fun
  | [d1, d2] => { results := [.lit (.bool true)], args := [d1, d2] }
  | _ => none }
def sectorFuseRow : OpenClaim := { program := "ythicjnnlbnjjmaa", sum := "354a13493f9a7c7d2f79295c7aa1cb0dd632b1cc6c485f189cc8f31f3be1c5c0", func := "winnower/winnowerlaw2.SectorFuse", spec := "sectorFuse", apart := false }
def SectorFuseSaid : Prop := sectorFuseRow.holds Try.pinned (OpenSpec.ofChange sectorFuseSpec)

/-- ITS FALSE NEIGHBOUR: 'it returns false'. Refute it at one input. -/
def sectorFuseWrong : ChangeSpec := { name := "sectorFuse", fn := fun _ => fun
  | [d1, d2] => { results := [.lit (.bool false)], args := [d1, d2] }
  | _ => none }
def SectorFuseWrongFalsely : Prop := sectorFuseRow.holds Try.pinned (OpenSpec.ofChange sectorFuseWrong)

/-- 'winnowerlaw2.SectorOfNothing': WHATEVER THE INPUT: true; the input reads as it did. -/
def sectorOfNothingSpec : ChangeSpec := { name := "sectorOfNothing", fn := fun _ => fun
  | [d] => { results := [.lit (.bool true)], args := [d] }
  | _ => none }
def sectorOfNothingRow : OpenClaim := { program := "ythicjnnlbnjjmaa", sum := "354a13493f9a7c7d2f79295c7aa1cb0dd632b1cc6c485f189cc8f31f3be1c5c0", func := "winnower/winnowerlaw2.SectorOfNothing", spec := "sectorOfNothing", apart := false }
def SectorOfNothingSaid : Prop := sectorOfNothingRow.holds Try.pinned (OpenSpec.ofChange sectorOfNothingSpec)

/-- ITS FALSE NEIGHBOUR: 'it returns false'. Refute it at one input. -/
def sectorOfNothingWrong : ChangeSpec := { name := "sectorOfNothing", fn := fun _ => fun
  | [d] => { results := [.lit (.bool false)], args := [d] }
  | _ => none }
def SectorOfNothingWrongFalsely : Prop := sectorOfNothingRow.holds Try.pinned (OpenSpec.ofChange sectorOfNothingWrong)

/-- 'winnowerlaw2.SectorVersions': WHATEVER THE INPUT: true; the input reads as it did. -/
def sectorVersionsSpec : ChangeSpec := { name := "sectorVersions", fn := fun _ => fun
  | [d1, d2] => { results := [.lit (.bool true)], args := [d1, d2] }
  | _ => none }
def sectorVersionsRow : OpenClaim := { program := "ythicjnnlbnjjmaa", sum := "354a13493f9a7c7d2f79295c7aa1cb0dd632b1cc6c485f189cc8f31f3be1c5c0", func := "winnower/winnowerlaw2.SectorVersions", spec := "sectorVersions", apart := false }
def SectorVersionsSaid : Prop := sectorVersionsRow.holds Try.pinned (OpenSpec.ofChange sectorVersionsSpec)

/-- ITS FALSE NEIGHBOUR: 'it returns false'. Refute it at one input. -/
def sectorVersionsWrong : ChangeSpec := { name := "sectorVersions", fn := fun _ => fun
  | [d1, d2] => { results := [.lit (.bool false)], args := [d1, d2] }
  | _ => none }
def SectorVersionsWrongFalsely : Prop := sectorVersionsRow.holds Try.pinned (OpenSpec.ofChange sectorVersionsWrong)

/-- 'winnowerlaw2.SectorReads': WHATEVER THE INPUT: true; the input reads as it did. -/
def sectorReadsSpec : ChangeSpec := { name := "sectorReads", fn := fun _ => fun
  | [d1, d2, d3] => { results := [.lit (.bool true)], args := [d1, d2, d3] }
  | _ => none }
def sectorReadsRow : OpenClaim := { program := "ythicjnnlbnjjmaa", sum := "354a13493f9a7c7d2f79295c7aa1cb0dd632b1cc6c485f189cc8f31f3be1c5c0", func := "winnower/winnowerlaw2.SectorReads", spec := "sectorReads", apart := false }
def SectorReadsSaid : Prop := sectorReadsRow.holds Try.pinned (OpenSpec.ofChange sectorReadsSpec)

/-- ITS FALSE NEIGHBOUR: 'it returns false'. Refute it at one input. -/
def sectorReadsWrong : ChangeSpec := { name := "sectorReads", fn := fun _ => fun
  | [d1, d2, d3] => { results := [.lit (.bool false)], args := [d1, d2, d3] }
  | _ => none }
def SectorReadsWrongFalsely : Prop := sectorReadsRow.holds Try.pinned (OpenSpec.ofChange sectorReadsWrong)

/- THE SECOND FORM. 'bulk': how many values and letters a reading holds, each counted each time it is reached (what is shared counts as often as it is met; a slice's spare places count too). A statement '..UptoSaid' is the law's where the arguments, and the package variables that the reading takes, are together of bulk at most 1048576: NARROWER than '..Said'. Prove '..Said' where nothing that the law and all that it calls make is longer than what came in: it says more and counts as full. Else prove '..UptoSaid'. A law counts once. -/
mutual
def uptoBulk {H : Type} : DataW H → Nat
  | .lit (.string bytes) => bytes.length + 1
  | .lit _ => 1
  | .nil => 1
  | .ptr d => uptoBulk d + 1
  | .slice elems spare => uptoBulkAll elems + uptoBulkAll spare + 1
  | .agg parts => uptoBulkAll parts + 1
  | .iface _ d => uptoBulk d + 1
  | .map entries => uptoBulkEntries entries + 1
  | .held _ => 1
def uptoBulkAll {H : Type} : List (DataW H) → Nat
  | [] => 0
  | d :: r => uptoBulk d + uptoBulkAll r
def uptoBulkEntries {H : Type} : List (Lit × DataW H) → Nat
  | [] => 0
  | x :: r => uptoBulkEntry x + uptoBulkEntries r
def uptoBulkEntry {H : Type} : Lit × DataW H → Nat
  | (.string bytes, d) => bytes.length + uptoBulk d + 1
  | (_, d) => uptoBulk d + 1
 end
def uptoSmall : (H : Type) → List (DataW H) → Bool := fun _ ds => decide (uptoBulkAll ds ≤ 1048576)
def OpenSpec.upto (s : _root_.Go.ChangeSpec) : _root_.Go.OpenSpec := { _root_.Go.OpenSpec.ofChange s with cond := some uptoSmall }

/-- 'winnowerlaw2.SectorPlays', WHERE WHAT IT READS IS OF BULK AT MOST 1048576: true; the input reads as it did. -/
def sectorPlaysUptoRow : OpenClaim := { program := "ythicjnnlbnjjmaa", sum := "354a13493f9a7c7d2f79295c7aa1cb0dd632b1cc6c485f189cc8f31f3be1c5c0", func := "winnower/winnowerlaw2.SectorPlays", spec := "sectorPlays", apart := false, narrowed := true }
def SectorPlaysUptoSaid : Prop := sectorPlaysUptoRow.holds Try.pinned (OpenSpec.upto sectorPlaysSpec)

/-- 'winnowerlaw2.SectorCrash', WHERE WHAT IT READS IS OF BULK AT MOST 1048576: true; the input reads as it did. -/
def sectorCrashUptoRow : OpenClaim := { program := "ythicjnnlbnjjmaa", sum := "354a13493f9a7c7d2f79295c7aa1cb0dd632b1cc6c485f189cc8f31f3be1c5c0", func := "winnower/winnowerlaw2.SectorCrash", spec := "sectorCrash", apart := false, narrowed := true }
def SectorCrashUptoSaid : Prop := sectorCrashUptoRow.holds Try.pinned (OpenSpec.upto sectorCrashSpec)

/-- 'winnowerlaw2.SectorFlush', WHERE WHAT IT READS IS OF BULK AT MOST 1048576: true; the input reads as it did. -/
def sectorFlushUptoRow : OpenClaim := { program := "ythicjnnlbnjjmaa", sum := "354a13493f9a7c7d2f79295c7aa1cb0dd632b1cc6c485f189cc8f31f3be1c5c0", func := "winnower/winnowerlaw2.SectorFlush", spec := "sectorFlush", apart := false, narrowed := true }
def SectorFlushUptoSaid : Prop := sectorFlushUptoRow.holds Try.pinned (OpenSpec.upto sectorFlushSpec)

/-- 'winnowerlaw2.SectorFuse', WHERE WHAT IT READS IS OF BULK AT MOST 1048576: true; the input reads as it did. -/
def sectorFuseUptoRow : OpenClaim := { program := "ythicjnnlbnjjmaa", sum := "354a13493f9a7c7d2f79295c7aa1cb0dd632b1cc6c485f189cc8f31f3be1c5c0", func := "winnower/winnowerlaw2.SectorFuse", spec := "sectorFuse", apart := false, narrowed := true }
def SectorFuseUptoSaid : Prop := sectorFuseUptoRow.holds Try.pinned (OpenSpec.upto sectorFuseSpec)

/-- 'winnowerlaw2.SectorOfNothing', WHERE WHAT IT READS IS OF BULK AT MOST 1048576: true; the input reads as it did. -/
def sectorOfNothingUptoRow : OpenClaim := { program := "ythicjnnlbnjjmaa", sum := "354a13493f9a7c7d2f79295c7aa1cb0dd632b1cc6c485f189cc8f31f3be1c5c0", func := "winnower/winnowerlaw2.SectorOfNothing", spec := "sectorOfNothing", apart := false, narrowed := true }
def SectorOfNothingUptoSaid : Prop := sectorOfNothingUptoRow.holds Try.pinned (OpenSpec.upto sectorOfNothingSpec)

/-- 'winnowerlaw2.SectorVersions', WHERE WHAT IT READS IS OF BULK AT MOST 1048576: true; the input reads as it did. -/
def sectorVersionsUptoRow : OpenClaim := { program := "ythicjnnlbnjjmaa", sum := "354a13493f9a7c7d2f79295c7aa1cb0dd632b1cc6c485f189cc8f31f3be1c5c0", func := "winnower/winnowerlaw2.SectorVersions", spec := "sectorVersions", apart := false, narrowed := true }
def SectorVersionsUptoSaid : Prop := sectorVersionsUptoRow.holds Try.pinned (OpenSpec.upto sectorVersionsSpec)

/-- 'winnowerlaw2.SectorReads', WHERE WHAT IT READS IS OF BULK AT MOST 1048576: true; the input reads as it did. -/
def sectorReadsUptoRow : OpenClaim := { program := "ythicjnnlbnjjmaa", sum := "354a13493f9a7c7d2f79295c7aa1cb0dd632b1cc6c485f189cc8f31f3be1c5c0", func := "winnower/winnowerlaw2.SectorReads", spec := "sectorReads", apart := false, narrowed := true }
def SectorReadsUptoSaid : Prop := sectorReadsUptoRow.holds Try.pinned (OpenSpec.upto sectorReadsSpec)

end Rows
end Go.Proofs.Ythicjnnlbnjjmaa
