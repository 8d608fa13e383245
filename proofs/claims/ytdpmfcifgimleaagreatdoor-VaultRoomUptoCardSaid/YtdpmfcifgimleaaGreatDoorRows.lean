/-
  NARROWER THAN 'FOR EVERY INPUT', by the rows' own cells (each row's printed sentence says how): VaultPlays: laid · VaultLasts: laid · VaultRoom: laid · VaultFull: laid · VaultOfNothing: laid · VaultReplaces: laid · VaultOwn: laid · VaultSpoilt: laid.
  DERIVED. THE GIVEN ROWS OF THIS SEAT. 8 by the template 'for every input the law returns true; each argument reads behind the call as it read before'; 0 by the template 'total and deterministic' (their statements: YtdpmfcifgimleaaGreatDoorTotals.lean).
  GIVEN WITH THE SEED: the statements are not yours to turn. If you find one false, say at which input.
  Laid BY PROGRAM, IN A SANDBOX (cutbox-rows.mjs): the forced cells as the released guide's own fill.sh prints them over the translation 9d1398945bb48b9a… (all of the seat's roots in one cut). By AI agents, Wed Nov 11 2026. No macro, syntax, notation, axiom, sorry.
-/
import Derived.Test.YtdpmfcifgimleaaGreatDoorChecked
import GoSem.Claim
import GoSem.ClaimJoined
import GoSem.ClaimMapViews
import Derived.JoinedTies
import Derived.KernelRfl
namespace Go.Proofs.YtdpmfcifgimleaaGreatDoor
/- THE CELL 'sum', in the pinned program and in every row, IS THE sha256 OF THE DUMP (.gsa) THAT YtdpmfcifgimleaaGreatDoorProg.lean LOADS. Nothing in Lean hashes anything: it is a label: what it is worth is what the hold of that sum in a sandbox is worth. -/
noncomputable def Tryz.pinned : Pinned := { name := "ytdpmfcifgimleaagreatdoor", sum := "9d1398945bb48b9aa8c24e719ae3e5e5d7c4fb952c937ce78e3686905c9f295e", checked := Tryz.checked }
namespace Rows
def none {H : Type} : Left H := { results := [], args := [] }

/- WHAT THE LISTED PACKAGE-LEVEL VARIABLES READ AS WHEN THE CALL BEGINS. Each datum BY PROGRAM (the guide's laid-datum.mjs) off the statement by which the dump's own 'gosem.cut.vars' lays the variable. In a bare row this is a premise. The card (YtdpmfcifgimleaaGreatDoorCards.lean) ties it to the program's text. -/
def laid_winnower_octet_crcSteps {H : Type} : DataW H := .agg [.lit (.int .u32 0), .lit (.int .u32 498536548), .lit (.int .u32 997073096), .lit (.int .u32 651767980), .lit (.int .u32 1994146192), .lit (.int .u32 1802195444), .lit (.int .u32 1303535960), .lit (.int .u32 1342533948), .lit (.int .u32 3988292384), .lit (.int .u32 4027552580), .lit (.int .u32 3604390888), .lit (.int .u32 3412177804), .lit (.int .u32 2607071920), .lit (.int .u32 2262029012), .lit (.int .u32 2685067896), .lit (.int .u32 3183342108)]

/-- 'winnowerlaw4.VaultPlays': WHATEVER THE INPUT: true; the input reads as it did. -/
def vaultPlaysSpec : ChangeSpec := { name := "vaultPlays", fn := fun _ => fun
  | [d1, d2] => { results := [.lit (.bool true)], args := [d1, d2] }
  | _ => none }
def vaultPlaysRow : OpenClaim := { program := "ytdpmfcifgimleaagreatdoor", sum := "9d1398945bb48b9aa8c24e719ae3e5e5d7c4fb952c937ce78e3686905c9f295e", func := "winnower/winnowerlaw4.VaultPlays", spec := "vaultPlays", inPlace := ["internal/bytealg.abigen_runtime_cmpstring"], unfollowed := true, recurses := true, named := ["winnower/octet.crcSteps"], apart := false, laid := [("winnower/octet.crcSteps", laid_winnower_octet_crcSteps)] }
def VaultPlaysSaid : Prop := vaultPlaysRow.holds Tryz.pinned (OpenSpec.ofChange vaultPlaysSpec)

/-- ITS FALSE NEIGHBOUR: 'it returns false'. Refute it at one input. -/
def vaultPlaysWrong : ChangeSpec := { name := "vaultPlays", fn := fun _ => fun
  | [d1, d2] => { results := [.lit (.bool false)], args := [d1, d2] }
  | _ => none }
def VaultPlaysWrongFalsely : Prop := vaultPlaysRow.holds Tryz.pinned (OpenSpec.ofChange vaultPlaysWrong)

/-- 'winnowerlaw4.VaultLasts': WHATEVER THE INPUT: true; the input reads as it did. -/
def vaultLastsSpec : ChangeSpec := { name := "vaultLasts", fn := fun _ => fun
  | [d] => { results := [.lit (.bool true)], args := [d] }
  | _ => none }
def vaultLastsRow : OpenClaim := { program := "ytdpmfcifgimleaagreatdoor", sum := "9d1398945bb48b9aa8c24e719ae3e5e5d7c4fb952c937ce78e3686905c9f295e", func := "winnower/winnowerlaw4.VaultLasts", spec := "vaultLasts", inPlace := ["internal/bytealg.abigen_runtime_cmpstring"], unfollowed := true, recurses := true, named := ["winnower/octet.crcSteps"], apart := false, laid := [("winnower/octet.crcSteps", laid_winnower_octet_crcSteps)] }
def VaultLastsSaid : Prop := vaultLastsRow.holds Tryz.pinned (OpenSpec.ofChange vaultLastsSpec)

/-- ITS FALSE NEIGHBOUR: 'it returns false'. Refute it at one input. -/
def vaultLastsWrong : ChangeSpec := { name := "vaultLasts", fn := fun _ => fun
  | [d] => { results := [.lit (.bool false)], args := [d] }
  | _ => none }
def VaultLastsWrongFalsely : Prop := vaultLastsRow.holds Tryz.pinned (OpenSpec.ofChange vaultLastsWrong)

/-- 'winnowerlaw4.VaultRoom': WHATEVER THE INPUT: true; the input reads as it did. -/
def vaultRoomSpec : ChangeSpec := { name := "vaultRoom", fn := fun _ => fun
  | [d1, d2] => { results := [.lit (.bool true)], args := [d1, d2] }
  | _ => none }
def vaultRoomRow : OpenClaim := { program := "ytdpmfcifgimleaagreatdoor", sum := "9d1398945bb48b9aa8c24e719ae3e5e5d7c4fb952c937ce78e3686905c9f295e", func := "winnower/winnowerlaw4.VaultRoom", spec := "vaultRoom", inPlace := ["internal/bytealg.abigen_runtime_cmpstring"], unfollowed := true, recurses := true, named := ["winnower/octet.crcSteps"], apart := false, laid := [("winnower/octet.crcSteps", laid_winnower_octet_crcSteps)] }
def VaultRoomSaid : Prop := vaultRoomRow.holds Tryz.pinned (OpenSpec.ofChange vaultRoomSpec)

/-- ITS FALSE NEIGHBOUR: 'it returns false'. Refute it at one input. -/
def vaultRoomWrong : ChangeSpec := { name := "vaultRoom", fn := fun _ => fun
  | [d1, d2] => { results := [.lit (.bool false)], args := [d1, d2] }
  | _ => none }
def VaultRoomWrongFalsely : Prop := vaultRoomRow.holds Tryz.pinned (OpenSpec.ofChange vaultRoomWrong)

/-- 'winnowerlaw4.VaultFull': WHATEVER THE INPUT: true; the input reads as it did. -/
def vaultFullSpec : ChangeSpec := { name := "vaultFull", fn := fun _ => fun
  | [d1, d2] => { results := [.lit (.bool true)], args := [d1, d2] }
  | _ => none }
def vaultFullRow : OpenClaim := { program := "ytdpmfcifgimleaagreatdoor", sum := "9d1398945bb48b9aa8c24e719ae3e5e5d7c4fb952c937ce78e3686905c9f295e", func := "winnower/winnowerlaw4.VaultFull", spec := "vaultFull", inPlace := ["internal/bytealg.abigen_runtime_cmpstring"], unfollowed := true, recurses := true, named := ["winnower/octet.crcSteps"], apart := false, laid := [("winnower/octet.crcSteps", laid_winnower_octet_crcSteps)] }
def VaultFullSaid : Prop := vaultFullRow.holds Tryz.pinned (OpenSpec.ofChange vaultFullSpec)

/-- ITS FALSE NEIGHBOUR: 'it returns false'. Refute it at one input. -/
def vaultFullWrong : ChangeSpec := { name := "vaultFull", fn := fun _ => fun
  | [d1, d2] => { results := [.lit (.bool false)], args := [d1, d2] }
  | _ => none }
def VaultFullWrongFalsely : Prop := vaultFullRow.holds Tryz.pinned (OpenSpec.ofChange vaultFullWrong)

/-- 'winnowerlaw4.VaultOfNothing': WHATEVER THE INPUT: true; the input reads as it did. -/
def vaultOfNothingSpec : ChangeSpec := { name := "vaultOfNothing", fn := fun _ => fun
  | [d1, d2] => { results := [.lit (.bool true)], args := [d1, d2] }
  | _ => none }
def vaultOfNothingRow : OpenClaim := { program := "ytdpmfcifgimleaagreatdoor", sum := "9d1398945bb48b9aa8c24e719ae3e5e5d7c4fb952c937ce78e3686905c9f295e", func := "winnower/winnowerlaw4.VaultOfNothing", spec := "vaultOfNothing", inPlace := ["internal/bytealg.abigen_runtime_cmpstring"], unfollowed := true, recurses := true, named := ["winnower/octet.crcSteps"], apart := false, laid := [("winnower/octet.crcSteps", laid_winnower_octet_crcSteps)] }
def VaultOfNothingSaid : Prop := vaultOfNothingRow.holds Tryz.pinned (OpenSpec.ofChange vaultOfNothingSpec)

/-- ITS FALSE NEIGHBOUR: 'it returns false'. Refute it at one input. -/
def vaultOfNothingWrong : ChangeSpec := { name := "vaultOfNothing", fn := fun _ => fun
  | [d1, d2] => { results := [.lit (.bool false)], args := [d1, d2] }
  | _ => none }
def VaultOfNothingWrongFalsely : Prop := vaultOfNothingRow.holds Tryz.pinned (OpenSpec.ofChange vaultOfNothingWrong)

/-- 'winnowerlaw4.VaultReplaces': WHATEVER THE INPUT: true; the input reads as it did. -/
def vaultReplacesSpec : ChangeSpec := { name := "vaultReplaces", fn := fun _ => fun
  | [d1, d2, d3] => { results := [.lit (.bool true)], args := [d1, d2, d3] }
  | _ => none }
def vaultReplacesRow : OpenClaim := { program := "ytdpmfcifgimleaagreatdoor", sum := "9d1398945bb48b9aa8c24e719ae3e5e5d7c4fb952c937ce78e3686905c9f295e", func := "winnower/winnowerlaw4.VaultReplaces", spec := "vaultReplaces", inPlace := ["internal/bytealg.abigen_runtime_cmpstring"], unfollowed := true, recurses := true, named := ["winnower/octet.crcSteps"], apart := false, laid := [("winnower/octet.crcSteps", laid_winnower_octet_crcSteps)] }
def VaultReplacesSaid : Prop := vaultReplacesRow.holds Tryz.pinned (OpenSpec.ofChange vaultReplacesSpec)

/-- ITS FALSE NEIGHBOUR: 'it returns false'. Refute it at one input. -/
def vaultReplacesWrong : ChangeSpec := { name := "vaultReplaces", fn := fun _ => fun
  | [d1, d2, d3] => { results := [.lit (.bool false)], args := [d1, d2, d3] }
  | _ => none }
def VaultReplacesWrongFalsely : Prop := vaultReplacesRow.holds Tryz.pinned (OpenSpec.ofChange vaultReplacesWrong)

/-- 'winnowerlaw4.VaultOwn': WHATEVER THE INPUT: true; the input reads as it did. -/
def vaultOwnSpec : ChangeSpec := { name := "vaultOwn", fn := fun _ => fun
  | [d] => { results := [.lit (.bool true)], args := [d] }
  | _ => none }
def vaultOwnRow : OpenClaim := { program := "ytdpmfcifgimleaagreatdoor", sum := "9d1398945bb48b9aa8c24e719ae3e5e5d7c4fb952c937ce78e3686905c9f295e", func := "winnower/winnowerlaw4.VaultOwn", spec := "vaultOwn", inPlace := ["internal/bytealg.abigen_runtime_cmpstring"], unfollowed := true, recurses := true, named := ["winnower/octet.crcSteps"], apart := false, laid := [("winnower/octet.crcSteps", laid_winnower_octet_crcSteps)] }
def VaultOwnSaid : Prop := vaultOwnRow.holds Tryz.pinned (OpenSpec.ofChange vaultOwnSpec)

/-- ITS FALSE NEIGHBOUR: 'it returns false'. Refute it at one input. -/
def vaultOwnWrong : ChangeSpec := { name := "vaultOwn", fn := fun _ => fun
  | [d] => { results := [.lit (.bool false)], args := [d] }
  | _ => none }
def VaultOwnWrongFalsely : Prop := vaultOwnRow.holds Tryz.pinned (OpenSpec.ofChange vaultOwnWrong)

/-- 'winnowerlaw4.VaultSpoilt': WHATEVER THE INPUT: true; the input reads as it did. -/
def vaultSpoiltSpec : ChangeSpec := { name := "vaultSpoilt", fn := fun _ => fun
  | [d1, d2, d3, d4] => { results := [.lit (.bool true)], args := [d1, d2, d3, d4] }
  | _ => none }
def vaultSpoiltRow : OpenClaim := { program := "ytdpmfcifgimleaagreatdoor", sum := "9d1398945bb48b9aa8c24e719ae3e5e5d7c4fb952c937ce78e3686905c9f295e", func := "winnower/winnowerlaw4.VaultSpoilt", spec := "vaultSpoilt", inPlace := ["internal/bytealg.abigen_runtime_cmpstring"], unfollowed := true, recurses := true, named := ["winnower/octet.crcSteps"], apart := false, laid := [("winnower/octet.crcSteps", laid_winnower_octet_crcSteps)] }
def VaultSpoiltSaid : Prop := vaultSpoiltRow.holds Tryz.pinned (OpenSpec.ofChange vaultSpoiltSpec)

/-- ITS FALSE NEIGHBOUR: 'it returns false'. Refute it at one input. -/
def vaultSpoiltWrong : ChangeSpec := { name := "vaultSpoilt", fn := fun _ => fun
  | [d1, d2, d3, d4] => { results := [.lit (.bool false)], args := [d1, d2, d3, d4] }
  | _ => none }
def VaultSpoiltWrongFalsely : Prop := vaultSpoiltRow.holds Tryz.pinned (OpenSpec.ofChange vaultSpoiltWrong)

/- THE SECOND FORM. 'bulk': how many values and letters a reading holds, each counted each time it is reached (what is shared counts as often as it is met; a slice's spare places count too). A statement '..UptoSaid' is the law's where the arguments, and the package variables that the reading takes, are together of bulk at most 1048576: NARROWER than '..Said'. Prove '..Said' where nothing that the law and all that it calls make is longer than what came in: it says more and counts as full. Else prove '..UptoSaid'. A law counts once. -/
mutual
def uptoBulk {H : Type} : DataW H → Nat
  | .lit (.string bytes) => bytes.length + 1
  | .lit _ => 1
  | .nil => 1
  | .ptr d => uptoBulk d + 1
  | .slice elems spare => uptoBulkAll elems + uptoBulkAll spare + 1
  | .agg parts => uptoBulkAll parts + 1
  | .iface _ d => uptoBulk d + 1
  | .map entries => uptoBulkEntries entries + 1
  | .held _ => 1
def uptoBulkAll {H : Type} : List (DataW H) → Nat
  | [] => 0
  | d :: r => uptoBulk d + uptoBulkAll r
def uptoBulkEntries {H : Type} : List (Lit × DataW H) → Nat
  | [] => 0
  | x :: r => uptoBulkEntry x + uptoBulkEntries r
def uptoBulkEntry {H : Type} : Lit × DataW H → Nat
  | (.string bytes, d) => bytes.length + uptoBulk d + 1
  | (_, d) => uptoBulk d + 1
 end
def uptoSmall : (H : Type) → List (DataW H) → Bool := fun _ ds => decide (uptoBulkAll ds ≤ 1048576)
def OpenSpec.upto (s : _root_.Go.ChangeSpec) : _root_.Go.OpenSpec := { _root_.Go.OpenSpec.ofChange s with cond := some uptoSmall }

/-- 'winnowerlaw4.VaultPlays', WHERE WHAT IT READS IS OF BULK AT MOST 1048576: true; the input reads as it did. -/
def vaultPlaysUptoRow : OpenClaim := { program := "ytdpmfcifgimleaagreatdoor", sum := "9d1398945bb48b9aa8c24e719ae3e5e5d7c4fb952c937ce78e3686905c9f295e", func := "winnower/winnowerlaw4.VaultPlays", spec := "vaultPlays", inPlace := ["internal/bytealg.abigen_runtime_cmpstring"], unfollowed := true, recurses := true, named := ["winnower/octet.crcSteps"], apart := false, laid := [("winnower/octet.crcSteps", laid_winnower_octet_crcSteps)], narrowed := true }
def VaultPlaysUptoSaid : Prop := vaultPlaysUptoRow.holds Tryz.pinned (OpenSpec.upto vaultPlaysSpec)

/-- 'winnowerlaw4.VaultLasts', WHERE WHAT IT READS IS OF BULK AT MOST 1048576: true; the input reads as it did. -/
def vaultLastsUptoRow : OpenClaim := { program := "ytdpmfcifgimleaagreatdoor", sum := "9d1398945bb48b9aa8c24e719ae3e5e5d7c4fb952c937ce78e3686905c9f295e", func := "winnower/winnowerlaw4.VaultLasts", spec := "vaultLasts", inPlace := ["internal/bytealg.abigen_runtime_cmpstring"], unfollowed := true, recurses := true, named := ["winnower/octet.crcSteps"], apart := false, laid := [("winnower/octet.crcSteps", laid_winnower_octet_crcSteps)], narrowed := true }
def VaultLastsUptoSaid : Prop := vaultLastsUptoRow.holds Tryz.pinned (OpenSpec.upto vaultLastsSpec)

/-- 'winnowerlaw4.VaultRoom', WHERE WHAT IT READS IS OF BULK AT MOST 1048576: true; the input reads as it did. -/
def vaultRoomUptoRow : OpenClaim := { program := "ytdpmfcifgimleaagreatdoor", sum := "9d1398945bb48b9aa8c24e719ae3e5e5d7c4fb952c937ce78e3686905c9f295e", func := "winnower/winnowerlaw4.VaultRoom", spec := "vaultRoom", inPlace := ["internal/bytealg.abigen_runtime_cmpstring"], unfollowed := true, recurses := true, named := ["winnower/octet.crcSteps"], apart := false, laid := [("winnower/octet.crcSteps", laid_winnower_octet_crcSteps)], narrowed := true }
def VaultRoomUptoSaid : Prop := vaultRoomUptoRow.holds Tryz.pinned (OpenSpec.upto vaultRoomSpec)

/-- 'winnowerlaw4.VaultFull', WHERE WHAT IT READS IS OF BULK AT MOST 1048576: true; the input reads as it did. -/
def vaultFullUptoRow : OpenClaim := { program := "ytdpmfcifgimleaagreatdoor", sum := "9d1398945bb48b9aa8c24e719ae3e5e5d7c4fb952c937ce78e3686905c9f295e", func := "winnower/winnowerlaw4.VaultFull", spec := "vaultFull", inPlace := ["internal/bytealg.abigen_runtime_cmpstring"], unfollowed := true, recurses := true, named := ["winnower/octet.crcSteps"], apart := false, laid := [("winnower/octet.crcSteps", laid_winnower_octet_crcSteps)], narrowed := true }
def VaultFullUptoSaid : Prop := vaultFullUptoRow.holds Tryz.pinned (OpenSpec.upto vaultFullSpec)

/-- 'winnowerlaw4.VaultOfNothing', WHERE WHAT IT READS IS OF BULK AT MOST 1048576: true; the input reads as it did. -/
def vaultOfNothingUptoRow : OpenClaim := { program := "ytdpmfcifgimleaagreatdoor", sum := "9d1398945bb48b9aa8c24e719ae3e5e5d7c4fb952c937ce78e3686905c9f295e", func := "winnower/winnowerlaw4.VaultOfNothing", spec := "vaultOfNothing", inPlace := ["internal/bytealg.abigen_runtime_cmpstring"], unfollowed := true, recurses := true, named := ["winnower/octet.crcSteps"], apart := false, laid := [("winnower/octet.crcSteps", laid_winnower_octet_crcSteps)], narrowed := true }
def VaultOfNothingUptoSaid : Prop := vaultOfNothingUptoRow.holds Tryz.pinned (OpenSpec.upto vaultOfNothingSpec)

/-- 'winnowerlaw4.VaultReplaces', WHERE WHAT IT READS IS OF BULK AT MOST 1048576: true; the input reads as it did. -/
def vaultReplacesUptoRow : OpenClaim := { program := "ytdpmfcifgimleaagreatdoor", sum := "9d1398945bb48b9aa8c24e719ae3e5e5d7c4fb952c937ce78e3686905c9f295e", func := "winnower/winnowerlaw4.VaultReplaces", spec := "vaultReplaces", inPlace := ["internal/bytealg.abigen_runtime_cmpstring"], unfollowed := true, recurses := true, named := ["winnower/octet.crcSteps"], apart := false, laid := [("winnower/octet.crcSteps", laid_winnower_octet_crcSteps)], narrowed := true }
def VaultReplacesUptoSaid : Prop := vaultReplacesUptoRow.holds Tryz.pinned (OpenSpec.upto vaultReplacesSpec)

/-- 'winnowerlaw4.VaultOwn', WHERE WHAT IT READS IS OF BULK AT MOST 1048576: true; the input reads as it did. -/
def vaultOwnUptoRow : OpenClaim := { program := "ytdpmfcifgimleaagreatdoor", sum := "9d1398945bb48b9aa8c24e719ae3e5e5d7c4fb952c937ce78e3686905c9f295e", func := "winnower/winnowerlaw4.VaultOwn", spec := "vaultOwn", inPlace := ["internal/bytealg.abigen_runtime_cmpstring"], unfollowed := true, recurses := true, named := ["winnower/octet.crcSteps"], apart := false, laid := [("winnower/octet.crcSteps", laid_winnower_octet_crcSteps)], narrowed := true }
def VaultOwnUptoSaid : Prop := vaultOwnUptoRow.holds Tryz.pinned (OpenSpec.upto vaultOwnSpec)

/-- 'winnowerlaw4.VaultSpoilt', WHERE WHAT IT READS IS OF BULK AT MOST 1048576: true; the input reads as it did. -/
def vaultSpoiltUptoRow : OpenClaim := { program := "ytdpmfcifgimleaagreatdoor", sum := "9d1398945bb48b9aa8c24e719ae3e5e5d7c4fb952c937ce78e3686905c9f295e", func := "winnower/winnowerlaw4.VaultSpoilt", spec := "vaultSpoilt", inPlace := ["internal/bytealg.abigen_runtime_cmpstring"], unfollowed := true, recurses := true, named := ["winnower/octet.crcSteps"], apart := false, laid := [("winnower/octet.crcSteps", laid_winnower_octet_crcSteps)], narrowed := true }
def VaultSpoiltUptoSaid : Prop := vaultSpoiltUptoRow.holds Tryz.pinned (OpenSpec.upto vaultSpoiltSpec)

end Rows
end Go.Proofs.YtdpmfcifgimleaaGreatDoor
