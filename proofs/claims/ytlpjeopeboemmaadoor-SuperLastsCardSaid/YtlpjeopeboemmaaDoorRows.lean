/-
  NARROWER THAN 'FOR EVERY INPUT', by the rows' own cells (each row's printed sentence says how): SuperPlays: laid · SuperLasts: laid · SuperPacks: laid · SuperOpens: laid · SuperRises: laid · SuperOfNothing: laid · SuperTurned: laid · SuperMany: laid.
  DERIVED. THE GIVEN ROWS OF THIS SEAT. 8 by the template 'for every input the law returns true; each argument reads behind the call as it read before'; 0 by the template 'total and deterministic' (their statements: YtlpjeopeboemmaaDoorTotals.lean).
  GIVEN WITH THE SEED: the statements are not yours to turn. If you find one false, say at which input.
  Laid BY PROGRAM, IN A SANDBOX (cutbox-rows.mjs): the forced cells as the released guide's own fill.sh prints them over the translation 89c43eacf642b82e… (all of the seat's roots in one cut). By AI agents, Wed Nov 11 2026. No macro, syntax, notation, axiom, sorry.
-/
import Derived.Test.YtlpjeopeboemmaaDoorChecked
import GoSem.Claim
import GoSem.ClaimJoined
import GoSem.ClaimMapViews
import Derived.JoinedTies
import Derived.KernelRfl
namespace Go.Proofs.YtlpjeopeboemmaaDoor
/- THE CELL 'sum', in the pinned program and in every row, IS THE sha256 OF THE DUMP (.gsa) THAT YtlpjeopeboemmaaDoorProg.lean LOADS. Nothing in Lean hashes anything: it is a label: what it is worth is what the hold of that sum in a sandbox is worth. -/
noncomputable def Tryd.pinned : Pinned := { name := "ytlpjeopeboemmaadoor", sum := "89c43eacf642b82e8dd48c88c884321f4b047ab037508b8b48712fabec32c527", checked := Tryd.checked }
namespace Rows
def none {H : Type} : Left H := { results := [], args := [] }

/- WHAT THE LISTED PACKAGE-LEVEL VARIABLES READ AS WHEN THE CALL BEGINS. Each datum BY PROGRAM (the guide's laid-datum.mjs) off the statement by which the dump's own 'gosem.cut.vars' lays the variable. In a bare row this is a premise. The card (YtlpjeopeboemmaaDoorCards.lean) ties it to the program's text. -/
def laid_winnower_octet_crcSteps {H : Type} : DataW H := .agg [.lit (.int .u32 0), .lit (.int .u32 498536548), .lit (.int .u32 997073096), .lit (.int .u32 651767980), .lit (.int .u32 1994146192), .lit (.int .u32 1802195444), .lit (.int .u32 1303535960), .lit (.int .u32 1342533948), .lit (.int .u32 3988292384), .lit (.int .u32 4027552580), .lit (.int .u32 3604390888), .lit (.int .u32 3412177804), .lit (.int .u32 2607071920), .lit (.int .u32 2262029012), .lit (.int .u32 2685067896), .lit (.int .u32 3183342108)]

/-- 'winnowerlaw3.SuperPlays': WHATEVER THE INPUT: true; the input reads as it did. -/
def superPlaysSpec : ChangeSpec := { name := "superPlays", fn := fun _ => fun
  | [d1, d2] => { results := [.lit (.bool true)], args := [d1, d2] }
  | _ => none }
def superPlaysRow : OpenClaim := { program := "ytlpjeopeboemmaadoor", sum := "89c43eacf642b82e8dd48c88c884321f4b047ab037508b8b48712fabec32c527", func := "winnower/winnowerlaw3.SuperPlays", spec := "superPlays", unfollowed := true, recurses := true, named := ["winnower/octet.crcSteps"], apart := false, laid := [("winnower/octet.crcSteps", laid_winnower_octet_crcSteps)] }
def SuperPlaysSaid : Prop := superPlaysRow.holds Tryd.pinned (OpenSpec.ofChange superPlaysSpec)

/-- ITS FALSE NEIGHBOUR: 'it returns false'. Refute it at one input. -/
def superPlaysWrong : ChangeSpec := { name := "superPlays", fn := fun _ => fun
  | [d1, d2] => { results := [.lit (.bool false)], args := [d1, d2] }
  | _ => none }
def SuperPlaysWrongFalsely : Prop := superPlaysRow.holds Tryd.pinned (OpenSpec.ofChange superPlaysWrong)

/-- 'winnowerlaw3.SuperLasts': WHATEVER THE INPUT: true; the input reads as it did. -/
def superLastsSpec : ChangeSpec := { name := "superLasts", fn := fun _ => fun
  | [d1, d2] => { results := [.lit (.bool true)], args := [d1, d2] }
  | _ => none }
def superLastsRow : OpenClaim := { program := "ytlpjeopeboemmaadoor", sum := "89c43eacf642b82e8dd48c88c884321f4b047ab037508b8b48712fabec32c527", func := "winnower/winnowerlaw3.SuperLasts", spec := "superLasts", unfollowed := true, recurses := true, named := ["winnower/octet.crcSteps"], apart := false, laid := [("winnower/octet.crcSteps", laid_winnower_octet_crcSteps)] }
def SuperLastsSaid : Prop := superLastsRow.holds Tryd.pinned (OpenSpec.ofChange superLastsSpec)

/-- ITS FALSE NEIGHBOUR: 'it returns false'. Refute it at one input. -/
def superLastsWrong : ChangeSpec := { name := "superLasts", fn := fun _ => fun
  | [d1, d2] => { results := [.lit (.bool false)], args := [d1, d2] }
  | _ => none }
def SuperLastsWrongFalsely : Prop := superLastsRow.holds Tryd.pinned (OpenSpec.ofChange superLastsWrong)

/-- 'winnowerlaw3.SuperPacks': WHATEVER THE INPUT: true; the input reads as it did. -/
def superPacksSpec : ChangeSpec := { name := "superPacks", fn := fun _ => fun
  | [d1, d2] => { results := [.lit (.bool true)], args := [d1, d2] }
  | _ => none }
def superPacksRow : OpenClaim := { program := "ytlpjeopeboemmaadoor", sum := "89c43eacf642b82e8dd48c88c884321f4b047ab037508b8b48712fabec32c527", func := "winnower/winnowerlaw3.SuperPacks", spec := "superPacks", unfollowed := true, recurses := true, named := ["winnower/octet.crcSteps"], apart := false, laid := [("winnower/octet.crcSteps", laid_winnower_octet_crcSteps)] }
def SuperPacksSaid : Prop := superPacksRow.holds Tryd.pinned (OpenSpec.ofChange superPacksSpec)

/-- ITS FALSE NEIGHBOUR: 'it returns false'. Refute it at one input. -/
def superPacksWrong : ChangeSpec := { name := "superPacks", fn := fun _ => fun
  | [d1, d2] => { results := [.lit (.bool false)], args := [d1, d2] }
  | _ => none }
def SuperPacksWrongFalsely : Prop := superPacksRow.holds Tryd.pinned (OpenSpec.ofChange superPacksWrong)

/-- 'winnowerlaw3.SuperOpens': WHATEVER THE INPUT: true; the input reads as it did. -/
def superOpensSpec : ChangeSpec := { name := "superOpens", fn := fun _ => fun
  | [d1, d2, d3, d4, d5, d6] => { results := [.lit (.bool true)], args := [d1, d2, d3, d4, d5, d6] }
  | _ => none }
def superOpensRow : OpenClaim := { program := "ytlpjeopeboemmaadoor", sum := "89c43eacf642b82e8dd48c88c884321f4b047ab037508b8b48712fabec32c527", func := "winnower/winnowerlaw3.SuperOpens", spec := "superOpens", unfollowed := true, recurses := true, named := ["winnower/octet.crcSteps"], apart := false, laid := [("winnower/octet.crcSteps", laid_winnower_octet_crcSteps)] }
def SuperOpensSaid : Prop := superOpensRow.holds Tryd.pinned (OpenSpec.ofChange superOpensSpec)

/-- ITS FALSE NEIGHBOUR: 'it returns false'. Refute it at one input. -/
def superOpensWrong : ChangeSpec := { name := "superOpens", fn := fun _ => fun
  | [d1, d2, d3, d4, d5, d6] => { results := [.lit (.bool false)], args := [d1, d2, d3, d4, d5, d6] }
  | _ => none }
def SuperOpensWrongFalsely : Prop := superOpensRow.holds Tryd.pinned (OpenSpec.ofChange superOpensWrong)

/-- 'winnowerlaw3.SuperRises': WHATEVER THE INPUT: true; the input reads as it did. -/
def superRisesSpec : ChangeSpec := { name := "superRises", fn := fun _ => fun
  | [d] => { results := [.lit (.bool true)], args := [d] }
  | _ => none }
def superRisesRow : OpenClaim := { program := "ytlpjeopeboemmaadoor", sum := "89c43eacf642b82e8dd48c88c884321f4b047ab037508b8b48712fabec32c527", func := "winnower/winnowerlaw3.SuperRises", spec := "superRises", unfollowed := true, recurses := true, named := ["winnower/octet.crcSteps"], apart := false, laid := [("winnower/octet.crcSteps", laid_winnower_octet_crcSteps)] }
def SuperRisesSaid : Prop := superRisesRow.holds Tryd.pinned (OpenSpec.ofChange superRisesSpec)

/-- ITS FALSE NEIGHBOUR: 'it returns false'. Refute it at one input. -/
def superRisesWrong : ChangeSpec := { name := "superRises", fn := fun _ => fun
  | [d] => { results := [.lit (.bool false)], args := [d] }
  | _ => none }
def SuperRisesWrongFalsely : Prop := superRisesRow.holds Tryd.pinned (OpenSpec.ofChange superRisesWrong)

/-- 'winnowerlaw3.SuperOfNothing': WHATEVER THE INPUT: true; the input reads as it did. -/
def superOfNothingSpec : ChangeSpec := { name := "superOfNothing", fn := fun _ => fun
  | [d1, d2] => { results := [.lit (.bool true)], args := [d1, d2] }
  | _ => none }
def superOfNothingRow : OpenClaim := { program := "ytlpjeopeboemmaadoor", sum := "89c43eacf642b82e8dd48c88c884321f4b047ab037508b8b48712fabec32c527", func := "winnower/winnowerlaw3.SuperOfNothing", spec := "superOfNothing", unfollowed := true, recurses := true, named := ["winnower/octet.crcSteps"], apart := false, laid := [("winnower/octet.crcSteps", laid_winnower_octet_crcSteps)] }
def SuperOfNothingSaid : Prop := superOfNothingRow.holds Tryd.pinned (OpenSpec.ofChange superOfNothingSpec)

/-- ITS FALSE NEIGHBOUR: 'it returns false'. Refute it at one input. -/
def superOfNothingWrong : ChangeSpec := { name := "superOfNothing", fn := fun _ => fun
  | [d1, d2] => { results := [.lit (.bool false)], args := [d1, d2] }
  | _ => none }
def SuperOfNothingWrongFalsely : Prop := superOfNothingRow.holds Tryd.pinned (OpenSpec.ofChange superOfNothingWrong)

/-- 'winnowerlaw3.SuperTurned': WHATEVER THE INPUT: true; the input reads as it did. -/
def superTurnedSpec : ChangeSpec := { name := "superTurned", fn := fun _ => fun
  | [d1, d2, d3, d4, d5] => { results := [.lit (.bool true)], args := [d1, d2, d3, d4, d5] }
  | _ => none }
def superTurnedRow : OpenClaim := { program := "ytlpjeopeboemmaadoor", sum := "89c43eacf642b82e8dd48c88c884321f4b047ab037508b8b48712fabec32c527", func := "winnower/winnowerlaw3.SuperTurned", spec := "superTurned", unfollowed := true, recurses := true, named := ["winnower/octet.crcSteps"], apart := false, laid := [("winnower/octet.crcSteps", laid_winnower_octet_crcSteps)] }
def SuperTurnedSaid : Prop := superTurnedRow.holds Tryd.pinned (OpenSpec.ofChange superTurnedSpec)

/-- ITS FALSE NEIGHBOUR: 'it returns false'. Refute it at one input. -/
def superTurnedWrong : ChangeSpec := { name := "superTurned", fn := fun _ => fun
  | [d1, d2, d3, d4, d5] => { results := [.lit (.bool false)], args := [d1, d2, d3, d4, d5] }
  | _ => none }
def SuperTurnedWrongFalsely : Prop := superTurnedRow.holds Tryd.pinned (OpenSpec.ofChange superTurnedWrong)

/-- 'winnowerlaw3.SuperMany': WHATEVER THE INPUT: true; the input reads as it did. -/
def superManySpec : ChangeSpec := { name := "superMany", fn := fun _ => fun
  | [d] => { results := [.lit (.bool true)], args := [d] }
  | _ => none }
def superManyRow : OpenClaim := { program := "ytlpjeopeboemmaadoor", sum := "89c43eacf642b82e8dd48c88c884321f4b047ab037508b8b48712fabec32c527", func := "winnower/winnowerlaw3.SuperMany", spec := "superMany", unfollowed := true, recurses := true, named := ["winnower/octet.crcSteps"], apart := false, laid := [("winnower/octet.crcSteps", laid_winnower_octet_crcSteps)] }
def SuperManySaid : Prop := superManyRow.holds Tryd.pinned (OpenSpec.ofChange superManySpec)

/-- ITS FALSE NEIGHBOUR: 'it returns false'. Refute it at one input. -/
def superManyWrong : ChangeSpec := { name := "superMany", fn := fun _ => fun
  | [d] => { results := [.lit (.bool false)], args := [d] }
  | _ => none }
def SuperManyWrongFalsely : Prop := superManyRow.holds Tryd.pinned (OpenSpec.ofChange superManyWrong)

/- THE SECOND FORM. 'bulk': how many values and letters a reading holds, each counted each time it is reached (what is shared counts as often as it is met; a slice's spare places count too). A statement '..UptoSaid' is the law's where the arguments, and the package variables that the reading takes, are together of bulk at most 1048576: NARROWER than '..Said'. Prove '..Said' where nothing that the law and all that it calls make is longer than what came in: it says more and counts as full. Else prove '..UptoSaid'. A law counts once. -/
mutual
def uptoBulk {H : Type} : DataW H → Nat
  | .lit (.string bytes) => bytes.length + 1
  | .lit _ => 1
  | .nil => 1
  | .ptr d => uptoBulk d + 1
  | .slice elems spare => uptoBulkAll elems + uptoBulkAll spare + 1
  | .agg parts => uptoBulkAll parts + 1
  | .iface _ d => uptoBulk d + 1
  | .map entries => uptoBulkEntries entries + 1
  | .held _ => 1
def uptoBulkAll {H : Type} : List (DataW H) → Nat
  | [] => 0
  | d :: r => uptoBulk d + uptoBulkAll r
def uptoBulkEntries {H : Type} : List (Lit × DataW H) → Nat
  | [] => 0
  | x :: r => uptoBulkEntry x + uptoBulkEntries r
def uptoBulkEntry {H : Type} : Lit × DataW H → Nat
  | (.string bytes, d) => bytes.length + uptoBulk d + 1
  | (_, d) => uptoBulk d + 1
 end
def uptoSmall : (H : Type) → List (DataW H) → Bool := fun _ ds => decide (uptoBulkAll ds ≤ 1048576)
def OpenSpec.upto (s : _root_.Go.ChangeSpec) : _root_.Go.OpenSpec := { _root_.Go.OpenSpec.ofChange s with cond := some uptoSmall }

/-- 'winnowerlaw3.SuperPlays', WHERE WHAT IT READS IS OF BULK AT MOST 1048576: true; the input reads as it did. -/
def superPlaysUptoRow : OpenClaim := { program := "ytlpjeopeboemmaadoor", sum := "89c43eacf642b82e8dd48c88c884321f4b047ab037508b8b48712fabec32c527", func := "winnower/winnowerlaw3.SuperPlays", spec := "superPlays", unfollowed := true, recurses := true, named := ["winnower/octet.crcSteps"], apart := false, laid := [("winnower/octet.crcSteps", laid_winnower_octet_crcSteps)], narrowed := true }
def SuperPlaysUptoSaid : Prop := superPlaysUptoRow.holds Tryd.pinned (OpenSpec.upto superPlaysSpec)

/-- 'winnowerlaw3.SuperLasts', WHERE WHAT IT READS IS OF BULK AT MOST 1048576: true; the input reads as it did. -/
def superLastsUptoRow : OpenClaim := { program := "ytlpjeopeboemmaadoor", sum := "89c43eacf642b82e8dd48c88c884321f4b047ab037508b8b48712fabec32c527", func := "winnower/winnowerlaw3.SuperLasts", spec := "superLasts", unfollowed := true, recurses := true, named := ["winnower/octet.crcSteps"], apart := false, laid := [("winnower/octet.crcSteps", laid_winnower_octet_crcSteps)], narrowed := true }
def SuperLastsUptoSaid : Prop := superLastsUptoRow.holds Tryd.pinned (OpenSpec.upto superLastsSpec)

/-- 'winnowerlaw3.SuperPacks', WHERE WHAT IT READS IS OF BULK AT MOST 1048576: true; the input reads as it did. -/
def superPacksUptoRow : OpenClaim := { program := "ytlpjeopeboemmaadoor", sum := "89c43eacf642b82e8dd48c88c884321f4b047ab037508b8b48712fabec32c527", func := "winnower/winnowerlaw3.SuperPacks", spec := "superPacks", unfollowed := true, recurses := true, named := ["winnower/octet.crcSteps"], apart := false, laid := [("winnower/octet.crcSteps", laid_winnower_octet_crcSteps)], narrowed := true }
def SuperPacksUptoSaid : Prop := superPacksUptoRow.holds Tryd.pinned (OpenSpec.upto superPacksSpec)

/-- 'winnowerlaw3.SuperOpens', WHERE WHAT IT READS IS OF BULK AT MOST 1048576: true; the input reads as it did. -/
def superOpensUptoRow : OpenClaim := { program := "ytlpjeopeboemmaadoor", sum := "89c43eacf642b82e8dd48c88c884321f4b047ab037508b8b48712fabec32c527", func := "winnower/winnowerlaw3.SuperOpens", spec := "superOpens", unfollowed := true, recurses := true, named := ["winnower/octet.crcSteps"], apart := false, laid := [("winnower/octet.crcSteps", laid_winnower_octet_crcSteps)], narrowed := true }
def SuperOpensUptoSaid : Prop := superOpensUptoRow.holds Tryd.pinned (OpenSpec.upto superOpensSpec)

/-- 'winnowerlaw3.SuperRises', WHERE WHAT IT READS IS OF BULK AT MOST 1048576: true; the input reads as it did. -/
def superRisesUptoRow : OpenClaim := { program := "ytlpjeopeboemmaadoor", sum := "89c43eacf642b82e8dd48c88c884321f4b047ab037508b8b48712fabec32c527", func := "winnower/winnowerlaw3.SuperRises", spec := "superRises", unfollowed := true, recurses := true, named := ["winnower/octet.crcSteps"], apart := false, laid := [("winnower/octet.crcSteps", laid_winnower_octet_crcSteps)], narrowed := true }
def SuperRisesUptoSaid : Prop := superRisesUptoRow.holds Tryd.pinned (OpenSpec.upto superRisesSpec)

/-- 'winnowerlaw3.SuperOfNothing', WHERE WHAT IT READS IS OF BULK AT MOST 1048576: true; the input reads as it did. -/
def superOfNothingUptoRow : OpenClaim := { program := "ytlpjeopeboemmaadoor", sum := "89c43eacf642b82e8dd48c88c884321f4b047ab037508b8b48712fabec32c527", func := "winnower/winnowerlaw3.SuperOfNothing", spec := "superOfNothing", unfollowed := true, recurses := true, named := ["winnower/octet.crcSteps"], apart := false, laid := [("winnower/octet.crcSteps", laid_winnower_octet_crcSteps)], narrowed := true }
def SuperOfNothingUptoSaid : Prop := superOfNothingUptoRow.holds Tryd.pinned (OpenSpec.upto superOfNothingSpec)

/-- 'winnowerlaw3.SuperTurned', WHERE WHAT IT READS IS OF BULK AT MOST 1048576: true; the input reads as it did. -/
def superTurnedUptoRow : OpenClaim := { program := "ytlpjeopeboemmaadoor", sum := "89c43eacf642b82e8dd48c88c884321f4b047ab037508b8b48712fabec32c527", func := "winnower/winnowerlaw3.SuperTurned", spec := "superTurned", unfollowed := true, recurses := true, named := ["winnower/octet.crcSteps"], apart := false, laid := [("winnower/octet.crcSteps", laid_winnower_octet_crcSteps)], narrowed := true }
def SuperTurnedUptoSaid : Prop := superTurnedUptoRow.holds Tryd.pinned (OpenSpec.upto superTurnedSpec)

/-- 'winnowerlaw3.SuperMany', WHERE WHAT IT READS IS OF BULK AT MOST 1048576: true; the input reads as it did. -/
def superManyUptoRow : OpenClaim := { program := "ytlpjeopeboemmaadoor", sum := "89c43eacf642b82e8dd48c88c884321f4b047ab037508b8b48712fabec32c527", func := "winnower/winnowerlaw3.SuperMany", spec := "superMany", unfollowed := true, recurses := true, named := ["winnower/octet.crcSteps"], apart := false, laid := [("winnower/octet.crcSteps", laid_winnower_octet_crcSteps)], narrowed := true }
def SuperManyUptoSaid : Prop := superManyUptoRow.holds Tryd.pinned (OpenSpec.upto superManySpec)

end Rows
end Go.Proofs.YtlpjeopeboemmaaDoor
