/-
  Plain mathematics of super: sectors of a slot, what they tell, what an opened disk tells. No Go here.
-/
import Derived.Test.YtlpjeopeboemmaaDoorLow
import Derived.Test.YtlpjeopeboemmaaDoorCrc
import Derived.Test.YtlpjeopeboemmaaDoorStage
namespace Go.Proofs.YtlpjeopeboemmaaDoor

/-- the number that a sector bears; 0: none -/
def numOf (row : List UInt8) : Nat := if ofLow (row.drop 60) = sumOf (row.take 60) ∧ ofLow (row.take 8) ≤ 1125899906842624 then ofLow (row.take 8) else 0
/-- what a slot's sectors bear, one behind the other -/
def borneOf (img : List UInt8) : List UInt8 := lowB 2 img.length ++ img ++ List.replicate (814 - img.length) 0
/-- what is summed of a sector -/
def headOf (n k : Nat) (img : List UInt8) : List UInt8 := lowB 8 n ++ [k.toUInt8] ++ ((borneOf img).drop (k * 51)).take 51
def rowOf (n k : Nat) (img : List UInt8) : List UInt8 := headOf n k img ++ lowB 4 (sumOf (headOf n k img))
def packOf (n : Nat) (img : List UInt8) : List (List UInt8) := (List.range 16).map fun k => rowOf n k img
/-- Pack: nothing, if the number or the image may not be -/
def fits (n : Int) (img : List UInt8) : Prop := 1 ≤ n ∧ n ≤ 1125899906842624 ∧ img.length ≤ 814
instance (n : Int) (img : List UInt8) : Decidable (fits n img) := by unfold fits; infer_instance
def packI (n : Int) (img : List UInt8) : List (List UInt8) := if fits n img then packOf n.toNat img else []
theorem sumOf_lt (xs : List UInt8) : sumOf xs < 4294967296 := by unfold sumOf; omega
theorem numOf_le (row : List UInt8) : numOf row ≤ 1125899906842624 := by unfold numOf; split <;> omega
/-- the sectors of a slot, as they are read -/
def slotRows (S : Sec) (k : Nat) : List (List UInt8) := (List.range 16).map fun i => lastOf (S.getD (k * 16 + i) [])
def borneR (rows : List (List UInt8)) : List UInt8 := (rows.map fun r => (r.drop 9).take 51).flatten
def sizeR (rows : List (List UInt8)) : Nat := ofLow ((borneR rows).take 2)
def imgR (rows : List (List UInt8)) : List UInt8 := if sizeR rows ≤ 814 then ((borneR rows).drop 2).take (sizeR rows) else []
/-- what a slot's sectors tell: nothing, if they are not Pack of a number and an image -/
def unpackS (rows : List (List UInt8)) : Nat × List UInt8 :=
  if rows = packI (numOf (rows.headD []) : Int) (imgR rows) then (numOf (rows.headD []), imgR rows) else (0, [])
theorem slotRows_length (S : Sec) (k : Nat) : (slotRows S k).length = 16 := by simp [slotRows]
theorem slotRows_take (S : Sec) (k i : Nat) (hi : i < 16) : (slotRows S k).take (i + 1) = (slotRows S k).take i ++ [lastOf (S.getD (k * 16 + i) [])] := by
  rw [List.take_succ_eq_append_getElem (by rw [slotRows_length]; exact hi)]
  simp [slotRows]
/-- the greatest number that any of these sectors bears, or 'm' -/
def mostR (m : Nat) (rows : List (List UInt8)) : Nat := rows.foldl (fun m r => max m (numOf r)) m
end Go.Proofs.YtlpjeopeboemmaaDoor
