/-
  A sector that is spoilt. Lists and numbers alone: no statement of the seat is proved here.
-/
import Derived.Test.YtlpjeopeboemmaaDoorNone
namespace Go.Proofs.YtlpjeopeboemmaaDoor
open Go Go.RowKit

/-- a sector of a right sum -/
def Right (r : List UInt8) : Prop := r.drop 60 = lowB 4 (sumOf (r.take 60))
theorem right_row {n k : Nat} {img : List UInt8} (hi : img.length ≤ 814) (hk : k < 16) : Right (rowOf n k img) := by
  have hh := head_length (n := n) hi hk
  unfold Right rowOf
  rw [List.drop_left' hh, List.take_left' hh]
theorem right_set {r : List UInt8} (hl : r.length = 64) (h : Right r) {j : Nat} (hj : j < 64) {y : UInt8} (hy : r[j]? ≠ some y) : ¬ Right (r.set j y) := by
  intro h2
  unfold Right at h h2
  by_cases h6 : j < 60
  · rw [List.drop_set_of_lt (by omega), List.take_set, h] at h2
    have hb : ∀ xs : List UInt8, sumOf xs < 256 ^ 4 := fun xs => by have := sumOf_lt xs; have e : (256 : Nat) ^ 4 = 4294967296 := rfl; omega
    have e := lowB_inj (hb _) (hb _) h2
    have hj2 : j < (r.take 60).length := by rw [List.length_take]; omega
    refine sum_set_ne (r.take 60) j hj2 y (fun e2 => hy ?_) e.symm
    rw [List.getElem_take] at e2
    rw [List.getElem?_eq_getElem (by omega), e2]
  · have e60 : (r.take 60).set j y = r.take 60 := List.set_eq_of_length_le (by rw [List.length_take]; omega)
    rw [List.take_set, e60, ← h] at h2
    have h3 := congrArg (·[j - 60]?) h2
    simp only [List.getElem?_drop] at h3
    rw [show 60 + (j - 60) = j by omega, List.getElem?_set_self (by omega)] at h3
    exact hy h3.symm
theorem unpack_spoilt {n q j : Nat} {img : List UInt8} {y : UInt8} (hi : img.length ≤ 814) (hq : q < 16) (hj : j < 64) (hy : (rowOf n q img)[j]? ≠ some y) : (unpackS ((packOf n img).set q ((rowOf n q img).set j y))).1 = 0 := by
  have hl : ((packOf n img).set q ((rowOf n q img).set j y)).length = 16 := by rw [List.length_set, packOf_length]
  rcases Nat.eq_zero_or_pos (unpackS ((packOf n img).set q ((rowOf n q img).set j y))).1 with h | h
  · exact h
  · exfalso
    obtain ⟨h1, h2, h3⟩ := unpack_some h hl
    have h4 : ((packOf n img).set q ((rowOf n q img).set j y))[q]? = some ((rowOf n q img).set j y) := List.getElem?_set_self (by rw [packOf_length]; omega)
    rw [h1, packOf_get hq] at h4
    injection h4 with h4
    have h5 := right_row (n := (unpackS ((packOf n img).set q ((rowOf n q img).set j y))).1) h3 hq
    rw [h4] at h5
    exact right_set (row_length hi hq) (right_row hi hq) hj hy h5
theorem slotD_set {D : List (List UInt8)} {k q : Nat} {v : List UInt8} (hq : q < 16) (h : k * 16 + 16 ≤ D.length) : slotD (D.set (k * 16 + q) v) k = (slotD D k).set q v := by
  refine List.ext_getElem? fun i => ?_
  by_cases hi : i < 16
  · rw [slotD_get _ _ _ hi, List.getElem?_set, slotD_length]
    by_cases e : q = i
    · subst e
      rw [if_pos rfl, if_pos hi, List.getD_eq_getElem?_getD, List.getElem?_set_self (by omega)]; rfl
    · rw [if_neg e, slotD_get _ _ _ hi, List.getD_eq_getElem?_getD, List.getElem?_set_ne (by omega), ← List.getD_eq_getElem?_getD]
  · rw [List.getElem?_eq_none (by rw [slotD_length]; omega), List.getElem?_eq_none (by rw [List.length_set, slotD_length]; omega)]
theorem slotD_set_other {D : List (List UInt8)} {k k' q : Nat} {v : List UInt8} (hq : q < 16) (hne : k ≠ k') : slotD (D.set (k * 16 + q) v) k' = slotD D k' :=
  slotD_congr fun i hi => by rw [List.getD_eq_getElem?_getD, List.getElem?_set_ne (by omega), ← List.getD_eq_getElem?_getD]
/-- a sector is written, without a fuse -/
theorem write_plain {S : Sec} {i : Nat} (hi : i < S.length) {bs : List UInt8} (hb : bs.length = 64) : writeS S (-1) (i : Int) bs = S.set i (S[i] ++ [bs]) ∧ lasts (writeS S (-1) (i : Int) bs) = (lasts S).set i bs ∧ writeCode S.length (-1) (i : Int) bs = 0 := by
  have hc : writeCode S.length (-1) (i : Int) bs = 0 := by
    unfold writeCode
    rw [if_neg (by omega), if_neg (by omega)]
  have e : writeS S (-1) (i : Int) bs = S.set i (S[i] ++ [bs]) := by
    unfold writeS
    rw [if_pos hc, Int.toNat_natCast, List.getD_eq_getElem?_getD, List.getElem?_eq_getElem hi, pad_row hb]; rfl
  refine ⟨e, ?_, hc⟩
  rw [e]
  unfold lasts
  rw [List.map_set, lastOf_snoc]
end Go.Proofs.YtlpjeopeboemmaaDoor
