/-
  Plain mathematics: a number as bytes, the lowest first. No Go here.
-/
namespace Go.Proofs.YtlpjeopeboemmaaDoor

/-- a number as so many bytes, the lowest first -/
def lowB (k n : Nat) : List UInt8 := (List.range k).map fun i => (n / 256 ^ i).toUInt8
theorem lowB_length (k n : Nat) : (lowB k n).length = k := by simp [lowB]
theorem lowB_zero (n : Nat) : lowB 0 n = [] := rfl
theorem lowB_succ (k n : Nat) : lowB (k + 1) n = lowB k n ++ [(n / 256 ^ k).toUInt8] := by
  unfold lowB; rw [List.range_succ, List.map_append]; rfl
theorem lowB_get (k n i : Nat) (h : i < k) : (lowB k n)[i]? = some (n / 256 ^ i).toUInt8 := by
  unfold lowB; simp [h]
theorem lowB_cons : ∀ (k n : Nat), lowB (k + 1) n = n.toUInt8 :: lowB k (n / 256)
  | 0, n => by rw [lowB_succ]; simp [lowB_zero]
  | k + 1, n => by
    rw [lowB_succ, lowB_cons k, lowB_succ k (n / 256), Nat.div_div_eq_div_mul, Nat.pow_succ, Nat.mul_comm 256]; rfl

/-- the number that bytes are, the lowest first -/
def ofLow : List UInt8 → Nat
  | [] => 0
  | b :: r => b.toNat + 256 * ofLow r
theorem ofLow_snoc : ∀ (l : List UInt8) (b : UInt8), ofLow (l ++ [b]) = ofLow l + b.toNat * 256 ^ l.length
  | [], b => by simp [ofLow]
  | a :: r, b => by
    rw [List.cons_append, ofLow, ofLow, ofLow_snoc r b, List.length_cons, Nat.pow_succ, Nat.mul_add, Nat.mul_left_comm, Nat.mul_comm 256 (256 ^ r.length)]
    omega
theorem ofLow_lt : ∀ (l : List UInt8), ofLow l < 256 ^ l.length
  | [] => by simp [ofLow]
  | a :: r => by
    have := ofLow_lt r
    have ha := a.toNat_lt
    rw [ofLow, List.length_cons, Nat.pow_succ, Nat.mul_comm (256 ^ r.length)]
    omega
theorem toUInt8_toNat (n : Nat) : n.toUInt8.toNat = n % 256 := by simp [Nat.toUInt8, UInt8.toNat_ofNat']
theorem ofLow_lowB : ∀ (k n : Nat), ofLow (lowB k n) = n % 256 ^ k
  | 0, n => by simp [lowB_zero, ofLow, Nat.mod_one]
  | k + 1, n => by
    rw [lowB_cons, ofLow, ofLow_lowB k, toUInt8_toNat, Nat.pow_succ, Nat.mul_comm (256 ^ k), Nat.mod_mul]
theorem lowB_ofLow : ∀ (l : List UInt8), lowB l.length (ofLow l) = l
  | [] => rfl
  | a :: r => by
    have ha := a.toNat_lt
    rw [List.length_cons, lowB_cons, ofLow, show (a.toNat + 256 * ofLow r) / 256 = ofLow r by omega, lowB_ofLow r]
    congr 1
    apply UInt8.toNat_inj.1
    rw [toUInt8_toNat]; omega
theorem lowB_inj {k a b : Nat} (ha : a < 256 ^ k) (hb : b < 256 ^ k) (h : lowB k a = lowB k b) : a = b := by
  have e := congrArg ofLow h
  rw [ofLow_lowB, ofLow_lowB, Nat.mod_eq_of_lt ha, Nat.mod_eq_of_lt hb] at e
  exact e
theorem ofLow_take_succ (l : List UInt8) (k : Nat) (h : k < l.length) : ofLow (l.take (k + 1)) = ofLow (l.take k) + l[k].toNat * 256 ^ k := by
  rw [List.take_succ_eq_append_getElem h, ofLow_snoc, List.length_take, Nat.min_eq_left (by omega)]
theorem ofLow_drop (l : List UInt8) (k : Nat) (h : k < l.length) : ofLow (l.drop k) = l[k].toNat + 256 * ofLow (l.drop (k + 1)) := by
  rw [List.drop_eq_getElem_cons h, ofLow]
theorem ofLow_lt_of {l : List UInt8} {k : Nat} (h : l.length ≤ k) : ofLow l < 256 ^ k := Nat.lt_of_lt_of_le (ofLow_lt l) (Nat.pow_le_pow_right (by omega) h)
end Go.Proofs.YtlpjeopeboemmaaDoor
