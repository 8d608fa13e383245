/-
  Plain mathematics of octet: a number's digits to the base 128. No Go here.
-/
namespace Go.Proofs.YtlpjeopeboemmaaDoor

/-- a number as bytes: seven binary digits a byte, the lowest first -/
def dig (n : Nat) : List UInt8 := if n < 128 then [n.toUInt8] else (n % 128 + 128).toUInt8 :: dig (n / 128)
termination_by n

theorem dig_lt {n : Nat} (h : n < 128) : dig n = [n.toUInt8] := by rw [dig, if_pos h]
theorem dig_ge {n : Nat} (h : ¬ n < 128) : dig n = (n % 128 + 128).toUInt8 :: dig (n / 128) := by rw [dig, if_neg h]
theorem dig_pos (n : Nat) : 0 < (dig n).length := by
  rw [dig]; split <;> simp

/-- so many bytes at the most -/
theorem dig_len : ∀ (k n : Nat), n < 128 ^ k → 0 < k → (dig n).length ≤ k
  | 0, _, _, h => absurd h (by omega)
  | k + 1, n, h, _ => by
    by_cases hn : n < 128
    · rw [dig_lt hn]; simp
    · rw [dig_ge hn]
      have hk : 0 < k := by
        rcases k with _ | k
        · simp at h; omega
        · omega
      have h2 : n / 128 < 128 ^ k := by
        rw [Nat.pow_succ] at h
        exact Nat.div_lt_of_lt_mul (by rw [Nat.mul_comm]; exact h)
      have := dig_len k (n / 128) h2 hk
      simp only [List.length_cons]
      omega

/-- a number brought into the bounds of what may be laid -/
def clamp (v : Int) : Nat := (min (max v 0) 4611686018427387904).toNat
theorem clamp_le (v : Int) : clamp v ≤ 4611686018427387904 := by unfold clamp; omega
theorem clamp_of_nat {n : Nat} (h : n ≤ 4611686018427387904) : clamp (n : Int) = n := by unfold clamp; omega
theorem dig_clamp_len (v : Int) : (dig (clamp v)).length ≤ 9 := dig_len 9 _ (by have := clamp_le v; have : (128 : Nat) ^ 9 = 9223372036854775808 := rfl; omega) (by omega)

/-- how many bytes the rest has: none, if nothing is left -/
def dlen (k : Nat) : Nat := if k = 0 then 0 else (dig k).length
theorem dig_len_eq (m : Nat) : (dig m).length = 1 + dlen (m / 128) := by
  by_cases h : m < 128
  · rw [dig_lt h, dlen, if_pos (by omega)]; rfl
  · rw [dig_ge h, dlen, if_neg (by omega), List.length_cons]; omega
theorem dlen_pos {k : Nat} (h : 0 < k) : dlen k = 1 + dlen (k / 128) := by rw [dlen, if_neg (by omega), dig_len_eq]
/-- the first byte tells whether the number is below 128 -/
theorem dig_first (m : Nat) (h : ¬ m < 128) : ∃ u r, dig m = u :: r ∧ 128 ≤ u.toNat ∧ r = dig (m / 128) := by
  refine ⟨_, _, dig_ge h, ?_, rfl⟩
  simp [Nat.toUInt8, UInt8.toNat_ofNat']; omega
/-- the last byte of several is not 0 -/
theorem dig_last : ∀ (n m : Nat), m ≤ n → 0 < m → ∃ p u, dig m = p ++ [u] ∧ 0 < u.toNat
  | 0, m, h, h0 => by omega
  | n + 1, m, h, h0 => by
    by_cases hm : m < 128
    · exact ⟨[], m.toUInt8, by rw [dig_lt hm]; rfl, by simp [Nat.toUInt8, UInt8.toNat_ofNat']; omega⟩
    · obtain ⟨p, u, e, hu⟩ := dig_last n (m / 128) (by omega) (by omega)
      exact ⟨_ :: p, u, by rw [dig_ge hm, e]; rfl, hu⟩

/-! ### the number at the beginning of bytes -/
def scan : Nat → Nat → List UInt8 → Option (Nat × Nat)
  | _, _, [] => none
  | i, n, c :: r =>
    if i = 9 then none
    else if 127 < c.toNat then scan (i + 1) (n + c.toNat % 128 * 128 ^ i) r
    else if 4611686018427387904 < n + c.toNat % 128 * 128 ^ i ∨ (0 < i ∧ c.toNat = 0) then none
    else some (n + c.toNat % 128 * 128 ^ i, i + 1)
def num? (bs : List UInt8) : Option (Nat × Nat) := scan 0 0 bs
def resN (r : Option (Nat × Nat)) : Nat := (r.getD (0, 0)).1
def resK (r : Option (Nat × Nat)) : Nat := (r.getD (0, 0)).2

/-- a number that was laid is met again -/
theorem scan_dig : ∀ (k n i a : Nat) (r : List UInt8), n ≤ k → (i = 0 ∨ 0 < n) → a + n * 128 ^ i ≤ 4611686018427387904 → scan i a (dig n ++ r) = some (a + n * 128 ^ i, i + (dig n).length)
  | k, n, i, a, r, hk, h0, hle => by
    have hi : i ≤ 8 := by
      rcases h0 with h0 | h0
      · omega
      · rcases Nat.lt_or_ge i 9 with h | h
        · omega
        · have h1 : 128 ^ 9 ≤ 128 ^ i := Nat.pow_le_pow_right (by omega) h
          have h2 : 1 * 128 ^ i ≤ n * 128 ^ i := Nat.mul_le_mul_right _ h0
          have h3 : (128 : Nat) ^ 9 = 9223372036854775808 := rfl
          omega
    by_cases hn : n < 128
    · have e : n.toUInt8.toNat = n := by simp [Nat.toUInt8, UInt8.toNat_ofNat']; omega
      rw [dig_lt hn]
      simp only [List.singleton_append, scan, e]
      rw [if_neg (by omega), if_neg (by omega), Nat.mod_eq_of_lt hn, if_neg (by omega)]
      simp
    · have e : (n % 128 + 128).toUInt8.toNat = n % 128 + 128 := by simp [Nat.toUInt8, UInt8.toNat_ofNat']; omega
      have e2 : (n % 128 + 128) % 128 = n % 128 := by omega
      have e3 : a + n % 128 * 128 ^ i + n / 128 * 128 ^ (i + 1) = a + n * 128 ^ i := by
        have h1 : n * 128 ^ i = (n % 128 + 128 * (n / 128)) * 128 ^ i := by rw [Nat.mod_add_div]
        rw [h1, Nat.add_mul, Nat.pow_succ, Nat.mul_comm 128 (n / 128), Nat.mul_assoc (n / 128), Nat.mul_comm 128]
        omega
      rw [dig_ge hn]
      simp only [List.cons_append, scan, e]
      rw [if_neg (by omega), if_pos (by omega), e2, scan_dig (n / 128) (n / 128) (i + 1) _ r (Nat.le_refl _) (.inr (by omega)) (by rw [e3]; exact hle), e3]
      simp only [List.length_cons]
      congr 2; omega
termination_by _ n => n
theorem num_dig (n : Nat) (r : List UInt8) (h : n ≤ 4611686018427387904) : num? (dig n ++ r) = some (n, (dig n).length) := by
  have := scan_dig n n 0 0 r (Nat.le_refl _) (.inl rfl) (by simpa using h)
  simpa [num?] using this

/-! ### the check sum, four digits at a time -/
def tab (i : Nat) : Nat := [0, 498536548, 997073096, 651767980, 1994146192, 1802195444, 1303535960, 1342533948, 3988292384, 4027552580, 3604390888, 3412177804, 2607071920, 2262029012, 2685067896, 3183342108].getD i 0
theorem tab_lt (i : Nat) : tab i < 4294967296 := by
  have h : ∀ j, j < 16 → tab j < 4294967296 := by decide
  by_cases hi : i < 16
  · exact h i hi
  · unfold tab; rw [List.getD_eq_getElem?_getD, List.getElem?_eq_none (by simp; omega)]; decide
def nib (s : Nat) : Nat := s / 16 ^^^ tab (s % 16)
theorem nib_lt {s : Nat} (h : s < 4294967296) : nib s < 4294967296 :=
  Nat.xor_lt_two_pow (n := 32) (by have : s / 16 < 2 ^ 32 := by omega
                                   exact this) (tab_lt _)
def crcB (s : Nat) (b : UInt8) : Nat := nib (nib (s ^^^ b.toNat))
theorem xorb_lt {s : Nat} (h : s < 4294967296) (b : UInt8) : s ^^^ b.toNat < 4294967296 :=
  Nat.xor_lt_two_pow (n := 32) h (by have := b.toNat_lt; have : (2 : Nat) ^ 32 = 4294967296 := rfl; omega)
theorem crcB_lt {s : Nat} (h : s < 4294967296) (b : UInt8) : crcB s b < 4294967296 := nib_lt (nib_lt (xorb_lt h b))
def crcL (s : Nat) (bs : List UInt8) : Nat := bs.foldl crcB s
theorem crcL_lt (bs : List UInt8) : ∀ {s : Nat}, s < 4294967296 → crcL s bs < 4294967296 := by
  induction bs with
  | nil => intro s h; exact h
  | cons b r ih => intro s h; exact ih (crcB_lt h b)
theorem crcL_append (s : Nat) (a b : List UInt8) : crcL s (a ++ b) = crcL (crcL s a) b := List.foldl_append
theorem crcL_snoc (s : Nat) (a : List UInt8) (b : UInt8) : crcL s (a ++ [b]) = crcB (crcL s a) b := by rw [crcL_append]; rfl
theorem crcL_take_succ (s : Nat) (xs : List UInt8) (k : Nat) (h : k < xs.length) : crcL s (xs.take (k + 1)) = crcB (crcL s (xs.take k)) xs[k] := by
  rw [List.take_succ_eq_append_getElem h, crcL_snoc]
/-- the check sum of bytes -/
def sumOf (bs : List UInt8) : Nat := 4294967295 - crcL 4294967295 bs
theorem sumOf_known : sumOf [49, 50, 51, 52, 53, 54, 55, 56, 57] = 3421780262 := by decide

end Go.Proofs.YtlpjeopeboemmaaDoor
