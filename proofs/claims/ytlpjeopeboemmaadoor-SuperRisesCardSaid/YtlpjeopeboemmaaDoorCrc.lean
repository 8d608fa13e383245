/-
  Plain mathematics of the check sum: digit by digit is four digits at a time; a byte that is another one has another sum. No Go here.
-/
import Derived.Test.YtlpjeopeboemmaaDoorMath
namespace Go.Proofs.YtlpjeopeboemmaaDoor

/-- one binary digit of the sum -/
def bit1 (s : Nat) : Nat := if s % 2 = 1 then s / 2 ^^^ 3988292384 else s / 2
def bitN : Nat → Nat → Nat
  | 0, s => s
  | n + 1, s => bitN n (bit1 s)
theorem xor_lt32 {a b : Nat} (ha : a < 4294967296) (hb : b < 4294967296) : a ^^^ b < 4294967296 := Nat.xor_lt_two_pow (n := 32) ha hb
theorem bit1_lt {s : Nat} (h : s < 4294967296) : bit1 s < 4294967296 := by
  unfold bit1
  split
  · exact xor_lt32 (by omega) (by omega)
  · omega
theorem bitN_lt : ∀ (n : Nat) {s : Nat}, s < 4294967296 → bitN n s < 4294967296
  | 0, _, h => h
  | n + 1, _, h => bitN_lt n (bit1_lt h)
theorem xor_half (a b : Nat) : (a ^^^ b) / 2 = a / 2 ^^^ b / 2 := Nat.xor_div_two_pow (n := 1)
theorem xor_odd (a b : Nat) : (a ^^^ b) % 2 = (a % 2) ^^^ (b % 2) := Nat.xor_mod_two_pow (n := 1)
/-- the step is the same on both parts of a sum without carries -/
theorem bit1_xor (a b : Nat) : bit1 (a ^^^ b) = bit1 a ^^^ bit1 b := by
  have ha : a % 2 = 0 ∨ a % 2 = 1 := by omega
  have hb : b % 2 = 0 ∨ b % 2 = 1 := by omega
  unfold bit1
  rw [xor_odd, xor_half]
  rcases ha with ha | ha <;> rcases hb with hb | hb <;> rw [ha, hb]
  · simp
  · simp [Nat.xor_assoc]
  · simp only [Nat.zero_ne_one, if_false, if_true]
    rw [show (1 ^^^ 0 : Nat) = 1 from rfl, if_pos rfl, Nat.xor_assoc, Nat.xor_comm (b / 2), ← Nat.xor_assoc]
  · rw [show (1 ^^^ 1 : Nat) = 0 from rfl, if_neg (by omega), if_pos rfl, if_pos rfl]
    have h : ∀ x y p : Nat, x ^^^ p ^^^ (y ^^^ p) = x ^^^ y := fun x y p => by
      rw [Nat.xor_assoc, ← Nat.xor_assoc p, Nat.xor_comm p y, Nat.xor_assoc y, Nat.xor_self, Nat.xor_zero]
    rw [h]
theorem bitN_xor : ∀ (n a b : Nat), bitN n (a ^^^ b) = bitN n a ^^^ bitN n b
  | 0, _, _ => rfl
  | n + 1, a, b => by unfold bitN; rw [bit1_xor, bitN_xor n]
theorem bit1_even (a : Nat) : bit1 (2 * a) = a := by unfold bit1; rw [if_neg (by omega)]; omega
theorem bitN_sixteen (a : Nat) : bitN 4 (16 * a) = a := by
  have h : ∀ x, bitN 4 x = bit1 (bit1 (bit1 (bit1 x))) := fun _ => rfl
  rw [h, show 16 * a = 2 * (2 * (2 * (2 * a))) by omega, bit1_even, bit1_even, bit1_even, bit1_even]
theorem bitN_low : ∀ i, i < 16 → bitN 4 i = tab i := by decide
theorem join16 (s : Nat) : s = 16 * (s / 16) ^^^ s % 16 := by
  have h : 16 * (s / 16) ||| s % 16 = 16 * (s / 16) + s % 16 := by
    have := Nat.two_pow_add_eq_or_of_lt (i := 4) (b := s % 16) (by omega) (s / 16)
    exact this.symm
  have h2 : 16 * (s / 16) &&& s % 16 = 0 := by
    apply Nat.eq_of_testBit_eq
    intro i
    rw [Nat.testBit_and, Nat.zero_testBit]
    by_cases hi : i < 4
    · have : (16 * (s / 16)).testBit i = false := by
        rw [show (16 : Nat) = 2 ^ 4 from rfl, Nat.testBit_two_pow_mul]
        simp; omega
      rw [this]; rfl
    · have : (s % 16).testBit i = false := Nat.testBit_lt_two_pow (by
        have : 2 ^ 4 ≤ 2 ^ i := Nat.pow_le_pow_right (by omega) (by omega)
        have h16 : (2 : Nat) ^ 4 = 16 := rfl
        omega)
      rw [this, Bool.and_false]
  apply Nat.eq_of_testBit_eq
  intro i
  have e := congrArg (·.testBit i) h
  have e2 := congrArg (·.testBit i) h2
  simp only [Nat.testBit_or, Nat.testBit_and, Nat.zero_testBit] at e e2
  rw [Nat.mul_comm 16, Nat.div_add_mod'] at e
  rw [Nat.testBit_xor, ← e]
  rw [Nat.mul_comm 16] at e2 ⊢
  generalize (s / 16 * 16).testBit i = x at *
  generalize (s % 16).testBit i = y at *
  cases x <;> cases y <;> simp_all
theorem bitN_nib (s : Nat) : bitN 4 s = nib s := by
  conv => lhs; rw [join16 s]
  rw [bitN_xor, bitN_sixteen, bitN_low _ (by omega)]; rfl
theorem bitN_add : ∀ (m n s : Nat), bitN (m + n) s = bitN n (bitN m s)
  | 0, n, s => by rw [Nat.zero_add]; rfl
  | m + 1, n, s => by rw [Nat.add_right_comm]; show bitN (m + n) (bit1 s) = _; rw [bitN_add m n]; rfl
theorem bitN_byte (s : Nat) : bitN 8 s = nib (nib s) := by rw [bitN_add 4 4, bitN_nib, bitN_nib]

theorem bitN_succ (n s : Nat) : bitN (n + 1) s = bit1 (bitN n s) := bitN_add n 1 s

/-! ### a byte that is another one has another sum -/
theorem tab_top0 : ∀ i, i < 16 → ∀ j, j < 16 → tab i / 268435456 = tab j / 268435456 → i = j := by decide
theorem tab_top (i j : Nat) (hi : i < 16) (hj : j < 16) (h : tab i / 268435456 = tab j / 268435456) : i = j := tab_top0 i hi j hj h
theorem xor_left_cancel {a b c : Nat} (h : a ^^^ c = b ^^^ c) : a = b := by
  have e := congrArg (· ^^^ c) h
  simpa [Nat.xor_assoc] using e
theorem xor_right_cancel {a b c : Nat} (h : c ^^^ a = c ^^^ b) : a = b := by rw [Nat.xor_comm c, Nat.xor_comm c] at h; exact xor_left_cancel h
theorem nib_inj {s t : Nat} (hs : s < 4294967296) (ht : t < 4294967296) (h : nib s = nib t) : s = t := by
  unfold nib at h
  have e := congrArg (· / 2 ^ 28) h
  simp only [Nat.xor_div_two_pow] at e
  have p : (2 : Nat) ^ 28 = 268435456 := rfl
  rw [p, Nat.div_eq_of_lt (show s / 16 < 268435456 by omega), Nat.div_eq_of_lt (show t / 16 < 268435456 by omega), Nat.zero_xor, Nat.zero_xor] at e
  have e2 := tab_top (s % 16) (t % 16) (by omega) (by omega) e
  rw [e2] at h
  have e3 := xor_left_cancel h
  omega
theorem crcB_inj_state {s t : Nat} {b : UInt8} (hs : s < 4294967296) (ht : t < 4294967296) (h : crcB s b = crcB t b) : s = t := by
  unfold crcB at h
  have e1 := nib_inj (nib_lt (xorb_lt hs b)) (nib_lt (xorb_lt ht b)) h
  have e2 := nib_inj (xorb_lt hs b) (xorb_lt ht b) e1
  exact xor_left_cancel e2
theorem crcB_inj_byte {s : Nat} {b c : UInt8} (hs : s < 4294967296) (h : crcB s b = crcB s c) : b = c := by
  unfold crcB at h
  have e1 := nib_inj (nib_lt (xorb_lt hs b)) (nib_lt (xorb_lt hs c)) h
  have e2 := nib_inj (xorb_lt hs b) (xorb_lt hs c) e1
  exact UInt8.toNat_inj.1 (xor_right_cancel e2)
theorem crcL_inj (bs : List UInt8) : ∀ {s t : Nat}, s < 4294967296 → t < 4294967296 → crcL s bs = crcL t bs → s = t := by
  induction bs with
  | nil => intro s t _ _ h; exact h
  | cons b r ih => intro s t hs ht h; exact crcB_inj_state hs ht (ih (crcB_lt hs b) (crcB_lt ht b) h)
theorem sum_ne (p : List UInt8) (b c : UInt8) (r : List UInt8) (h : b ≠ c) : sumOf (p ++ b :: r) ≠ sumOf (p ++ c :: r) := by
  intro e
  unfold sumOf at e
  have h0 : (4294967295 : Nat) < 4294967296 := by omega
  have l1 := crcL_lt (p ++ b :: r) h0
  have l2 := crcL_lt (p ++ c :: r) h0
  have e1 : crcL 4294967295 (p ++ b :: r) = crcL 4294967295 (p ++ c :: r) := by omega
  rw [crcL_append, crcL_append] at e1
  have lp := crcL_lt p h0
  exact h (crcB_inj_byte lp (crcL_inj r (crcB_lt lp b) (crcB_lt lp c) e1))
theorem sum_set_ne (bs : List UInt8) (j : Nat) (hj : j < bs.length) (c : UInt8) (h : bs[j] ≠ c) : sumOf (bs.set j c) ≠ sumOf bs := by
  have e1 : bs = bs.take j ++ bs[j] :: bs.drop (j + 1) := by rw [← List.drop_eq_getElem_cons hj, List.take_append_drop]
  have e2 : bs.set j c = bs.take j ++ c :: bs.drop (j + 1) := List.set_eq_take_append_cons_drop .. |>.trans (by rw [if_pos hj])
  rw [e2]
  conv => rhs; rw [e1]
  exact fun h' => sum_ne (bs.take j) bs[j] c (bs.drop (j + 1)) h h'.symm
end Go.Proofs.YtlpjeopeboemmaaDoor
