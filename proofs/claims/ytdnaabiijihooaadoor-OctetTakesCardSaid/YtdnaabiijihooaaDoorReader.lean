/-
  The contracts of octet's NewReader, firstNum and Reader. No statement of the seat is proved here.
-/
import Derived.Test.YtdnaabiijihooaaDoorJoin
namespace Go.Proofs.YtdnaabiijihooaaDoor
open Go Go.RowKit

theorem i64_or_nat (a b : Nat) (ha : a < 9223372036854775808) (hb : b < 9223372036854775808) : bits .or .i64 (a : Int) (b : Int) = ((a ||| b : Nat) : Int) := by
  have hx : a ||| b < 2 ^ 63 := Nat.or_lt_two_pow (by omega) (by omega)
  show IntKind.i64.wrap ((BitVec.ofInt 64 (a : Int) ||| BitVec.ofInt 64 (b : Int)).toNat : Int) = _
  rw [BitVec.toNat_or, ofInt_u64 a (by omega), ofInt_u64 b (by omega), IntKind.wrap_i64]
  omega

/-- one byte more of a number, in the walk's own words -/
theorem num_step (b : UInt8) (k N : Nat) (hk : k ≤ 8) (hN : N < 128 ^ k) : ∃ m s N' : Nat, (m : Int) ≤ 127 ∧ bits .and .u8 (b.toNat : Int) 127 = (m : Int) ∧ wrap64 ((m : Int) * 2 ^ (7 * k)) = (s : Int) ∧ bits .or .i64 (N : Int) (s : Int) = (N' : Int) ∧
    N' = N + b.toNat % 128 * 128 ^ k ∧ N' < 128 ^ (k + 1) ∧ (N' : Int) ≤ 9223372036854775807 := by
  have hb := b.toNat_lt
  have h1 := u8_and_nat b.toNat 127 (by omega) (by omega)
  rw [nat_mask7] at h1
  have e : (128 : Nat) ^ k = 2 ^ (7 * k) := by rw [show (128 : Nat) = 2 ^ 7 from rfl, ← Nat.pow_mul]
  have hm : b.toNat % 128 * 128 ^ k ≤ 127 * 128 ^ k := Nat.mul_le_mul_right _ (by omega)
  have hp : 128 ^ (k + 1) = 128 * 128 ^ k := by rw [Nat.pow_succ, Nat.mul_comm]
  have hk9 : 128 ^ (k + 1) ≤ 128 ^ 9 := Nat.pow_le_pow_right (by omega) (by omega)
  have h9 : (128 : Nat) ^ 9 = 9223372036854775808 := rfl
  have hlt : N + b.toNat % 128 * 128 ^ k < 128 ^ (k + 1) := by omega
  refine ⟨b.toNat % 128, b.toNat % 128 * 128 ^ k, N + b.toNat % 128 * 128 ^ k, by omega, h1, ?_, ?_, rfl, hlt, by omega⟩
  · have e2 : ((b.toNat % 128 : Nat) : Int) * 2 ^ (7 * k) = ((b.toNat % 128 * 128 ^ k : Nat) : Int) := by
      rw [e, Int.natCast_mul, Int.natCast_pow]; rfl
    rw [e2, IntWalk.wrap64_in _ ⟨by omega, by omega⟩]
  · rw [i64_or_nat N _ (by omega) (by omega), Nat.or_comm, nat_join (7 * k) _ N (by rw [e]; exact Nat.mul_mod_left _ _) (by rw [← e]; exact hN), Nat.add_comm]

theorem scan_more (i n : Nat) (c : UInt8) (r : List UInt8) (hi : i ≤ 8) (h : 127 < c.toNat) : scan i n (c :: r) = scan (i + 1) (n + c.toNat % 128 * 128 ^ i) r := by rw [scan, if_neg (by omega), if_pos h]
theorem scan_bad (i n : Nat) (c : UInt8) (r : List UInt8) (hi : i ≤ 8) (h : ¬ 127 < c.toNat) (hb : 4611686018427387904 < n + c.toNat % 128 * 128 ^ i ∨ (0 < i ∧ c.toNat = 0)) : scan i n (c :: r) = none := by rw [scan, if_neg (by omega), if_neg h, if_pos hb]
theorem scan_good (i n : Nat) (c : UInt8) (r : List UInt8) (hi : i ≤ 8) (h : ¬ 127 < c.toNat) (hb : ¬ (4611686018427387904 < n + c.toNat % 128 * 128 ^ i ∨ (0 < i ∧ c.toNat = 0))) : scan i n (c :: r) = some (n + c.toNat % 128 * 128 ^ i, i + 1) := by rw [scan, if_neg (by omega), if_neg h, if_neg hb]
theorem scan_nine (n : Nat) (xs : List UInt8) : scan 9 n xs = none := by cases xs <;> simp [scan]

set_option maxRecDepth 100000 in
set_option maxHeartbeats 4000000 in
theorem first_any (A : Option Addr) (n c : Nat) (xs : List UInt8) (R : Option (Nat × Nat)) (w : World) (hn : n = xs.length) (hc : xs.length ≤ c) (hr : Rd w A (xs.map bv)) (hR : num? xs = R) (hb : xs.length ≤ 1099511627776) :
    Calls Tryd.prog 42 #[.slice A n c] w fun e w' => e = .returned (.tuple #[.int .i64 (resN R : Int), .int .i64 (resK R : Int)]) ∧ w = w' := by
  subst hn
  have HR := Lib.hid hR
  clear hR
  by_cases hlen : xs.length ≤ 9
  · go_enter Tryd.func42, Tryd.ntmps42
    go_wp2
    go_loop [2, 12] (fun s i => ∃ k N : Nat, k ≤ xs.length ∧ i = .int .i64 (k : Int) ∧ s = .int .i64 (N : Int) ∧ N < 128 ^ k ∧ scan k N (xs.drop k) = R) (fun _ i => xs.length - (intOf i).toNat)
    case atStart => exact ⟨0, 0, Nat.zero_le _, rfl, rfl, by simp, HR.out⟩
    case round =>
      obtain ⟨k, N, hk, rfl, rfl, hN, hs⟩ := hrel
      have Hs := Lib.hid hs
      have HN := Lib.hid hN
      clear hs hN
      by_cases hlt : k < xs.length
      · have hlt' : k < xs.length := by omega
        obtain ⟨ad, rfl, hc1⟩ := hr.at_ (k := k) (by simpa using hlt')
        simp only [List.getElem_map, bv] at hc1
        have hk8 : k ≤ 8 := by omega
        obtain ⟨m1, s1, N1, lm, e1, e2, e3, hN1, hN2, lN⟩ := num_step xs[k] k N hk8 HN.out
        have hd := List.drop_eq_getElem_cons hlt'
        have Hd : Hid (scan k N (xs[k] :: xs.drop (k + 1)) = R) := by rw [← hd]; exact Hs.out
        have HN1 := Lib.hid hN1
        have HN2 := Lib.hid hN2
        clear hd hN1 hN2
        generalize xs[k] = b at *
        by_cases hb1 : 127 < b.toNat
        · have hb2 : (127 : Int) < (b.toNat : Int) := by omega
          go_wp2
          go_round
          case rel => exact ⟨k + 1, N1, by omega, by go_num, rfl, HN2.out, by rw [HN1.out, ← scan_more k N b _ hk8 hb1]; exact Hd.out⟩
          case measure => simp [intOf]; omega
        · have hb2 : (b.toNat : Int) ≤ 127 := by omega
          have hbn : decide ((127 : Int) < (b.toNat : Int)) = false := decide_eq_false (by omega)
          by_cases g1 : 4611686018427387904 < N1
          · have hRn := scan_bad k N b (xs.drop (k + 1)) hk8 hb1 (.inl (by rw [← HN1.out]; exact g1))
            rw [Hd.out] at hRn
            have HRn := Lib.hid hRn
            have g2 : (4611686018427387904 : Int) < (N1 : Int) := by omega
            clear hRn
            go_wp2
            go_ret2
            exact ⟨by rw [HRn.out]; rfl, rfl⟩
          · have g2 : (N1 : Int) ≤ 4611686018427387904 := by omega
            have g2n : decide ((4611686018427387904 : Int) < (N1 : Int)) = false := decide_eq_false (by omega)
            by_cases g3 : 0 < k ∧ b.toNat = 0
            · have hRn := scan_bad k N b (xs.drop (k + 1)) hk8 hb1 (.inr g3)
              rw [Hd.out] at hRn
              have HRn := Lib.hid hRn
              have g4 : (0 : Int) < (k : Int) := by omega
              have g4n : decide ((0 : Int) < (k : Int)) = true := decide_eq_true g4
              have g5 : ((b.toNat : Int) == 0) = true := beq_iff_eq.2 (by omega)
              clear hRn g3
              go_wp2
              go_ret2
              exact ⟨by rw [HRn.out]; rfl, rfl⟩
            · have hRs := scan_good k N b (xs.drop (k + 1)) hk8 hb1 (by rw [← HN1.out]; intro h; rcases h with h | h; exact g1 h; exact g3 h)
              rw [Hd.out, ← HN1.out] at hRs
              have HRs := Lib.hid hRs
              by_cases g4 : 0 < k
              · have g4i : (0 : Int) < (k : Int) := by omega
                have g4n : decide ((0 : Int) < (k : Int)) = true := decide_eq_true g4i
                have g5 : ((b.toNat : Int) == 0) = false := beq_eq_false_iff_ne.2 (by omega)
                clear hRs g3
                go_wp2
                go_ret2
                exact ⟨by rw [HRs.out]; rfl, rfl⟩
              · have g4n : decide ((0 : Int) < (k : Int)) = false := decide_eq_false (by omega)
                clear hRs g3
                go_wp2
                go_ret2
                exact ⟨by rw [HRs.out]; rfl, rfl⟩
      · obtain rfl : k = xs.length := by omega
        have hRn : R = none := by
          rw [← Hs.out]; rw [List.drop_length]; rfl
        have HRn := Lib.hid hRn
        clear hRn
        go_wp2
        go_ret2
        exact ⟨by rw [HRn.out]; rfl, rfl⟩
  · go_enter Tryd.func42, Tryd.ntmps42
    go_wp2
    go_loop [2, 12] (fun s i => ∃ k N : Nat, k ≤ 9 ∧ i = .int .i64 (k : Int) ∧ s = .int .i64 (N : Int) ∧ N < 128 ^ k ∧ scan k N (xs.drop k) = R) (fun _ i => 9 - (intOf i).toNat)
    case atStart => exact ⟨0, 0, Nat.zero_le _, rfl, rfl, by simp, HR.out⟩
    case round =>
      obtain ⟨k, N, hk, rfl, rfl, hN, hs⟩ := hrel
      have Hs := Lib.hid hs
      have HN := Lib.hid hN
      clear hs hN
      by_cases hlt : k < 9
      · have hlt' : k < xs.length := by omega
        obtain ⟨ad, rfl, hc1⟩ := hr.at_ (k := k) (by simpa using hlt')
        simp only [List.getElem_map, bv] at hc1
        have hk8 : k ≤ 8 := by omega
        obtain ⟨m1, s1, N1, lm, e1, e2, e3, hN1, hN2, lN⟩ := num_step xs[k] k N hk8 HN.out
        have hd := List.drop_eq_getElem_cons hlt'
        have Hd : Hid (scan k N (xs[k] :: xs.drop (k + 1)) = R) := by rw [← hd]; exact Hs.out
        have HN1 := Lib.hid hN1
        have HN2 := Lib.hid hN2
        clear hd hN1 hN2
        generalize xs[k] = b at *
        by_cases hb1 : 127 < b.toNat
        · have hb2 : (127 : Int) < (b.toNat : Int) := by omega
          go_wp2
          go_round
          case rel => exact ⟨k + 1, N1, by omega, by go_num, rfl, HN2.out, by rw [HN1.out, ← scan_more k N b _ hk8 hb1]; exact Hd.out⟩
          case measure => simp [intOf]; omega
        · have hb2 : (b.toNat : Int) ≤ 127 := by omega
          have hbn : decide ((127 : Int) < (b.toNat : Int)) = false := decide_eq_false (by omega)
          by_cases g1 : 4611686018427387904 < N1
          · have hRn := scan_bad k N b (xs.drop (k + 1)) hk8 hb1 (.inl (by rw [← HN1.out]; exact g1))
            rw [Hd.out] at hRn
            have HRn := Lib.hid hRn
            have g2 : (4611686018427387904 : Int) < (N1 : Int) := by omega
            clear hRn
            go_wp2
            go_ret2
            exact ⟨by rw [HRn.out]; rfl, rfl⟩
          · have g2 : (N1 : Int) ≤ 4611686018427387904 := by omega
            have g2n : decide ((4611686018427387904 : Int) < (N1 : Int)) = false := decide_eq_false (by omega)
            by_cases g3 : 0 < k ∧ b.toNat = 0
            · have hRn := scan_bad k N b (xs.drop (k + 1)) hk8 hb1 (.inr g3)
              rw [Hd.out] at hRn
              have HRn := Lib.hid hRn
              have g4 : (0 : Int) < (k : Int) := by omega
              have g4n : decide ((0 : Int) < (k : Int)) = true := decide_eq_true g4
              have g5 : ((b.toNat : Int) == 0) = true := beq_iff_eq.2 (by omega)
              clear hRn g3
              go_wp2
              go_ret2
              exact ⟨by rw [HRn.out]; rfl, rfl⟩
            · have hRs := scan_good k N b (xs.drop (k + 1)) hk8 hb1 (by rw [← HN1.out]; intro h; rcases h with h | h; exact g1 h; exact g3 h)
              rw [Hd.out, ← HN1.out] at hRs
              have HRs := Lib.hid hRs
              by_cases g4 : 0 < k
              · have g4i : (0 : Int) < (k : Int) := by omega
                have g4n : decide ((0 : Int) < (k : Int)) = true := decide_eq_true g4i
                have g5 : ((b.toNat : Int) == 0) = false := beq_eq_false_iff_ne.2 (by omega)
                clear hRs g3
                go_wp2
                go_ret2
                exact ⟨by rw [HRs.out]; rfl, rfl⟩
              · have g4n : decide ((0 : Int) < (k : Int)) = false := decide_eq_false (by omega)
                clear hRs g3
                go_wp2
                go_ret2
                exact ⟨by rw [HRs.out]; rfl, rfl⟩
      · obtain rfl : k = 9 := by omega
        have hRn : R = none := by
          rw [← Hs.out]; exact scan_nine _ _
        have HRn := Lib.hid hRn
        clear hRn
        go_wp2
        go_ret2
        exact ⟨by rw [HRn.out]; rfl, rfl⟩
end Go.Proofs.YtdnaabiijihooaaDoor
