/-
  The contract of winnowerref1's Sum. No statement of the seat is proved here.
-/
import Derived.Test.YtlpjeopeboemmaaDoorSum
import Derived.Test.YtlpjeopeboemmaaDoorCrc
namespace Go.Proofs.YtlpjeopeboemmaaDoor
open Go Go.RowKit

theorem odd_step (s : Nat) (h : s < 4294967296) (ho : s % 2 = 1) : bits .and .u32 (s : Int) 1 = 1 ∧ bits .xor .u32 ((s : Int) / 2) 3988292384 = (bit1 s : Int) := by
  constructor
  · have h2 := u32_and_nat s 1 h (by omega)
    rw [nat_mask1, ho] at h2
    exact h2
  · have h2 := u32_xor_nat (s / 2) 3988292384 (by omega) (by omega)
    rw [Int.natCast_ediv] at h2
    rw [show bit1 s = s / 2 ^^^ 3988292384 by unfold bit1; rw [if_pos ho]]
    exact h2
theorem even_step (s : Nat) (h : s < 4294967296) (ho : ¬ s % 2 = 1) : bits .and .u32 (s : Int) 1 = 0 ∧ (s : Int) / 2 = (bit1 s : Int) := by
  constructor
  · have h2 := u32_and_nat s 1 h (by omega)
    rw [nat_mask1, show s % 2 = 0 by omega] at h2
    exact h2
  · rw [show bit1 s = s / 2 by unfold bit1; rw [if_neg ho]]; omega

set_option maxRecDepth 100000 in
set_option maxHeartbeats 2000000 in
theorem refsum_any (A : Option Addr) (n c : Nat) (xs : List UInt8) (w : World) (hn : n = xs.length) (hr : Rd w A (xs.map bv)) (hb : xs.length ≤ 1099511627776) :
    Calls Tryd.prog 57 #[.slice A n c] w fun e w' => e = .returned (.int .u32 (sumOf xs : Int)) ∧ w = w' := by
  subst hn
  have hsg : IntKind.u32.signed = false := rfl
  go_enter Tryd.func57, Tryd.ntmps57
  go_wp2
  go_loop [3, 4] (fun s i => ∃ j : Nat, j ≤ xs.length ∧ i = .int .i64 (j : Int) ∧ s = .int .u32 (crcAt 4294967295 xs j : Int)) (fun _ i => xs.length - (intOf i).toNat)
  case atStart => exact ⟨0, Nat.zero_le _, rfl, rfl⟩
  case round =>
    obtain ⟨j, hj, rfl, rfl⟩ := hrel
    have hS : crcAt 4294967295 xs j < 4294967296 := crcL_lt _ (by omega)
    by_cases hjl : j < xs.length
    · obtain ⟨a1, rfl, hc1⟩ := hr.at_ (k := j) (by simpa using hjl)
      simp only [List.getElem_map, bv] at hc1
      have hnext := Lib.hid (crcAt_succ 4294967295 xs j hjl)
      generalize crcAt 4294967295 xs j = S at *
      generalize xs[j] = b at *
      obtain ⟨s1, e1, f1, l1⟩ := xor_step S hS b
      have hfin := Lib.hid (show crcB S b = bitN 8 s1 by rw [bitN_byte, f1]; rfl)
      clear f1
      go_wp2
      go_loop [3, 5] (fun s i => ∃ k : Nat, k ≤ 8 ∧ i = .int .i64 (k : Int) ∧ s = .int .u32 (bitN k s1 : Int)) (fun _ i => 8 - (intOf i).toNat)
      case atStart => exact ⟨0, Nat.zero_le _, rfl, rfl⟩
      case round =>
        obtain ⟨k, hk, rfl, rfl⟩ := hrel
        by_cases hkl : k < 8
        · have hl := bitN_lt k l1
          have hsucc := Lib.hid (bitN_succ k s1)
          generalize bitN k s1 = t at *
          by_cases ho : t % 2 = 1
          · obtain ⟨q1, q2⟩ := odd_step t hl ho
            obtain ⟨t2, ht2⟩ : ∃ t2, t2 = bit1 t := ⟨_, rfl⟩
            rw [← ht2] at q2
            have Ht2 := Lib.hid ht2
            clear ht2 ho
            go_wp2
            go_round
            case rel => exact ⟨k + 1, by omega, by go_num, by rw [hsucc.out, ← Ht2.out]⟩
            case measure => simp [intOf]; omega
          · obtain ⟨q1, q2⟩ := even_step t hl ho
            obtain ⟨t2, ht2⟩ : ∃ t2, t2 = bit1 t := ⟨_, rfl⟩
            rw [← ht2] at q2
            have Ht2 := Lib.hid ht2
            clear ht2 ho
            go_wp2
            go_round
            case rel => exact ⟨k + 1, by omega, by go_num, by rw [hsucc.out, ← Ht2.out]⟩
            case measure => simp [intOf]; omega
        · obtain rfl : k = 8 := by omega
          go_wp2
          go_round
          case rel => exact ⟨j + 1, by omega, by go_num, by rw [hnext.out, hfin.out]⟩
          case measure => simp [intOf]; omega
    · obtain rfl : j = xs.length := by omega
      have hall := crcAt_all 4294967295 xs
      rw [hall] at hS ⊢
      have hsum := Lib.hid (show bits .xor .u32 IntKind.u32.max (crcL 4294967295 xs : Int) = (sumOf xs : Int) from not_u32 _ hS)
      clear hall
      generalize crcL 4294967295 xs = s at *
      go_wp2
      go_ret
      exact ⟨by rw [hsum.out]; rfl, rfl⟩
end Go.Proofs.YtlpjeopeboemmaaDoor
