/-
  Plain mathematics of octet: a number that is cut short. No Go here.
-/
import Derived.Test.YtdnaabiijihooaaDoorMath
namespace Go.Proofs.YtdnaabiijihooaaDoor
/-- a number that is cut short is none -/
theorem scan_prefix : ∀ (k m n i a : Nat), n ≤ k → m < (dig n).length → scan i a ((dig n).take m) = none
  | k, m, n, i, a, hk, hm => by
    rcases m with _ | m
    · rfl
    · by_cases hn : n < 128
      · rw [dig_lt hn] at hm; simp at hm
      · have e : (n % 128 + 128).toUInt8.toNat = n % 128 + 128 := by simp [Nat.toUInt8, UInt8.toNat_ofNat']; omega
        rw [dig_ge hn] at hm ⊢
        simp only [List.take_succ_cons, scan, e]
        split
        · rfl
        · rw [if_pos (by omega)]
          exact scan_prefix (n / 128) m (n / 128) (i + 1) _ (Nat.le_refl _) (by simpa using hm)
termination_by _ _ n => n
theorem num_prefix (m n : Nat) (h : m < (dig n).length) : num? ((dig n).take m) = none := scan_prefix n m n 0 0 (Nat.le_refl _) h

end Go.Proofs.YtdnaabiijihooaaDoor
