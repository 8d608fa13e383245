/-
  The contract of winnowerlaw1's same, where both rows are one. No statement of the seat is proved here.
-/
import Derived.Test.YtdnaabiijihooaaDoorBase
import Derived.Test.YtdnaabiijihooaaDoorRows
namespace Go.Proofs.YtdnaabiijihooaaDoor
open Go Go.RowKit

set_option maxHeartbeats 1000000 in
theorem same_yes (A B : Option Addr) (n m c d : Nat) (xs : List UInt8) (w : World) (hn : n = xs.length) (hm : m = xs.length) (h1 : Rd w A (xs.map bv)) (h2 : Rd w B (xs.map bv)) (hb : xs.length ≤ 1099511627776) :
    Calls Tryd.prog 13 #[.slice A n c, .slice B m d] w fun e w' => e = .returned (.bool true) ∧ ∃ q, w' = w.drewN q := by
  subst hn hm
  go_enter Tryd.func13, Tryd.ntmps13
  go_wp2
  go_loopw [5] (fun i w1 => ∃ k q : Nat, k ≤ xs.length ∧ i = .int .i64 (k : Int) ∧ w1 = w.drewN q) (fun i _ => xs.length - (intOf i).toNat)
  case atStart => exact ⟨0, 0, Nat.zero_le _, rfl, rfl⟩
  case round =>
    obtain ⟨k, q, hk, rfl, rfl⟩ := hrel
    by_cases hlt : k < xs.length
    · obtain ⟨a1, rfl, hc1⟩ := h1.at_ (k := k) (by simpa using hlt)
      obtain ⟨a2, rfl, hc2⟩ := h2.at_ (k := k) (by simpa using hlt)
      simp only [List.getElem_map, bv] at hc1 hc2
      have i0 : (0 : Int) ≤ (k : Int) := by omega
      go_wp2
      go_quiet (fail)
      go_wp2
      go_roundw
      case rel => exact ⟨k + 1, _, by omega, by go_num, rfl⟩
      case measure => simp [intOf]; omega
    · go_wp2
      go_ret
      exact ⟨rfl, q, rfl⟩
end Go.Proofs.YtdnaabiijihooaaDoor
