/-
  The contract of the laws' helper long: it ends, and turns nothing. No statement of the seat is proved here.
-/
import Derived.Test.YtlpjeopeboemmaaDoorActs3
namespace Go.Proofs.YtlpjeopeboemmaaDoor
open Go Go.RowKit

set_option maxRecDepth 100000 in
set_option maxHeartbeats 1000000 in
theorem long_any (W : World) (A : Option Addr) (n c : Nat) (acs : List ActD) (hn : n = acs.length) (hl : acs.length ≤ maxLen) (h : Acts W A acs) :
    Calls Tryd.prog 11 #[.slice A n c] W fun e w' => ∃ b, e = .returned (.bool b) ∧ Below W.heap.size W w' := by
  subst hn
  unfold maxLen at hl
  go_enter Tryd.func11, Tryd.ntmps11
  go_wp2
  go_loopw [3, 4] (fun s i w1 => ∃ (k : Nat) (t : Int), k ≤ acs.length ∧ k ≤ 30 ∧ i = .int .i64 (k : Int) ∧ s = .int .i64 t ∧ Below W.heap.size W w1) (fun _ i _ => acs.length - (intOf i).toNat)
  case atStart => exact ⟨0, 0, Nat.zero_le _, Nat.zero_le _, rfl, rfl, Below.refl _ _⟩
  case round =>
    obtain ⟨k, t, hk, hk30, rfl, rfl, hb⟩ := hrel
    by_cases hlt : k < acs.length
    · by_cases hlt6 : k < 30
      · obtain ⟨b, o, B, cB, P, cP, rfl, h0, h1, h2, h3, r4, r5, hok⟩ := h.at_ (w1 := W) hb hlt
        have hki : (k : Int) < (acs.length : Int) := by omega
        have hki6 : (k : Int) < 30 := by omega
        go_wp2_with fail
        go_quiet (fail)
        go_wp2
        · go_ret
          exact ⟨true, rfl, ext_drewN hb _⟩
        · go_roundw
          case rel => exact ⟨k + 1, _, by omega, by omega, by go_num, rfl, ext_drewN hb _⟩
          case measure => simp [intOf]; omega
      · obtain rfl : k = 30 := by omega
        go_wp2
        go_ret
        exact ⟨false, rfl, hb⟩
    · obtain rfl : k = acs.length := by omega
      go_wp2
      go_ret
      exact ⟨false, rfl, hb⟩
end Go.Proofs.YtlpjeopeboemmaaDoor
