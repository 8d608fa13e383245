/-
  The lower thirty digits of a number, in the walk's own words; one cell of a row that is owned. No statement of the seat is proved here.
-/
import Derived.Test.YtdnaabiijihooaaDoorBase
namespace Go.Proofs.YtdnaabiijihooaaDoor
open Go Go.RowKit
theorem mask30 (v : Int) : ∃ m : Nat, bits .and .i64 v 1073741823 = (m : Int) ∧ (m : Int) ≤ 1073741823 := by
  have hx : (BitVec.ofInt 64 v &&& BitVec.ofInt 64 1073741823).toNat ≤ 1073741823 := by
    rw [BitVec.toNat_and]
    exact Nat.le_trans Nat.and_le_right (by decide)
  have h : bits .and .i64 v 1073741823 = ((BitVec.ofInt 64 v &&& BitVec.ofInt 64 1073741823).toNat : Int) := by
    show IntKind.i64.wrap ((BitVec.ofInt 64 v &&& BitVec.ofInt 64 1073741823).toNat : Int) = _
    rw [IntKind.wrap_i64]; omega
  exact ⟨_, h, by omega⟩
end Go.Proofs.YtdnaabiijihooaaDoor
