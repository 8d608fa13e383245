/-
  Open and Format where there is no disk, or too small a one; a disk of noughts. No statement of the seat is proved here.
-/
import Derived.Test.YtlpjeopeboemmaaDoorStep
namespace Go.Proofs.YtlpjeopeboemmaaDoor
open Go Go.RowKit

theorem open_nil (w : World) : Calls Tryd.prog 22 #[.pointer none] w fun e w' => e = .returned (.tuple #[.pointer none, .int .i64 1]) ∧ w = w' := by
  go_enter Tryd.func22, Tryd.ntmps22
  go_wp2_with fail
  refine (hasslots_nil w).mono ?_
  rintro e w1 ⟨rfl, rfl⟩
  go_wp2
  go_ret2
  exact ⟨rfl, rfl⟩
theorem open_small {w : World} {fp : Nat → Prop} {gd : Nat} {S : Sec} {l : Int} (h : Imp w fp gd S l) (hl : S.length < 32) : Calls Tryd.prog 22 #[.pointer (some ⟨gd, 0, none⟩)] w fun e w' => e = .returned (.tuple #[.pointer none, .int .i64 1]) ∧ w = w' := by
  have hh := hasslots_any h
  rw [show decide ((32 : Int) ≤ (S.length : Int)) = false from decide_eq_false (by omega)] at hh
  have Hh := Lib.hid hh
  clear hh
  go_enter Tryd.func22, Tryd.ntmps22
  go_wp2_with fail
  refine Hh.out.mono ?_
  rintro e w1 ⟨rfl, rfl⟩
  go_wp2
  go_ret2
  exact ⟨rfl, rfl⟩
theorem format_nil (w : World) (v : Value) : Calls Tryd.prog 30 #[.pointer none, v] w fun e w' => e = .returned (.tuple #[.pointer none, .int .i64 1]) ∧ w = w' := by
  go_enter Tryd.func30, Tryd.ntmps30
  go_wp2_with fail
  refine (hasslots_nil w).mono ?_
  rintro e w1 ⟨rfl, rfl⟩
  go_wp2
  go_ret2
  exact ⟨rfl, rfl⟩

/-- sectors that bear no number are no slot -/
theorem unpack_noughts {D : List (List UInt8)} {k : Nat} (h : numOf (D.getD (k * 16 + 0) []) = 0) : (unpackS (slotD D k)).1 = 0 := by
  rcases Nat.eq_zero_or_pos (unpackS (slotD D k)).1 with hz | hz
  · exact hz
  · exfalso
    obtain ⟨h1, h2, h3⟩ := unpack_some hz (slotD_length _ _)
    have h4 := slotD_get D k 0 (by omega)
    rw [h1, packOf_get (by omega)] at h4
    injection h4 with h4
    have h5 := numOf_row (n := (unpackS (slotD D k)).1) (k := 0) h2 h3 (by omega)
    rw [h4, h] at h5
    omega
theorem zero_getD (n x : Nat) (h : x < n) : (lasts (zeroS n)).getD x [] = List.replicate 64 0 := by
  rw [lasts_getD]
  have : (zeroS n).getD x [] = [zerosV] := by
    unfold zeroS
    rw [List.getD_eq_getElem?_getD, List.getElem?_replicate, if_pos h]; rfl
  rw [this]; rfl
theorem tell_zero (n : Nat) (h : 32 ≤ n) : (tellD (lasts (zeroS n))).1 = 0 := by
  have h0 : (unpackS (slotD (lasts (zeroS n)) 0)).1 = 0 := unpack_noughts (by rw [zero_getD _ _ (by omega)]; exact zeros_num0)
  have h1 : (unpackS (slotD (lasts (zeroS n)) 1)).1 = 0 := unpack_noughts (by rw [zero_getD _ _ (by omega)]; exact zeros_num0)
  unfold tellD
  rw [if_neg (by omega)]
  exact h0
end Go.Proofs.YtlpjeopeboemmaaDoor
