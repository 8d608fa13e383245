/-
  The contracts of the reference's small, lay, Format. No statement of the seat is proved here.
-/
import Derived.Test.YtlpjeopeboemmaaDoorRPack
import Derived.Test.YtlpjeopeboemmaaDoorFormat
import Derived.Test.YtlpjeopeboemmaaDoorTwo
namespace Go.Proofs.YtlpjeopeboemmaaDoor
open Go Go.RowKit

theorem rsmall_any {w : World} {fp : Nat → Prop} {g : Nat} {S : Sec} {l : Int} (h : Ref w fp g S l) : Calls Tryd.prog 61 #[.pointer (some ⟨g, 0, none⟩)] w fun e w' => e = .returned (.bool (decide ((S.length : Int) < 32))) ∧ w = w' := by
  obtain ⟨A0, c0, B, C, h⟩ := h
  have h0 : w.cell? ⟨g, 0, none⟩ = some (.slice A0 S.length c0) := h.dsk.cell 0
  go_enter Tryd.func61, Tryd.ntmps61
  go_wp2
  go_ret
  exact ⟨rfl, rfl⟩

set_option maxHeartbeats 600000 in
theorem rlay_full {w : World} {fp : Nat → Prop} {gx : Nat} {S : Sec} {l : Int} (h : Ref w fp gx S l) (hs : Small 900000 S) (k : Nat) (hk : k ≤ 1) (A : Option Addr) (c : Nat) (rows : List (List UInt8)) (h16 : rows.length = 16) (hr : RowsF fp w A rows) :
    Calls Tryd.prog 64 #[.pointer (some ⟨gx, 0, none⟩), .int .i64 (k : Int), .slice A 16 c] w fun e w' =>
      e = .returned (.int .i64 (layTo S l ((k : Int) * 16) rows).1) ∧ Ref w' (More fp w w') gx (layTo S l ((k : Int) * 16) rows).2.1 (layTo S l ((k : Int) * 16) rows).2.2 ∧ Only fp w w' := by
  have HL := Lib.hid h16
  clear h16
  generalize hR : layTo S l ((k : Int) * 16) rows = R
  have HR := Lib.hid hR
  clear hR
  go_enter Tryd.func64, Tryd.ntmps64
  go_wp2
  go_loopw [7, 8, 9] (fun i _ _ wr => ∃ (j : Nat) (S' : Sec) (l' : Int), j ≤ 16 ∧ i = .int .i64 (j : Int) ∧ Ref wr (More fp w wr) gx S' l' ∧ Only fp w wr ∧ Small (900000 + j) S' ∧ layTo S' l' ((k : Int) * 16 + (j : Int)) (rows.drop j) = R) (fun i _ _ _ => 16 - (intOf i).toNat)
  case atStart => exact ⟨0, S, l, by omega, rfl, Ref.more h, Only.refl _ _, hs, by rw [← HR.out]; simp⟩
  case round =>
    obtain ⟨j, S', l', hj, rfl, hI, ho, hsm, hlay⟩ := hrel
    by_cases hlt : j < 16
    · have hji : (j : Int) < 16 := by omega
      have hlt' : j < rows.length := by rw [HL.out]; exact hlt
      obtain ⟨ad, B, cb, rfl, hcell, hlc, hrd⟩ := (hr.more ho).at_ hlt'
      obtain ⟨len, hlen⟩ : ∃ n, (rows[j]'hlt').length = n := ⟨_, rfl⟩
      rw [hlen] at hcell
      rw [List.drop_eq_getElem_cons hlt'] at hlay
      unfold layTo at hlay
      have Hlay := Lib.hid hlay
      have hw := small_write hsm l' ((k : Int) * 16 + (j : Int)) (rows[j]'hlt')
      have hcall := rwrite_all hI (small_mono hsm (by omega)) ((k : Int) * 16 + (j : Int)) B _ cb (rows[j]'hlt') rfl hrd
      rw [hlen] at hcall
      have Hcall := Lib.hid hcall
      clear hlay hcall
      generalize (rows[j]'hlt') = row at *
      go_wp2_with fail
      refine Hcall.out.mono ?_
      rintro e w2 ⟨rfl, hI2, ho2⟩
      have ho' : Only fp w w2 := ho.join ho2
      have hI' : Ref w2 (More fp w w2) gx (writeS S' l' ((k : Int) * 16 + (j : Int)) row) (writeL S'.length l' ((k : Int) * 16 + (j : Int)) row) := hI2.mono (fun _ hk _ => More.join ho.size (Nat.le_refl _) ho2.size hk)
      clear hI2 ho2 Hcall
      by_cases hc : writeCode S'.length l' ((k : Int) * 16 + (j : Int)) row = 0
      · have hL : writeL S'.length l' ((k : Int) * 16 + (j : Int)) row = tick l' := by unfold writeL; rw [if_pos hc]
        have hnext := Hlay.out
        rw [if_pos hc] at hnext
        rw [hL] at hI'
        have Hnext := Lib.hid hnext
        rw [hc]
        clear hnext hL hc Hlay
        go_wp2
        go_roundw
        case rel => exact ⟨j + 1, _, _, by omega, by go_num, hI', ho', small_mono hw (by omega), by rw [← Hnext.out]; congr 1; try omega⟩
        case measure => simp [intOf]; omega
      · have hL : writeL S'.length l' ((k : Int) * 16 + (j : Int)) row = l' := by unfold writeL; rw [if_neg hc]
        have hSw : writeS S' l' ((k : Int) * 16 + (j : Int)) row = S' := by unfold writeS; rw [if_neg hc]
        have hend := Hlay.out
        rw [if_neg hc] at hend
        rw [hL, hSw] at hI'
        have hbeq : (writeCode S'.length l' ((k : Int) * 16 + (j : Int)) row == 0) = false := beq_eq_false_iff_ne.2 hc
        have Hend := Lib.hid hend
        clear hend hL hSw hc Hlay
        generalize writeCode S'.length l' ((k : Int) * 16 + (j : Int)) row = cd at *
        go_wp2
        go_ret
        rw [← Hend.out]
        exact ⟨rfl, hI', ho'⟩
    · obtain rfl : j = 16 := by omega
      rw [List.drop_of_length_le (by rw [HL.out]; omega)] at hlay
      unfold layTo at hlay
      have Hlay := Lib.hid hlay
      clear hlay
      go_wp2_with fail
      refine (rflush_all hI (small_mono hsm (by omega))).mono ?_
      rintro e w2 ⟨rfl, hI2, ho2⟩
      go_wp2
      go_ret
      rw [← Hlay.out]
      exact ⟨rfl, hI2.mono (fun _ hk _ => More.join ho.size (Nat.le_refl _) ho2.size hk), ho.join ho2⟩
set_option maxHeartbeats 600000 in
theorem rlay_nil {w : World} {fp : Nat → Prop} {gx : Nat} {S : Sec} {l : Int} (h : Ref w fp gx S l) (hs : Small 900000 S) (k : Nat) (hk : k ≤ 1)  :
    Calls Tryd.prog 64 #[.pointer (some ⟨gx, 0, none⟩), .int .i64 (k : Int), .slice none 0 0] w fun e w' =>
      e = .returned (.int .i64 (layTo S l ((k : Int) * 16) nils).1) ∧ Ref w' (More fp w w') gx (layTo S l ((k : Int) * 16) nils).2.1 (layTo S l ((k : Int) * 16) nils).2.2 ∧ Only fp w w' := by
  have HL := Lib.hid (show nils.length = 16 from rfl)
  generalize hR : layTo S l ((k : Int) * 16) nils = R
  have HR := Lib.hid hR
  clear hR
  go_enter Tryd.func64, Tryd.ntmps64
  go_wp2
  go_loopw [7, 8, 9] (fun i _ _ wr => ∃ (j : Nat) (S' : Sec) (l' : Int), j ≤ 16 ∧ i = .int .i64 (j : Int) ∧ Ref wr (More fp w wr) gx S' l' ∧ Only fp w wr ∧ Small (900000 + j) S' ∧ layTo S' l' ((k : Int) * 16 + (j : Int)) (nils.drop j) = R) (fun i _ _ _ => 16 - (intOf i).toNat)
  case atStart => exact ⟨0, S, l, by omega, rfl, Ref.more h, Only.refl _ _, hs, by rw [← HR.out]; simp⟩
  case round =>
    obtain ⟨j, S', l', hj, rfl, hI, ho, hsm, hlay⟩ := hrel
    by_cases hlt : j < 16
    · have hji : (j : Int) < 16 := by omega
      have hlt' : j < nils.length := by rw [HL.out]; exact hlt
      have hrow : nils[j]'hlt' = [] := List.eq_of_mem_replicate (List.getElem_mem hlt')
      have hrd : RdF (More fp w wr) wr none ((nils[j]'hlt').map bv) := by rw [hrow]; exact ⟨Rd.nil _ _, fun ad e => by cases e⟩
      have hlen : (nils[j]'hlt').length = 0 := by rw [hrow]; rfl
      clear hrow
      rw [List.drop_eq_getElem_cons hlt'] at hlay
      unfold layTo at hlay
      have Hlay := Lib.hid hlay
      have hw := small_write hsm l' ((k : Int) * 16 + (j : Int)) (nils[j]'hlt')
      have hcall := rwrite_all hI (small_mono hsm (by omega)) ((k : Int) * 16 + (j : Int)) none _ 0 (nils[j]'hlt') rfl hrd
      rw [hlen] at hcall
      have Hcall := Lib.hid hcall
      clear hlay hcall
      generalize (nils[j]'hlt') = row at *
      go_wp2_with fail
      refine Hcall.out.mono ?_
      rintro e w2 ⟨rfl, hI2, ho2⟩
      have ho' : Only fp w w2 := ho.join ho2
      have hI' : Ref w2 (More fp w w2) gx (writeS S' l' ((k : Int) * 16 + (j : Int)) row) (writeL S'.length l' ((k : Int) * 16 + (j : Int)) row) := hI2.mono (fun _ hk _ => More.join ho.size (Nat.le_refl _) ho2.size hk)
      clear hI2 ho2 Hcall
      by_cases hc : writeCode S'.length l' ((k : Int) * 16 + (j : Int)) row = 0
      · have hL : writeL S'.length l' ((k : Int) * 16 + (j : Int)) row = tick l' := by unfold writeL; rw [if_pos hc]
        have hnext := Hlay.out
        rw [if_pos hc] at hnext
        rw [hL] at hI'
        have Hnext := Lib.hid hnext
        rw [hc]
        clear hnext hL hc Hlay
        go_wp2
        go_roundw
        case rel => exact ⟨j + 1, _, _, by omega, by go_num, hI', ho', small_mono hw (by omega), by rw [← Hnext.out]; congr 1; try omega⟩
        case measure => simp [intOf]; omega
      · have hL : writeL S'.length l' ((k : Int) * 16 + (j : Int)) row = l' := by unfold writeL; rw [if_neg hc]
        have hSw : writeS S' l' ((k : Int) * 16 + (j : Int)) row = S' := by unfold writeS; rw [if_neg hc]
        have hend := Hlay.out
        rw [if_neg hc] at hend
        rw [hL, hSw] at hI'
        have hbeq : (writeCode S'.length l' ((k : Int) * 16 + (j : Int)) row == 0) = false := beq_eq_false_iff_ne.2 hc
        have Hend := Lib.hid hend
        clear hend hL hSw hc Hlay
        generalize writeCode S'.length l' ((k : Int) * 16 + (j : Int)) row = cd at *
        go_wp2
        go_ret
        rw [← Hend.out]
        exact ⟨rfl, hI', ho'⟩
    · obtain rfl : j = 16 := by omega
      rw [List.drop_of_length_le (by rw [HL.out]; omega)] at hlay
      unfold layTo at hlay
      have Hlay := Lib.hid hlay
      clear hlay
      go_wp2_with fail
      refine (rflush_all hI (small_mono hsm (by omega))).mono ?_
      rintro e w2 ⟨rfl, hI2, ho2⟩
      go_wp2
      go_ret
      rw [← Hlay.out]
      exact ⟨rfl, hI2.mono (fun _ hk _ => More.join ho.size (Nat.le_refl _) ho2.size hk), ho.join ho2⟩
end Go.Proofs.YtlpjeopeboemmaaDoor
