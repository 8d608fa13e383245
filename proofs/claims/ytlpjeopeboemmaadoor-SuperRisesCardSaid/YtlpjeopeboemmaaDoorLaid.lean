/-
  The contract of super's writeSlot. No statement of the seat is proved here.
-/
import Derived.Test.YtlpjeopeboemmaaDoorSlot
namespace Go.Proofs.YtlpjeopeboemmaaDoor
open Go Go.RowKit

/-- rows are written, one by one, and flushed: the answer, the sectors, what the fuse lets through -/
def layTo (S : Sec) (l i : Int) : List (List UInt8) → Int × Sec × Int
  | [] => (flushCode l, if l = 0 then S else flushS S, tick l)
  | r :: rs => if writeCode S.length l i r = 0 then layTo (writeS S l i r) (tick l) (i + 1) rs else (writeCode S.length l i r, S, l)

set_option maxHeartbeats 2000000 in
theorem writeslot_any {w : World} {fp : Nat → Prop} {gd : Nat} {S : Sec} {l : Int} (h : Imp w fp gd S l) (hs : Small 900000 S) (k : Nat) (hk : k ≤ 1) (A : Option Addr) (n c : Nat) (rows : List (List UInt8)) (hn : n = rows.length) (hr : RowsF fp w A rows) (h16 : rows.length ≤ 16) :
    Calls Tryd.prog 44 #[.pointer (some ⟨gd, 0, none⟩), .int .i64 (k : Int), .slice A n c] w fun e w' =>
      e = .returned (.int .i64 (layTo S l ((k : Int) * 16) rows).1) ∧ Imp w' (More fp w w') gd (layTo S l ((k : Int) * 16) rows).2.1 (layTo S l ((k : Int) * 16) rows).2.2 ∧ Only fp w w' := by
  subst hn
  generalize hR : layTo S l ((k : Int) * 16) rows = R
  have HR := Lib.hid hR
  clear hR
  go_enter Tryd.func44, Tryd.ntmps44
  go_wp2
  go_loopw [7, 8, 9, 12] (fun _ _ _ i wr => ∃ (j : Nat) (S' : Sec) (l' : Int), j ≤ rows.length ∧ i = .int .i64 (j : Int) ∧ Imp wr (More fp w wr) gd S' l' ∧ Only fp w wr ∧ Small (900000 + j) S' ∧ layTo S' l' ((k : Int) * 16 + (j : Int)) (rows.drop j) = R) (fun _ _ _ i _ => rows.length - (intOf i).toNat)
  case atStart => exact ⟨0, S, l, Nat.zero_le _, rfl, h.mono (fun _ hk _ => Or.inl hk), Only.refl _ _, hs, by rw [← HR.out]; simp⟩
  case round =>
    obtain ⟨j, S', l', hj, rfl, hI, ho, hsm, hlay⟩ := hrel
    by_cases hlt : j < rows.length
    · obtain ⟨ad, B, cb, rfl, hcell, hlc, hrd⟩ := (hr.only ho).at_ hlt
      rw [List.drop_eq_getElem_cons hlt] at hlay
      unfold layTo at hlay
      have Hlay := Lib.hid hlay
      have hw := small_write hsm l' ((k : Int) * 16 + (j : Int)) rows[j]
      have hcall := write_all hI (small_mono hsm (by omega)) ((k : Int) * 16 + (j : Int)) B _ cb rows[j] rfl hrd.1
      have Hcall := Lib.hid hcall
      have hji : (j : Int) < (rows.length : Int) := by omega
      clear hlay hcall
      go_wp2_with fail
      refine Hcall.out.mono ?_
      rintro e w2 ⟨rfl, hI2, ho2⟩
      have ho' : Only fp w w2 := ho.join ho2
      have hI' : Imp w2 (More fp w w2) gd (writeS S' l' ((k : Int) * 16 + (j : Int)) rows[j]) (writeL S'.length l' ((k : Int) * 16 + (j : Int)) rows[j]) := hI2.mono (fun _ hk _ => More.join ho.size (Nat.le_refl _) ho2.size hk)
      clear hI2 ho2 Hcall
      by_cases hc : writeCode S'.length l' ((k : Int) * 16 + (j : Int)) rows[j] = 0
      · have hL : writeL S'.length l' ((k : Int) * 16 + (j : Int)) rows[j] = tick l' := by unfold writeL; rw [if_pos hc]
        have hnext := Hlay.out
        rw [if_pos hc] at hnext
        rw [hL] at hI'
        have Hnext := Lib.hid hnext
        rw [hc]
        clear hnext hL hc Hlay
        go_wp2
        go_roundw
        case rel => exact ⟨j + 1, _, _, by omega, by go_num, hI', ho', small_mono hw (by omega), by rw [← Hnext.out]; congr 1; try omega⟩
        case measure => simp [intOf]; omega
      · have hL : writeL S'.length l' ((k : Int) * 16 + (j : Int)) rows[j] = l' := by unfold writeL; rw [if_neg hc]
        have hSw : writeS S' l' ((k : Int) * 16 + (j : Int)) rows[j] = S' := by unfold writeS; rw [if_neg hc]
        have hend := Hlay.out
        rw [if_neg hc] at hend
        rw [hL, hSw] at hI'
        have hbeq : (writeCode S'.length l' ((k : Int) * 16 + (j : Int)) rows[j] == 0) = false := beq_eq_false_iff_ne.2 hc
        have Hend := Lib.hid hend
        clear hend hL hSw hc Hlay
        generalize writeCode S'.length l' ((k : Int) * 16 + (j : Int)) rows[j] = cd at *
        go_wp2
        go_ret
        rw [← Hend.out]
        exact ⟨rfl, hI', ho'⟩
    · obtain rfl : j = rows.length := by omega
      rw [List.drop_length] at hlay
      unfold layTo at hlay
      have Hlay := Lib.hid hlay
      clear hlay
      go_wp2_with fail
      refine (flush_all hI (small_mono hsm (by omega))).mono ?_
      rintro e w2 ⟨rfl, hI2, ho2⟩
      go_wp2
      go_ret
      rw [← Hlay.out]
      exact ⟨rfl, hI2.mono (fun _ hk _ => More.join ho.size (Nat.le_refl _) ho2.size hk), ho.join ho2⟩
end Go.Proofs.YtlpjeopeboemmaaDoor
