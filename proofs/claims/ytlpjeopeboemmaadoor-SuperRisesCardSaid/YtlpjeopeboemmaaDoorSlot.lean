/-
  The contracts of super's hasSlots and readSlot, and of what a slot tells ('told'). No statement of the seat is proved here.
-/
import Derived.Test.YtlpjeopeboemmaaDoorEqual
namespace Go.Proofs.YtlpjeopeboemmaaDoor
open Go Go.RowKit

theorem hasslots_any {w : World} {fp : Nat → Prop} {g : Nat} {S : Sec} {l : Int} (h : Imp w fp g S l) : Calls Tryd.prog 48 #[.pointer (some ⟨g, 0, none⟩)] w fun e w' => e = .returned (.bool (decide ((32 : Int) ≤ (S.length : Int)))) ∧ w = w' := by
  obtain ⟨gc, B, C, h⟩ := h
  go_enter Tryd.func48, Tryd.ntmps48
  go_wp2_with fail
  refine (len_any h).mono ?_
  rintro e w2 ⟨rfl, rfl⟩
  go_wp2
  go_ret
  exact ⟨rfl, rfl⟩
theorem len_nil (w : World) : Calls Tryd.prog 39 #[.pointer none] w fun e w' => e = .returned (.int .i64 0) ∧ w = w' := by
  go_enter Tryd.func39, Tryd.ntmps39
  go_wp2
  go_ret
  exact ⟨rfl, rfl⟩
theorem hasslots_nil (w : World) : Calls Tryd.prog 48 #[.pointer none] w fun e w' => e = .returned (.bool false) ∧ w = w' := by
  go_enter Tryd.func48, Tryd.ntmps48
  go_wp2_with fail
  refine (len_nil w).mono ?_
  rintro e w2 ⟨rfl, rfl⟩
  go_wp2
  go_ret
  exact ⟨rfl, rfl⟩

theorem slot_len {S : Sec} {k i : Nat} (hS : S.length ≥ k * 16 + 16) (hi : i < 16) : k * 16 + i < S.length := by omega

set_option maxHeartbeats 2000000 in
theorem readslot_any {w : World} {fp : Nat → Prop} {gd : Nat} {S : Sec} {l : Int} (h : Imp w fp gd S l) (hs : Small 1000000 S) (k : Nat) (hk : k ≤ 1) (hS : k * 16 + 16 ≤ S.length) :
    Calls Tryd.prog 49 #[.pointer (some ⟨gd, 0, none⟩), .int .i64 (k : Int)] w fun e w' => e = .returned (.tuple #[.slice (some ⟨w.heap.size, 0, none⟩) 16 16, .int .i64 0]) ∧ RowsAt w.heap.size w' w.heap.size 16 (slotRows S k) ∧ Below w.heap.size w w' := by
  obtain ⟨gc, B, C, h⟩ := h
  have hmr := make_rows
  have hn := h.n
  go_enter Tryd.func49, Tryd.ntmps49
  go_wp2
  go_loopw [7, 8, 9, 13] (fun _ _ _ i wr => ∃ j : Nat, j ≤ 16 ∧ i = .int .i64 (j : Int) ∧ Below w.heap.size w wr ∧ RowsAt w.heap.size wr w.heap.size 16 ((slotRows S k).take j)) (fun _ _ _ i _ => 16 - (intOf i).toNat)
  case atStart => exact ⟨0, by omega, rfl, ext_alloc (Below.refl _ _) _, RowsAt.new _ _⟩
  case round =>
    obtain ⟨j, hj, rfl, hb, hrows⟩ := hrel
    by_cases hlt : j < 16
    · have hlt' := slot_len hS hlt
      have hcall := read_ok (h.ext hb) hs (k * 16 + j) hlt'
      have e1 : ((k * 16 + j : Nat) : Int) = (k : Int) * 16 + (j : Int) := by omega
      rw [e1] at hcall
      have hv64 : (lastOf S[k * 16 + j]).length = 64 := ((h.cel _ hlt').len _ (lastOf_mem (h.cel _ hlt').ne))
      have hget : lastOf (S.getD (k * 16 + j) []) = lastOf S[k * 16 + j] := by rw [List.getD_eq_getElem?_getD, List.getElem?_eq_getElem hlt']; rfl
      have htake := slotRows_take S k j hlt
      rw [hget] at htake
      have Htake := Lib.hid htake
      have Hcall := Lib.hid hcall
      clear hcall htake hget e1
      generalize lastOf S[k * 16 + j] = v at *
      go_wp2_with fail
      refine Hcall.out.mono ?_
      rintro e w2 ⟨g', rfl, hb2, hk2, hg'⟩
      have hr2 := hrows.ext hb2
      have hlen : ((slotRows S k).take j).length = j := by rw [List.length_take, slotRows_length]; omega
      have hgl : w.heap.size < wr.heap.size := by
        obtain ⟨cs, hcs, _⟩ := hrows
        exact hcs.lt
      have hB : Bs w2 (some ⟨g', 0, none⟩) 64 64 v := ⟨hv64.symm, by omega, Rd.blk hk2⟩
      have hput := RowsAt.put hr2 (by rw [hlen]; exact hlt) hB (fun ad e => by injection e with e; subst e; exact ⟨by show w.heap.size ≤ g'; omega, by show g' ≠ _; omega⟩)
      rw [hlen, ← Htake.out] at hput
      obtain ⟨cs, hcs, hcsz, -⟩ := hr2
      obtain ⟨v6, hcell⟩ : ∃ v, w2.cell? ⟨w.heap.size, j, none⟩ = some v := ⟨cs[j], by rw [hcs.cell, Array.getElem?_eq_getElem]⟩
      have hfree := hcs.free j
      have hbr : Below w.heap.size w (w2.setCell ⟨w.heap.size, j, none⟩ (.slice (some ⟨g', 0, none⟩) 64 64)) := (ext_trans hb hb2).setCell (Nat.le_refl _) _
      have Hput := Lib.hid hput
      clear hput hk2 hB hrows Htake hlen hcsz hv64 Hcall
      go_wp2
      go_roundw
      case rel => exact ⟨j + 1, by omega, by go_num, hbr, Hput.out⟩
      case measure => simp [intOf]; omega
    · obtain rfl : j = 16 := by omega
      rw [List.take_of_length_le (by rw [slotRows_length]; omega)] at hrows
      go_wp2
      go_ret2
      exact ⟨rfl, hrows, hb⟩

/-! ### told -/
/-- at 'b' there lies what a slot tells: a number, an image -/
def ToldAt (w : World) (b N : Nat) (A : Option Addr) (n c : Nat) (img : List UInt8) : Prop := w.cell? ⟨b, 0, none⟩ = some (.int .i64 (N : Int)) ∧ w.cell? ⟨b, 1, none⟩ = some (.slice A n c) ∧ Bs w A n c img

theorem last_any {w : World} {b N : Nat} {A : Option Addr} {n c : Nat} {img : List UInt8} (h : ToldAt w b N A n c img) : Calls Tryd.prog 42 #[.pointer (some ⟨b, 0, none⟩)] w fun e w' => e = .returned (.bool ((N : Int) == 1125899906842624)) ∧ w = w' := by
  obtain ⟨h0, h1, h2⟩ := h
  go_enter Tryd.func42, Tryd.ntmps42
  go_wp2
  go_ret
  exact ⟨rfl, rfl⟩
theorem copied_any {w : World} {b N : Nat} {A : Option Addr} {n c : Nat} {img : List UInt8} (h : ToldAt w b N A n c img) (hl : img.length ≤ 814) : Calls Tryd.prog 41 #[.pointer (some ⟨b, 0, none⟩)] w fun e w' => ∃ A' c', e = .returned (.slice A' img.length c') ∧ New w w' A' c' img ∧ Below w.heap.size w w' := by
  obtain ⟨h0, h1, h2⟩ := h
  go_enter Tryd.func41, Tryd.ntmps41
  go_wp2_with fail
  refine (join1 img (Blk.new_at _ _ _ rfl) (h2.alloc _) (by omega)).mono ?_
  rintro e w1 ⟨A1, c1, rfl, hn1, hb1⟩
  go_wp2
  go_ret
  exact ⟨A1, c1, rfl, hn1.back (by rw [World.size_alloc]; omega), ext_trans (ext_alloc (Below.refl _ _) _) hb1⟩
end Go.Proofs.YtlpjeopeboemmaaDoor
