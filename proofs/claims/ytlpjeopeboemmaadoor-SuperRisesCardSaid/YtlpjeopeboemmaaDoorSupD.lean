/-
  What an opened disk tells; a Super in memory. No statement of the seat is proved here.
-/
import Derived.Test.YtlpjeopeboemmaaDoorUnpack
import Derived.Test.YtlpjeopeboemmaaDoorLaid
namespace Go.Proofs.YtlpjeopeboemmaaDoor
open Go Go.RowKit

/-- what the first k slots tell: number, image, which slot -/
def tellK (S : Sec) : Nat → Nat × List UInt8 × Nat
  | 0 => (0, [], 0)
  | k + 1 => if (tellK S k).1 < (unpackS (slotRows S k)).1 then ((unpackS (slotRows S k)).1, (unpackS (slotRows S k)).2, k) else tellK S k
/-- the greatest number that the sectors of the first k slots bear -/
def mostK (S : Sec) : Nat → Nat
  | 0 => 0
  | k + 1 => mostR (mostK S k) (slotRows S k)

theorem mostR_take (m : Nat) (rows : List (List UInt8)) (k : Nat) (h : k < rows.length) : mostR m (rows.take (k + 1)) = max (mostR m (rows.take k)) (numOf rows[k]) := by
  unfold mostR
  rw [List.take_succ_eq_append_getElem h, List.foldl_append]; rfl
theorem mostR_le (rows : List (List UInt8)) : ∀ m, m ≤ 1125899906842624 → mostR m rows ≤ 1125899906842624 := by
  induction rows with
  | nil => intro m h; exact h
  | cons r rs ih => intro m h; exact ih _ (Nat.max_le.2 ⟨h, numOf_le r⟩)
theorem mostK_le (S : Sec) : ∀ k, mostK S k ≤ 1125899906842624
  | 0 => Nat.zero_le _
  | k + 1 => mostR_le _ _ (mostK_le S k)
theorem unpackS_le (rows : List (List UInt8)) : (unpackS rows).1 ≤ 1125899906842624 ∧ (unpackS rows).2.length ≤ 814 := by
  unfold unpackS
  split
  · exact ⟨numOf_le _, imgR_len _⟩
  · exact ⟨Nat.zero_le _, by simp⟩
theorem tellK_le (S : Sec) : ∀ k, (tellK S k).1 ≤ 1125899906842624 ∧ (tellK S k).2.1.length ≤ 814
  | 0 => ⟨Nat.zero_le _, by simp [tellK]⟩
  | k + 1 => by
    rw [tellK]
    split
    · exact unpackS_le _
    · exact tellK_le S k

/-- A Super in block 'g' over the disk 'gd'. -/
structure SupP (w : World) (fp fI : Nat → Prop) (g gd : Nat) (S : Sec) (l : Int) (img : List UInt8) (N slot : Nat) (dead : Bool) (A : Option Addr) (c : Nat) : Prop where
  imp : Imp w fI gd S l
  sub : ∀ k, fI k → fp k
  fg : fp g
  ng : ¬ fI g
  blk : Blk w g 80 #[.int .i64 (N : Int), .slice A img.length c, .pointer (some ⟨gd, 0, none⟩), .int .i64 (slot : Int), .bool dead]
  bs : Bs w A img.length c img
  fA : ∀ ad, A = some ad → fp ad.block ∧ ¬ fI ad.block ∧ ad.block ≠ g ∧ ad.block < w.heap.size
  hN : N ≤ 1125899906842624
  hs : slot ≤ 1
  hi : img.length ≤ 814
def SupAt (w : World) (fp : Nat → Prop) (g gd : Nat) (S : Sec) (l : Int) (img : List UInt8) (N slot : Nat) (dead : Bool) : Prop := ∃ fI A c, SupP w fp fI g gd S l img N slot dead A c

section
variable {T fp fp' : Nat → Prop} {w w' : World} {g gd : Nat} {S : Sec} {l : Int} {img : List UInt8} {N slot : Nat} {dead : Bool}
theorem SupAt.impd (h : SupAt w fp g gd S l img N slot dead) : Imp w fp gd S l := by
  obtain ⟨fI, A, c, h⟩ := h
  exact h.imp.mono (fun k hk _ => h.sub k hk)
theorem SupAt.mono (h : SupAt w fp g gd S l img N slot dead) (hs : ∀ k, fp k → k < w.heap.size → fp' k) : SupAt w fp' g gd S l img N slot dead := by
  obtain ⟨fI, A, c, h⟩ := h
  exact ⟨fun k => fI k ∧ k < w.heap.size, A, c, { h with
    imp := h.imp.mono (fun k hk hl => ⟨hk, hl⟩)
    sub := fun k hk => hs k (h.sub k hk.1) hk.2
    fg := hs _ h.fg h.blk.lt
    ng := fun hk => h.ng hk.1
    fA := fun ad e => ⟨hs _ (h.fA ad e).1 (h.fA ad e).2.2.2, fun hk => (h.fA ad e).2.1 hk.1, (h.fA ad e).2.2⟩ }⟩
theorem SupAt.only (h : SupAt w fp g gd S l img N slot dead) (ho : Only T w w') (hn : ∀ k, fp k → ¬ T k) : SupAt w' fp g gd S l img N slot dead := by
  obtain ⟨fI, A, c, h⟩ := h
  refine ⟨fI, A, c, { h with
    imp := h.imp.only ho (fun k hk => hn k (h.sub k hk))
    blk := h.blk.only ho (hn _ h.fg)
    bs := ⟨rfl, h.bs.2.1, h.bs.2.2.only ho (fun ad e _ => hn _ (h.fA ad e).1)⟩
    fA := fun ad e => ⟨(h.fA ad e).1, (h.fA ad e).2.1, (h.fA ad e).2.2.1, Nat.lt_of_lt_of_le (h.fA ad e).2.2.2 ho.size⟩ }⟩
theorem SupAt.ext (h : SupAt w fp g gd S l img N slot dead) (hb : Below w.heap.size w w') : SupAt w' fp g gd S l img N slot dead := h.only (Only.of_ext (S := fun _ => False) hb) (fun _ _ x => x)
theorem SupAt.lt (h : SupAt w fp g gd S l img N slot dead) : g < w.heap.size := by
  obtain ⟨fI, A, c, h⟩ := h
  exact h.blk.lt
end
end Go.Proofs.YtlpjeopeboemmaaDoor
