/-
  Blocks born between two worlds; Read, whatever comes in. No statement of the seat is proved here.
-/
import Derived.Test.YtlpjeopeboemmaaDoorFlush
namespace Go.Proofs.YtlpjeopeboemmaaDoor
open Go Go.RowKit

/-- the blocks that were made between two worlds -/
def Born (w0 w1 : World) : Nat → Prop := fun k => w0.heap.size ≤ k ∧ k < w1.heap.size
theorem Born.imp {w0 w1 w1' w2 : World} {g : Nat} {S : Sec} {l : Int} (h : Imp w2 (More (Born w0 w1) w1' w2) g S l) (h0 : w0.heap.size ≤ w1'.heap.size) (h1 : w1.heap.size ≤ w2.heap.size) : Imp w2 (Born w0 w2) g S l :=
  h.mono fun k hk _ => by
    rcases hk with hk | hk
    · exact ⟨hk.1, by have := hk.2; omega⟩
    · exact ⟨by omega, hk.2⟩
theorem Born.below {w0 w1 a b : World} (h : Only (Born w0 w1) a b) (h0 : w0.heap.size ≤ a.heap.size) : Below w0.heap.size a b := h.below (fun _ hk => hk.1) h0

/-- Read, whatever comes in -/
theorem read_all {w : World} {fp : Nat → Prop} {g : Nat} {S : Sec} {l : Int} (h : Imp w fp g S l) (hs : Small 1000000 S) (i : Int) :
    Calls Tryd.prog 31 #[.pointer (some ⟨g, 0, none⟩), .int .i64 i] w fun e w' => Below w.heap.size w w' ∧ ((∃ (k : Nat) (hk : k < S.length), i = (k : Int) ∧ ∃ g', e = .returned (.tuple #[.slice (some ⟨g', 0, none⟩) 64 64, .int .i64 0]) ∧ Blk w' g' 91 ((lastOf S[k]).map bv).toArray ∧ w.heap.size ≤ g') ∨
      (¬ (0 ≤ i ∧ i < (S.length : Int)) ∧ e = .returned (.tuple #[.slice none 0 0, .int .i64 1]))) := by
  obtain ⟨gc, B, C, h⟩ := h
  by_cases hi : 0 ≤ i ∧ i < (S.length : Int)
  · obtain ⟨k, rfl⟩ : ∃ k : Nat, i = (k : Int) := ⟨i.toNat, by omega⟩
    refine (read_ok h hs k (by omega)).mono ?_
    rintro e w' ⟨g', h1, h2, h3, h4⟩
    exact ⟨h2, .inl ⟨k, by omega, rfl, g', h1, h3, h4⟩⟩
  · refine (read_bad h i hi).mono ?_
    rintro e w' ⟨h1, rfl⟩
    exact ⟨Below.refl _ _, .inr ⟨hi, h1⟩⟩

theorem small_of {N : Nat} {S : Sec} (h : S.all (fun vs => decide (vs.length ≤ N)) = true) : Small N S := fun vs hvs => by
  have := List.all_eq_true.1 h vs hvs
  simpa using this

/-- what lies in the arguments is apart from what was born later -/
theorem rdF_born {W w w1 : World} {A : Option Addr} {xs : List Value} (h : Rd W A xs) (hb : Below W.heap.size W w) : RdF (Born W w1) w A xs := by
  refine ⟨h.ext hb, fun ad e hne hk => ?_⟩
  rcases xs with _ | ⟨x, r⟩
  · exact hne rfl
  · obtain ⟨ad', e', hc⟩ := h 0 x rfl
    rw [e] at e'
    injection e' with e'
    subst e'
    have hb' := World.block_lt_of_cell? W _ hc
    rw [block_add] at hb'
    have := hk.1
    omega

end Go.Proofs.YtlpjeopeboemmaaDoor
