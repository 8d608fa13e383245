/-
  Blocks born between two worlds; Read, whatever comes in; the contract of the laws' helper known. No statement of the seat is proved here.
-/
import Derived.Test.YthicjnnlbnjjmaaFlush
namespace Go.Proofs.Ythicjnnlbnjjmaa
open Go Go.RowKit

/-- the blocks that were made between two worlds -/
def Born (w0 w1 : World) : Nat → Prop := fun k => w0.heap.size ≤ k ∧ k < w1.heap.size
theorem Born.imp {w0 w1 w1' w2 : World} {g : Nat} {S : Sec} {l : Int} (h : Imp w2 (More (Born w0 w1) w1' w2) g S l) (h0 : w0.heap.size ≤ w1'.heap.size) (h1 : w1.heap.size ≤ w2.heap.size) : Imp w2 (Born w0 w2) g S l :=
  h.mono fun k hk _ => by
    rcases hk with hk | hk
    · exact ⟨hk.1, by have := hk.2; omega⟩
    · exact ⟨by omega, hk.2⟩
theorem Born.below {w0 w1 a b : World} (h : Only (Born w0 w1) a b) (h0 : w0.heap.size ≤ a.heap.size) : Below w0.heap.size a b := h.below (fun _ hk => hk.1) h0

/-- Read, whatever comes in -/
theorem read_all {w : World} {fp : Nat → Prop} {g : Nat} {S : Sec} {l : Int} (h : Imp w fp g S l) (hs : Small 1000000 S) (i : Int) :
    Calls Try.prog 18 #[.pointer (some ⟨g, 0, none⟩), .int .i64 i] w fun e w' => Below w.heap.size w w' ∧ ((∃ (k : Nat) (hk : k < S.length), i = (k : Int) ∧ ∃ g', e = .returned (.tuple #[.slice (some ⟨g', 0, none⟩) 64 64, .int .i64 0]) ∧ Blk w' g' 67 ((lastOf S[k]).map bv).toArray ∧ w.heap.size ≤ g') ∨
      (¬ (0 ≤ i ∧ i < (S.length : Int)) ∧ e = .returned (.tuple #[.slice none 0 0, .int .i64 1]))) := by
  obtain ⟨gc, B, C, h⟩ := h
  by_cases hi : 0 ≤ i ∧ i < (S.length : Int)
  · obtain ⟨k, rfl⟩ : ∃ k : Nat, i = (k : Int) := ⟨i.toNat, by omega⟩
    refine (read_ok h hs k (by omega)).mono ?_
    rintro e w' ⟨g', h1, h2, h3, h4⟩
    exact ⟨h2, .inl ⟨k, by omega, rfl, g', h1, h3, h4⟩⟩
  · refine (read_bad h i hi).mono ?_
    rintro e w' ⟨h1, rfl⟩
    exact ⟨Below.refl _ _, .inr ⟨hi, h1⟩⟩

theorem small_of {N : Nat} {S : Sec} (h : S.all (fun vs => decide (vs.length ≤ N)) = true) : Small N S := fun vs hvs => by
  have := List.all_eq_true.1 h vs hvs
  simpa using this

def knownS : Sec := writeS (zeroS 4) (-1) 0 [1]
def knownS2 : Sec := writeS knownS (-1) 0 [2]
def knownS3 : Sec := crashS knownS2 [1]
theorem known_l1 : writeL (zeroS 4).length (-1) 0 [1] = -1 := by rfl
theorem known_l2 : writeL knownS.length (-1) 0 [2] = -1 := by rfl
theorem known_small1 : Small 999999 knownS := small_of (by rfl)
theorem known_small2 : Small 1000000 knownS2 := small_of (by rfl)
theorem known_small3 : Small 1000000 knownS3 := small_of (by rfl)
theorem known_len3 : knownS3.length = 4 := by rfl
theorem known_last : lastOf (knownS3[0]'(by rw [known_len3]; omega)) = pad [1] := by rfl

set_option maxRecDepth 100000 in
set_option maxHeartbeats 1000000 in
theorem known_any (w : World) : Calls Try.prog 15 #[] w fun e w' => e = .returned (.bool true) ∧ Below w.heap.size w w' := by
  go_enter Try.func15, Try.ntmps15
  go_wp2_with fail
  refine (new_ok 4 w (by omega) (by omega)).mono ?_
  rintro e w1 ⟨g, rfl, hb1, hI1⟩
  have z1 := hb1.size
  go_wp2_with fail
  refine (write_all (hI1.ext ((Below.refl _ _).alloc (Nat.le_refl _) (Obj.cells #[Value.int IntKind.u8 1] 5))) (small_of rfl) 0 _ 1 1 [1] rfl (Rd.lit w1 #[Value.int IntKind.u8 1] 5)).mono ?_
  rintro e w2 ⟨rfl, hI2, ho2⟩
  have y2 := ho2.size
  rw [World.size_alloc] at y2
  rw [known_l1] at hI2
  have hJ2 : Imp w2 (Born w w2) g knownS (-1) := Born.imp (w1 := w1) hI2 (by rw [World.size_alloc]; omega) (by omega)
  have hb2 : Below w.heap.size w w2 := (hb1.alloc z1 _).trans (Born.below (w1 := w1) ho2 (by rw [World.size_alloc]; omega))
  clear hI2 hI1 ho2 hb1
  generalize writeCode (zeroS 4).length (-1) 0 [1] = r1
  have z2 := hb2.size
  go_wp2_with fail
  refine (write_all (hJ2.ext ((Below.refl _ _).alloc (Nat.le_refl _) (Obj.cells #[Value.int IntKind.u8 2] 5))) known_small1 0 _ 1 1 [2] rfl (Rd.lit w2 #[Value.int IntKind.u8 2] 5)).mono ?_
  rintro e w3 ⟨rfl, hI3, ho3⟩
  have y3 := ho3.size
  rw [World.size_alloc] at y3
  rw [known_l2] at hI3
  have hJ3 : Imp w3 (Born w w3) g knownS2 (-1) := Born.imp (w1 := w2) hI3 (by rw [World.size_alloc]; omega) (by omega)
  have hb3 : Below w.heap.size w w3 := (hb2.alloc z2 _).trans (Born.below (w1 := w2) ho3 (by rw [World.size_alloc]; omega))
  clear hI3 hJ2 ho3 hb2
  generalize writeCode knownS.length (-1) 0 [2] = r2
  have z3 := hb3.size
  have hlit : RdF (Born w w3) (w3.alloc (Obj.cells #[Value.int IntKind.i64 1] 3)) (some ⟨w3.heap.size, 0, none⟩) ([1].map iv) :=
    RdF.lit w3 #[Value.int IntKind.i64 1] 3 rfl (fun h => by have := h.2; omega)
  go_wp2_with fail
  refine (crash_all (hJ3.ext ((Below.refl _ _).alloc (Nat.le_refl _) (Obj.cells #[Value.int IntKind.i64 1] 3))) known_small2 _ 1 1 [1] rfl hlit (by simp [isInt])).mono ?_
  rintro e w4 ⟨rfl, hI4, ho4⟩
  have y4 := ho4.size
  rw [World.size_alloc] at y4
  have hJ4 : Imp w4 (Born w w4) g knownS3 (-1) := Born.imp (w1 := w3) hI4 (by rw [World.size_alloc]; omega) (by omega)
  have hb4 : Below w.heap.size w w4 := (hb3.alloc z3 _).trans (Born.below (w1 := w3) ho4 (by rw [World.size_alloc]; omega))
  clear hI4 hJ3 ho4 hb3 hlit
  obtain ⟨gc, B, C, hL4⟩ := hJ4
  go_wp2_with fail
  refine (read_ok hL4 known_small3 0 (by rw [known_len3]; omega)).mono ?_
  rintro e w5 ⟨g', rfl, hb5, hk5, _⟩
  rw [known_last] at hk5
  have hc5 : w5.cell? ⟨g', 0, none⟩ = some (.int .u8 1) := hk5.cell 0
  go_wp2
  go_ret
  exact ⟨rfl, hb4.trans (hb5.mono hb4.size)⟩
end Go.Proofs.Ythicjnnlbnjjmaa
