/-
  The methods of Disk, in a law's own words: what was born since the law began, what lies below. No statement of the seat is proved here.
-/
import Derived.Test.YtlpjeopeboemmaaDoorBorn
namespace Go.Proofs.YtlpjeopeboemmaaDoor
open Go Go.RowKit

theorem Imp.drew {w : World} {fp : Nat → Prop} {g : Nat} {S : Sec} {l : Int} (h : Imp w fp g S l) : Imp w.drew fp g S l := h.only ((Only.refl (fun _ => False) w).drew) (fun _ _ x => x)
theorem Below.drew' {B : Nat} {a w : World} (h : Below B a w) : Below B a w.drew := ⟨h.os, h.tape, h.output, h.size, h.block⟩
theorem Below.undrew {B : Nat} {a w : World} (h : Below B a.drew w) : Below B a w := ⟨h.os, h.tape, h.output, h.size, h.block⟩

theorem writeS_length (S : Sec) (l i : Int) (bs : List UInt8) : (writeS S l i bs).length = S.length := by unfold writeS; split <;> simp
theorem flushS_length (S : Sec) : (flushS S).length = S.length := by simp [flushS]
theorem crashS_length (S : Sec) (ps : List Int) : (crashS S ps).length = S.length := by simp [crashS]
theorem small_mono {N M : Nat} {S : Sec} (h : Small N S) (hm : N ≤ M) : Small M S := fun vs hv => Nat.le_trans (h vs hv) hm
theorem small_write {N : Nat} {S : Sec} (h : Small N S) (l i : Int) (bs : List UInt8) : Small (N + 1) (writeS S l i bs) := by
  unfold writeS
  split
  · rename_i hc
    intro vs hv
    rcases List.mem_or_eq_of_mem_set hv with hv | hv
    · exact Nat.le_trans (h vs hv) (by omega)
    · subst hv
      have hi : i.toNat < S.length := by
        unfold writeCode at hc
        by_cases hl : l = 0
        · rw [if_pos hl] at hc; omega
        · rw [if_neg hl] at hc
          by_cases hb : i < 0 ∨ (S.length : Int) ≤ i ∨ 64 < bs.length
          · rw [if_pos hb] at hc; omega
          · omega
      rw [List.getD_eq_getElem?_getD, List.getElem?_eq_getElem hi, List.length_append]
      have := h _ (List.getElem_mem hi)
      simp only [Option.getD_some, List.length_singleton]
      omega
  · exact small_mono h (by omega)
theorem small_flush {N : Nat} (S : Sec) (h : 1 ≤ N) : Small N (flushS S) := fun vs hv => by
  obtain ⟨_, _, rfl⟩ := List.mem_map.1 hv
  simpa using h
theorem small_crash {N : Nat} {S : Sec} (h : Small N S) (h1 : 1 ≤ N) (ps : List Int) : Small N (crashS S ps) := by
  rw [← crash_stage]
  exact small_stage h h1 _ _
theorem small_zero (n : Nat) : Small 1 (zeroS n) := fun vs hv => by
  rw [List.eq_of_mem_replicate hv]; simp

theorem step_of {W wr w' : World} {g : Nat} {S : Sec} {l : Int} (hb : Below W.heap.size W wr) (h : Imp w' (More (Born W wr) wr w') g S l) (ho : Only (Born W wr) wr w') : Imp w' (Born W w') g S l ∧ Below W.heap.size W w' :=
  ⟨Born.imp h hb.size ho.size, hb.trans (Born.below ho hb.size)⟩

section
variable {W wr : World} {g : Nat} {S : Sec} {l : Int}
theorem write_step (h : Imp wr (Born W wr) g S l) (hb : Below W.heap.size W wr) (hs : Small 999999 S) (i : Int) (A : Option Addr) (n c : Nat) (bs : List UInt8) (hn : n = bs.length) (hr : Rd wr A (bs.map bv)) :
    Calls Tryd.prog 27 #[.pointer (some ⟨g, 0, none⟩), .int .i64 i, .slice A n c] wr fun e w' => e = .returned (.int .i64 (writeCode S.length l i bs)) ∧ Imp w' (Born W w') g (writeS S l i bs) (writeL S.length l i bs) ∧ Below W.heap.size W w' := by
  refine (write_all h hs i A n c bs hn hr).mono ?_
  rintro e w' ⟨rfl, h1, h2⟩
  exact ⟨rfl, step_of hb h1 h2⟩
theorem flush_step (h : Imp wr (Born W wr) g S l) (hb : Below W.heap.size W wr) (hs : Small 1000000 S) :
    Calls Tryd.prog 66 #[.pointer (some ⟨g, 0, none⟩)] wr fun e w' => e = .returned (.int .i64 (flushCode l)) ∧ Imp w' (Born W w') g (if l = 0 then S else flushS S) (tick l) ∧ Below W.heap.size W w' := by
  refine (flush_all h hs).mono ?_
  rintro e w' ⟨rfl, h1, h2⟩
  exact ⟨rfl, step_of hb h1 h2⟩
theorem fuse_step (h : Imp wr (Born W wr) g S l) (hb : Below W.heap.size W wr) (n : Int) (hn : isInt n) :
    Calls Tryd.prog 20 #[.pointer (some ⟨g, 0, none⟩), .int .i64 n] wr fun e w' => e = .returned (.tuple #[]) ∧ Imp w' (Born W w') g S (max n (-1)) ∧ Below W.heap.size W w' := by
  refine (fuse_all h n hn).mono ?_
  rintro e w' ⟨rfl, h1, h2⟩
  exact ⟨rfl, step_of hb h1 h2⟩
theorem crash_step {w0 : World} (h : Imp wr (Born W w0) g S l) (hw : w0.heap.size ≤ wr.heap.size) (hb : Below W.heap.size W wr) (hs : Small 1000000 S) (P : Option Addr) (n cp : Nat) (ps : List Int) (hn : n = ps.length) (hp : RdF (Born W w0) wr P (ps.map iv)) (hpi : ∀ x ∈ ps, isInt x) :
    Calls Tryd.prog 21 #[.pointer (some ⟨g, 0, none⟩), .slice P n cp] wr fun e w' => e = .returned (.tuple #[]) ∧ Imp w' (Born W w') g (crashS S ps) (-1) ∧ Below W.heap.size W w' := by
  refine (crash_all h hs P n cp ps hn hp hpi).mono ?_
  rintro e w' ⟨rfl, h1, h2⟩
  exact ⟨rfl, Born.imp (w1 := w0) h1 hb.size (Nat.le_trans hw h2.size), hb.trans (Born.below h2 hb.size)⟩
theorem new_step (n : Nat) (W wr : World) (hb : Below W.heap.size W wr) (h1 : 1 ≤ n) (h2 : n ≤ 4096) :
    Calls Tryd.prog 25 #[.int .i64 (n : Int)] wr fun e w' => ∃ g, e = .returned (.tuple #[.pointer (some ⟨g, 0, none⟩), .int .i64 0]) ∧ Imp w' (Born W w') g (zeroS n) (-1) ∧ Below W.heap.size W w' := by
  refine (new_ok n wr h1 h2).mono ?_
  rintro e w' ⟨g, rfl, hb', hI⟩
  have := hb.size
  exact ⟨g, rfl, hI.mono (fun k hk _ => ⟨by omega, hk.2⟩), hb.trans (hb'.mono hb.size)⟩
end
theorem isInt_tick {l : Int} : tick l = if 0 < l then l - 1 else l := rfl
theorem Imp.lo {w : World} {fp : Nat → Prop} {g : Nat} {S : Sec} {l : Int} (h : Imp w fp g S l) : -1 ≤ l := by
  obtain ⟨gc, B, C, h⟩ := h
  exact h.lo
end Go.Proofs.YtlpjeopeboemmaaDoor
