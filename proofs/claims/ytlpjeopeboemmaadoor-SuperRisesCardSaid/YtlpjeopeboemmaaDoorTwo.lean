/-
  A disk and the reference's disk, side by side. No statement of the seat is proved here.
-/
import Derived.Test.YtlpjeopeboemmaaDoorRNew
import Derived.Test.YtlpjeopeboemmaaDoorBorn
namespace Go.Proofs.YtlpjeopeboemmaaDoor
open Go Go.RowKit

theorem rnew_bad (n : Int) (w : World) (h : n < 1 ∨ 4096 < n) :
    Calls Tryd.prog 26 #[.int .i64 n] w fun e w' => e = .returned (.tuple #[.pointer none, .int .i64 1]) ∧ w = w' := by
  rcases h with h | h
  · go_enter Tryd.func26, Tryd.ntmps26
    go_wp2
    go_ret2
    exact ⟨rfl, rfl⟩
  · have hd : decide (n < 1) = false := decide_eq_false (by omega)
    go_enter Tryd.func26, Tryd.ntmps26
    go_wp2
    go_ret2
    exact ⟨rfl, rfl⟩

section
variable {w : World} {fp : Nat → Prop} {g : Nat} {S : Sec} {l : Int} {A0 : Option Addr} {c0 : Nat} {B : Nat → Option Addr} {C : Nat → Nat}
theorem rwrite_dead (h : RLay w fp g S l A0 c0 B C) (i : Int) (A : Option Addr) (n c : Nat) (h0 : l = 0) :
    Calls Tryd.prog 28 #[.pointer (some ⟨g, 0, none⟩), .int .i64 i, .slice A n c] w fun e w' => e = .returned (.int .i64 6) ∧ w = w' := by
  have c1 : w.cell? ⟨g, 1, none⟩ = some (.int .i64 l) := h.dsk.cell 1
  subst h0
  go_enter Tryd.func28, Tryd.ntmps28
  go_wp2
  go_ret
  exact ⟨rfl, rfl⟩
theorem rwrite_bad (h : RLay w fp g S l A0 c0 B C) (i : Int) (A : Option Addr) (n c : Nat) (h0 : l ≠ 0) (hbad : ¬ (0 ≤ i ∧ i < (S.length : Int)) ∨ 64 < n) :
    Calls Tryd.prog 28 #[.pointer (some ⟨g, 0, none⟩), .int .i64 i, .slice A n c] w fun e w' => e = .returned (.int .i64 1) ∧ w = w' := by
  have c1 : w.cell? ⟨g, 1, none⟩ = some (.int .i64 l) := h.dsk.cell 1
  have k0 : w.cell? ⟨g, 0, none⟩ = some (.slice A0 S.length c0) := h.dsk.cell 0
  have hl0 : (l == 0) = false := by simpa using h0
  by_cases hn : i < 0
  · clear hbad
    go_enter Tryd.func28, Tryd.ntmps28
    go_wp2
    go_ret
    exact ⟨rfl, rfl⟩
  · have d1 : decide (i < 0) = false := decide_eq_false hn
    by_cases hge : (S.length : Int) ≤ i
    · clear hbad
      go_enter Tryd.func28, Tryd.ntmps28
      go_wp2
      go_ret
      exact ⟨rfl, rfl⟩
    · have d2 : decide ((S.length : Int) ≤ i) = false := decide_eq_false hge
      have hn2 : (64 : Int) < (n : Int) := by omega
      clear hbad
      go_enter Tryd.func28, Tryd.ntmps28
      go_wp2
      go_ret
      exact ⟨rfl, rfl⟩
end
theorem rwrite_all {w : World} {fp : Nat → Prop} {g : Nat} {S : Sec} {l : Int} (h : Ref w fp g S l) (hs : Small 999999 S) (i : Int) (A : Option Addr) (n c : Nat) (bs : List UInt8) (hn : n = bs.length) (hr : RdF fp w A (bs.map bv)) :
    Calls Tryd.prog 28 #[.pointer (some ⟨g, 0, none⟩), .int .i64 i, .slice A n c] w fun e w' => e = .returned (.int .i64 (writeCode S.length l i bs)) ∧ Ref w' (More fp w w') g (writeS S l i bs) (writeL S.length l i bs) ∧ Only fp w w' := by
  obtain ⟨A0, c0, B, C, h⟩ := h
  by_cases h0 : l = 0
  · refine (rwrite_dead h i A n c h0).mono ?_
    rintro e w' ⟨rfl, rfl⟩
    have e1 : writeCode S.length l i bs = 6 := by unfold writeCode; rw [if_pos h0]
    unfold writeS writeL
    rw [e1]
    exact ⟨rfl, Ref.more ⟨A0, c0, B, C, h⟩, Only.refl _ _⟩
  · by_cases hbad : ¬ (0 ≤ i ∧ i < (S.length : Int)) ∨ 64 < n
    · refine (rwrite_bad h i A n c h0 hbad).mono ?_
      rintro e w' ⟨rfl, rfl⟩
      have e1 : writeCode S.length l i bs = 1 := by unfold writeCode; rw [if_neg h0, if_pos (by omega)]
      unfold writeS writeL
      rw [e1]
      exact ⟨rfl, Ref.more ⟨A0, c0, B, C, h⟩, Only.refl _ _⟩
    · obtain ⟨k, rfl⟩ : ∃ k : Nat, i = (k : Int) := ⟨i.toNat, by omega⟩
      have hk : k < S.length := by omega
      obtain ⟨e1, e2⟩ := writeS_ok (S := S) (l := l) (bs := bs) hk (by omega) h0
      refine (rwrite_any h hs k hk A n c bs hn (by omega) hr h0).mono ?_
      rintro e w' ⟨rfl, h1, h2⟩
      unfold writeL
      rw [e1, e2]
      exact ⟨rfl, h1, h2⟩

/-! ### Side by side -/
/-- A disk 'gd' of sectors 'S' and the reference's disk 'gx' of 'S2', both born since 'W', apart from each other and from the blocks 'G'. -/
def Two (W w : World) (G : Nat → Prop) (gd gx : Nat) (S : Sec) (l : Int) (S2 : Sec) (l2 : Int) : Prop :=
  ∃ fI fR, Imp w fI gd S l ∧ Ref w fR gx S2 l2 ∧ (∀ k, fI k → fR k → False) ∧ (∀ k, fI k → Born W w k) ∧ (∀ k, fR k → Born W w k) ∧ (∀ k, G k → ¬ fI k ∧ ¬ fR k ∧ k < w.heap.size)
/-- what a step leaves of the blocks 'G' -/
def Kept (G : Nat → Prop) (w w' : World) : Prop := ∀ k, G k → w'.heap[k]? = w.heap[k]?

section
variable {W w w' : World} {G : Nat → Prop} {gd gx : Nat} {S S2 S' : Sec} {l l2 l' : Int}
theorem Two.ext (h : Two W w G gd gx S l S2 l2) (hb : Below w.heap.size w w') : Two W w' G gd gx S l S2 l2 := by
  obtain ⟨fI, fR, hI, hR, hd, h1, h2, h3⟩ := h
  have z := hb.size
  exact ⟨fI, fR, hI.ext hb, hR.ext hb, hd, fun k hk => ⟨(h1 k hk).1, by have := (h1 k hk).2; omega⟩, fun k hk => ⟨(h2 k hk).1, by have := (h2 k hk).2; omega⟩, fun k hk => ⟨(h3 k hk).1, (h3 k hk).2.1, by have := (h3 k hk).2.2; omega⟩⟩
/-- other blocks to be kept: those that were not there before -/
theorem Two.guard (h : Two W w G gd gx S l S2 l2) (o : Obj) : Two W (w.alloc o) (fun k => k = w.heap.size) gd gx S l S2 l2 := by
  obtain ⟨fI, fR, hI, hR, hd, h1, h2, h3⟩ := h
  have hb : Below w.heap.size w (w.alloc o) := (Below.refl _ _).alloc (Nat.le_refl _) o
  refine ⟨fI, fR, hI.ext hb, hR.ext hb, hd, fun k hk => ⟨(h1 k hk).1, ?_⟩, fun k hk => ⟨(h2 k hk).1, ?_⟩, fun k hk => ⟨fun h => ?_, fun h => ?_, ?_⟩⟩
  · have := (h1 k hk).2; rw [World.size_alloc]; omega
  · have := (h2 k hk).2; rw [World.size_alloc]; omega
  · have := (h1 k h).2; omega
  · have := (h2 k h).2; omega
  · rw [World.size_alloc]; omega
theorem Two.free (h : Two W w G gd gx S l S2 l2) : Two W w (fun _ => False) gd gx S l S2 l2 := by
  obtain ⟨fI, fR, hI, hR, hd, h1, h2, h3⟩ := h
  exact ⟨fI, fR, hI, hR, hd, h1, h2, fun k hk => hk.elim⟩

theorem two_left {fI fR : Nat → Prop} (hb : Below W.heap.size W w) (hR : Ref w fR gx S2 l2) (hd : ∀ k, fI k → fR k → False) (h1 : ∀ k, fI k → Born W w k) (h2 : ∀ k, fR k → Born W w k) (h3 : ∀ k, G k → ¬ fI k ∧ ¬ fR k ∧ k < w.heap.size) (hI' : Imp w' (More fI w w') gd S' l') (ho : Only fI w w') :
    Two W w' G gd gx S' l' S2 l2 ∧ Below W.heap.size W w' ∧ Kept G w w' := by
  have z := ho.size
  have z0 := hb.size
  refine ⟨⟨More fI w w', fR, hI', hR.only ho (fun k hk hk' => hd k hk' hk), fun k hk hk' => ?_, fun k hk => ?_, fun k hk => ⟨(h2 k hk).1, by have := (h2 k hk).2; omega⟩, fun k hk => ⟨fun h => ?_, (h3 k hk).2.1, by have := (h3 k hk).2.2; omega⟩⟩, hb.trans (ho.below (fun k hk => (h1 k hk).1) z0), fun k hk => ho.block k (h3 k hk).2.2 (h3 k hk).1⟩
  · rcases hk with hk | hk
    · exact hd k hk hk'
    · have := (h2 k hk').2; omega
  · rcases hk with hk | hk
    · exact ⟨(h1 k hk).1, by have := (h1 k hk).2; omega⟩
    · exact ⟨by omega, hk.2⟩
  · rcases h with h | h
    · exact (h3 k hk).1 h
    · have := (h3 k hk).2.2; omega
theorem two_right {fI fR : Nat → Prop} (hb : Below W.heap.size W w) (hI : Imp w fI gd S l) (hd : ∀ k, fI k → fR k → False) (h1 : ∀ k, fI k → Born W w k) (h2 : ∀ k, fR k → Born W w k) (h3 : ∀ k, G k → ¬ fI k ∧ ¬ fR k ∧ k < w.heap.size) (hR' : Ref w' (More fR w w') gx S' l') (ho : Only fR w w') :
    Two W w' G gd gx S l S' l' ∧ Below W.heap.size W w' ∧ Kept G w w' := by
  have z := ho.size
  have z0 := hb.size
  refine ⟨⟨fI, More fR w w', hI.only ho (fun k hk hk' => hd k hk hk'), hR', fun k hk' hk => ?_, fun k hk => ⟨(h1 k hk).1, by have := (h1 k hk).2; omega⟩, fun k hk => ?_, fun k hk => ⟨(h3 k hk).1, fun h => ?_, by have := (h3 k hk).2.2; omega⟩⟩, hb.trans (ho.below (fun k hk => (h2 k hk).1) z0), fun k hk => ho.block k (h3 k hk).2.2 (h3 k hk).2.1⟩
  · rcases hk with hk | hk
    · exact hd k hk' hk
    · have := (h1 k hk').2; omega
  · rcases hk with hk | hk
    · exact ⟨(h2 k hk).1, by have := (h2 k hk).2; omega⟩
    · exact ⟨by omega, hk.2⟩
  · rcases h with h | h
    · exact (h3 k hk).2.1 h
    · have := (h3 k hk).2.2; omega

theorem two_write (h : Two W w G gd gx S l S2 l2) (hb : Below W.heap.size W w) (hs : Small 999999 S) (i : Int) (A : Option Addr) (n c : Nat) (bs : List UInt8) (hn : n = bs.length) (hr : Rd W A (bs.map bv)) :
    Calls Tryd.prog 27 #[.pointer (some ⟨gd, 0, none⟩), .int .i64 i, .slice A n c] w fun e w' => e = .returned (.int .i64 (writeCode S.length l i bs)) ∧ Two W w' G gd gx (writeS S l i bs) (writeL S.length l i bs) S2 l2 ∧ Below W.heap.size W w' ∧ Kept G w w' := by
  obtain ⟨fI, fR, hI, hR, hd, h1, h2, h3⟩ := h
  refine (write_all hI hs i A n c bs hn (hr.ext hb)).mono ?_
  rintro e w' ⟨rfl, hI', ho⟩
  exact ⟨rfl, two_left hb hR hd h1 h2 h3 hI' ho⟩
theorem two_rwrite (h : Two W w G gd gx S l S2 l2) (hb : Below W.heap.size W w) (hs : Small 999999 S2) (i : Int) (A : Option Addr) (n c : Nat) (bs : List UInt8) (hn : n = bs.length) (hr : Rd W A (bs.map bv)) :
    Calls Tryd.prog 28 #[.pointer (some ⟨gx, 0, none⟩), .int .i64 i, .slice A n c] w fun e w' => e = .returned (.int .i64 (writeCode S2.length l2 i bs)) ∧ Two W w' G gd gx S l (writeS S2 l2 i bs) (writeL S2.length l2 i bs) ∧ Below W.heap.size W w' ∧ Kept G w w' := by
  obtain ⟨fI, fR, hI, hR, hd, h1, h2, h3⟩ := h
  refine (rwrite_all hR hs i A n c bs hn ((rdF_born (w1 := w) hr hb).weak h2)).mono ?_
  rintro e w' ⟨rfl, hR', ho⟩
  exact ⟨rfl, two_right hb hI hd h1 h2 h3 hR' ho⟩
theorem two_flush (h : Two W w G gd gx S l S2 l2) (hb : Below W.heap.size W w) (hs : Small 1000000 S) :
    Calls Tryd.prog 66 #[.pointer (some ⟨gd, 0, none⟩)] w fun e w' => e = .returned (.int .i64 (flushCode l)) ∧ Two W w' G gd gx (if l = 0 then S else flushS S) (tick l) S2 l2 ∧ Below W.heap.size W w' ∧ Kept G w w' := by
  obtain ⟨fI, fR, hI, hR, hd, h1, h2, h3⟩ := h
  refine (flush_all hI hs).mono ?_
  rintro e w' ⟨rfl, hI', ho⟩
  exact ⟨rfl, two_left hb hR hd h1 h2 h3 hI' ho⟩
theorem two_rflush (h : Two W w G gd gx S l S2 l2) (hb : Below W.heap.size W w) (hs : Small 1000000 S2) :
    Calls Tryd.prog 75 #[.pointer (some ⟨gx, 0, none⟩)] w fun e w' => e = .returned (.int .i64 (flushCode l2)) ∧ Two W w' G gd gx S l (if l2 = 0 then S2 else flushS S2) (tick l2) ∧ Below W.heap.size W w' ∧ Kept G w w' := by
  obtain ⟨fI, fR, hI, hR, hd, h1, h2, h3⟩ := h
  refine (rflush_all hR hs).mono ?_
  rintro e w' ⟨rfl, hR', ho⟩
  exact ⟨rfl, two_right hb hI hd h1 h2 h3 hR' ho⟩
theorem two_fuse (h : Two W w G gd gx S l S2 l2) (hb : Below W.heap.size W w) (n : Int) (hn : isInt n) :
    Calls Tryd.prog 20 #[.pointer (some ⟨gd, 0, none⟩), .int .i64 n] w fun e w' => e = .returned (.tuple #[]) ∧ Two W w' G gd gx S (max n (-1)) S2 l2 ∧ Below W.heap.size W w' ∧ Kept G w w' := by
  obtain ⟨fI, fR, hI, hR, hd, h1, h2, h3⟩ := h
  refine (fuse_all hI n hn).mono ?_
  rintro e w' ⟨rfl, hI', ho⟩
  exact ⟨rfl, two_left hb hR hd h1 h2 h3 hI' ho⟩
theorem two_rfuse (h : Two W w G gd gx S l S2 l2) (hb : Below W.heap.size W w) (n : Int) (hn : isInt n) :
    Calls Tryd.prog 34 #[.pointer (some ⟨gx, 0, none⟩), .int .i64 n] w fun e w' => e = .returned (.tuple #[]) ∧ Two W w' G gd gx S l S2 (max n (-1)) ∧ Below W.heap.size W w' ∧ Kept G w w' := by
  obtain ⟨fI, fR, hI, hR, hd, h1, h2, h3⟩ := h
  refine (rfuse_all hR n hn).mono ?_
  rintro e w' ⟨rfl, hR', ho⟩
  exact ⟨rfl, two_right hb hI hd h1 h2 h3 hR' ho⟩
theorem two_crash (h : Two W w G gd gx S l S2 l2) (hb : Below W.heap.size W w) (hs : Small 1000000 S) (P : Option Addr) (n cp : Nat) (ps : List Int) (hn : n = ps.length) (hp : Rd W P (ps.map iv)) (hpi : ∀ x ∈ ps, isInt x) :
    Calls Tryd.prog 21 #[.pointer (some ⟨gd, 0, none⟩), .slice P n cp] w fun e w' => e = .returned (.tuple #[]) ∧ Two W w' G gd gx (crashS S ps) (-1) S2 l2 ∧ Below W.heap.size W w' ∧ Kept G w w' := by
  obtain ⟨fI, fR, hI, hR, hd, h1, h2, h3⟩ := h
  refine (crash_all hI hs P n cp ps hn ((rdF_born (w1 := w) hp hb).weak h1) hpi).mono ?_
  rintro e w' ⟨rfl, hI', ho⟩
  exact ⟨rfl, two_left hb hR hd h1 h2 h3 hI' ho⟩
theorem two_rcrash (h : Two W w G gd gx S l S2 l2) (hb : Below W.heap.size W w) (hs : Small 1000000 S2) (P : Option Addr) (n cp : Nat) (ps : List Int) (hn : n = ps.length) (hp : Rd W P (ps.map iv)) (hpi : ∀ x ∈ ps, isInt x) :
    Calls Tryd.prog 35 #[.pointer (some ⟨gx, 0, none⟩), .slice P n cp] w fun e w' => e = .returned (.tuple #[]) ∧ Two W w' G gd gx S l (crashS S2 ps) (-1) ∧ Below W.heap.size W w' ∧ Kept G w w' := by
  obtain ⟨fI, fR, hI, hR, hd, h1, h2, h3⟩ := h
  refine (rcrash_all hR hs P n cp ps hn ((rdF_born (w1 := w) hp hb).weak h2) hpi).mono ?_
  rintro e w' ⟨rfl, hR', ho⟩
  exact ⟨rfl, two_right hb hI hd h1 h2 h3 hR' ho⟩
/-- both, new -/
theorem Two.new {g gx' : Nat} (hI : Imp w (Born W w) g S l) (hb : Below W.heap.size W w) (hb' : Below W.heap.size W w') (hb2 : Below w.heap.size w w') (hR : Ref w' (Born w w') gx' S2 l2) : Two W w' (fun _ => False) g gx' S l S2 l2 := by
  have z := hb2.size
  have z0 := hb.size
  exact ⟨Born W w, Born w w', hI.ext hb2, hR, fun k h1 h2 => by have := h1.2; have := h2.1; omega, fun k hk => ⟨hk.1, by have := hk.2; omega⟩, fun k hk => ⟨by have := hk.1; omega, hk.2⟩, fun k hk => hk.elim⟩
end
end Go.Proofs.YtlpjeopeboemmaaDoor
