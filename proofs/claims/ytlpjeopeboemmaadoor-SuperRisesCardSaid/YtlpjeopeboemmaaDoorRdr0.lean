/-
  The contracts of octet's NewReader and of Reader's Good, Bad, Raw. No statement of the seat is proved here.
-/
import Derived.Test.YtlpjeopeboemmaaDoorJoin
namespace Go.Proofs.YtlpjeopeboemmaaDoor
open Go Go.RowKit

/-- A Reader in block 'g': 'bs' is left of it; has it erred?; what it holds lies in 'fp'. -/
def Rdr (w : World) (fp : Nat → Prop) (g : Nat) (bs : List UInt8) (bad : Bool) : Prop :=
  fp g ∧ (bad = true → bs = []) ∧ ∃ A c, Blk w g 130 #[.slice A bs.length c, .bool bad] ∧ Rd w A (bs.map bv) ∧ (∀ ad, A = some ad → bs ≠ [] → fp ad.block ∧ ad.block ≠ g) ∧ bs.length ≤ c

section
variable {S fp fp' : Nat → Prop} {w w' : World} {g : Nat} {bs : List UInt8} {bad : Bool}
theorem Rdr.lt (h : Rdr w fp g bs bad) : g < w.heap.size := by
  obtain ⟨_, _, _, _, hb, _⟩ := h
  exact hb.lt
theorem Rdr.only (h : Rdr w fp g bs bad) (ho : Only S w w') (hn : ∀ k, fp k → ¬ S k) : Rdr w' fp g bs bad := by
  obtain ⟨h1, h2, A, c, hb, hr, ha, hc⟩ := h
  exact ⟨h1, h2, A, c, hb.only ho (hn _ h1), hr.only ho (fun ad e hne => hn _ (ha ad e (by intro h; exact hne (by rw [h]; rfl))).1), ha, hc⟩
theorem Rdr.ext (h : Rdr w fp g bs bad) (hb : Below w.heap.size w w') : Rdr w' fp g bs bad := by
  obtain ⟨h1, h2, A, c, hb1, hr, ha, hc⟩ := h
  exact ⟨h1, h2, A, c, hb1.ext hb, hr.ext hb, ha, hc⟩
theorem Rdr.drewN (h : Rdr w fp g bs bad) (n : Nat) : Rdr (w.drewN n) fp g bs bad := h
theorem Rdr.mono (h : Rdr w fp g bs bad) (hs : ∀ k, fp k → k < w.heap.size → fp' k) : Rdr w fp' g bs bad := by
  obtain ⟨h1, h2, A, c, hb1, hr, ha, hc⟩ := h
  refine ⟨hs _ h1 hb1.lt, h2, A, c, hb1, hr, fun ad e hne => ?_, hc⟩
  obtain ⟨ad', e', hcell⟩ := hr.at_ (k := 0) (by have := List.length_pos_iff.2 hne; simpa using this)
  rw [e] at e'; injection e' with e'; subst e'
  have hl := World.block_lt_of_cell? w _ hcell
  rw [block_add] at hl
  exact ⟨hs _ (ha ad e hne).1 hl, (ha ad e hne).2⟩
end

theorem rgood (fp : Nat → Prop) (g : Nat) (bs : List UInt8) (bad : Bool) (w : World) (h : Rdr w fp g bs bad) :
    Calls Tryd.prog 76 #[.pointer (some ⟨g, 0, none⟩)] w fun e w' => e = .returned (.bool (!bad)) ∧ w = w' := by
  obtain ⟨_, _, A, c, hb, _⟩ := h
  have h1 := hb.cell 1
  simp only [List.getElem?_toArray, List.getElem?_cons_zero, List.getElem?_cons_succ] at h1
  go_enter Tryd.func76, Tryd.ntmps76
  go_wp2
  go_ret
  exact ⟨rfl, rfl⟩
theorem rbad (fp : Nat → Prop) (g : Nat) (bs : List UInt8) (bad : Bool) (w : World) (h : Rdr w fp g bs bad) :
    Calls Tryd.prog 77 #[.pointer (some ⟨g, 0, none⟩)] w fun e w' => e = .returned (.tuple #[]) ∧ Rdr w' fp g [] true ∧ Only (fun k => k = g) w w' := by
  obtain ⟨hg, _, A, c, hb, _⟩ := h
  have h0 := hb.cell 0
  have h1 := hb.cell 1
  simp only [List.getElem?_toArray, List.getElem?_cons_zero, List.getElem?_cons_succ] at h0 h1
  have f0 := hb.free 0
  have f1 := hb.free 1
  go_enter Tryd.func77, Tryd.ntmps77
  go_wp2
  go_end0
  refine ⟨rfl, ⟨hg, fun _ => rfl, none, 0, (hb.put 0 _).put 1 _, Rd.nil _ _, (fun ad e => by cases e), Nat.le_refl _⟩, ?_⟩
  exact ((Only.refl (fun k => k = g) w).setCell (p := ⟨g, 0, none⟩) (.inl rfl) _).setCell (p := ⟨g, 1, none⟩) (.inl rfl) _

theorem Rd.add {w : World} {A : Option Addr} {xs : List Value} (h : Rd w A xs) (k : Nat) : Rd w (A.map fun x => x.add k) (xs.drop k) := fun j u hu => by
  rw [List.getElem?_drop] at hu
  obtain ⟨ad, rfl, hc⟩ := h _ u hu
  exact ⟨ad.add k, rfl, by rw [add_add_]; exact hc⟩

/-- the Reader takes what stands at the beginning: k bytes are gone -/
theorem Rdr.cut {fp : Nat → Prop} {w : World} {g k d : Nat} {bs : List UInt8} {A B : Option Addr} {c : Nat} (hg : fp g) (hb : Blk w g 130 #[.slice A bs.length c, .bool false]) (hr : Rd w A (bs.map bv)) (ha : ∀ ad, A = some ad → bs ≠ [] → fp ad.block ∧ ad.block ≠ g) (hc : bs.length ≤ c) (hk : k ≤ bs.length)
    (hB : c = k ∨ B = A.map (fun x => x.add k)) (hd : bs.length - k ≤ d) : Rdr (w.setCell ⟨g, 0, none⟩ (.slice B (bs.length - k) d)) fp g (bs.drop k) false ∧ Only (fun k => k = g) w (w.setCell ⟨g, 0, none⟩ (.slice B (bs.length - k) d)) := by
  refine ⟨⟨hg, fun h => by simp at h, B, d, ?_, ?_, ?_, by rw [List.length_drop]; omega⟩, (Only.refl (fun k => k = g) w).setCell (p := ⟨g, 0, none⟩) (.inl rfl) _⟩
  · have := hb.put 0 (.slice B (bs.length - k) d)
    rw [List.length_drop]
    exact this
  · rcases hbs : bs.drop k with _ | ⟨x, r⟩
    · exact Rd.nil _ _
    · rcases hB with hB | hB
      · have : bs.drop k = [] := List.drop_eq_nil_iff.2 (by omega)
        rw [this] at hbs; cases hbs
      · subst hB
        have h1 := hr.add k
        rw [← List.map_drop, hbs] at h1
        refine h1.setCell (fun ad e => ?_) _
        have hne : bs ≠ [] := by rintro rfl; simp at hbs
        obtain ⟨a0, e0, rfl⟩ := Option.map_eq_some_iff.1 e
        rw [block_add]
        exact (ha a0 e0 hne).2
  · intro ad e hne
    have hne' : bs ≠ [] := by rintro rfl; simp at hne
    rcases hB with hB | hB
    · exact absurd (List.drop_eq_nil_iff.2 (by omega)) hne
    · rw [hB] at e
      obtain ⟨a0, e0, rfl⟩ := Option.map_eq_some_iff.1 e
      rw [block_add]
      exact ha a0 e0 hne'

set_option maxHeartbeats 1000000 in
theorem newreader (A : Option Addr) (n c : Nat) (bs : List UInt8) (w : World) (hn : n = bs.length) (hc : bs.length ≤ c) (hr : Rd w A (bs.map bv)) (hb : bs.length ≤ 1099511627776) :
    Calls Tryd.prog 68 #[.slice A n c] w fun e w' => ∃ g, e = .returned (.pointer (some ⟨g, 0, none⟩)) ∧ Rdr w' (fun k => w.heap.size ≤ k ∧ k < w'.heap.size) g bs false ∧ Below w.heap.size w w' := by
  subst hn
  go_enter Tryd.func68, Tryd.ntmps68
  go_wp2_with fail
  refine (join_any _ 1 1 [bs] bs _ rfl (by simp) (RowsF.one (RdF.of hr) hc _ rfl id) hb (by simp)).mono ?_
  rintro e w1 ⟨A1, c1, rfl, hnew, hbel⟩
  go_wp2
  go_ret
  have hs1 := hbel.size
  rw [World.size_alloc] at hs1
  refine ⟨w1.heap.size, rfl, ⟨?_, fun h => by simp at h, A1, c1, Blk.new _ _ _, hnew.rd.alloc _, fun ad e _ => ?_, ?_⟩, ?_⟩
  · rw [World.size_alloc]; omega
  · rcases Own.some_ hnew with ⟨h, _⟩ | ⟨g, h, hf, hl⟩
    · rw [h] at e; cases e
    · rw [h] at e; injection e with e; subst e
      rw [World.size_alloc] at hf ⊢
      show (_ ≤ g ∧ g < _) ∧ g ≠ _
      omega
  · have := Own.cap hnew; simpa using this
  · exact (((Below.refl _ _).alloc (Nat.le_refl _) _).trans (hbel.mono (by simp))).alloc (by omega) _

set_option maxHeartbeats 1000000 in
/-- Raw: so many bytes, or an error -/
theorem rraw_ok (fp : Nat → Prop) (g : Nat) (bs : List UInt8) (k : Nat) (w : World) (h : Rdr w fp g bs false) (hk : k ≤ bs.length) (hb : bs.length ≤ 1099511627776) :
    Calls Tryd.prog 70 #[.pointer (some ⟨g, 0, none⟩), .int .i64 (k : Int)] w fun e w' => ∃ A' c', e = .returned (.slice A' k c') ∧ New w w' A' c' (bs.take k) ∧ Rdr w' fp g (bs.drop k) false ∧ Only (fun k => k = g) w w' := by
  have h' := h
  obtain ⟨hg, _, A, c, hblk, hr, ha, hc⟩ := h
  have h0 := hblk.cell 0
  have h1 := hblk.cell 1
  simp only [List.getElem?_toArray, List.getElem?_cons_zero, List.getElem?_cons_succ] at h0 h1
  have f0 := hblk.free 0
  go_enter Tryd.func70, Tryd.ntmps70
  go_wp2_with fail
  refine (rgood fp g bs false _ h').mono ?_
  rintro e w' ⟨rfl, rfl⟩
  have htk : (bs.take k).length = k := by rw [List.length_take]; omega
  have hrow : RowsF (fun _ => False) (w.alloc (.cells #[.slice A (bs.take k).length c] 22)) (some ⟨w.heap.size, 0, none⟩) [bs.take k] :=
    RowsF.one (RdF.of (by rw [List.map_take]; exact hr.take k)) (by rw [htk]; omega) _ rfl id
  rw [htk] at hrow
  have Htk := Lib.hid htk
  clear htk
  go_wp2_with fail
  refine (join_any _ 1 1 [bs.take k] (bs.take k) _ rfl (by simp) hrow (by rw [Htk.out]; omega) (by simp)).mono ?_
  rw [Htk.out]
  rintro e w1 ⟨A1, c1, rfl, hnew, hbel⟩
  have hbel' : Below w.heap.size w w1 := ((Below.refl _ _).alloc (Nat.le_refl _) _).trans (hbel.mono (by simp))
  have hnew' : New w w1 A1 c1 (bs.take k) := hnew.back (by simp)
  have hb1 := hblk.ext hbel'
  have hr1 := hr.ext hbel'
  have g0 := hb1.cell 0
  simp only [List.getElem?_toArray, List.getElem?_cons_zero] at g0
  have g1 := hb1.free 0
  have hgl := hblk.lt
  have hfin : ∀ v, New w (w1.setCell ⟨g, 0, none⟩ v) A1 c1 (bs.take k) := fun v => by
    have h1 := Own.setCell hnew' (p := ⟨g, 0, none⟩) (fun ad e => by have := (hnew'.2 ad e).1; show ad.block ≠ g; omega) v
    exact h1.mono (fun j hj _ => ⟨hj.1, by simpa [World.setCell] using hj.2⟩)
  clear hrow hnew
  go_wp2
  · have hck : c = k := by assumption
    go_ret
    obtain ⟨q1, q2⟩ := Rdr.cut (B := A) (d := 0) hg hb1 hr1 ha hc hk (.inl hck) (by omega)
    exact ⟨A1, c1, rfl, hfin _, q1, (Only.of_ext hbel').trans q2 (fun _ _ h => h)⟩
  · go_ret
    obtain ⟨q1, q2⟩ := Rdr.cut (d := c - k) hg hb1 hr1 ha hc hk (.inr rfl) (by omega)
    exact ⟨A1, c1, rfl, hfin _, q1, (Only.of_ext hbel').trans q2 (fun _ _ h => h)⟩
theorem rraw_none (fp : Nat → Prop) (g : Nat) (bs : List UInt8) (v : Int) (w : World) (h : Rdr w fp g bs false) (_ : isInt v) (hk : v < 0 ∨ (bs.length : Int) < v) (hb : bs.length ≤ 1099511627776) :
    Calls Tryd.prog 70 #[.pointer (some ⟨g, 0, none⟩), .int .i64 v] w fun e w' => e = .returned (.slice none 0 0) ∧ Rdr w' fp g [] true ∧ Only (fun k => k = g) w w' := by
  have h' := h
  obtain ⟨hg, _, A, c, hblk, hr, ha, hc⟩ := h
  have h0 := hblk.cell 0
  simp only [List.getElem?_toArray, List.getElem?_cons_zero] at h0
  rcases hk with hk | hk
  · go_enter Tryd.func70, Tryd.ntmps70
    go_wp2_with fail
    refine (rgood fp g bs false _ h').mono ?_
    rintro e w' ⟨rfl, rfl⟩
    go_wp2_with fail
    refine (rbad fp g bs false _ h').mono ?_
    rintro e w2 ⟨rfl, hrd, ho⟩
    go_wp2
    go_ret
    exact ⟨rfl, hrd, ho⟩
  · have hk2 : ¬ v < 0 := by omega
    have hk3 : decide (v < 0) = false := decide_eq_false hk2
    go_enter Tryd.func70, Tryd.ntmps70
    go_wp2_with fail
    refine (rgood fp g bs false _ h').mono ?_
    rintro e w' ⟨rfl, rfl⟩
    go_wp2_with fail
    refine (rbad fp g bs false _ h').mono ?_
    rintro e w2 ⟨rfl, hrd, ho⟩
    go_wp2
    go_ret
    exact ⟨rfl, hrd, ho⟩
theorem rraw_dead (fp : Nat → Prop) (g : Nat) (bs : List UInt8) (v : Int) (w : World) (h : Rdr w fp g bs true) :
    Calls Tryd.prog 70 #[.pointer (some ⟨g, 0, none⟩), .int .i64 v] w fun e w' => e = .returned (.slice none 0 0) ∧ w = w' := by
  go_enter Tryd.func70, Tryd.ntmps70
  go_wp2_with fail
  refine (rgood fp g bs true _ h).mono ?_
  rintro e w' ⟨rfl, rfl⟩
  go_wp2
  go_ret
  exact ⟨rfl, rfl⟩
end Go.Proofs.YtlpjeopeboemmaaDoor
