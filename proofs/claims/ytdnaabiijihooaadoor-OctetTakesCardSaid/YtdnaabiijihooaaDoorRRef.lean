/-
  The contracts of winnowerref1's Reader. No statement of the seat is proved here.
-/
import Derived.Test.YtdnaabiijihooaaDoorRdr
import Derived.Test.YtdnaabiijihooaaDoorRef
namespace Go.Proofs.YtdnaabiijihooaaDoor
open Go Go.RowKit

/-- the document's Reader in block 'g': 'bs' is left of it; has it erred?; what it holds lies in 'fp' -/
def RRd (w : World) (fp : Nat → Prop) (g : Nat) (bs : List UInt8) (bad : Bool) : Prop :=
  fp g ∧ (bad = true → bs = []) ∧ ∃ A c, Blk w g 45 #[.slice A bs.length c, .bool bad] ∧ Rd w A (bs.map bv) ∧ (∀ ad, A = some ad → bs ≠ [] → fp ad.block ∧ ad.block ≠ g) ∧ bs.length ≤ c

section
variable {S fp fp' : Nat → Prop} {w w' : World} {g : Nat} {bs : List UInt8} {bad : Bool}
theorem RRd.lt (h : RRd w fp g bs bad) : g < w.heap.size := by
  obtain ⟨_, _, _, _, hb, _⟩ := h
  exact hb.lt
theorem RRd.only (h : RRd w fp g bs bad) (ho : Only S w w') (hn : ∀ k, fp k → ¬ S k) : RRd w' fp g bs bad := by
  obtain ⟨h1, h2, A, c, hb, hr, ha, hc⟩ := h
  exact ⟨h1, h2, A, c, hb.only ho (hn _ h1), hr.only ho (fun ad e hne => hn _ (ha ad e (by intro h; exact hne (by rw [h]; rfl))).1), ha, hc⟩
theorem RRd.ext (h : RRd w fp g bs bad) (hb : Below w.heap.size w w') : RRd w' fp g bs bad := by
  obtain ⟨h1, h2, A, c, hb1, hr, ha, hc⟩ := h
  exact ⟨h1, h2, A, c, hb1.ext hb, hr.ext hb, ha, hc⟩
theorem RRd.drewN (h : RRd w fp g bs bad) (n : Nat) : RRd (w.drewN n) fp g bs bad := h
end

theorem refbad (fp : Nat → Prop) (g : Nat) (bs : List UInt8) (bad : Bool) (w : World) (h : RRd w fp g bs bad) :
    Calls Tryd.prog 34 #[.pointer (some ⟨g, 0, none⟩)] w fun e w' => e = .returned (.tuple #[]) ∧ RRd w' fp g [] true ∧ Only (fun k => k = g) w w' := by
  obtain ⟨hg, _, A, c, hb, _⟩ := h
  have h0 := hb.cell 0
  have h1 := hb.cell 1
  simp only [List.getElem?_toArray, List.getElem?_cons_zero, List.getElem?_cons_succ] at h0 h1
  have f0 := hb.free 0
  have f1 := hb.free 1
  go_enter Tryd.func34, Tryd.ntmps34
  go_wp2
  go_end0
  refine ⟨rfl, ⟨hg, fun _ => rfl, none, 0, (hb.put 1 _).put 0 _, Rd.nil _ _, (fun ad e => by cases e), Nat.le_refl _⟩, ?_⟩
  exact ((Only.refl (fun k => k = g) w).setCell (p := ⟨g, 1, none⟩) (.inl rfl) _).setCell (p := ⟨g, 0, none⟩) (.inl rfl) _

theorem refwhole_bad (fp : Nat → Prop) (g : Nat) (bs : List UInt8) (w : World) (h : RRd w fp g bs true) :
    Calls Tryd.prog 36 #[.pointer (some ⟨g, 0, none⟩)] w fun e w' => e = .returned (.bool false) ∧ w = w' := by
  obtain ⟨_, _, A, c, hb, _⟩ := h
  have h1 := hb.cell 1
  simp only [List.getElem?_toArray, List.getElem?_cons_zero, List.getElem?_cons_succ] at h1
  go_enter Tryd.func36, Tryd.ntmps36
  go_wp2
  go_ret
  exact ⟨rfl, rfl⟩
theorem refwhole (fp : Nat → Prop) (g : Nat) (bs : List UInt8) (w : World) (h : RRd w fp g bs false) :
    Calls Tryd.prog 36 #[.pointer (some ⟨g, 0, none⟩)] w fun e w' => e = .returned (.bool bs.isEmpty) ∧ w = w' := by
  obtain ⟨_, _, A, c, hb, _⟩ := h
  have h0 := hb.cell 0
  have h1 := hb.cell 1
  simp only [List.getElem?_toArray, List.getElem?_cons_zero, List.getElem?_cons_succ] at h0 h1
  have hbl : ((bs.length : Int) == 0) = bs.isEmpty := by cases bs <;> simp <;> omega
  go_enter Tryd.func36, Tryd.ntmps36
  go_wp2
  go_ret
  exact ⟨rfl, rfl⟩

/-- k bytes are gone -/
theorem RRd.cut {fp : Nat → Prop} {w : World} {g k d : Nat} {bs : List UInt8} {A B : Option Addr} {c : Nat} (hg : fp g) (hb : Blk w g 45 #[.slice A bs.length c, .bool false]) (hr : Rd w A (bs.map bv)) (ha : ∀ ad, A = some ad → bs ≠ [] → fp ad.block ∧ ad.block ≠ g) (hc : bs.length ≤ c) (hk : k ≤ bs.length)
    (hB : c = k ∨ B = A.map (fun x => x.add k)) (hd : bs.length - k ≤ d) : RRd (w.setCell ⟨g, 0, none⟩ (.slice B (bs.length - k) d)) fp g (bs.drop k) false ∧ Only (fun k => k = g) w (w.setCell ⟨g, 0, none⟩ (.slice B (bs.length - k) d)) := by
  refine ⟨⟨hg, fun h => by simp at h, B, d, ?_, ?_, ?_, by rw [List.length_drop]; omega⟩, (Only.refl (fun k => k = g) w).setCell (p := ⟨g, 0, none⟩) (.inl rfl) _⟩
  · have := hb.put 0 (.slice B (bs.length - k) d)
    rw [List.length_drop]
    exact this
  · rcases hbs : bs.drop k with _ | ⟨x, r⟩
    · exact Rd.nil _ _
    · rcases hB with hB | hB
      · have : bs.drop k = [] := List.drop_eq_nil_iff.2 (by omega)
        rw [this] at hbs; cases hbs
      · subst hB
        have h1 := hr.add k
        rw [← List.map_drop, hbs] at h1
        refine h1.setCell (fun ad e => ?_) _
        have hne : bs ≠ [] := by rintro rfl; simp at hbs
        obtain ⟨a0, e0, rfl⟩ := Option.map_eq_some_iff.1 e
        rw [block_add]
        exact (ha a0 e0 hne).2
  · intro ad e hne
    have hne' : bs ≠ [] := by rintro rfl; simp at hne
    rcases hB with hB | hB
    · exact absurd (List.drop_eq_nil_iff.2 (by omega)) hne
    · rw [hB] at e
      obtain ⟨a0, e0, rfl⟩ := Option.map_eq_some_iff.1 e
      rw [block_add]
      exact ha a0 e0 hne'

set_option maxRecDepth 100000 in
set_option maxHeartbeats 2000000 in
theorem refraw_ok (fp : Nat → Prop) (g : Nat) (bs : List UInt8) (k : Nat) (w : World) (h : RRd w fp g bs false) (hk : k ≤ bs.length) (hb : bs.length ≤ 1099511627776) :
    Calls Tryd.prog 32 #[.pointer (some ⟨g, 0, none⟩), .int .i64 (k : Int)] w fun e w' => ∃ A' c', e = .returned (.slice A' k c') ∧ New w w' A' c' (bs.take k) ∧ RRd w' fp g (bs.drop k) false ∧ Only (fun k => k = g) w w' := by
  obtain ⟨hg, _, A, c, hblk, hr, ha, hc⟩ := h
  have h0 := hblk.cell 0
  have h1 := hblk.cell 1
  simp only [List.getElem?_toArray, List.getElem?_cons_zero, List.getElem?_cons_succ] at h0 h1
  have f0 := hblk.free 0
  have htk : (bs.take k).length = k := by rw [List.length_take]; omega
  have hk1 : 0 + k ≤ maxLen := by unfold maxLen; omega
  have hk2 : (0 + k) * 1 ≤ 140737488355328 := by omega
  have Hk := Lib.hid (show k = ((bs.take k).map bv).length by rw [List.length_map, htk])
  have hrk : Rd w A ((bs.take k).map bv) := by rw [List.map_take]; exact hr.take k
  have hgl := hblk.lt
  clear htk
  go_enter Tryd.func32, Tryd.ntmps32
  go_wp2_with (at_builtin
               refine wpList_app _ (fp := fun k => w.heap.size ≤ k ∧ k < w.heap.size + 1) rfl (.tmp 23) (.tmp 29) _ rfl _ _ 1 Tryd.underlying23 info_u8 rfl (some ⟨w.heap.size, 0, none⟩) 0 0 [] rfl rfl (Own.lit w _ #[] _ (by unfold maxLen; simp) (by omega)) A k c ((bs.take k).map bv) rfl Hk.out (hrk.alloc _) (bvs_one _) hk1 hk2 ?_
               intro A1 c1 w1 hown1 honly1
               have hbel : Below w.heap.size w w1 := ((Below.refl _ _).alloc (Nat.le_refl _) _).trans (honly1.below (fun _ h => h.1) (by simp))
               have hb1 := hblk.ext hbel
               have g0 : w1.cell? ⟨g, 0, none⟩ = some (.slice A bs.length c) := hb1.cell 0
               have g1 : w1.frozen? ⟨g, 0, none⟩ = false := hb1.free 0)
  all_goals
    have hr1 := hr.ext hbel
    have s1 := honly1.size
    rw [World.size_alloc] at s1
    have hnew : New w w1 A1 c1 (bs.take k) := by
      rw [List.nil_append] at hown1
      exact hown1.mono (fun j hj _ => by
        rcases hj with hj | hj
        · exact ⟨hj.1, by omega⟩
        · rw [World.size_alloc] at hj; exact ⟨by omega, hj.2⟩)
    have hfin : ∀ v, New w (w1.setCell ⟨g, 0, none⟩ v) A1 c1 (bs.take k) := fun v => by
      have h1 := Own.setCell hnew (p := ⟨g, 0, none⟩) (fun ad e => by have := (hnew.2 ad e).1; show ad.block ≠ g; omega) v
      exact h1.mono (fun j hj _ => ⟨hj.1, by simpa [World.setCell] using hj.2⟩)
    go_ret
  · have hck : c = k := by assumption
    obtain ⟨q1, q2⟩ := RRd.cut (B := A) (d := 0) hg hb1 hr1 ha hc hk (.inl hck) (by omega)
    exact ⟨A1, c1, rfl, hfin _, q1, (Only.of_ext hbel).trans q2 (fun _ _ h => h)⟩
  · obtain ⟨q1, q2⟩ := RRd.cut (d := c - k) hg hb1 hr1 ha hc hk (.inr rfl) (by omega)
    exact ⟨A1, c1, rfl, hfin _, q1, (Only.of_ext hbel).trans q2 (fun _ _ h => h)⟩

theorem refraw_none (fp : Nat → Prop) (g : Nat) (bs : List UInt8) (v : Int) (w : World) (h : RRd w fp g bs false) (hk : v < 0 ∨ (bs.length : Int) < v) :
    Calls Tryd.prog 32 #[.pointer (some ⟨g, 0, none⟩), .int .i64 v] w fun e w' => e = .returned (.slice none 0 0) ∧ RRd w' fp g [] true ∧ Only (fun k => k = g) w w' := by
  have h' := h
  obtain ⟨hg, _, A, c, hblk, hr, ha, hc⟩ := h
  have h0 := hblk.cell 0
  simp only [List.getElem?_toArray, List.getElem?_cons_zero] at h0
  have hd : (decide (v < 0) || decide ((bs.length : Int) < v)) = true := by simpa using hk
  rcases hk with hk | hk
  · go_enter Tryd.func32, Tryd.ntmps32
    go_wp2_with fail
    refine (refbad fp g bs false _ h').mono ?_
    rintro e w2 ⟨rfl, hrd, ho⟩
    have h1 : w2.cell? ⟨g, 1, none⟩ = some (.bool true) := by obtain ⟨_, _, _, _, hb, _⟩ := hrd; exact hb.cell 1
    go_wp2
    go_ret
    exact ⟨rfl, hrd, ho⟩
  · have hk2 : ¬ v < 0 := by omega
    have hk3 : decide (v < 0) = false := decide_eq_false hk2
    clear hd
    go_enter Tryd.func32, Tryd.ntmps32
    go_wp2_with fail
    refine (refbad fp g bs false _ h').mono ?_
    rintro e w2 ⟨rfl, hrd, ho⟩
    have h1 : w2.cell? ⟨g, 1, none⟩ = some (.bool true) := by obtain ⟨_, _, _, _, hb, _⟩ := hrd; exact hb.cell 1
    go_wp2
    go_ret
    exact ⟨rfl, hrd, ho⟩

/-- behind an error, whatever is asked -/
theorem refraw_dead (fp : Nat → Prop) (g : Nat) (v : Int) (w : World) (h : RRd w fp g [] true) :
    Calls Tryd.prog 32 #[.pointer (some ⟨g, 0, none⟩), .int .i64 v] w fun e w' => e = .returned (.slice none 0 0) ∧ RRd w' fp g [] true ∧ Only (fun k => k = g) w w' := by
  have h' := h
  obtain ⟨hg, _, A, c, hblk, hr, ha, hc⟩ := h
  have h0 := hblk.cell 0
  have h1 := hblk.cell 1
  simp only [List.getElem?_toArray, List.getElem?_cons_zero, List.getElem?_cons_succ, List.length_nil] at h0 h1
  have hcase : v < 0 ∨ 0 < v ∨ v = 0 := by omega
  rcases hcase with hk | hk | rfl
  · go_enter Tryd.func32, Tryd.ntmps32
    go_wp2_with fail
    refine (refbad fp g [] true _ h').mono ?_
    rintro e w2 ⟨rfl, hrd, ho⟩
    have h2 : w2.cell? ⟨g, 1, none⟩ = some (.bool true) := by obtain ⟨_, _, _, _, hb, _⟩ := hrd; exact hb.cell 1
    go_wp2
    go_ret
    exact ⟨rfl, hrd, ho⟩
  · have hk2 : ¬ v < 0 := by omega
    have hk3 : decide (v < 0) = false := decide_eq_false hk2
    go_enter Tryd.func32, Tryd.ntmps32
    go_wp2_with fail
    refine (refbad fp g [] true _ h').mono ?_
    rintro e w2 ⟨rfl, hrd, ho⟩
    have h2 : w2.cell? ⟨g, 1, none⟩ = some (.bool true) := by obtain ⟨_, _, _, _, hb, _⟩ := hrd; exact hb.cell 1
    go_wp2
    go_ret
    exact ⟨rfl, hrd, ho⟩
  · go_enter Tryd.func32, Tryd.ntmps32
    go_wp2
    go_ret
    exact ⟨rfl, h', Only.refl _ _⟩
end Go.Proofs.YtdnaabiijihooaaDoor
