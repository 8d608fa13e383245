/-
  Texts of this claim, joined (part 6): contracts and lemmas that the last text goes by. No statement of the seat is proved here.
-/
import Derived.Test.YtpjgkacekelkdaaGreatDoorAll1
import Derived.Test.YtpjgkacekelkdaaGreatDoorAll5
import Derived.Test.YtpjgkacekelkdaaGreatDoorAll4
import Derived.ProofKit
import Derived.OpenShut
import Derived.Deep.DeepHandedRow
import Derived.Deep.Matrix
import Derived.LaidLaws
set_option linter.unusedVariables false
set_option linter.unusedSimpArgs false
/-
  The contracts of winnowerref1's Reader. No statement of the seat is proved here.
-/
namespace Go.Proofs.YtpjgkacekelkdaaGreatDoor
open Go Go.RowKit

/-- the document's Reader in block 'g': 'bs' is left of it; has it erred?; what it holds lies in 'fp' -/
def RRd (w : World) (fp : Nat → Prop) (g : Nat) (bs : List UInt8) (bad : Bool) : Prop :=
  fp g ∧ (bad = true → bs = []) ∧ ∃ A c, Blk w g 83 #[.slice A bs.length c, .bool bad] ∧ Rd w A (bs.map bv) ∧ (∀ ad, A = some ad → bs ≠ [] → fp ad.block ∧ ad.block ≠ g) ∧ bs.length ≤ c

section
variable {S fp fp' : Nat → Prop} {w w' : World} {g : Nat} {bs : List UInt8} {bad : Bool}
theorem RRd.lt (h : RRd w fp g bs bad) : g < w.heap.size := by
  obtain ⟨_, _, _, _, hb, _⟩ := h
  exact hb.lt
theorem RRd.only (h : RRd w fp g bs bad) (ho : Only S w w') (hn : ∀ k, fp k → ¬ S k) : RRd w' fp g bs bad := by
  obtain ⟨h1, h2, A, c, hb, hr, ha, hc⟩ := h
  exact ⟨h1, h2, A, c, hb.only ho (hn _ h1), hr.only ho (fun ad e hne => hn _ (ha ad e (by intro h; exact hne (by rw [h]; rfl))).1), ha, hc⟩
theorem RRd.ext (h : RRd w fp g bs bad) (hb : Below w.heap.size w w') : RRd w' fp g bs bad := by
  obtain ⟨h1, h2, A, c, hb1, hr, ha, hc⟩ := h
  exact ⟨h1, h2, A, c, hb1.ext hb, hr.ext hb, ha, hc⟩
theorem RRd.drewN (h : RRd w fp g bs bad) (n : Nat) : RRd (w.drewN n) fp g bs bad := h
end

theorem refbad (fp : Nat → Prop) (g : Nat) (bs : List UInt8) (bad : Bool) (w : World) (h : RRd w fp g bs bad) :
    Calls Tryz.prog 78 #[.pointer (some ⟨g, 0, none⟩)] w fun e w' => e = .returned (.tuple #[]) ∧ RRd w' fp g [] true ∧ Only (fun k => k = g) w w' := by
  obtain ⟨hg, _, A, c, hb, _⟩ := h
  have h0 := hb.cell 0
  have h1 := hb.cell 1
  simp only [List.getElem?_toArray, List.getElem?_cons_zero, List.getElem?_cons_succ] at h0 h1
  have f0 := hb.free 0
  have f1 := hb.free 1
  go_enter Tryz.func78, Tryz.ntmps78
  go_wp2
  go_end0
  refine ⟨rfl, ⟨hg, fun _ => rfl, none, 0, (hb.put 1 _).put 0 _, Rd.nil _ _, (fun ad e => by cases e), Nat.le_refl _⟩, ?_⟩
  exact ((Only.refl (fun k => k = g) w).setCell (p := ⟨g, 1, none⟩) (.inl rfl) _).setCell (p := ⟨g, 0, none⟩) (.inl rfl) _

/-- k bytes are gone -/
theorem RRd.cut {fp : Nat → Prop} {w : World} {g k d : Nat} {bs : List UInt8} {A B : Option Addr} {c : Nat} (hg : fp g) (hb : Blk w g 83 #[.slice A bs.length c, .bool false]) (hr : Rd w A (bs.map bv)) (ha : ∀ ad, A = some ad → bs ≠ [] → fp ad.block ∧ ad.block ≠ g) (hc : bs.length ≤ c) (hk : k ≤ bs.length)
    (hB : c = k ∨ B = A.map (fun x => x.add k)) (hd : bs.length - k ≤ d) : RRd (w.setCell ⟨g, 0, none⟩ (.slice B (bs.length - k) d)) fp g (bs.drop k) false ∧ Only (fun k => k = g) w (w.setCell ⟨g, 0, none⟩ (.slice B (bs.length - k) d)) := by
  refine ⟨⟨hg, fun h => by simp at h, B, d, ?_, ?_, ?_, by rw [List.length_drop]; omega⟩, (Only.refl (fun k => k = g) w).setCell (p := ⟨g, 0, none⟩) (.inl rfl) _⟩
  · have := hb.put 0 (.slice B (bs.length - k) d)
    rw [List.length_drop]
    exact this
  · rcases hbs : bs.drop k with _ | ⟨x, r⟩
    · exact Rd.nil _ _
    · rcases hB with hB | hB
      · have : bs.drop k = [] := List.drop_eq_nil_iff.2 (by omega)
        rw [this] at hbs; cases hbs
      · subst hB
        have h1 := hr.add k
        rw [← List.map_drop, hbs] at h1
        refine h1.setCell (fun ad e => ?_) _
        have hne : bs ≠ [] := by rintro rfl; simp at hbs
        obtain ⟨a0, e0, rfl⟩ := Option.map_eq_some_iff.1 e
        rw [block_add]
        exact (ha a0 e0 hne).2
  · intro ad e hne
    have hne' : bs ≠ [] := by rintro rfl; simp at hne
    rcases hB with hB | hB
    · exact absurd (List.drop_eq_nil_iff.2 (by omega)) hne
    · rw [hB] at e
      obtain ⟨a0, e0, rfl⟩ := Option.map_eq_some_iff.1 e
      rw [block_add]
      exact ha a0 e0 hne'

set_option maxRecDepth 100000 in
set_option maxHeartbeats 2000000 in
theorem refraw_ok (fp : Nat → Prop) (g : Nat) (bs : List UInt8) (k : Nat) (w : World) (h : RRd w fp g bs false) (hk : k ≤ bs.length) (hb : bs.length ≤ 1099511627776) :
    Calls Tryz.prog 77 #[.pointer (some ⟨g, 0, none⟩), .int .i64 (k : Int)] w fun e w' => ∃ A' c', e = .returned (.slice A' k c') ∧ New w w' A' c' (bs.take k) ∧ RRd w' fp g (bs.drop k) false ∧ Only (fun k => k = g) w w' := by
  obtain ⟨hg, _, A, c, hblk, hr, ha, hc⟩ := h
  have h0 := hblk.cell 0
  have h1 := hblk.cell 1
  simp only [List.getElem?_toArray, List.getElem?_cons_zero, List.getElem?_cons_succ] at h0 h1
  have f0 := hblk.free 0
  have htk : (bs.take k).length = k := by rw [List.length_take]; omega
  have hk1 : 0 + k ≤ maxLen := by unfold maxLen; omega
  have hk2 : (0 + k) * 1 ≤ 140737488355328 := by omega
  have Hk := Lib.hid (show k = ((bs.take k).map bv).length by rw [List.length_map, htk])
  have hrk : Rd w A ((bs.take k).map bv) := by rw [List.map_take]; exact hr.take k
  have hgl := hblk.lt
  clear htk
  go_enter Tryz.func77, Tryz.ntmps77
  go_wp2_with (at_builtin
               refine wpList_app _ (fp := fun k => w.heap.size ≤ k ∧ k < w.heap.size + 1) rfl (.tmp 23) (.tmp 29) _ rfl _ _ 1 Tryz.underlying26 info_u8 rfl (some ⟨w.heap.size, 0, none⟩) 0 0 [] rfl rfl (Own.lit w _ #[] _ (by unfold maxLen; simp) (by omega)) A k c ((bs.take k).map bv) rfl Hk.out (hrk.alloc _) (bvs_one _) hk1 hk2 ?_
               intro A1 c1 w1 hown1 honly1
               have hbel : Below w.heap.size w w1 := ((Below.refl _ _).alloc (Nat.le_refl _) _).trans (honly1.below (fun _ h => h.1) (by simp))
               have hb1 := hblk.ext hbel
               have g0 : w1.cell? ⟨g, 0, none⟩ = some (.slice A bs.length c) := hb1.cell 0
               have g1 : w1.frozen? ⟨g, 0, none⟩ = false := hb1.free 0)
  all_goals
    have hr1 := hr.ext hbel
    have s1 := honly1.size
    rw [World.size_alloc] at s1
    have hnew : New w w1 A1 c1 (bs.take k) := by
      rw [List.nil_append] at hown1
      exact hown1.mono (fun j hj _ => by
        rcases hj with hj | hj
        · exact ⟨hj.1, by omega⟩
        · rw [World.size_alloc] at hj; exact ⟨by omega, hj.2⟩)
    have hfin : ∀ v, New w (w1.setCell ⟨g, 0, none⟩ v) A1 c1 (bs.take k) := fun v => by
      have h1 := Own.setCell hnew (p := ⟨g, 0, none⟩) (fun ad e => by have := (hnew.2 ad e).1; show ad.block ≠ g; omega) v
      exact h1.mono (fun j hj _ => ⟨hj.1, by simpa [World.setCell] using hj.2⟩)
    go_ret
  · have hck : c = k := by assumption
    obtain ⟨q1, q2⟩ := RRd.cut (B := A) (d := 0) hg hb1 hr1 ha hc hk (.inl hck) (by omega)
    exact ⟨A1, c1, rfl, hfin _, q1, (Only.of_ext hbel).trans q2 (fun _ _ h => h)⟩
  · obtain ⟨q1, q2⟩ := RRd.cut (d := c - k) hg hb1 hr1 ha hc hk (.inr rfl) (by omega)
    exact ⟨A1, c1, rfl, hfin _, q1, (Only.of_ext hbel).trans q2 (fun _ _ h => h)⟩

theorem refraw_none (fp : Nat → Prop) (g : Nat) (bs : List UInt8) (v : Int) (w : World) (h : RRd w fp g bs false) (hk : v < 0 ∨ (bs.length : Int) < v) :
    Calls Tryz.prog 77 #[.pointer (some ⟨g, 0, none⟩), .int .i64 v] w fun e w' => e = .returned (.slice none 0 0) ∧ RRd w' fp g [] true ∧ Only (fun k => k = g) w w' := by
  have h' := h
  obtain ⟨hg, _, A, c, hblk, hr, ha, hc⟩ := h
  have h0 := hblk.cell 0
  simp only [List.getElem?_toArray, List.getElem?_cons_zero] at h0
  have hd : (decide (v < 0) || decide ((bs.length : Int) < v)) = true := by simpa using hk
  rcases hk with hk | hk
  · go_enter Tryz.func77, Tryz.ntmps77
    go_wp2_with fail
    refine (refbad fp g bs false _ h').mono ?_
    rintro e w2 ⟨rfl, hrd, ho⟩
    have h1 : w2.cell? ⟨g, 1, none⟩ = some (.bool true) := by obtain ⟨_, _, _, _, hb, _⟩ := hrd; exact hb.cell 1
    go_wp2
    go_ret
    exact ⟨rfl, hrd, ho⟩
  · have hk2 : ¬ v < 0 := by omega
    have hk3 : decide (v < 0) = false := decide_eq_false hk2
    clear hd
    go_enter Tryz.func77, Tryz.ntmps77
    go_wp2_with fail
    refine (refbad fp g bs false _ h').mono ?_
    rintro e w2 ⟨rfl, hrd, ho⟩
    have h1 : w2.cell? ⟨g, 1, none⟩ = some (.bool true) := by obtain ⟨_, _, _, _, hb, _⟩ := hrd; exact hb.cell 1
    go_wp2
    go_ret
    exact ⟨rfl, hrd, ho⟩

/-- behind an error, whatever is asked -/
theorem refraw_dead (fp : Nat → Prop) (g : Nat) (v : Int) (w : World) (h : RRd w fp g [] true) :
    Calls Tryz.prog 77 #[.pointer (some ⟨g, 0, none⟩), .int .i64 v] w fun e w' => e = .returned (.slice none 0 0) ∧ RRd w' fp g [] true ∧ Only (fun k => k = g) w w' := by
  have h' := h
  obtain ⟨hg, _, A, c, hblk, hr, ha, hc⟩ := h
  have h0 := hblk.cell 0
  have h1 := hblk.cell 1
  simp only [List.getElem?_toArray, List.getElem?_cons_zero, List.getElem?_cons_succ, List.length_nil] at h0 h1
  have hcase : v < 0 ∨ 0 < v ∨ v = 0 := by omega
  rcases hcase with hk | hk | rfl
  · go_enter Tryz.func77, Tryz.ntmps77
    go_wp2_with fail
    refine (refbad fp g [] true _ h').mono ?_
    rintro e w2 ⟨rfl, hrd, ho⟩
    have h2 : w2.cell? ⟨g, 1, none⟩ = some (.bool true) := by obtain ⟨_, _, _, _, hb, _⟩ := hrd; exact hb.cell 1
    go_wp2
    go_ret
    exact ⟨rfl, hrd, ho⟩
  · have hk2 : ¬ v < 0 := by omega
    have hk3 : decide (v < 0) = false := decide_eq_false hk2
    go_enter Tryz.func77, Tryz.ntmps77
    go_wp2_with fail
    refine (refbad fp g [] true _ h').mono ?_
    rintro e w2 ⟨rfl, hrd, ho⟩
    have h2 : w2.cell? ⟨g, 1, none⟩ = some (.bool true) := by obtain ⟨_, _, _, _, hb, _⟩ := hrd; exact hb.cell 1
    go_wp2
    go_ret
    exact ⟨rfl, hrd, ho⟩
  · go_enter Tryz.func77, Tryz.ntmps77
    go_wp2
    go_ret
    exact ⟨rfl, h', Only.refl _ _⟩
end Go.Proofs.YtpjgkacekelkdaaGreatDoor

/-
  The contract of winnowerref1's (*Reader).Num. No statement of the seat is proved here.
-/
namespace Go.Proofs.YtpjgkacekelkdaaGreatDoor
open Go Go.RowKit

/-- one byte more of a number in 64 digits, in the walk's own words -/
theorem num_step64 (b : UInt8) (k N : Nat) (hk : k ≤ 8 ∨ (k = 9 ∧ b.toNat ≤ 1)) (hN : N < 128 ^ k) : ∃ m s N' : Nat, (m : Int) ≤ 127 ∧ bits .and .u8 (b.toNat : Int) 127 = (m : Int) ∧ IntKind.u64.wrap ((m : Int) * 2 ^ (7 * k)) = (s : Int) ∧ bits .or .u64 (N : Int) (s : Int) = (N' : Int) ∧
    N' = N + b.toNat % 128 * 128 ^ k ∧ (k ≤ 8 → N' < 128 ^ (k + 1)) ∧ (N' : Int) ≤ 18446744073709551615 := by
  have hb := b.toNat_lt
  have h1 := u8_and_nat b.toNat 127 (by omega) (by omega)
  rw [nat_mask7] at h1
  have e : (128 : Nat) ^ k = 2 ^ (7 * k) := by rw [show (128 : Nat) = 2 ^ 7 from rfl, ← Nat.pow_mul]
  have hm : b.toNat % 128 * 128 ^ k ≤ 127 * 128 ^ k := Nat.mul_le_mul_right _ (by omega)
  have hp : 128 ^ (k + 1) = 128 * 128 ^ k := by rw [Nat.pow_succ, Nat.mul_comm]
  have h9 : (128 : Nat) ^ 9 = 9223372036854775808 := rfl
  have hall : N + b.toNat % 128 * 128 ^ k < 18446744073709551616 ∧ (k ≤ 8 → N + b.toNat % 128 * 128 ^ k < 128 ^ (k + 1)) := by
    rcases hk with hk | ⟨rfl, hb1⟩
    · have hk9 : 128 ^ (k + 1) ≤ 128 ^ 9 := Nat.pow_le_pow_right (by omega) (by omega)
      exact ⟨by omega, fun _ => by omega⟩
    · have : b.toNat % 128 * 128 ^ 9 ≤ 1 * 128 ^ 9 := Nat.mul_le_mul_right _ (by omega)
      exact ⟨by omega, fun h => by omega⟩
  refine ⟨b.toNat % 128, b.toNat % 128 * 128 ^ k, N + b.toNat % 128 * 128 ^ k, by omega, h1, ?_, ?_, rfl, hall.2, by omega⟩
  · have e2 : ((b.toNat % 128 : Nat) : Int) * 2 ^ (7 * k) = ((b.toNat % 128 * 128 ^ k : Nat) : Int) := by
      rw [e, Int.natCast_mul, Int.natCast_pow]; rfl
    rw [e2, IntKind.wrap_u64]
    omega
  · rw [u64_or_nat N _ (by omega) (by omega), Nat.or_comm, nat_join (7 * k) _ N (by rw [e]; exact Nat.mul_mod_left _ _) (by rw [← e]; exact hN), Nat.add_comm]

set_option maxRecDepth 100000 in
set_option maxHeartbeats 4000000 in
theorem refrnum (fp : Nat → Prop) (g : Nat) (bs : List UInt8) (R : Option (Nat × Nat)) (w : World) (h : RRd w fp g bs false) (hR : num? bs = R) (hb : bs.length ≤ 1099511627776) :
    Calls Tryz.prog 40 #[.pointer (some ⟨g, 0, none⟩)] w fun e w' => e = .returned (.int .i64 (resN R : Int)) ∧ RRd w' fp g (restOf bs R) (badOf R) ∧ Only (fun k => k = g) w w' := by
  have HR := Lib.hid hR
  clear hR
  go_enter Tryz.func40, Tryz.ntmps40
  go_wp2
  go_loopw [3, 4] (fun u i wr => ∃ k N : Nat, k ≤ 9 ∧ k ≤ bs.length ∧ i = .int .i64 (k : Int) ∧ u = .int .u64 (N : Int) ∧ N < 128 ^ k ∧ scan k N (bs.drop k) = R ∧ RRd wr fp g (bs.drop k) false ∧ Only (fun k => k = g) w wr) (fun _ i _ => 10 - (intOf i).toNat)
  case atStart => exact ⟨0, 0, by omega, Nat.zero_le _, rfl, rfl, by simp, HR.out, h, Only.refl _ _⟩
  case round =>
    obtain ⟨k, N, hk9, hkl, rfl, rfl, hN, hs, hrd, ho⟩ := hrel
    have Hs := Lib.hid hs
    have HN := Lib.hid hN
    have hki : (k : Int) < 10 := by omega
    clear hs hN
    by_cases hlt : k < bs.length
    · have hd := List.drop_eq_getElem_cons hlt
      have Hd : Hid (scan k N (bs[k] :: bs.drop (k + 1)) = R) := by rw [← hd]; exact Hs.out
      have hcall := refraw_ok fp g (bs.drop k) 1 wr hrd (by simp; omega) (by simp; omega)
      rw [List.drop_drop] at hcall
      rw [show (bs.drop k).take 1 = [bs[k]] by rw [hd]; rfl] at hcall
      have Hcall := Lib.hid hcall
      clear hcall hrd hd Hs
      generalize bs[k] = b at *
      go_wp2_with fail
      refine Hcall.out.mono ?_
      rintro e w1 ⟨A1, c1, rfl, hn1, hrd1, ho1⟩
      have ho' : Only (fun k => k = g) w w1 := ho.trans ho1 (fun _ _ h => h)
      obtain ⟨ad, rfl, hx0⟩ := hn1.rd.at_ (k := 0) (by simp)
      have hx1 : w1.cell? ad = some (.int .u8 (b.toNat : Int)) := by
        have h0' : ad.add 0 = ad := by simp [Addr.add]
        rw [h0'] at hx0
        simpa [bv] using hx0
      have hx2 : w1.cell? (ad.add 0) = some (.int .u8 (b.toNat : Int)) := by simpa [bv] using hx0
      have hbad : w1.cell? ⟨g, 1, none⟩ = some (.bool false) := by obtain ⟨_, _, _, _, hb, _⟩ := hrd1; exact hb.cell 1
      have hb255 : (b.toNat : Int) ≤ 255 := by have := b.toNat_lt; omega
      clear hx0 hn1
      by_cases hk : k ≤ 8
      · have hkn : ((k : Int) == 9) = false := beq_eq_false_iff_ne.2 (by omega)
        obtain ⟨m1, s1, N1, lm, e1, e2, e3, hN1, hN2, lN⟩ := num_step64 b k N (.inl hk) HN.out
        have HN1 := Lib.hid hN1
        have HN2 := Lib.hid (hN2 hk)
        clear hN1 hN2
        by_cases hb1 : 127 < b.toNat
        · have hb2 : (127 : Int) < (b.toNat : Int) := by omega
          go_wp2
          go_roundw
          case rel => exact ⟨k + 1, N1, by omega, by omega, by go_num, rfl, HN2.out, by rw [HN1.out, ← scan_more k N b _ hk hb1]; exact Hd.out, hrd1, ho'⟩
          case measure => simp [intOf]; omega
        · have hb2 : (b.toNat : Int) ≤ 127 := by omega
          have hbn : decide ((127 : Int) < (b.toNat : Int)) = false := decide_eq_false (by omega)
          by_cases g3 : 0 < k ∧ b.toNat = 0
          · have hRn := scan_bad k N b (bs.drop (k + 1)) hk hb1 (.inr g3)
            rw [Hd.out] at hRn
            have HRn := Lib.hid hRn
            have g4 : (0 : Int) < (k : Int) := by omega
            have g4n : decide ((0 : Int) < (k : Int)) = true := decide_eq_true g4
            have g5 : ((b.toNat : Int) == 0) = true := beq_iff_eq.2 (by omega)
            clear hRn g3
            go_wp2_with (go_at_call 78; refine (refbad fp g _ false _ hrd1).mono ?_; rintro e w2 ⟨rfl, hrd2, ho2⟩)
            go_ret
            exact ⟨by rw [HRn.out]; rfl, by rw [HRn.out]; exact hrd2, ho'.trans ho2 (fun _ _ h => h)⟩
          · have g6 : (¬ 0 < k ∧ decide ((0 : Int) < (k : Int)) = false) ∨ (0 < k ∧ ¬ b.toNat = 0 ∧ decide ((0 : Int) < (k : Int)) = true ∧ ((b.toNat : Int) == 0) = false) := by
              by_cases h0 : 0 < k
              · exact .inr ⟨h0, fun h => g3 ⟨h0, h⟩, decide_eq_true (by omega), beq_eq_false_iff_ne.2 (by omega)⟩
              · exact .inl ⟨h0, decide_eq_false (by omega)⟩
            by_cases g1 : 4611686018427387904 < N1
            · have hRn := scan_bad k N b (bs.drop (k + 1)) hk hb1 (.inl (by rw [← HN1.out]; exact g1))
              rw [Hd.out] at hRn
              have HRn := Lib.hid hRn
              have g2 : (4611686018427387904 : Int) < (N1 : Int) := by omega
              have g2n : decide ((4611686018427387904 : Int) < (N1 : Int)) = true := decide_eq_true g2
              clear hRn g3
              rcases g6 with ⟨g8, g6⟩ | ⟨g8, g9, g6, g7⟩
              · go_wp2_with (go_at_call 78; refine (refbad fp g _ false _ hrd1).mono ?_; rintro e w2 ⟨rfl, hrd2, ho2⟩)
                go_ret
                exact ⟨by rw [HRn.out]; rfl, by rw [HRn.out]; exact hrd2, ho'.trans ho2 (fun _ _ h => h)⟩
              · go_wp2_with (go_at_call 78; refine (refbad fp g _ false _ hrd1).mono ?_; rintro e w2 ⟨rfl, hrd2, ho2⟩)
                go_ret
                exact ⟨by rw [HRn.out]; rfl, by rw [HRn.out]; exact hrd2, ho'.trans ho2 (fun _ _ h => h)⟩
            · have hRs := scan_good k N b (bs.drop (k + 1)) hk hb1 (by rw [← HN1.out]; intro h; rcases h with h | h; exact g1 h; exact g3 h)
              rw [Hd.out, ← HN1.out] at hRs
              have HRs := Lib.hid hRs
              have g2 : (N1 : Int) ≤ 4611686018427387904 := by omega
              have g2n : decide ((4611686018427387904 : Int) < (N1 : Int)) = false := decide_eq_false (by omega)
              clear hRs g3
              rcases g6 with ⟨g8, g6⟩ | ⟨g8, g9, g6, g7⟩
              · go_wp2
                go_ret
                exact ⟨by rw [HRs.out]; rfl, by rw [HRs.out]; exact hrd1, ho'⟩
              · go_wp2
                go_ret
                exact ⟨by rw [HRs.out]; rfl, by rw [HRs.out]; exact hrd1, ho'⟩
      · obtain rfl : k = 9 := by omega
        have hRn : R = none := by rw [← Hd.out]; exact scan_nine _ _
        have HRn := Lib.hid hRn
        clear hRn
        by_cases hb1 : 127 < b.toNat
        · have hb2 : (127 : Int) < (b.toNat : Int) := by omega
          have hb3 : decide ((127 : Int) < (b.toNat : Int)) = true := decide_eq_true hb2
          go_wp2_with (go_at_call 78; refine (refbad fp g _ false _ hrd1).mono ?_; rintro e w2 ⟨rfl, hrd2, ho2⟩)
          go_ret
          exact ⟨by rw [HRn.out]; rfl, by rw [HRn.out]; exact hrd2, ho'.trans ho2 (fun _ _ h => h)⟩
        · have hb2 : (b.toNat : Int) ≤ 127 := by omega
          have hb3 : decide ((127 : Int) < (b.toNat : Int)) = false := decide_eq_false (by omega)
          by_cases hb4 : 1 < b.toNat
          · have hb5 : (1 : Int) < (b.toNat : Int) := by omega
            have hb6 : decide ((1 : Int) < (b.toNat : Int)) = true := decide_eq_true hb5
            go_wp2_with (go_at_call 78; refine (refbad fp g _ false _ hrd1).mono ?_; rintro e w2 ⟨rfl, hrd2, ho2⟩)
            go_ret
            exact ⟨by rw [HRn.out]; rfl, by rw [HRn.out]; exact hrd2, ho'.trans ho2 (fun _ _ h => h)⟩
          · have hb5 : (b.toNat : Int) ≤ 1 := by omega
            have hb6 : decide ((1 : Int) < (b.toNat : Int)) = false := decide_eq_false (by omega)
            obtain ⟨m1, s1, N1, lm, e1, e2, e3, hN1, -, lN⟩ := num_step64 b 9 N (.inr ⟨rfl, by omega⟩) HN.out
            have h9 : (128 : Nat) ^ 9 = 9223372036854775808 := rfl
            rw [h9] at hN1
            rw [show (2 : Int) ^ (7 * 9) = 9223372036854775808 from rfl] at e2
            by_cases hb7 : b.toNat = 0
            · have g5 : ((b.toNat : Int) == 0) = true := beq_iff_eq.2 (by omega)
              clear hN1 h9 hb7
              go_wp2_with (go_at_call 78; refine (refbad fp g _ false _ hrd1).mono ?_; rintro e w2 ⟨rfl, hrd2, ho2⟩)
              go_ret
              exact ⟨by rw [HRn.out]; rfl, by rw [HRn.out]; exact hrd2, ho'.trans ho2 (fun _ _ h => h)⟩
            · have g5 : ((b.toNat : Int) == 0) = false := beq_eq_false_iff_ne.2 (by omega)
              have g2 : (4611686018427387904 : Int) < (N1 : Int) := by omega
              have g2n : decide ((4611686018427387904 : Int) < (N1 : Int)) = true := decide_eq_true g2
              clear hN1 h9 hb7
              go_wp2_with (go_at_call 78; refine (refbad fp g _ false _ hrd1).mono ?_; rintro e w2 ⟨rfl, hrd2, ho2⟩)
              go_ret
              exact ⟨by rw [HRn.out]; rfl, by rw [HRn.out]; exact hrd2, ho'.trans ho2 (fun _ _ h => h)⟩
    · have hnil : bs.drop k = [] := List.drop_eq_nil_iff.2 (by omega)
      have hRn : R = none := by rw [← Hs.out, hnil]; rfl
      have HRn := Lib.hid hRn
      rw [hnil] at hrd
      clear hRn hnil
      go_wp2_with fail
      refine (refraw_none fp g [] 1 _ hrd (.inr (by simp))).mono ?_
      rintro e w1 ⟨rfl, hrd1, ho1⟩
      have hbad : w1.cell? ⟨g, 1, none⟩ = some (.bool true) := by obtain ⟨_, _, _, _, hb, _⟩ := hrd1; exact hb.cell 1
      go_wp2
      go_ret
      exact ⟨by rw [HRn.out]; rfl, by rw [HRn.out]; exact hrd1, ho.trans ho1 (fun _ _ h => h)⟩

set_option maxHeartbeats 1000000 in
theorem refrnum_dead (fp : Nat → Prop) (g : Nat) (w : World) (h : RRd w fp g [] true) :
    Calls Tryz.prog 40 #[.pointer (some ⟨g, 0, none⟩)] w fun e w' => e = .returned (.int .i64 0) ∧ RRd w' fp g [] true ∧ Only (fun k => k = g) w w' := by
  go_enter Tryz.func40, Tryz.ntmps40
  go_wp2
  refine wp_loop_rounds 1 ?_
  rw [rounds_succ]
  go_wp2_with fail
  refine (refraw_dead fp g 1 _ h).mono ?_
  rintro e w1 ⟨rfl, hrd1, ho1⟩
  have hbad : w1.cell? ⟨g, 1, none⟩ = some (.bool true) := by obtain ⟨_, _, _, _, hb, _⟩ := hrd1; exact hb.cell 1
  go_wp2
  go_ret
  exact ⟨rfl, hrd1, ho1⟩
end Go.Proofs.YtpjgkacekelkdaaGreatDoor

/-
  The reference's Reader by the same state. No statement of the seat is proved here.
-/
namespace Go.Proofs.YtpjgkacekelkdaaGreatDoor
open Go Go.RowKit

section
variable (fp : Nat → Prop) (g : Nat) (bs : List UInt8) (bad : Bool) (w : World)
theorem refnum_st (h : RRd w fp g bs bad) (hb : bs.length ≤ 1099511627776) :
    Calls Tryz.prog 40 #[.pointer (some ⟨g, 0, none⟩)] w fun e w' => e = .returned (.int .i64 ((stNum bs bad).1 : Int)) ∧ RRd w' fp g (stNum bs bad).2.1 (stNum bs bad).2.2 ∧ Only (fun k => k = g) w w' := by
  cases bad
  · have e : stNum bs false = (resN (num? bs), restOf bs (num? bs), badOf (num? bs)) := rfl
    rw [e]
    exact refrnum fp g bs _ w h rfl hb
  · have e : stNum bs true = (0, [], true) := rfl
    rw [e]
    have hbs : bs = [] := h.2.1 rfl
    subst hbs
    exact refrnum_dead fp g w h
theorem refraw_st (v : Int) (h : RRd w fp g bs bad) (hb : bs.length ≤ 1099511627776) :
    Calls Tryz.prog 77 #[.pointer (some ⟨g, 0, none⟩), .int .i64 v] w fun e w' => ∃ A' c', e = .returned (.slice A' (stRaw bs bad v).1.length c') ∧ New w w' A' c' (stRaw bs bad v).1 ∧ RRd w' fp g (stRaw bs bad v).2.1 (stRaw bs bad v).2.2 ∧ Only (fun k => k = g) w w' := by
  by_cases hc : bad = true ∨ v < 0 ∨ (bs.length : Int) < v
  · have e : stRaw bs bad v = ([], [], true) := by unfold stRaw; rw [if_pos hc]
    rw [e]
    cases bad
    · refine (refraw_none fp g bs v w h (by rcases hc with hc | hc; cases hc; exact hc)).mono ?_
      rintro e w' ⟨rfl, h1, h2⟩
      exact ⟨none, 0, rfl, Own.none_ _ _ _, h1, h2⟩
    · have hbs : bs = [] := h.2.1 rfl
      subst hbs
      refine (refraw_dead fp g v w h).mono ?_
      rintro e w' ⟨rfl, h1, h2⟩
      exact ⟨none, 0, rfl, Own.none_ _ _ _, h1, h2⟩
  · have e : stRaw bs bad v = (bs.take v.toNat, bs.drop v.toNat, false) := by unfold stRaw; rw [if_neg hc]
    have hbad : bad = false := by cases bad; rfl; exact absurd (.inl rfl) hc
    subst hbad
    rw [e]
    obtain ⟨k, rfl⟩ := Int.eq_ofNat_of_zero_le (show 0 ≤ v by omega)
    have hk : k ≤ bs.length := by omega
    refine (refraw_ok fp g bs k w h hk hb).mono ?_
    rintro e w' ⟨A', c', rfl, h1, h2, h3⟩
    refine ⟨A', c', ?_, h1, h2, h3⟩
    rw [show (bs.take (k : Int).toNat).length = k by rw [Int.toNat_natCast, List.length_take]; omega]
theorem refbytes_st (h : RRd w fp g bs bad) (hb : bs.length ≤ 1099511627776) :
    Calls Tryz.prog 42 #[.pointer (some ⟨g, 0, none⟩)] w fun e w' => ∃ A' c', e = .returned (.slice A' (stBytes bs bad).1.length c') ∧ New w w' A' c' (stBytes bs bad).1 ∧ RRd w' fp g (stBytes bs bad).2.1 (stBytes bs bad).2.2 ∧ Only (fun k => k = g) w w' := by
  have hl := stNum_len bs bad
  have hn := stNum_le bs bad
  obtain ⟨b2, hb2⟩ : ∃ b2, (stNum bs bad).2.2 = b2 := ⟨_, rfl⟩
  cases b2
  · have Hb2 := Lib.hid hb2
    clear hb2
    go_enter Tryz.func42, Tryz.ntmps42
    go_wp2_with fail
    refine (refnum_st fp g bs bad _ h hb).mono ?_
    rintro e w1 ⟨rfl, h1, o1⟩
    have hc1 : w1.cell? ⟨g, 1, none⟩ = some (.bool false) := by
      obtain ⟨_, _, _, _, hb, _⟩ := h1
      rw [Hb2.out] at hb
      exact hb.cell 1
    go_wp2_with fail
    refine (refraw_st fp g _ _ _ _ h1 (by omega)).mono ?_
    rintro e w2 ⟨A', c', rfl, hnew, h2, o2⟩
    go_wp2
    go_ret
    exact ⟨A', c', rfl, hnew.back o1.size, h2, o1.trans o2 (fun _ _ h => h)⟩
  · have e : stBytes bs bad = ([], [], true) := by unfold stBytes stRaw; rw [if_pos (.inl hb2)]
    rw [e]
    have Hb2 := Lib.hid hb2
    clear hb2
    go_enter Tryz.func42, Tryz.ntmps42
    go_wp2_with fail
    refine (refnum_st fp g bs bad _ h hb).mono ?_
    rintro e w1 ⟨rfl, h1, o1⟩
    rw [Hb2.out] at h1
    have hc1 : w1.cell? ⟨g, 1, none⟩ = some (.bool true) := by obtain ⟨_, _, _, _, hb, _⟩ := h1; exact hb.cell 1
    have hnil : (stNum bs bad).2.1 = [] := h1.2.1 rfl
    rw [hnil] at h1
    clear hnil
    go_wp2
    go_ret
    exact ⟨none, 0, rfl, Own.none_ _ _ _, h1, o1⟩
end
end Go.Proofs.YtpjgkacekelkdaaGreatDoor

/-
  What the arguments of the laws read as, in this seat's words for memory (numbers, bytes); how a law's contract closes its statement. No statement of the seat is proved here.
-/
namespace Go.Proofs.YtpjgkacekelkdaaGreatDoor
open Go Go.ChangeShapes Go.WideShapes Go.ChangeAt Go.RowKit

theorem cells_u8 : Tryz.prog.cellsOf 5 = 1 := by kernel_rfl
theorem cells_int : Tryz.prog.cellsOf 3 = 1 := by kernel_rfl

section
variable {H : Type} {enc : TypeId × Value → H} {W : World} {base : Nat}
theorem bv_of {z : Int} (h : (Lit.int .u8 z).wf = true) : Value.int .u8 z = bv z.toNat.toUInt8 := by
  have h1 : IntKind.u8.min = 0 := rfl
  have h2 : IntKind.u8.max = 255 := rfl
  simp only [Lit.wf, Bool.and_eq_true, decide_eq_true_eq] at h
  unfold bv
  rw [show (z.toNat.toUInt8.toNat : Int) = z by simp [Nat.toUInt8, UInt8.toNat_ofNat']; omega]

/-- the bytes that numbers are -/
def toBytes (zs : List Int) : List UInt8 := zs.map fun z => z.toNat.toUInt8

theorem rd_bytes {a : Addr} {len : Nat} {zs : List Int} (hl : len ≤ zs.length) (hc : ∀ i, i < zs.length → W.cell? (a.add i) = some (.int .u8 (zs.getD i 0))) (hw : ∀ n ∈ zs, (Lit.int .u8 n).wf = true) :
    Rd W (some a) ((toBytes (zs.take len)).map bv) := by
  intro j u hu
  have hj : j < len := by
    have := (List.getElem?_eq_some_iff.1 hu).1
    simp [toBytes] at this; omega
  refine ⟨a, rfl, ?_⟩
  rw [hc j (by omega), ← hu]
  have hz : zs.getD j 0 = zs[j]'(by omega) := by simp [List.getD, show j < zs.length by omega]
  rw [hz, bv_of (hw _ (List.getElem_mem _))]
  simp [toBytes, hj, show j < zs.length by omega]

set_option maxRecDepth 100000 in
theorem arg_bytes {v : Value} {d : DataW H} {p : List MemPlace} (hv : Value.okWide Tryz.prog W .any base 26 v) (h : DataW.Trod enc Tryz.prog W 0 (fun _ => true) true 26 v d p) :
    ∃ (A : Option Addr) (n c : Nat) (xs : List UInt8), v = .slice A n c ∧ n = xs.length ∧ xs.length ≤ c ∧ c ≤ maxLen ∧ Rd W A (xs.map bv) := by
  obtain ⟨a0, len, cap, rfl⟩ := okWide_slice Tryz.underlying26 hv
  obtain ⟨fuel, hf⟩ := h
  rcases open_ints Tryz.underlying26 Tryz.underlying5 cells_u8 hf with ⟨hcs, hx⟩ | ⟨a, len', cap', zs, hcs, _, hl, hm, hz, hx, hcell, hwz⟩
  · simp [Value.cells] at hcs
    obtain ⟨rfl, rfl, rfl⟩ := hcs
    exact ⟨none, 0, 0, [], rfl, rfl, Nat.le_refl _, Nat.zero_le _, Rd.nil _ _⟩
  · simp [Value.cells] at hcs
    obtain ⟨rfl, rfl, rfl⟩ := hcs
    simp only [if_true] at hz
    exact ⟨some a, len, cap, toBytes (zs.take len), rfl, by simp [toBytes]; omega, by simp [toBytes]; omega, hm, rd_bytes (by omega) hcell hwz⟩

end

end Go.Proofs.YtpjgkacekelkdaaGreatDoor
