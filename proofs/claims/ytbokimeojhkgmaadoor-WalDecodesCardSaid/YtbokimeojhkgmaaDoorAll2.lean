/-
  Texts of this claim, joined (part 2): contracts and lemmas that the last text goes by. No statement of the seat is proved here.
-/
import Derived.Test.YtbokimeojhkgmaaDoorAll1
import Derived.Test.YtbokimeojhkgmaaDoorAll0
set_option linter.unusedVariables false
set_option linter.unusedSimpArgs false
/-
  The contracts of octet's NewReader and of Reader's Good, Bad, Raw. No statement of the seat is proved here.
-/
namespace Go.Proofs.YtbokimeojhkgmaaDoor
open Go Go.RowKit

/-- A Reader in block 'g': 'bs' is left of it; has it erred?; what it holds lies in 'fp'. -/
def Rdr (w : World) (fp : Nat → Prop) (g : Nat) (bs : List UInt8) (bad : Bool) : Prop :=
  fp g ∧ (bad = true → bs = []) ∧ ∃ A c, Blk w g 91 #[.slice A bs.length c, .bool bad] ∧ Rd w A (bs.map bv) ∧ (∀ ad, A = some ad → bs ≠ [] → fp ad.block ∧ ad.block ≠ g) ∧ bs.length ≤ c

section
variable {S fp fp' : Nat → Prop} {w w' : World} {g : Nat} {bs : List UInt8} {bad : Bool}
theorem Rdr.lt (h : Rdr w fp g bs bad) : g < w.heap.size := by
  obtain ⟨_, _, _, _, hb, _⟩ := h
  exact hb.lt
theorem Rdr.only (h : Rdr w fp g bs bad) (ho : Only S w w') (hn : ∀ k, fp k → ¬ S k) : Rdr w' fp g bs bad := by
  obtain ⟨h1, h2, A, c, hb, hr, ha, hc⟩ := h
  exact ⟨h1, h2, A, c, hb.only ho (hn _ h1), hr.only ho (fun ad e hne => hn _ (ha ad e (by intro h; exact hne (by rw [h]; rfl))).1), ha, hc⟩
theorem Rdr.ext (h : Rdr w fp g bs bad) (hb : Below w.heap.size w w') : Rdr w' fp g bs bad := by
  obtain ⟨h1, h2, A, c, hb1, hr, ha, hc⟩ := h
  exact ⟨h1, h2, A, c, hb1.ext hb, hr.ext hb, ha, hc⟩
theorem Rdr.drewN (h : Rdr w fp g bs bad) (n : Nat) : Rdr (w.drewN n) fp g bs bad := h
theorem Rdr.mono (h : Rdr w fp g bs bad) (hs : ∀ k, fp k → k < w.heap.size → fp' k) : Rdr w fp' g bs bad := by
  obtain ⟨h1, h2, A, c, hb1, hr, ha, hc⟩ := h
  refine ⟨hs _ h1 hb1.lt, h2, A, c, hb1, hr, fun ad e hne => ?_, hc⟩
  obtain ⟨ad', e', hcell⟩ := hr.at_ (k := 0) (by have := List.length_pos_iff.2 hne; simpa using this)
  rw [e] at e'; injection e' with e'; subst e'
  have hl := World.block_lt_of_cell? w _ hcell
  rw [block_add] at hl
  exact ⟨hs _ (ha ad e hne).1 hl, (ha ad e hne).2⟩
end

theorem rgood (fp : Nat → Prop) (g : Nat) (bs : List UInt8) (bad : Bool) (w : World) (h : Rdr w fp g bs bad) :
    Calls Tryd.prog 34 #[.pointer (some ⟨g, 0, none⟩)] w fun e w' => e = .returned (.bool (!bad)) ∧ w = w' := by
  obtain ⟨_, _, A, c, hb, _⟩ := h
  have h1 := hb.cell 1
  simp only [List.getElem?_toArray, List.getElem?_cons_zero, List.getElem?_cons_succ] at h1
  go_enter Tryd.func34, Tryd.ntmps34
  go_wp2
  go_ret
  exact ⟨rfl, rfl⟩
theorem rbad (fp : Nat → Prop) (g : Nat) (bs : List UInt8) (bad : Bool) (w : World) (h : Rdr w fp g bs bad) :
    Calls Tryd.prog 52 #[.pointer (some ⟨g, 0, none⟩)] w fun e w' => e = .returned (.tuple #[]) ∧ Rdr w' fp g [] true ∧ Only (fun k => k = g) w w' := by
  obtain ⟨hg, _, A, c, hb, _⟩ := h
  have h0 := hb.cell 0
  have h1 := hb.cell 1
  simp only [List.getElem?_toArray, List.getElem?_cons_zero, List.getElem?_cons_succ] at h0 h1
  have f0 := hb.free 0
  have f1 := hb.free 1
  go_enter Tryd.func52, Tryd.ntmps52
  go_wp2
  go_end0
  refine ⟨rfl, ⟨hg, fun _ => rfl, none, 0, (hb.put 0 _).put 1 _, Rd.nil _ _, (fun ad e => by cases e), Nat.le_refl _⟩, ?_⟩
  exact ((Only.refl (fun k => k = g) w).setCell (p := ⟨g, 0, none⟩) (.inl rfl) _).setCell (p := ⟨g, 1, none⟩) (.inl rfl) _

theorem Rd.add {w : World} {A : Option Addr} {xs : List Value} (h : Rd w A xs) (k : Nat) : Rd w (A.map fun x => x.add k) (xs.drop k) := fun j u hu => by
  rw [List.getElem?_drop] at hu
  obtain ⟨ad, rfl, hc⟩ := h _ u hu
  exact ⟨ad.add k, rfl, by rw [add_add_]; exact hc⟩

/-- the Reader takes what stands at the beginning: k bytes are gone -/
theorem Rdr.cut {fp : Nat → Prop} {w : World} {g k d : Nat} {bs : List UInt8} {A B : Option Addr} {c : Nat} (hg : fp g) (hb : Blk w g 91 #[.slice A bs.length c, .bool false]) (hr : Rd w A (bs.map bv)) (ha : ∀ ad, A = some ad → bs ≠ [] → fp ad.block ∧ ad.block ≠ g) (hc : bs.length ≤ c) (hk : k ≤ bs.length)
    (hB : c = k ∨ B = A.map (fun x => x.add k)) (hd : bs.length - k ≤ d) : Rdr (w.setCell ⟨g, 0, none⟩ (.slice B (bs.length - k) d)) fp g (bs.drop k) false ∧ Only (fun k => k = g) w (w.setCell ⟨g, 0, none⟩ (.slice B (bs.length - k) d)) := by
  refine ⟨⟨hg, fun h => by simp at h, B, d, ?_, ?_, ?_, by rw [List.length_drop]; omega⟩, (Only.refl (fun k => k = g) w).setCell (p := ⟨g, 0, none⟩) (.inl rfl) _⟩
  · have := hb.put 0 (.slice B (bs.length - k) d)
    rw [List.length_drop]
    exact this
  · rcases hbs : bs.drop k with _ | ⟨x, r⟩
    · exact Rd.nil _ _
    · rcases hB with hB | hB
      · have : bs.drop k = [] := List.drop_eq_nil_iff.2 (by omega)
        rw [this] at hbs; cases hbs
      · subst hB
        have h1 := hr.add k
        rw [← List.map_drop, hbs] at h1
        refine h1.setCell (fun ad e => ?_) _
        have hne : bs ≠ [] := by rintro rfl; simp at hbs
        obtain ⟨a0, e0, rfl⟩ := Option.map_eq_some_iff.1 e
        rw [block_add]
        exact (ha a0 e0 hne).2
  · intro ad e hne
    have hne' : bs ≠ [] := by rintro rfl; simp at hne
    rcases hB with hB | hB
    · exact absurd (List.drop_eq_nil_iff.2 (by omega)) hne
    · rw [hB] at e
      obtain ⟨a0, e0, rfl⟩ := Option.map_eq_some_iff.1 e
      rw [block_add]
      exact ha a0 e0 hne'

set_option maxHeartbeats 1000000 in
theorem newreader (A : Option Addr) (n c : Nat) (bs : List UInt8) (w : World) (hn : n = bs.length) (hc : bs.length ≤ c) (hr : Rd w A (bs.map bv)) (hb : bs.length ≤ 1099511627776) :
    Calls Tryd.prog 32 #[.slice A n c] w fun e w' => ∃ g, e = .returned (.pointer (some ⟨g, 0, none⟩)) ∧ Rdr w' (fun k => w.heap.size ≤ k ∧ k < w'.heap.size) g bs false ∧ Below w.heap.size w w' := by
  subst hn
  go_enter Tryd.func32, Tryd.ntmps32
  go_wp2_with fail
  refine (join_any _ 1 1 [bs] bs _ rfl (by simp) (RowsF.one (RdF.of hr) hc _ rfl id) hb (by simp)).mono ?_
  rintro e w1 ⟨A1, c1, rfl, hnew, hbel⟩
  go_wp2
  go_ret
  have hs1 := hbel.size
  rw [World.size_alloc] at hs1
  refine ⟨w1.heap.size, rfl, ⟨?_, fun h => by simp at h, A1, c1, Blk.new _ _ _, hnew.rd.alloc _, fun ad e _ => ?_, ?_⟩, ?_⟩
  · rw [World.size_alloc]; omega
  · rcases Own.some_ hnew with ⟨h, _⟩ | ⟨g, h, hf, hl⟩
    · rw [h] at e; cases e
    · rw [h] at e; injection e with e; subst e
      rw [World.size_alloc] at hf ⊢
      show (_ ≤ g ∧ g < _) ∧ g ≠ _
      omega
  · have := Own.cap hnew; simpa using this
  · exact (((Below.refl _ _).alloc (Nat.le_refl _) _).trans (hbel.mono (by simp))).alloc (by omega) _

set_option maxHeartbeats 1000000 in
/-- Raw: so many bytes, or an error -/
theorem rraw_ok (fp : Nat → Prop) (g : Nat) (bs : List UInt8) (k : Nat) (w : World) (h : Rdr w fp g bs false) (hk : k ≤ bs.length) (hb : bs.length ≤ 1099511627776) :
    Calls Tryd.prog 53 #[.pointer (some ⟨g, 0, none⟩), .int .i64 (k : Int)] w fun e w' => ∃ A' c', e = .returned (.slice A' k c') ∧ New w w' A' c' (bs.take k) ∧ Rdr w' fp g (bs.drop k) false ∧ Only (fun k => k = g) w w' := by
  have h' := h
  obtain ⟨hg, _, A, c, hblk, hr, ha, hc⟩ := h
  have h0 := hblk.cell 0
  have h1 := hblk.cell 1
  simp only [List.getElem?_toArray, List.getElem?_cons_zero, List.getElem?_cons_succ] at h0 h1
  have f0 := hblk.free 0
  go_enter Tryd.func53, Tryd.ntmps53
  go_wp2_with fail
  refine (rgood fp g bs false _ h').mono ?_
  rintro e w' ⟨rfl, rfl⟩
  have htk : (bs.take k).length = k := by rw [List.length_take]; omega
  have hrow : RowsF (fun _ => False) (w.alloc (.cells #[.slice A (bs.take k).length c] 26)) (some ⟨w.heap.size, 0, none⟩) [bs.take k] :=
    RowsF.one (RdF.of (by rw [List.map_take]; exact hr.take k)) (by rw [htk]; omega) _ rfl id
  rw [htk] at hrow
  have Htk := Lib.hid htk
  clear htk
  go_wp2_with fail
  refine (join_any _ 1 1 [bs.take k] (bs.take k) _ rfl (by simp) hrow (by rw [Htk.out]; omega) (by simp)).mono ?_
  rw [Htk.out]
  rintro e w1 ⟨A1, c1, rfl, hnew, hbel⟩
  have hbel' : Below w.heap.size w w1 := ((Below.refl _ _).alloc (Nat.le_refl _) _).trans (hbel.mono (by simp))
  have hnew' : New w w1 A1 c1 (bs.take k) := hnew.back (by simp)
  have hb1 := hblk.ext hbel'
  have hr1 := hr.ext hbel'
  have g0 := hb1.cell 0
  simp only [List.getElem?_toArray, List.getElem?_cons_zero] at g0
  have g1 := hb1.free 0
  have hgl := hblk.lt
  have hfin : ∀ v, New w (w1.setCell ⟨g, 0, none⟩ v) A1 c1 (bs.take k) := fun v => by
    have h1 := Own.setCell hnew' (p := ⟨g, 0, none⟩) (fun ad e => by have := (hnew'.2 ad e).1; show ad.block ≠ g; omega) v
    exact h1.mono (fun j hj _ => ⟨hj.1, by simpa [World.setCell] using hj.2⟩)
  clear hrow hnew
  go_wp2
  · have hck : c = k := by assumption
    go_ret
    obtain ⟨q1, q2⟩ := Rdr.cut (B := A) (d := 0) hg hb1 hr1 ha hc hk (.inl hck) (by omega)
    exact ⟨A1, c1, rfl, hfin _, q1, (Only.of_ext hbel').trans q2 (fun _ _ h => h)⟩
  · go_ret
    obtain ⟨q1, q2⟩ := Rdr.cut (d := c - k) hg hb1 hr1 ha hc hk (.inr rfl) (by omega)
    exact ⟨A1, c1, rfl, hfin _, q1, (Only.of_ext hbel').trans q2 (fun _ _ h => h)⟩
theorem rraw_none (fp : Nat → Prop) (g : Nat) (bs : List UInt8) (v : Int) (w : World) (h : Rdr w fp g bs false) (_ : isInt v) (hk : v < 0 ∨ (bs.length : Int) < v) (hb : bs.length ≤ 1099511627776) :
    Calls Tryd.prog 53 #[.pointer (some ⟨g, 0, none⟩), .int .i64 v] w fun e w' => e = .returned (.slice none 0 0) ∧ Rdr w' fp g [] true ∧ Only (fun k => k = g) w w' := by
  have h' := h
  obtain ⟨hg, _, A, c, hblk, hr, ha, hc⟩ := h
  have h0 := hblk.cell 0
  simp only [List.getElem?_toArray, List.getElem?_cons_zero] at h0
  rcases hk with hk | hk
  · go_enter Tryd.func53, Tryd.ntmps53
    go_wp2_with fail
    refine (rgood fp g bs false _ h').mono ?_
    rintro e w' ⟨rfl, rfl⟩
    go_wp2_with fail
    refine (rbad fp g bs false _ h').mono ?_
    rintro e w2 ⟨rfl, hrd, ho⟩
    go_wp2
    go_ret
    exact ⟨rfl, hrd, ho⟩
  · have hk2 : ¬ v < 0 := by omega
    have hk3 : decide (v < 0) = false := decide_eq_false hk2
    go_enter Tryd.func53, Tryd.ntmps53
    go_wp2_with fail
    refine (rgood fp g bs false _ h').mono ?_
    rintro e w' ⟨rfl, rfl⟩
    go_wp2_with fail
    refine (rbad fp g bs false _ h').mono ?_
    rintro e w2 ⟨rfl, hrd, ho⟩
    go_wp2
    go_ret
    exact ⟨rfl, hrd, ho⟩
theorem rraw_dead (fp : Nat → Prop) (g : Nat) (bs : List UInt8) (v : Int) (w : World) (h : Rdr w fp g bs true) :
    Calls Tryd.prog 53 #[.pointer (some ⟨g, 0, none⟩), .int .i64 v] w fun e w' => e = .returned (.slice none 0 0) ∧ w = w' := by
  go_enter Tryd.func53, Tryd.ntmps53
  go_wp2_with fail
  refine (rgood fp g bs true _ h).mono ?_
  rintro e w' ⟨rfl, rfl⟩
  go_wp2
  go_ret
  exact ⟨rfl, rfl⟩
end Go.Proofs.YtbokimeojhkgmaaDoor

/-
  The contracts of octet's NewReader, firstNum and Reader. No statement of the seat is proved here.
-/
namespace Go.Proofs.YtbokimeojhkgmaaDoor
open Go Go.RowKit

theorem i64_or_nat (a b : Nat) (ha : a < 9223372036854775808) (hb : b < 9223372036854775808) : bits .or .i64 (a : Int) (b : Int) = ((a ||| b : Nat) : Int) := by
  have hx : a ||| b < 2 ^ 63 := Nat.or_lt_two_pow (by omega) (by omega)
  show IntKind.i64.wrap ((BitVec.ofInt 64 (a : Int) ||| BitVec.ofInt 64 (b : Int)).toNat : Int) = _
  rw [BitVec.toNat_or, ofInt_u64 a (by omega), ofInt_u64 b (by omega), IntKind.wrap_i64]
  omega

/-- one byte more of a number, in the walk's own words -/
theorem num_step (b : UInt8) (k N : Nat) (hk : k ≤ 8) (hN : N < 128 ^ k) : ∃ m s N' : Nat, (m : Int) ≤ 127 ∧ bits .and .u8 (b.toNat : Int) 127 = (m : Int) ∧ wrap64 ((m : Int) * 2 ^ (7 * k)) = (s : Int) ∧ bits .or .i64 (N : Int) (s : Int) = (N' : Int) ∧
    N' = N + b.toNat % 128 * 128 ^ k ∧ N' < 128 ^ (k + 1) ∧ (N' : Int) ≤ 9223372036854775807 := by
  have hb := b.toNat_lt
  have h1 := u8_and_nat b.toNat 127 (by omega) (by omega)
  rw [nat_mask7] at h1
  have e : (128 : Nat) ^ k = 2 ^ (7 * k) := by rw [show (128 : Nat) = 2 ^ 7 from rfl, ← Nat.pow_mul]
  have hm : b.toNat % 128 * 128 ^ k ≤ 127 * 128 ^ k := Nat.mul_le_mul_right _ (by omega)
  have hp : 128 ^ (k + 1) = 128 * 128 ^ k := by rw [Nat.pow_succ, Nat.mul_comm]
  have hk9 : 128 ^ (k + 1) ≤ 128 ^ 9 := Nat.pow_le_pow_right (by omega) (by omega)
  have h9 : (128 : Nat) ^ 9 = 9223372036854775808 := rfl
  have hlt : N + b.toNat % 128 * 128 ^ k < 128 ^ (k + 1) := by omega
  refine ⟨b.toNat % 128, b.toNat % 128 * 128 ^ k, N + b.toNat % 128 * 128 ^ k, by omega, h1, ?_, ?_, rfl, hlt, by omega⟩
  · have e2 : ((b.toNat % 128 : Nat) : Int) * 2 ^ (7 * k) = ((b.toNat % 128 * 128 ^ k : Nat) : Int) := by
      rw [e, Int.natCast_mul, Int.natCast_pow]; rfl
    rw [e2, IntWalk.wrap64_in _ ⟨by omega, by omega⟩]
  · rw [i64_or_nat N _ (by omega) (by omega), Nat.or_comm, nat_join (7 * k) _ N (by rw [e]; exact Nat.mul_mod_left _ _) (by rw [← e]; exact hN), Nat.add_comm]

theorem scan_more (i n : Nat) (c : UInt8) (r : List UInt8) (hi : i ≤ 8) (h : 127 < c.toNat) : scan i n (c :: r) = scan (i + 1) (n + c.toNat % 128 * 128 ^ i) r := by rw [scan, if_neg (by omega), if_pos h]
theorem scan_bad (i n : Nat) (c : UInt8) (r : List UInt8) (hi : i ≤ 8) (h : ¬ 127 < c.toNat) (hb : 4611686018427387904 < n + c.toNat % 128 * 128 ^ i ∨ (0 < i ∧ c.toNat = 0)) : scan i n (c :: r) = none := by rw [scan, if_neg (by omega), if_neg h, if_pos hb]
theorem scan_good (i n : Nat) (c : UInt8) (r : List UInt8) (hi : i ≤ 8) (h : ¬ 127 < c.toNat) (hb : ¬ (4611686018427387904 < n + c.toNat % 128 * 128 ^ i ∨ (0 < i ∧ c.toNat = 0))) : scan i n (c :: r) = some (n + c.toNat % 128 * 128 ^ i, i + 1) := by rw [scan, if_neg (by omega), if_neg h, if_neg hb]
theorem scan_nine (n : Nat) (xs : List UInt8) : scan 9 n xs = none := by cases xs <;> simp [scan]

set_option maxRecDepth 100000 in
set_option maxHeartbeats 4000000 in
theorem first_any (A : Option Addr) (n c : Nat) (xs : List UInt8) (R : Option (Nat × Nat)) (w : World) (hn : n = xs.length) (hc : xs.length ≤ c) (hr : Rd w A (xs.map bv)) (hR : num? xs = R) (hb : xs.length ≤ 1099511627776) :
    Calls Tryd.prog 51 #[.slice A n c] w fun e w' => e = .returned (.tuple #[.int .i64 (resN R : Int), .int .i64 (resK R : Int)]) ∧ w = w' := by
  subst hn
  have HR := Lib.hid hR
  clear hR
  by_cases hlen : xs.length ≤ 9
  · go_enter Tryd.func51, Tryd.ntmps51
    go_wp2
    go_loop [2, 12] (fun s i => ∃ k N : Nat, k ≤ xs.length ∧ i = .int .i64 (k : Int) ∧ s = .int .i64 (N : Int) ∧ N < 128 ^ k ∧ scan k N (xs.drop k) = R) (fun _ i => xs.length - (intOf i).toNat)
    case atStart => exact ⟨0, 0, Nat.zero_le _, rfl, rfl, by simp, HR.out⟩
    case round =>
      obtain ⟨k, N, hk, rfl, rfl, hN, hs⟩ := hrel
      have Hs := Lib.hid hs
      have HN := Lib.hid hN
      clear hs hN
      by_cases hlt : k < xs.length
      · have hlt' : k < xs.length := by omega
        obtain ⟨ad, rfl, hc1⟩ := hr.at_ (k := k) (by simpa using hlt')
        simp only [List.getElem_map, bv] at hc1
        have hk8 : k ≤ 8 := by omega
        obtain ⟨m1, s1, N1, lm, e1, e2, e3, hN1, hN2, lN⟩ := num_step xs[k] k N hk8 HN.out
        have hd := List.drop_eq_getElem_cons hlt'
        have Hd : Hid (scan k N (xs[k] :: xs.drop (k + 1)) = R) := by rw [← hd]; exact Hs.out
        have HN1 := Lib.hid hN1
        have HN2 := Lib.hid hN2
        clear hd hN1 hN2
        generalize xs[k] = b at *
        by_cases hb1 : 127 < b.toNat
        · have hb2 : (127 : Int) < (b.toNat : Int) := by omega
          go_wp2
          go_round
          case rel => exact ⟨k + 1, N1, by omega, by go_num, rfl, HN2.out, by rw [HN1.out, ← scan_more k N b _ hk8 hb1]; exact Hd.out⟩
          case measure => simp [intOf]; omega
        · have hb2 : (b.toNat : Int) ≤ 127 := by omega
          have hbn : decide ((127 : Int) < (b.toNat : Int)) = false := decide_eq_false (by omega)
          by_cases g1 : 4611686018427387904 < N1
          · have hRn := scan_bad k N b (xs.drop (k + 1)) hk8 hb1 (.inl (by rw [← HN1.out]; exact g1))
            rw [Hd.out] at hRn
            have HRn := Lib.hid hRn
            have g2 : (4611686018427387904 : Int) < (N1 : Int) := by omega
            clear hRn
            go_wp2
            go_ret2
            exact ⟨by rw [HRn.out]; rfl, rfl⟩
          · have g2 : (N1 : Int) ≤ 4611686018427387904 := by omega
            have g2n : decide ((4611686018427387904 : Int) < (N1 : Int)) = false := decide_eq_false (by omega)
            by_cases g3 : 0 < k ∧ b.toNat = 0
            · have hRn := scan_bad k N b (xs.drop (k + 1)) hk8 hb1 (.inr g3)
              rw [Hd.out] at hRn
              have HRn := Lib.hid hRn
              have g4 : (0 : Int) < (k : Int) := by omega
              have g4n : decide ((0 : Int) < (k : Int)) = true := decide_eq_true g4
              have g5 : ((b.toNat : Int) == 0) = true := beq_iff_eq.2 (by omega)
              clear hRn g3
              go_wp2
              go_ret2
              exact ⟨by rw [HRn.out]; rfl, rfl⟩
            · have hRs := scan_good k N b (xs.drop (k + 1)) hk8 hb1 (by rw [← HN1.out]; intro h; rcases h with h | h; exact g1 h; exact g3 h)
              rw [Hd.out, ← HN1.out] at hRs
              have HRs := Lib.hid hRs
              by_cases g4 : 0 < k
              · have g4i : (0 : Int) < (k : Int) := by omega
                have g4n : decide ((0 : Int) < (k : Int)) = true := decide_eq_true g4i
                have g5 : ((b.toNat : Int) == 0) = false := beq_eq_false_iff_ne.2 (by omega)
                clear hRs g3
                go_wp2
                go_ret2
                exact ⟨by rw [HRs.out]; rfl, rfl⟩
              · have g4n : decide ((0 : Int) < (k : Int)) = false := decide_eq_false (by omega)
                clear hRs g3
                go_wp2
                go_ret2
                exact ⟨by rw [HRs.out]; rfl, rfl⟩
      · obtain rfl : k = xs.length := by omega
        have hRn : R = none := by
          rw [← Hs.out]; rw [List.drop_length]; rfl
        have HRn := Lib.hid hRn
        clear hRn
        go_wp2
        go_ret2
        exact ⟨by rw [HRn.out]; rfl, rfl⟩
  · go_enter Tryd.func51, Tryd.ntmps51
    go_wp2
    go_loop [2, 12] (fun s i => ∃ k N : Nat, k ≤ 9 ∧ i = .int .i64 (k : Int) ∧ s = .int .i64 (N : Int) ∧ N < 128 ^ k ∧ scan k N (xs.drop k) = R) (fun _ i => 9 - (intOf i).toNat)
    case atStart => exact ⟨0, 0, Nat.zero_le _, rfl, rfl, by simp, HR.out⟩
    case round =>
      obtain ⟨k, N, hk, rfl, rfl, hN, hs⟩ := hrel
      have Hs := Lib.hid hs
      have HN := Lib.hid hN
      clear hs hN
      by_cases hlt : k < 9
      · have hlt' : k < xs.length := by omega
        obtain ⟨ad, rfl, hc1⟩ := hr.at_ (k := k) (by simpa using hlt')
        simp only [List.getElem_map, bv] at hc1
        have hk8 : k ≤ 8 := by omega
        obtain ⟨m1, s1, N1, lm, e1, e2, e3, hN1, hN2, lN⟩ := num_step xs[k] k N hk8 HN.out
        have hd := List.drop_eq_getElem_cons hlt'
        have Hd : Hid (scan k N (xs[k] :: xs.drop (k + 1)) = R) := by rw [← hd]; exact Hs.out
        have HN1 := Lib.hid hN1
        have HN2 := Lib.hid hN2
        clear hd hN1 hN2
        generalize xs[k] = b at *
        by_cases hb1 : 127 < b.toNat
        · have hb2 : (127 : Int) < (b.toNat : Int) := by omega
          go_wp2
          go_round
          case rel => exact ⟨k + 1, N1, by omega, by go_num, rfl, HN2.out, by rw [HN1.out, ← scan_more k N b _ hk8 hb1]; exact Hd.out⟩
          case measure => simp [intOf]; omega
        · have hb2 : (b.toNat : Int) ≤ 127 := by omega
          have hbn : decide ((127 : Int) < (b.toNat : Int)) = false := decide_eq_false (by omega)
          by_cases g1 : 4611686018427387904 < N1
          · have hRn := scan_bad k N b (xs.drop (k + 1)) hk8 hb1 (.inl (by rw [← HN1.out]; exact g1))
            rw [Hd.out] at hRn
            have HRn := Lib.hid hRn
            have g2 : (4611686018427387904 : Int) < (N1 : Int) := by omega
            clear hRn
            go_wp2
            go_ret2
            exact ⟨by rw [HRn.out]; rfl, rfl⟩
          · have g2 : (N1 : Int) ≤ 4611686018427387904 := by omega
            have g2n : decide ((4611686018427387904 : Int) < (N1 : Int)) = false := decide_eq_false (by omega)
            by_cases g3 : 0 < k ∧ b.toNat = 0
            · have hRn := scan_bad k N b (xs.drop (k + 1)) hk8 hb1 (.inr g3)
              rw [Hd.out] at hRn
              have HRn := Lib.hid hRn
              have g4 : (0 : Int) < (k : Int) := by omega
              have g4n : decide ((0 : Int) < (k : Int)) = true := decide_eq_true g4
              have g5 : ((b.toNat : Int) == 0) = true := beq_iff_eq.2 (by omega)
              clear hRn g3
              go_wp2
              go_ret2
              exact ⟨by rw [HRn.out]; rfl, rfl⟩
            · have hRs := scan_good k N b (xs.drop (k + 1)) hk8 hb1 (by rw [← HN1.out]; intro h; rcases h with h | h; exact g1 h; exact g3 h)
              rw [Hd.out, ← HN1.out] at hRs
              have HRs := Lib.hid hRs
              by_cases g4 : 0 < k
              · have g4i : (0 : Int) < (k : Int) := by omega
                have g4n : decide ((0 : Int) < (k : Int)) = true := decide_eq_true g4i
                have g5 : ((b.toNat : Int) == 0) = false := beq_eq_false_iff_ne.2 (by omega)
                clear hRs g3
                go_wp2
                go_ret2
                exact ⟨by rw [HRs.out]; rfl, rfl⟩
              · have g4n : decide ((0 : Int) < (k : Int)) = false := decide_eq_false (by omega)
                clear hRs g3
                go_wp2
                go_ret2
                exact ⟨by rw [HRs.out]; rfl, rfl⟩
      · obtain rfl : k = 9 := by omega
        have hRn : R = none := by
          rw [← Hs.out]; exact scan_nine _ _
        have HRn := Lib.hid hRn
        clear hRn
        go_wp2
        go_ret2
        exact ⟨by rw [HRn.out]; rfl, rfl⟩
end Go.Proofs.YtbokimeojhkgmaaDoor

/-
  The contract of octet's (*Writer).num. No statement of the seat is proved here.
-/
namespace Go.Proofs.YtbokimeojhkgmaaDoor
open Go Go.RowKit

theorem low_digit (n : Nat) (_ : ¬ n < 128) : Value.int .u8 (bits .or .u8 (bits .and .i64 (n : Int) 127 % 256) 128) = bv (n % 128 + 128).toUInt8 := by
  have h1 : bits .and .i64 (n : Int) 127 % 256 = ((n % 128 : Nat) : Int) := by rw [i64_and127]; omega
  have h2 : bits .or .u8 ((n % 128 : Nat) : Int) ((128 : Nat) : Int) = ((n % 128 ||| 128 : Nat) : Int) := u8_or_nat _ _ (by omega) (by omega)
  have h3 : n % 128 ||| 128 = n % 128 + 128 := by rw [Nat.or_comm, nat_join 7 128 (n % 128) rfl (by omega), Nat.add_comm]
  rw [h1]
  rw [show (128 : Int) = ((128 : Nat) : Int) from rfl, h2, h3]
  unfold bv
  rw [show (n % 128 + 128).toUInt8.toNat = n % 128 + 128 by simp [Nat.toUInt8, UInt8.toNat_ofNat']; omega]
theorem last_digit (n : Nat) (h : n < 128) : Value.int .u8 (n : Int) = bv n.toUInt8 := by
  unfold bv
  rw [show n.toUInt8.toNat = n by simp [Nat.toUInt8, UInt8.toNat_ofNat']; omega]

/-- the relation of num's loop -/
def NumRel (fp : Nat → Prop) (g : Nat) (N : Nat) (xs : List Value) (w : World) (n : Nat) (w1 : World) : Prop :=
  n ≤ 4611686018427387904 ∧ ∃ ds : List UInt8, ds ++ dig n = dig N ∧ Wr w1 (More fp w w1) g (xs ++ ds.map bv) ∧ Only fp w w1

theorem NumRel.put {fp : Nat → Prop} {g N : Nat} {xs : List Value} {w w1 w2 : World} {n : Nat} {ds : List UInt8} {d : UInt8} {o : Obj} (hn : n ≤ 4611686018427387904) (he : ds ++ dig n = dig N) (ho : Only fp w w1) (hd : dig n = d :: dig (n / 128))
    (h1 : Wr w2 (More (More fp w w1) (w1.alloc o) w2) g ((xs ++ ds.map bv) ++ [bv d])) (h2 : Only (More fp w w1) (w1.alloc o) w2) : NumRel fp g N xs w (n / 128) w2 := by
  refine ⟨by omega, ds ++ [d], by rw [List.append_assoc, List.singleton_append, ← hd, he], ?_, ?_⟩
  · have e : xs ++ (ds ++ [d]).map bv = (xs ++ ds.map bv) ++ [bv d] := by simp
    rw [e]
    refine h1.mono (fun k hk _ => ?_)
    rcases hk with (hk | hk) | hk
    · exact .inl hk
    · exact .inr ⟨hk.1, by have := h2.size; simp at this; omega⟩
    · exact .inr ⟨by have := ho.size; have := hk.1; simp at this; omega, hk.2⟩
  · exact (ho.alloc o).trans h2 (fun k hk hm => by
      rcases hm with hm | hm
      · exact hm
      · omega)

theorem NumRel.end_ {fp : Nat → Prop} {g N : Nat} {xs : List Value} {w w1 w2 : World} {n : Nat} {ds : List UInt8} {o : Obj} (he : ds ++ dig n = dig N) (ho : Only fp w w1) (hn : n < 128)
    (h1 : Wr w2 (More (More fp w w1) (w1.alloc o) w2) g ((xs ++ ds.map bv) ++ [bv n.toUInt8])) (h2 : Only (More fp w w1) (w1.alloc o) w2) :
    Wr w2 (More fp w w2) g (xs ++ (dig N).map bv) ∧ Only fp w w2 := by
  have e : xs ++ (dig N).map bv = (xs ++ ds.map bv) ++ [bv n.toUInt8] := by rw [← he, dig_lt hn]; simp
  refine ⟨?_, ?_⟩
  · rw [e]
    refine h1.mono (fun k hk _ => ?_)
    rcases hk with (hk | hk) | hk
    · exact .inl hk
    · exact .inr ⟨hk.1, by have := h2.size; simp at this; omega⟩
    · exact .inr ⟨by have := ho.size; have := hk.1; simp at this; omega, hk.2⟩
  · exact (ho.alloc o).trans h2 (fun k hk hm => by
      rcases hm with hm | hm
      · exact hm
      · omega)

theorem NumRel.len {n : Nat} {v : Int} {ds : List UInt8} (he : ds ++ dig n = dig (clamp v)) : (ds.map bv).length ≤ 8 := by
  have h1 := dig_clamp_len v
  have h2 := dig_pos n
  rw [← he, List.length_append] at h1
  rw [List.length_map]
  omega

set_option maxHeartbeats 1000000 in
theorem num_any (fp : Nat → Prop) (g : Nat) (v : Int) (xs : List Value) (w : World) (hw : Wr w fp g xs) (hv1 : -9223372036854775808 ≤ v) (hv2 : v ≤ 9223372036854775807) (hb : xs.length ≤ 549755813888) :
    Calls Tryd.prog 45 #[.pointer (some ⟨g, 0, none⟩), .int .i64 v] w fun e w' => e = .returned (.tuple #[]) ∧ Wr w' (More fp w w') g (xs ++ (dig (clamp v)).map bv) ∧ Only fp w w' := by
  have hcase : v < 0 ∨ (0 ≤ v ∧ v ≤ 4611686018427387904) ∨ 4611686018427387904 < v := by omega
  rcases hcase with ha | ⟨ha, hc⟩ | ha
  all_goals
    go_enter Tryd.func45, Tryd.ntmps45
    go_wp2
    go_loopw [4] (fun r w1 => ∃ n : Nat, r = .int .i64 (n : Int) ∧ NumRel fp g (clamp v) xs w n w1) (fun r _ => (intOf r).toNat)
    case atStart => exact ⟨clamp v, congrArg (Value.int .i64) (by unfold clamp; omega), clamp_le v, [], rfl, by simpa using hw.mono (fun k hk _ => .inl hk), Only.refl _ _⟩
    case round =>
      obtain ⟨n, rfl, hn, ds, he, hw1, ho⟩ := hrel
      have hl := NumRel.len he
      have He := Lib.hid he
      clear he
      by_cases hlt : n < 128
      · go_wp2_with fail
        rw [last_digit n hlt]
        refine (raw_any _ g _ 1 1 (xs ++ ds.map bv) [bv n.toUInt8] _ (hw1.alloc _) rfl (Rd.lit _ _ _) (by simp [bv_one]) (by simp at hl ⊢; omega)).mono ?_
        rintro e w2 ⟨rfl, h1, h2⟩
        go_wp2
        go_end0
        exact ⟨rfl, NumRel.end_ He.out ho hlt h1 h2⟩
      · go_wp2_with fail
        rw [low_digit n hlt]
        refine (raw_any _ g _ 1 1 (xs ++ ds.map bv) [bv (n % 128 + 128).toUInt8] _ (hw1.alloc _) rfl (Rd.lit _ _ _) (by simp [bv_one]) (by simp at hl ⊢; omega)).mono ?_
        rintro e w2 ⟨rfl, h1, h2⟩
        go_wp2
        go_roundw
        case rel => exact ⟨n / 128, by go_num, NumRel.put hn He.out ho (dig_ge hlt) h1 h2⟩
        case measure => simp [intOf]; omega
end Go.Proofs.YtbokimeojhkgmaaDoor

/-
  The contracts of octet's (*Writer).Nums, Bytes, Out. No statement of the seat is proved here.
-/
namespace Go.Proofs.YtbokimeojhkgmaaDoor
open Go Go.RowKit

/-- numbers as bytes -/
def numsB (vs : List Int) : List UInt8 := vs.flatMap fun v => dig (clamp v)
def numsTo (vs : List Int) (k : Nat) : List UInt8 := numsB (vs.take k)
theorem numsTo_succ (vs : List Int) (k : Nat) (h : k < vs.length) : numsTo vs (k + 1) = numsTo vs k ++ dig (clamp vs[k]) := by
  unfold numsTo numsB
  rw [List.take_succ_eq_append_getElem h, List.flatMap_append]; simp
theorem numsTo_all (vs : List Int) : numsTo vs vs.length = numsB vs := by unfold numsTo; rw [List.take_length]
theorem numsTo_len (vs : List Int) : ∀ k, (numsTo vs k).length ≤ 9 * k
  | 0 => by simp [numsTo, numsB]
  | k + 1 => by
    have ih := numsTo_len vs k
    by_cases h : k < vs.length
    · rw [numsTo_succ vs k h, List.length_append]
      have := dig_clamp_len vs[k]
      omega
    · have e : numsTo vs (k + 1) = numsTo vs k := by unfold numsTo; rw [List.take_of_length_le (by omega), List.take_of_length_le (by omega)]
      rw [e]; omega

set_option maxHeartbeats 1000000 in
theorem nums_any (fp : Nat → Prop) (g : Nat) (A : Option Addr) (n c : Nat) (vs : List Int) (xs : List Value) (w : World) (hw : Wr w fp g xs) (hn : n = vs.length) (hr : RdF fp w A (vs.map iv)) (hi : ∀ v ∈ vs, isInt v)
    (hb : xs.length + 9 * vs.length ≤ 549755813888) :
    Calls Tryd.prog 25 #[.pointer (some ⟨g, 0, none⟩), .slice A n c] w fun e w' => e = .returned (.tuple #[]) ∧ Wr w' (More fp w w') g (xs ++ (numsB vs).map bv) ∧ Only fp w w' := by
  subst hn
  go_enter Tryd.func25, Tryd.ntmps25
  go_wp2
  go_loopw [8] (fun i w1 => ∃ k : Nat, k ≤ vs.length ∧ i = .int .i64 (k : Int) ∧ Wr w1 (More fp w w1) g (xs ++ (numsTo vs k).map bv) ∧ Only fp w w1) (fun i _ => vs.length - (intOf i).toNat)
  case atStart => exact ⟨0, Nat.zero_le _, rfl, by simpa [numsTo, numsB] using hw.mono (fun k hk _ => .inl hk), Only.refl _ _⟩
  case round =>
    obtain ⟨k, hk, rfl, hw1, ho⟩ := hrel
    by_cases hlt : k < vs.length
    · obtain ⟨ad, rfl, hc⟩ := (hr.only ho).1.at_ (k := k) (by simpa using hlt)
      simp only [List.getElem_map, iv] at hc
      have hik := hi vs[k] (List.getElem_mem hlt)
      have hlen := numsTo_len vs k
      have hs := Lib.hid (numsTo_succ vs k hlt)
      go_wp2_with fail
      refine (num_any _ g _ _ _ hw1 hik.1 hik.2 (by simp at hlen ⊢; omega)).mono ?_
      rintro e w2 ⟨rfl, h1, h2⟩
      go_wp2
      go_roundw
      case rel => exact ⟨k + 1, by omega, by go_num, by rw [hs.out, List.map_append, ← List.append_assoc]; exact Wr.join ho.size (Nat.le_refl _) h2.size h1, ho.join h2⟩
      case measure => simp [intOf]; omega
    · obtain rfl : k = vs.length := by omega
      rw [numsTo_all] at hw1
      go_wp2
      go_end0
      exact ⟨rfl, hw1, ho⟩

/-- rows as bytes, each with its length -/
def rowsB (xss : List (List UInt8)) : List UInt8 := xss.flatMap fun xs => dig xs.length ++ xs
def rowsTo (xss : List (List UInt8)) (k : Nat) : List UInt8 := rowsB (xss.take k)
theorem rowsTo_succ (xss : List (List UInt8)) (k : Nat) (h : k < xss.length) : rowsTo xss (k + 1) = rowsTo xss k ++ dig xss[k].length ++ xss[k] := by
  unfold rowsTo rowsB
  rw [List.take_succ_eq_append_getElem h, List.flatMap_append]; simp
theorem rowsTo_all (xss : List (List UInt8)) : rowsTo xss xss.length = rowsB xss := by unfold rowsTo; rw [List.take_length]
theorem rowsTo_le (xss : List (List UInt8)) (k : Nat) : (rowsTo xss k).length ≤ (rowsB xss).length := by
  have h : rowsB xss = rowsTo xss k ++ rowsB (xss.drop k) := by unfold rowsTo rowsB; rw [← List.flatMap_append, List.take_append_drop]
  rw [h, List.length_append]; omega

set_option maxHeartbeats 1000000 in
theorem bytes_any (fp : Nat → Prop) (g : Nat) (A : Option Addr) (n c : Nat) (xss : List (List UInt8)) (xs : List Value) (w : World) (hw : Wr w fp g xs) (hn : n = xss.length) (hr : RowsF fp w A xss)
    (hb : xs.length + (rowsB xss).length ≤ 549755813888) (hb2 : xss.length ≤ 549755813888) :
    Calls Tryd.prog 26 #[.pointer (some ⟨g, 0, none⟩), .slice A n c] w fun e w' => e = .returned (.tuple #[]) ∧ Wr w' (More fp w w') g (xs ++ (rowsB xss).map bv) ∧ Only fp w w' := by
  subst hn
  go_enter Tryd.func26, Tryd.ntmps26
  go_wp2
  go_loopw [8] (fun i w1 => ∃ k : Nat, k ≤ xss.length ∧ i = .int .i64 (k : Int) ∧ Wr w1 (More fp w w1) g (xs ++ (rowsTo xss k).map bv) ∧ Only fp w w1) (fun i _ => xss.length - (intOf i).toNat)
  case atStart => exact ⟨0, Nat.zero_le _, rfl, by simpa [rowsTo, rowsB] using hw.mono (fun k hk _ => .inl hk), Only.refl _ _⟩
  case round =>
    obtain ⟨k, hk, rfl, hw1, ho⟩ := hrel
    by_cases hlt : k < xss.length
    · obtain ⟨ad, B, cb, rfl, hcell, hl, hrd⟩ := (hr.more ho).at_ hlt
      have hlen := rowsTo_le xss (k + 1)
      rw [rowsTo_succ xss k hlt] at hlen
      simp only [List.length_append] at hlen
      have hs := Lib.hid (rowsTo_succ xss k hlt)
      have hcl := Lib.hid (clamp_of_nat (n := xss[k].length) (by omega))
      go_wp2_with fail
      refine (num_any _ g _ _ _ hw1 (by omega) (by omega) (by simp; omega)).mono ?_
      rintro e w2 ⟨rfl, h1, h2⟩
      rw [hcl.out] at h1
      have h1' := Wr.join ho.size (Nat.le_refl _) h2.size h1
      have ho2 := ho.join h2
      go_wp2_with fail
      refine (raw_any _ g B _ cb _ (xss[k].map bv) _ h1' (by simp) (hrd.only h2).1 (bvs_one _) (by simp; omega)).mono ?_
      rintro e w3 ⟨rfl, h3, h4⟩
      go_wp2
      go_roundw
      case rel => exact ⟨k + 1, by omega, by go_num, by rw [hs.out, List.map_append, List.map_append, ← List.append_assoc, ← List.append_assoc]; exact Wr.join ho2.size (Nat.le_refl _) h4.size h3, ho2.join h4⟩
      case measure => simp [intOf]; omega
    · obtain rfl : k = xss.length := by omega
      rw [rowsTo_all] at hw1
      go_wp2
      go_end0
      exact ⟨rfl, hw1, ho⟩

set_option maxHeartbeats 1000000 in
theorem out_any (fp : Nat → Prop) (g : Nat) (bs : List UInt8) (w : World) (hw : Wr w fp g (bs.map bv)) (hb : bs.length ≤ 1099511627776) :
    Calls Tryd.prog 47 #[.pointer (some ⟨g, 0, none⟩)] w fun e w' => ∃ A' c', e = .returned (.slice A' bs.length c') ∧ New w w' A' c' bs ∧ Below w.heap.size w w' := by
  obtain ⟨hg, A, c, hblk, hown⟩ := hw
  have h0 := hblk.cell 0
  simp only [List.getElem?_toArray, List.getElem?_cons_zero, List.length_map] at h0
  have hcap := hown.cap
  rw [List.length_map] at hcap
  go_enter Tryd.func47, Tryd.ntmps47
  go_wp2_with fail
  refine (join_any _ 1 1 [bs] bs _ rfl (by simp) (RowsF.one (RdF.of hown.rd) hcap _ rfl id) hb (by simp)).mono ?_
  rintro e w' ⟨A', c', rfl, hnew, hbel⟩
  go_wp2
  go_ret
  exact ⟨A', c', rfl, hnew.back (by simp), ((Below.refl _ _).alloc (Nat.le_refl _) _).trans (hbel.mono (by simp))⟩
end Go.Proofs.YtbokimeojhkgmaaDoor

/-
  The contracts of a Reader's Left, Whole, Num. No statement of the seat is proved here.
-/
namespace Go.Proofs.YtbokimeojhkgmaaDoor
open Go Go.RowKit

set_option maxHeartbeats 1000000 in
/-- Num, where a number stands, or none, or behind an error -/
theorem rnum_ok (fp : Nat → Prop) (g : Nat) (bs : List UInt8) (n k : Nat) (w : World) (h : Rdr w fp g bs false) (hs : num? bs = some (n, k)) (hk0 : 0 < k) (hk : k ≤ bs.length) (hb : bs.length ≤ 1099511627776) :
    Calls Tryd.prog 33 #[.pointer (some ⟨g, 0, none⟩)] w fun e w' => e = .returned (.int .i64 (n : Int)) ∧ Rdr w' fp g (bs.drop k) false ∧ Only (fun k => k = g) w w' := by
  have h' := h
  obtain ⟨hg, _, A, c, hblk, hr, ha, hc⟩ := h
  have h0 := hblk.cell 0
  have h1 := hblk.cell 1
  simp only [List.getElem?_toArray, List.getElem?_cons_zero, List.getElem?_cons_succ] at h0 h1
  have f0 := hblk.free 0
  have k1 : ((k : Int) == 0) = false := beq_eq_false_iff_ne.2 (by omega)
  have Hs := Lib.hid hs
  clear hs
  go_enter Tryd.func33, Tryd.ntmps33
  go_wp2_with fail
  refine (rgood fp g bs false _ h').mono ?_
  rintro e w' ⟨rfl, rfl⟩
  go_wp2_with fail
  refine (first_any A _ c bs (some (n, k)) _ rfl hc hr Hs.out hb).mono ?_
  rintro e w' ⟨rfl, rfl⟩
  rw [show resN (some (n, k)) = n from rfl, show resK (some (n, k)) = k from rfl]
  go_wp2
  · have hck : c = k := by assumption
    go_ret
    exact ⟨rfl, Rdr.cut hg hblk hr ha hc hk (.inl hck) (by omega)⟩
  · go_ret
    exact ⟨rfl, Rdr.cut hg hblk hr ha hc hk (.inr rfl) (by omega)⟩

set_option maxHeartbeats 1000000 in
theorem rnum_none (fp : Nat → Prop) (g : Nat) (bs : List UInt8) (w : World) (h : Rdr w fp g bs false) (hs : num? bs = none) (hb : bs.length ≤ 1099511627776) :
    Calls Tryd.prog 33 #[.pointer (some ⟨g, 0, none⟩)] w fun e w' => e = .returned (.int .i64 0) ∧ Rdr w' fp g [] true ∧ Only (fun k => k = g) w w' := by
  have h' := h
  obtain ⟨hg, _, A, c, hblk, hr, ha, hc⟩ := h
  have h0 := hblk.cell 0
  have h1 := hblk.cell 1
  simp only [List.getElem?_toArray, List.getElem?_cons_zero, List.getElem?_cons_succ] at h0 h1
  have Hs := Lib.hid hs
  clear hs
  go_enter Tryd.func33, Tryd.ntmps33
  go_wp2_with fail
  refine (rgood fp g bs false _ h').mono ?_
  rintro e w' ⟨rfl, rfl⟩
  go_wp2_with fail
  refine (first_any A _ c bs none _ rfl hc hr Hs.out hb).mono ?_
  rintro e w' ⟨rfl, rfl⟩
  rw [show resN none = 0 from rfl, show resK none = 0 from rfl]
  go_wp2_with fail
  refine (rbad fp g bs false _ h').mono ?_
  rintro e w2 ⟨rfl, hrd, ho⟩
  go_wp2
  go_ret
  exact ⟨rfl, hrd, ho⟩
theorem rnum_dead (fp : Nat → Prop) (g : Nat) (bs : List UInt8) (w : World) (h : Rdr w fp g bs true) :
    Calls Tryd.prog 33 #[.pointer (some ⟨g, 0, none⟩)] w fun e w' => e = .returned (.int .i64 0) ∧ w = w' := by
  go_enter Tryd.func33, Tryd.ntmps33
  go_wp2_with fail
  refine (rgood fp g bs true _ h).mono ?_
  rintro e w' ⟨rfl, rfl⟩
  go_wp2
  go_ret
  exact ⟨rfl, rfl⟩

end Go.Proofs.YtbokimeojhkgmaaDoor

/-
  The contracts of winnowerref1's Num, Nums, Bytes. No statement of the seat is proved here.
-/
namespace Go.Proofs.YtbokimeojhkgmaaDoor
open Go Go.RowKit

theorem low_digit64 (n : Nat) (hn : n < 18446744073709551616) : Value.int .u8 (bits .or .u8 (bits .and .u64 (n : Int) 127 % 256) 128) = bv (n % 128 + 128).toUInt8 := by
  have h0 := u64_and_nat n 127 hn (by omega)
  rw [nat_mask7] at h0
  have h1 : bits .and .u64 (n : Int) 127 % 256 = ((n % 128 : Nat) : Int) := by
    rw [show (127 : Int) = ((127 : Nat) : Int) from rfl, h0]; omega
  have h2 : bits .or .u8 ((n % 128 : Nat) : Int) ((128 : Nat) : Int) = ((n % 128 ||| 128 : Nat) : Int) := u8_or_nat _ _ (by omega) (by omega)
  have h3 : n % 128 ||| 128 = n % 128 + 128 := by rw [Nat.or_comm, nat_join 7 128 (n % 128) rfl (by omega), Nat.add_comm]
  rw [h1]
  rw [show (128 : Int) = ((128 : Nat) : Int) from rfl, h2, h3]
  unfold bv
  rw [show (n % 128 + 128).toUInt8.toNat = n % 128 + 128 by simp [Nat.toUInt8, UInt8.toNat_ofNat']; omega]

set_option maxRecDepth 100000 in
set_option maxHeartbeats 1000000 in
theorem refnum_any (v : Int) (w : World) (hv : isInt v) :
    Calls Tryd.prog 50 #[.int .i64 v] w fun e w' => ∃ A' c', e = .returned (.slice A' (dig (clamp v)).length c') ∧ New w w' A' c' (dig (clamp v)) ∧ Below w.heap.size w w' := by
  obtain ⟨hv1, hv2⟩ := hv
  have hcase : v ≤ 0 ∨ (1 ≤ v ∧ v ≤ 4611686018427387904) ∨ 4611686018427387904 < v := by omega
  rcases hcase with ha | ⟨ha, hc⟩ | ha
  all_goals
    obtain ⟨b0, hd0⟩ : ∃ b0, decide ((0 : Int) < v) = b0 := ⟨_, rfl⟩
    have hb0 : b0 = true ∨ b0 = false := by cases b0 <;> simp
    first
      | (have e0 : b0 = true := by rw [← hd0]; exact decide_eq_true (by omega)
         rw [e0] at hd0)
      | (have e0 : b0 = false := by rw [← hd0]; exact decide_eq_false (by omega)
         rw [e0] at hd0)
    clear hb0 e0
    go_enter Tryd.func50, Tryd.ntmps50
    go_wp2
    go_loopw [3, 4] (fun r s w1 => ∃ (n : Nat) (ds : List UInt8) (A' : Option Addr) (c' : Nat), r = .int .u64 (n : Int) ∧ n ≤ 4611686018427387904 ∧ ds ++ dig n = dig (clamp v) ∧ s = .slice A' ds.length c' ∧ New w w1 A' c' ds ∧ Below w.heap.size w w1) (fun r _ _ => (intOf r).toNat)
    case atStart => exact ⟨clamp v, [], none, 0, congrArg (Value.int .u64) (by unfold clamp; omega), clamp_le v, rfl, rfl, Own.none_ _ _ _, Below.refl _ _⟩
    case round =>
      obtain ⟨n, ds, A', c', rfl, hn, he, rfl, hnew, hb⟩ := hrel
      have hl : ds.length ≤ 8 := by
        have h1 := dig_clamp_len v
        have h2 := dig_pos n
        rw [← he, List.length_append] at h1
        omega
      have hk1 : ds.length + 1 ≤ maxLen := by unfold maxLen; omega
      have hk2 : (ds.length + 1) * 1 ≤ 140737488355328 := by omega
      have He := Lib.hid he
      clear he
      by_cases hlt : n < 128
      · have hx := Lib.hid (last_digit n hlt)
        go_wp2_with (at_builtin
                     refine wpList_app _ rfl (.tmp 22) (.tmp 25) _ rfl _ _ 1 Tryd.underlying26 info_u8 rfl A' ds.length c' (ds.map bv) rfl (by rw [List.length_map]) (hnew.alloc _) (some ⟨wr.heap.size, 0, none⟩) 1 1 ([n.toUInt8].map bv) rfl rfl (by rw [last_digit n hlt]; exact Rd.lit wr #[bv n.toUInt8] _) (bvs_one _) hk1 hk2 ?_
                     intro A2 c2 w2 hown2 honly2)
        go_ret
        obtain ⟨g1, g2⟩ := New.grow1 hb hown2 honly2
        have e1 : ds ++ [n.toUInt8] = dig (clamp v) := by rw [← He.out, dig_lt hlt]
        rw [e1] at g1
        refine ⟨A2, c2, ?_, g1, g2⟩
        rw [← e1, List.length_append]; rfl
      · go_wp2_with (at_builtin
                     refine wpList_app _ rfl (.tmp 13) (.tmp 18) _ rfl _ _ 1 Tryd.underlying26 info_u8 rfl A' ds.length c' (ds.map bv) rfl (by rw [List.length_map]) (hnew.alloc _) (some ⟨wr.heap.size, 0, none⟩) 1 1 ([(n % 128 + 128).toUInt8].map bv) rfl rfl (by rw [low_digit64 n (by omega)]; exact Rd.lit wr #[bv (n % 128 + 128).toUInt8] _) (bvs_one _) hk1 hk2 ?_
                     intro A2 c2 w2 hown2 honly2)
        go_roundw
        case rel =>
          obtain ⟨g1, g2⟩ := New.grow1 hb hown2 honly2
          have g3 : ds ++ [(n % 128 + 128).toUInt8] ++ dig (n / 128) = dig (clamp v) := by rw [← He.out, dig_ge hlt]; simp
          exact ⟨n / 128, ds ++ [(n % 128 + 128).toUInt8], A2, c2, by go_num, by omega, g3, by rw [List.length_append]; rfl, g1, g2⟩
        case measure => simp [intOf]; omega

set_option maxRecDepth 100000 in
set_option maxHeartbeats 1000000 in
theorem refnums_any (A : Option Addr) (n c : Nat) (vs : List Int) (bs : List UInt8) (w : World) (hn : n = vs.length) (hbs : numsB vs = bs) (hr : Rd w A (vs.map iv)) (hi : ∀ v ∈ vs, isInt v) (hb : vs.length ≤ 1073741824) :
    Calls Tryd.prog 28 #[.slice A n c] w fun e w' => ∃ A' c', e = .returned (.slice A' bs.length c') ∧ New w w' A' c' bs ∧ Below w.heap.size w w' := by
  subst hn
  have Hbs := Lib.hid hbs
  clear hbs
  go_enter Tryd.func28, Tryd.ntmps28
  go_wp2
  go_loopw [3, 4] (fun s i w1 => ∃ (k : Nat) (ds : List UInt8) (A' : Option Addr) (c' : Nat), k ≤ vs.length ∧ i = .int .i64 (k : Int) ∧ ds = numsTo vs k ∧ s = .slice A' ds.length c' ∧ New w w1 A' c' ds ∧ Below w.heap.size w w1) (fun _ i _ => vs.length - (intOf i).toNat)
  case atStart => exact ⟨0, [], none, 0, Nat.zero_le _, rfl, rfl, rfl, Own.none_ _ _ _, Below.refl _ _⟩
  case round =>
    obtain ⟨k, ds, A', c', hk, rfl, hds, rfl, hnew, hb1⟩ := hrel
    by_cases hlt : k < vs.length
    · obtain ⟨ad, rfl, hc⟩ := (hr.ext hb1).at_ (k := k) (by simpa using hlt)
      simp only [List.getElem_map, iv] at hc
      have hik := hi vs[k] (List.getElem_mem hlt)
      have hlen := numsTo_len vs k
      rw [← hds] at hlen
      have hs := Lib.hid (show ds ++ dig (clamp vs[k]) = numsTo vs (k + 1) by rw [numsTo_succ vs k hlt, hds])
      have h9 := dig_clamp_len vs[k]
      clear hds
      generalize vs[k] = v at *
      go_wp2_with fail
      refine (refnum_any v wr hik).mono ?_
      rintro e w2 ⟨A2, c2, rfl, hnew2, hb2⟩
      generalize dig (clamp v) = ys at *
      have hk1 : ds.length + ys.length ≤ maxLen := by unfold maxLen; omega
      have hk2 : (ds.length + ys.length) * 1 ≤ 140737488355328 := by omega
      have hb2' := ext_trans hb1 hb2
      go_wp2_with (at_builtin
                   refine wpList_app _ rfl (.tmp 11) (.tmp 16) _ rfl _ _ 1 Tryd.underlying26 info_u8 rfl A' ds.length c' (ds.map bv) rfl (by rw [List.length_map]) (hnew.ext hb2) A2 ys.length c2 (ys.map bv) rfl (by rw [List.length_map]) hnew2.rd (bvs_one _) hk1 hk2 ?_
                   intro A3 c3 w3 hown3 honly3)
      go_roundw
      case rel =>
        obtain ⟨g1, g2⟩ := New.grow hb2' hown3 honly3
        exact ⟨k + 1, ds ++ ys, A3, c3, by omega, by go_num, hs.out, by rw [List.length_append], g1, g2⟩
      case measure => simp [intOf]; omega
    · obtain rfl : k = vs.length := by omega
      rw [numsTo_all, Hbs.out] at hds
      subst hds
      go_wp2
      go_ret
      exact ⟨A', c', rfl, hnew, hb1⟩

set_option maxRecDepth 100000 in
set_option maxHeartbeats 1000000 in
theorem refbytes_any (A : Option Addr) (n c : Nat) (xs : List UInt8) (bs : List UInt8) (w : World) (hn : n = xs.length) (hbs : dig xs.length ++ xs = bs) (hr : Rd w A (xs.map bv)) (hb : xs.length ≤ 1099511627776) :
    Calls Tryd.prog 29 #[.slice A n c] w fun e w' => ∃ A' c', e = .returned (.slice A' bs.length c') ∧ New w w' A' c' bs ∧ Below w.heap.size w w' := by
  subst hn
  have hcl := clamp_of_nat (n := xs.length) (by omega)
  have Hbs := Lib.hid hbs
  have h9 := dig_clamp_len (xs.length : Int)
  rw [hcl] at h9
  have Hcl := Lib.hid hcl
  clear hcl hbs
  go_enter Tryd.func29, Tryd.ntmps29
  go_wp2_with fail
  refine (refnum_any (xs.length : Int) _ ⟨by omega, by omega⟩).mono ?_
  rw [Hcl.out]
  rintro e w2 ⟨A2, c2, rfl, hnew2, hb2⟩
  generalize dig xs.length = ys at *
  have hk1 : ys.length + xs.length ≤ maxLen := by unfold maxLen; omega
  have hk2 : (ys.length + xs.length) * 1 ≤ 140737488355328 := by omega
  go_wp2_with (at_builtin
               refine wpList_app _ rfl (.tmp 5) (.tmp 6) _ rfl _ _ 1 Tryd.underlying26 info_u8 rfl A2 ys.length c2 (ys.map bv) rfl (by rw [List.length_map]) hnew2 A xs.length c (xs.map bv) rfl (by rw [List.length_map]) (hr.ext hb2) (bvs_one _) hk1 hk2 ?_
               intro A3 c3 w3 hown3 honly3)
  go_ret
  obtain ⟨g1, g2⟩ := New.grow hb2 hown3 honly3
  rw [Hbs.out] at g1
  refine ⟨A3, c3, ?_, g1, g2⟩
  rw [← Hbs.out, List.length_append]; rfl
end Go.Proofs.YtbokimeojhkgmaaDoor

/-
  The contracts of winnowerref1's Reader. No statement of the seat is proved here.
-/
namespace Go.Proofs.YtbokimeojhkgmaaDoor
open Go Go.RowKit

/-- the document's Reader in block 'g': 'bs' is left of it; has it erred?; what it holds lies in 'fp' -/
def RRd (w : World) (fp : Nat → Prop) (g : Nat) (bs : List UInt8) (bad : Bool) : Prop :=
  fp g ∧ (bad = true → bs = []) ∧ ∃ A c, Blk w g 72 #[.slice A bs.length c, .bool bad] ∧ Rd w A (bs.map bv) ∧ (∀ ad, A = some ad → bs ≠ [] → fp ad.block ∧ ad.block ≠ g) ∧ bs.length ≤ c

section
variable {S fp fp' : Nat → Prop} {w w' : World} {g : Nat} {bs : List UInt8} {bad : Bool}
theorem RRd.lt (h : RRd w fp g bs bad) : g < w.heap.size := by
  obtain ⟨_, _, _, _, hb, _⟩ := h
  exact hb.lt
theorem RRd.only (h : RRd w fp g bs bad) (ho : Only S w w') (hn : ∀ k, fp k → ¬ S k) : RRd w' fp g bs bad := by
  obtain ⟨h1, h2, A, c, hb, hr, ha, hc⟩ := h
  exact ⟨h1, h2, A, c, hb.only ho (hn _ h1), hr.only ho (fun ad e hne => hn _ (ha ad e (by intro h; exact hne (by rw [h]; rfl))).1), ha, hc⟩
theorem RRd.ext (h : RRd w fp g bs bad) (hb : Below w.heap.size w w') : RRd w' fp g bs bad := by
  obtain ⟨h1, h2, A, c, hb1, hr, ha, hc⟩ := h
  exact ⟨h1, h2, A, c, hb1.ext hb, hr.ext hb, ha, hc⟩
theorem RRd.drewN (h : RRd w fp g bs bad) (n : Nat) : RRd (w.drewN n) fp g bs bad := h
end

theorem refbad (fp : Nat → Prop) (g : Nat) (bs : List UInt8) (bad : Bool) (w : World) (h : RRd w fp g bs bad) :
    Calls Tryd.prog 56 #[.pointer (some ⟨g, 0, none⟩)] w fun e w' => e = .returned (.tuple #[]) ∧ RRd w' fp g [] true ∧ Only (fun k => k = g) w w' := by
  obtain ⟨hg, _, A, c, hb, _⟩ := h
  have h0 := hb.cell 0
  have h1 := hb.cell 1
  simp only [List.getElem?_toArray, List.getElem?_cons_zero, List.getElem?_cons_succ] at h0 h1
  have f0 := hb.free 0
  have f1 := hb.free 1
  go_enter Tryd.func56, Tryd.ntmps56
  go_wp2
  go_end0
  refine ⟨rfl, ⟨hg, fun _ => rfl, none, 0, (hb.put 1 _).put 0 _, Rd.nil _ _, (fun ad e => by cases e), Nat.le_refl _⟩, ?_⟩
  exact ((Only.refl (fun k => k = g) w).setCell (p := ⟨g, 1, none⟩) (.inl rfl) _).setCell (p := ⟨g, 0, none⟩) (.inl rfl) _

/-- k bytes are gone -/
theorem RRd.cut {fp : Nat → Prop} {w : World} {g k d : Nat} {bs : List UInt8} {A B : Option Addr} {c : Nat} (hg : fp g) (hb : Blk w g 72 #[.slice A bs.length c, .bool false]) (hr : Rd w A (bs.map bv)) (ha : ∀ ad, A = some ad → bs ≠ [] → fp ad.block ∧ ad.block ≠ g) (hc : bs.length ≤ c) (hk : k ≤ bs.length)
    (hB : c = k ∨ B = A.map (fun x => x.add k)) (hd : bs.length - k ≤ d) : RRd (w.setCell ⟨g, 0, none⟩ (.slice B (bs.length - k) d)) fp g (bs.drop k) false ∧ Only (fun k => k = g) w (w.setCell ⟨g, 0, none⟩ (.slice B (bs.length - k) d)) := by
  refine ⟨⟨hg, fun h => by simp at h, B, d, ?_, ?_, ?_, by rw [List.length_drop]; omega⟩, (Only.refl (fun k => k = g) w).setCell (p := ⟨g, 0, none⟩) (.inl rfl) _⟩
  · have := hb.put 0 (.slice B (bs.length - k) d)
    rw [List.length_drop]
    exact this
  · rcases hbs : bs.drop k with _ | ⟨x, r⟩
    · exact Rd.nil _ _
    · rcases hB with hB | hB
      · have : bs.drop k = [] := List.drop_eq_nil_iff.2 (by omega)
        rw [this] at hbs; cases hbs
      · subst hB
        have h1 := hr.add k
        rw [← List.map_drop, hbs] at h1
        refine h1.setCell (fun ad e => ?_) _
        have hne : bs ≠ [] := by rintro rfl; simp at hbs
        obtain ⟨a0, e0, rfl⟩ := Option.map_eq_some_iff.1 e
        rw [block_add]
        exact (ha a0 e0 hne).2
  · intro ad e hne
    have hne' : bs ≠ [] := by rintro rfl; simp at hne
    rcases hB with hB | hB
    · exact absurd (List.drop_eq_nil_iff.2 (by omega)) hne
    · rw [hB] at e
      obtain ⟨a0, e0, rfl⟩ := Option.map_eq_some_iff.1 e
      rw [block_add]
      exact ha a0 e0 hne'

set_option maxRecDepth 100000 in
set_option maxHeartbeats 2000000 in
theorem refraw_ok (fp : Nat → Prop) (g : Nat) (bs : List UInt8) (k : Nat) (w : World) (h : RRd w fp g bs false) (hk : k ≤ bs.length) (hb : bs.length ≤ 1099511627776) :
    Calls Tryd.prog 55 #[.pointer (some ⟨g, 0, none⟩), .int .i64 (k : Int)] w fun e w' => ∃ A' c', e = .returned (.slice A' k c') ∧ New w w' A' c' (bs.take k) ∧ RRd w' fp g (bs.drop k) false ∧ Only (fun k => k = g) w w' := by
  obtain ⟨hg, _, A, c, hblk, hr, ha, hc⟩ := h
  have h0 := hblk.cell 0
  have h1 := hblk.cell 1
  simp only [List.getElem?_toArray, List.getElem?_cons_zero, List.getElem?_cons_succ] at h0 h1
  have f0 := hblk.free 0
  have htk : (bs.take k).length = k := by rw [List.length_take]; omega
  have hk1 : 0 + k ≤ maxLen := by unfold maxLen; omega
  have hk2 : (0 + k) * 1 ≤ 140737488355328 := by omega
  have Hk := Lib.hid (show k = ((bs.take k).map bv).length by rw [List.length_map, htk])
  have hrk : Rd w A ((bs.take k).map bv) := by rw [List.map_take]; exact hr.take k
  have hgl := hblk.lt
  clear htk
  go_enter Tryd.func55, Tryd.ntmps55
  go_wp2_with (at_builtin
               refine wpList_app _ (fp := fun k => w.heap.size ≤ k ∧ k < w.heap.size + 1) rfl (.tmp 23) (.tmp 29) _ rfl _ _ 1 Tryd.underlying26 info_u8 rfl (some ⟨w.heap.size, 0, none⟩) 0 0 [] rfl rfl (Own.lit w _ #[] _ (by unfold maxLen; simp) (by omega)) A k c ((bs.take k).map bv) rfl Hk.out (hrk.alloc _) (bvs_one _) hk1 hk2 ?_
               intro A1 c1 w1 hown1 honly1
               have hbel : Below w.heap.size w w1 := ((Below.refl _ _).alloc (Nat.le_refl _) _).trans (honly1.below (fun _ h => h.1) (by simp))
               have hb1 := hblk.ext hbel
               have g0 : w1.cell? ⟨g, 0, none⟩ = some (.slice A bs.length c) := hb1.cell 0
               have g1 : w1.frozen? ⟨g, 0, none⟩ = false := hb1.free 0)
  all_goals
    have hr1 := hr.ext hbel
    have s1 := honly1.size
    rw [World.size_alloc] at s1
    have hnew : New w w1 A1 c1 (bs.take k) := by
      rw [List.nil_append] at hown1
      exact hown1.mono (fun j hj _ => by
        rcases hj with hj | hj
        · exact ⟨hj.1, by omega⟩
        · rw [World.size_alloc] at hj; exact ⟨by omega, hj.2⟩)
    have hfin : ∀ v, New w (w1.setCell ⟨g, 0, none⟩ v) A1 c1 (bs.take k) := fun v => by
      have h1 := Own.setCell hnew (p := ⟨g, 0, none⟩) (fun ad e => by have := (hnew.2 ad e).1; show ad.block ≠ g; omega) v
      exact h1.mono (fun j hj _ => ⟨hj.1, by simpa [World.setCell] using hj.2⟩)
    go_ret
  · have hck : c = k := by assumption
    obtain ⟨q1, q2⟩ := RRd.cut (B := A) (d := 0) hg hb1 hr1 ha hc hk (.inl hck) (by omega)
    exact ⟨A1, c1, rfl, hfin _, q1, (Only.of_ext hbel).trans q2 (fun _ _ h => h)⟩
  · obtain ⟨q1, q2⟩ := RRd.cut (d := c - k) hg hb1 hr1 ha hc hk (.inr rfl) (by omega)
    exact ⟨A1, c1, rfl, hfin _, q1, (Only.of_ext hbel).trans q2 (fun _ _ h => h)⟩

theorem refraw_none (fp : Nat → Prop) (g : Nat) (bs : List UInt8) (v : Int) (w : World) (h : RRd w fp g bs false) (hk : v < 0 ∨ (bs.length : Int) < v) :
    Calls Tryd.prog 55 #[.pointer (some ⟨g, 0, none⟩), .int .i64 v] w fun e w' => e = .returned (.slice none 0 0) ∧ RRd w' fp g [] true ∧ Only (fun k => k = g) w w' := by
  have h' := h
  obtain ⟨hg, _, A, c, hblk, hr, ha, hc⟩ := h
  have h0 := hblk.cell 0
  simp only [List.getElem?_toArray, List.getElem?_cons_zero] at h0
  have hd : (decide (v < 0) || decide ((bs.length : Int) < v)) = true := by simpa using hk
  rcases hk with hk | hk
  · go_enter Tryd.func55, Tryd.ntmps55
    go_wp2_with fail
    refine (refbad fp g bs false _ h').mono ?_
    rintro e w2 ⟨rfl, hrd, ho⟩
    have h1 : w2.cell? ⟨g, 1, none⟩ = some (.bool true) := by obtain ⟨_, _, _, _, hb, _⟩ := hrd; exact hb.cell 1
    go_wp2
    go_ret
    exact ⟨rfl, hrd, ho⟩
  · have hk2 : ¬ v < 0 := by omega
    have hk3 : decide (v < 0) = false := decide_eq_false hk2
    clear hd
    go_enter Tryd.func55, Tryd.ntmps55
    go_wp2_with fail
    refine (refbad fp g bs false _ h').mono ?_
    rintro e w2 ⟨rfl, hrd, ho⟩
    have h1 : w2.cell? ⟨g, 1, none⟩ = some (.bool true) := by obtain ⟨_, _, _, _, hb, _⟩ := hrd; exact hb.cell 1
    go_wp2
    go_ret
    exact ⟨rfl, hrd, ho⟩

/-- behind an error, whatever is asked -/
theorem refraw_dead (fp : Nat → Prop) (g : Nat) (v : Int) (w : World) (h : RRd w fp g [] true) :
    Calls Tryd.prog 55 #[.pointer (some ⟨g, 0, none⟩), .int .i64 v] w fun e w' => e = .returned (.slice none 0 0) ∧ RRd w' fp g [] true ∧ Only (fun k => k = g) w w' := by
  have h' := h
  obtain ⟨hg, _, A, c, hblk, hr, ha, hc⟩ := h
  have h0 := hblk.cell 0
  have h1 := hblk.cell 1
  simp only [List.getElem?_toArray, List.getElem?_cons_zero, List.getElem?_cons_succ, List.length_nil] at h0 h1
  have hcase : v < 0 ∨ 0 < v ∨ v = 0 := by omega
  rcases hcase with hk | hk | rfl
  · go_enter Tryd.func55, Tryd.ntmps55
    go_wp2_with fail
    refine (refbad fp g [] true _ h').mono ?_
    rintro e w2 ⟨rfl, hrd, ho⟩
    have h2 : w2.cell? ⟨g, 1, none⟩ = some (.bool true) := by obtain ⟨_, _, _, _, hb, _⟩ := hrd; exact hb.cell 1
    go_wp2
    go_ret
    exact ⟨rfl, hrd, ho⟩
  · have hk2 : ¬ v < 0 := by omega
    have hk3 : decide (v < 0) = false := decide_eq_false hk2
    go_enter Tryd.func55, Tryd.ntmps55
    go_wp2_with fail
    refine (refbad fp g [] true _ h').mono ?_
    rintro e w2 ⟨rfl, hrd, ho⟩
    have h2 : w2.cell? ⟨g, 1, none⟩ = some (.bool true) := by obtain ⟨_, _, _, _, hb, _⟩ := hrd; exact hb.cell 1
    go_wp2
    go_ret
    exact ⟨rfl, hrd, ho⟩
  · go_enter Tryd.func55, Tryd.ntmps55
    go_wp2
    go_ret
    exact ⟨rfl, h', Only.refl _ _⟩
end Go.Proofs.YtbokimeojhkgmaaDoor

/-
  The contract of winnowerref1's (*Reader).Num. No statement of the seat is proved here.
-/
namespace Go.Proofs.YtbokimeojhkgmaaDoor
open Go Go.RowKit

/-- what is left behind a number, and whether there was none -/
def restOf (bs : List UInt8) : Option (Nat × Nat) → List UInt8
  | some (_, k) => bs.drop k
  | none => []
def badOf : Option (Nat × Nat) → Bool
  | some _ => false
  | none => true

/-- one byte more of a number in 64 digits, in the walk's own words -/
theorem num_step64 (b : UInt8) (k N : Nat) (hk : k ≤ 8 ∨ (k = 9 ∧ b.toNat ≤ 1)) (hN : N < 128 ^ k) : ∃ m s N' : Nat, (m : Int) ≤ 127 ∧ bits .and .u8 (b.toNat : Int) 127 = (m : Int) ∧ IntKind.u64.wrap ((m : Int) * 2 ^ (7 * k)) = (s : Int) ∧ bits .or .u64 (N : Int) (s : Int) = (N' : Int) ∧
    N' = N + b.toNat % 128 * 128 ^ k ∧ (k ≤ 8 → N' < 128 ^ (k + 1)) ∧ (N' : Int) ≤ 18446744073709551615 := by
  have hb := b.toNat_lt
  have h1 := u8_and_nat b.toNat 127 (by omega) (by omega)
  rw [nat_mask7] at h1
  have e : (128 : Nat) ^ k = 2 ^ (7 * k) := by rw [show (128 : Nat) = 2 ^ 7 from rfl, ← Nat.pow_mul]
  have hm : b.toNat % 128 * 128 ^ k ≤ 127 * 128 ^ k := Nat.mul_le_mul_right _ (by omega)
  have hp : 128 ^ (k + 1) = 128 * 128 ^ k := by rw [Nat.pow_succ, Nat.mul_comm]
  have h9 : (128 : Nat) ^ 9 = 9223372036854775808 := rfl
  have hall : N + b.toNat % 128 * 128 ^ k < 18446744073709551616 ∧ (k ≤ 8 → N + b.toNat % 128 * 128 ^ k < 128 ^ (k + 1)) := by
    rcases hk with hk | ⟨rfl, hb1⟩
    · have hk9 : 128 ^ (k + 1) ≤ 128 ^ 9 := Nat.pow_le_pow_right (by omega) (by omega)
      exact ⟨by omega, fun _ => by omega⟩
    · have : b.toNat % 128 * 128 ^ 9 ≤ 1 * 128 ^ 9 := Nat.mul_le_mul_right _ (by omega)
      exact ⟨by omega, fun h => by omega⟩
  refine ⟨b.toNat % 128, b.toNat % 128 * 128 ^ k, N + b.toNat % 128 * 128 ^ k, by omega, h1, ?_, ?_, rfl, hall.2, by omega⟩
  · have e2 : ((b.toNat % 128 : Nat) : Int) * 2 ^ (7 * k) = ((b.toNat % 128 * 128 ^ k : Nat) : Int) := by
      rw [e, Int.natCast_mul, Int.natCast_pow]; rfl
    rw [e2, IntKind.wrap_u64]
    omega
  · rw [u64_or_nat N _ (by omega) (by omega), Nat.or_comm, nat_join (7 * k) _ N (by rw [e]; exact Nat.mul_mod_left _ _) (by rw [← e]; exact hN), Nat.add_comm]

set_option maxRecDepth 100000 in
set_option maxHeartbeats 4000000 in
theorem refrnum (fp : Nat → Prop) (g : Nat) (bs : List UInt8) (R : Option (Nat × Nat)) (w : World) (h : RRd w fp g bs false) (hR : num? bs = R) (hb : bs.length ≤ 1099511627776) :
    Calls Tryd.prog 37 #[.pointer (some ⟨g, 0, none⟩)] w fun e w' => e = .returned (.int .i64 (resN R : Int)) ∧ RRd w' fp g (restOf bs R) (badOf R) ∧ Only (fun k => k = g) w w' := by
  have HR := Lib.hid hR
  clear hR
  go_enter Tryd.func37, Tryd.ntmps37
  go_wp2
  go_loopw [3, 4] (fun u i wr => ∃ k N : Nat, k ≤ 9 ∧ k ≤ bs.length ∧ i = .int .i64 (k : Int) ∧ u = .int .u64 (N : Int) ∧ N < 128 ^ k ∧ scan k N (bs.drop k) = R ∧ RRd wr fp g (bs.drop k) false ∧ Only (fun k => k = g) w wr) (fun _ i _ => 10 - (intOf i).toNat)
  case atStart => exact ⟨0, 0, by omega, Nat.zero_le _, rfl, rfl, by simp, HR.out, h, Only.refl _ _⟩
  case round =>
    obtain ⟨k, N, hk9, hkl, rfl, rfl, hN, hs, hrd, ho⟩ := hrel
    have Hs := Lib.hid hs
    have HN := Lib.hid hN
    have hki : (k : Int) < 10 := by omega
    clear hs hN
    by_cases hlt : k < bs.length
    · have hd := List.drop_eq_getElem_cons hlt
      have Hd : Hid (scan k N (bs[k] :: bs.drop (k + 1)) = R) := by rw [← hd]; exact Hs.out
      have hcall := refraw_ok fp g (bs.drop k) 1 wr hrd (by simp; omega) (by simp; omega)
      rw [List.drop_drop] at hcall
      rw [show (bs.drop k).take 1 = [bs[k]] by rw [hd]; rfl] at hcall
      have Hcall := Lib.hid hcall
      clear hcall hrd hd Hs
      generalize bs[k] = b at *
      go_wp2_with fail
      refine Hcall.out.mono ?_
      rintro e w1 ⟨A1, c1, rfl, hn1, hrd1, ho1⟩
      have ho' : Only (fun k => k = g) w w1 := ho.trans ho1 (fun _ _ h => h)
      obtain ⟨ad, rfl, hx0⟩ := hn1.rd.at_ (k := 0) (by simp)
      have hx1 : w1.cell? ad = some (.int .u8 (b.toNat : Int)) := by
        have h0' : ad.add 0 = ad := by simp [Addr.add]
        rw [h0'] at hx0
        simpa [bv] using hx0
      have hx2 : w1.cell? (ad.add 0) = some (.int .u8 (b.toNat : Int)) := by simpa [bv] using hx0
      have hbad : w1.cell? ⟨g, 1, none⟩ = some (.bool false) := by obtain ⟨_, _, _, _, hb, _⟩ := hrd1; exact hb.cell 1
      have hb255 : (b.toNat : Int) ≤ 255 := by have := b.toNat_lt; omega
      clear hx0 hn1
      by_cases hk : k ≤ 8
      · have hkn : ((k : Int) == 9) = false := beq_eq_false_iff_ne.2 (by omega)
        obtain ⟨m1, s1, N1, lm, e1, e2, e3, hN1, hN2, lN⟩ := num_step64 b k N (.inl hk) HN.out
        have HN1 := Lib.hid hN1
        have HN2 := Lib.hid (hN2 hk)
        clear hN1 hN2
        by_cases hb1 : 127 < b.toNat
        · have hb2 : (127 : Int) < (b.toNat : Int) := by omega
          go_wp2
          go_roundw
          case rel => exact ⟨k + 1, N1, by omega, by omega, by go_num, rfl, HN2.out, by rw [HN1.out, ← scan_more k N b _ hk hb1]; exact Hd.out, hrd1, ho'⟩
          case measure => simp [intOf]; omega
        · have hb2 : (b.toNat : Int) ≤ 127 := by omega
          have hbn : decide ((127 : Int) < (b.toNat : Int)) = false := decide_eq_false (by omega)
          by_cases g3 : 0 < k ∧ b.toNat = 0
          · have hRn := scan_bad k N b (bs.drop (k + 1)) hk hb1 (.inr g3)
            rw [Hd.out] at hRn
            have HRn := Lib.hid hRn
            have g4 : (0 : Int) < (k : Int) := by omega
            have g4n : decide ((0 : Int) < (k : Int)) = true := decide_eq_true g4
            have g5 : ((b.toNat : Int) == 0) = true := beq_iff_eq.2 (by omega)
            clear hRn g3
            go_wp2_with (go_at_call 56; refine (refbad fp g _ false _ hrd1).mono ?_; rintro e w2 ⟨rfl, hrd2, ho2⟩)
            go_ret
            exact ⟨by rw [HRn.out]; rfl, by rw [HRn.out]; exact hrd2, ho'.trans ho2 (fun _ _ h => h)⟩
          · have g6 : (¬ 0 < k ∧ decide ((0 : Int) < (k : Int)) = false) ∨ (0 < k ∧ ¬ b.toNat = 0 ∧ decide ((0 : Int) < (k : Int)) = true ∧ ((b.toNat : Int) == 0) = false) := by
              by_cases h0 : 0 < k
              · exact .inr ⟨h0, fun h => g3 ⟨h0, h⟩, decide_eq_true (by omega), beq_eq_false_iff_ne.2 (by omega)⟩
              · exact .inl ⟨h0, decide_eq_false (by omega)⟩
            by_cases g1 : 4611686018427387904 < N1
            · have hRn := scan_bad k N b (bs.drop (k + 1)) hk hb1 (.inl (by rw [← HN1.out]; exact g1))
              rw [Hd.out] at hRn
              have HRn := Lib.hid hRn
              have g2 : (4611686018427387904 : Int) < (N1 : Int) := by omega
              have g2n : decide ((4611686018427387904 : Int) < (N1 : Int)) = true := decide_eq_true g2
              clear hRn g3
              rcases g6 with ⟨g8, g6⟩ | ⟨g8, g9, g6, g7⟩
              · go_wp2_with (go_at_call 56; refine (refbad fp g _ false _ hrd1).mono ?_; rintro e w2 ⟨rfl, hrd2, ho2⟩)
                go_ret
                exact ⟨by rw [HRn.out]; rfl, by rw [HRn.out]; exact hrd2, ho'.trans ho2 (fun _ _ h => h)⟩
              · go_wp2_with (go_at_call 56; refine (refbad fp g _ false _ hrd1).mono ?_; rintro e w2 ⟨rfl, hrd2, ho2⟩)
                go_ret
                exact ⟨by rw [HRn.out]; rfl, by rw [HRn.out]; exact hrd2, ho'.trans ho2 (fun _ _ h => h)⟩
            · have hRs := scan_good k N b (bs.drop (k + 1)) hk hb1 (by rw [← HN1.out]; intro h; rcases h with h | h; exact g1 h; exact g3 h)
              rw [Hd.out, ← HN1.out] at hRs
              have HRs := Lib.hid hRs
              have g2 : (N1 : Int) ≤ 4611686018427387904 := by omega
              have g2n : decide ((4611686018427387904 : Int) < (N1 : Int)) = false := decide_eq_false (by omega)
              clear hRs g3
              rcases g6 with ⟨g8, g6⟩ | ⟨g8, g9, g6, g7⟩
              · go_wp2
                go_ret
                exact ⟨by rw [HRs.out]; rfl, by rw [HRs.out]; exact hrd1, ho'⟩
              · go_wp2
                go_ret
                exact ⟨by rw [HRs.out]; rfl, by rw [HRs.out]; exact hrd1, ho'⟩
      · obtain rfl : k = 9 := by omega
        have hRn : R = none := by rw [← Hd.out]; exact scan_nine _ _
        have HRn := Lib.hid hRn
        clear hRn
        by_cases hb1 : 127 < b.toNat
        · have hb2 : (127 : Int) < (b.toNat : Int) := by omega
          have hb3 : decide ((127 : Int) < (b.toNat : Int)) = true := decide_eq_true hb2
          go_wp2_with (go_at_call 56; refine (refbad fp g _ false _ hrd1).mono ?_; rintro e w2 ⟨rfl, hrd2, ho2⟩)
          go_ret
          exact ⟨by rw [HRn.out]; rfl, by rw [HRn.out]; exact hrd2, ho'.trans ho2 (fun _ _ h => h)⟩
        · have hb2 : (b.toNat : Int) ≤ 127 := by omega
          have hb3 : decide ((127 : Int) < (b.toNat : Int)) = false := decide_eq_false (by omega)
          by_cases hb4 : 1 < b.toNat
          · have hb5 : (1 : Int) < (b.toNat : Int) := by omega
            have hb6 : decide ((1 : Int) < (b.toNat : Int)) = true := decide_eq_true hb5
            go_wp2_with (go_at_call 56; refine (refbad fp g _ false _ hrd1).mono ?_; rintro e w2 ⟨rfl, hrd2, ho2⟩)
            go_ret
            exact ⟨by rw [HRn.out]; rfl, by rw [HRn.out]; exact hrd2, ho'.trans ho2 (fun _ _ h => h)⟩
          · have hb5 : (b.toNat : Int) ≤ 1 := by omega
            have hb6 : decide ((1 : Int) < (b.toNat : Int)) = false := decide_eq_false (by omega)
            obtain ⟨m1, s1, N1, lm, e1, e2, e3, hN1, -, lN⟩ := num_step64 b 9 N (.inr ⟨rfl, by omega⟩) HN.out
            have h9 : (128 : Nat) ^ 9 = 9223372036854775808 := rfl
            rw [h9] at hN1
            rw [show (2 : Int) ^ (7 * 9) = 9223372036854775808 from rfl] at e2
            by_cases hb7 : b.toNat = 0
            · have g5 : ((b.toNat : Int) == 0) = true := beq_iff_eq.2 (by omega)
              clear hN1 h9 hb7
              go_wp2_with (go_at_call 56; refine (refbad fp g _ false _ hrd1).mono ?_; rintro e w2 ⟨rfl, hrd2, ho2⟩)
              go_ret
              exact ⟨by rw [HRn.out]; rfl, by rw [HRn.out]; exact hrd2, ho'.trans ho2 (fun _ _ h => h)⟩
            · have g5 : ((b.toNat : Int) == 0) = false := beq_eq_false_iff_ne.2 (by omega)
              have g2 : (4611686018427387904 : Int) < (N1 : Int) := by omega
              have g2n : decide ((4611686018427387904 : Int) < (N1 : Int)) = true := decide_eq_true g2
              clear hN1 h9 hb7
              go_wp2_with (go_at_call 56; refine (refbad fp g _ false _ hrd1).mono ?_; rintro e w2 ⟨rfl, hrd2, ho2⟩)
              go_ret
              exact ⟨by rw [HRn.out]; rfl, by rw [HRn.out]; exact hrd2, ho'.trans ho2 (fun _ _ h => h)⟩
    · have hnil : bs.drop k = [] := List.drop_eq_nil_iff.2 (by omega)
      have hRn : R = none := by rw [← Hs.out, hnil]; rfl
      have HRn := Lib.hid hRn
      rw [hnil] at hrd
      clear hRn hnil
      go_wp2_with fail
      refine (refraw_none fp g [] 1 _ hrd (.inr (by simp))).mono ?_
      rintro e w1 ⟨rfl, hrd1, ho1⟩
      have hbad : w1.cell? ⟨g, 1, none⟩ = some (.bool true) := by obtain ⟨_, _, _, _, hb, _⟩ := hrd1; exact hb.cell 1
      go_wp2
      go_ret
      exact ⟨by rw [HRn.out]; rfl, by rw [HRn.out]; exact hrd1, ho.trans ho1 (fun _ _ h => h)⟩

set_option maxHeartbeats 1000000 in
theorem refrnum_dead (fp : Nat → Prop) (g : Nat) (w : World) (h : RRd w fp g [] true) :
    Calls Tryd.prog 37 #[.pointer (some ⟨g, 0, none⟩)] w fun e w' => e = .returned (.int .i64 0) ∧ RRd w' fp g [] true ∧ Only (fun k => k = g) w w' := by
  go_enter Tryd.func37, Tryd.ntmps37
  go_wp2
  refine wp_loop_rounds 1 ?_
  rw [rounds_succ]
  go_wp2_with fail
  refine (refraw_dead fp g 1 _ h).mono ?_
  rintro e w1 ⟨rfl, hrd1, ho1⟩
  have hbad : w1.cell? ⟨g, 1, none⟩ = some (.bool true) := by obtain ⟨_, _, _, _, hb, _⟩ := hrd1; exact hb.cell 1
  go_wp2
  go_ret
  exact ⟨rfl, hrd1, ho1⟩
end Go.Proofs.YtbokimeojhkgmaaDoor

/-
  The contract of octet's (*Reader).Bytes. No statement of the seat is proved here.
-/
namespace Go.Proofs.YtbokimeojhkgmaaDoor
open Go Go.RowKit

set_option maxHeartbeats 1000000 in
/-- a row stands there whole -/
theorem rbytes_ok (fp : Nat → Prop) (g : Nat) (bs : List UInt8) (n k : Nat) (w : World) (h : Rdr w fp g bs false) (hs : num? bs = some (n, k)) (hk0 : 0 < k) (hk : k ≤ bs.length) (hn : n ≤ (bs.drop k).length) (hb : bs.length ≤ 1099511627776) :
    Calls Tryd.prog 35 #[.pointer (some ⟨g, 0, none⟩)] w fun e w' => ∃ A' c', e = .returned (.slice A' n c') ∧ New w w' A' c' ((bs.drop k).take n) ∧ Rdr w' fp g ((bs.drop k).drop n) false ∧ Only (fun k => k = g) w w' := by
  have Hs := Lib.hid hs
  clear hs

  go_enter Tryd.func35, Tryd.ntmps35
  go_wp2_with fail
  refine (rnum_ok fp g bs n k _ h Hs.out hk0 hk hb).mono ?_
  rintro e w1 ⟨rfl, h1, o1⟩
  go_wp2_with fail
  refine (rraw_ok fp g (bs.drop k) n _ h1 hn (by simp; omega)).mono ?_
  rintro e w2 ⟨A', c', rfl, hnew, h2, o2⟩
  go_wp2
  go_ret
  exact ⟨A', c', rfl, hnew.back o1.size, h2, o1.trans o2 (fun _ _ h => h)⟩
set_option maxHeartbeats 1000000 in
/-- the number is there, the row is not -/
theorem rbytes_short (fp : Nat → Prop) (g : Nat) (bs : List UInt8) (n k : Nat) (w : World) (h : Rdr w fp g bs false) (hs : num? bs = some (n, k)) (hk0 : 0 < k) (hk : k ≤ bs.length) (hn : (bs.drop k).length < n) (hi : isInt n) (hb : bs.length ≤ 1099511627776) :
    Calls Tryd.prog 35 #[.pointer (some ⟨g, 0, none⟩)] w fun e w' => e = .returned (.slice none 0 0) ∧ Rdr w' fp g [] true ∧ Only (fun k => k = g) w w' := by
  have Hs := Lib.hid hs
  clear hs
  go_enter Tryd.func35, Tryd.ntmps35
  go_wp2_with fail
  refine (rnum_ok fp g bs n k _ h Hs.out hk0 hk hb).mono ?_
  rintro e w1 ⟨rfl, h1, o1⟩
  go_wp2_with fail
  refine (rraw_none fp g (bs.drop k) n _ h1 hi (.inr (by omega)) (by simp; omega)).mono ?_
  rintro e w2 ⟨rfl, h2, o2⟩
  go_wp2
  go_ret
  exact ⟨rfl, h2, o1.trans o2 (fun _ _ h => h)⟩
set_option maxHeartbeats 1000000 in
/-- no number is there -/
theorem rbytes_none (fp : Nat → Prop) (g : Nat) (bs : List UInt8) (w : World) (h : Rdr w fp g bs false) (hs : num? bs = none) (hb : bs.length ≤ 1099511627776) :
    Calls Tryd.prog 35 #[.pointer (some ⟨g, 0, none⟩)] w fun e w' => e = .returned (.slice none 0 0) ∧ Rdr w' fp g [] true ∧ Only (fun k => k = g) w w' := by
  have Hs := Lib.hid hs
  clear hs
  go_enter Tryd.func35, Tryd.ntmps35
  go_wp2_with fail
  refine (rnum_none fp g bs _ h Hs.out hb).mono ?_
  rintro e w1 ⟨rfl, h1, o1⟩
  go_wp2_with fail
  refine (rraw_dead fp g [] 0 _ h1).mono ?_
  rintro e w2 ⟨rfl, rfl⟩
  go_wp2
  go_ret
  exact ⟨rfl, h1, o1⟩
theorem rbytes_dead (fp : Nat → Prop) (g : Nat) (bs : List UInt8) (w : World) (h : Rdr w fp g bs true) :
    Calls Tryd.prog 35 #[.pointer (some ⟨g, 0, none⟩)] w fun e w' => e = .returned (.slice none 0 0) ∧ w = w' := by
  go_enter Tryd.func35, Tryd.ntmps35
  go_wp2_with fail
  refine (rnum_dead fp g bs _ h).mono ?_
  rintro e w1 ⟨rfl, rfl⟩
  go_wp2_with fail
  refine (rraw_dead fp g bs 0 _ h).mono ?_
  rintro e w2 ⟨rfl, rfl⟩
  go_wp2
  go_ret
  exact ⟨rfl, rfl⟩
end Go.Proofs.YtbokimeojhkgmaaDoor

/-
  Both Readers by one state: what is left, and whether it has erred. No statement of the seat is proved here.
-/
namespace Go.Proofs.YtbokimeojhkgmaaDoor
open Go Go.RowKit

theorem scan_bounds : ∀ (bs : List UInt8) (i n m k : Nat), scan i n bs = some (m, k) → i < k ∧ k ≤ i + bs.length ∧ m ≤ 4611686018427387904
  | [], i, n, m, k, h => by simp [scan] at h
  | c :: r, i, n, m, k, h => by
    rw [scan] at h
    split at h
    · cases h
    · split at h
      · have := scan_bounds r _ _ m k h
        simp only [List.length_cons]
        omega
      · split at h
        · cases h
        · rename_i h3
          injection h with h
          injection h with h1 h2
          simp only [List.length_cons]
          omega
theorem num_bounds {bs : List UInt8} {n k : Nat} (h : num? bs = some (n, k)) : 0 < k ∧ k ≤ bs.length ∧ n ≤ 4611686018427387904 := by
  have := scan_bounds bs 0 0 n k h
  omega
theorem resN_le (bs : List UInt8) : resN (num? bs) ≤ 4611686018427387904 := by
  rcases h : num? bs with _ | ⟨n, k⟩
  · simp [resN]
  · exact (num_bounds h).2.2
theorem restOf_le (bs : List UInt8) (R : Option (Nat × Nat)) : (restOf bs R).length ≤ bs.length := by
  rcases R with _ | ⟨n, k⟩
  · simp [restOf]
  · simp [restOf]

def stNum (bs : List UInt8) (bad : Bool) : Nat × List UInt8 × Bool := if bad = true then (0, [], true) else (resN (num? bs), restOf bs (num? bs), badOf (num? bs))
def stRaw (bs : List UInt8) (bad : Bool) (v : Int) : List UInt8 × List UInt8 × Bool := if bad = true ∨ v < 0 ∨ (bs.length : Int) < v then ([], [], true) else (bs.take v.toNat, bs.drop v.toNat, false)
def stBytes (bs : List UInt8) (bad : Bool) : List UInt8 × List UInt8 × Bool := stRaw (stNum bs bad).2.1 (stNum bs bad).2.2 ((stNum bs bad).1 : Int)
theorem stNum_len (bs : List UInt8) (bad : Bool) : (stNum bs bad).2.1.length ≤ bs.length := by
  unfold stNum; split
  · simp
  · exact restOf_le _ _
theorem stNum_le (bs : List UInt8) (bad : Bool) : (stNum bs bad).1 ≤ 4611686018427387904 := by
  unfold stNum; split
  · simp
  · exact resN_le _
theorem stRaw_len (bs : List UInt8) (bad : Bool) (v : Int) : (stRaw bs bad v).2.1.length ≤ bs.length ∧ (stRaw bs bad v).1.length ≤ bs.length := by
  unfold stRaw; split
  · simp
  · simp; omega
theorem stBytes_len (bs : List UInt8) (bad : Bool) : (stBytes bs bad).2.1.length ≤ bs.length ∧ (stBytes bs bad).1.length ≤ bs.length := by
  have h1 := stNum_len bs bad
  have h2 := stRaw_len (stNum bs bad).2.1 (stNum bs bad).2.2 ((stNum bs bad).1 : Int)
  unfold stBytes
  omega

section
variable (fp : Nat → Prop) (g : Nat) (bs : List UInt8) (bad : Bool) (w : World)
theorem rnum_st (h : Rdr w fp g bs bad) (hb : bs.length ≤ 1099511627776) :
    Calls Tryd.prog 33 #[.pointer (some ⟨g, 0, none⟩)] w fun e w' => e = .returned (.int .i64 ((stNum bs bad).1 : Int)) ∧ Rdr w' fp g (stNum bs bad).2.1 (stNum bs bad).2.2 ∧ Only (fun k => k = g) w w' := by
  cases bad
  · rcases hR : num? bs with _ | ⟨n, k⟩
    · have e : stNum bs false = (0, [], true) := by simp [stNum, hR, resN, restOf, badOf]
      rw [e]
      exact rnum_none fp g bs w h hR hb
    · obtain ⟨h1, h2, h3⟩ := num_bounds hR
      have e : stNum bs false = (n, bs.drop k, false) := by simp [stNum, hR, resN, restOf, badOf]
      rw [e]
      exact rnum_ok fp g bs n k w h hR h1 h2 hb
  · have e : stNum bs true = (0, [], true) := rfl
    rw [e]
    have hbs : bs = [] := h.2.1 rfl
    subst hbs
    refine (rnum_dead fp g [] w h).mono ?_
    rintro e w' ⟨rfl, rfl⟩
    exact ⟨rfl, h, Only.refl _ _⟩
theorem rraw_st (v : Int) (hv : isInt v) (h : Rdr w fp g bs bad) (hb : bs.length ≤ 1099511627776) :
    Calls Tryd.prog 53 #[.pointer (some ⟨g, 0, none⟩), .int .i64 v] w fun e w' => ∃ A' c', e = .returned (.slice A' (stRaw bs bad v).1.length c') ∧ New w w' A' c' (stRaw bs bad v).1 ∧ Rdr w' fp g (stRaw bs bad v).2.1 (stRaw bs bad v).2.2 ∧ Only (fun k => k = g) w w' := by
  by_cases hc : bad = true ∨ v < 0 ∨ (bs.length : Int) < v
  · have e : stRaw bs bad v = ([], [], true) := by unfold stRaw; rw [if_pos hc]
    rw [e]
    cases bad
    · refine (rraw_none fp g bs v w h hv (by rcases hc with hc | hc; cases hc; exact hc) hb).mono ?_
      rintro e w' ⟨rfl, h1, h2⟩
      exact ⟨none, 0, rfl, Own.none_ _ _ _, h1, h2⟩
    · have hbs : bs = [] := h.2.1 rfl
      subst hbs
      refine (rraw_dead fp g [] v w h).mono ?_
      rintro e w' ⟨rfl, rfl⟩
      exact ⟨none, 0, rfl, Own.none_ _ _ _, h, Only.refl _ _⟩
  · have e : stRaw bs bad v = (bs.take v.toNat, bs.drop v.toNat, false) := by unfold stRaw; rw [if_neg hc]
    have hbad : bad = false := by cases bad; rfl; exact absurd (.inl rfl) hc
    subst hbad
    rw [e]
    obtain ⟨k, rfl⟩ := Int.eq_ofNat_of_zero_le (show 0 ≤ v by omega)
    have hk : k ≤ bs.length := by omega
    refine (rraw_ok fp g bs k w h hk hb).mono ?_
    rintro e w' ⟨A', c', rfl, h1, h2, h3⟩
    refine ⟨A', c', ?_, h1, h2, h3⟩
    rw [show (bs.take (k : Int).toNat).length = k by rw [Int.toNat_natCast, List.length_take]; omega]
theorem rbytes_st (h : Rdr w fp g bs bad) (hb : bs.length ≤ 1099511627776) :
    Calls Tryd.prog 35 #[.pointer (some ⟨g, 0, none⟩)] w fun e w' => ∃ A' c', e = .returned (.slice A' (stBytes bs bad).1.length c') ∧ New w w' A' c' (stBytes bs bad).1 ∧ Rdr w' fp g (stBytes bs bad).2.1 (stBytes bs bad).2.2 ∧ Only (fun k => k = g) w w' := by
  have hl := stNum_len bs bad
  have hn := stNum_le bs bad
  go_enter Tryd.func35, Tryd.ntmps35
  go_wp2_with fail
  refine (rnum_st fp g bs bad _ h hb).mono ?_
  rintro e w1 ⟨rfl, h1, o1⟩
  go_wp2_with fail
  refine (rraw_st fp g _ _ _ _ ⟨by omega, by omega⟩ h1 (by omega)).mono ?_
  rintro e w2 ⟨A', c', rfl, hnew, h2, o2⟩
  go_wp2
  go_ret
  exact ⟨A', c', rfl, hnew.back o1.size, h2, o1.trans o2 (fun _ _ h => h)⟩

theorem refnum_st (h : RRd w fp g bs bad) (hb : bs.length ≤ 1099511627776) :
    Calls Tryd.prog 37 #[.pointer (some ⟨g, 0, none⟩)] w fun e w' => e = .returned (.int .i64 ((stNum bs bad).1 : Int)) ∧ RRd w' fp g (stNum bs bad).2.1 (stNum bs bad).2.2 ∧ Only (fun k => k = g) w w' := by
  cases bad
  · have e : stNum bs false = (resN (num? bs), restOf bs (num? bs), badOf (num? bs)) := rfl
    rw [e]
    exact refrnum fp g bs _ w h rfl hb
  · have e : stNum bs true = (0, [], true) := rfl
    rw [e]
    have hbs : bs = [] := h.2.1 rfl
    subst hbs
    exact refrnum_dead fp g w h
theorem refraw_st (v : Int) (h : RRd w fp g bs bad) (hb : bs.length ≤ 1099511627776) :
    Calls Tryd.prog 55 #[.pointer (some ⟨g, 0, none⟩), .int .i64 v] w fun e w' => ∃ A' c', e = .returned (.slice A' (stRaw bs bad v).1.length c') ∧ New w w' A' c' (stRaw bs bad v).1 ∧ RRd w' fp g (stRaw bs bad v).2.1 (stRaw bs bad v).2.2 ∧ Only (fun k => k = g) w w' := by
  by_cases hc : bad = true ∨ v < 0 ∨ (bs.length : Int) < v
  · have e : stRaw bs bad v = ([], [], true) := by unfold stRaw; rw [if_pos hc]
    rw [e]
    cases bad
    · refine (refraw_none fp g bs v w h (by rcases hc with hc | hc; cases hc; exact hc)).mono ?_
      rintro e w' ⟨rfl, h1, h2⟩
      exact ⟨none, 0, rfl, Own.none_ _ _ _, h1, h2⟩
    · have hbs : bs = [] := h.2.1 rfl
      subst hbs
      refine (refraw_dead fp g v w h).mono ?_
      rintro e w' ⟨rfl, h1, h2⟩
      exact ⟨none, 0, rfl, Own.none_ _ _ _, h1, h2⟩
  · have e : stRaw bs bad v = (bs.take v.toNat, bs.drop v.toNat, false) := by unfold stRaw; rw [if_neg hc]
    have hbad : bad = false := by cases bad; rfl; exact absurd (.inl rfl) hc
    subst hbad
    rw [e]
    obtain ⟨k, rfl⟩ := Int.eq_ofNat_of_zero_le (show 0 ≤ v by omega)
    have hk : k ≤ bs.length := by omega
    refine (refraw_ok fp g bs k w h hk hb).mono ?_
    rintro e w' ⟨A', c', rfl, h1, h2, h3⟩
    refine ⟨A', c', ?_, h1, h2, h3⟩
    rw [show (bs.take (k : Int).toNat).length = k by rw [Int.toNat_natCast, List.length_take]; omega]
theorem refbytes_st (h : RRd w fp g bs bad) (hb : bs.length ≤ 1099511627776) :
    Calls Tryd.prog 38 #[.pointer (some ⟨g, 0, none⟩)] w fun e w' => ∃ A' c', e = .returned (.slice A' (stBytes bs bad).1.length c') ∧ New w w' A' c' (stBytes bs bad).1 ∧ RRd w' fp g (stBytes bs bad).2.1 (stBytes bs bad).2.2 ∧ Only (fun k => k = g) w w' := by
  have hl := stNum_len bs bad
  have hn := stNum_le bs bad
  obtain ⟨b2, hb2⟩ : ∃ b2, (stNum bs bad).2.2 = b2 := ⟨_, rfl⟩
  cases b2
  · have Hb2 := Lib.hid hb2
    clear hb2
    go_enter Tryd.func38, Tryd.ntmps38
    go_wp2_with fail
    refine (refnum_st fp g bs bad _ h hb).mono ?_
    rintro e w1 ⟨rfl, h1, o1⟩
    have hc1 : w1.cell? ⟨g, 1, none⟩ = some (.bool false) := by
      obtain ⟨_, _, _, _, hb, _⟩ := h1
      rw [Hb2.out] at hb
      exact hb.cell 1
    go_wp2_with fail
    refine (refraw_st fp g _ _ _ _ h1 (by omega)).mono ?_
    rintro e w2 ⟨A', c', rfl, hnew, h2, o2⟩
    go_wp2
    go_ret
    exact ⟨A', c', rfl, hnew.back o1.size, h2, o1.trans o2 (fun _ _ h => h)⟩
  · have e : stBytes bs bad = ([], [], true) := by unfold stBytes stRaw; rw [if_pos (.inl hb2)]
    rw [e]
    have Hb2 := Lib.hid hb2
    clear hb2
    go_enter Tryd.func38, Tryd.ntmps38
    go_wp2_with fail
    refine (refnum_st fp g bs bad _ h hb).mono ?_
    rintro e w1 ⟨rfl, h1, o1⟩
    rw [Hb2.out] at h1
    have hc1 : w1.cell? ⟨g, 1, none⟩ = some (.bool true) := by obtain ⟨_, _, _, _, hb, _⟩ := h1; exact hb.cell 1
    have hnil : (stNum bs bad).2.1 = [] := h1.2.1 rfl
    rw [hnil] at h1
    clear hnil
    go_wp2
    go_ret
    exact ⟨none, 0, rfl, Own.none_ _ _ _, h1, o1⟩
end
end Go.Proofs.YtbokimeojhkgmaaDoor

/-
  The contract of octet's Sum. No statement of the seat is proved here.
-/
namespace Go.Proofs.YtbokimeojhkgmaaDoor
open Go Go.RowKit

/-- the table of package octet lies in memory as its text lays it -/
def Tab (w : World) : Prop := ∀ i : Nat, i < 16 → w.cell? ⟨0, i, none⟩ = some (.int .u32 (tab i : Int))
theorem Tab.ext {w w' : World} (h : Tab w) (hb : Below w.heap.size w w') : Tab w' := fun i hi => by
  have hc := h i hi
  have hl := World.block_lt_of_cell? w _ hc
  exact (World.cell?_of_block (hb.block _ hl)).trans hc
theorem Tab.alloc {w : World} (h : Tab w) (o : Obj) : Tab (w.alloc o) := h.ext ((Below.refl _ _).alloc (Nat.le_refl _) o)
theorem Tab.drewN {w : World} (h : Tab w) (n : Nat) : Tab (w.drewN n) := h

def crcTo (xss : List (List UInt8)) (k : Nat) : Nat := crcL 4294967295 (upTo xss k)
theorem crcTo_lt (xss : List (List UInt8)) (k : Nat) : crcTo xss k < 4294967296 := crcL_lt _ (by decide)
theorem crcTo_succ (xss : List (List UInt8)) (k : Nat) (h : k < xss.length) : crcTo xss (k + 1) = crcL (crcTo xss k) xss[k] := by
  unfold crcTo; rw [upTo_succ xss k h, crcL_append]
def crcAt (s : Nat) (xs : List UInt8) (j : Nat) : Nat := crcL s (xs.take j)

theorem crcAt_succ (s : Nat) (xs : List UInt8) (j : Nat) (h : j < xs.length) : crcAt s xs (j + 1) = crcB (crcAt s xs j) xs[j] := crcL_take_succ s xs j h
theorem crcAt_all (s : Nat) (xs : List UInt8) : crcAt s xs xs.length = crcL s xs := by unfold crcAt; rw [List.take_length]

/-- one step of four digits, in the walk's own words -/
theorem nib_step (s : Nat) (h : s < 4294967296) (w : World) (ht : Tab w) : ∃ m t s2 : Nat, (m : Int) < 16 ∧ bits .and .u32 (s : Int) 15 = (m : Int) ∧ w.cell? ⟨0, m, none⟩ = some (.int .u32 (t : Int)) ∧
    bits .xor .u32 ((s : Int) / 16) (t : Int) = (s2 : Int) ∧ s2 = nib s := by
  refine ⟨s % 16, tab (s % 16), nib s, by omega, ?_, ht _ (by omega), ?_, rfl⟩
  · have h2 := u32_and_nat s 15 h (by omega)
    rw [nat_mask4] at h2
    exact h2
  · have h2 := u32_xor_nat (s / 16) (tab (s % 16)) (by omega) (tab_lt _)
    rw [Int.natCast_ediv] at h2
    exact h2
theorem xor_step (s : Nat) (h : s < 4294967296) (b : UInt8) : ∃ s1 : Nat, bits .xor .u32 (s : Int) ((b.toNat : Int) % 4294967296) = (s1 : Int) ∧ s1 = s ^^^ b.toNat ∧ s1 < 4294967296 := by
  refine ⟨s ^^^ b.toNat, ?_, rfl, xorb_lt h b⟩
  have hb := b.toNat_lt
  rw [show (b.toNat : Int) % 4294967296 = (b.toNat : Int) by omega]
  exact u32_xor_nat s b.toNat h (by omega)

theorem xor_ones (s : Nat) (h : s < 4294967296) : 4294967295 ^^^ s = 4294967295 - s := by
  have e : BitVec.allOnes 32 ^^^ BitVec.ofNat 32 s = ~~~ BitVec.ofNat 32 s := BitVec.allOnes_xor
  have e2 := congrArg BitVec.toNat e
  rw [BitVec.toNat_xor, BitVec.toNat_not, BitVec.toNat_ofNat, BitVec.toNat_allOnes, Nat.mod_eq_of_lt (by omega)] at e2
  have e3 : (2 : Nat) ^ 32 - 1 = 4294967295 := rfl
  rw [e3] at e2
  exact e2
theorem not_u32 (s : Nat) (h : s < 4294967296) : bits .xor .u32 IntKind.u32.max (s : Int) = ((4294967295 - s : Nat) : Int) := by
  have h1 := u32_xor_nat 4294967295 s (by omega) h
  rw [xor_ones s h] at h1
  exact h1

set_option maxHeartbeats 1000000 in
theorem sum_any (A : Option Addr) (n c : Nat) (xss : List (List UInt8)) (bs : List UInt8) (w : World) (ht : Tab w) (hn : n = xss.length) (hbs : xss.flatten = bs) (hr : RowsF (fun _ => False) w A xss) (hb : bs.length ≤ 1099511627776) (hb2 : xss.length ≤ 1099511627776) :
    Calls Tryd.prog 48 #[.slice A n c] w fun e w' => e = .returned (.int .u32 (sumOf bs : Int)) ∧ w = w' := by
  subst hn
  have Hbs := Lib.hid hbs
  have hle := lenTo_le xss
  rw [hbs] at hle
  have Hle := Lib.hid hle
  clear hbs hle
  go_enter Tryd.func48, Tryd.ntmps48
  go_wp2
  go_loop [3, 10] (fun s i => ∃ k : Nat, k ≤ xss.length ∧ i = .int .i64 (k : Int) ∧ s = .int .u32 (crcTo xss k : Int)) (fun _ i => xss.length - (intOf i).toNat)
  case atStart => exact ⟨0, Nat.zero_le _, rfl, rfl⟩
  case round =>
    obtain ⟨k, hk, rfl, rfl⟩ := hrel
    have hlt0 := crcTo_lt xss k
    by_cases hlt : k < xss.length
    · obtain ⟨ad, B, cb, rfl, hcell, hl, hrd⟩ := hr.at_ hlt
      have hsucc := Lib.hid (crcTo_succ xss k hlt)
      have hle' := Hle.out (k + 1)
      rw [lenTo_succ xss k hlt] at hle'
      have hlen : xss[k].length ≤ 1099511627776 := by omega
      clear hle'
      generalize crcTo xss k = s0 at *
      generalize xss[k] = xs at *
      go_wp2
      go_loop [3, 16] (fun s i => ∃ j : Nat, j ≤ xs.length ∧ i = .int .i64 (j : Int) ∧ s = .int .u32 (crcAt s0 xs j : Int)) (fun _ i => xs.length - (intOf i).toNat)
      case atStart => exact ⟨0, Nat.zero_le _, rfl, rfl⟩
      case round =>
        obtain ⟨j, hj, rfl, rfl⟩ := hrel
        by_cases hjl : j < xs.length
        · obtain ⟨a1, rfl, hc1⟩ := hrd.1.at_ (k := j) (by simpa using hjl)
          simp only [List.getElem_map, bv] at hc1
          have hS : crcAt s0 xs j < 4294967296 := crcL_lt _ hlt0
          have hnext := Lib.hid (crcAt_succ s0 xs j hjl)
          generalize crcAt s0 xs j = S at *
          generalize xs[j] = b at *
          obtain ⟨s1, e1, f1, l1⟩ := xor_step S hS b
          obtain ⟨m1, t1, s2, lm1, e2, c1, e3, f2⟩ := nib_step s1 l1 w ht
          have l2 : s2 < 4294967296 := by rw [f2]; exact nib_lt l1
          obtain ⟨m2, t2, s3, lm2, e4, c2, e5, f3⟩ := nib_step s2 l2 w ht
          have hfin := Lib.hid (show crcB S b = s3 by unfold crcB; rw [← f1, ← f2, ← f3])
          clear f1 f2 f3
          go_wp2
          go_round
          case rel => exact ⟨j + 1, by omega, by go_num, by rw [hnext.out, hfin.out]⟩
          case measure => simp [intOf]; omega
        · obtain rfl : j = xs.length := by omega
          have hall := crcAt_all s0 xs
          rw [hall]
          clear hall
          go_wp2
          go_round
          case rel => exact ⟨k + 1, by omega, by go_num, by rw [hsucc.out]⟩
          case measure => simp [intOf]; omega
    · obtain rfl : k = xss.length := by omega
      have hall : crcTo xss xss.length = crcL 4294967295 bs := by unfold crcTo; rw [upTo_all, Hbs.out]
      rw [hall] at hlt0 ⊢
      have hsum := Lib.hid (show bits .xor .u32 IntKind.u32.max (crcL 4294967295 bs : Int) = (sumOf bs : Int) from not_u32 _ hlt0)
      clear hall
      generalize crcL 4294967295 bs = s at *
      go_wp2
      go_ret
      exact ⟨by rw [hsum.out]; rfl, rfl⟩
end Go.Proofs.YtbokimeojhkgmaaDoor

/-
  Plain mathematics: a number as bytes, the lowest first. No Go here.
-/
namespace Go.Proofs.YtbokimeojhkgmaaDoor

/-- a number as so many bytes, the lowest first -/
def lowB (k n : Nat) : List UInt8 := (List.range k).map fun i => (n / 256 ^ i).toUInt8
theorem lowB_length (k n : Nat) : (lowB k n).length = k := by simp [lowB]
theorem lowB_zero (n : Nat) : lowB 0 n = [] := rfl
theorem lowB_succ (k n : Nat) : lowB (k + 1) n = lowB k n ++ [(n / 256 ^ k).toUInt8] := by
  unfold lowB; rw [List.range_succ, List.map_append]; rfl
theorem lowB_get (k n i : Nat) (h : i < k) : (lowB k n)[i]? = some (n / 256 ^ i).toUInt8 := by
  unfold lowB; simp [h]
theorem lowB_cons : ∀ (k n : Nat), lowB (k + 1) n = n.toUInt8 :: lowB k (n / 256)
  | 0, n => by rw [lowB_succ]; simp [lowB_zero]
  | k + 1, n => by
    rw [lowB_succ, lowB_cons k, lowB_succ k (n / 256), Nat.div_div_eq_div_mul, Nat.pow_succ, Nat.mul_comm 256]; rfl

/-- the number that bytes are, the lowest first -/
def ofLow : List UInt8 → Nat
  | [] => 0
  | b :: r => b.toNat + 256 * ofLow r
theorem ofLow_snoc : ∀ (l : List UInt8) (b : UInt8), ofLow (l ++ [b]) = ofLow l + b.toNat * 256 ^ l.length
  | [], b => by simp [ofLow]
  | a :: r, b => by
    rw [List.cons_append, ofLow, ofLow, ofLow_snoc r b, List.length_cons, Nat.pow_succ, Nat.mul_add, Nat.mul_left_comm, Nat.mul_comm 256 (256 ^ r.length)]
    omega
theorem ofLow_lt : ∀ (l : List UInt8), ofLow l < 256 ^ l.length
  | [] => by simp [ofLow]
  | a :: r => by
    have := ofLow_lt r
    have ha := a.toNat_lt
    rw [ofLow, List.length_cons, Nat.pow_succ, Nat.mul_comm (256 ^ r.length)]
    omega
theorem toUInt8_toNat (n : Nat) : n.toUInt8.toNat = n % 256 := by simp [Nat.toUInt8, UInt8.toNat_ofNat']
theorem ofLow_lowB : ∀ (k n : Nat), ofLow (lowB k n) = n % 256 ^ k
  | 0, n => by simp [lowB_zero, ofLow, Nat.mod_one]
  | k + 1, n => by
    rw [lowB_cons, ofLow, ofLow_lowB k, toUInt8_toNat, Nat.pow_succ, Nat.mul_comm (256 ^ k), Nat.mod_mul]
theorem lowB_ofLow : ∀ (l : List UInt8), lowB l.length (ofLow l) = l
  | [] => rfl
  | a :: r => by
    have ha := a.toNat_lt
    rw [List.length_cons, lowB_cons, ofLow, show (a.toNat + 256 * ofLow r) / 256 = ofLow r by omega, lowB_ofLow r]
    congr 1
    apply UInt8.toNat_inj.1
    rw [toUInt8_toNat]; omega
theorem lowB_inj {k a b : Nat} (ha : a < 256 ^ k) (hb : b < 256 ^ k) (h : lowB k a = lowB k b) : a = b := by
  have e := congrArg ofLow h
  rw [ofLow_lowB, ofLow_lowB, Nat.mod_eq_of_lt ha, Nat.mod_eq_of_lt hb] at e
  exact e
theorem ofLow_take_succ (l : List UInt8) (k : Nat) (h : k < l.length) : ofLow (l.take (k + 1)) = ofLow (l.take k) + l[k].toNat * 256 ^ k := by
  rw [List.take_succ_eq_append_getElem h, ofLow_snoc, List.length_take, Nat.min_eq_left (by omega)]
theorem ofLow_drop (l : List UInt8) (k : Nat) (h : k < l.length) : ofLow (l.drop k) = l[k].toNat + 256 * ofLow (l.drop (k + 1)) := by
  rw [List.drop_eq_getElem_cons h, ofLow]
theorem ofLow_lt_of {l : List UInt8} {k : Nat} (h : l.length ≤ k) : ofLow l < 256 ^ k := Nat.lt_of_lt_of_le (ofLow_lt l) (Nat.pow_le_pow_right (by omega) h)
end Go.Proofs.YtbokimeojhkgmaaDoor

/-
  A number in four bytes; the reference's Four. No statement of the seat is proved here.
-/
namespace Go.Proofs.YtbokimeojhkgmaaDoor
open Go Go.RowKit

theorem New.of_blk {w w' : World} {g : Nat} {bs : List UInt8} (h : Blk w' g 5 (bs.map bv).toArray) (hg : w.heap.size ≤ g) (hm : bs.length ≤ maxLen) : New w w' (some ⟨g, 0, none⟩) bs.length bs := by
  refine ⟨⟨by simp, .inr ⟨g, bs.length, (bs.map bv).toArray, by simp, Nat.zero_le _, h, by simp, hm, by simp, ?_⟩⟩, fun ad e => by injection e with e; subst e; exact ⟨hg, h.lt⟩⟩
  rw [List.length_map, Nat.mul_one, List.take_of_length_le (by simp)]

theorem low_cast (n j : Nat) : Value.int .u8 ((n : Int) / 2 ^ (8 * j) % 256) = bv (n / 256 ^ j).toUInt8 := by
  unfold bv
  rw [toUInt8_toNat]
  congr 1
  have e : (256 : Nat) ^ j = 2 ^ (8 * j) := by rw [show (256 : Nat) = 2 ^ 8 from rfl, ← Nat.pow_mul]
  rw [e, Int.natCast_emod, Int.natCast_ediv, Int.natCast_pow]
  rfl
theorem four_get (n : Nat) (hn : n < 4294967296) : ((lowB 4 n).map bv).toArray = #[.int .u8 ((n : Int) % 256), .int .u8 ((n : Int) / 256 % 256), .int .u8 ((n : Int) / 65536 % 256), .int .u8 ((n : Int) / 16777216)] := by
  have h := low_cast n
  have e : lowB 4 n = [(n / 256 ^ 0).toUInt8, (n / 256 ^ 1).toUInt8, (n / 256 ^ 2).toUInt8, (n / 256 ^ 3).toUInt8] := rfl
  rw [e]
  simp only [List.map_cons, List.map_nil]
  rw [← h 0, ← h 1, ← h 2, ← h 3, show (n : Int) / 16777216 = (n : Int) / 2 ^ (8 * 3) % 256 by omega]
  simp
theorem four_any (n : Nat) (w : World) (hn : n < 4294967296) :
    Calls Tryd.prog 30 #[.int .u32 (n : Int)] w fun e w' => ∃ A' c', e = .returned (.slice A' 4 c') ∧ New w w' A' c' (lowB 4 n) ∧ Below w.heap.size w w' := by
  have hg := Lib.hid (four_get n hn)
  go_enter Tryd.func30, Tryd.ntmps30
  go_wp2
  go_ret
  have hb : Below w.heap.size w (w.alloc (.cells ((lowB 4 n).map bv).toArray 5)) := (Below.refl _ _).alloc (Nat.le_refl _) _
  have hn' : New w (w.alloc (.cells ((lowB 4 n).map bv).toArray 5)) (some ⟨w.heap.size, 0, none⟩) 4 (lowB 4 n) := by
    have := New.of_blk (w := w) (Blk.new w 5 ((lowB 4 n).map bv).toArray) (Nat.le_refl _) (by rw [lowB_length]; unfold maxLen; omega)
    rw [lowB_length] at this
    exact this
  rw [hg.out] at hb hn'
  exact ⟨_, _, rfl, hn', hb⟩
end Go.Proofs.YtbokimeojhkgmaaDoor

/-
  Package exact's Summed: what a Writer has laid, and behind it the four bytes of its sum. No statement of the seat is proved here.
-/
namespace Go.Proofs.YtbokimeojhkgmaaDoor
open Go Go.RowKit
set_option maxRecDepth 100000

/-- what has been summed, and its sum -/
def sealB (p : List UInt8) : List UInt8 := p ++ lowB 4 (sumOf p)
theorem sumOf_lt (p : List UInt8) : sumOf p < 4294967296 := by unfold sumOf; omega
theorem sealB_length (p : List UInt8) : (sealB p).length = p.length + 4 := by unfold sealB; rw [List.length_append, lowB_length]

set_option maxHeartbeats 2000000 in
theorem summed_any (fp : Nat → Prop) (g : Nat) (bs : List UInt8) (w : World) (ht : Tab w) (hw : Wr w fp g (bs.map bv)) (hb : bs.length ≤ 1073741824) :
    Calls Tryd.prog 27 #[.pointer (some ⟨g, 0, none⟩)] w fun e w' => ∃ A' c', e = .returned (.slice A' (sealB bs).length c') ∧ New w w' A' c' (sealB bs) ∧ Below w.heap.size w w' := by
  have HO := Lib.hid (out_any fp g bs w hw (by omega))
  have Ht := Lib.hid ht
  have hs := sumOf_lt bs
  have Hg := Lib.hid (four_get (sumOf bs) hs)
  clear hw ht
  obtain ⟨s, hse⟩ : ∃ s, sumOf bs = s := ⟨_, rfl⟩
  have Hs : Hid ([bs, lowB 4 s].flatten = sealB bs) := Lib.hid (by rw [← hse]; simp [sealB])
  have HL := Lib.hid (sealB_length bs)
  have HS : Hid (sumOf bs = s) := Lib.hid hse
  rw [hse] at hs Hg
  clear hse
  generalize sealB bs = Y at *
  go_enter Tryd.func27, Tryd.ntmps27
  go_wp2_with fail
  refine HO.out.mono ?_
  rintro e w1 ⟨A1, c1, rfl, hn1, hb1⟩
  have hc1 : bs.length ≤ c1 := by have := hn1.cap; simpa using this
  have Hb1 := Lib.hid hb1
  have Hn1 := Lib.hid hn1
  clear hn1 hb1 HO
  go_wp2_with fail
  refine (sum_any _ 1 1 [bs] bs _ ((Ht.out.ext Hb1.out).alloc _) rfl (by simp) (RowsF.one (RdF.of Hn1.out.rd) hc1 _ rfl id) (by omega) (by simp)).mono ?_
  rintro e w2 ⟨rfl, rfl⟩
  rw [HS.out]
  go_wp2_with fail
  rw [← Hg.out]
  refine (join_any _ 2 2 [bs, lowB 4 s] Y _ rfl Hs.out (RowsF.two (ys := lowB 4 s) (RdF.of ((Hn1.out.rd.alloc _).alloc _)) hc1 (RdF.of (by have := Rd.lit (w1.alloc (.cells #[.slice A1 bs.length c1] 26)) ((lowB 4 s).map bv).toArray 5; simpa using this)) (Nat.le_refl 4) _ (by simp) id) (by rw [HL.out]; omega) (by simp)).mono ?_
  rintro e w3 ⟨A3, c3, rfl, hn3, hb3⟩
  go_wp2
  go_ret
  exact ⟨A3, c3, rfl, hn3.back (ext_alloc (ext_alloc (ext_alloc Hb1.out _) _) _).size, ext_trans (ext_alloc (ext_alloc (ext_alloc Hb1.out _) _) _) hb3⟩
end Go.Proofs.YtbokimeojhkgmaaDoor

/-
  Plain mathematics of the check sum: digit by digit is four digits at a time; a byte that is another one has another sum. No Go here.
-/
namespace Go.Proofs.YtbokimeojhkgmaaDoor

/-- one binary digit of the sum -/
def bit1 (s : Nat) : Nat := if s % 2 = 1 then s / 2 ^^^ 3988292384 else s / 2
def bitN : Nat → Nat → Nat
  | 0, s => s
  | n + 1, s => bitN n (bit1 s)
theorem xor_lt32 {a b : Nat} (ha : a < 4294967296) (hb : b < 4294967296) : a ^^^ b < 4294967296 := Nat.xor_lt_two_pow (n := 32) ha hb
theorem bit1_lt {s : Nat} (h : s < 4294967296) : bit1 s < 4294967296 := by
  unfold bit1
  split
  · exact xor_lt32 (by omega) (by omega)
  · omega
theorem bitN_lt : ∀ (n : Nat) {s : Nat}, s < 4294967296 → bitN n s < 4294967296
  | 0, _, h => h
  | n + 1, _, h => bitN_lt n (bit1_lt h)
theorem xor_half (a b : Nat) : (a ^^^ b) / 2 = a / 2 ^^^ b / 2 := Nat.xor_div_two_pow (n := 1)
theorem xor_odd (a b : Nat) : (a ^^^ b) % 2 = (a % 2) ^^^ (b % 2) := Nat.xor_mod_two_pow (n := 1)
/-- the step is the same on both parts of a sum without carries -/
theorem bit1_xor (a b : Nat) : bit1 (a ^^^ b) = bit1 a ^^^ bit1 b := by
  have ha : a % 2 = 0 ∨ a % 2 = 1 := by omega
  have hb : b % 2 = 0 ∨ b % 2 = 1 := by omega
  unfold bit1
  rw [xor_odd, xor_half]
  rcases ha with ha | ha <;> rcases hb with hb | hb <;> rw [ha, hb]
  · simp
  · simp [Nat.xor_assoc]
  · simp only [Nat.zero_ne_one, if_false, if_true]
    rw [show (1 ^^^ 0 : Nat) = 1 from rfl, if_pos rfl, Nat.xor_assoc, Nat.xor_comm (b / 2), ← Nat.xor_assoc]
  · rw [show (1 ^^^ 1 : Nat) = 0 from rfl, if_neg (by omega), if_pos rfl, if_pos rfl]
    have h : ∀ x y p : Nat, x ^^^ p ^^^ (y ^^^ p) = x ^^^ y := fun x y p => by
      rw [Nat.xor_assoc, ← Nat.xor_assoc p, Nat.xor_comm p y, Nat.xor_assoc y, Nat.xor_self, Nat.xor_zero]
    rw [h]
theorem bitN_xor : ∀ (n a b : Nat), bitN n (a ^^^ b) = bitN n a ^^^ bitN n b
  | 0, _, _ => rfl
  | n + 1, a, b => by unfold bitN; rw [bit1_xor, bitN_xor n]
theorem bit1_even (a : Nat) : bit1 (2 * a) = a := by unfold bit1; rw [if_neg (by omega)]; omega
theorem bitN_sixteen (a : Nat) : bitN 4 (16 * a) = a := by
  have h : ∀ x, bitN 4 x = bit1 (bit1 (bit1 (bit1 x))) := fun _ => rfl
  rw [h, show 16 * a = 2 * (2 * (2 * (2 * a))) by omega, bit1_even, bit1_even, bit1_even, bit1_even]
theorem bitN_low : ∀ i, i < 16 → bitN 4 i = tab i := by decide
theorem join16 (s : Nat) : s = 16 * (s / 16) ^^^ s % 16 := by
  have h : 16 * (s / 16) ||| s % 16 = 16 * (s / 16) + s % 16 := by
    have := Nat.two_pow_add_eq_or_of_lt (i := 4) (b := s % 16) (by omega) (s / 16)
    exact this.symm
  have h2 : 16 * (s / 16) &&& s % 16 = 0 := by
    apply Nat.eq_of_testBit_eq
    intro i
    rw [Nat.testBit_and, Nat.zero_testBit]
    by_cases hi : i < 4
    · have : (16 * (s / 16)).testBit i = false := by
        rw [show (16 : Nat) = 2 ^ 4 from rfl, Nat.testBit_two_pow_mul]
        simp; omega
      rw [this]; rfl
    · have : (s % 16).testBit i = false := Nat.testBit_lt_two_pow (by
        have : 2 ^ 4 ≤ 2 ^ i := Nat.pow_le_pow_right (by omega) (by omega)
        have h16 : (2 : Nat) ^ 4 = 16 := rfl
        omega)
      rw [this, Bool.and_false]
  apply Nat.eq_of_testBit_eq
  intro i
  have e := congrArg (·.testBit i) h
  have e2 := congrArg (·.testBit i) h2
  simp only [Nat.testBit_or, Nat.testBit_and, Nat.zero_testBit] at e e2
  rw [Nat.mul_comm 16, Nat.div_add_mod'] at e
  rw [Nat.testBit_xor, ← e]
  rw [Nat.mul_comm 16] at e2 ⊢
  generalize (s / 16 * 16).testBit i = x at *
  generalize (s % 16).testBit i = y at *
  cases x <;> cases y <;> simp_all
theorem bitN_nib (s : Nat) : bitN 4 s = nib s := by
  conv => lhs; rw [join16 s]
  rw [bitN_xor, bitN_sixteen, bitN_low _ (by omega)]; rfl
theorem bitN_add : ∀ (m n s : Nat), bitN (m + n) s = bitN n (bitN m s)
  | 0, n, s => by rw [Nat.zero_add]; rfl
  | m + 1, n, s => by rw [Nat.add_right_comm]; show bitN (m + n) (bit1 s) = _; rw [bitN_add m n]; rfl
theorem bitN_byte (s : Nat) : bitN 8 s = nib (nib s) := by rw [bitN_add 4 4, bitN_nib, bitN_nib]

theorem bitN_succ (n s : Nat) : bitN (n + 1) s = bit1 (bitN n s) := bitN_add n 1 s

/-! ### a byte that is another one has another sum -/
theorem tab_top0 : ∀ i, i < 16 → ∀ j, j < 16 → tab i / 268435456 = tab j / 268435456 → i = j := by decide
theorem tab_top (i j : Nat) (hi : i < 16) (hj : j < 16) (h : tab i / 268435456 = tab j / 268435456) : i = j := tab_top0 i hi j hj h
theorem xor_left_cancel {a b c : Nat} (h : a ^^^ c = b ^^^ c) : a = b := by
  have e := congrArg (· ^^^ c) h
  simpa [Nat.xor_assoc] using e
theorem xor_right_cancel {a b c : Nat} (h : c ^^^ a = c ^^^ b) : a = b := by rw [Nat.xor_comm c, Nat.xor_comm c] at h; exact xor_left_cancel h
theorem nib_inj {s t : Nat} (hs : s < 4294967296) (ht : t < 4294967296) (h : nib s = nib t) : s = t := by
  unfold nib at h
  have e := congrArg (· / 2 ^ 28) h
  simp only [Nat.xor_div_two_pow] at e
  have p : (2 : Nat) ^ 28 = 268435456 := rfl
  rw [p, Nat.div_eq_of_lt (show s / 16 < 268435456 by omega), Nat.div_eq_of_lt (show t / 16 < 268435456 by omega), Nat.zero_xor, Nat.zero_xor] at e
  have e2 := tab_top (s % 16) (t % 16) (by omega) (by omega) e
  rw [e2] at h
  have e3 := xor_left_cancel h
  omega
theorem crcB_inj_state {s t : Nat} {b : UInt8} (hs : s < 4294967296) (ht : t < 4294967296) (h : crcB s b = crcB t b) : s = t := by
  unfold crcB at h
  have e1 := nib_inj (nib_lt (xorb_lt hs b)) (nib_lt (xorb_lt ht b)) h
  have e2 := nib_inj (xorb_lt hs b) (xorb_lt ht b) e1
  exact xor_left_cancel e2
theorem crcB_inj_byte {s : Nat} {b c : UInt8} (hs : s < 4294967296) (h : crcB s b = crcB s c) : b = c := by
  unfold crcB at h
  have e1 := nib_inj (nib_lt (xorb_lt hs b)) (nib_lt (xorb_lt hs c)) h
  have e2 := nib_inj (xorb_lt hs b) (xorb_lt hs c) e1
  exact UInt8.toNat_inj.1 (xor_right_cancel e2)
theorem crcL_inj (bs : List UInt8) : ∀ {s t : Nat}, s < 4294967296 → t < 4294967296 → crcL s bs = crcL t bs → s = t := by
  induction bs with
  | nil => intro s t _ _ h; exact h
  | cons b r ih => intro s t hs ht h; exact crcB_inj_state hs ht (ih (crcB_lt hs b) (crcB_lt ht b) h)
theorem sum_ne (p : List UInt8) (b c : UInt8) (r : List UInt8) (h : b ≠ c) : sumOf (p ++ b :: r) ≠ sumOf (p ++ c :: r) := by
  intro e
  unfold sumOf at e
  have h0 : (4294967295 : Nat) < 4294967296 := by omega
  have l1 := crcL_lt (p ++ b :: r) h0
  have l2 := crcL_lt (p ++ c :: r) h0
  have e1 : crcL 4294967295 (p ++ b :: r) = crcL 4294967295 (p ++ c :: r) := by omega
  rw [crcL_append, crcL_append] at e1
  have lp := crcL_lt p h0
  exact h (crcB_inj_byte lp (crcL_inj r (crcB_lt lp b) (crcB_lt lp c) e1))
theorem sum_set_ne (bs : List UInt8) (j : Nat) (hj : j < bs.length) (c : UInt8) (h : bs[j] ≠ c) : sumOf (bs.set j c) ≠ sumOf bs := by
  have e1 : bs = bs.take j ++ bs[j] :: bs.drop (j + 1) := by rw [← List.drop_eq_getElem_cons hj, List.take_append_drop]
  have e2 : bs.set j c = bs.take j ++ c :: bs.drop (j + 1) := List.set_eq_take_append_cons_drop .. |>.trans (by rw [if_pos hj])
  rw [e2]
  conv => rhs; rw [e1]
  exact fun h' => sum_ne (bs.take j) bs[j] c (bs.drop (j + 1)) h h'.symm
end Go.Proofs.YtbokimeojhkgmaaDoor

/-
  Batches as bytes, and read back: mathematics. No statement of the seat is proved here.
-/
namespace Go.Proofs.YtbokimeojhkgmaaDoor
open Go Go.RowKit
set_option maxRecDepth 100000

def isB (b : Bt) : Bool := decide (0 ≤ b.first ∧ b.first ≤ 34359738368 ∧ 1 ≤ b.lines.length ∧ b.lines.length ≤ 64) && !(b.lines.any fun s => decide (256 < s.length))
theorem isB_iff (b : Bt) : isB b = true ↔ (0 ≤ b.first ∧ b.first ≤ 34359738368 ∧ 1 ≤ b.lines.length ∧ b.lines.length ≤ 64) ∧ ∀ s ∈ b.lines, s.length ≤ 256 := by
  unfold isB
  rw [Bool.and_eq_true, decide_eq_true_eq, Bool.not_eq_true', List.any_eq_false]
  exact and_congr Iff.rfl ⟨fun h s hs => by have := h s hs; simp at this; exact this, fun h s hs => by have := h s hs; simp; exact this⟩
/-- what is summed -/
def bodyB (b : Bt) : List UInt8 := numsB [b.first, (b.lines.length : Int)] ++ rowsB b.lines
def encB (b : Bt) : List UInt8 := sealB (bodyB b)
/-! ### reading -/
theorem stNum_dig (n : Nat) (r : List UInt8) (h : n ≤ 4611686018427387904) : stNum (dig n ++ r) false = (n, r, false) := by
  have e := num_dig n r h
  simp [stNum, e, resN, restOf, badOf]
theorem stRaw_at (xs r : List UInt8) : stRaw (xs ++ r) false (xs.length : Int) = (xs, r, false) := by
  unfold stRaw
  rw [if_neg (by simp; omega)]
  simp
theorem stBytes_row (xs r : List UInt8) (h : xs.length ≤ 4611686018427387904) : stBytes (dig xs.length ++ xs ++ r) false = (xs, r, false) := by
  unfold stBytes
  rw [List.append_assoc, stNum_dig _ _ h]
  exact stRaw_at xs r
/-- so many rows, as long as nothing errs -/
def takeR : Nat → List UInt8 → Bool → List (List UInt8) × List UInt8 × Bool
  | 0, bs, bad => ([], bs, bad)
  | k + 1, bs, bad => if bad = true then ([], bs, bad) else
    ((stBytes bs bad).1 :: (takeR k (stBytes bs bad).2.1 (stBytes bs bad).2.2).1, (takeR k (stBytes bs bad).2.1 (stBytes bs bad).2.2).2)
theorem takeR_bad (k : Nat) (bs : List UInt8) : takeR k bs true = ([], bs, true) := by cases k <;> simp [takeR]
theorem takeR_zero (bs : List UInt8) (bad : Bool) : takeR 0 bs bad = ([], bs, bad) := rfl
theorem takeR_succ (k : Nat) (bs : List UInt8) : takeR (k + 1) bs false = ((stBytes bs false).1 :: (takeR k (stBytes bs false).2.1 (stBytes bs false).2.2).1, (takeR k (stBytes bs false).2.1 (stBytes bs false).2.2).2) := by
  rw [takeR, if_neg (by simp)]
theorem takeR_rows : ∀ (l : List (List UInt8)) (r : List UInt8), (∀ s ∈ l, s.length ≤ 4611686018427387904) → takeR l.length (rowsB l ++ r) false = (l, r, false)
  | [], r, _ => by simp [takeR, rowsB]
  | s :: l, r, h => by
    have e : rowsB (s :: l) ++ r = dig s.length ++ s ++ (rowsB l ++ r) := by simp [rowsB]
    have h1 := h s (List.mem_cons_self ..)
    rw [List.length_cons, takeR_succ, e, stBytes_row _ _ h1, takeR_rows l r (fun t ht => h t (List.mem_cons_of_mem _ ht))]
theorem stNum_good {bs : List UInt8} (h : (stNum bs false).2.2 = false) : (stNum bs false).2.1.length + 1 ≤ bs.length := by
  unfold stNum at h ⊢
  rw [if_neg (by simp)] at h ⊢
  rcases hR : num? bs with _ | ⟨n, k⟩
  · rw [hR] at h; simp [badOf] at h
  · obtain ⟨h1, h2, _⟩ := num_bounds hR
    rw [hR] at h
    simp [restOf]
    omega
theorem stBytes_good {bs : List UInt8} (h : (stBytes bs false).2.2 = false) : (stBytes bs false).2.1.length + 1 ≤ bs.length := by
  unfold stBytes at h ⊢
  have h1 : (stNum bs false).2.2 = false := by
    cases hb : (stNum bs false).2.2 with
    | false => rfl
    | true => rw [hb] at h; simp [stRaw] at h
  have h2 := stNum_good h1
  have h3 := (stRaw_len (stNum bs false).2.1 (stNum bs false).2.2 ((stNum bs false).1 : Int)).1
  omega
theorem stBytes_bad {bs : List UInt8} {bad : Bool} (h : (stBytes bs bad).2.2 = true) : (stBytes bs bad).2.1 = [] := by
  unfold stBytes stRaw at h ⊢
  split at h
  · rename_i hc; rw [if_pos hc]
  · simp at h

/-- what stands at the beginning: a number, how many rows, the rows -/
def first? (p : List UInt8) : Nat := (stNum p false).1
def rest1 (p : List UInt8) : List UInt8 × Bool := (stNum p false).2
def count? (p : List UInt8) : Nat := (stNum (rest1 p).1 (rest1 p).2).1
def rest2 (p : List UInt8) : List UInt8 × Bool := (stNum (rest1 p).1 (rest1 p).2).2
theorem rest1_len (p : List UInt8) : (rest1 p).1.length ≤ p.length := stNum_len p false
theorem rest2_len (p : List UInt8) : (rest2 p).1.length ≤ p.length := Nat.le_trans (stNum_len (rest1 p).1 (rest1 p).2) (rest1_len p)
theorem first_le (p : List UInt8) : first? p ≤ 4611686018427387904 := stNum_le p false
theorem count_le (p : List UInt8) : count? p ≤ 4611686018427387904 := stNum_le _ _
theorem read_body {b : Bt} (hb : isB b = true) (r : List UInt8) : (first? (bodyB b ++ r) : Int) = b.first ∧ count? (bodyB b ++ r) = b.lines.length ∧ takeR b.lines.length (rest2 (bodyB b ++ r)).1 (rest2 (bodyB b ++ r)).2 = (b.lines, r, false) := by
  obtain ⟨⟨h1, h2, h3, h4⟩, h5⟩ := (isB_iff b).1 hb
  obtain ⟨n, hn⟩ : ∃ n : Nat, b.first = n := ⟨b.first.toNat, by omega⟩
  have e : bodyB b ++ r = dig n ++ (dig b.lines.length ++ (rowsB b.lines ++ r)) := by
    unfold bodyB numsB
    rw [hn]
    simp only [List.flatMap_cons, List.flatMap_nil, List.append_nil, clamp_of_nat (show n ≤ 4611686018427387904 by omega), clamp_of_nat (show b.lines.length ≤ 4611686018427387904 by omega)]
    simp
  have s1 : stNum (bodyB b ++ r) false = (n, dig b.lines.length ++ (rowsB b.lines ++ r), false) := by rw [e]; exact stNum_dig _ _ (by omega)
  have s2 : stNum (dig b.lines.length ++ (rowsB b.lines ++ r)) false = (b.lines.length, rowsB b.lines ++ r, false) := stNum_dig _ _ (by omega)
  have q1 : rest1 (bodyB b ++ r) = (dig b.lines.length ++ (rowsB b.lines ++ r), false) := by unfold rest1; rw [s1]
  refine ⟨?_, ?_, ?_⟩
  · unfold first?; rw [s1, hn]
  · unfold count?; rw [q1]; simp only; rw [s2]
  · unfold rest2; rw [q1]; simp only; rw [s2]; exact takeR_rows _ _ (fun s hs => by have := h5 s hs; omega)

/-- the batch that bytes are -/
def AreB (p : List UInt8) (b : Bt) : Prop := isB b = true ∧ encB b = p
theorem AreB.read {p : List UInt8} {b : Bt} (h : AreB p b) : (first? p : Int) = b.first ∧ count? p = b.lines.length ∧ takeR b.lines.length (rest2 p).1 (rest2 p).2 = (b.lines, lowB 4 (sumOf (bodyB b)), false) := by
  have := read_body h.1 (lowB 4 (sumOf (bodyB b)))
  have e : bodyB b ++ lowB 4 (sumOf (bodyB b)) = p := h.2
  rw [e] at this
  exact this
theorem Bt.ext' {a b : Bt} (h1 : a.first = b.first) (h2 : a.lines = b.lines) : a = b := by cases a; cases b; simp_all
theorem AreB.unique {p : List UInt8} {a b : Bt} (ha : AreB p a) (hb : AreB p b) : a = b := by
  obtain ⟨a1, a2, a3⟩ := ha.read
  obtain ⟨b1, b2, b3⟩ := hb.read
  rw [← a2] at a3
  rw [← b2, a3] at b3
  exact Bt.ext' (a1.symm.trans b1) (congrArg Prod.fst b3)
/-- what is read with at most 65 rows, and with all -/
def got (p : List UInt8) (n : Nat) : Bt := ⟨(first? p : Int), (takeR n (rest2 p).1 (rest2 p).2).1⟩
theorem AreB.got {p : List UInt8} {b : Bt} (h : AreB p b) : got p (count? p) = b ∧ got p (min (count? p) 65) = b ∧ (takeR (count? p) (rest2 p).1 (rest2 p).2).2.2 = false := by
  obtain ⟨h1, h2, h3⟩ := h.read
  obtain ⟨⟨_, _, _, h4⟩, _⟩ := (isB_iff b).1 h.1
  have e : min (count? p) 65 = b.lines.length := by omega
  refine ⟨Bt.ext' h1 ?_, Bt.ext' h1 ?_, ?_⟩
  · show (takeR (count? p) (rest2 p).1 (rest2 p).2).1 = b.lines
    rw [h2, h3]
  · show (takeR (min (count? p) 65) (rest2 p).1 (rest2 p).2).1 = b.lines
    rw [e, h3]
  · rw [h2, h3]
open Classical in
/-- what Decode says -/
noncomputable def decB (p : List UInt8) : Bt × Int := if h : ∃ b, AreB p b then (Classical.choose h, 0) else (⟨0, []⟩, 2)
theorem decB_yes {p : List UInt8} {b : Bt} (h : AreB p b) : decB p = (b, 0) := by
  unfold decB
  have hx : ∃ b, AreB p b := ⟨b, h⟩
  rw [dif_pos hx, (Classical.choose_spec hx).unique h]
theorem decB_no {p : List UInt8} (h : ∀ b, ¬ AreB p b) : decB p = (⟨0, []⟩, 2) := by
  unfold decB
  rw [dif_neg (fun ⟨b, hb⟩ => h b hb)]
/-- .. by the program's way -/
theorem decB_got (p : List UInt8) : (AreB p (got p (min (count? p) 65)) → decB p = (got p (min (count? p) 65), 0)) ∧ (¬ AreB p (got p (min (count? p) 65)) → decB p = (⟨0, []⟩, 2)) :=
  ⟨decB_yes, fun h => decB_no fun b hb => h (by rw [hb.got.2.1]; exact hb)⟩
/-- .. by the document's -/
theorem decB_all (p : List UInt8) : (AreB p (got p (count? p)) → decB p = (got p (count? p), 0) ∧ (takeR (count? p) (rest2 p).1 (rest2 p).2).2.2 = false) ∧ (¬ AreB p (got p (count? p)) ∨ (takeR (count? p) (rest2 p).1 (rest2 p).2).2.2 = true → decB p = (⟨0, []⟩, 2)) := by
  refine ⟨fun h => ⟨decB_yes h, h.got.2.2⟩, fun h => decB_no fun b hb => ?_⟩
  have hg := hb.got
  rcases h with h | h
  · exact h (by rw [hg.1]; exact hb)
  · rw [hg.2.2] at h; cases h

/-! ### spoilt, cut -/
theorem cut_none {b : Bt} (hb : isB b = true) {k : Nat} (hk : k < (encB b).length) : decB ((encB b).take k) = (⟨0, []⟩, 2) := decB_no fun a ha => by
  have e : encB b = encB a ++ (encB b).drop k := by rw [ha.2, List.take_append_drop]
  have e2 : encB b = bodyB a ++ (lowB 4 (sumOf (bodyB a)) ++ (encB b).drop k) := by rw [← List.append_assoc]; exact e
  obtain ⟨a1, a2, a3⟩ := read_body ha.1 (lowB 4 (sumOf (bodyB a)) ++ (encB b).drop k)
  rw [← e2] at a1 a2 a3
  have hB : AreB (encB b) b := ⟨hb, rfl⟩
  obtain ⟨b1, b2, b3⟩ := hB.read
  rw [← a2] at a3
  rw [← b2, a3] at b3
  have hab : a = b := Bt.ext' (a1.symm.trans b1) (congrArg Prod.fst b3)
  have h2 := congrArg List.length ha.2
  rw [hab, List.length_take] at h2
  omega
theorem spoilt_none {b : Bt} (hb : isB b = true) {j : Nat} (hj : j < (encB b).length) {c : UInt8} (hc : (encB b)[j] ≠ c) : decB ((encB b).set j c) = (⟨0, []⟩, 2) := decB_no fun a ha => by
  have hlen : (bodyB a).length = (bodyB b).length := by
    have := congrArg List.length ha.2
    unfold encB at this
    rw [List.length_set, sealB_length, sealB_length] at this
    omega
  have he : bodyB a ++ lowB 4 (sumOf (bodyB a)) = (bodyB b ++ lowB 4 (sumOf (bodyB b))).set j c := ha.2
  have hj2 : j < (bodyB b).length + 4 := by unfold encB at hj; rw [sealB_length] at hj; exact hj
  by_cases hjl : j < (bodyB b).length
  · rw [List.set_append_left _ _ hjl] at he
    have h1 := (List.append_inj he (by rw [hlen, List.length_set])).1
    have h2 := (List.append_inj he (by rw [hlen, List.length_set])).2
    have h3 := lowB_inj (k := 4) (show sumOf (bodyB a) < 256 ^ 4 by have := sumOf_lt (bodyB a); omega) (show sumOf (bodyB b) < 256 ^ 4 by have := sumOf_lt (bodyB b); omega) h2
    rw [h1] at h3
    refine sum_set_ne (bodyB b) j hjl c ?_ h3
    intro h
    apply hc
    rw [← h]
    exact List.getElem_append_left hjl
  · rw [List.set_append_right _ _ (by omega)] at he
    have h1 := (List.append_inj he hlen).1
    have h2 := (List.append_inj he hlen).2
    rw [h1] at h2
    have h4 : j - (bodyB b).length < (lowB 4 (sumOf (bodyB b))).length := by rw [lowB_length]; omega
    apply hc
    have h5 : (encB b)[j] = (lowB 4 (sumOf (bodyB b)))[j - (bodyB b).length]'h4 := List.getElem_append_right (by omega)
    rw [h5]
    have h6 := congrArg (fun l => l[j - (bodyB b).length]?) h2
    simp only [List.getElem?_set_self h4] at h6
    rw [List.getElem?_eq_getElem h4] at h6
    exact Option.some.inj h6
end Go.Proofs.YtbokimeojhkgmaaDoor
