/-
  Texts of this claim, joined (part 21): contracts and lemmas that the last text goes by. No statement of the seat is proved here.
-/
import Derived.Test.YtpjgkacekelkdaaGreatDoorAll17
import Derived.Test.YtpjgkacekelkdaaGreatDoorAll20
import Derived.Test.YtpjgkacekelkdaaGreatDoorAll12
import Derived.Test.YtpjgkacekelkdaaGreatDoorAll13
import Derived.Deep.RegionHeld3
set_option linter.unusedVariables false
set_option linter.unusedSimpArgs false
/-
  Decode (reference). No statement of the seat is proved here.
-/
namespace Go.Proofs.YtpjgkacekelkdaaGreatDoor
open Go Go.RowKit
set_option maxRecDepth 100000

theorem fresh_growU {w0 X w4 : World} {A A4 : Option Addr} (hb : Below w0.heap.size w0 X) (ho : Only (inA A) X w4) (hA : ∀ q, inA A4 q → inA A q ∨ (X.heap.size ≤ q ∧ q < w4.heap.size)) (hn : ∀ q, inA A q → w0.heap.size ≤ q) : Below w0.heap.size w0 w4 ∧ ∀ q, inA A4 q → w0.heap.size ≤ q :=
  ⟨hb.trans (ho.below hn hb.size), fun q hq => (hA q hq).elim (hn q) (fun h => Nat.le_trans hb.size h.1)⟩
/-- a row that is read, in a block older than N -/
structure RdO (N : Nat) (w : World) (A : Option Addr) (xs : List Value) : Prop where
  rd : Rd w A xs
  old : ∀ ad, A = some ad → xs ≠ [] → ad.block < N
section
variable {N : Nat} {w w' : World} {A D : Option Addr} {xs : List Value}
theorem RdO.of (h : Rd w A xs) : RdO w.heap.size w A xs := ⟨h, fun ad e hne => by
  obtain ⟨ad', e', hcell⟩ := h.at_ (k := 0) (List.length_pos_iff.2 hne)
  rw [e] at e'
  injection e' with e'
  subst e'
  have hl := World.block_lt_of_cell? w _ hcell
  rwa [block_add] at hl⟩
theorem RdO.ext (h : RdO N w A xs) (hb : Below w.heap.size w w') : RdO N w' A xs := ⟨h.rd.ext hb, h.old⟩
theorem RdO.only (h : RdO N w A xs) (ho : Only (inA D) w w') (hD : ∀ k, inA D k → N ≤ k) : RdO N w' A xs := ⟨h.rd.only ho (fun ad e hne hk => by have h1 := hD _ hk; have h2 := h.old ad e hne; omega), h.old⟩
theorem RdO.set (h : RdO N w A xs) {p : Addr} {u : Value} (hu : w.cell? p = some u) (hk : ∀ x ∈ xs, x ≠ u) (v : Value) : RdO N (w.setCell p v) A xs := ⟨fun j x hx => by
  obtain ⟨ad, e, hc⟩ := h.rd j x hx
  refine ⟨ad, e, ?_⟩
  have hne : p ≠ ad.add j := fun hp => by
    rw [hp, hc] at hu
    injection hu with hu
    exact hk x (List.mem_of_getElem? hx) hu
  exact (World.cell?_setCell_other (h := hne) ..).trans hc, h.old⟩
theorem RdO.cut (h : RdO N w A xs) {k cap : Nat} (hc : xs.length ≤ cap) : RdO N w (if cap = k then A else A.map (·.add k)) (xs.drop k) := ⟨by have h1 := h.rd.cut (k := k) hc; rwa [Nat.mul_one] at h1, fun ad e hne => by
  have hx : xs ≠ [] := fun hx => hne (by rw [hx, List.drop_nil])
  by_cases hk : cap = k
  · rw [if_pos hk] at e; exact h.old ad e hx
  · rw [if_neg hk] at e
    rcases A with _ | a
    · cases e
    · injection e with e
      rw [← e, block_add]
      exact h.old a rfl hx⟩
end
theorem iv_kind (l : List Int) {B : Option Addr} {n c : Nat} : ∀ x ∈ l.map iv, x ≠ .slice B n c := fun x hx h => by
  obtain ⟨v, _, rfl⟩ := List.mem_map.1 hx
  cases h
theorem strV_kind (l : List (List UInt8)) {B : Option Addr} {n c : Nat} : ∀ x ∈ l.map strV, x ≠ .slice B n c := fun x hx h => by
  obtain ⟨v, _, rfl⟩ := List.mem_map.1 hx
  cases h
theorem rd_atU {w : World} {ad : Addr} {l : List Int} (h : Rd w (some ad) (l.map iv)) {k : Nat} (hk : k < l.length) : w.cell? (ad.add k) = some (.int .i64 l[k]) := by
  obtain ⟨a, e, hc⟩ := rd_intG h hk
  injection e with e
  rw [e]; exact hc

set_option maxHeartbeats 16000000 in
theorem rdecodeG_any (p : List UInt8) (A : Option Addr) (ca : Nat) (w : World) (hA : Rd w A (p.map bv)) (hc : p.length ≤ ca) (hp : p.length ≤ 900000) :
    Calls Tryz.prog 15 #[.slice A p.length ca] w fun e w' => ∃ B' c', e = .returned (.tuple #[sgV (decG p).1 B' c', .int .i64 (decG p).2]) ∧ SgIn w' (decG p).1 B' c' ∧ Below w.heap.size w w' := by
  obtain ⟨hi1, hi2⟩ := decR_okG (row1 p).1
  obtain ⟨hj1, hj2⟩ := decR_okG (row2 p).1
  obtain ⟨hv1, hv2⟩ := (mayD_iff _).1 (decD_may (p := (row3 p).1))
  have l1 := row1_len p
  have l2 := row2_len p
  have l3 := row3_len p
  have lf := fstG_le p
  have HNm : Hid (∀ fp g W, RRd W fp g p false → Calls Tryz.prog 40 #[.pointer (some ⟨g, 0, none⟩)] W fun e w' => e = .returned (.int .i64 (fstG p : Int)) ∧ RRd w' fp g (stNum p false).2.1 (stNum p false).2.2 ∧ Only (fun k => k = g) W w') := Lib.hid (fun fp g W h => refnum_st fp g p false W h (by omega))
  have HB1 : Hid (∀ fp g W, RRd W fp g (stNum p false).2.1 (stNum p false).2.2 → Calls Tryz.prog 42 #[.pointer (some ⟨g, 0, none⟩)] W fun e w' => ∃ A' c', e = .returned (.slice A' (row1 p).1.length c') ∧ New W w' A' c' (row1 p).1 ∧ RRd w' fp g (row1 p).2.1 (row1 p).2.2 ∧ Only (fun k => k = g) W w') := Lib.hid (fun fp g W h => refbytes_st fp g _ _ W h (by have := stNum_len p false; omega))
  have HB2 : Hid (∀ fp g W, RRd W fp g (row1 p).2.1 (row1 p).2.2 → Calls Tryz.prog 42 #[.pointer (some ⟨g, 0, none⟩)] W fun e w' => ∃ A' c', e = .returned (.slice A' (row2 p).1.length c') ∧ New W w' A' c' (row2 p).1 ∧ RRd w' fp g (row2 p).2.1 (row2 p).2.2 ∧ Only (fun k => k = g) W w') := Lib.hid (fun fp g W h => refbytes_st fp g _ _ W h (by omega))
  have HB3 : Hid (∀ fp g W, RRd W fp g (row2 p).2.1 (row2 p).2.2 → Calls Tryz.prog 42 #[.pointer (some ⟨g, 0, none⟩)] W fun e w' => ∃ A' c', e = .returned (.slice A' (row3 p).1.length c') ∧ New W w' A' c' (row3 p).1 ∧ RRd w' fp g (row3 p).2.1 (row3 p).2.2 ∧ Only (fun k => k = g) W w') := Lib.hid (fun fp g W h => refbytes_st fp g _ _ W h (by omega))
  have HD1 := Lib.hid (fun A a W h h2 => rdecode_any (row1 p).1 A a W h h2 (by omega))
  have HD2 := Lib.hid (fun A a W h h2 => rdecode_any (row2 p).1 A a W h h2 (by omega))
  have HD3 := Lib.hid (fun A a W h h2 => rdecodeD_any (row3 p).1 A a W h h2 (by omega))
  have HBad : Hid (((row3 p).2.2 = true ∨ (decR (row1 p).1).2 ≠ 0 ∨ (decR (row2 p).1).2 ≠ 0 ∨ (decD (row3 p).1).2 ≠ 0 ∨ (decR (row1 p).1).1.length ≠ (decR (row2 p).1).1.length ∨
      (∃ k, k < (decR (row1 p).1).1.length ∧ ((linesK (decR (row1 p).1).1 (decR (row2 p).1).1 (decD (row3 p).1).1 k).2.length : Int) < (decR (row2 p).1).1.getD k 0) ∨ (linesK (decR (row1 p).1).1 (decR (row2 p).1).1 (decD (row3 p).1).1 (decR (row1 p).1).1.length).2 ≠ []) → decG p = (⟨0, []⟩, 2)) := Lib.hid decG_bad
  have HGot : Hid (decG p = if (ansG ⟨(fstG p : Int), (linesK (decR (row1 p).1).1 (decR (row2 p).1).1 (decD (row3 p).1).1 (min (decR (row1 p).1).1.length (decR (row2 p).1).1.length)).1⟩).2 = 0 ∧ decide ((ansG ⟨(fstG p : Int), (linesK (decR (row1 p).1).1 (decR (row2 p).1).1 (decD (row3 p).1).1 (min (decR (row1 p).1).1.length (decR (row2 p).1).1.length)).1⟩).1 = p) = true then (⟨(fstG p : Int), (linesK (decR (row1 p).1).1 (decR (row2 p).1).1 (decD (row3 p).1).1 (min (decR (row1 p).1).1.length (decR (row2 p).1).1.length)).1⟩, 0) else (⟨0, []⟩, 2)) := Lib.hid (decG_got p)
  have Hv1 := Lib.hid hv1
  have Hv2 := Lib.hid hv2
  have Hi1 := Lib.hid hi1
  have Hj2 := Lib.hid hj2
  have Hi2 := Lib.hid hi2
  have HA := Lib.hid hA
  have Hlf := Lib.hid lf
  have Hp := Lib.hid hp
  generalize decR (row1 p).1 = R1 at *
  generalize decR (row2 p).1 = R2 at *
  generalize decD (row3 p).1 = R3 at *
  obtain ⟨ids, e1⟩ := R1
  obtain ⟨cnt, e2⟩ := R2
  obtain ⟨vars, e3⟩ := R3
  simp only at HD1 HD2 HD3 HBad HGot Hv1 Hv2 Hi1 Hi2 Hj2
  generalize decG p = R at *
  generalize fstG p = f at *
  generalize row1 p = q1 at *
  generalize row2 p = q2 at *
  generalize row3 p = q3 at *
  generalize stNum p false = q0 at *
  obtain ⟨w0, hw0⟩ : ∃ w0, w0 = w.alloc (.cells #[.int .i64 0, .slice none 0 0] 32) := ⟨_, rfl⟩
  have Hb0 : Hid (Below w.heap.size w w0) := Lib.hid (by rw [hw0]; exact ext_alloc (Below.refl _ _) _)
  have HZ0 : Hid (w0.heap.size = w.heap.size + 1) := Lib.hid (by rw [hw0, World.size_alloc])
  have HB0 : Hid (Blk w0 w.heap.size 32 #[.int .i64 0, .slice none 0 0]) := Lib.hid (by rw [hw0]; exact Blk.new _ _ _)
  obtain ⟨w1, hw1⟩ : ∃ w1, w1 = w0.alloc (.cells #[.slice A p.length ca, .bool false] 83) := ⟨_, rfl⟩
  have Hb1 : Hid (Below w0.heap.size w0 w1) := Lib.hid (by rw [hw1]; exact ext_alloc (Below.refl _ _) _)
  have HR1 : Hid (RRd w1 (fun k => k < w0.heap.size ∨ k = w0.heap.size) w0.heap.size p false) := Lib.hid (by
    have hA0 := hA.ext Hb0.out
    refine ⟨.inr rfl, (fun h => by cases h), A, ca, ?_, hA0.ext Hb1.out, fun ad e hne => ?_, hc⟩
    · rw [hw1]; exact Blk.new _ _ _
    · obtain ⟨ad', e', hcell⟩ := hA0.at_ (k := 0) (by have := List.length_pos_iff.2 hne; simpa using this)
      rw [e] at e'; injection e' with e'; subst e'
      have hl := World.block_lt_of_cell? w0 _ hcell
      rw [block_add] at hl
      exact ⟨.inl hl, by omega⟩)
  have Hw0 := Lib.hid hw0
  have Hw1 := Lib.hid hw1
  obtain ⟨gr, hgr⟩ : ∃ gr, w0.heap.size = gr := ⟨_, rfl⟩
  have hgr1 : w.heap.size + 1 = gr := by rw [← hgr]; exact HZ0.out.symm
  rw [hgr] at HR1
  have Hgr := Lib.hid hgr
  unfold sgV
  clear hi1 hi2 hj1 hj2 hv1 hv2 l1 l2 l3 lf hA hp hc hw0 hw1 hgr
  have Hgr1 := Lib.hid hgr1
  clear hgr1
  go_enter Tryz.func15, Tryz.ntmps15
  go_wp2_with fail
  rw [← Hw0.out, ← Hw1.out]
  rw [Hgr1.out]
  have HX := Lib.hid (HNm.out _ gr w1 HR1.out)
  clear HNm
  refine HX.out.mono ?_
  rintro e w2 ⟨rfl, hr2, ho2⟩
  have Hb2 : Hid (Below w0.heap.size w0 w2) := Lib.hid (Hb1.out.trans (ho2.below (fun i hi => by have := Hgr.out; omega) Hb1.out.size))
  have Hg2 : Hid (gr < w2.heap.size) := Lib.hid hr2.lt
  obtain ⟨w3, hw3⟩ : ∃ w3, w3 = w2.alloc (.cells #[.int .i64 (f : Int), .slice none 0 0] 32) := ⟨_, rfl⟩
  have hb3 : Below w2.heap.size w2 w3 := by rw [hw3]; exact ext_alloc (Below.refl _ _) _
  obtain ⟨gs, hgs⟩ : ∃ gs, w2.heap.size = gs := ⟨_, rfl⟩
  have HS3 : Hid (Blk w3 gs 32 #[.int .i64 (f : Int), .slice none 0 0]) := Lib.hid (by rw [hw3, ← hgs]; exact Blk.new _ _ _)
  have Hgs : Hid (gr ≠ gs ∧ w0.heap.size ≤ gs) := Lib.hid (by have := Hg2.out; have := Hgr.out; omega)
  have Hb3 := Lib.hid (ext_trans Hb2.out hb3)
  have HX := Lib.hid (HB1.out _ gr w3 (hr2.ext hb3))
  have Hw3 := Lib.hid hw3
  have Hgs1 := Lib.hid hgs
  clear hr2 ho2 hb3 hw3 HB1 hgs
  go_wp2_with fail
  rw [← Hw3.out]
  rw [Hgs1.out]
  refine HX.out.mono ?_
  rintro e w4 ⟨A4, c4, rfl, hn4, hr4, ho4⟩
  have hc4 : q1.1.length ≤ c4 := by have := Own.cap hn4; simpa using this
  have HX := Lib.hid (HD1.out A4 c4 w4 hn4.rd hc4)
  have Hr4 := Lib.hid hr4
  have Hb4 : Hid (Below w0.heap.size w0 w4) := Lib.hid (Hb3.out.trans (ho4.below (fun i hi => by have := Hgr.out; omega) Hb3.out.size))
  have HS4 := Lib.hid (HS3.out.only ho4 (fun h => Hgs.out.1 h.symm))
  clear hn4 hr4 ho4 hc4 HD1
  go_wp2_with fail
  refine HX.out.mono ?_
  rintro e w5 ⟨B1, d1, rfl, hq1, hb5⟩
  have HP1 := Lib.hid hq1
  have Hb5 := Lib.hid (ext_trans Hb4.out hb5)
  have HS5 := Lib.hid (HS4.out.ext hb5)
  have hr5 := Hr4.out.ext hb5
  have HRb : Hid (∃ X x y, Blk w5 gr 83 #[.slice X x y, .bool q1.2.2]) := Lib.hid (by obtain ⟨_, _, X, y, hb, _⟩ := hr5; exact ⟨X, _, y, hb⟩)
  obtain ⟨Xr, xr, yr, hRb⟩ := HRb.out
  have HRb := Lib.hid hRb
  have HX := Lib.hid (HB2.out _ gr w5 hr5)
  clear hq1 hb5 hr5 hRb HB2
  go_wp2_with fail
  refine HX.out.mono ?_
  rintro e w6 ⟨A6, c6, rfl, hn6, hr6, ho6⟩
  have hc6 : q2.1.length ≤ c6 := by have := Own.cap hn6; simpa using this
  have HX := Lib.hid (HD2.out A6 c6 w6 hn6.rd hc6)
  have Hr6 := Lib.hid hr6
  have Hb6 : Hid (Below w0.heap.size w0 w6) := Lib.hid (Hb5.out.trans (ho6.below (fun i hi => by have := Hgr.out; omega) Hb5.out.size))
  have HS6 := Lib.hid (HS5.out.only ho6 (fun h => Hgs.out.1 h.symm))
  have HP1 := Lib.hid (HP1.out.only ho6 (fun ad e hne h => rd_ne HP1.out HRb.out (iv_ne _ rdr_ne) ad e hne h))
  clear hn6 hr6 ho6 hc6 HD2
  go_wp2_with fail
  refine HX.out.mono ?_
  rintro e w7 ⟨B2, d2, rfl, hq2, hb7⟩
  have HP2 := Lib.hid hq2
  have Hb7 := Lib.hid (ext_trans Hb6.out hb7)
  have HS7 := Lib.hid (HS6.out.ext hb7)
  have HP1 := Lib.hid (HP1.out.ext hb7)
  have hr7 := Hr6.out.ext hb7
  have HRb : Hid (∃ X x y, Blk w7 gr 83 #[.slice X x y, .bool q2.2.2]) := Lib.hid (by obtain ⟨_, _, X, y, hb, _⟩ := hr7; exact ⟨X, _, y, hb⟩)
  obtain ⟨Xr, xr, yr, hRb⟩ := HRb.out
  have HRb := Lib.hid hRb
  have HX := Lib.hid (HB3.out _ gr w7 hr7)
  clear hq2 hb7 hr7 hRb HB3
  go_wp2_with fail
  refine HX.out.mono ?_
  rintro e w8 ⟨A8, c8, rfl, hn8, hr8, ho8⟩
  have hc8 : q3.1.length ≤ c8 := by have := Own.cap hn8; simpa using this
  have HX := Lib.hid (HD3.out A8 c8 w8 hn8.rd hc8)
  have Hr8 := Lib.hid hr8
  have Hb8 : Hid (Below w0.heap.size w0 w8) := Lib.hid (Hb7.out.trans (ho8.below (fun i hi => by have := Hgr.out; omega) Hb7.out.size))
  have HS8 := Lib.hid (HS7.out.only ho8 (fun h => Hgs.out.1 h.symm))
  have HP1 := Lib.hid (HP1.out.only ho8 (fun ad e hne h => rd_ne HP1.out HRb.out (iv_ne _ rdr_ne) ad e hne h))
  have HP2 := Lib.hid (HP2.out.only ho8 (fun ad e hne h => rd_ne HP2.out HRb.out (iv_ne _ rdr_ne) ad e hne h))
  clear hn8 hr8 ho8 hc8 HD3
  go_wp2_with fail
  refine HX.out.mono ?_
  rintro e w9 ⟨C, d3, rfl, hq3, hb9⟩
  have HT3 := Lib.hid hq3
  have Hb9 := Lib.hid (ext_trans Hb8.out hb9)
  have HS9 := Lib.hid (HS8.out.ext hb9)
  have HP1 := Lib.hid (RdO.of (HP1.out.ext hb9))
  have HP2 := Lib.hid (RdO.of (HP2.out.ext hb9))
  have HP3 := Lib.hid (RdO.of hq3.rd)
  have hr9 := Hr8.out.ext hb9
  obtain ⟨fl, hfl⟩ : ∃ fl, q3.2.2 = fl := ⟨_, rfl⟩
  rw [hfl] at HBad hr9
  obtain ⟨_, _, Xr, yr, hRb, _⟩ := hr9
  have hc1 := hRb.cell 1
  simp only [List.getElem?_toArray, List.getElem?_cons_zero, List.getElem?_cons_succ] at hc1
  clear hq3 hb9 hRb HX HR1 HRb Hr4 Hr6 Hr8 HS3 HS4 HS5 HS6 HS7 HS8 hfl
  have H9B := Lib.hid Hb9.out
  cases fl with
  | true =>
    have Hno : Hid (R = (⟨0, []⟩, 2)) := Lib.hid (HBad.out (.inl rfl))
    have HBw : Hid (Below w0.heap.size w0 w9) := Lib.hid (Hb9.out)
    have hR := HB0.out.ext HBw.out
    have z0 := hR.cell 0
    have g0 := hR.free 0
    have hR1 := hR.put 0 (.int .i64 0)
    have z1 := hR1.cell 1
    have g1 := hR1.free 1
    have hR2 := hR1.put 1 (.slice none 0 0)
    have r0 := hR2.cell 0
    have r1 := hR2.cell 1
    simp only [List.getElem?_toArray, List.setIfInBounds_toArray, List.set_cons_zero, List.set_cons_succ, List.getElem?_cons_zero, List.getElem?_cons_succ] at z0 z1 r0 r1
    have Hbr : Hid (Below w.heap.size w ((w9.setCell ⟨w.heap.size, 0, none⟩ (.int .i64 0)).setCell ⟨w.heap.size, 1, none⟩ (.slice none 0 0))) := Lib.hid (Below.setCell (Below.setCell (ext_trans Hb0.out HBw.out) (Nat.le_refl _) _) (Nat.le_refl _) _)
    clear hR hR1 hR2
    go_wp2
    refine bodyPost_ret (v := .tuple #[.agg #[.int .i64 0, .slice none 0 0], .int .i64 2]) (by simp [results, Tryz.results15, go_sem, r0, r1]) rfl ?_
    rw [Hno.out]
    exact ⟨none, 0, rfl, SgIn.none_ _, Hbr.out⟩
  | false =>
  by_cases he1 : e1 = 0
  case neg =>
    have Hno : Hid (R = (⟨0, []⟩, 2)) := Lib.hid (HBad.out (.inr (.inl he1)))
    have hne : (e1 != 0) = true := by simpa using he1
    have HBw : Hid (Below w0.heap.size w0 w9) := Lib.hid (Hb9.out)
    have hR := HB0.out.ext HBw.out
    have z0 := hR.cell 0
    have g0 := hR.free 0
    have hR1 := hR.put 0 (.int .i64 0)
    have z1 := hR1.cell 1
    have g1 := hR1.free 1
    have hR2 := hR1.put 1 (.slice none 0 0)
    have r0 := hR2.cell 0
    have r1 := hR2.cell 1
    simp only [List.getElem?_toArray, List.setIfInBounds_toArray, List.set_cons_zero, List.set_cons_succ, List.getElem?_cons_zero, List.getElem?_cons_succ] at z0 z1 r0 r1
    have Hbr : Hid (Below w.heap.size w ((w9.setCell ⟨w.heap.size, 0, none⟩ (.int .i64 0)).setCell ⟨w.heap.size, 1, none⟩ (.slice none 0 0))) := Lib.hid (Below.setCell (Below.setCell (ext_trans Hb0.out HBw.out) (Nat.le_refl _) _) (Nat.le_refl _) _)
    clear hR hR1 hR2
    go_wp2
    refine bodyPost_ret (v := .tuple #[.agg #[.int .i64 0, .slice none 0 0], .int .i64 2]) (by simp [results, Tryz.results15, go_sem, r0, r1]) rfl ?_
    rw [Hno.out]
    exact ⟨none, 0, rfl, SgIn.none_ _, Hbr.out⟩
  by_cases he2 : e2 = 0
  case neg =>
    have Hno : Hid (R = (⟨0, []⟩, 2)) := Lib.hid (HBad.out (.inr (.inr (.inl he2))))
    have hne : (e2 != 0) = true := by simpa using he2
    subst he1
    have HBw : Hid (Below w0.heap.size w0 w9) := Lib.hid (Hb9.out)
    have hR := HB0.out.ext HBw.out
    have z0 := hR.cell 0
    have g0 := hR.free 0
    have hR1 := hR.put 0 (.int .i64 0)
    have z1 := hR1.cell 1
    have g1 := hR1.free 1
    have hR2 := hR1.put 1 (.slice none 0 0)
    have r0 := hR2.cell 0
    have r1 := hR2.cell 1
    simp only [List.getElem?_toArray, List.setIfInBounds_toArray, List.set_cons_zero, List.set_cons_succ, List.getElem?_cons_zero, List.getElem?_cons_succ] at z0 z1 r0 r1
    have Hbr : Hid (Below w.heap.size w ((w9.setCell ⟨w.heap.size, 0, none⟩ (.int .i64 0)).setCell ⟨w.heap.size, 1, none⟩ (.slice none 0 0))) := Lib.hid (Below.setCell (Below.setCell (ext_trans Hb0.out HBw.out) (Nat.le_refl _) _) (Nat.le_refl _) _)
    clear hR hR1 hR2
    go_wp2
    refine bodyPost_ret (v := .tuple #[.agg #[.int .i64 0, .slice none 0 0], .int .i64 2]) (by simp [results, Tryz.results15, go_sem, r0, r1]) rfl ?_
    rw [Hno.out]
    exact ⟨none, 0, rfl, SgIn.none_ _, Hbr.out⟩
  by_cases he3 : e3 = 0
  case neg =>
    have Hno : Hid (R = (⟨0, []⟩, 2)) := Lib.hid (HBad.out (.inr (.inr (.inr (.inl he3)))))
    have hne : (e3 != 0) = true := by simpa using he3
    subst he1 he2
    have HBw : Hid (Below w0.heap.size w0 w9) := Lib.hid (Hb9.out)
    have hR := HB0.out.ext HBw.out
    have z0 := hR.cell 0
    have g0 := hR.free 0
    have hR1 := hR.put 0 (.int .i64 0)
    have z1 := hR1.cell 1
    have g1 := hR1.free 1
    have hR2 := hR1.put 1 (.slice none 0 0)
    have r0 := hR2.cell 0
    have r1 := hR2.cell 1
    simp only [List.getElem?_toArray, List.setIfInBounds_toArray, List.set_cons_zero, List.set_cons_succ, List.getElem?_cons_zero, List.getElem?_cons_succ] at z0 z1 r0 r1
    have Hbr : Hid (Below w.heap.size w ((w9.setCell ⟨w.heap.size, 0, none⟩ (.int .i64 0)).setCell ⟨w.heap.size, 1, none⟩ (.slice none 0 0))) := Lib.hid (Below.setCell (Below.setCell (ext_trans Hb0.out HBw.out) (Nat.le_refl _) _) (Nat.le_refl _) _)
    clear hR hR1 hR2
    go_wp2
    refine bodyPost_ret (v := .tuple #[.agg #[.int .i64 0, .slice none 0 0], .int .i64 2]) (by simp [results, Tryz.results15, go_sem, r0, r1]) rfl ?_
    rw [Hno.out]
    exact ⟨none, 0, rfl, SgIn.none_ _, Hbr.out⟩
  subst he1 he2 he3
  by_cases hln : ids.length = cnt.length
  case neg =>
    have Hno : Hid (R = (⟨0, []⟩, 2)) := Lib.hid (HBad.out (.inr (.inr (.inr (.inr (.inl hln))))))
    have hne : ((ids.length : Int) != (cnt.length : Int)) = true := by simp; omega
    have hneq : ¬ ((ids.length : Int) = (cnt.length : Int)) := by omega
    have HBw : Hid (Below w0.heap.size w0 w9) := Lib.hid (Hb9.out)
    have hR := HB0.out.ext HBw.out
    have z0 := hR.cell 0
    have g0 := hR.free 0
    have hR1 := hR.put 0 (.int .i64 0)
    have z1 := hR1.cell 1
    have g1 := hR1.free 1
    have hR2 := hR1.put 1 (.slice none 0 0)
    have r0 := hR2.cell 0
    have r1 := hR2.cell 1
    simp only [List.getElem?_toArray, List.setIfInBounds_toArray, List.set_cons_zero, List.set_cons_succ, List.getElem?_cons_zero, List.getElem?_cons_succ] at z0 z1 r0 r1
    have Hbr : Hid (Below w.heap.size w ((w9.setCell ⟨w.heap.size, 0, none⟩ (.int .i64 0)).setCell ⟨w.heap.size, 1, none⟩ (.slice none 0 0))) := Lib.hid (Below.setCell (Below.setCell (ext_trans Hb0.out HBw.out) (Nat.le_refl _) _) (Nat.le_refl _) _)
    clear hR hR1 hR2
    go_wp2
    refine bodyPost_ret (v := .tuple #[.agg #[.int .i64 0, .slice none 0 0], .int .i64 2]) (by simp [results, Tryz.results15, go_sem, r0, r1]) rfl ?_
    rw [Hno.out]
    exact ⟨none, 0, rfl, SgIn.none_ _, Hbr.out⟩
  have HBk : Hid (∀ k, k < ids.length → ((linesK ids cnt vars k).2.length : Int) < cnt.getD k 0 → R = (⟨0, []⟩, 2)) := Lib.hid (fun k hk h => HBad.out (.inr (.inr (.inr (.inr (.inr (.inl ⟨k, hk, h⟩)))))))
  have HBe : Hid ((linesK ids cnt vars ids.length).2 ≠ [] → R = (⟨0, []⟩, 2)) := Lib.hid (fun h => HBad.out (.inr (.inr (.inr (.inr (.inr (.inr h)))))))
  have hmin : min ids.length cnt.length = ids.length := by omega
  rw [hmin] at HGot
  have Hln := Lib.hid hln
  rw [← hln]
  have hi1 := Hi1.out
  have hii : (ids.length : Int) ≤ 32768 := by omega
  have Hle := Lib.hid (linesK_le ids cnt vars)
  have Hlk := Lib.hid (linesK_len ids cnt vars)
  have hlf := Hlf.out
  clear HBad hmin hln hi1
  go_wp2
  go_loopw [10, 12] (fun v i wr => ∃ (k n m : Nat) (D : Option Addr) (d : Nat) (xs : List Value) (Cr : Option Addr) (R' : List (List UInt8)) (cr : Nat), k ≤ ids.length ∧ i = .int .i64 (k : Int) ∧ v = .slice Cr m cr ∧ Hid (n = k ∧ m = R'.length) ∧ Hid (R' = (linesK ids cnt vars k).2) ∧ Hid (m ≤ cr ∧ (Cr = none → cr = 0)) ∧
    Hid (Blk wr gs 32 #[.int .i64 (f : Int), .slice D n d]) ∧ Hid (NewO w0 wr 47 2 D n d xs) ∧ Hid (∀ q, inA D q → w9.heap.size ≤ q) ∧ Hid (RowT wr xs (linesK ids cnt vars k).1) ∧ Hid (w9.heap.size ≤ wr.heap.size) ∧
    Hid (RdO w9.heap.size wr B1 (ids.map iv)) ∧ Hid (RdO w9.heap.size wr B2 (cnt.map iv)) ∧ Hid (RdO w9.heap.size wr Cr (R'.map strV))) (fun _ i _ => ids.length - (intOf i).toNat)
  case atStart => exact ⟨0, 0, vars.length, none, 0, [], C, vars, d3, Nat.zero_le _, rfl, rfl, Lib.hid ⟨rfl, rfl⟩, Lib.hid rfl, Lib.hid ⟨HT3.out.cap, HT3.out.nil⟩, HS9, Lib.hid ((NewO.start w0 _ _).ext Hb9.out), Lib.hid (fun q hq => absurd hq (inA_none q)), Lib.hid (RowT.nil _), Lib.hid (Nat.le_refl _), HP1, HP2, HP3⟩
  case round =>
    clear HP1 HP2 HP3 HS9 HT3 hc1
    obtain ⟨k, n, m, D, d, xs, Cr, R', cr, hk, rfl, rfl, Hn, HRe, Hcr, HSk, HN, HDn, HT, Hsz, HP1, HP2, HP3⟩ := hrel
    by_cases hlt : k < ids.length
    · have hki : (k : Int) < (ids.length : Int) := by omega
      have hk2 : k < cnt.length := by have := Hln.out; omega
      obtain ⟨adA, rfl, x0⟩ := rd_intG HP1.out.rd hlt
      obtain ⟨adB, rfl, x1⟩ := rd_intG HP2.out.rd hk2
      have HK1 : Hid (∀ W, Rd W (some adA) (ids.map iv) → W.cell? (adA.add k) = some (.int .i64 ids[k])) := Lib.hid (fun W h => rd_atU h hlt)
      have HK2 : Hid (∀ W, Rd W (some adB) (cnt.map iv) → W.cell? (adB.add k) = some (.int .i64 cnt[k])) := Lib.hid (fun W h => rd_atU h hk2)
      have hg1 : ids.getD k 0 = ids[k] := by rw [List.getD_eq_getElem?_getD, List.getElem?_eq_getElem hlt]; rfl
      have hg2 : cnt.getD k 0 = cnt[k] := by rw [List.getD_eq_getElem?_getD, List.getElem?_eq_getElem hk2]; rfl
      obtain ⟨hc1, hc2⟩ := Hj2.out _ (List.getElem_mem hk2)
      have hidi := Hi2.out _ (List.getElem_mem hlt)
      have HIi : Hid (isInt ids[k]) := Lib.hid ⟨by omega, by omega⟩
      obtain ⟨nn, hnn⟩ : ∃ nn : Nat, cnt[k] = (nn : Int) := ⟨cnt[k].toNat, by omega⟩
      have HNo : Hid (R'.length < nn → R = (⟨0, []⟩, 2)) := Lib.hid (fun h => HBk.out k hlt (by rw [hg2, hnn, ← HRe.out]; omega))
      have HS1 : Hid ((linesK ids cnt vars (k + 1)).1 = (linesK ids cnt vars k).1 ++ [⟨ids[k], R'.take nn⟩]) := Lib.hid (by rw [← hg1, HRe.out]; show (linesK ids cnt vars k).1 ++ [⟨ids.getD k 0, (linesK ids cnt vars k).2.take (cnt.getD k 0).toNat⟩] = _; rw [hg2, hnn, Int.toNat_natCast])
      have HS2 : Hid (R'.drop nn = (linesK ids cnt vars (k + 1)).2) := Lib.hid (by show _ = (linesK ids cnt vars k).2.drop (cnt.getD k 0).toNat; rw [hg2, hnn, Int.toNat_natCast, HRe.out])
      have hRl : R'.length ≤ 32768 := by have := Hle.out k; rw [← HRe.out] at this; have := Hv1.out; omega
      rw [hnn] at x1 HK2 hc1 hc2
      generalize ids[k] = idv at *
      clear hg1 hg2 hnn hidi
      obtain ⟨Hnk, Hmr⟩ := Hn.out
      by_cases hgt : nn ≤ m
      case neg =>
        have Hno : Hid (R = (⟨0, []⟩, 2)) := Lib.hid (HNo.out (by rw [← Hmr]; omega))
        have hgi : (m : Int) < (nn : Int) := by omega
        clear HK1 HK2 HS1 HS2 HNo
        have HBw : Hid (Below w0.heap.size w0 wr) := Lib.hid (HN.out.bel)
        have hR := HB0.out.ext HBw.out
        have z0 := hR.cell 0
        have g0 := hR.free 0
        have hR1 := hR.put 0 (.int .i64 0)
        have z1 := hR1.cell 1
        have g1 := hR1.free 1
        have hR2 := hR1.put 1 (.slice none 0 0)
        have r0 := hR2.cell 0
        have r1 := hR2.cell 1
        simp only [List.getElem?_toArray, List.setIfInBounds_toArray, List.set_cons_zero, List.set_cons_succ, List.getElem?_cons_zero, List.getElem?_cons_succ] at z0 z1 r0 r1
        have Hbr : Hid (Below w.heap.size w ((wr.setCell ⟨w.heap.size, 0, none⟩ (.int .i64 0)).setCell ⟨w.heap.size, 1, none⟩ (.slice none 0 0))) := Lib.hid (Below.setCell (Below.setCell (ext_trans Hb0.out HBw.out) (Nat.le_refl _) _) (Nat.le_refl _) _)
        clear hR hR1 hR2
        go_wp2
        refine bodyPost_ret (v := .tuple #[.agg #[.int .i64 0, .slice none 0 0], .int .i64 2]) (by simp [results, Tryz.results15, go_sem, r0, r1]) rfl ?_
        rw [Hno.out]
        exact ⟨none, 0, rfl, SgIn.none_ _, Hbr.out⟩
      have hgi : ¬ (m : Int) < (nn : Int) := by omega
      have hgle : (nn : Int) ≤ (m : Int) := by omega
      have hmi : (m : Int) ≤ 32768 := by omega
      have hcrl := Hcr.out.1
      have hncr : nn ≤ cr := by omega
      have Hcut := Lib.hid (fun W (h : RdO w9.heap.size W Cr (R'.map strV)) => h.cut (k := nn) (cap := cr) (by rw [List.length_map, ← Hmr]; exact Hcr.out.1))
      have Htl : Hid ((R'.take nn).length = nn) := Lib.hid (by rw [List.length_take]; omega)
      have Hmr2 := Lib.hid Hmr
      have HNl0 : Hid (Cr = none → nn = 0) := Lib.hid (fun h => by have h1 := Hcr.out.2 h; omega)
      have hp1 : n + 1 ≤ maxLen := by unfold maxLen; omega
      have hp2 : (n + 1) * 32 ≤ 140737488355328 := by omega
      have hp3 : 0 + nn ≤ maxLen := by unfold maxLen; omega
      have hp4 : (0 + nn) * 16 ≤ 140737488355328 := by omega
      have HKg : Hid (∀ W, Below wr.heap.size wr W → W.cell? ⟨gs, 1, none⟩ = some (.slice D n d)) := Lib.hid (fun W hW => (HSk.out.ext hW).cell 1)
      have HK : Hid (∀ W, Below wr.heap.size wr W → W.cell? (adA.add k) = some (.int .i64 idv) ∧ W.cell? (adB.add k) = some (.int .i64 (nn : Int))) := Lib.hid (fun W hW => ⟨HK1.out W (HP1.out.ext hW).rd, HK2.out W (HP2.out.ext hW).rd⟩)
      have b1 := HSk.out.cell 1
      simp only [List.getElem?_toArray, List.getElem?_cons_zero, List.getElem?_cons_succ] at b1
      have Hnk2 := Lib.hid Hnk
      clear Hnk Hmr HNo hRl hcrl
      go_wp2_with fail
      clear x0 x1 b1
      refine wp_region_held_drew (S := fun W => W.cell? (adA.add k) = some (.int .i64 idv) ∧ W.cell? (adB.add k) = some (.int .i64 (nn : Int))) (by kernel_rfl) ?_ (fun hHeld => ?_)
      · exact HK.out _ (by repeat (first | exact Below.refl _ _ | exact HE4.out | apply ext_drew | apply ext_drewN | apply ext_alloc))
      refine wpAnyH_take (i := 0) (v := ?_) (take_list rfl) (by kernel_rfl) (by kernel_rfl) (by kernel_rfl) (fun _ _ _ h => h) (Or.inl ⟨by rfl, ?_⟩) (by assumption) ?_
      rotate_left
      · intro w hSw
        try dsimp only at hSw
        first | (go_simp; done) | (go_simp; with_reducible rfl)
      try simp only [Act.put, List.setIfInBounds_toArray, List.set_cons_zero, List.set_cons_succ]
      refine wpAnyH_take (i := 2) (v := ?_) (take_list rfl) (by kernel_rfl) (by kernel_rfl) (by kernel_rfl) (fun _ _ _ h => h) (Or.inl ⟨by rfl, ?_⟩) (by assumption) ?_
      rotate_left
      · intro w hSw
        try dsimp only at hSw
        first | (go_simp; done) | (go_simp; with_reducible rfl)
      try simp only [Act.put, List.setIfInBounds_toArray, List.set_cons_zero, List.set_cons_succ]
      refine wpAnyH_take (i := 3) (v := ?_) (take_list rfl) (by kernel_rfl) (by kernel_rfl) (by kernel_rfl) (fun _ _ _ h => h) (Or.inl ⟨by rfl, ?_⟩) (by assumption) ?_
      rotate_left
      · intro w hSw
        try dsimp only at hSw
        first | (go_simp; done) | (go_simp; with_reducible rfl)
      try simp only [Act.put, List.setIfInBounds_toArray, List.set_cons_zero, List.set_cons_succ]
      refine wpAnyH_take (i := 4) (v := ?_) (take_list rfl) (by kernel_rfl) (by kernel_rfl) (by kernel_rfl) (fun _ _ _ h => h) (Or.inl ⟨by rfl, ?_⟩) (by assumption) ?_
      rotate_left
      · intro w hSw
        try dsimp only at hSw
        first | (go_simp; done) | (go_simp; with_reducible rfl)
      try simp only [Act.put, List.setIfInBounds_toArray, List.set_cons_zero, List.set_cons_succ]
      refine wpAnyH_take (i := 5) (v := ?_) (take_list rfl) (by kernel_rfl) (by kernel_rfl) (by kernel_rfl) (fun _ _ _ h => h) (Or.inl ⟨by rfl, ?_⟩) (by assumption) ?_
      rotate_left
      · intro w hSw
        try dsimp only at hSw
        first | (go_simp; done) | (go_simp; with_reducible rfl)
      try simp only [Act.put, List.setIfInBounds_toArray, List.set_cons_zero, List.set_cons_succ]
      refine wpAnyH_take (i := 7) (v := ?_) (take_list rfl) (by kernel_rfl) (by kernel_rfl) (by kernel_rfl) (fun _ _ _ h => h) (Or.inl ⟨by rfl, ?_⟩) (by assumption) ?_
      rotate_left
      · intro w hSw
        try dsimp only at hSw
        first | (go_simp; done) | (go_simp; with_reducible rfl)
      try simp only [Act.put, List.setIfInBounds_toArray, List.set_cons_zero, List.set_cons_succ]
      refine wpAnyH_take (i := 8) (v := ?_) (take_list rfl) (by kernel_rfl) (by kernel_rfl) (by kernel_rfl) (fun _ _ _ h => h) (Or.inl ⟨by rfl, ?_⟩) (by assumption) ?_
      rotate_left
      · intro w hSw
        try dsimp only at hSw
        first | (go_simp; done) | (go_simp; with_reducible rfl)
      try simp only [Act.put, List.setIfInBounds_toArray, List.set_cons_zero, List.set_cons_succ]
      refine wpAnyH_take (i := 9) (v := ?_) (take_list rfl) (by kernel_rfl) (by kernel_rfl) (by kernel_rfl) (fun _ _ _ h => h) (Or.inl ⟨by rfl, ?_⟩) (by assumption) ?_
      rotate_left
      · intro w hSw
        try dsimp only at hSw
        first | (go_simp; done) | (go_simp; with_reducible rfl)
      try simp only [Act.put, List.setIfInBounds_toArray, List.set_cons_zero, List.set_cons_succ]
      refine wpAnyH_take (i := 10) (v := ?_) (take_list rfl) (by kernel_rfl) (by kernel_rfl) (by kernel_rfl) (fun _ _ _ h => h) (Or.inl ⟨by rfl, ?_⟩) (by assumption) ?_
      rotate_left
      · intro w hSw
        try dsimp only at hSw
        first | (go_simp; done) | (go_simp; with_reducible rfl)
      try simp only [Act.put, List.setIfInBounds_toArray, List.set_cons_zero, List.set_cons_succ]
      refine wpAnyH_take (i := 11) (v := ?_) (take_list rfl) (by kernel_rfl) (by kernel_rfl) (by kernel_rfl) (fun _ _ _ h => h) (Or.inl ⟨by rfl, ?_⟩) (by assumption) ?_
      rotate_left
      · intro w hSw
        try dsimp only at hSw
        first | (go_simp; done) | (go_simp; with_reducible rfl)
      try simp only [Act.put, List.setIfInBounds_toArray, List.set_cons_zero, List.set_cons_succ]
      refine wpAnyH_take (i := 12) (v := ?_) (take_list rfl) (by kernel_rfl) (by kernel_rfl) (by kernel_rfl) (fun _ _ _ h => h) (Or.inl ⟨by rfl, ?_⟩) (by assumption) ?_
      rotate_left
      · intro w hSw
        try dsimp only at hSw
        first | (go_simp; done) | (go_simp; with_reducible rfl)
      try simp only [Act.put, List.setIfInBounds_toArray, List.set_cons_zero, List.set_cons_succ]
      refine wpAnyH_ready (rs := [1, 6]) (by kernel_rfl) (by simp) ?_
      refine AllReadyH.cons (take_list rfl) (fun K hK => ?_) ?_
      · skip
        have ql := HKg.out (wr.drew) (by repeat (first | exact Below.refl _ _ | exact HE4.out | apply ext_drew | apply ext_drewN | apply ext_alloc))
        go_simp
        clear ql
        refine hK.out _ _ ?_ (fun hHeld => ?_)
        · try dsimp only
          exact HK.out _ (by repeat (first | exact Below.refl _ _ | exact HE4.out | apply ext_drew | apply ext_drewN | apply ext_alloc))
        clear hK K
        refine wpAnyH_ready (rs := [6]) (by kernel_rfl) (by simp) ?_
        refine AllReadyH.cons (take_list rfl) (fun K hK => ?_) ?_
        · skip
          go_simp
          refine hK.out _ _ ?_ (fun hHeld => ?_)
          · try dsimp only
            exact HK.out _ (by repeat (first | exact Below.refl _ _ | exact HE4.out | apply ext_drew | apply ext_drewN | apply ext_alloc))
          clear hK K
          refine wpAnyH_ready (rs := [13]) (by kernel_rfl) (by simp) ?_
          refine AllReadyH.cons (take_list rfl) (fun K hK => ?_) ?_
          · skip
            refine step_appO _ rfl (.tmp 83) (.tmp 89) _ rfl 9 _ 1 16 Tryz.underlying45 info_gstr rfl (some ⟨_, 0, none⟩) 0 0 [] rfl (by first | exact RowO.lit _ 9 1 0 #[] rfl (Nat.zero_le _) (by first | rfl | simp) | exact (RowO.lit _ 9 1 0 #[] rfl (Nat.zero_le _) (by first | rfl | simp)).drew | exact ((RowO.lit _ 9 1 0 #[] rfl (Nat.zero_le _) (by first | rfl | simp)).drew).drew) Cr nn cr ((R'.take nn).map strV) rfl (by rw [List.length_map, Nat.mul_one]; exact Htl.out) (by rw [List.map_take]; exact ((HP3.out.ext (by repeat (first | exact Below.refl _ _ | exact HE4.out | apply ext_drew | apply ext_drewN | apply ext_alloc))).rd).take nn) (strV_one _) HNl0.out hp3 hp4 ?_
            intro A4 c4 x4 hr4 ho4 hA4
            obtain ⟨hE4, hn4⟩ := fresh_growU (w0 := wr) (by repeat (first | exact Below.refl _ _ | exact HE4.out | apply ext_drew | apply ext_drewN | apply ext_alloc)) ho4 hA4 (fun q hq => by rw [inA_some] at hq; subst hq; first | exact Nat.le_refl _ | (simp; done))
            have HE4 : Hid (Below wr.heap.size wr x4) := Lib.hid hE4
            have Hr4 : Hid (RowO x4 9 1 A4 nn c4 ((R'.take nn).map strV)) := Lib.hid (by rw [Nat.zero_add] at hr4; exact hr4)
            simp only [Nat.zero_add]
            clear hr4 ho4 hA4 hE4 hn4
            refine hK.out _ _ ?_ (fun hHeld => ?_)
            · try dsimp only
              exact HK.out _ (by repeat (first | exact Below.refl _ _ | exact HE4.out | apply ext_drew | apply ext_drewN | apply ext_alloc))
            clear hK K
            refine wpAnyH_take (i := 14) (v := ?_) (take_list rfl) (by kernel_rfl) (by kernel_rfl) (by kernel_rfl) (fun _ _ _ h => h) (Or.inl ⟨by rfl, ?_⟩) (by assumption) ?_
            rotate_left
            · intro w hSw
              try dsimp only at hSw
              first | (go_simp; done) | (go_simp; with_reducible rfl)
            try simp only [Act.put, List.setIfInBounds_toArray, List.set_cons_zero, List.set_cons_succ]
            refine wpAnyH_ready (rs := [15]) (by kernel_rfl) (by simp) ?_
            refine AllReadyH.cons (take_list rfl) (fun K hK => ?_) ?_
            · skip
              go_simp
              refine hK.out _ _ ?_ (fun hHeld => ?_)
              · try dsimp only
                exact HK.out _ (by repeat (first | exact Below.refl _ _ | exact HE4.out | apply ext_drew | apply ext_drewN | apply ext_alloc))
              clear hK K
              refine wpAnyH_ready (rs := [16]) (by kernel_rfl) (by simp) ?_
              refine AllReadyH.cons (take_list rfl) (fun K hK => ?_) ?_
              · skip
                refine step_appO _ rfl (.tmp 78) (.tmp 92) _ rfl 47 _ 2 32 Tryz.underlying22 info_ln rfl D n d xs rfl (HN.out.row.ext (by repeat (first | exact Below.refl _ _ | exact HE4.out | apply ext_drew | apply ext_drewN | apply ext_alloc))) (some ⟨_, 0, none⟩) 1 1 [.int .i64 idv, .slice A4 nn c4] rfl rfl (by repeat (first | exact Rd.lit_at _ #[.int .i64 idv, .slice A4 nn c4] _ (by first | rfl | (simp [World.size_alloc]; done)) | apply Rd.drew | apply Rd.alloc)) (by intro u hu; simp at hu; rcases hu with rfl | rfl <;> rfl) (by intro h; cases h) hp1 hp2 ?_
                intro A5 c5 x5 hr5 ho5 hA5
                have hN5 := HN.out.grow (by repeat (first | exact Below.refl _ _ | exact HE4.out | apply ext_drew | apply ext_drewN | apply ext_alloc)) hr5 ho5 hA5
                have h4 := (Hr4.out.ext (by repeat (first | exact Below.refl _ _ | apply ext_drew | apply ext_drewN | apply ext_alloc))).only ho5 (Hr4.out.ne_row (HN.out.row.ext HE4.out) (by decide))
                have hone : RowT x5 [.int .i64 idv, .slice A4 nn c4] [⟨idv, R'.take nn⟩] := by
                  have := RowT.one (w := x5) (x := ⟨idv, R'.take nn⟩) (B := A4) (c := c4) HIi.out (by rw [Htl.out]; exact h4)
                  rw [Htl.out] at this
                  exact this
                have hT5 := (((HT.out.ext (by repeat (first | exact Below.refl _ _ | exact HE4.out | apply ext_drew | apply ext_drewN | apply ext_alloc)))).only (HN.out.row.ext (by repeat (first | exact Below.refl _ _ | exact HE4.out | apply ext_drew | apply ext_drewN | apply ext_alloc))) (by decide) ho5).app hone
                have hgD : ¬ inA D gs := HN.out.row.ne_blk HSk.out (by decide)
                have hB5 := (HSk.out.ext (by repeat (first | exact Below.refl _ _ | exact HE4.out | apply ext_drew | apply ext_drewN | apply ext_alloc))).only ho5 hgD
                have b1 := hB5.cell 1
                have gb1 := hB5.free 1
                simp only [List.getElem?_toArray, List.getElem?_cons_zero, List.getElem?_cons_succ] at b1
                have hP1 := (HP1.out.ext (by repeat (first | exact Below.refl _ _ | exact HE4.out | apply ext_drew | apply ext_drewN | apply ext_alloc))).only ho5 HDn.out
                have hP2 := (HP2.out.ext (by repeat (first | exact Below.refl _ _ | exact HE4.out | apply ext_drew | apply ext_drewN | apply ext_alloc))).only ho5 HDn.out
                have hP3 := (HP3.out.ext (by repeat (first | exact Below.refl _ _ | exact HE4.out | apply ext_drew | apply ext_drewN | apply ext_alloc))).only ho5 HDn.out
                have HB6 := Lib.hid (hB5.put 1 (.slice A5 (n + 1) c5))
                have HN6 := Lib.hid (hN5.far (p := ⟨gs, 1, none⟩) (hr5.ne_blk hB5 (by decide)) Hgs.out.2 (.slice A5 (n + 1) c5))
                have HT6 := Lib.hid (hT5.far hB5 (by decide) 1 (.slice A5 (n + 1) c5))
                have hP16 := hP1.set b1 (iv_kind _) (.slice A5 (n + 1) c5)
                have hP26 := hP2.set b1 (iv_kind _) (.slice A5 (n + 1) c5)
                have HP36 := Lib.hid (hP3.set b1 (strV_kind _) (.slice A5 (n + 1) c5))
                have k0 := HK1.out _ hP1.rd
                have k1 := HK2.out _ hP2.rd
                have l0 := HK1.out _ hP16.rd
                have l1 := HK2.out _ hP26.rd
                have HP16 := Lib.hid hP16
                have HP26 := Lib.hid hP26
                have HD6 : Hid (∀ q, inA A5 q → w9.heap.size ≤ q) := Lib.hid (fun q hq => by
                  rcases hA5 q hq with h | ⟨h, _⟩
                  · exact HDn.out q h
                  · have h1 := Hsz.out; have h2 := HE4.out.size; simp only [World.size_alloc, World.drew] at h; omega)
                have Hsz6 : Hid (w9.heap.size ≤ (x5.setCell ⟨gs, 1, none⟩ (.slice A5 (n + 1) c5)).heap.size) := Lib.hid (by rw [setCell_size]; have h1 := Hsz.out; have h2 := HE4.out.size; have h3 := ho5.size; simp only [World.size_alloc, World.drew] at h3; omega)
                have Hc6 := Lib.hid (Hcut.out _ HP36.out)
                clear hr5 ho5 hA5 hgD hB5 hT5 hN5 hone h4 hP1 hP2 hP3 hP16 hP26
                refine hK.out _ _ ?_ (fun hHeld => ?_)
                · try dsimp only
                  exact ⟨k0, k1⟩
                clear hK K
                refine wpAnyH_take (i := 17) (v := ?_) (take_list rfl) (by kernel_rfl) (by kernel_rfl) (by kernel_rfl) (fun _ _ _ h => h) (Or.inl ⟨by rfl, ?_⟩) (by assumption) ?_
                rotate_left
                · intro w hSw
                  try dsimp only at hSw
                  first | (go_simp; done) | (go_simp; with_reducible rfl)
                try simp only [Act.put, List.setIfInBounds_toArray, List.set_cons_zero, List.set_cons_succ]
                refine wpAnyH_ready (rs := [18]) (by kernel_rfl) (by simp) ?_
                refine AllReadyH.cons (take_list rfl) (fun K hK => ?_) ?_
                · skip
                  go_simp
                  refine hK.out _ _ ?_ (fun hHeld => ?_)
                  · try dsimp only
                    exact ⟨l0, l1⟩
                  clear hK K
                  refine wpAnyH_done (by kernel_rfl) ?_ _
                  go_wp2
                  go_roundw
                  case rel => exact ⟨k + 1, n + 1, _, A5, c5, _, _, R'.drop nn, cr - nn, by omega, by go_num, rfl, Lib.hid ⟨by rw [Hnk2.out], by rw [List.length_drop, ← Hmr2.out]⟩, Lib.hid HS2.out, Lib.hid ⟨by have := Hcr.out.1; omega, fun h => by
                    by_cases hcc : cr = nn
                    · omega
                    · rw [if_neg hcc] at h
                      have := Hcr.out.2 (by simpa using h)
                      omega⟩, HB6, HN6, HD6, Lib.hid (by rw [HS1.out]; exact HT6.out), Hsz6, HP16, HP26, Lib.hid (by rw [List.map_drop]; exact Hc6.out)⟩
                  case measure => simp [intOf]; omega
                exact AllReadyH.nil
              exact AllReadyH.nil
            exact AllReadyH.nil
          exact AllReadyH.nil
        exact AllReadyH.nil
      refine AllReadyH.cons (take_list rfl) (fun K hK => ?_) ?_
      · skip
        go_simp
        refine hK.out _ _ ?_ (fun hHeld => ?_)
        · try dsimp only
          exact HK.out _ (by repeat (first | exact Below.refl _ _ | exact HE4.out | apply ext_drew | apply ext_drewN | apply ext_alloc))
        clear hK K
        refine wpAnyH_ready (rs := [1, 13]) (by kernel_rfl) (by simp) ?_
        refine AllReadyH.cons (take_list rfl) (fun K hK => ?_) ?_
        · skip
          have ql := HKg.out (wr.alloc (.cells #[] 9)) (by repeat (first | exact Below.refl _ _ | exact HE4.out | apply ext_drew | apply ext_drewN | apply ext_alloc))
          go_simp
          clear ql
          refine hK.out _ _ ?_ (fun hHeld => ?_)
          · try dsimp only
            exact HK.out _ (by repeat (first | exact Below.refl _ _ | exact HE4.out | apply ext_drew | apply ext_drewN | apply ext_alloc))
          clear hK K
          refine wpAnyH_ready (rs := [13]) (by kernel_rfl) (by simp) ?_
          refine AllReadyH.cons (take_list rfl) (fun K hK => ?_) ?_
          · skip
            refine step_appO _ rfl (.tmp 83) (.tmp 89) _ rfl 9 _ 1 16 Tryz.underlying45 info_gstr rfl (some ⟨_, 0, none⟩) 0 0 [] rfl (by first | exact RowO.lit _ 9 1 0 #[] rfl (Nat.zero_le _) (by first | rfl | simp) | exact (RowO.lit _ 9 1 0 #[] rfl (Nat.zero_le _) (by first | rfl | simp)).drew | exact ((RowO.lit _ 9 1 0 #[] rfl (Nat.zero_le _) (by first | rfl | simp)).drew).drew) Cr nn cr ((R'.take nn).map strV) rfl (by rw [List.length_map, Nat.mul_one]; exact Htl.out) (by rw [List.map_take]; exact ((HP3.out.ext (by repeat (first | exact Below.refl _ _ | exact HE4.out | apply ext_drew | apply ext_drewN | apply ext_alloc))).rd).take nn) (strV_one _) HNl0.out hp3 hp4 ?_
            intro A4 c4 x4 hr4 ho4 hA4
            obtain ⟨hE4, hn4⟩ := fresh_growU (w0 := wr) (by repeat (first | exact Below.refl _ _ | exact HE4.out | apply ext_drew | apply ext_drewN | apply ext_alloc)) ho4 hA4 (fun q hq => by rw [inA_some] at hq; subst hq; first | exact Nat.le_refl _ | (simp; done))
            have HE4 : Hid (Below wr.heap.size wr x4) := Lib.hid hE4
            have Hr4 : Hid (RowO x4 9 1 A4 nn c4 ((R'.take nn).map strV)) := Lib.hid (by rw [Nat.zero_add] at hr4; exact hr4)
            simp only [Nat.zero_add]
            clear hr4 ho4 hA4 hE4 hn4
            refine hK.out _ _ ?_ (fun hHeld => ?_)
            · try dsimp only
              exact HK.out _ (by repeat (first | exact Below.refl _ _ | exact HE4.out | apply ext_drew | apply ext_drewN | apply ext_alloc))
            clear hK K
            refine wpAnyH_take (i := 14) (v := ?_) (take_list rfl) (by kernel_rfl) (by kernel_rfl) (by kernel_rfl) (fun _ _ _ h => h) (Or.inl ⟨by rfl, ?_⟩) (by assumption) ?_
            rotate_left
            · intro w hSw
              try dsimp only at hSw
              first | (go_simp; done) | (go_simp; with_reducible rfl)
            try simp only [Act.put, List.setIfInBounds_toArray, List.set_cons_zero, List.set_cons_succ]
            refine wpAnyH_ready (rs := [15]) (by kernel_rfl) (by simp) ?_
            refine AllReadyH.cons (take_list rfl) (fun K hK => ?_) ?_
            · skip
              go_simp
              refine hK.out _ _ ?_ (fun hHeld => ?_)
              · try dsimp only
                exact HK.out _ (by repeat (first | exact Below.refl _ _ | exact HE4.out | apply ext_drew | apply ext_drewN | apply ext_alloc))
              clear hK K
              refine wpAnyH_ready (rs := [16]) (by kernel_rfl) (by simp) ?_
              refine AllReadyH.cons (take_list rfl) (fun K hK => ?_) ?_
              · skip
                refine step_appO _ rfl (.tmp 78) (.tmp 92) _ rfl 47 _ 2 32 Tryz.underlying22 info_ln rfl D n d xs rfl (HN.out.row.ext (by repeat (first | exact Below.refl _ _ | exact HE4.out | apply ext_drew | apply ext_drewN | apply ext_alloc))) (some ⟨_, 0, none⟩) 1 1 [.int .i64 idv, .slice A4 nn c4] rfl rfl (by repeat (first | exact Rd.lit_at _ #[.int .i64 idv, .slice A4 nn c4] _ (by first | rfl | (simp [World.size_alloc]; done)) | apply Rd.drew | apply Rd.alloc)) (by intro u hu; simp at hu; rcases hu with rfl | rfl <;> rfl) (by intro h; cases h) hp1 hp2 ?_
                intro A5 c5 x5 hr5 ho5 hA5
                have hN5 := HN.out.grow (by repeat (first | exact Below.refl _ _ | exact HE4.out | apply ext_drew | apply ext_drewN | apply ext_alloc)) hr5 ho5 hA5
                have h4 := (Hr4.out.ext (by repeat (first | exact Below.refl _ _ | apply ext_drew | apply ext_drewN | apply ext_alloc))).only ho5 (Hr4.out.ne_row (HN.out.row.ext HE4.out) (by decide))
                have hone : RowT x5 [.int .i64 idv, .slice A4 nn c4] [⟨idv, R'.take nn⟩] := by
                  have := RowT.one (w := x5) (x := ⟨idv, R'.take nn⟩) (B := A4) (c := c4) HIi.out (by rw [Htl.out]; exact h4)
                  rw [Htl.out] at this
                  exact this
                have hT5 := (((HT.out.ext (by repeat (first | exact Below.refl _ _ | exact HE4.out | apply ext_drew | apply ext_drewN | apply ext_alloc)))).only (HN.out.row.ext (by repeat (first | exact Below.refl _ _ | exact HE4.out | apply ext_drew | apply ext_drewN | apply ext_alloc))) (by decide) ho5).app hone
                have hgD : ¬ inA D gs := HN.out.row.ne_blk HSk.out (by decide)
                have hB5 := (HSk.out.ext (by repeat (first | exact Below.refl _ _ | exact HE4.out | apply ext_drew | apply ext_drewN | apply ext_alloc))).only ho5 hgD
                have b1 := hB5.cell 1
                have gb1 := hB5.free 1
                simp only [List.getElem?_toArray, List.getElem?_cons_zero, List.getElem?_cons_succ] at b1
                have hP1 := (HP1.out.ext (by repeat (first | exact Below.refl _ _ | exact HE4.out | apply ext_drew | apply ext_drewN | apply ext_alloc))).only ho5 HDn.out
                have hP2 := (HP2.out.ext (by repeat (first | exact Below.refl _ _ | exact HE4.out | apply ext_drew | apply ext_drewN | apply ext_alloc))).only ho5 HDn.out
                have hP3 := (HP3.out.ext (by repeat (first | exact Below.refl _ _ | exact HE4.out | apply ext_drew | apply ext_drewN | apply ext_alloc))).only ho5 HDn.out
                have HB6 := Lib.hid (hB5.put 1 (.slice A5 (n + 1) c5))
                have HN6 := Lib.hid (hN5.far (p := ⟨gs, 1, none⟩) (hr5.ne_blk hB5 (by decide)) Hgs.out.2 (.slice A5 (n + 1) c5))
                have HT6 := Lib.hid (hT5.far hB5 (by decide) 1 (.slice A5 (n + 1) c5))
                have hP16 := hP1.set b1 (iv_kind _) (.slice A5 (n + 1) c5)
                have hP26 := hP2.set b1 (iv_kind _) (.slice A5 (n + 1) c5)
                have HP36 := Lib.hid (hP3.set b1 (strV_kind _) (.slice A5 (n + 1) c5))
                have k0 := HK1.out _ hP1.rd
                have k1 := HK2.out _ hP2.rd
                have l0 := HK1.out _ hP16.rd
                have l1 := HK2.out _ hP26.rd
                have HP16 := Lib.hid hP16
                have HP26 := Lib.hid hP26
                have HD6 : Hid (∀ q, inA A5 q → w9.heap.size ≤ q) := Lib.hid (fun q hq => by
                  rcases hA5 q hq with h | ⟨h, _⟩
                  · exact HDn.out q h
                  · have h1 := Hsz.out; have h2 := HE4.out.size; simp only [World.size_alloc, World.drew] at h; omega)
                have Hsz6 : Hid (w9.heap.size ≤ (x5.setCell ⟨gs, 1, none⟩ (.slice A5 (n + 1) c5)).heap.size) := Lib.hid (by rw [setCell_size]; have h1 := Hsz.out; have h2 := HE4.out.size; have h3 := ho5.size; simp only [World.size_alloc, World.drew] at h3; omega)
                have Hc6 := Lib.hid (Hcut.out _ HP36.out)
                clear hr5 ho5 hA5 hgD hB5 hT5 hN5 hone h4 hP1 hP2 hP3 hP16 hP26
                refine hK.out _ _ ?_ (fun hHeld => ?_)
                · try dsimp only
                  exact ⟨k0, k1⟩
                clear hK K
                refine wpAnyH_take (i := 17) (v := ?_) (take_list rfl) (by kernel_rfl) (by kernel_rfl) (by kernel_rfl) (fun _ _ _ h => h) (Or.inl ⟨by rfl, ?_⟩) (by assumption) ?_
                rotate_left
                · intro w hSw
                  try dsimp only at hSw
                  first | (go_simp; done) | (go_simp; with_reducible rfl)
                try simp only [Act.put, List.setIfInBounds_toArray, List.set_cons_zero, List.set_cons_succ]
                refine wpAnyH_ready (rs := [18]) (by kernel_rfl) (by simp) ?_
                refine AllReadyH.cons (take_list rfl) (fun K hK => ?_) ?_
                · skip
                  go_simp
                  refine hK.out _ _ ?_ (fun hHeld => ?_)
                  · try dsimp only
                    exact ⟨l0, l1⟩
                  clear hK K
                  refine wpAnyH_done (by kernel_rfl) ?_ _
                  go_wp2
                  go_roundw
                  case rel => exact ⟨k + 1, n + 1, _, A5, c5, _, _, R'.drop nn, cr - nn, by omega, by go_num, rfl, Lib.hid ⟨by rw [Hnk2.out], by rw [List.length_drop, ← Hmr2.out]⟩, Lib.hid HS2.out, Lib.hid ⟨by have := Hcr.out.1; omega, fun h => by
                    by_cases hcc : cr = nn
                    · omega
                    · rw [if_neg hcc] at h
                      have := Hcr.out.2 (by simpa using h)
                      omega⟩, HB6, HN6, HD6, Lib.hid (by rw [HS1.out]; exact HT6.out), Hsz6, HP16, HP26, Lib.hid (by rw [List.map_drop]; exact Hc6.out)⟩
                  case measure => simp [intOf]; omega
                exact AllReadyH.nil
              exact AllReadyH.nil
            exact AllReadyH.nil
          exact AllReadyH.nil
        refine AllReadyH.cons (take_list rfl) (fun K hK => ?_) ?_
        · skip
          refine step_appO _ rfl (.tmp 83) (.tmp 89) _ rfl 9 _ 1 16 Tryz.underlying45 info_gstr rfl (some ⟨_, 0, none⟩) 0 0 [] rfl (by first | exact RowO.lit _ 9 1 0 #[] rfl (Nat.zero_le _) (by first | rfl | simp) | exact (RowO.lit _ 9 1 0 #[] rfl (Nat.zero_le _) (by first | rfl | simp)).drew | exact ((RowO.lit _ 9 1 0 #[] rfl (Nat.zero_le _) (by first | rfl | simp)).drew).drew) Cr nn cr ((R'.take nn).map strV) rfl (by rw [List.length_map, Nat.mul_one]; exact Htl.out) (by rw [List.map_take]; exact ((HP3.out.ext (by repeat (first | exact Below.refl _ _ | exact HE4.out | apply ext_drew | apply ext_drewN | apply ext_alloc))).rd).take nn) (strV_one _) HNl0.out hp3 hp4 ?_
          intro A4 c4 x4 hr4 ho4 hA4
          obtain ⟨hE4, hn4⟩ := fresh_growU (w0 := wr) (by repeat (first | exact Below.refl _ _ | exact HE4.out | apply ext_drew | apply ext_drewN | apply ext_alloc)) ho4 hA4 (fun q hq => by rw [inA_some] at hq; subst hq; first | exact Nat.le_refl _ | (simp; done))
          have HE4 : Hid (Below wr.heap.size wr x4) := Lib.hid hE4
          have Hr4 : Hid (RowO x4 9 1 A4 nn c4 ((R'.take nn).map strV)) := Lib.hid (by rw [Nat.zero_add] at hr4; exact hr4)
          simp only [Nat.zero_add]
          clear hr4 ho4 hA4 hE4 hn4
          refine hK.out _ _ ?_ (fun hHeld => ?_)
          · try dsimp only
            exact HK.out _ (by repeat (first | exact Below.refl _ _ | exact HE4.out | apply ext_drew | apply ext_drewN | apply ext_alloc))
          clear hK K
          refine wpAnyH_take (i := 14) (v := ?_) (take_list rfl) (by kernel_rfl) (by kernel_rfl) (by kernel_rfl) (fun _ _ _ h => h) (Or.inl ⟨by rfl, ?_⟩) (by assumption) ?_
          rotate_left
          · intro w hSw
            try dsimp only at hSw
            first | (go_simp; done) | (go_simp; with_reducible rfl)
          try simp only [Act.put, List.setIfInBounds_toArray, List.set_cons_zero, List.set_cons_succ]
          refine wpAnyH_ready (rs := [1, 15]) (by kernel_rfl) (by simp) ?_
          refine AllReadyH.cons (take_list rfl) (fun K hK => ?_) ?_
          · skip
            have ql := HKg.out (x4) (by repeat (first | exact Below.refl _ _ | exact HE4.out | apply ext_drew | apply ext_drewN | apply ext_alloc))
            go_simp
            clear ql
            refine hK.out _ _ ?_ (fun hHeld => ?_)
            · try dsimp only
              exact HK.out _ (by repeat (first | exact Below.refl _ _ | exact HE4.out | apply ext_drew | apply ext_drewN | apply ext_alloc))
            clear hK K
            refine wpAnyH_ready (rs := [15]) (by kernel_rfl) (by simp) ?_
            refine AllReadyH.cons (take_list rfl) (fun K hK => ?_) ?_
            · skip
              go_simp
              refine hK.out _ _ ?_ (fun hHeld => ?_)
              · try dsimp only
                exact HK.out _ (by repeat (first | exact Below.refl _ _ | exact HE4.out | apply ext_drew | apply ext_drewN | apply ext_alloc))
              clear hK K
              refine wpAnyH_ready (rs := [16]) (by kernel_rfl) (by simp) ?_
              refine AllReadyH.cons (take_list rfl) (fun K hK => ?_) ?_
              · skip
                refine step_appO _ rfl (.tmp 78) (.tmp 92) _ rfl 47 _ 2 32 Tryz.underlying22 info_ln rfl D n d xs rfl (HN.out.row.ext (by repeat (first | exact Below.refl _ _ | exact HE4.out | apply ext_drew | apply ext_drewN | apply ext_alloc))) (some ⟨_, 0, none⟩) 1 1 [.int .i64 idv, .slice A4 nn c4] rfl rfl (by repeat (first | exact Rd.lit_at _ #[.int .i64 idv, .slice A4 nn c4] _ (by first | rfl | (simp [World.size_alloc]; done)) | apply Rd.drew | apply Rd.alloc)) (by intro u hu; simp at hu; rcases hu with rfl | rfl <;> rfl) (by intro h; cases h) hp1 hp2 ?_
                intro A5 c5 x5 hr5 ho5 hA5
                have hN5 := HN.out.grow (by repeat (first | exact Below.refl _ _ | exact HE4.out | apply ext_drew | apply ext_drewN | apply ext_alloc)) hr5 ho5 hA5
                have h4 := (Hr4.out.ext (by repeat (first | exact Below.refl _ _ | apply ext_drew | apply ext_drewN | apply ext_alloc))).only ho5 (Hr4.out.ne_row (HN.out.row.ext HE4.out) (by decide))
                have hone : RowT x5 [.int .i64 idv, .slice A4 nn c4] [⟨idv, R'.take nn⟩] := by
                  have := RowT.one (w := x5) (x := ⟨idv, R'.take nn⟩) (B := A4) (c := c4) HIi.out (by rw [Htl.out]; exact h4)
                  rw [Htl.out] at this
                  exact this
                have hT5 := (((HT.out.ext (by repeat (first | exact Below.refl _ _ | exact HE4.out | apply ext_drew | apply ext_drewN | apply ext_alloc)))).only (HN.out.row.ext (by repeat (first | exact Below.refl _ _ | exact HE4.out | apply ext_drew | apply ext_drewN | apply ext_alloc))) (by decide) ho5).app hone
                have hgD : ¬ inA D gs := HN.out.row.ne_blk HSk.out (by decide)
                have hB5 := (HSk.out.ext (by repeat (first | exact Below.refl _ _ | exact HE4.out | apply ext_drew | apply ext_drewN | apply ext_alloc))).only ho5 hgD
                have b1 := hB5.cell 1
                have gb1 := hB5.free 1
                simp only [List.getElem?_toArray, List.getElem?_cons_zero, List.getElem?_cons_succ] at b1
                have hP1 := (HP1.out.ext (by repeat (first | exact Below.refl _ _ | exact HE4.out | apply ext_drew | apply ext_drewN | apply ext_alloc))).only ho5 HDn.out
                have hP2 := (HP2.out.ext (by repeat (first | exact Below.refl _ _ | exact HE4.out | apply ext_drew | apply ext_drewN | apply ext_alloc))).only ho5 HDn.out
                have hP3 := (HP3.out.ext (by repeat (first | exact Below.refl _ _ | exact HE4.out | apply ext_drew | apply ext_drewN | apply ext_alloc))).only ho5 HDn.out
                have HB6 := Lib.hid (hB5.put 1 (.slice A5 (n + 1) c5))
                have HN6 := Lib.hid (hN5.far (p := ⟨gs, 1, none⟩) (hr5.ne_blk hB5 (by decide)) Hgs.out.2 (.slice A5 (n + 1) c5))
                have HT6 := Lib.hid (hT5.far hB5 (by decide) 1 (.slice A5 (n + 1) c5))
                have hP16 := hP1.set b1 (iv_kind _) (.slice A5 (n + 1) c5)
                have hP26 := hP2.set b1 (iv_kind _) (.slice A5 (n + 1) c5)
                have HP36 := Lib.hid (hP3.set b1 (strV_kind _) (.slice A5 (n + 1) c5))
                have k0 := HK1.out _ hP1.rd
                have k1 := HK2.out _ hP2.rd
                have l0 := HK1.out _ hP16.rd
                have l1 := HK2.out _ hP26.rd
                have HP16 := Lib.hid hP16
                have HP26 := Lib.hid hP26
                have HD6 : Hid (∀ q, inA A5 q → w9.heap.size ≤ q) := Lib.hid (fun q hq => by
                  rcases hA5 q hq with h | ⟨h, _⟩
                  · exact HDn.out q h
                  · have h1 := Hsz.out; have h2 := HE4.out.size; simp only [World.size_alloc, World.drew] at h; omega)
                have Hsz6 : Hid (w9.heap.size ≤ (x5.setCell ⟨gs, 1, none⟩ (.slice A5 (n + 1) c5)).heap.size) := Lib.hid (by rw [setCell_size]; have h1 := Hsz.out; have h2 := HE4.out.size; have h3 := ho5.size; simp only [World.size_alloc, World.drew] at h3; omega)
                have Hc6 := Lib.hid (Hcut.out _ HP36.out)
                clear hr5 ho5 hA5 hgD hB5 hT5 hN5 hone h4 hP1 hP2 hP3 hP16 hP26
                refine hK.out _ _ ?_ (fun hHeld => ?_)
                · try dsimp only
                  exact ⟨k0, k1⟩
                clear hK K
                refine wpAnyH_take (i := 17) (v := ?_) (take_list rfl) (by kernel_rfl) (by kernel_rfl) (by kernel_rfl) (fun _ _ _ h => h) (Or.inl ⟨by rfl, ?_⟩) (by assumption) ?_
                rotate_left
                · intro w hSw
                  try dsimp only at hSw
                  first | (go_simp; done) | (go_simp; with_reducible rfl)
                try simp only [Act.put, List.setIfInBounds_toArray, List.set_cons_zero, List.set_cons_succ]
                refine wpAnyH_ready (rs := [18]) (by kernel_rfl) (by simp) ?_
                refine AllReadyH.cons (take_list rfl) (fun K hK => ?_) ?_
                · skip
                  go_simp
                  refine hK.out _ _ ?_ (fun hHeld => ?_)
                  · try dsimp only
                    exact ⟨l0, l1⟩
                  clear hK K
                  refine wpAnyH_done (by kernel_rfl) ?_ _
                  go_wp2
                  go_roundw
                  case rel => exact ⟨k + 1, n + 1, _, A5, c5, _, _, R'.drop nn, cr - nn, by omega, by go_num, rfl, Lib.hid ⟨by rw [Hnk2.out], by rw [List.length_drop, ← Hmr2.out]⟩, Lib.hid HS2.out, Lib.hid ⟨by have := Hcr.out.1; omega, fun h => by
                    by_cases hcc : cr = nn
                    · omega
                    · rw [if_neg hcc] at h
                      have := Hcr.out.2 (by simpa using h)
                      omega⟩, HB6, HN6, HD6, Lib.hid (by rw [HS1.out]; exact HT6.out), Hsz6, HP16, HP26, Lib.hid (by rw [List.map_drop]; exact Hc6.out)⟩
                  case measure => simp [intOf]; omega
                exact AllReadyH.nil
              exact AllReadyH.nil
            exact AllReadyH.nil
          refine AllReadyH.cons (take_list rfl) (fun K hK => ?_) ?_
          · skip
            go_simp
            refine hK.out _ _ ?_ (fun hHeld => ?_)
            · try dsimp only
              exact HK.out _ (by repeat (first | exact Below.refl _ _ | exact HE4.out | apply ext_drew | apply ext_drewN | apply ext_alloc))
            clear hK K
            refine wpAnyH_ready (rs := [1]) (by kernel_rfl) (by simp) ?_
            refine AllReadyH.cons (take_list rfl) (fun K hK => ?_) ?_
            · skip
              have ql := HKg.out (x4.alloc (.cells #[.int .i64 idv, .slice A4 nn c4] 47)) (by repeat (first | exact Below.refl _ _ | exact HE4.out | apply ext_drew | apply ext_drewN | apply ext_alloc))
              go_simp
              clear ql
              refine hK.out _ _ ?_ (fun hHeld => ?_)
              · try dsimp only
                exact HK.out _ (by repeat (first | exact Below.refl _ _ | exact HE4.out | apply ext_drew | apply ext_drewN | apply ext_alloc))
              clear hK K
              refine wpAnyH_ready (rs := [16]) (by kernel_rfl) (by simp) ?_
              refine AllReadyH.cons (take_list rfl) (fun K hK => ?_) ?_
              · skip
                refine step_appO _ rfl (.tmp 78) (.tmp 92) _ rfl 47 _ 2 32 Tryz.underlying22 info_ln rfl D n d xs rfl (HN.out.row.ext (by repeat (first | exact Below.refl _ _ | exact HE4.out | apply ext_drew | apply ext_drewN | apply ext_alloc))) (some ⟨_, 0, none⟩) 1 1 [.int .i64 idv, .slice A4 nn c4] rfl rfl (by repeat (first | exact Rd.lit_at _ #[.int .i64 idv, .slice A4 nn c4] _ (by first | rfl | (simp [World.size_alloc]; done)) | apply Rd.drew | apply Rd.alloc)) (by intro u hu; simp at hu; rcases hu with rfl | rfl <;> rfl) (by intro h; cases h) hp1 hp2 ?_
                intro A5 c5 x5 hr5 ho5 hA5
                have hN5 := HN.out.grow (by repeat (first | exact Below.refl _ _ | exact HE4.out | apply ext_drew | apply ext_drewN | apply ext_alloc)) hr5 ho5 hA5
                have h4 := (Hr4.out.ext (by repeat (first | exact Below.refl _ _ | apply ext_drew | apply ext_drewN | apply ext_alloc))).only ho5 (Hr4.out.ne_row (HN.out.row.ext HE4.out) (by decide))
                have hone : RowT x5 [.int .i64 idv, .slice A4 nn c4] [⟨idv, R'.take nn⟩] := by
                  have := RowT.one (w := x5) (x := ⟨idv, R'.take nn⟩) (B := A4) (c := c4) HIi.out (by rw [Htl.out]; exact h4)
                  rw [Htl.out] at this
                  exact this
                have hT5 := (((HT.out.ext (by repeat (first | exact Below.refl _ _ | exact HE4.out | apply ext_drew | apply ext_drewN | apply ext_alloc)))).only (HN.out.row.ext (by repeat (first | exact Below.refl _ _ | exact HE4.out | apply ext_drew | apply ext_drewN | apply ext_alloc))) (by decide) ho5).app hone
                have hgD : ¬ inA D gs := HN.out.row.ne_blk HSk.out (by decide)
                have hB5 := (HSk.out.ext (by repeat (first | exact Below.refl _ _ | exact HE4.out | apply ext_drew | apply ext_drewN | apply ext_alloc))).only ho5 hgD
                have b1 := hB5.cell 1
                have gb1 := hB5.free 1
                simp only [List.getElem?_toArray, List.getElem?_cons_zero, List.getElem?_cons_succ] at b1
                have hP1 := (HP1.out.ext (by repeat (first | exact Below.refl _ _ | exact HE4.out | apply ext_drew | apply ext_drewN | apply ext_alloc))).only ho5 HDn.out
                have hP2 := (HP2.out.ext (by repeat (first | exact Below.refl _ _ | exact HE4.out | apply ext_drew | apply ext_drewN | apply ext_alloc))).only ho5 HDn.out
                have hP3 := (HP3.out.ext (by repeat (first | exact Below.refl _ _ | exact HE4.out | apply ext_drew | apply ext_drewN | apply ext_alloc))).only ho5 HDn.out
                have HB6 := Lib.hid (hB5.put 1 (.slice A5 (n + 1) c5))
                have HN6 := Lib.hid (hN5.far (p := ⟨gs, 1, none⟩) (hr5.ne_blk hB5 (by decide)) Hgs.out.2 (.slice A5 (n + 1) c5))
                have HT6 := Lib.hid (hT5.far hB5 (by decide) 1 (.slice A5 (n + 1) c5))
                have hP16 := hP1.set b1 (iv_kind _) (.slice A5 (n + 1) c5)
                have hP26 := hP2.set b1 (iv_kind _) (.slice A5 (n + 1) c5)
                have HP36 := Lib.hid (hP3.set b1 (strV_kind _) (.slice A5 (n + 1) c5))
                have k0 := HK1.out _ hP1.rd
                have k1 := HK2.out _ hP2.rd
                have l0 := HK1.out _ hP16.rd
                have l1 := HK2.out _ hP26.rd
                have HP16 := Lib.hid hP16
                have HP26 := Lib.hid hP26
                have HD6 : Hid (∀ q, inA A5 q → w9.heap.size ≤ q) := Lib.hid (fun q hq => by
                  rcases hA5 q hq with h | ⟨h, _⟩
                  · exact HDn.out q h
                  · have h1 := Hsz.out; have h2 := HE4.out.size; simp only [World.size_alloc, World.drew] at h; omega)
                have Hsz6 : Hid (w9.heap.size ≤ (x5.setCell ⟨gs, 1, none⟩ (.slice A5 (n + 1) c5)).heap.size) := Lib.hid (by rw [setCell_size]; have h1 := Hsz.out; have h2 := HE4.out.size; have h3 := ho5.size; simp only [World.size_alloc, World.drew] at h3; omega)
                have Hc6 := Lib.hid (Hcut.out _ HP36.out)
                clear hr5 ho5 hA5 hgD hB5 hT5 hN5 hone h4 hP1 hP2 hP3 hP16 hP26
                refine hK.out _ _ ?_ (fun hHeld => ?_)
                · try dsimp only
                  exact ⟨k0, k1⟩
                clear hK K
                refine wpAnyH_take (i := 17) (v := ?_) (take_list rfl) (by kernel_rfl) (by kernel_rfl) (by kernel_rfl) (fun _ _ _ h => h) (Or.inl ⟨by rfl, ?_⟩) (by assumption) ?_
                rotate_left
                · intro w hSw
                  try dsimp only at hSw
                  first | (go_simp; done) | (go_simp; with_reducible rfl)
                try simp only [Act.put, List.setIfInBounds_toArray, List.set_cons_zero, List.set_cons_succ]
                refine wpAnyH_ready (rs := [18]) (by kernel_rfl) (by simp) ?_
                refine AllReadyH.cons (take_list rfl) (fun K hK => ?_) ?_
                · skip
                  go_simp
                  refine hK.out _ _ ?_ (fun hHeld => ?_)
                  · try dsimp only
                    exact ⟨l0, l1⟩
                  clear hK K
                  refine wpAnyH_done (by kernel_rfl) ?_ _
                  go_wp2
                  go_roundw
                  case rel => exact ⟨k + 1, n + 1, _, A5, c5, _, _, R'.drop nn, cr - nn, by omega, by go_num, rfl, Lib.hid ⟨by rw [Hnk2.out], by rw [List.length_drop, ← Hmr2.out]⟩, Lib.hid HS2.out, Lib.hid ⟨by have := Hcr.out.1; omega, fun h => by
                    by_cases hcc : cr = nn
                    · omega
                    · rw [if_neg hcc] at h
                      have := Hcr.out.2 (by simpa using h)
                      omega⟩, HB6, HN6, HD6, Lib.hid (by rw [HS1.out]; exact HT6.out), Hsz6, HP16, HP26, Lib.hid (by rw [List.map_drop]; exact Hc6.out)⟩
                  case measure => simp [intOf]; omega
                exact AllReadyH.nil
              exact AllReadyH.nil
            exact AllReadyH.nil
          exact AllReadyH.nil
        exact AllReadyH.nil
      exact AllReadyH.nil
    · obtain rfl : k = ids.length := by omega
      have Hnk := Hn.out.1
      have Hmr := Hn.out.2
      obtain rfl : n = ids.length := Hnk
      have HGd : Hid (SgIn wr ⟨(f : Int), (linesK ids cnt vars ids.length).1⟩ D d) := Lib.hid ⟨⟨by show (-9223372036854775808 : Int) ≤ (f : Int); omega, by show (f : Int) ≤ 9223372036854775807; omega⟩, by show (linesK ids cnt vars ids.length).1.length ≤ d; rw [Hlk.out]; exact HN.out.row.le, HN.out.row.max, HN.out.row.nil_cap, HT.out.row HN.out.row⟩
      have HE := Lib.hid (rencodeG_any ⟨(f : Int), (linesK ids cnt vars ids.length).1⟩ D d wr HGd.out (fun x hx v hv => by have := Hv2.out v ((linesK_mem _ _ _ _).2 x hx v hv); unfold maxLen; omega))
      have HBe2 : Hid (0 < m → R = (⟨0, []⟩, 2)) := Lib.hid (fun h => HBe.out (by rw [← HRe.out]; intro h2; rw [h2] at Hmr; simp at Hmr; omega))
      have Hlk2 := Lib.hid (Hlk.out ids.length)
      have HBw := Lib.hid HN.out.bel
      have b0 := HSk.out.cell 0
      have b1 := HSk.out.cell 1
      simp only [List.getElem?_toArray, List.getElem?_cons_zero, List.getElem?_cons_succ] at b0 b1
      have HDw : Hid (¬ inA D w.heap.size) := Lib.hid (fun h => by have h1 := HN.out.2.2 _ h; have h2 := HZ0.out; omega)
      generalize (linesK ids cnt vars ids.length).1 = L at *
      obtain ⟨⟨q, er⟩, hq⟩ : ∃ a, ansG ⟨(f : Int), L⟩ = a := ⟨_, rfl⟩
      rw [hq] at HE HGot
      unfold sgV at HE
      dsimp only at HE HGot
      rw [Hlk2.out] at HE
      have hm0 : (0 : Int) ≤ (m : Int) := by omega
      clear hq HBe Hle Hlk HBk Hmr
      go_wp2_with fail
      refine HE.out.mono ?_
      rintro e wf ⟨A7, c7, rfl, hn7, hb7⟩
      have Hb7 := Lib.hid (ext_trans HBw.out hb7)
      have HSf := HSk.out.ext hb7
      have c0 := HSf.cell 0
      have c1 := HSf.cell 1
      simp only [List.getElem?_toArray, List.getElem?_cons_zero, List.getElem?_cons_succ] at c0 c1
      have Hgf := Lib.hid (HGd.out.ext hb7)
      have HNf := Lib.hid (HN.out.row.ext hb7)
      have HTf := Lib.hid (HT.out.ext hb7)
      clear b0 b1 HE HSf HBw
      by_cases her : er = 0
      case neg =>
        have Hno : Hid (R = (⟨0, []⟩, 2)) := Lib.hid (by rw [HGot.out, if_neg (fun h => her h.1)])
        have hne : (er != 0) = true := by simpa using her
        clear hn7 hb7
        have HBw : Hid (Below w0.heap.size w0 wf) := Lib.hid (Hb7.out)
        have hR := HB0.out.ext HBw.out
        have z0 := hR.cell 0
        have g0 := hR.free 0
        have hR1 := hR.put 0 (.int .i64 0)
        have z1 := hR1.cell 1
        have g1 := hR1.free 1
        have hR2 := hR1.put 1 (.slice none 0 0)
        have r0 := hR2.cell 0
        have r1 := hR2.cell 1
        simp only [List.getElem?_toArray, List.setIfInBounds_toArray, List.set_cons_zero, List.set_cons_succ, List.getElem?_cons_zero, List.getElem?_cons_succ] at z0 z1 r0 r1
        have Hbr : Hid (Below w.heap.size w ((wf.setCell ⟨w.heap.size, 0, none⟩ (.int .i64 0)).setCell ⟨w.heap.size, 1, none⟩ (.slice none 0 0))) := Lib.hid (Below.setCell (Below.setCell (ext_trans Hb0.out HBw.out) (Nat.le_refl _) _) (Nat.le_refl _) _)
        clear hR hR1 hR2
        go_wp2
        refine bodyPost_ret (v := .tuple #[.agg #[.int .i64 0, .slice none 0 0], .int .i64 2]) (by simp [results, Tryz.results15, go_sem, r0, r1]) rfl ?_
        rw [Hno.out]
        exact ⟨none, 0, rfl, SgIn.none_ _, Hbr.out⟩
      subst her
      by_cases hmz : m = 0
      case neg =>
        have Hno : Hid (R = (⟨0, []⟩, 2)) := Lib.hid (HBe2.out (by omega))
        have hmp : (0 : Int) < (m : Int) := by omega
        clear hn7 hb7
        have HBw : Hid (Below w0.heap.size w0 wf) := Lib.hid (Hb7.out)
        have hR := HB0.out.ext HBw.out
        have z0 := hR.cell 0
        have g0 := hR.free 0
        have hR1 := hR.put 0 (.int .i64 0)
        have z1 := hR1.cell 1
        have g1 := hR1.free 1
        have hR2 := hR1.put 1 (.slice none 0 0)
        have r0 := hR2.cell 0
        have r1 := hR2.cell 1
        simp only [List.getElem?_toArray, List.setIfInBounds_toArray, List.set_cons_zero, List.set_cons_succ, List.getElem?_cons_zero, List.getElem?_cons_succ] at z0 z1 r0 r1
        have Hbr : Hid (Below w.heap.size w ((wf.setCell ⟨w.heap.size, 0, none⟩ (.int .i64 0)).setCell ⟨w.heap.size, 1, none⟩ (.slice none 0 0))) := Lib.hid (Below.setCell (Below.setCell (ext_trans Hb0.out HBw.out) (Nat.le_refl _) _) (Nat.le_refl _) _)
        clear hR hR1 hR2
        go_wp2
        refine bodyPost_ret (v := .tuple #[.agg #[.int .i64 0, .slice none 0 0], .int .i64 2]) (by simp [results, Tryz.results15, go_sem, r0, r1]) rfl ?_
        rw [Hno.out]
        exact ⟨none, 0, rfl, SgIn.none_ _, Hbr.out⟩
      have hcv1 := conv_bytes wf A7 q.length c7 q rfl hn7.rd
      have hcv2 := conv_bytes wf A p.length ca p rfl (HA.out.ext (ext_trans Hb0.out Hb7.out))
      have hmz1 : (m : Int) = 0 := by omega
      have hmz2 : ¬ (0 : Int) < (m : Int) := by omega
      by_cases hqp : q = p
      case neg =>
        have Hno : Hid (R = (⟨0, []⟩, 2)) := Lib.hid (by rw [HGot.out, if_neg (by rw [decide_eq_false hqp]; simp)])
        have hne2 : ((⟨q.toArray⟩ : ByteArray).toList == (⟨p.toArray⟩ : ByteArray).toList) = false := ne_strP hqp
        obtain ⟨Z, hZ⟩ : ∃ Z : ByteArray, (⟨q.toArray⟩ : ByteArray) = Z := ⟨_, rfl⟩
        obtain ⟨Y, hY'⟩ : ∃ Z : ByteArray, (⟨p.toArray⟩ : ByteArray) = Z := ⟨_, rfl⟩
        rw [hZ] at hcv1 hne2
        rw [hY'] at hcv2 hne2
        clear hZ hY' hqp hn7 hb7
        have HBw : Hid (Below w0.heap.size w0 wf) := Lib.hid (Hb7.out)
        have hR := HB0.out.ext HBw.out
        have z0 := hR.cell 0
        have g0 := hR.free 0
        have hR1 := hR.put 0 (.int .i64 0)
        have z1 := hR1.cell 1
        have g1 := hR1.free 1
        have hR2 := hR1.put 1 (.slice none 0 0)
        have r0 := hR2.cell 0
        have r1 := hR2.cell 1
        simp only [List.getElem?_toArray, List.setIfInBounds_toArray, List.set_cons_zero, List.set_cons_succ, List.getElem?_cons_zero, List.getElem?_cons_succ] at z0 z1 r0 r1
        have Hbr : Hid (Below w.heap.size w ((wf.setCell ⟨w.heap.size, 0, none⟩ (.int .i64 0)).setCell ⟨w.heap.size, 1, none⟩ (.slice none 0 0))) := Lib.hid (Below.setCell (Below.setCell (ext_trans Hb0.out HBw.out) (Nat.le_refl _) _) (Nat.le_refl _) _)
        clear hR hR1 hR2
        go_wp2
        refine bodyPost_ret (v := .tuple #[.agg #[.int .i64 0, .slice none 0 0], .int .i64 2]) (by simp [results, Tryz.results15, go_sem, r0, r1]) rfl ?_
        rw [Hno.out]
        exact ⟨none, 0, rfl, SgIn.none_ _, Hbr.out⟩
      have Hyes : Hid (R = (⟨(f : Int), L⟩, 0)) := Lib.hid (by rw [HGot.out, if_pos ⟨rfl, decide_eq_true hqp⟩])
      subst hqp
      obtain ⟨Z, hZ⟩ : ∃ Z : ByteArray, (⟨q.toArray⟩ : ByteArray) = Z := ⟨_, rfl⟩
      rw [hZ] at hcv1 hcv2
      clear hZ hn7 hb7
      have HBw : Hid (Below w0.heap.size w0 wf) := Lib.hid Hb7.out
      have hR := HB0.out.ext HBw.out
      have z0 := hR.cell 0
      have g0 := hR.free 0
      have hR1 := hR.put 0 (.int .i64 (f : Int))
      have z1 := hR1.cell 1
      have g1 := hR1.free 1
      have hR2 := hR1.put 1 (.slice D ids.length d)
      have r0 := hR2.cell 0
      have r1 := hR2.cell 1
      simp only [List.getElem?_toArray, List.setIfInBounds_toArray, List.set_cons_zero, List.set_cons_succ, List.getElem?_cons_zero, List.getElem?_cons_succ] at z0 z1 r0 r1
      have Hbr : Hid (Below w.heap.size w ((wf.setCell ⟨w.heap.size, 0, none⟩ (.int .i64 (f : Int))).setCell ⟨w.heap.size, 1, none⟩ (.slice D ids.length d))) := Lib.hid (Below.setCell (Below.setCell (ext_trans Hb0.out HBw.out) (Nat.le_refl _) _) (Nat.le_refl _) _)
      have HRo := Lib.hid ((HNf.out.far (p := ⟨w.heap.size, 0, none⟩) HDw.out (.int .i64 (f : Int))).far (p := ⟨w.heap.size, 1, none⟩) HDw.out (.slice D ids.length d))
      have HRt := Lib.hid ((HTf.out.far hR (by decide) 0 (.int .i64 (f : Int))).far hR1 (by decide) 1 (.slice D ids.length d))
      clear hR hR1 hR2
      go_wp2
      refine bodyPost_ret (v := .tuple #[.agg #[.int .i64 (f : Int), .slice D ids.length d], .int .i64 0]) (by simp [results, Tryz.results15, go_sem, r0, r1]) rfl ?_
      rw [Hyes.out]
      exact ⟨D, d, by rw [← Hlk2.out], ⟨Hgf.out.int, by show L.length ≤ d; rw [Hlk2.out]; exact HRo.out.le, HRo.out.max, HRo.out.nil_cap, HRt.out.row HRo.out⟩, Hbr.out⟩
end Go.Proofs.YtpjgkacekelkdaaGreatDoor
