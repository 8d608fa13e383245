/-
  The walks of the law SuperTurned. No statement of the seat is proved here.
-/
import Derived.Test.YtlpjeopeboemmaaDoorSpoil
namespace Go.Proofs.YtlpjeopeboemmaaDoor
open Go Go.RowKit

theorem mask20 (v : Int) : ∃ m : Nat, bits .and .i64 v 1048575 = (m : Int) ∧ (m : Int) ≤ 1048575 := by
  have hx : (BitVec.ofInt 64 v &&& BitVec.ofInt 64 1048575).toNat ≤ 1048575 := by
    rw [BitVec.toNat_and]
    exact Nat.le_trans Nat.and_le_right (by decide)
  have h : bits .and .i64 v 1048575 = ((BitVec.ofInt 64 v &&& BitVec.ofInt 64 1048575).toNat : Int) := by
    show IntKind.i64.wrap ((BitVec.ofInt 64 v &&& BitVec.ofInt 64 1048575).toNat : Int) = _
    rw [IntKind.wrap_i64]; omega
  exact ⟨_, h, by omega⟩
theorem xor_byte (x : UInt8) (v : Int) (h0 : v ≠ 0) (h1 : 0 ≤ v) (h2 : v ≤ 255) : ∃ y : UInt8, bits .xor .u8 (x.toNat : Int) v = (y.toNat : Int) ∧ y ≠ x := by
  obtain ⟨b, rfl⟩ : ∃ b : Nat, v = (b : Int) := ⟨v.toNat, by omega⟩
  have hx := x.toNat_lt
  have hlt : x.toNat ^^^ b < 256 := Nat.xor_lt_two_pow (n := 8) (by omega) (by omega)
  have e : bits .xor .u8 (x.toNat : Int) (b : Int) = ((x.toNat ^^^ b : Nat) : Int) := by
    show IntKind.u8.wrap ((BitVec.ofInt 8 (x.toNat : Int) ^^^ BitVec.ofInt 8 (b : Int)).toNat : Int) = _
    have o : ∀ a : Nat, a < 256 → (BitVec.ofInt 8 (a : Int)).toNat = a := fun a ha => by simp [BitVec.toNat_ofInt]; omega
    rw [BitVec.toNat_xor, o _ hx, o _ (by omega), IntKind.wrap_u8]
    omega
  refine ⟨(x.toNat ^^^ b).toUInt8, by rw [e, toUInt8_toNat, Nat.mod_eq_of_lt hlt], fun h => h0 ?_⟩
  have h3 := congrArg UInt8.toNat h
  rw [toUInt8_toNat, Nat.mod_eq_of_lt hlt] at h3
  have h4 : x.toNat ^^^ b = x.toNat ^^^ 0 := by rw [h3]; simp
  have h5 := xor_right_cancel h4
  omega

set_option maxHeartbeats 1000000 in
theorem walk_out (A B : Option Addr) (n m c d : Nat) (xa xb : List UInt8) (at_ by_ : Int) (once : Bool) (W : World) (hn : n = xa.length) (hm : m = xb.length) (la : xa.length ≤ maxLen) (lb : xb.length ≤ maxLen) (h : 814 < xa.length ∨ (xa.length ≤ 814 ∧ 814 < xb.length) ∨ (xa.length ≤ 814 ∧ xb.length ≤ 814 ∧ by_ = 0)) :
    Calls Tryd.prog 9 #[.slice A n c, .slice B m d, .int .i64 at_, .int .u8 by_, .bool once] W fun e w' => e = .returned (.bool true) ∧ Below W.heap.size W w' := by
  subst hn hm
  unfold maxLen at la lb
  have la' : (xa.length : Int) ≤ 9223372036854775807 := by omega
  have lb' : (xb.length : Int) ≤ 9223372036854775807 := by omega
  clear la lb
  rcases h with h | ⟨h, h1⟩ | ⟨h, h1, h2⟩
  · have hi : (814 : Int) < (xa.length : Int) := by omega
    go_enter Tryd.func9, Tryd.ntmps9
    go_wp2
    go_ret
    exact ⟨rfl, Below.refl _ _⟩
  · have hi : (814 : Int) < (xb.length : Int) := by omega
    have hd : decide ((814 : Int) < (xa.length : Int)) = false := decide_eq_false (by omega)
    go_enter Tryd.func9, Tryd.ntmps9
    go_wp2
    go_ret
    exact ⟨rfl, Below.refl _ _⟩
  · have hd : decide ((814 : Int) < (xa.length : Int)) = false := decide_eq_false (by omega)
    have hd2 : decide ((814 : Int) < (xb.length : Int)) = false := decide_eq_false (by omega)
    subst h2
    go_enter Tryd.func9, Tryd.ntmps9
    go_wp2
    go_ret
    exact ⟨rfl, Below.refl _ _⟩

/-- a byte of a slot is spoilt: what is left of the disk -/
theorem spoilt {S : Sec} {slot n q j : Nat} {img : List UInt8} (hsl : slot ≤ 1) (h32 : 32 ≤ S.length) (hi : img.length ≤ 814) (hS : slotD (lasts S) slot = packOf n img) (hq : q < 16) (hj : j < 64) (y : UInt8) (hy : (rowOf n q img)[j]? ≠ some y) :
    lastOf (S[slot * 16 + q]'(by omega)) = rowOf n q img ∧ (unpackS (slotD (lasts (writeS S (-1) ((slot * 16 + q : Nat) : Int) ((rowOf n q img).set j y))) slot)).1 = 0 ∧
      slotD (lasts (writeS S (-1) ((slot * 16 + q : Nat) : Int) ((rowOf n q img).set j y))) (1 - slot) = slotD (lasts S) (1 - slot) := by
  have hr := row_length (n := n) hi hq
  obtain ⟨_, e2, _⟩ := write_plain (S := S) (i := slot * 16 + q) (by omega) (bs := (rowOf n q img).set j y) (by rw [List.length_set]; exact hr)
  refine ⟨?_, ?_, ?_⟩
  · have h1 := slotD_get (lasts S) slot q hq
    rw [hS, packOf_get hq] at h1
    injection h1 with h1
    rw [h1, lasts_getD, List.getD_eq_getElem?_getD, List.getElem?_eq_getElem (by omega)]; rfl
  · rw [e2, slotD_set hq (by rw [lasts_length]; omega), hS]
    exact unpack_spoilt hi hq hj hy
  · rw [e2, slotD_set_other hq (by omega)]

/-- a byte of a row of bytes is another one -/
theorem bytes_put {w : World} {g : Nat} {t : TypeId} {r : List UInt8} (h : Blk w g t (r.map bv).toArray) (j : Nat) (y : UInt8) : Blk (w.setCell ⟨g, j, none⟩ (.int .u8 (y.toNat : Int))) g t ((r.set j y).map bv).toArray := by
  have h1 := h.put j (.int .u8 (y.toNat : Int))
  rw [List.setIfInBounds_toArray] at h1
  rw [List.map_set]
  exact h1

/-- a sector is read, spoilt, written: the disk of the law's own -/
theorem spoil_imp {W w2 w3 : World} {gd g' : Nat} {S : Sec} {l : Int} (hI : Imp w2 (Born W w2) gd S l) (hb : Below W.heap.size W w2) (hb3 : Below w2.heap.size w2 w3) (hg : w2.heap.size ≤ g') (p : Nat) (u : Value) :
    Imp (w3.setCell ⟨g', p, none⟩ u) (Born W (w3.setCell ⟨g', p, none⟩ u)) gd S l ∧ Below W.heap.size W (w3.setCell ⟨g', p, none⟩ u) := by
  have hz := hb3.size
  have hs : (w3.setCell ⟨g', p, none⟩ u).heap.size = w3.heap.size := by simp [World.setCell]
  refine ⟨?_, (ext_trans hb hb3).setCell (p := ⟨g', p, none⟩) (by show W.heap.size ≤ g'; have := hb.size; omega) u⟩
  have h1 := (hI.ext hb3).only ((Only.refl (fun k => k = g') w3).setCell (p := ⟨g', p, none⟩) (.inl rfl) u) (fun k hk e => by have := hk.2; omega)
  exact h1.mono (fun k hk _ => ⟨hk.1, by have := hk.2; rw [hs]; omega⟩)

set_option maxRecDepth 100000 in
set_option maxHeartbeats 4000000 in
theorem walk_once (A B : Option Addr) (n m c d : Nat) (xa xb : List UInt8) (at_ by_ : Int) (W : World) (ht : Tab W) (ha : Bs W A n c xa) (hb : Bs W B m d xb) (la : xa.length ≤ 814) (lb : xb.length ≤ 814) (hb0 : by_ ≠ 0) (hb1 : 0 ≤ by_) (hb2 : by_ ≤ 255) :
    Calls Tryd.prog 9 #[.slice A n c, .slice B m d, .int .i64 at_, .int .u8 by_, .bool true] W fun e w' => e = .returned (.bool true) ∧ Below W.heap.size W w' := by
  have hn := ha.1
  have hm := hb.1
  subst hn hm
  obtain ⟨mk, hmk, hmk2⟩ := mask20 at_
  have la' : (xa.length : Int) ≤ 814 := by omega
  have lb' : (xb.length : Int) ≤ 814 := by omega
  have hby : (by_ == 0) = false := beq_eq_false_iff_ne.2 hb0
  have hnew := new_step 32 W W (Below.refl _ _) (by omega) (by omega)
  have Hnew := Lib.hid hnew
  clear hnew
  have hbA : ∀ w1 : World, ∀ ad, A = some ad → xa ≠ [] → ¬ Born W w1 ad.block := fun w1 ad e hne hk => by
    obtain ⟨ad', e', hc⟩ := ha.2.2.at_ (k := 0) (by have := List.length_pos_iff.2 hne; simpa using this)
    rw [e] at e'
    injection e' with e'
    subst e'
    have h1 := World.block_lt_of_cell? W _ hc
    rw [block_add] at h1
    have := hk.1
    omega
  have HbA := Lib.hid hbA
  clear hbA
  go_enter Tryd.func9, Tryd.ntmps9
  go_wp2_with fail
  refine Hnew.out.mono ?_
  rintro e w1 ⟨gd, rfl, hI1, hbw1⟩
  go_wp2_with fail
  refine (step_format hI1 hbw1 ht (small_mono (small_zero 32) (by omega)) (by simp [zeroS]) (Below.refl _ _) A _ c xa (ha.ext hbw1) (HbA.out w1) la).mono ?_
  rintro e w2 ⟨g, s, rfl, hO, hA, hi, hN, hsl, hl, hlen, hs0, hs1⟩
  have hl32 : s.S.length = 32 := by rw [hlen]; simp [zeroS]
  obtain ⟨q, hq⟩ : ∃ q, q = mk % 1024 / 64 := ⟨_, rfl⟩
  obtain ⟨j, hj⟩ : ∃ j, j = mk % 64 := ⟨_, rfl⟩
  have hq16 : q < 16 := by omega
  have hj64 : j < 64 := by omega
  have hsi : Single s.S := hA.one
  obtain ⟨gc, BB, CC, hL⟩ := hO.imp
  have hrd := read_ok hL (hA.small _ (by omega)) q (by omega)
  have eq1 : (q : Int) = (mk : Int) % 1024 / 64 := by omega
  rw [eq1] at hrd
  obtain ⟨x, hx⟩ : ∃ x, (rowOf 1 q xa)[j]? = some x := ⟨_, List.getElem?_eq_getElem (by rw [row_length la hq16]; exact hj64)⟩
  obtain ⟨y, hy1, hy2⟩ := xor_byte x by_ hb0 hb1 hb2
  have hyx : (rowOf 1 q xa)[j]? ≠ some y := by rw [hx]; intro e; injection e with e; exact hy2 e.symm
  obtain ⟨p1, p2, p3⟩ := spoilt (S := s.S) (slot := 0) (n := 1) (q := q) (j := j) (img := xa) (by omega) (by omega) la hs0 hq16 hj64 y hyx
  rw [show s.S[q]'(by omega) = s.S[0 * 16 + q]'(by omega) by simp] at hrd
  rw [p1] at hrd
  have Hrd := Lib.hid hrd
  have hq0 : ((0 * 16 + q : Nat) : Int) = (mk : Int) % 1024 / 64 := by omega
  have hwlen : (rowOf 1 q xa).length = 64 := row_length la hq16
  obtain ⟨-, w2l, w2c⟩ := write_plain (S := s.S) (i := 0 * 16 + q) (by omega) (bs := (rowOf 1 q xa).set j y) (by rw [List.length_set]; exact hwlen)
  have htell : (tellD (lasts (writeS s.S (-1) ((0 * 16 + q : Nat) : Int) ((rowOf 1 q xa).set j y)))).1 = 0 := by
    unfold tellD
    rw [show 1 - 0 = 1 from rfl] at p3
    rw [p3, p2, hs1]
    rfl
  have Htell := Lib.hid htell
  have Hw2c := Lib.hid w2c
  have Hx := Lib.hid hx
  have hsm9 : Small 999999 s.S := hA.small _ (by omega)
  have hsmw := small_write hsm9 (-1) ((0 * 16 + q : Nat) : Int) ((rowOf 1 q xa).set j y)
  have hlenw := writeS_length s.S (-1) ((0 * 16 + q : Nat) : Int) ((rowOf 1 q xa).set j y)
  have Hlenw := Lib.hid hlenw
  clear hrd eq1 p1 p2 p3 htell w2l w2c hx hyx hlenw hs0 hs1
  go_wp2_with fail
  refine Hrd.out.mono ?_
  rintro e w3 ⟨g', rfl, hb3, hk3, hg3⟩
  have hcx : w3.cell? ⟨g', mk % 64, none⟩ = some (.int .u8 (x.toNat : Int)) := by
    rw [hk3.cell, ← hj, List.getElem?_toArray, List.getElem?_map, Hx.out]; rfl
  have hcf : w3.frozen? ⟨g', mk % 64, none⟩ = false := hk3.free _
  have hIs := hO.imp
  rw [hl] at hIs
  obtain ⟨hI4, hb4⟩ := spoil_imp hIs hO.bel hb3 hg3 (mk % 64) (.int .u8 (y.toNat : Int))
  have hrd4 : Rd (w3.setCell ⟨g', mk % 64, none⟩ (.int .u8 (y.toNat : Int))) (some ⟨g', 0, none⟩) (((rowOf 1 q xa).set j y).map bv) := by
    rw [hj]
    exact Rd.blk (bytes_put hk3 _ _)
  have hwr := write_step hI4 hb4 hsm9 ((0 * 16 + q : Nat) : Int) (some ⟨g', 0, none⟩) 64 64 ((rowOf 1 q xa).set j y) (by rw [List.length_set]; exact hwlen.symm) hrd4
  rw [Hw2c.out, hq0] at hwr
  have Hwr := Lib.hid hwr
  have hx255 : (x.toNat : Int) ≤ 255 := by have := x.toNat_lt; omega
  clear hwr hk3 hrd4 hI4 hIs
  go_wp2_with fail
  refine Hwr.out.mono ?_
  rintro e w5 ⟨rfl, hI5, hb5⟩
  rw [← hq0] at hI5
  have hop := step_open_none hI5 hb5 ht (small_mono hsmw (by omega)) (by rw [Hlenw.out]; omega) Htell.out
  have Hop := Lib.hid hop
  clear hop hI5 Hwr
  go_wp2_with fail
  refine Hop.out.mono ?_
  rintro e w6 ⟨rfl, hb6⟩
  have hb56 := ext_trans hb5 hb6
  go_wp2_with fail
  refine (known_any w6 (ht.ext hb56)).mono ?_
  rintro e w7 ⟨rfl, hb7⟩
  go_wp2
  go_ret
  exact ⟨rfl, ext_trans hb56 hb7⟩
end Go.Proofs.YtlpjeopeboemmaaDoor
