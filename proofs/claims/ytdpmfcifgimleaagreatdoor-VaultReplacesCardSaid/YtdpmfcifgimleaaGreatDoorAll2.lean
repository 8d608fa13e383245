/-
  Texts of this claim, joined (part 2): contracts and lemmas that the last text goes by. No statement of the seat is proved here.
-/
import Derived.Test.YtdpmfcifgimleaaGreatDoorAll1
import Derived.Laws.IdiomStrings
import Derived.Lib.BufferRead
import Derived.BigRegion
set_option linter.unusedVariables false
set_option linter.unusedSimpArgs false
/-
  The contract of super's Pack. No statement of the seat is proved here.
-/
namespace Go.Proofs.YtdpmfcifgimleaaGreatDoor
open Go Go.RowKit

/-- bytes that lie somewhere, as an argument -/
def Bs (W : World) (A : Option Addr) (n c : Nat) (xs : List UInt8) : Prop := n = xs.length ∧ xs.length ≤ c ∧ Rd W A (xs.map bv)
theorem Bs.ext {W W' : World} {A : Option Addr} {n c : Nat} {xs : List UInt8} (h : Bs W A n c xs) (hb : Below W.heap.size W W') : Bs W' A n c xs := ⟨h.1, h.2.1, h.2.2.ext hb⟩
theorem Bs.drew {W : World} {A : Option Addr} {n c : Nat} {xs : List UInt8} (h : Bs W A n c xs) : Bs W.drew A n c xs := h
theorem Bs.drewN {W : World} {A : Option Addr} {n c : Nat} {xs : List UInt8} (h : Bs W A n c xs) (q : Nat) : Bs (W.drewN q) A n c xs := h
theorem Bs.alloc {W : World} {A : Option Addr} {n c : Nat} {xs : List UInt8} (h : Bs W A n c xs) (o : Obj) : Bs (W.alloc o) A n c xs := ⟨h.1, h.2.1, h.2.2.alloc o⟩
theorem New.bs {w W : World} {A : Option Addr} {c : Nat} {xs : List UInt8} (h : New w W A c xs) : Bs W A xs.length c xs := by
  have h1 := Own.cap h
  rw [List.length_map] at h1
  exact ⟨rfl, h1, h.rd⟩
theorem New.bs' {w W : World} {A : Option Addr} {n c : Nat} {xs : List UInt8} (h : New w W A c xs) (hn : n = xs.length) : Bs W A n c xs := by subst hn; exact h.bs
theorem Bs.blk {W : World} {g : Nat} {bs : List UInt8} (h : Blk W g 5 (bs.map bv).toArray) : Bs W (some ⟨g, 0, none⟩) bs.length bs.length bs := ⟨rfl, Nat.le_refl _, Rd.blk h⟩

theorem Blk.new_at (w : World) (t : TypeId) (cs : Array Value) {g : Nat} (hg : g = w.heap.size) : Blk (w.alloc (.cells cs t)) g t cs := by subst hg; exact Blk.new w t cs
theorem Bs.zeros {W : World} {g t : Nat} (h : Blk W g 5 (Array.replicate t (bv 0))) : Bs W (some ⟨g, 0, none⟩) t t (List.replicate t 0) := by
  refine ⟨by simp, by simp, ?_⟩
  have := Rd.blk h
  simpa using this
theorem Bs.byte {W : World} {g k : Nat} (hk : k < 256) (h : Blk W g 5 #[.int .u8 (k : Int)]) : Bs W (some ⟨g, 0, none⟩) 1 1 [k.toUInt8] := by
  refine ⟨rfl, Nat.le_refl _, ?_⟩
  have h1 := Rd.blk h
  have e : bv k.toUInt8 = .int .u8 (k : Int) := by unfold bv; rw [toUInt8_toNat, Nat.mod_eq_of_lt hk]
  rw [List.map_cons, List.map_nil, e]
  exact h1
/-- a part of bytes -/
theorem Bs.part {W : World} {ad : Addr} {n c d i m : Nat} {xs : List UInt8} (h : Bs W (some ad) n c xs) (hm : d = min m (xs.length - i)) (j : Nat) (hj : j = c - i) (hi : i ≤ xs.length) : Bs W (some (ad.add i)) d j ((xs.drop i).take m) := by
  obtain ⟨rfl, h2, h3⟩ := h
  refine ⟨by rw [List.length_take, List.length_drop]; exact hm, by rw [List.length_take, List.length_drop]; omega, ?_⟩
  rw [List.map_take, List.map_drop]
  exact (h3.add i).take m
theorem ext_alloc {a b : World} (h : Below a.heap.size a b) (o : Obj) : Below a.heap.size a (b.alloc o) := h.alloc h.size o
theorem ext_drew {a b : World} (h : Below a.heap.size a b) : Below a.heap.size a b.drew := Below.drew' h
theorem RowsF.blk {W : World} {g : Nat} {t : TypeId} {vs : List Value} {xss : List (List UInt8)} (hblk : Blk W g t vs.toArray) (hlen : vs.length = xss.length)
    (h : ∀ (j : Nat) (v : Value) (xs : List UInt8), vs[j]? = some v → xss[j]? = some xs → ∃ B c, v = .slice B xs.length c ∧ xs.length ≤ c ∧ Rd W B (xs.map bv)) : RowsF (fun _ => False) W (some ⟨g, 0, none⟩) xss :=
  ⟨vs, RdF.of (Rd.blk hblk), hlen, fun j v xs hv hx => by
    obtain ⟨B, c, e, hc, hr⟩ := h j v xs hv hx
    exact ⟨B, c, e, hc, RdF.of hr⟩⟩

/-- Join of a literal of three, of two, of one -/
theorem join3 {W : World} {g : Nat} {A1 A2 A3 : Option Addr} {n1 c1 n2 c2 n3 c3 : Nat} (xs1 xs2 xs3 bs : List UInt8) {n : Nat} (hbs : xs1 ++ xs2 ++ xs3 = bs) (hn : n = bs.length) (hblk : Blk W g 57 #[.slice A1 n1 c1, .slice A2 n2 c2, .slice A3 n3 c3])
    (h1 : Bs W A1 n1 c1 xs1) (h2 : Bs W A2 n2 c2 xs2) (h3 : Bs W A3 n3 c3 xs3) (hb : n ≤ 100000) :
    Calls Tryz.prog 139 #[.slice (some ⟨g, 0, none⟩) 3 3] W fun e w' => ∃ A' c', e = .returned (.slice A' n c') ∧ New W w' A' c' bs ∧ Below W.heap.size W w' := by
  obtain ⟨rfl, l1, r1⟩ := h1
  obtain ⟨rfl, l2, r2⟩ := h2
  obtain ⟨rfl, l3, r3⟩ := h3
  subst hn
  exact join_any _ 3 3 [xs1, xs2, xs3] _ W rfl (by rw [← hbs]; simp) (RowsF.blk (vs := [.slice A1 xs1.length c1, .slice A2 xs2.length c2, .slice A3 xs3.length c3]) hblk rfl (by
    intro j v xs hv hx
    match j, hv, hx with
    | 0, hv, hx => simp at hv hx; subst hv hx; exact ⟨_, _, rfl, l1, r1⟩
    | 1, hv, hx => simp at hv hx; subst hv hx; exact ⟨_, _, rfl, l2, r2⟩
    | 2, hv, hx => simp at hv hx; subst hv hx; exact ⟨_, _, rfl, l3, r3⟩)) (by omega) (by simp)
theorem join2 {W : World} {g : Nat} {A1 A2 : Option Addr} {n1 c1 n2 c2 : Nat} (xs1 xs2 bs : List UInt8) {n : Nat} (hbs : xs1 ++ xs2 = bs) (hn : n = bs.length) (hblk : Blk W g 57 #[.slice A1 n1 c1, .slice A2 n2 c2])
    (h1 : Bs W A1 n1 c1 xs1) (h2 : Bs W A2 n2 c2 xs2) (hb : n ≤ 100000) :
    Calls Tryz.prog 139 #[.slice (some ⟨g, 0, none⟩) 2 2] W fun e w' => ∃ A' c', e = .returned (.slice A' n c') ∧ New W w' A' c' bs ∧ Below W.heap.size W w' := by
  obtain ⟨rfl, l1, r1⟩ := h1
  obtain ⟨rfl, l2, r2⟩ := h2
  subst hn
  exact join_any _ 2 2 [xs1, xs2] _ W rfl (by rw [← hbs]; simp) (RowsF.blk (vs := [.slice A1 xs1.length c1, .slice A2 xs2.length c2]) hblk rfl (by
    intro j v xs hv hx
    match j, hv, hx with
    | 0, hv, hx => simp at hv hx; subst hv hx; exact ⟨_, _, rfl, l1, r1⟩
    | 1, hv, hx => simp at hv hx; subst hv hx; exact ⟨_, _, rfl, l2, r2⟩)) (by omega) (by simp)
theorem join1 {W : World} {g : Nat} {A1 : Option Addr} {n1 c1 : Nat} (xs1 : List UInt8) (hblk : Blk W g 57 #[.slice A1 n1 c1])
    (h1 : Bs W A1 n1 c1 xs1) (hb : xs1.length ≤ 100000) :
    Calls Tryz.prog 139 #[.slice (some ⟨g, 0, none⟩) 1 1] W fun e w' => ∃ A' c', e = .returned (.slice A' xs1.length c') ∧ New W w' A' c' xs1 ∧ Below W.heap.size W w' := by
  obtain ⟨rfl, l1, r1⟩ := h1
  exact join_any _ 1 1 [xs1] _ W rfl (by simp) (RowsF.blk (vs := [.slice A1 xs1.length c1]) hblk rfl (by
    intro j v xs hv hx
    match j, hv, hx with
    | 0, hv, hx => simp at hv hx; subst hv hx; exact ⟨_, _, rfl, l1, r1⟩)) (by omega) (by simp)
theorem sum1 {W : World} {g : Nat} {A1 : Option Addr} {n1 c1 : Nat} (xs1 : List UInt8) (ht : Tab W) (hblk : Blk W g 57 #[.slice A1 n1 c1])
    (h1 : Bs W A1 n1 c1 xs1) (hb : xs1.length ≤ 100000) :
    Calls Tryz.prog 75 #[.slice (some ⟨g, 0, none⟩) 1 1] W fun e w' => e = .returned (.int .u32 (sumOf xs1 : Int)) ∧ W = w' := by
  obtain ⟨rfl, l1, r1⟩ := h1
  exact sum_any _ 1 1 [xs1] _ W ht rfl (by simp) (RowsF.blk (vs := [.slice A1 xs1.length c1]) hblk rfl (by
    intro j v xs hv hx
    match j, hv, hx with
    | 0, hv, hx => simp at hv hx; subst hv hx; exact ⟨_, _, rfl, l1, r1⟩)) (by omega) (by simp)

/-! ### Rows of a list that is being made -/
/-- a block of 'N' slices, of which the first ones are these rows, in memory from 'B0' on -/
def RowsAt (B0 : Nat) (w : World) (g N : Nat) (xss : List (List UInt8)) : Prop :=
  ∃ cs, Blk w g 57 cs ∧ cs.size = N ∧ xss.length ≤ N ∧ ∀ (j : Nat) (xs : List UInt8), xss[j]? = some xs → ∃ B c, cs[j]? = some (.slice B xs.length c) ∧ xs.length ≤ c ∧ Rd w B (xs.map bv) ∧ ∀ ad, B = some ad → B0 ≤ ad.block ∧ ad.block ≠ g
theorem RowsAt.ext {B0 : Nat} {w w' : World} {g N : Nat} {xss : List (List UInt8)} (h : RowsAt B0 w g N xss) (hb : Below w.heap.size w w') : RowsAt B0 w' g N xss := by
  obtain ⟨cs, h1, h2, h3, h4⟩ := h
  refine ⟨cs, h1.ext hb, h2, h3, fun j xs hx => ?_⟩
  obtain ⟨B, c, e, hc, hr, hn⟩ := h4 j xs hx
  exact ⟨B, c, e, hc, hr.ext hb, hn⟩
theorem RowsAt.put {B0 : Nat} {w : World} {g N : Nat} {xss : List (List UInt8)} (h : RowsAt B0 w g N xss) (hN : xss.length < N) {B : Option Addr} {n c : Nat} {xs : List UInt8} (hx : Bs w B n c xs) (hn : ∀ ad, B = some ad → B0 ≤ ad.block ∧ ad.block ≠ g) :
    RowsAt B0 (w.setCell ⟨g, xss.length, none⟩ (.slice B n c)) g N (xss ++ [xs]) := by
  obtain ⟨rfl, hc, hr⟩ := hx
  obtain ⟨cs, h1, h2, h3, h4⟩ := h
  refine ⟨_, h1.put _ _, by simpa using h2, by simp; omega, fun j ys hy => ?_⟩
  rw [List.getElem?_append] at hy
  split at hy
  · rename_i hj
    obtain ⟨B', c', e, hc', hr', hn'⟩ := h4 j ys hy
    refine ⟨B', c', by rw [Array.getElem?_setIfInBounds_ne (by omega)]; exact e, hc', hr'.setCell (fun ad ea => (hn' ad ea).2) _, hn'⟩
  · rename_i hj
    have hj0 : j = xss.length := by
      have := (List.getElem?_eq_some_iff.1 hy).1
      simp at this; omega
    subst hj0
    simp at hy
    subst hy
    exact ⟨B, c, by rw [Array.getElem?_setIfInBounds_self]; simp; omega, hc, hr.setCell (fun ad e => (hn ad e).2) _, fun ad e => hn ad e⟩
theorem RowsAt.rowsF {B0 : Nat} {w : World} {g N : Nat} {xss : List (List UInt8)} (h : RowsAt B0 w g N xss) (hN : xss.length = N) (hg : B0 ≤ g) : RowsF (fun k => k < B0) w (some ⟨g, 0, none⟩) xss := by
  obtain ⟨cs, h1, h2, h3, h4⟩ := h
  refine ⟨cs.toList, ⟨Rd.blk h1, fun ad e _ => by injection e with e; subst e; exact Nat.not_lt.2 hg⟩, by rw [Array.length_toList]; omega, fun j v xs hv hx => ?_⟩
  obtain ⟨B, c, e, hc, hr, hn⟩ := h4 j xs hx
  rw [Array.getElem?_toList] at hv
  rw [e] at hv
  injection hv with hv
  exact ⟨B, c, hv.symm, hc, hr, fun ad ea _ => Nat.not_lt.2 (hn ad ea).1⟩

theorem info_rows : (Tryz.prog.info? 57).map (fun i => (i.zero, i.size, i.bytes)) = some (some (.slice none 0 0), 1, 24) := by kernel_rfl
theorem make_rows (W : World) : (Instr.makeSlice 150 (.int .i64 16) (.int .i64 16)).run Tryz.prog W =
    .ok (.slice (some ⟨W.heap.size, 0, none⟩) 16 16) (W.alloc (.cells (madeCells #[.slice none 0 0] 16) 57)) := by
  obtain ⟨i, hi, hz, hsz, hby⟩ := info_parts info_rows
  have hr := run_make (P := Tryz.prog) W 150 57 i _ Tryz.underlying150 hi hz .i64 .i64 16 16 (by omega) (by omega) (by rw [hby]; omega) (by omega)
  simp only [hsz] at hr
  exact hr
theorem RowsAt.new (B0 : Nat) (W : World) : RowsAt B0 (W.alloc (.cells (madeCells #[.slice none 0 0] 16) 57)) W.heap.size 16 [] :=
  ⟨_, Blk.new _ _ _, by simp [madeCells], by simp, fun j xs h => by simp at h⟩

theorem packOf_length (n : Nat) (img : List UInt8) : (packOf n img).length = 16 := by simp [packOf]
theorem pack_take (n k : Nat) (img : List UInt8) (h : k < 16) : (packOf n img).take (k + 1) = (packOf n img).take k ++ [rowOf n k img] := by
  rw [List.take_succ_eq_append_getElem (by rw [packOf_length]; exact h)]
  simp [packOf]
theorem borne_length {img : List UInt8} (h : img.length ≤ 814) : (borneOf img).length = 816 := by unfold borneOf; simp [lowB_length]; omega
theorem head_length {img : List UInt8} (h : img.length ≤ 814) {n k : Nat} (hk : k < 16) : (headOf n k img).length = 60 := by
  unfold headOf
  have := borne_length h
  simp [lowB_length]; omega
theorem row_length {img : List UInt8} (h : img.length ≤ 814) {n k : Nat} (hk : k < 16) : (rowOf n k img).length = 64 := by
  unfold rowOf
  rw [List.length_append, head_length h hk, lowB_length]

set_option maxRecDepth 100000 in
set_option maxHeartbeats 4000000 in
theorem pack_any (n : Int) (A : Option Addr) (m c : Nat) (img : List UInt8) (w : World) (ht : Tab w) (hn : isInt n) (hA : Bs w A m c img) (hi : img.length ≤ 1099511627776) :
    Calls Tryz.prog 167 #[.int .i64 n, .slice A m c] w fun e w' => ∃ A' c', e = .returned (.slice A' (packI n img).length c') ∧ (packI n img).length ≤ c' ∧ RowsF (fun k => k < w.heap.size) w' A' (packI n img) ∧ Below w.heap.size w w' := by
  by_cases hf : fits n img
  · obtain ⟨h1, h2, h3⟩ := hf
    have hA' := hA
    obtain ⟨rfl, hc, hr⟩ := hA'
    obtain ⟨k0, rfl⟩ : ∃ k : Nat, n = (k : Int) := ⟨n.toNat, by omega⟩
    have hp : packI (k0 : Int) img = packOf k0 img := by unfold packI; rw [if_pos ⟨h1, h2, h3⟩]; rfl
    have hpl := packOf_length k0 img
    rw [hp, hpl]
    clear hp
    have hmr := make_rows
    have hmb := make_b
    have hi1 : (1 : Int) ≤ (k0 : Int) := h1
    have hil : (img.length : Int) ≤ 814 := by omega
    have hlow : ∀ W : World, Calls Tryz.prog 193 #[.int .i64 (img.length : Int), .int .i64 2] W fun e w' => ∃ A' c', e = .returned (.slice A' 2 c') ∧ New W w' A' c' (lowB 2 img.length) ∧ Below W.heap.size W w' := fun W => lowfirst_any img.length 2 W (by omega) (by omega)
    have Hlow := Lib.hid hlow
    have hmz : ∀ W : World, (Instr.makeSlice 57 (.int .i64 (814 - (img.length : Int))) (.int .i64 (814 - (img.length : Int)))).run Tryz.prog W =
        .ok (.slice (some ⟨W.heap.size, 0, none⟩) (814 - img.length) (814 - img.length)) (W.alloc (.cells (Array.replicate (814 - img.length) (bv 0)) 5)) := fun W => by
      have := make_b W (814 - img.length) (by omega)
      rw [made_zeros, List.map_replicate, List.toArray_replicate] at this
      rw [show ((814 - img.length : Nat) : Int) = 814 - (img.length : Int) by omega] at this
      exact this
    have hws : IntKind.i64.wrap (814 - (img.length : Int)) = 814 - (img.length : Int) := by rw [IntKind.wrap_i64]; omega
    clear hlow hmb
    go_enter Tryz.func167, Tryz.ntmps167
    go_wp2
    go_region_held3 (fun _ => True) (trivial) (first
      | (go_at_call 193; ((with_reducible refine (Hlow.out _).mono ?_)); rintro e w1 ⟨A1, c1, rfl, hn1, hb1⟩)
      | (go_at_call 139; ((with_reducible refine (join3 (n := 816) (lowB 2 img.length) img (List.replicate (814 - img.length) 0) (borneOf img) rfl ?_ (Blk.new_at _ _ _ ?_) ?_ ?_ ?_ ?_).mono ?_));
          exact (borne_length h3).symm;
          simp;
          (first | exact ((New.bs' hn1 (lowB_length _ _).symm).alloc _).alloc _ | exact (New.bs' hn1 (lowB_length _ _).symm).alloc _);
          (first | exact ((hA.drew.ext hb1).alloc _).alloc _ | exact ((hA.alloc _).drew.ext hb1).alloc _);
          (first | exact (Bs.zeros (Blk.new_at _ _ _ rfl)).alloc _ | exact ((Bs.zeros (Blk.new_at _ _ _ rfl)).drew.ext hb1).alloc _);
          omega;
          rintro e w2 ⟨A2, c2, rfl, hn2, hb2⟩))
    all_goals
      have hB2 : Bs w2 A2 816 c2 (borneOf img) := hn2.bs' (borne_length h3).symm
      have hw2 : Below w.heap.size w w2 := by
        first
          | exact ext_trans (ext_alloc (ext_alloc (ext_trans (ext_drew (Below.refl _ w)) hb1) _) _) hb2
          | exact ext_trans (ext_alloc (ext_trans (ext_drew (ext_alloc (Below.refl _ w) _)) hb1) _) hb2
      clear hn2 hb2 hn1 hb1 hws hmz Hlow
      obtain ⟨q1, q2, hrd2⟩ := hB2
      obtain ⟨ad, rfl, -⟩ := hrd2.at_ (k := 0) (by rw [List.length_map, borne_length h3]; omega)
      rw [borne_length h3] at q2
      clear q1 hA hr hpl hil hi1
      go_wp2
      go_loopw [7, 33] (fun _ i wr => ∃ k : Nat, k ≤ 16 ∧ i = .int .i64 (k : Int) ∧ Below w2.heap.size w2 wr ∧ RowsAt w.heap.size wr w2.heap.size 16 ((packOf k0 img).take k)) (fun _ i _ => 16 - (intOf i).toNat)
      case atStart => exact ⟨0, by omega, rfl, ext_alloc (Below.refl _ _) _, RowsAt.new _ _⟩
      case round =>
        obtain ⟨k, hk, rfl, hbr, hrows⟩ := hrel
        by_cases hlt : k < 16
        · have hB : Bs wr (some ad) 816 c2 (borneOf img) := ⟨(borne_length h3).symm, by rw [borne_length h3]; exact q2, hrd2.ext hbr⟩
          have e1 : IntKind.i64.wrap ((k : Int) * 51) = (k : Int) * 51 := by rw [IntKind.wrap_i64]; omega
          have e2 : IntKind.i64.wrap ((k : Int) + 1) = (k : Int) + 1 := by rw [IntKind.wrap_i64]; omega
          have e3 : IntKind.i64.wrap (((k : Int) + 1) * 51) = ((k : Int) + 1) * 51 := by rw [IntKind.wrap_i64]; omega
          have e4 : IntKind.u8.wrap (k : Int) = (k : Int) := by rw [IntKind.wrap_u8]; omega
          have b1 : (0 : Int) ≤ (k : Int) * 51 := by omega
          have b2 : (k : Int) * 51 ≤ ((k : Int) + 1) * 51 := by omega
          have b3 : ((k : Int) + 1) * 51 ≤ (c2 : Int) := by omega
          have b5 : (0 : Int) ≤ ((k : Int) + 1) * 51 := by omega
          have b6 : (k : Int) ≤ 255 := by omega
          have b7 : (k : Int) ≤ (k : Int) + 1 := by omega
          have hk256 : k < 256 := by omega
          have hcne : ¬ c2 = k * 51 := by omega
          have hlow8 : ∀ W : World, Calls Tryz.prog 193 #[.int .i64 (k0 : Int), .int .i64 8] W fun e w' => ∃ A' c', e = .returned (.slice A' 8 c') ∧ New W w' A' c' (lowB 8 k0) ∧ Below W.heap.size W w' := fun W => lowfirst_any k0 8 W (by omega) (by omega)
          have Hlow8 := Lib.hid hlow8
          have t1 : ((k : Int) * 51).toNat = k * 51 := by omega
          have t2 : (((k : Int) + 1) * 51).toNat = (k + 1) * 51 := by omega
          clear hlow8
          go_wp2
          go_region_held3 (fun _ => True) (trivial) (first
            | (go_at_call 193; ((with_reducible refine (Hlow8.out _).mono ?_)); rintro e w3 ⟨A3, c3, rfl, hn3, hb3⟩)
            | (go_at_call 139; ((with_reducible refine (join3 (n := 60) (lowB 8 k0) [k.toUInt8] (((borneOf img).drop (k * 51)).take 51) (headOf k0 k img) rfl ?_ (Blk.new_at _ _ _ ?_) ?_ ?_ ?_ ?_).mono ?_));
                exact (head_length h3 hlt).symm;
                simp;
                (first | exact ((New.bs' hn3 (lowB_length _ _).symm).alloc _).alloc _ | exact (New.bs' hn3 (lowB_length _ _).symm).alloc _);
                (first | exact (Bs.byte hk256 (Blk.new_at _ _ _ rfl)).alloc _ | exact ((Bs.byte hk256 (Blk.new_at _ _ _ rfl)).drew.ext hb3).alloc _);
                (first | exact (((hB.drew.ext hb3).alloc _).alloc _).part (by rw [borne_length h3]; omega) _ rfl (by rw [borne_length h3]; omega) | exact (((hB.alloc _).drew.ext hb3).alloc _).part (by rw [borne_length h3]; omega) _ rfl (by rw [borne_length h3]; omega));
                omega;
                rintro e w4 ⟨A4, c4, rfl, hn4, hb4⟩))
          all_goals
            have hB4 : Bs w4 A4 60 c4 (headOf k0 k img) := hn4.bs' (head_length h3 hlt).symm
            have hw4 : Below wr.heap.size wr w4 := by
              first
                | exact ext_trans (ext_alloc (ext_alloc (ext_trans (ext_drew (Below.refl _ wr)) hb3) _) _) hb4
                | exact ext_trans (ext_alloc (ext_trans (ext_drew (ext_alloc (Below.refl _ wr) _)) hb3) _) hb4
            clear hn4 hb4 hn3 hb3 Hlow8 e1 e2 e3 e4 b1 b2 b3 b5 hcne t1 t2 hB
            have hs := sum1 (headOf k0 k img) ((((ht.ext hw2).ext hbr).ext hw4).alloc (.cells #[.slice A4 60 c4] 57)) (Blk.new_at w4 57 #[.slice A4 60 c4] rfl) (hB4.alloc _) (by rw [head_length h3 hlt]; omega)
            have hslt := sumOf_lt (headOf k0 k img)
            have hslt' : (sumOf (headOf k0 k img) : Int) ≤ 4294967295 := by omega
            have hrow : headOf k0 k img ++ lowB 4 (sumOf (headOf k0 k img)) = rowOf k0 k img := rfl
            have Hrow := Lib.hid hrow
            have Hs := Lib.hid hs
            clear hs hrow
            generalize sumOf (headOf k0 k img) = s at *
            go_wp2_with fail
            refine Hs.out.mono ?_
            rintro e w5 ⟨rfl, rfl⟩
            go_wp2_with fail
            refine (lowfirst_any s 4 _ (by omega) (by omega)).mono ?_
            rintro e w5 ⟨A5, c5, rfl, hn5, hb5⟩
            have hw5 : Below wr.heap.size wr w5 := ext_trans (ext_alloc hw4 _) hb5
            go_wp2_with fail
            refine (join2 (n := 64) (headOf k0 k img) (lowB 4 s) (rowOf k0 k img) Hrow.out (row_length h3 hlt).symm (Blk.new_at _ _ _ rfl) (((hB4.alloc _).ext hb5).alloc _) ((hn5.bs' (lowB_length _ _).symm).alloc _) (by omega)).mono ?_
            rintro e w6 ⟨A6, c6, rfl, hn6, hb6⟩
            have hw6 : Below wr.heap.size wr w6 := ext_trans (ext_alloc hw5 _) hb6
            have hB6 : Bs w6 A6 64 c6 (rowOf k0 k img) := hn6.bs' (row_length h3 hlt).symm
            have hrows6 := hrows.ext hw6
            have hlen : ((packOf k0 img).take k).length = k := by rw [List.length_take, packOf_length]; omega
            have hsz5 := hw5.size
            have hszr := hbr.size
            have hnew6 : ∀ ad, A6 = some ad → w.heap.size ≤ ad.block ∧ ad.block ≠ w2.heap.size := fun ad e => by
              have h1 := (hn6.2 ad e).1
              have h2 := hw2.size
              have h4 : w2.heap.size < wr.heap.size := by
                obtain ⟨cs, hcs, _⟩ := hrows
                exact hcs.lt
              rw [World.size_alloc] at h1
              omega
            have hput := RowsAt.put hrows6 (by rw [hlen]; omega) hB6 hnew6
            rw [hlen, ← pack_take k0 k img hlt] at hput
            obtain ⟨cs, hcs, hcsz, -⟩ := hrows6
            obtain ⟨v6, hcell⟩ : ∃ v, w6.cell? ⟨w2.heap.size, k, none⟩ = some v := ⟨cs[k], by rw [hcs.cell, Array.getElem?_eq_getElem]⟩
            have hfree := hcs.free k
            have hbr6 : Below w2.heap.size w2 (w6.setCell ⟨w2.heap.size, k, none⟩ (.slice A6 64 c6)) := (ext_trans hbr hw6).setCell (Nat.le_refl _) _
            have Hput := Lib.hid hput
            clear hput hn6 hb6 hB6 hnew6 hrows hn5 hb5 hB4 Hs Hrow hslt hlen hcsz hsz5 hszr
            go_wp2
            go_roundw
            case rel => exact ⟨k + 1, by omega, by go_num, hbr6, Hput.out⟩
            case measure => simp [intOf]; omega
        · obtain rfl : k = 16 := by omega
          have hfin := hrows.rowsF (by rw [List.length_take, packOf_length]; omega) hw2.size
          rw [List.take_of_length_le (by rw [packOf_length]; omega)] at hfin
          have Hfin := Lib.hid hfin
          have hbel := ext_trans hw2 hbr
          clear hfin hrows
          go_wp2
          go_ret
          exact ⟨_, 16, rfl, Nat.le_refl _, Hfin.out, hbel⟩
  · have hp : packI n img = [] := by unfold packI; rw [if_neg hf]
    rw [hp]
    obtain ⟨rfl, hc, hr⟩ := hA
    unfold isInt at hn
    have hcase : n < 1 ∨ (1 ≤ n ∧ 1125899906842624 < n) ∨ (1 ≤ n ∧ n ≤ 1125899906842624 ∧ (814 : Int) < (img.length : Int)) := by
      unfold fits at hf
      omega
    clear hf hp
    have hil : (img.length : Int) ≤ 1099511627776 := by omega
    rcases hcase with h | ⟨h, h'⟩ | ⟨h, h', h''⟩
    all_goals
      go_enter Tryz.func167, Tryz.ntmps167
      go_wp2
      go_ret
      exact ⟨none, 0, rfl, Nat.le_refl _, ⟨[], ⟨Rd.nil _ _, fun ad e => by cases e⟩, rfl, fun j v xs h => by simp at h⟩, Below.refl _ _⟩
end Go.Proofs.YtdpmfcifgimleaaGreatDoor

/-
  Bytes as a string, as the laws compare them. No statement of the seat is proved here.
-/
namespace Go.Proofs.YtdpmfcifgimleaaGreatDoor
open Go Go.RowKit

/-- a text of these bytes -/
def strV (bs : List UInt8) : Value := .string ⟨bs.toArray⟩
theorem strV_inj {a b : List UInt8} : (⟨a.toArray⟩ : ByteArray) = ⟨b.toArray⟩ ↔ a = b := ⟨fun h => by injection h with h; simpa using h, fun h => by rw [h]⟩
theorem conv_bytes (w : World) (A : Option Addr) (n c : Nat) (bs : List UInt8) (hn : n = bs.length) (hr : Rd w A (bs.map bv)) :
    (convert 57 9 (.slice A n c)).run Tryz.prog w = .ok (.string ⟨bs.toArray⟩) w := by
  subst hn
  rcases A with _ | ad
  · have hnil : bs = [] := by
      rcases bs with _ | ⟨b, r⟩
      · rfl
      · obtain ⟨ad, h0, _⟩ := hr 0 _ rfl
        cases h0
    subst hnil
    exact Lib.run_convert_nil_bytes w _ _ 5 c Tryz.underlying57 Tryz.underlying5 Tryz.underlying9
  · refine run_convert_bytes_back w _ _ 5 ad c bs Tryz.underlying57 Tryz.underlying5 Tryz.underlying9 (fun j hj => ?_)
    obtain ⟨ad', h1, h2⟩ := hr j (bv bs[j]) (by simp [hj])
    injection h1 with h1
    subst h1
    exact h2
end Go.Proofs.YtdpmfcifgimleaaGreatDoor

/-
  The contracts of bytes.Equal and slices.EqualFunc, as super calls them. No statement of the seat is proved here.
-/
namespace Go.Proofs.YtdpmfcifgimleaaGreatDoor
open Go Go.RowKit

theorem equal_any (A B : Option Addr) (n c m d : Nat) (xs ys : List UInt8) (w : World) (hx : Bs w A n c xs) (hy : Bs w B m d ys) :
    Calls Tryz.prog 154 #[.slice A n c, .slice B m d] w fun e w' => e = .returned (.bool (decide (xs = ys))) ∧ w = w' := by
  have h1 := conv_bytes w A n c xs hx.1 hx.2.2
  have h2 := conv_bytes w B m d ys hy.1 hy.2.2
  by_cases hxy : xs = ys
  · subst hxy
    generalize (⟨xs.toArray⟩ : ByteArray) = Z at h1 h2
    go_enter Tryz.func154, Tryz.ntmps154
    go_wp2
    go_ret
    exact ⟨by simp, rfl⟩
  · have hne : ((⟨xs.toArray⟩ : ByteArray).toList == (⟨ys.toArray⟩ : ByteArray).toList) = false := by
      rw [ByteArray.toList_mk, ByteArray.toList_mk]
      simpa using hxy
    have hfin : decide (xs = ys) = false := by simp [hxy]
    have Hfin := Lib.hid hfin
    clear hfin hxy
    generalize (⟨xs.toArray⟩ : ByteArray) = Z at *
    generalize (⟨ys.toArray⟩ : ByteArray) = Y at *
    go_enter Tryz.func154, Tryz.ntmps154
    go_wp2
    go_ret
    exact ⟨by rw [Hfin.out]; rfl, rfl⟩

set_option maxHeartbeats 1000000 in
theorem equalfunc_any (A B : Option Addr) (n c m d : Nat) (xss yss : List (List UInt8)) (w : World) (hn : n = xss.length) (hm : m = yss.length) (hx : RowsF (fun _ => False) w A xss) (hy : RowsF (fun _ => False) w B yss) (h1 : xss.length ≤ 1000) (h2 : yss.length ≤ 1000) :
    Calls Tryz.prog 153 #[.slice A n c, .slice B m d, .func (.func 154) #[] #[]] w fun e w' => e = .returned (.bool (decide (xss = yss))) ∧ w = w' := by
  subst hn hm
  by_cases hl : xss.length = yss.length
  · have hli : (xss.length : Int) = (yss.length : Int) := by omega
    have Hl := Lib.hid hl
    rw [← hl]
    clear hl hli
    go_enter Tryz.func153, Tryz.ntmps153
    go_wp2
    go_loop [7, 8, 9, 17] (fun _ _ _ i => ∃ k : Nat, k ≤ xss.length ∧ i = .int .i64 (k : Int) ∧ xss.take k = yss.take k) (fun _ _ _ i => xss.length - (intOf i).toNat)
    case atStart => exact ⟨0, Nat.zero_le _, rfl, rfl⟩
    case round =>
      obtain ⟨k, hk, rfl, hpre⟩ := hrel
      have Hpre := Lib.hid hpre
      clear hpre
      by_cases hlt : k < xss.length
      · have hlt2 : k < yss.length := by have := Hl.out; omega
        obtain ⟨ad, X, cx, rfl, hcx, hlx, hrx⟩ := hx.at_ hlt
        obtain ⟨ad2, Y, cy, rfl, hcy, hly, hry⟩ := hy.at_ hlt2
        have hs1 := List.take_succ_eq_append_getElem hlt
        have hs2 := List.take_succ_eq_append_getElem hlt2
        have hcall := equal_any X Y _ cx _ cy xss[k] yss[k] w ⟨rfl, hlx, hrx.1⟩ ⟨rfl, hly, hry.1⟩
        have hki : (k : Int) < (xss.length : Int) := by omega
        by_cases he : xss[k] = yss[k]
        · have hd : decide (xss[k] = yss[k]) = true := by simp [he]
          rw [hd] at hcall
          have hnext : xss.take (k + 1) = yss.take (k + 1) := by rw [hs1, hs2, Hpre.out, he]
          have Hnext := Lib.hid hnext
          have Hcall := Lib.hid hcall
          clear hcall hnext hs1 hs2 hd he
          go_wp2_with fail
          refine Hcall.out.mono ?_
          rintro e w2 ⟨rfl, rfl⟩
          go_wp2
          go_round
          case rel => exact ⟨k + 1, by omega, by go_num, Hnext.out⟩
          case measure => simp [intOf]; omega
        · have hd : decide (xss[k] = yss[k]) = false := by simp [he]
          rw [hd] at hcall
          have hne : decide (xss = yss) = false := by
            simp only [decide_eq_false_iff_not]
            rintro rfl
            exact he rfl
          have Hne := Lib.hid hne
          have Hcall := Lib.hid hcall
          clear hcall hs1 hs2 hd he hne
          go_wp2_with fail
          refine Hcall.out.mono ?_
          rintro e w2 ⟨rfl, rfl⟩
          go_wp2
          go_ret
          exact ⟨by rw [Hne.out]; rfl, rfl⟩
      · obtain rfl : k = xss.length := by omega
        have heq : decide (xss = yss) = true := by
          have h := Hpre.out
          rw [List.take_length, List.take_of_length_le (by have := Hl.out; omega)] at h
          simpa using h
        have Heq := Lib.hid heq
        clear heq
        go_wp2
        go_ret
        exact ⟨by rw [Heq.out]; rfl, rfl⟩
  · have hd : decide (xss = yss) = false := by
      simp only [decide_eq_false_iff_not]
      rintro rfl
      exact hl rfl
    have Hd := Lib.hid hd
    have hb : ((xss.length : Int) == (yss.length : Int)) = false := beq_eq_false_iff_ne.2 (by omega)
    clear hd
    go_enter Tryz.func153, Tryz.ntmps153
    go_wp2
    go_ret
    exact ⟨by rw [Hd.out]; rfl, rfl⟩
end Go.Proofs.YtdpmfcifgimleaaGreatDoor

/-
  The contracts of super's hasSlots and readSlot, and of what a slot tells ('told'). No statement of the seat is proved here.
-/
namespace Go.Proofs.YtdpmfcifgimleaaGreatDoor
open Go Go.RowKit

theorem hasslots_any {w : World} {fp : Nat → Prop} {g : Nat} {S : Sec} {l : Int} (h : Imp w fp g S l) : Calls Tryz.prog 82 #[.pointer (some ⟨g, 0, none⟩)] w fun e w' => e = .returned (.bool (decide ((32 : Int) ≤ (S.length : Int)))) ∧ w = w' := by
  obtain ⟨gc, B, C, h⟩ := h
  go_enter Tryz.func82, Tryz.ntmps82
  go_wp2_with fail
  refine (len_any h).mono ?_
  rintro e w2 ⟨rfl, rfl⟩
  go_wp2
  go_ret
  exact ⟨rfl, rfl⟩
theorem len_nil (w : World) : Calls Tryz.prog 62 #[.pointer none] w fun e w' => e = .returned (.int .i64 0) ∧ w = w' := by
  go_enter Tryz.func62, Tryz.ntmps62
  go_wp2
  go_ret
  exact ⟨rfl, rfl⟩
theorem hasslots_nil (w : World) : Calls Tryz.prog 82 #[.pointer none] w fun e w' => e = .returned (.bool false) ∧ w = w' := by
  go_enter Tryz.func82, Tryz.ntmps82
  go_wp2_with fail
  refine (len_nil w).mono ?_
  rintro e w2 ⟨rfl, rfl⟩
  go_wp2
  go_ret
  exact ⟨rfl, rfl⟩

theorem slot_len {S : Sec} {k i : Nat} (hS : S.length ≥ k * 16 + 16) (hi : i < 16) : k * 16 + i < S.length := by omega

set_option maxHeartbeats 2000000 in
theorem readslot_any {w : World} {fp : Nat → Prop} {gd : Nat} {S : Sec} {l : Int} (h : Imp w fp gd S l) (hs : Small 1000000 S) (k : Nat) (hk : k ≤ 1) (hS : k * 16 + 16 ≤ S.length) :
    Calls Tryz.prog 115 #[.pointer (some ⟨gd, 0, none⟩), .int .i64 (k : Int)] w fun e w' => e = .returned (.tuple #[.slice (some ⟨w.heap.size, 0, none⟩) 16 16, .int .i64 0]) ∧ RowsAt w.heap.size w' w.heap.size 16 (slotRows S k) ∧ Below w.heap.size w w' := by
  obtain ⟨gc, B, C, h⟩ := h
  have hmr := make_rows
  have hn := h.n
  go_enter Tryz.func115, Tryz.ntmps115
  go_wp2
  go_loopw [7, 8, 9, 13] (fun _ _ _ i wr => ∃ j : Nat, j ≤ 16 ∧ i = .int .i64 (j : Int) ∧ Below w.heap.size w wr ∧ RowsAt w.heap.size wr w.heap.size 16 ((slotRows S k).take j)) (fun _ _ _ i _ => 16 - (intOf i).toNat)
  case atStart => exact ⟨0, by omega, rfl, ext_alloc (Below.refl _ _) _, RowsAt.new _ _⟩
  case round =>
    obtain ⟨j, hj, rfl, hb, hrows⟩ := hrel
    by_cases hlt : j < 16
    · have hlt' := slot_len hS hlt
      have hcall := read_ok (h.ext hb) hs (k * 16 + j) hlt'
      have e1 : ((k * 16 + j : Nat) : Int) = (k : Int) * 16 + (j : Int) := by omega
      rw [e1] at hcall
      have hv64 : (lastOf S[k * 16 + j]).length = 64 := ((h.cel _ hlt').len _ (lastOf_mem (h.cel _ hlt').ne))
      have hget : lastOf (S.getD (k * 16 + j) []) = lastOf S[k * 16 + j] := by rw [List.getD_eq_getElem?_getD, List.getElem?_eq_getElem hlt']; rfl
      have htake := slotRows_take S k j hlt
      rw [hget] at htake
      have Htake := Lib.hid htake
      have Hcall := Lib.hid hcall
      clear hcall htake hget e1
      generalize lastOf S[k * 16 + j] = v at *
      go_wp2_with fail
      refine Hcall.out.mono ?_
      rintro e w2 ⟨g', rfl, hb2, hk2, hg'⟩
      have hr2 := hrows.ext hb2
      have hlen : ((slotRows S k).take j).length = j := by rw [List.length_take, slotRows_length]; omega
      have hgl : w.heap.size < wr.heap.size := by
        obtain ⟨cs, hcs, _⟩ := hrows
        exact hcs.lt
      have hB : Bs w2 (some ⟨g', 0, none⟩) 64 64 v := ⟨hv64.symm, by omega, Rd.blk hk2⟩
      have hput := RowsAt.put hr2 (by rw [hlen]; exact hlt) hB (fun ad e => by injection e with e; subst e; exact ⟨by show w.heap.size ≤ g'; omega, by show g' ≠ _; omega⟩)
      rw [hlen, ← Htake.out] at hput
      obtain ⟨cs, hcs, hcsz, -⟩ := hr2
      obtain ⟨v6, hcell⟩ : ∃ v, w2.cell? ⟨w.heap.size, j, none⟩ = some v := ⟨cs[j], by rw [hcs.cell, Array.getElem?_eq_getElem]⟩
      have hfree := hcs.free j
      have hbr : Below w.heap.size w (w2.setCell ⟨w.heap.size, j, none⟩ (.slice (some ⟨g', 0, none⟩) 64 64)) := (ext_trans hb hb2).setCell (Nat.le_refl _) _
      have Hput := Lib.hid hput
      clear hput hk2 hB hrows Htake hlen hcsz hv64 Hcall
      go_wp2
      go_roundw
      case rel => exact ⟨j + 1, by omega, by go_num, hbr, Hput.out⟩
      case measure => simp [intOf]; omega
    · obtain rfl : j = 16 := by omega
      rw [List.take_of_length_le (by rw [slotRows_length]; omega)] at hrows
      go_wp2
      go_ret2
      exact ⟨rfl, hrows, hb⟩

/-! ### told -/
/-- at 'b' there lies what a slot tells: a number, an image -/
def ToldAt (w : World) (b N : Nat) (A : Option Addr) (n c : Nat) (img : List UInt8) : Prop := w.cell? ⟨b, 0, none⟩ = some (.int .i64 (N : Int)) ∧ w.cell? ⟨b, 1, none⟩ = some (.slice A n c) ∧ Bs w A n c img

theorem last_any {w : World} {b N : Nat} {A : Option Addr} {n c : Nat} {img : List UInt8} (h : ToldAt w b N A n c img) : Calls Tryz.prog 134 #[.pointer (some ⟨b, 0, none⟩)] w fun e w' => e = .returned (.bool ((N : Int) == 1125899906842624)) ∧ w = w' := by
  obtain ⟨h0, h1, h2⟩ := h
  go_enter Tryz.func134, Tryz.ntmps134
  go_wp2
  go_ret
  exact ⟨rfl, rfl⟩
theorem copied_any {w : World} {b N : Nat} {A : Option Addr} {n c : Nat} {img : List UInt8} (h : ToldAt w b N A n c img) (hl : img.length ≤ 814) : Calls Tryz.prog 126 #[.pointer (some ⟨b, 0, none⟩)] w fun e w' => ∃ A' c', e = .returned (.slice A' img.length c') ∧ New w w' A' c' img ∧ Below w.heap.size w w' := by
  obtain ⟨h0, h1, h2⟩ := h
  go_enter Tryz.func126, Tryz.ntmps126
  go_wp2_with fail
  refine (join1 img (Blk.new_at _ _ _ rfl) (h2.alloc _) (by omega)).mono ?_
  rintro e w1 ⟨A1, c1, rfl, hn1, hb1⟩
  go_wp2
  go_ret
  exact ⟨A1, c1, rfl, hn1.back (by rw [World.size_alloc]; omega), ext_trans (ext_alloc (Below.refl _ _) _) hb1⟩
end Go.Proofs.YtdpmfcifgimleaaGreatDoor

/-
  The contracts of what a slot tells: rows, behind; of writeSlot. No statement of the seat is proved here.
-/
namespace Go.Proofs.YtdpmfcifgimleaaGreatDoor
open Go Go.RowKit

theorem cell_ext {w w' : World} {a : Addr} {v : Value} (h : w.cell? a = some v) (hb : Below w.heap.size w w') : w'.cell? a = some v :=
  (World.cell?_of_block (hb.block _ (World.block_lt_of_cell? w _ h))).trans h
theorem ToldAt.ext {w w' : World} {b N : Nat} {A : Option Addr} {n c : Nat} {img : List UInt8} (h : ToldAt w b N A n c img) (hb : Below w.heap.size w w') : ToldAt w' b N A n c img := ⟨cell_ext h.1 hb, cell_ext h.2.1 hb, h.2.2.ext hb⟩

set_option maxHeartbeats 2000000 in
theorem rows_any {w : World} {b N : Nat} {A : Option Addr} {n c : Nat} {img : List UInt8} (h : ToldAt w b N A n c img) (ht : Tab w) (hN : N ≤ 1125899906842625) (hi : img.length ≤ 1099511627776) :
    Calls Tryz.prog 136 #[.pointer (some ⟨b, 0, none⟩)] w fun e w' => ∃ A' c', e = .returned (.slice A' (packI (N : Int) img).length c') ∧ (packI (N : Int) img).length ≤ c' ∧ RowsF (fun k => k < w.heap.size) w' A' (packI (N : Int) img) ∧ Below w.heap.size w w' := by
  obtain ⟨h0, h1, h2⟩ := h
  have hp := pack_any (N : Int) A n c img w.drew (ht.drewN 1) (by unfold isInt; omega) h2.drew hi
  have Hp := Lib.hid hp
  clear hp
  generalize packI (N : Int) img = rs at *
  go_enter Tryz.func136, Tryz.ntmps136
  go_wp2
  go_region_held3 (fun w' => w'.cell? ⟨b, 0, none⟩ = some (.int .i64 (N : Int)) ∧ w'.cell? ⟨b, 1, none⟩ = some (.slice A n c)) (first | exact ⟨h0, h1⟩ | exact hS1) (first
    | (go_at_call 167; ((with_reducible refine Hp.out.mono ?_)); rintro e w1 ⟨A1, c1, rfl, hl1, hr1, hb1⟩; have hS1 : w1.cell? ⟨b, 0, none⟩ = some (.int .i64 (N : Int)) ∧ w1.cell? ⟨b, 1, none⟩ = some (.slice A n c) := ⟨cell_ext (w := w.drew) h0 hb1, cell_ext (w := w.drew) h1 hb1⟩))
  all_goals
    go_wp2
    go_ret
    exact ⟨A1, c1, rfl, hl1, hr1, Below.undrew hb1⟩


/-- the cells of a block of two -/
def Two2 (w : World) (g : Nat) (u v : Value) : Prop := w.cell? ⟨g, 0, none⟩ = some u ∧ w.cell? ⟨g, 1, none⟩ = some v ∧ w.frozen? ⟨g, 0, none⟩ = false ∧ w.frozen? ⟨g, 1, none⟩ = false
theorem Blk.two {w : World} {g : Nat} {t : TypeId} {u v : Value} (h : Blk w g t #[u, v]) : w.cell? ⟨g, 0, none⟩ = some u ∧ w.cell? ⟨g, 1, none⟩ = some v ∧ w.frozen? ⟨g, 0, none⟩ = false ∧ w.frozen? ⟨g, 1, none⟩ = false := ⟨h.cell 0, h.cell 1, h.free 0, h.free 1⟩

theorem results_told {fn : Func} {t : Tmp} (h : fn.results = #[.cell t 146]) (tmps : Array Value) (w : World) (g : Nat) (u v : Value)
    (ht : tmps.getD t undef = .pointer (some ⟨g, 0, none⟩)) (h0 : w.cell? ⟨g, 0, none⟩ = some u) (h1 : w.cell? ⟨g, 1, none⟩ = some v) : (results fn tmps).run Tryz.prog w = .ok (.agg #[u, v]) w := by
  rw [Array.getD_eq_getD_getElem?] at ht
  simp [results, h, ht, asAddr, go_sem, h0, h1]

set_option maxHeartbeats 2000000 in
/-- behind: the next number, another image -/
theorem behind_any {w : World} {b N : Nat} {A : Option Addr} {n c : Nat} {img : List UInt8} (h : ToldAt w b N A n c img) (hN : N ≤ 1125899906842624) (B : Option Addr) (m d : Nat) (bs : List UInt8) (hB : Bs w B m d bs) (hl : bs.length ≤ 814) :
    Calls Tryz.prog 135 #[.pointer (some ⟨b, 0, none⟩), .slice B m d] w fun e w' => ∃ A' c', e = .returned (.agg #[.int .i64 ((N : Int) + 1), .slice A' bs.length c']) ∧ New w w' A' c' bs ∧ Below w.heap.size w w' := by
  obtain ⟨h0, h1, h2⟩ := h
  have hw : IntKind.i64.wrap ((N : Int) + 1) = (N : Int) + 1 := by rw [IntKind.wrap_i64]; omega
  have hblk0 := Blk.new w 146 #[.int .i64 0, .slice none 0 0]
  obtain ⟨k0, k1, k2, k3⟩ := hblk0.two
  have hne := World.new_ne w ⟨b, 0, none⟩ h0
  have h0' : (w.alloc (.cells #[.int .i64 0, .slice none 0 0] 146)).cell? ⟨b, 0, none⟩ = some (.int .i64 (N : Int)) := cell_ext h0 (ext_alloc (Below.refl _ _) _)
  go_enter Tryz.func135, Tryz.ntmps135
  go_wp2
  go_region_held3 (fun w' => w'.cell? ⟨b, 0, none⟩ = some (.int .i64 (N : Int)))
    (first | exact h0' | exact cell_ext h0' (ext_drew (ext_alloc (Below.refl _ _) _)) | exact hS1 | go_keep) (first
    | (go_at_call 139; ((with_reducible refine (join1 bs (Blk.drew (Blk.new_at _ _ _ ?_)) ?_ ?_).mono ?_)); (simp); exact ((hB.alloc _).alloc _).drew; omega; rintro e w1 ⟨A1, c1, rfl, hn1, hb1⟩;
        have hblk1 := (Blk.drew (hblk0.alloc (Obj.cells #[.slice B m d] 57))).ext hb1;
        have hS1 : w1.cell? ⟨b, 0, none⟩ = some (.int .i64 (N : Int)) := cell_ext h0' (ext_trans (ext_drew (ext_alloc (Below.refl _ _) _)) hb1);
        obtain ⟨q1, q2, q3, q4⟩ := hblk1.two))
  have hs1 := hb1.size
  have hz1 : w.heap.size + 2 ≤ w1.heap.size := by
    have e : ((w.alloc (Obj.cells #[Value.int IntKind.i64 0, Value.slice none 0 0] 146)).alloc (Obj.cells #[Value.slice B m d] 57)).drew.heap.size = w.heap.size + 2 := by
      show ((w.alloc _).alloc _).heap.size = _
      rw [World.size_alloc, World.size_alloc]
    omega
  have hbel : Below w.heap.size w w1 := ext_trans (ext_drew (ext_alloc (ext_alloc (Below.refl _ _) _) _)) hb1
  have hfin : ∀ u v, New w ((w1.setCell ⟨w.heap.size, 0, none⟩ u).setCell ⟨w.heap.size, 1, none⟩ v) A1 c1 bs := fun u v => by
    have hne : ∀ ad, A1 = some ad → ad.block ≠ w.heap.size := fun ad e => by
      have := (hn1.2 ad e).1
      have e2 : ((w.alloc (Obj.cells #[Value.int IntKind.i64 0, Value.slice none 0 0] 146)).alloc (Obj.cells #[Value.slice B m d] 57)).drew.heap.size = w.heap.size + 2 := by
        show ((w.alloc _).alloc _).heap.size = _
        rw [World.size_alloc, World.size_alloc]
      omega
    have h1 := Own.setCell (Own.setCell hn1 (p := ⟨w.heap.size, 0, none⟩) hne u) (p := ⟨w.heap.size, 1, none⟩) hne v
    refine h1.mono (fun j hj _ => ⟨?_, by simpa [World.setCell] using hj.2⟩)
    have e2 : ((w.alloc (Obj.cells #[Value.int IntKind.i64 0, Value.slice none 0 0] 146)).alloc (Obj.cells #[Value.slice B m d] 57)).drew.heap.size = w.heap.size + 2 := by
      show ((w.alloc _).alloc _).heap.size = _
      rw [World.size_alloc, World.size_alloc]
    have := hj.1
    omega
  have hput := (hblk1.put 0 (.int .i64 ((N : Int) + 1))).put 1 (.slice A1 bs.length c1)
  go_wp2
  exact bodyPost_ret (results_told rfl _ _ w.heap.size _ _ rfl (hput.cell 0) (hput.cell 1)) rfl ⟨A1, c1, rfl, hfin _ _, (hbel.setCell (p := ⟨w.heap.size, 0, none⟩) (Nat.le_refl _) _).setCell (p := ⟨w.heap.size, 1, none⟩) (Nat.le_refl _) _⟩
end Go.Proofs.YtdpmfcifgimleaaGreatDoor

/-
  The contract of super's unpack. No statement of the seat is proved here.
-/
namespace Go.Proofs.YtdpmfcifgimleaaGreatDoor
open Go Go.RowKit

theorem out_bytes {w : World} {fp : Nat → Prop} {g : Nat} {bs : List UInt8} (h : Wr w fp g (bs.map bv)) (hl : bs.length ≤ 100000) :
    Calls Tryz.prog 87 #[.pointer (some ⟨g, 0, none⟩)] w fun e w' => ∃ A' c', e = .returned (.slice A' bs.length c') ∧ New w w' A' c' bs ∧ Below w.heap.size w w' := by
  obtain ⟨hg, A, c, hblk, hown⟩ := h
  have h0 := hblk.cell 0
  simp only [List.getElem?_toArray, List.getElem?_cons_zero, List.length_map] at h0
  have hcap := hown.cap
  rw [List.length_map] at hcap
  have hB : Bs w A bs.length c bs := ⟨rfl, hcap, hown.rd⟩
  go_enter Tryz.func87, Tryz.ntmps87
  go_wp2_with fail
  refine (join1 bs (Blk.new_at _ _ _ rfl) (hB.alloc _) hl).mono ?_
  rintro e w1 ⟨A1, c1, rfl, hn1, hb1⟩
  go_wp2
  go_ret
  exact ⟨A1, c1, rfl, hn1.back (by rw [World.size_alloc]; omega), ext_trans (ext_alloc (Below.refl _ _) _) hb1⟩

theorem borneR_take (rows : List (List UInt8)) (k : Nat) (h : k < rows.length) : borneR (rows.take (k + 1)) = borneR (rows.take k) ++ (rows[k].drop 9).take 51 := by
  unfold borneR
  rw [List.take_succ_eq_append_getElem h, List.map_append, List.flatten_append]; simp
theorem borneR_len : ∀ (rows : List (List UInt8)), (∀ r ∈ rows, r.length = 64) → (borneR rows).length = rows.length * 51
  | [], _ => rfl
  | r :: rs, h => by
    have h1 := h r (by simp)
    have h2 := borneR_len rs (fun x hx => h x (by simp [hx]))
    unfold borneR at h2 ⊢
    rw [List.map_cons, List.flatten_cons, List.length_append, h2, List.length_cons]
    simp [h1]
    omega

theorem imgR_len (rows : List (List UInt8)) : (imgR rows).length ≤ 814 := by
  unfold imgR
  split
  · rw [List.length_take]; omega
  · simp
/-- the image is taken -/
theorem take_img {W : World} {fp : Nat → Prop} {g : Nat} {rows : List (List UInt8)} (h : Rdr W fp g ((borneR rows).drop 2) false) (hl : (borneR rows).length = 816) :
    Calls Tryz.prog 151 #[.pointer (some ⟨g, 0, none⟩), .int .i64 (sizeR rows : Int)] W fun e w' => ∃ A c, e = .returned (.slice A (imgR rows).length c) ∧ Bs w' A (imgR rows).length c (imgR rows) ∧ (∀ ad, A = some ad → W.heap.size ≤ ad.block ∧ ad.block < w'.heap.size) ∧ Only (fun k => k = g) W w' := by
  have hs : sizeR rows < 65536 := by
    have := ofLow_lt_of (l := (borneR rows).take 2) (k := 2) (by rw [List.length_take]; omega)
    have e : (256 : Nat) ^ 2 = 65536 := rfl
    unfold sizeR
    omega
  by_cases h8 : sizeR rows ≤ 814
  · have e : imgR rows = ((borneR rows).drop 2).take (sizeR rows) := by unfold imgR; rw [if_pos h8]
    have el : (imgR rows).length = sizeR rows := by rw [e, List.length_take, List.length_drop]; omega
    refine (rraw_ok fp g _ (sizeR rows) W h (by rw [List.length_drop]; omega) (by rw [List.length_drop]; omega)).mono ?_
    rintro e' w' ⟨A, c, rfl, hn, _, ho⟩
    rw [← e] at hn
    rw [el]
    exact ⟨A, c, rfl, hn.bs' el.symm, fun ad ea => hn.2 ad ea, ho⟩
  · have e : imgR rows = [] := by unfold imgR; rw [if_neg h8]
    refine (rraw_none fp g _ (sizeR rows : Int) W h (by unfold isInt; omega) (.inr (by rw [List.length_drop]; omega)) (by rw [List.length_drop]; omega)).mono ?_
    rintro e' w' ⟨rfl, _, ho⟩
    rw [e]
    exact ⟨none, 0, rfl, ⟨rfl, Nat.le_refl _, Rd.nil _ _⟩, (fun ad ea => by cases ea), ho⟩

set_option maxRecDepth 100000 in
set_option maxHeartbeats 4000000 in
theorem unpack_any {w : World} {B0 g : Nat} {rows : List (List UInt8)} (ht : Tab w) (hr : RowsAt B0 w g 16 rows) (h16 : rows.length = 16) (h64 : ∀ r ∈ rows, r.length = 64) :
    Calls Tryz.prog 116 #[.slice (some ⟨g, 0, none⟩) 16 16] w fun e w' => ∃ A' c', e = .returned (.agg #[.int .i64 ((unpackS rows).1 : Int), .slice A' (unpackS rows).2.length c']) ∧ Bs w' A' (unpackS rows).2.length c' (unpackS rows).2 ∧ (∀ ad, A' = some ad → w.heap.size ≤ ad.block ∧ ad.block < w'.heap.size) ∧ Below w.heap.size w w' := by
  have hrF : RowsF (fun _ => False) w (some ⟨g, 0, none⟩) rows := by
    obtain ⟨cs, h1, h2, h3, h4⟩ := hr
    refine ⟨cs.toList, RdF.of (Rd.blk h1), by rw [Array.length_toList]; omega, fun j v xs hv hx => ?_⟩
    obtain ⟨B, c, e, hc, hrd, hn⟩ := h4 j xs hx
    rw [Array.getElem?_toList, e] at hv
    injection hv with hv
    exact ⟨B, c, hv.symm, hc, RdF.of hrd⟩
  have h16' := Lib.hid h16
  go_enter Tryz.func116, Tryz.ntmps116
  go_wp2
  go_loopw [5, 11] (fun _ i wr => ∃ (k : Nat) (fp : Nat → Prop), k ≤ 16 ∧ i = .int .i64 (k : Int) ∧ (∀ j, fp j → w.heap.size + 1 ≤ j) ∧ Wr wr fp (w.heap.size + 1) ((borneR (rows.take k)).map bv) ∧ Below w.heap.size w wr ∧ Blk wr w.heap.size 146 #[.int .i64 0, .slice none 0 0]) (fun _ i _ => 16 - (intOf i).toNat)
  case atStart =>
    refine ⟨0, fun j => j = w.heap.size + 1, by omega, rfl, fun j hj => by omega, ?_, ext_alloc (ext_alloc (Below.refl _ _) _) _, (Blk.new w _ _).alloc _⟩
    have := Wr.new (w.alloc (.cells #[.int .i64 0, .slice none 0 0] 146)) (fun j => j = w.heap.size + 1) (by rw [World.size_alloc])
    rw [World.size_alloc] at this
    exact this
  case round =>
    obtain ⟨k, fp, hk, rfl, hfp, hw, hb, hres⟩ := hrel
    by_cases hlt : k < 16
    · have hrow : rows[k]? = some (rows[k]'(by rw [h16'.out]; exact hlt)) := List.getElem?_eq_getElem _
      obtain ⟨cs, h1, h2, h3, h4⟩ := hr.ext hb
      obtain ⟨B, c, ec, hc, hrd, hn⟩ := h4 k _ hrow
      have hcell : wr.cell? ⟨g, k, none⟩ = some (.slice B (rows[k]'(by rw [h16'.out]; exact hlt)).length c) := (h1.cell k).trans ec
      have hl := h64 _ (List.mem_of_getElem? hrow)
      have hsucc := borneR_take rows k (by rw [h16'.out]; exact hlt)
      clear hrow ec hn h1 h2 h3 h4
      generalize (rows[k]'(by rw [h16'.out]; exact hlt)) = row at *
      rw [hl] at hcell hc
      obtain ⟨ad, rfl, -⟩ := hrd.at_ (k := 0) (by simp; omega)
      obtain ⟨c, rfl⟩ : ∃ d, c = d + 64 := ⟨c - 64, by omega⟩
      have hRd : Rd wr (some ⟨ad.block, ad.off + 9, none⟩) (((row.drop 9).take 51).map bv) := by
        rw [List.map_take, List.map_drop]
        exact (rd_from 9 (by omega) hrd (Below.refl _ _)).take 51
      have hblen : (borneR (rows.take k)).length ≤ 816 := by
        rw [borneR_len _ (fun r hr => h64 r (List.mem_of_mem_take hr)), List.length_take]
        omega
      have hcall := raw_any fp (w.heap.size + 1) (some ⟨ad.block, ad.off + 9, none⟩) 51 (c + 55) _ _ wr hw (by simp; omega) hRd (bvs_one _) (by simp; omega)
      rw [← List.map_append, ← hsucc] at hcall
      have Hcall := Lib.hid hcall
      have c60 : (60 : Int) ≤ (c : Int) + 64 := by omega
      clear hcall hsucc hl hRd hblen hrd hw
      go_wp2_with fail
      refine Hcall.out.mono ?_
      rintro e w2 ⟨rfl, hw2, ho2⟩
      have hb2 : Below w.heap.size w w2 := hb.trans (ho2.below (fun i hi => by have := hfp i hi; omega) hb.size)
      have hres2 := hres.only ho2 (fun h => by have := hfp _ h; omega)
      have hfp2 : ∀ j, More fp wr w2 j → w.heap.size + 1 ≤ j := fun j hj => by
        rcases hj with hj | hj
        · exact hfp j hj
        · have := hb.size
          have := hres.lt
          omega
      go_wp2
      go_roundw
      case rel => exact ⟨k + 1, _, by omega, by go_num, hfp2, hw2, hb2, hres2⟩
      case measure => simp [intOf]; omega
    · obtain rfl : k = 16 := by omega
      rw [List.take_of_length_le (by rw [h16'.out]; omega)] at hw
      have hbl : (borneR rows).length = 816 := by rw [borneR_len _ h64, h16'.out]
      have Hbl := Lib.hid hbl
      have hout := out_bytes hw (by rw [hbl]; omega)
      rw [hbl] at hout
      have Hout := Lib.hid hout
      have hrl := hres.lt
      clear hout hbl hw
      go_wp2_with fail
      refine Hout.out.mono ?_
      rintro e w1 ⟨A1, c1, rfl, hn1, hb1⟩
      have hbw1 := ext_trans hb hb1
      obtain ⟨_, q1, q2⟩ := hn1.bs
      have hnr := newreader A1 816 c1 (borneR rows) w1 Hbl.out.symm q1 q2 (by rw [Hbl.out]; omega)
      have Hnr := Lib.hid hnr
      clear hnr q1 q2
      go_wp2_with fail
      refine Hnr.out.mono ?_
      rintro e w2 ⟨g2, rfl, hrdr, hb2⟩
      have hbw2 := ext_trans hbw1 hb2
      have hg2 : w1.heap.size ≤ g2 := hrdr.1.1
      have hs1 := hb1.size
      have hs0 := hb.size
      have hcall := rraw_ok _ g2 (borneR rows) 2 w2 hrdr (by rw [Hbl.out]; omega) (by rw [Hbl.out]; omega)
      rw [show ((2 : Nat) : Int) = 2 from rfl] at hcall
      have Hcall := Lib.hid hcall
      clear hcall hn1
      go_wp2_with fail
      refine Hcall.out.mono ?_
      rintro e w3 ⟨A3, c3, rfl, hn3, hrdr3, ho3⟩
      have hbw3 : Below w.heap.size w w3 := hbw2.trans (ho3.below (fun i hi => by omega) hbw2.size)
      have hfl := fromlow_any A3 2 c3 ((borneR rows).take 2) w3 (by rw [List.length_take, Hbl.out]; omega) hn3.rd (by rw [List.length_take, Hbl.out]; omega)
      rw [show ofLow ((borneR rows).take 2) = sizeR rows from rfl] at hfl
      have Hfl := Lib.hid hfl
      have hsz : sizeR rows < 65536 := by
        have := ofLow_lt_of (l := (borneR rows).take 2) (k := 2) (by rw [List.length_take]; omega)
        have e : (256 : Nat) ^ 2 = 65536 := rfl
        unfold sizeR
        omega
      have hszi : (sizeR rows : Int) ≤ 65535 := by omega
      have htk := take_img hrdr3 Hbl.out
      have Htk := Lib.hid htk
      clear hfl htk hsz
      go_wp2_with fail
      refine Hfl.out.mono ?_
      rintro e w4 ⟨rfl, rfl⟩
      go_wp2_with fail
      refine Htk.out.mono ?_
      rintro e w4 ⟨A4, c4, rfl, hB4, hf4, ho4⟩
      have hbw4 : Below w.heap.size w w4 := hbw3.trans (ho4.below (fun i hi => by omega) hbw3.size)
      have hf4' : ∀ ad, A4 = some ad → w.heap.size + 1 ≤ ad.block := fun ad e => by
        have := (hf4 ad e).1
        have := hbw3.size
        have := ho3.size
        have := hb2.size
        omega
      have hres4 : Blk w4 w.heap.size 146 #[.int .i64 0, .slice none 0 0] := (((hres.ext hb1).ext hb2).only ho3 (by omega)).only ho4 (by omega)
      have hil := imgR_len rows
      obtain ⟨r0, hr0⟩ : ∃ r, rows[0]? = some r := ⟨_, List.getElem?_eq_getElem (by rw [h16'.out]; omega)⟩
      obtain ⟨cs, h1, h2, h3, h4⟩ := hr.ext hbw4
      obtain ⟨B, c, ec, hc, hrd, -⟩ := h4 0 r0 hr0
      have hcell : w4.cell? ⟨g, 0, none⟩ = some (.slice B r0.length c) := (h1.cell 0).trans ec
      have hl0 := h64 r0 (List.mem_of_getElem? hr0)
      have hhead : rows.headD [] = r0 := by
        match hrs : rows, hr0 with
        | x :: xs, hr0 => simpa using hr0
      rw [hl0] at hcell hc
      have hnum := numberof_any B 64 c r0 w4 (ht.ext hbw4) rfl hl0 hc hrd
      have Hnum := Lib.hid hnum
      have Hhead := Lib.hid hhead
      clear hnum hhead h1 h2 h3 h4 ec hrd hl0 hr0 Hcall Hfl Hnr Hout Htk
      go_wp2_with fail
      refine Hnum.out.mono ?_
      rintro e w5 ⟨rfl, hb5⟩
      have hbw5 := ext_trans hbw4 hb5
      have h6 : ToldAt (w5.alloc (.cells #[.int .i64 (numOf r0 : Int), .slice A4 (imgR rows).length c4] 146)) w5.heap.size (numOf r0) A4 (imgR rows).length c4 (imgR rows) :=
        ⟨(Blk.new w5 _ _).cell 0, (Blk.new w5 _ _).cell 1, (hB4.ext hb5).alloc _⟩
      have hrw := rows_any h6 ((ht.ext hbw5).alloc _) (by have := numOf_le r0; omega) (by omega)
      have Hrw := Lib.hid hrw
      have hbw6 := ext_alloc hbw5 (.cells #[.int .i64 (numOf r0 : Int), .slice A4 (imgR rows).length c4] 146)
      clear hrw
      go_wp2_with fail
      refine Hrw.out.mono ?_
      rintro e w7 ⟨A7, c7, rfl, hl7, hr7, hb7⟩
      have hbw7 := ext_trans hbw6 hb7
      have hpl : (packI (numOf r0 : Int) (imgR rows)).length ≤ 16 := by
        unfold packI
        split
        · rw [packOf_length]; omega
        · simp
      have heqf := equalfunc_any (some ⟨g, 0, none⟩) A7 16 16 _ c7 rows (packI (numOf r0 : Int) (imgR rows)) w7 h16'.out.symm rfl (hrF.ext hbw7) (hr7.weak (fun _ h => h.elim)) (by rw [h16'.out]; omega) (by omega)
      have hres7 := ((hres4.ext hb5).alloc (.cells #[.int .i64 (numOf r0 : Int), .slice A4 (imgR rows).length c4] 146)).ext hb7
      obtain ⟨k0, k1, k2, k3⟩ := hres7.two
      obtain ⟨j0, j1, -, -⟩ := ((Blk.new w5 146 #[.int .i64 (numOf r0 : Int), .slice A4 (imgR rows).length c4]).ext hb7).two
      have hB7 : Bs w7 A4 (imgR rows).length c4 (imgR rows) := ((hB4.ext hb5).alloc _).ext hb7
      have hbu : ∀ u v, Bs ((w7.setCell ⟨w.heap.size, 0, none⟩ u).setCell ⟨w.heap.size, 1, none⟩ v) A4 (imgR rows).length c4 (imgR rows) := fun u v =>
        ⟨rfl, hB7.2.1, (hB7.2.2.setCell (fun ad e => by have := hf4' ad e; show ad.block ≠ w.heap.size; omega) u).setCell (fun ad e => by have := hf4' ad e; show ad.block ≠ w.heap.size; omega) v⟩
      have hbe : ∀ u v, Below w.heap.size w ((w7.setCell ⟨w.heap.size, 0, none⟩ u).setCell ⟨w.heap.size, 1, none⟩ v) := fun u v =>
        (hbw7.setCell (p := ⟨w.heap.size, 0, none⟩) (Nat.le_refl _) _).setCell (p := ⟨w.heap.size, 1, none⟩) (Nat.le_refl _) _
      have hput : ∀ u v, Blk ((w7.setCell ⟨w.heap.size, 0, none⟩ u).setCell ⟨w.heap.size, 1, none⟩ v) w.heap.size 146 #[u, v] := fun u v => (hres7.put 0 u).put 1 v
      have hfz : ∀ ad, A4 = some ad → ∀ u v, w.heap.size ≤ ad.block ∧ ad.block < ((w7.setCell ⟨w.heap.size, 0, none⟩ u).setCell ⟨w.heap.size, 1, none⟩ v).heap.size := fun ad e u v => by
        have h1 := hf4' ad e
        have h2 := (hf4 ad e).2
        have h3 := hb5.size
        have h4 := hb7.size
        have h5 : ((w7.setCell ⟨w.heap.size, 0, none⟩ u).setCell ⟨w.heap.size, 1, none⟩ v).heap.size = w7.heap.size := by simp [World.setCell]
        rw [World.size_alloc] at h4
        omega
      have HZ := Lib.hid hfz
      clear hfz
      by_cases hq : rows = packI (numOf r0 : Int) (imgR rows)
      · have hd : decide (rows = packI (numOf r0 : Int) (imgR rows)) = true := decide_eq_true hq
        have hU : unpackS rows = (numOf r0, imgR rows) := by
          unfold unpackS
          rw [Hhead.out, if_pos hq]
        rw [hd] at heqf
        have Heqf := Lib.hid heqf
        have HU := Lib.hid hU
        have HB := Lib.hid hbu
        have HE := Lib.hid hbe
        have HP := Lib.hid hput
        clear heqf hd hU hq hbu hbe hput hB7 hB4 h6 Hrw Hnum hpl hres7 hres4 hres hrF hr
        go_wp2_with fail
        refine Heqf.out.mono ?_
        rintro e w8 ⟨rfl, rfl⟩
        go_wp2
        rw [HU.out]
        exact bodyPost_ret (results_told rfl _ _ w.heap.size _ _ rfl ((HP.out _ _).cell 0) ((HP.out _ _).cell 1)) rfl ⟨A4, c4, rfl, HB.out _ _, fun ad e => HZ.out ad e _ _, HE.out _ _⟩
      · have hd : decide (rows = packI (numOf r0 : Int) (imgR rows)) = false := decide_eq_false hq
        have hU : unpackS rows = (0, []) := by
          unfold unpackS
          rw [Hhead.out, if_neg hq]
        rw [hd] at heqf
        have Heqf := Lib.hid heqf
        have HU := Lib.hid hU
        have HE := Lib.hid hbe
        have HP := Lib.hid hput
        clear heqf hd hU hq hbu hbe hput hB7 hB4 h6 Hrw Hnum hpl hres7 hres4 hres hrF hr
        go_wp2_with fail
        refine Heqf.out.mono ?_
        rintro e w8 ⟨rfl, rfl⟩
        go_wp2
        rw [HU.out]
        exact bodyPost_ret (results_told rfl _ _ w.heap.size _ _ rfl ((HP.out _ _).cell 0) ((HP.out _ _).cell 1)) rfl ⟨none, 0, rfl, ⟨rfl, Nat.le_refl _, Rd.nil _ _⟩, (fun ad e => by cases e), HE.out _ _⟩
end Go.Proofs.YtdpmfcifgimleaaGreatDoor

/-
  The contract of super's writeSlot. No statement of the seat is proved here.
-/
namespace Go.Proofs.YtdpmfcifgimleaaGreatDoor
open Go Go.RowKit

/-- rows are written, one by one, and flushed: the answer, the sectors, what the fuse lets through -/
def layTo (S : Sec) (l i : Int) : List (List UInt8) → Int × Sec × Int
  | [] => (flushCode l, if l = 0 then S else flushS S, tick l)
  | r :: rs => if writeCode S.length l i r = 0 then layTo (writeS S l i r) (tick l) (i + 1) rs else (writeCode S.length l i r, S, l)

set_option maxHeartbeats 2000000 in
theorem writeslot_any {w : World} {fp : Nat → Prop} {gd : Nat} {S : Sec} {l : Int} (h : Imp w fp gd S l) (hs : Small 900000 S) (k : Nat) (hk : k ≤ 1) (A : Option Addr) (n c : Nat) (rows : List (List UInt8)) (hn : n = rows.length) (hr : RowsF fp w A rows) (h16 : rows.length ≤ 16) :
    Calls Tryz.prog 83 #[.pointer (some ⟨gd, 0, none⟩), .int .i64 (k : Int), .slice A n c] w fun e w' =>
      e = .returned (.int .i64 (layTo S l ((k : Int) * 16) rows).1) ∧ Imp w' (More fp w w') gd (layTo S l ((k : Int) * 16) rows).2.1 (layTo S l ((k : Int) * 16) rows).2.2 ∧ Only fp w w' := by
  subst hn
  generalize hR : layTo S l ((k : Int) * 16) rows = R
  have HR := Lib.hid hR
  clear hR
  go_enter Tryz.func83, Tryz.ntmps83
  go_wp2
  go_loopw [7, 8, 9, 12] (fun _ _ _ i wr => ∃ (j : Nat) (S' : Sec) (l' : Int), j ≤ rows.length ∧ i = .int .i64 (j : Int) ∧ Imp wr (More fp w wr) gd S' l' ∧ Only fp w wr ∧ Small (900000 + j) S' ∧ layTo S' l' ((k : Int) * 16 + (j : Int)) (rows.drop j) = R) (fun _ _ _ i _ => rows.length - (intOf i).toNat)
  case atStart => exact ⟨0, S, l, Nat.zero_le _, rfl, h.mono (fun _ hk _ => Or.inl hk), Only.refl _ _, hs, by rw [← HR.out]; simp⟩
  case round =>
    obtain ⟨j, S', l', hj, rfl, hI, ho, hsm, hlay⟩ := hrel
    by_cases hlt : j < rows.length
    · obtain ⟨ad, B, cb, rfl, hcell, hlc, hrd⟩ := (hr.only ho).at_ hlt
      rw [List.drop_eq_getElem_cons hlt] at hlay
      unfold layTo at hlay
      have Hlay := Lib.hid hlay
      have hw := small_write hsm l' ((k : Int) * 16 + (j : Int)) rows[j]
      have hcall := write_all hI (small_mono hsm (by omega)) ((k : Int) * 16 + (j : Int)) B _ cb rows[j] rfl hrd.1
      have Hcall := Lib.hid hcall
      have hji : (j : Int) < (rows.length : Int) := by omega
      clear hlay hcall
      go_wp2_with fail
      refine Hcall.out.mono ?_
      rintro e w2 ⟨rfl, hI2, ho2⟩
      have ho' : Only fp w w2 := ho.join ho2
      have hI' : Imp w2 (More fp w w2) gd (writeS S' l' ((k : Int) * 16 + (j : Int)) rows[j]) (writeL S'.length l' ((k : Int) * 16 + (j : Int)) rows[j]) := hI2.mono (fun _ hk _ => More.join ho.size (Nat.le_refl _) ho2.size hk)
      clear hI2 ho2 Hcall
      by_cases hc : writeCode S'.length l' ((k : Int) * 16 + (j : Int)) rows[j] = 0
      · have hL : writeL S'.length l' ((k : Int) * 16 + (j : Int)) rows[j] = tick l' := by unfold writeL; rw [if_pos hc]
        have hnext := Hlay.out
        rw [if_pos hc] at hnext
        rw [hL] at hI'
        have Hnext := Lib.hid hnext
        rw [hc]
        clear hnext hL hc Hlay
        go_wp2
        go_roundw
        case rel => exact ⟨j + 1, _, _, by omega, by go_num, hI', ho', small_mono hw (by omega), by rw [← Hnext.out]; congr 1; try omega⟩
        case measure => simp [intOf]; omega
      · have hL : writeL S'.length l' ((k : Int) * 16 + (j : Int)) rows[j] = l' := by unfold writeL; rw [if_neg hc]
        have hSw : writeS S' l' ((k : Int) * 16 + (j : Int)) rows[j] = S' := by unfold writeS; rw [if_neg hc]
        have hend := Hlay.out
        rw [if_neg hc] at hend
        rw [hL, hSw] at hI'
        have hbeq : (writeCode S'.length l' ((k : Int) * 16 + (j : Int)) rows[j] == 0) = false := beq_eq_false_iff_ne.2 hc
        have Hend := Lib.hid hend
        clear hend hL hSw hc Hlay
        generalize writeCode S'.length l' ((k : Int) * 16 + (j : Int)) rows[j] = cd at *
        go_wp2
        go_ret
        rw [← Hend.out]
        exact ⟨rfl, hI', ho'⟩
    · obtain rfl : j = rows.length := by omega
      rw [List.drop_length] at hlay
      unfold layTo at hlay
      have Hlay := Lib.hid hlay
      clear hlay
      go_wp2_with fail
      refine (flush_all hI (small_mono hsm (by omega))).mono ?_
      rintro e w2 ⟨rfl, hI2, ho2⟩
      go_wp2
      go_ret
      rw [← Hlay.out]
      exact ⟨rfl, hI2.mono (fun _ hk _ => More.join ho.size (Nat.le_refl _) ho2.size hk), ho.join ho2⟩
end Go.Proofs.YtdpmfcifgimleaaGreatDoor

/-
  What an opened disk tells; a Super in memory. No statement of the seat is proved here.
-/
namespace Go.Proofs.YtdpmfcifgimleaaGreatDoor
open Go Go.RowKit

/-- what the first k slots tell: number, image, which slot -/
def tellK (S : Sec) : Nat → Nat × List UInt8 × Nat
  | 0 => (0, [], 0)
  | k + 1 => if (tellK S k).1 < (unpackS (slotRows S k)).1 then ((unpackS (slotRows S k)).1, (unpackS (slotRows S k)).2, k) else tellK S k
/-- the greatest number that the sectors of the first k slots bear -/
def mostK (S : Sec) : Nat → Nat
  | 0 => 0
  | k + 1 => mostR (mostK S k) (slotRows S k)

theorem mostR_take (m : Nat) (rows : List (List UInt8)) (k : Nat) (h : k < rows.length) : mostR m (rows.take (k + 1)) = max (mostR m (rows.take k)) (numOf rows[k]) := by
  unfold mostR
  rw [List.take_succ_eq_append_getElem h, List.foldl_append]; rfl
theorem mostR_le (rows : List (List UInt8)) : ∀ m, m ≤ 1125899906842624 → mostR m rows ≤ 1125899906842624 := by
  induction rows with
  | nil => intro m h; exact h
  | cons r rs ih => intro m h; exact ih _ (Nat.max_le.2 ⟨h, numOf_le r⟩)
theorem mostK_le (S : Sec) : ∀ k, mostK S k ≤ 1125899906842624
  | 0 => Nat.zero_le _
  | k + 1 => mostR_le _ _ (mostK_le S k)
theorem unpackS_le (rows : List (List UInt8)) : (unpackS rows).1 ≤ 1125899906842624 ∧ (unpackS rows).2.length ≤ 814 := by
  unfold unpackS
  split
  · exact ⟨numOf_le _, imgR_len _⟩
  · exact ⟨Nat.zero_le _, by simp⟩
theorem tellK_le (S : Sec) : ∀ k, (tellK S k).1 ≤ 1125899906842624 ∧ (tellK S k).2.1.length ≤ 814
  | 0 => ⟨Nat.zero_le _, by simp [tellK]⟩
  | k + 1 => by
    rw [tellK]
    split
    · exact unpackS_le _
    · exact tellK_le S k

/-- A Super in block 'g' over the disk 'gd'. -/
structure SupP (w : World) (fp fI : Nat → Prop) (g gd : Nat) (S : Sec) (l : Int) (img : List UInt8) (N slot : Nat) (dead : Bool) (A : Option Addr) (c : Nat) : Prop where
  imp : Imp w fI gd S l
  sub : ∀ k, fI k → fp k
  fg : fp g
  ng : ¬ fI g
  blk : Blk w g 148 #[.int .i64 (N : Int), .slice A img.length c, .pointer (some ⟨gd, 0, none⟩), .int .i64 (slot : Int), .bool dead]
  bs : Bs w A img.length c img
  fA : ∀ ad, A = some ad → fp ad.block ∧ ¬ fI ad.block ∧ ad.block ≠ g ∧ ad.block < w.heap.size
  hN : N ≤ 1125899906842624
  hs : slot ≤ 1
  hi : img.length ≤ 814
def SupAt (w : World) (fp : Nat → Prop) (g gd : Nat) (S : Sec) (l : Int) (img : List UInt8) (N slot : Nat) (dead : Bool) : Prop := ∃ fI A c, SupP w fp fI g gd S l img N slot dead A c

section
variable {T fp fp' : Nat → Prop} {w w' : World} {g gd : Nat} {S : Sec} {l : Int} {img : List UInt8} {N slot : Nat} {dead : Bool}
theorem SupAt.impd (h : SupAt w fp g gd S l img N slot dead) : Imp w fp gd S l := by
  obtain ⟨fI, A, c, h⟩ := h
  exact h.imp.mono (fun k hk _ => h.sub k hk)
theorem SupAt.mono (h : SupAt w fp g gd S l img N slot dead) (hs : ∀ k, fp k → k < w.heap.size → fp' k) : SupAt w fp' g gd S l img N slot dead := by
  obtain ⟨fI, A, c, h⟩ := h
  exact ⟨fun k => fI k ∧ k < w.heap.size, A, c, { h with
    imp := h.imp.mono (fun k hk hl => ⟨hk, hl⟩)
    sub := fun k hk => hs k (h.sub k hk.1) hk.2
    fg := hs _ h.fg h.blk.lt
    ng := fun hk => h.ng hk.1
    fA := fun ad e => ⟨hs _ (h.fA ad e).1 (h.fA ad e).2.2.2, fun hk => (h.fA ad e).2.1 hk.1, (h.fA ad e).2.2⟩ }⟩
theorem SupAt.only (h : SupAt w fp g gd S l img N slot dead) (ho : Only T w w') (hn : ∀ k, fp k → ¬ T k) : SupAt w' fp g gd S l img N slot dead := by
  obtain ⟨fI, A, c, h⟩ := h
  refine ⟨fI, A, c, { h with
    imp := h.imp.only ho (fun k hk => hn k (h.sub k hk))
    blk := h.blk.only ho (hn _ h.fg)
    bs := ⟨rfl, h.bs.2.1, h.bs.2.2.only ho (fun ad e _ => hn _ (h.fA ad e).1)⟩
    fA := fun ad e => ⟨(h.fA ad e).1, (h.fA ad e).2.1, (h.fA ad e).2.2.1, Nat.lt_of_lt_of_le (h.fA ad e).2.2.2 ho.size⟩ }⟩
theorem SupAt.ext (h : SupAt w fp g gd S l img N slot dead) (hb : Below w.heap.size w w') : SupAt w' fp g gd S l img N slot dead := h.only (Only.of_ext (S := fun _ => False) hb) (fun _ _ x => x)
theorem SupAt.lt (h : SupAt w fp g gd S l img N slot dead) : g < w.heap.size := by
  obtain ⟨fI, A, c, h⟩ := h
  exact h.blk.lt
end
end Go.Proofs.YtdpmfcifgimleaaGreatDoor

/-
  The contract of super's Open. No statement of the seat is proved here.
-/
namespace Go.Proofs.YtdpmfcifgimleaaGreatDoor
open Go Go.RowKit

theorem slotRows_64 {S : Sec} {k : Nat} (hw : Wf S) (hS : k * 16 + 16 ≤ S.length) : ∀ r ∈ slotRows S k, r.length = 64 := fun r hr => by
  obtain ⟨i, hi, rfl⟩ := List.mem_map.1 hr
  have hi' : i < 16 := List.mem_range.1 hi
  have hlt := slot_len hS hi'
  rw [List.getD_eq_getElem?_getD, List.getElem?_eq_getElem hlt]
  have h1 := hw _ (List.getElem_mem hlt)
  exact h1.2 _ (lastOf_mem h1.1)

theorem Bs.far {W : World} {A : Option Addr} {n c : Nat} {xs : List UInt8} (h : Bs W A n c xs) {p : Addr} (hn : ∀ ad, A = some ad → ad.block ≠ p.block) (u : Value) : Bs (W.setCell p u) A n c xs := ⟨h.1, h.2.1, h.2.2.setCell hn u⟩
theorem RowsAt.far {B0 : Nat} {w : World} {g N : Nat} {xss : List (List UInt8)} (h : RowsAt B0 w g N xss) {p : Addr} (hg : g ≠ p.block) (hp : p.block < B0) (u : Value) : RowsAt B0 (w.setCell p u) g N xss := by
  obtain ⟨cs, h1, h2, h3, h4⟩ := h
  refine ⟨cs, h1.far hg u, h2, h3, fun j xs hx => ?_⟩
  obtain ⟨B, c, e, hc, hr, hn⟩ := h4 j xs hx
  exact ⟨B, c, e, hc, hr.setCell (fun ad ea => by have := (hn ad ea).1; omega) u, hn⟩
theorem RowsAt.drew' {B0 : Nat} {w : World} {g N : Nat} {xss : List (List UInt8)} (h : RowsAt B0 w g N xss) : RowsAt B0 w.drew g N xss := h
theorem max_form (p q : Nat) : (if p < q then (q : Int) else (p : Int)) = ((max p q : Nat) : Int) := by
  split <;> omega
/-- what a call of Open answers -/
def Opened (w : World) (fp : Nat → Prop) (gd : Nat) (S : Sec) (l : Int) (e : Ending) (w' : World) : Prop :=
  Below w.heap.size w w' ∧ (((tellK S 2).1 = 0 ∧ e = .returned (.tuple #[.pointer none, .int .i64 2])) ∨
    (0 < (tellK S 2).1 ∧ ∃ g, e = .returned (.tuple #[.pointer (some ⟨g, 0, none⟩), .int .i64 0]) ∧ w.heap.size ≤ g ∧ SupAt w' (More fp w w') g gd S l (tellK S 2).2.1 (mostK S 2) (tellK S 2).2.2 false))

set_option maxRecDepth 100000 in
set_option maxHeartbeats 2000000 in
theorem open_any {w : World} {fp : Nat → Prop} {gd : Nat} {S : Sec} {l : Int} (ht : Tab w) (h : Imp w fp gd S l) (hs : Small 1000000 S) (h32 : 32 ≤ S.length) :
    Calls Tryz.prog 59 #[.pointer (some ⟨gd, 0, none⟩)] w (Opened w fp gd S l) := by
  have hwf := h.wf
  have h64 := Lib.hid (fun k (hk : k ≤ 1) => slotRows_64 (k := k) hwf (by omega))
  have hhas : decide ((32 : Int) ≤ (S.length : Int)) = true := decide_eq_true (by omega)
  have hh := hasslots_any h
  rw [hhas] at hh
  have Hh := Lib.hid hh
  clear hh hhas
  go_enter Tryz.func59, Tryz.ntmps59
  go_wp2_with fail
  refine Hh.out.mono ?_
  rintro e w1 ⟨rfl, rfl⟩
  go_wp2
  go_loopw [5, 6, 7, 8, 9, 11, 18] (fun m _ _ _ _ _ i wr => ∃ (k : Nat) (A : Option Addr) (c : Nat), k ≤ 2 ∧ i = .int .i64 (k : Int) ∧ m = .int .i64 (mostK S k : Int) ∧ Below w.heap.size w wr ∧
    Blk wr w.heap.size 148 #[.int .i64 ((tellK S k).1 : Int), .slice A (tellK S k).2.1.length c, .pointer (some ⟨gd, 0, none⟩), .int .i64 ((tellK S k).2.2 : Int), .bool false] ∧ Bs wr A (tellK S k).2.1.length c (tellK S k).2.1 ∧ (∀ ad, A = some ad → w.heap.size < ad.block ∧ ad.block < wr.heap.size)) (fun _ _ _ _ _ _ i _ => 2 - (intOf i).toNat)
  case atStart => exact ⟨0, none, 0, by omega, rfl, rfl, ext_alloc (Below.refl _ _) _, Blk.new w _ _, ⟨rfl, Nat.le_refl _, Rd.nil _ _⟩, fun ad e => by cases e⟩
  case round =>
    obtain ⟨k, A, c, hk, rfl, rfl, hb, hblk, hbs, hA⟩ := hrel
    obtain ⟨v0, rfl⟩ : ∃ v0 : World, v0 = wr := ⟨_, rfl⟩
    by_cases hlt : k < 2
    · have hcall := readslot_any (h.ext hb) hs k (by omega) (by omega)
      have Hcall := Lib.hid hcall
      have hgl := hblk.lt
      clear hcall
      go_wp2_with fail
      refine Hcall.out.mono ?_
      rintro e w2 ⟨rfl, hrows, hb2⟩
      have hbw2 := ext_trans hb hb2
      have hun := unpack_any (ht.ext hbw2) hrows (slotRows_length S k) (h64.out k (by omega))
      have hU := unpackS_le (slotRows S k)
      have hT := tellK_le S k
      have htell : tellK S (k + 1) = if (tellK S k).1 < (unpackS (slotRows S k)).1 then ((unpackS (slotRows S k)).1, (unpackS (slotRows S k)).2, k) else tellK S k := rfl
      have hmost : mostK S (k + 1) = mostR (mostK S k) (slotRows S k) := rfl
      have hml := mostK_le S k
      have Hml := Lib.hid hml
      have Hun := Lib.hid hun
      have Htell := Lib.hid htell
      have Hmost := Lib.hid hmost
      have hrl := Lib.hid (slotRows_length S k)
      have hr64 := Lib.hid (h64.out k (by omega))
      clear hun htell hmost Hcall
      generalize hrd : slotRows S k = rows at *
      clear hrd
      generalize hud : unpackS rows = U at *
      clear hud
      generalize htd : tellK S k = T at *
      clear htd
      generalize hmd : mostK S k = M at *
      clear hmd
      obtain ⟨un, ui⟩ := U
      obtain ⟨tn, ti, tsl⟩ := T
      go_wp2_with fail
      refine Hun.out.mono ?_
      rintro e w3 ⟨A3, c3, rfl, hB3, hf3, hb3⟩
      have hbw3 := ext_trans hbw2 hb3
      have hblk3 := (hblk.ext hb2).ext hb3
      have hblk4 := hblk3.alloc (.cells #[.int .i64 (un : Int), .slice A3 ui.length c3] 146)
      obtain ⟨j0, j1, -, -⟩ := (Blk.new w3 146 #[.int .i64 (un : Int), .slice A3 ui.length c3]).two
      have q0 := hblk4.cell 0
      have q1 := hblk4.cell 1
      have q3 := hblk4.cell 3
      have f0 := hblk4.free 0
      have f1 := hblk4.free 1
      have f3 := hblk4.free 3
      simp only [List.getElem?_toArray, List.getElem?_cons_zero, List.getElem?_cons_succ] at q0 q1 q3
      have hrows3 := (hrows.ext hb3).ext (ext_alloc (Below.refl w3.heap.size w3) (.cells #[.int .i64 (un : Int), .slice A3 ui.length c3] 146))
      have hbw4 := ext_alloc hbw3 (.cells #[.int .i64 (un : Int), .slice A3 ui.length c3] 146)
      have hsz2 := hb2.size
      have hsz3 := hb3.size
      have hf3' : ∀ ad, A3 = some ad → ad.block ≠ w.heap.size := fun ad e => by have := (hf3 ad e).1; omega
      by_cases hgt : tn < un
      · have hgi : (tn : Int) < (un : Int) := by omega
        go_wp2
        go_region
        go_wp2
        have hblkF := ((hblk4.put 0 (.int .i64 (un : Int))).put 1 (.slice A3 ui.length c3)).put 3 (.int .i64 (k : Int))
        have hbo := ((hbw4.setCell (p := ⟨w.heap.size, 0, none⟩) (Nat.le_refl _) (.int .i64 (un : Int))).setCell (p := ⟨w.heap.size, 1, none⟩) (Nat.le_refl _) (.slice A3 ui.length c3)).setCell (p := ⟨w.heap.size, 3, none⟩) (Nat.le_refl _) (.int .i64 (k : Int))
        have hbsF : Bs _ A3 ui.length c3 ui := (((hB3.alloc (.cells #[.int .i64 (un : Int), .slice A3 ui.length c3] 146)).far (p := ⟨w.heap.size, 0, none⟩) hf3' (.int .i64 (un : Int))).far (p := ⟨w.heap.size, 1, none⟩) hf3' (.slice A3 ui.length c3)).far (p := ⟨w.heap.size, 3, none⟩) hf3' (.int .i64 (k : Int))
        have hrF := ((hrows3.far (p := ⟨w.heap.size, 0, none⟩) (by show v0.heap.size ≠ w.heap.size; omega) (by show w.heap.size < v0.heap.size; omega) (.int .i64 (un : Int))).far (p := ⟨w.heap.size, 1, none⟩) (by show v0.heap.size ≠ w.heap.size; omega) (by show w.heap.size < v0.heap.size; omega) (.slice A3 ui.length c3)).far (p := ⟨w.heap.size, 3, none⟩) (by show v0.heap.size ≠ w.heap.size; omega) (by show w.heap.size < v0.heap.size; omega) (.int .i64 (k : Int))
        have hAF : ∀ ad, A3 = some ad → w.heap.size < ad.block ∧ ad.block < ((((w3.alloc (.cells #[.int .i64 (un : Int), .slice A3 ui.length c3] 146)).setCell ⟨w.heap.size, 0, none⟩ (.int .i64 (un : Int))).setCell ⟨w.heap.size, 1, none⟩ (.slice A3 ui.length c3)).setCell ⟨w.heap.size, 3, none⟩ (.int .i64 (k : Int))).heap.size := fun ad e => by
          have h1 := hf3 ad e
          have h5 : ((((w3.alloc (.cells #[.int .i64 (un : Int), .slice A3 ui.length c3] 146)).setCell ⟨w.heap.size, 0, none⟩ (.int .i64 (un : Int))).setCell ⟨w.heap.size, 1, none⟩ (.slice A3 ui.length c3)).setCell ⟨w.heap.size, 3, none⟩ (.int .i64 (k : Int))).heap.size = w3.heap.size + 1 := by simp [World.setCell]
          omega
        have hto : Tab _ := ht.ext hbo
        have fix : ∀ (X : World), X.drew.heap.size = X.heap.size := fun _ => rfl
        replace hblkF := hblkF.drew
        replace hbo := ext_drew hbo
        replace hbsF := hbsF.drew
        replace hrF := hrF.drew'
        replace hto := hto.drewN 1
        clear q0 q1 q3 f0 f1 f3 j0 j1 hblk4 hblk hblk3 hrows3 hrows hbs hB3 hA fix
        generalize hwo : ((((w3.alloc (.cells #[.int .i64 (un : Int), .slice A3 ui.length c3] 146)).setCell ⟨w.heap.size, 0, none⟩ (.int .i64 (un : Int))).setCell ⟨w.heap.size, 1, none⟩ (.slice A3 ui.length c3)).setCell ⟨w.heap.size, 3, none⟩ (.int .i64 (k : Int))).drew = wo at *
        have hAF2 : ∀ ad, A3 = some ad → w.heap.size < ad.block ∧ ad.block < wo.heap.size := by rw [← hwo]; exact hAF
        clear hAF; rename (∀ ad, A3 = some ad → w.heap.size < ad.block ∧ ad.block < wo.heap.size) => hAF
        have hto2 : Tab wo := by rw [← hwo]; exact hto
        clear hto; rename Tab wo => hto
        clear hwo hf3' hf3 hbw4 hbw3 hbw2 hb2 hb3 hb hsz2 hsz3 hU hT
        have HblkF := Lib.hid hblkF
        have HbsF := Lib.hid hbsF
        have HAF := Lib.hid hAF
        have Hto := Lib.hid hto
        have HrF := Lib.hid hrF
        have Hbo := Lib.hid hbo
        clear hblkF hbsF hAF hto hrF hbo Hun hml
        go_loopw [5, 11, 50] (fun m _ i w9 => ∃ j : Nat, j ≤ 16 ∧ i = .int .i64 (j : Int) ∧ m = .int .i64 (mostR M (rows.take j) : Int) ∧ Below wo.heap.size wo w9) (fun _ _ i _ => 16 - (intOf i).toNat)
        case atStart => exact ⟨0, by omega, rfl, rfl, Below.refl _ _⟩
        case round =>
          obtain ⟨j, hj, rfl, rfl, hb9⟩ := hrel
          by_cases hjl : j < 16
          · have hrow : rows[j]? = some (rows[j]'(by rw [hrl.out]; exact hjl)) := List.getElem?_eq_getElem _
            obtain ⟨cs, h1, h2, h3, h4⟩ := HrF.out.ext hb9
            obtain ⟨B, cB, ec, hcB, hrdB, -⟩ := h4 j _ hrow
            have hcell : wr.cell? ⟨v0.heap.size, j, none⟩ = some (.slice B (rows[j]'(by rw [hrl.out]; exact hjl)).length cB) := (h1.cell j).trans ec
            have hl := hr64.out _ (List.mem_of_getElem? hrow)
            have hsucc := mostR_take M rows j (by rw [hrl.out]; exact hjl)
            have hmj := mostR_le (rows.take j) M (Hml.out)
            have hnl := numOf_le (rows[j]'(by rw [hrl.out]; exact hjl))
            clear hrow ec h1 h2 h3 h4
            generalize (rows[j]'(by rw [hrl.out]; exact hjl)) = row at *
            rw [hl] at hcell hcB
            have hnum := numberof_any B 64 cB row wr (Hto.out.ext hb9) rfl hl hcB hrdB
            have Hnum := Lib.hid hnum
            have Hsucc := Lib.hid hsucc
            clear hnum hsucc hl hrdB
            generalize numOf row = q at *
            generalize mostR M (rows.take j) = p at *
            have hji : (j : Int) < 16 := by omega
            go_wp2_with fail
            refine Hnum.out.mono ?_
            rintro e w10 ⟨rfl, hb10⟩
            have hb910 := ext_trans hb9 hb10
            go_wp2
            go_roundw
            case rel => exact ⟨j + 1, by omega, by go_num, congrArg (Value.int IntKind.i64) (by rw [Hsucc.out]; exact max_form p q), hb910⟩
            case measure => simp [intOf]; omega
          · obtain rfl : j = 16 := by omega
            rw [List.take_of_length_le (by rw [hrl.out]; omega)]
            go_wp2
            go_roundw
            case rel =>
              refine ⟨k + 1, A3, c3, by omega, by go_num, by rw [Hmost.out], ext_trans Hbo.out hb9, ?_⟩
              rw [Htell.out, if_pos hgt]
              exact ⟨HblkF.out.ext hb9, HbsF.out.ext hb9, fun ad e => ⟨(HAF.out ad e).1, Nat.lt_of_lt_of_le (HAF.out ad e).2 hb9.size⟩⟩
            case measure => simp [intOf]; omega
      · have hgi : (un : Int) ≤ (tn : Int) := by omega
        go_wp2
        go_region
        go_wp2
        have hblkF := hblk4.drew
        have hbo := ext_drew hbw4
        have hbsF : Bs _ A ti.length c ti := (((hbs.ext hb2).ext hb3).alloc (.cells #[.int .i64 (un : Int), .slice A3 ui.length c3] 146)).drew
        have hrF := hrows3.drew'
        have hto : Tab (w3.alloc (.cells #[.int .i64 (un : Int), .slice A3 ui.length c3] 146)).drew := ht.ext hbo
        have hAF : ∀ ad, A = some ad → w.heap.size < ad.block ∧ ad.block < (w3.alloc (.cells #[.int .i64 (un : Int), .slice A3 ui.length c3] 146)).drew.heap.size := fun ad e => by
          have h1 := hA ad e
          have h5 : (w3.alloc (.cells #[.int .i64 (un : Int), .slice A3 ui.length c3] 146)).drew.heap.size = w3.heap.size + 1 := by
            show (w3.alloc _).heap.size = _
            rw [World.size_alloc]
          omega
        clear q0 q1 q3 f0 f1 f3 j0 j1 hblk4 hblk hblk3 hrows3 hrows hbs hB3 hA
        generalize hwo : (w3.alloc (.cells #[.int .i64 (un : Int), .slice A3 ui.length c3] 146)).drew = wo at *
        clear hwo hf3' hf3 hbw4 hbw3 hbw2 hb2 hb3 hb hsz2 hsz3 hU hT
        have HblkF := Lib.hid hblkF
        have HbsF := Lib.hid hbsF
        have HAF := Lib.hid hAF
        have Hto := Lib.hid hto
        have HrF := Lib.hid hrF
        have Hbo := Lib.hid hbo
        clear hblkF hbsF hAF hto hrF hbo Hun hml
        go_loopw [5, 11, 50] (fun m _ i w9 => ∃ j : Nat, j ≤ 16 ∧ i = .int .i64 (j : Int) ∧ m = .int .i64 (mostR M (rows.take j) : Int) ∧ Below wo.heap.size wo w9) (fun _ _ i _ => 16 - (intOf i).toNat)
        case atStart => exact ⟨0, by omega, rfl, rfl, Below.refl _ _⟩
        case round =>
          obtain ⟨j, hj, rfl, rfl, hb9⟩ := hrel
          by_cases hjl : j < 16
          · have hrow : rows[j]? = some (rows[j]'(by rw [hrl.out]; exact hjl)) := List.getElem?_eq_getElem _
            obtain ⟨cs, h1, h2, h3, h4⟩ := HrF.out.ext hb9
            obtain ⟨B, cB, ec, hcB, hrdB, -⟩ := h4 j _ hrow
            have hcell : wr.cell? ⟨v0.heap.size, j, none⟩ = some (.slice B (rows[j]'(by rw [hrl.out]; exact hjl)).length cB) := (h1.cell j).trans ec
            have hl := hr64.out _ (List.mem_of_getElem? hrow)
            have hsucc := mostR_take M rows j (by rw [hrl.out]; exact hjl)
            have hmj := mostR_le (rows.take j) M (Hml.out)
            have hnl := numOf_le (rows[j]'(by rw [hrl.out]; exact hjl))
            clear hrow ec h1 h2 h3 h4
            generalize (rows[j]'(by rw [hrl.out]; exact hjl)) = row at *
            rw [hl] at hcell hcB
            have hnum := numberof_any B 64 cB row wr (Hto.out.ext hb9) rfl hl hcB hrdB
            have Hnum := Lib.hid hnum
            have Hsucc := Lib.hid hsucc
            clear hnum hsucc hl hrdB
            generalize numOf row = q at *
            generalize mostR M (rows.take j) = p at *
            have hji : (j : Int) < 16 := by omega
            go_wp2_with fail
            refine Hnum.out.mono ?_
            rintro e w10 ⟨rfl, hb10⟩
            have hb910 := ext_trans hb9 hb10
            go_wp2
            go_roundw
            case rel => exact ⟨j + 1, by omega, by go_num, congrArg (Value.int IntKind.i64) (by rw [Hsucc.out]; exact max_form p q), hb910⟩
            case measure => simp [intOf]; omega
          · obtain rfl : j = 16 := by omega
            rw [List.take_of_length_le (by rw [hrl.out]; omega)]
            go_wp2
            go_roundw
            case rel =>
              refine ⟨k + 1, A, c, by omega, by go_num, by rw [Hmost.out], ext_trans Hbo.out hb9, ?_⟩
              rw [Htell.out, if_neg hgt]
              exact ⟨HblkF.out.ext hb9, HbsF.out.ext hb9, fun ad e => ⟨(HAF.out ad e).1, Nat.lt_of_lt_of_le (HAF.out ad e).2 hb9.size⟩⟩
            case measure => simp [intOf]; omega
    · obtain rfl : k = 2 := by omega
      have hml := mostK_le S 2
      have hT := tellK_le S 2
      have hts : (tellK S 2).2.2 ≤ 1 := by
        show (if _ then _ else _ : Nat × List UInt8 × Nat).2.2 ≤ 1
        split
        · exact Nat.le_refl _
        · show (if _ then _ else _ : Nat × List UInt8 × Nat).2.2 ≤ 1
          split
          · exact Nat.zero_le _
          · exact Nat.zero_le _
      obtain ⟨fin, hfin⟩ : ∃ f : Ending → World → Prop, f = Opened w fp gd S l := ⟨_, rfl⟩
      have q0 := hblk.cell 0
      have f0 := hblk.free 0
      simp only [List.getElem?_toArray, List.getElem?_cons_zero, List.getElem?_cons_succ] at q0
      have hput := hblk.put 0 (.int .i64 (mostK S 2 : Int))
      have hbe : Below w.heap.size w (v0.setCell ⟨w.heap.size, 0, none⟩ (.int .i64 (mostK S 2 : Int))) := hb.setCell (Nat.le_refl _) _
      by_cases hz : (tellK S 2).1 = 0
      · have hpost : ∀ W, Below w.heap.size w W → Opened w fp gd S l (.returned (.tuple #[.pointer none, .int .i64 2])) W := fun W hW => ⟨hW, .inl ⟨hz, rfl⟩⟩
        have Hpost := Lib.hid hpost
        have hzi : (((tellK S 2).1 : Int) == 0) = true := beq_iff_eq.2 (by omega)
        clear hpost hz hml hT hts hput hbe hbs hblk hA hfin
        generalize (tellK S 2).1 = tn at *
        generalize mostK S 2 = M at *
        go_wp2
        go_ret2
        exact Hpost.out _ hb
      · have hpost : Opened w fp gd S l (.returned (.tuple #[.pointer (some ⟨w.heap.size, 0, none⟩), .int .i64 0])) (v0.setCell ⟨w.heap.size, 0, none⟩ (.int .i64 (mostK S 2 : Int))) := by
          have hsz : (v0.setCell ⟨w.heap.size, 0, none⟩ (.int .i64 (mostK S 2 : Int))).heap.size = v0.heap.size := by simp [World.setCell]
          have hbl := hblk.lt
          refine ⟨hbe, .inr ⟨by omega, w.heap.size, rfl, Nat.le_refl _, fun k => fp k ∧ k < w.heap.size, A, c, ?_⟩⟩
          exact {
            imp := (h.mono (fun k hk hl => ⟨hk, hl⟩)).ext hbe
            sub := fun k hk => .inl hk.1
            fg := .inr ⟨Nat.le_refl _, by rw [hsz]; exact hbl⟩
            ng := fun hk => Nat.lt_irrefl _ hk.2
            blk := hput
            bs := hbs.far (p := ⟨w.heap.size, 0, none⟩) (fun ad e => by have := (hA ad e).1; show ad.block ≠ w.heap.size; omega) _
            fA := fun ad e => by
              have := hA ad e
              exact ⟨.inr ⟨by omega, by rw [hsz]; exact this.2⟩, (fun hk => by have := hk.2; omega), by omega, by rw [hsz]; exact this.2⟩
            hN := hml
            hs := hts
            hi := hT.2 }
        have Hpost := Lib.hid hpost
        have hzi : (((tellK S 2).1 : Int) == 0) = false := beq_eq_false_iff_ne.2 (by omega)
        clear hpost hz hml hT hts hput hbe hbs hblk hA hfin
        generalize (tellK S 2).1 = tn at *
        generalize mostK S 2 = M at *
        go_wp2
        go_ret2
        exact Hpost.out
end Go.Proofs.YtdpmfcifgimleaaGreatDoor

/-
  The contracts of super's Commit, Image, Number, Dead. No statement of the seat is proved here.
-/
namespace Go.Proofs.YtdpmfcifgimleaaGreatDoor
open Go Go.RowKit

/-- a Super, without its place -/
structure SupS where
  S : Sec
  l : Int
  img : List UInt8
  N : Nat
  slot : Nat
  dead : Bool
/-- Commit: the answer, and what it leaves -/
def commitS (s : SupS) (bs : List UInt8) : Int × SupS :=
  if s.dead = true then (6, s)
  else if 814 < bs.length ∨ s.N = 1125899906842624 then (3, s)
  else if (layTo s.S s.l (((1 - s.slot : Nat) : Int) * 16) (packI ((s.N : Int) + 1) bs)).1 = 0 then
    (0, { S := (layTo s.S s.l (((1 - s.slot : Nat) : Int) * 16) (packI ((s.N : Int) + 1) bs)).2.1, l := (layTo s.S s.l (((1 - s.slot : Nat) : Int) * 16) (packI ((s.N : Int) + 1) bs)).2.2, img := bs, N := s.N + 1, slot := 1 - s.slot, dead := false })
  else ((layTo s.S s.l (((1 - s.slot : Nat) : Int) * 16) (packI ((s.N : Int) + 1) bs)).1, { s with S := (layTo s.S s.l (((1 - s.slot : Nat) : Int) * 16) (packI ((s.N : Int) + 1) bs)).2.1, l := (layTo s.S s.l (((1 - s.slot : Nat) : Int) * 16) (packI ((s.N : Int) + 1) bs)).2.2, dead := true })
def Sup (w : World) (fp : Nat → Prop) (g gd : Nat) (s : SupS) : Prop := SupAt w fp g gd s.S s.l s.img s.N s.slot s.dead
/-- what a Commit leaves -/
def Committed (w : World) (fp : Nat → Prop) (g gd : Nat) (s : SupS) (bs : List UInt8) (e : Ending) (w' : World) : Prop :=
  e = .returned (.int .i64 (commitS s bs).1) ∧ Sup w' (More fp w w') g gd (commitS s bs).2 ∧ Only fp w w'

theorem ToldAt.drew {w : World} {b N : Nat} {A : Option Addr} {n c : Nat} {img : List UInt8} (h : ToldAt w b N A n c img) : ToldAt w.drew b N A n c img := h
theorem SupP.told {w : World} {fp fI : Nat → Prop} {g gd : Nat} {S : Sec} {l : Int} {img : List UInt8} {N slot : Nat} {dead : Bool} {A : Option Addr} {c : Nat} (h : SupP w fp fI g gd S l img N slot dead A c) : ToldAt w g N A img.length c img := ⟨h.blk.cell 0, h.blk.cell 1, h.bs⟩

set_option maxHeartbeats 1000000 in
theorem commit_still {w : World} {fp : Nat → Prop} {g gd : Nat} {s : SupS} (h : Sup w fp g gd s) (B : Option Addr) (m d : Nat) (bs : List UInt8) (hm : m = bs.length) (hbl : bs.length ≤ maxLen) (hc : s.dead = true ∨ 814 < bs.length ∨ s.N = 1125899906842624) :
    Calls Tryz.prog 84 #[.pointer (some ⟨g, 0, none⟩), .slice B m d] w (Committed w fp g gd s bs) := by
  subst hm
  have hpost : ∀ c, c = (if s.dead = true then (6 : Int) else 3) → Committed w fp g gd s bs (.returned (.int .i64 c)) w := by
    rintro c rfl
    have e : commitS s bs = (if s.dead = true then (6 : Int) else 3, s) := by
      unfold commitS
      by_cases hd : s.dead = true
      · rw [if_pos hd, if_pos hd]
      · rw [if_neg hd, if_neg hd, if_pos (by rcases hc with hc | hc; exact absurd hc hd; exact hc)]
    refine ⟨by rw [e], ?_, Only.refl _ _⟩
    rw [e]
    exact SupAt.mono h (fun k hk _ => .inl hk)
  have Hpost := Lib.hid hpost
  obtain ⟨fI, A, c, h⟩ := h
  have q3 := h.blk.cell 4
  simp only [List.getElem?_toArray, List.getElem?_cons_zero, List.getElem?_cons_succ] at q3
  have hlast := last_any h.told
  have hN := h.hN
  clear hpost h
  obtain ⟨S, l, img, N, slot, dead⟩ := s
  dsimp only at *
  have hbi : (bs.length : Int) ≤ 9223372036854775807 := by unfold maxLen at hbl; omega
  clear hbl
  cases dead with
  | true =>
    have Hp := Lib.hid (Hpost.out 6 rfl)
    clear Hpost hlast hN hc
    go_enter Tryz.func84, Tryz.ntmps84
    go_wp2
    go_ret
    exact Hp.out
  | false =>
    have Hp := Lib.hid (Hpost.out 3 rfl)
    clear Hpost
    by_cases hl : 814 < bs.length
    · have hli : (814 : Int) < (bs.length : Int) := by omega
      clear hlast hN hc
      go_enter Tryz.func84, Tryz.ntmps84
      go_wp2
      go_ret
      exact Hp.out
    · have hli : (bs.length : Int) ≤ 814 := by omega
      have hNe : N = 1125899906842624 := by
        rcases hc with hc | hc | hc
        · cases hc
        · omega
        · exact hc
      have hb : ((N : Int) == 1125899906842624) = true := beq_iff_eq.2 (by omega)
      rw [hb] at hlast
      have Hlast := Lib.hid hlast
      have hdn : decide ((814 : Int) < (bs.length : Int)) = false := decide_eq_false (by omega)
      clear hlast hN hc hNe hb
      go_enter Tryz.func84, Tryz.ntmps84
      go_wp2_with fail
      refine Hlast.out.mono ?_
      rintro e w1 ⟨rfl, rfl⟩
      go_wp2
      go_ret
      exact Hp.out

set_option maxRecDepth 100000 in
set_option maxHeartbeats 2000000 in
theorem commit_go {w : World} {fp : Nat → Prop} {g gd : Nat} {s : SupS} (ht : Tab w) (h : Sup w fp g gd s) (hs : Small 900000 s.S) (B : Option Addr) (m d : Nat) (bs : List UInt8) (hB : Bs w B m d bs) (hd : s.dead = false) (hbl : bs.length ≤ 814) (hN : s.N ≠ 1125899906842624) :
    Calls Tryz.prog 84 #[.pointer (some ⟨g, 0, none⟩), .slice B m d] w (Committed w fp g gd s bs) := by
  have hm := hB.1
  subst hm
  obtain ⟨fI, A, c, h⟩ := h
  obtain ⟨S, l, img, N, slot, dead⟩ := s
  dsimp only at *
  subst hd
  have hlast := last_any h.told
  have hb : ((N : Int) == 1125899906842624) = false := beq_eq_false_iff_ne.2 (by omega)
  rw [hb] at hlast
  have Hlast := Lib.hid hlast
  have q3 := h.blk.cell 3
  have q4 := h.blk.cell 4
  have q2 := h.blk.cell 2
  simp only [List.getElem?_toArray, List.getElem?_cons_zero, List.getElem?_cons_succ] at q2 q3 q4
  have hli : (bs.length : Int) ≤ 814 := by omega
  have hdn : decide ((814 : Int) < (bs.length : Int)) = false := decide_eq_false (by omega)
  have hbeh : ∀ W, Below w.heap.size w W → Calls Tryz.prog 135 #[.pointer (some ⟨g, 0, none⟩), .slice B bs.length d] W fun e w' => ∃ A' c', e = .returned (.agg #[.int .i64 ((N : Int) + 1), .slice A' bs.length c']) ∧ New W w' A' c' bs ∧ Below W.heap.size W w' := fun W hW =>
    behind_any (h.told.ext hW) h.hN B _ d bs (hB.ext hW) hbl
  have Hbeh := Lib.hid hbeh
  have hsl := h.hs
  have hws : IntKind.i64.wrap (1 - (slot : Int)) = 1 - (slot : Int) := by rw [IntKind.wrap_i64]; omega
  have hne := World.new_ne w ⟨g, 3, none⟩ q3
  clear hlast hb hbeh
  go_enter Tryz.func84, Tryz.ntmps84
  go_wp2_with fail
  refine Hlast.out.mono ?_
  rintro e w1 ⟨rfl, rfl⟩
  go_wp2
  go_region_held3 (fun w' => w'.cell? ⟨g, 3, none⟩ = some (.int .i64 (slot : Int))) (first | exact q3 | exact hS1 | go_keep) (first
    | (go_at_call 135; ((with_reducible refine (Hbeh.out _ ?_).mono ?_)); exact ext_drew (Below.refl _ _); rintro e w1 ⟨A1, c1, rfl, hn1, hb1⟩; have hS1 : w1.cell? ⟨g, 3, none⟩ = some (.int .i64 (slot : Int)) := cell_ext (w := w.drew) q3 hb1; have hne1 := World.new_ne w1 ⟨g, 3, none⟩ hS1)
    | (go_at_call 135; ((with_reducible refine (Hbeh.out _ ?_).mono ?_)); exact ext_drew (ext_alloc (Below.refl _ _) _); rintro e w1 ⟨A1, c1, rfl, hn1, hb1⟩; have hS1 : w1.cell? ⟨g, 3, none⟩ = some (.int .i64 (slot : Int)) := cell_ext q3 (ext_trans (ext_drew (ext_alloc (Below.refl _ _) _)) hb1); have hne1 := World.new_ne w1 ⟨g, 3, none⟩ hS1;
        obtain ⟨p0, p1, p2, p3⟩ := ((Blk.drew (Blk.new w 146 #[.int .i64 0, .slice none 0 0])).ext hb1).two))
  · obtain ⟨wx, hwx⟩ : ∃ wx : World, wx = w1.alloc (.cells #[.int .i64 ((N : Int) + 1), .slice A1 bs.length c1] 146) := ⟨_, rfl⟩
    rw [← hwx]
    generalize hb5 : w1.heap.size = b5
    have hbw1 : Below w.heap.size w w1 := ext_trans (ext_drew (Below.refl _ _)) hb1
    have hbx : Below w.heap.size w wx := by rw [hwx]; exact ext_alloc hbw1 _
    have hT5 : ToldAt wx b5 (N + 1) A1 bs.length c1 bs := by
      rw [hwx, ← hb5]
      exact ⟨(Blk.new w1 146 #[.int .i64 ((N : Int) + 1), .slice A1 bs.length c1]).cell 0, (Blk.new w1 _ _).cell 1, hn1.bs.alloc _⟩
    have hlt5 : w.heap.size ≤ b5 ∧ b5 < wx.heap.size := by rw [hwx, ← hb5, World.size_alloc]; exact ⟨hbw1.size, Nat.lt_succ_self _⟩
    have hA1 : ∀ ad, A1 = some ad → w.heap.size ≤ ad.block ∧ ad.block < wx.heap.size := fun ad e => by
      have := hn1.2 ad e
      rw [hwx, World.size_alloc]
      exact ⟨this.1, by omega⟩
    clear hwx hb5 hn1 hb1 hbw1
    clear q3 q4 Hbeh Hlast hdn hli hws hne
    obtain ⟨fI', hfI⟩ : ∃ f : Nat → Prop, f = fun k => fI k ∧ k < w.heap.size := ⟨_, rfl⟩
    have hI' : Imp w fI' gd S l := by rw [hfI]; exact h.imp.mono (fun k hk hl => ⟨hk, hl⟩)
    have hfl : ∀ k, fI' k → fI k ∧ k < w.heap.size := by rw [hfI]; exact fun k hk => hk
    clear hfI
    have hgl := h.blk.lt
    have hsx := hbx.size
    have hrw := rows_any hT5.drew ((ht.ext hbx).drewN 1) (by have := h.hN; omega) (by omega)
    have q2x : wx.cell? ⟨g, 2, none⟩ = some (.pointer (some ⟨gd, 0, none⟩)) := cell_ext q2 hbx
    have Hrw := Lib.hid hrw
    have e1 : ((1 - slot : Nat) : Int) = 1 - (slot : Int) := by omega
    have hNN : ((N + 1 : Nat) : Int) = (N : Int) + 1 := by omega
    rw [hNN] at Hrw
    have hrsl : (packI ((N : Int) + 1) bs).length ≤ 16 := by
      unfold packI
      split
      · rw [packOf_length]; omega
      · simp
    have hcs : ∀ R, layTo S l (((1 - slot : Nat) : Int) * 16) (packI ((N : Int) + 1) bs) = R → commitS ⟨S, l, img, N, slot, false⟩ bs = if R.1 = 0 then (0, ⟨R.2.1, R.2.2, bs, N + 1, 1 - slot, false⟩) else (R.1, ⟨R.2.1, R.2.2, img, N, slot, true⟩) := by
      rintro R rfl
      unfold commitS
      rw [if_neg (by simp), if_neg (by intro h; rcases h with h | h; omega; exact hN h)]
    have hwrs : ∀ (w2 : World) (A2 : Option Addr) (c2 : Nat), Below w.heap.size w w2 → RowsF (fun k => k < wx.heap.size) w2 A2 (packI ((N : Int) + 1) bs) → Calls Tryz.prog 83 #[.pointer (some ⟨gd, 0, none⟩), .int .i64 (1 - (slot : Int)), .slice A2 (packI ((N : Int) + 1) bs).length c2] w2 fun e w3 =>
        ∃ R, layTo S l (((1 - slot : Nat) : Int) * 16) (packI ((N : Int) + 1) bs) = R ∧ e = .returned (.int .i64 R.1) ∧ Imp w3 (More fI' w2 w3) gd R.2.1 R.2.2 ∧ Only fI' w2 w3 := fun w2 A2 c2 hb2 hr2 => by
      have h1 := writeslot_any (hI'.ext hb2) hs (1 - slot) (by omega) A2 _ c2 _ rfl (hr2.weak (fun k hk => by have := (hfl k hk).2; omega)) hrsl
      rw [e1] at h1
      refine h1.mono ?_
      rintro e w3 ⟨rfl, h2, h3⟩
      rw [e1]
      exact ⟨_, rfl, rfl, h2, h3⟩
    have Hwrs := Lib.hid hwrs
    have Hcs := Lib.hid hcs
    clear hrw hwrs hcs hNN e1
    generalize packI ((N : Int) + 1) bs = rs at *
    go_wp2
    go_region_held3 (fun w' => w'.cell? ⟨g, 2, none⟩ = some (.pointer (some ⟨gd, 0, none⟩))) (first | exact q2x | exact hS2 | exact hS3) (first
      | (go_at_call 136; ((with_reducible refine Hrw.out.mono ?_)); rintro e w2 ⟨A2, c2, rfl, hl2, hr2, hb2⟩; have hS2 : w2.cell? ⟨g, 2, none⟩ = some (.pointer (some ⟨gd, 0, none⟩)) := cell_ext (w := wx.drew) q2x hb2)
      | (go_at_call 83; ((with_reducible refine (Hwrs.out _ _ _ ?_ ?_).mono ?_)); exact ext_trans (ext_drew hbx) hb2; exact hr2; rintro e w3 ⟨R, hR, rfl, hI3, ho3⟩; have hS3 : w3.cell? ⟨g, 2, none⟩ = some (.pointer (some ⟨gd, 0, none⟩)) := (World.cell?_of_block (ho3.block g (World.block_lt_of_cell? _ _ hS2) (fun hk => h.ng (hfl _ hk).1))).trans hS2))
    obtain ⟨r1, S2, l2⟩ := R
    have hs2 := hb2.size
    have hs3 := ho3.size
    have hng : ¬ fI' g := fun hk => h.ng (hfl _ hk).1
    have hblk3 : Blk w3 g 148 #[.int .i64 (N : Int), .slice A img.length c, .pointer (some ⟨gd, 0, none⟩), .int .i64 (slot : Int), .bool false] := ((h.blk.ext (ext_drew hbx)).ext hb2).only ho3 hng
    have hb2w : Below w.heap.size w w2 := ext_trans (ext_drew hbx) hb2
    have hT2 := hT5.drew.ext hb2
    have hn5 : ¬ fI' b5 := fun hk => by have := (hfl _ hk).2; omega
    have t0 : w3.cell? ⟨b5, 0, none⟩ = some (.int .i64 ((N : Int) + 1)) := (World.cell?_of_block (ho3.block b5 (by have : wx.drew.heap.size = wx.heap.size := rfl; omega) hn5)).trans hT2.1
    have t1 : w3.cell? ⟨b5, 1, none⟩ = some (.slice A1 bs.length c1) := (World.cell?_of_block (ho3.block b5 (by have : wx.drew.heap.size = wx.heap.size := rfl; omega) hn5)).trans hT2.2.1
    have hbs3 : Bs w3 A1 bs.length c1 bs := ⟨rfl, hT2.2.2.2.1, hT2.2.2.2.2.only ho3 (fun ad e _ hk => by have := (hfl _ hk).2; have := (hA1 ad e).1; omega)⟩
    have hng3 : ¬ More fI' w2 w3 g := fun hk => by
      rcases hk with hk | hk
      · exact hng hk
      · have := hk.1
        have : wx.drew.heap.size = wx.heap.size := rfl
        omega
    have hO3 : Only fp w w3 := (Only.of_ext (S := fp) hb2w).trans ho3 (fun k _ hk => h.sub k (hfl k hk).1)
    have hsub : ∀ (W : World), w3.heap.size ≤ W.heap.size → ∀ k, More fI' w2 w3 k → More fp w W k := fun W hW k hk => by
      rcases hk with hk | hk
      · exact .inl (h.sub k (hfl k hk).1)
      · exact .inr ⟨by have := hb2w.size; omega, by omega⟩
    have hgood : Committed w fp g gd ⟨S, l, img, N, slot, false⟩ bs (.returned (.int .i64 r1)) (if r1 = 0 then ((w3.setCell ⟨g, 0, none⟩ (.int .i64 ((N : Int) + 1))).setCell ⟨g, 1, none⟩ (.slice A1 bs.length c1)).setCell ⟨g, 3, none⟩ (.int .i64 (1 - (slot : Int))) else w3.setCell ⟨g, 4, none⟩ (.bool true)) := by
      have hc := Hcs.out _ hR
      dsimp only at hc
      have e1 : ((1 - slot : Nat) : Int) = 1 - (slot : Int) := by have := h.hs; omega
      by_cases h0 : r1 = 0
      · rw [if_pos h0] at hc ⊢
        have hsz : (((w3.setCell ⟨g, 0, none⟩ (.int .i64 ((N : Int) + 1))).setCell ⟨g, 1, none⟩ (.slice A1 bs.length c1)).setCell ⟨g, 3, none⟩ (.int .i64 (1 - (slot : Int)))).heap.size = w3.heap.size := by simp [World.setCell]
        have hog : Only (fun k => k = g) w3 (((w3.setCell ⟨g, 0, none⟩ (.int .i64 ((N : Int) + 1))).setCell ⟨g, 1, none⟩ (.slice A1 bs.length c1)).setCell ⟨g, 3, none⟩ (.int .i64 (1 - (slot : Int)))) :=
          (((Only.refl (fun k => k = g) w3).setCell (p := ⟨g, 0, none⟩) (.inl rfl) _).setCell (p := ⟨g, 1, none⟩) (.inl rfl) _).setCell (p := ⟨g, 3, none⟩) (.inl rfl) _
        have hput := ((hblk3.put 0 (.int .i64 ((N : Int) + 1))).put 1 (.slice A1 bs.length c1)).put 3 (.int .i64 (1 - (slot : Int)))
        refine ⟨by rw [hc, h0], ?_, hO3.trans hog (fun k _ hk => by rw [hk]; exact h.fg)⟩
        rw [hc]
        refine ⟨More fI' w2 w3, A1, c1, ?_⟩
        exact {
          imp := hI3.only hog (fun k hk e => hng3 (e ▸ hk))
          sub := hsub _ (by rw [hsz]; exact Nat.le_refl _)
          fg := .inl h.fg
          ng := hng3
          blk := by
            rw [e1]
            exact hput
          bs := ⟨rfl, hbs3.2.1, hbs3.2.2.only hog (fun ad e _ hk => by have := (hA1 ad e).1; omega)⟩
          fA := fun ad e => by
            have h1 := hA1 ad e
            have hdx : wx.drew.heap.size = wx.heap.size := rfl
            refine ⟨.inr ⟨h1.1, by rw [hsz]; omega⟩, fun hk => ?_, by omega, by rw [hsz]; omega⟩
            rcases hk with hk | hk
            · have := (hfl _ hk).2; omega
            · have := hk.1; omega
          hN := by have := h.hN; show N + 1 ≤ _; omega
          hs := by show 1 - slot ≤ 1; omega
          hi := hbl }
      · rw [if_neg h0] at hc ⊢
        have hsz : (w3.setCell ⟨g, 4, none⟩ (.bool true)).heap.size = w3.heap.size := by simp [World.setCell]
        have hog : Only (fun k => k = g) w3 (w3.setCell ⟨g, 4, none⟩ (.bool true)) := (Only.refl (fun k => k = g) w3).setCell (p := ⟨g, 4, none⟩) (.inl rfl) _
        have hput := hblk3.put 4 (.bool true)
        refine ⟨by rw [hc], ?_, hO3.trans hog (fun k _ hk => by rw [hk]; exact h.fg)⟩
        rw [hc]
        refine ⟨More fI' w2 w3, A, c, ?_⟩
        exact {
          imp := hI3.only hog (fun k hk e => hng3 (e ▸ hk))
          sub := hsub _ (by rw [hsz]; exact Nat.le_refl _)
          fg := .inl h.fg
          ng := hng3
          blk := hput
          bs := ⟨rfl, h.bs.2.1, (((h.bs.2.2.ext hb2w).only ho3 (fun ad e _ hk => (h.fA ad e).2.1 (hfl _ hk).1)).only hog (fun ad e _ hk => (h.fA ad e).2.2.1 hk))⟩
          fA := fun ad e => by
            have h1 := h.fA ad e
            have hdx : wx.drew.heap.size = wx.heap.size := rfl
            refine ⟨.inl h1.1, fun hk => ?_, h1.2.2.1, by rw [hsz]; omega⟩
            rcases hk with hk | hk
            · exact h1.2.1 (hfl _ hk).1
            · have := hk.1; omega
          hN := h.hN
          hs := h.hs
          hi := h.hi }
    have Hgood := Lib.hid hgood
    have k0 := hblk3.cell 0
    have k1 := hblk3.cell 1
    have k3 := hblk3.cell 3
    have k4 := hblk3.cell 4
    have f0 := hblk3.free 0
    have f1 := hblk3.free 1
    have f3 := hblk3.free 3
    have f4 := hblk3.free 4
    simp only [List.getElem?_toArray, List.getElem?_cons_zero, List.getElem?_cons_succ] at k0 k1 k3 k4
    have hw3 : w3.cell? ⟨g, 2, none⟩ = some (.pointer (some ⟨gd, 0, none⟩)) := hS3
    clear hgood hsub hO3 hng3 hbs3 hT2 hT5 hI3 ho3 hb2 hbx hR Hcs Hwrs Hrw hblk3 hA1 hfl hI' hs2 hs3 hsx hlt5 hgl hng hn5 hb2w hr2 hrsl hl2 hS2 q2x hB h hN hs
    by_cases h0 : r1 = 0
    · subst h0
      have Hg := Hgood.out
      rw [if_pos rfl] at Hg
      have HG := Lib.hid Hg
      clear Hgood Hg
      go_wp2
      go_ret
      exact HG.out
    · have hb0 : (r1 == 0) = false := beq_eq_false_iff_ne.2 h0
      have Hg := Hgood.out
      rw [if_neg h0] at Hg
      have HG := Lib.hid Hg
      clear Hgood Hg h0
      go_wp2
      go_ret
      exact HG.out
  · obtain ⟨wx, hwx⟩ : ∃ wx : World, wx = (w1.setCell ⟨w.heap.size, 0, none⟩ (.int .i64 ((N : Int) + 1))).setCell ⟨w.heap.size, 1, none⟩ (.slice A1 bs.length c1) := ⟨_, rfl⟩
    rw [← hwx]
    generalize hb5 : w.heap.size = b5
    have hbw1 : Below w.heap.size w w1 := ext_trans (ext_drew (ext_alloc (Below.refl _ _) _)) hb1
    have hbx : Below w.heap.size w wx := by rw [hwx]; exact (hbw1.setCell (p := ⟨w.heap.size, 0, none⟩) (Nat.le_refl _) _).setCell (p := ⟨w.heap.size, 1, none⟩) (Nat.le_refl _) _
    have hblk1 := (Blk.drew (Blk.new w 146 #[.int .i64 0, .slice none 0 0])).ext hb1
    have hdz : (w.alloc (.cells #[.int .i64 0, .slice none 0 0] 146)).drew.heap.size = w.heap.size + 1 := by
      show (w.alloc _).heap.size = _
      rw [World.size_alloc]
    have hA1' : ∀ ad, A1 = some ad → w.heap.size + 1 ≤ ad.block ∧ ad.block < w1.heap.size := fun ad e => by
      have := hn1.2 ad e
      exact ⟨by omega, this.2⟩
    have hT5 : ToldAt wx b5 (N + 1) A1 bs.length c1 bs := by
      rw [hwx, ← hb5]
      exact ⟨((hblk1.put 0 _).put 1 _).cell 0, ((hblk1.put 0 _).put 1 _).cell 1, (hn1.bs.far (p := ⟨w.heap.size, 0, none⟩) (fun ad e => by have := (hA1' ad e).1; show ad.block ≠ w.heap.size; omega) _).far (p := ⟨w.heap.size, 1, none⟩) (fun ad e => by have := (hA1' ad e).1; show ad.block ≠ w.heap.size; omega) _⟩
    have hzx : wx.heap.size = w1.heap.size := by rw [hwx]; simp [World.setCell]
    have hlt5 : w.heap.size ≤ b5 ∧ b5 < wx.heap.size := by rw [hzx, ← hb5]; exact ⟨Nat.le_refl _, hblk1.lt⟩
    have hA1 : ∀ ad, A1 = some ad → w.heap.size ≤ ad.block ∧ ad.block < wx.heap.size := fun ad e => by
      have := hA1' ad e
      rw [hzx]
      exact ⟨by omega, this.2⟩
    clear hwx hb5 hn1 hb1 hbw1 hblk1 hdz hA1' hzx p0 p1 p2 p3
    clear q3 q4 Hbeh Hlast hdn hli hws hne
    obtain ⟨fI', hfI⟩ : ∃ f : Nat → Prop, f = fun k => fI k ∧ k < w.heap.size := ⟨_, rfl⟩
    have hI' : Imp w fI' gd S l := by rw [hfI]; exact h.imp.mono (fun k hk hl => ⟨hk, hl⟩)
    have hfl : ∀ k, fI' k → fI k ∧ k < w.heap.size := by rw [hfI]; exact fun k hk => hk
    clear hfI
    have hgl := h.blk.lt
    have hsx := hbx.size
    have hrw := rows_any hT5.drew ((ht.ext hbx).drewN 1) (by have := h.hN; omega) (by omega)
    have q2x : wx.cell? ⟨g, 2, none⟩ = some (.pointer (some ⟨gd, 0, none⟩)) := cell_ext q2 hbx
    have Hrw := Lib.hid hrw
    have e1 : ((1 - slot : Nat) : Int) = 1 - (slot : Int) := by omega
    have hNN : ((N + 1 : Nat) : Int) = (N : Int) + 1 := by omega
    rw [hNN] at Hrw
    have hrsl : (packI ((N : Int) + 1) bs).length ≤ 16 := by
      unfold packI
      split
      · rw [packOf_length]; omega
      · simp
    have hcs : ∀ R, layTo S l (((1 - slot : Nat) : Int) * 16) (packI ((N : Int) + 1) bs) = R → commitS ⟨S, l, img, N, slot, false⟩ bs = if R.1 = 0 then (0, ⟨R.2.1, R.2.2, bs, N + 1, 1 - slot, false⟩) else (R.1, ⟨R.2.1, R.2.2, img, N, slot, true⟩) := by
      rintro R rfl
      unfold commitS
      rw [if_neg (by simp), if_neg (by intro h; rcases h with h | h; omega; exact hN h)]
    have hwrs : ∀ (w2 : World) (A2 : Option Addr) (c2 : Nat), Below w.heap.size w w2 → RowsF (fun k => k < wx.heap.size) w2 A2 (packI ((N : Int) + 1) bs) → Calls Tryz.prog 83 #[.pointer (some ⟨gd, 0, none⟩), .int .i64 (1 - (slot : Int)), .slice A2 (packI ((N : Int) + 1) bs).length c2] w2 fun e w3 =>
        ∃ R, layTo S l (((1 - slot : Nat) : Int) * 16) (packI ((N : Int) + 1) bs) = R ∧ e = .returned (.int .i64 R.1) ∧ Imp w3 (More fI' w2 w3) gd R.2.1 R.2.2 ∧ Only fI' w2 w3 := fun w2 A2 c2 hb2 hr2 => by
      have h1 := writeslot_any (hI'.ext hb2) hs (1 - slot) (by omega) A2 _ c2 _ rfl (hr2.weak (fun k hk => by have := (hfl k hk).2; omega)) hrsl
      rw [e1] at h1
      refine h1.mono ?_
      rintro e w3 ⟨rfl, h2, h3⟩
      rw [e1]
      exact ⟨_, rfl, rfl, h2, h3⟩
    have Hwrs := Lib.hid hwrs
    have Hcs := Lib.hid hcs
    clear hrw hwrs hcs hNN e1
    generalize packI ((N : Int) + 1) bs = rs at *
    go_wp2
    go_region_held3 (fun w' => w'.cell? ⟨g, 2, none⟩ = some (.pointer (some ⟨gd, 0, none⟩))) (first | exact q2x | exact hS2 | exact hS3) (first
      | (go_at_call 136; ((with_reducible refine Hrw.out.mono ?_)); rintro e w2 ⟨A2, c2, rfl, hl2, hr2, hb2⟩; have hS2 : w2.cell? ⟨g, 2, none⟩ = some (.pointer (some ⟨gd, 0, none⟩)) := cell_ext (w := wx.drew) q2x hb2)
      | (go_at_call 83; ((with_reducible refine (Hwrs.out _ _ _ ?_ ?_).mono ?_)); exact ext_trans (ext_drew hbx) hb2; exact hr2; rintro e w3 ⟨R, hR, rfl, hI3, ho3⟩; have hS3 : w3.cell? ⟨g, 2, none⟩ = some (.pointer (some ⟨gd, 0, none⟩)) := (World.cell?_of_block (ho3.block g (World.block_lt_of_cell? _ _ hS2) (fun hk => h.ng (hfl _ hk).1))).trans hS2))
    obtain ⟨r1, S2, l2⟩ := R
    have hs2 := hb2.size
    have hs3 := ho3.size
    have hng : ¬ fI' g := fun hk => h.ng (hfl _ hk).1
    have hblk3 : Blk w3 g 148 #[.int .i64 (N : Int), .slice A img.length c, .pointer (some ⟨gd, 0, none⟩), .int .i64 (slot : Int), .bool false] := ((h.blk.ext (ext_drew hbx)).ext hb2).only ho3 hng
    have hb2w : Below w.heap.size w w2 := ext_trans (ext_drew hbx) hb2
    have hT2 := hT5.drew.ext hb2
    have hn5 : ¬ fI' b5 := fun hk => by have := (hfl _ hk).2; omega
    have t0 : w3.cell? ⟨b5, 0, none⟩ = some (.int .i64 ((N : Int) + 1)) := (World.cell?_of_block (ho3.block b5 (by have : wx.drew.heap.size = wx.heap.size := rfl; omega) hn5)).trans hT2.1
    have t1 : w3.cell? ⟨b5, 1, none⟩ = some (.slice A1 bs.length c1) := (World.cell?_of_block (ho3.block b5 (by have : wx.drew.heap.size = wx.heap.size := rfl; omega) hn5)).trans hT2.2.1
    have hbs3 : Bs w3 A1 bs.length c1 bs := ⟨rfl, hT2.2.2.2.1, hT2.2.2.2.2.only ho3 (fun ad e _ hk => by have := (hfl _ hk).2; have := (hA1 ad e).1; omega)⟩
    have hng3 : ¬ More fI' w2 w3 g := fun hk => by
      rcases hk with hk | hk
      · exact hng hk
      · have := hk.1
        have : wx.drew.heap.size = wx.heap.size := rfl
        omega
    have hO3 : Only fp w w3 := (Only.of_ext (S := fp) hb2w).trans ho3 (fun k _ hk => h.sub k (hfl k hk).1)
    have hsub : ∀ (W : World), w3.heap.size ≤ W.heap.size → ∀ k, More fI' w2 w3 k → More fp w W k := fun W hW k hk => by
      rcases hk with hk | hk
      · exact .inl (h.sub k (hfl k hk).1)
      · exact .inr ⟨by have := hb2w.size; omega, by omega⟩
    have hgood : Committed w fp g gd ⟨S, l, img, N, slot, false⟩ bs (.returned (.int .i64 r1)) (if r1 = 0 then ((w3.setCell ⟨g, 0, none⟩ (.int .i64 ((N : Int) + 1))).setCell ⟨g, 1, none⟩ (.slice A1 bs.length c1)).setCell ⟨g, 3, none⟩ (.int .i64 (1 - (slot : Int))) else w3.setCell ⟨g, 4, none⟩ (.bool true)) := by
      have hc := Hcs.out _ hR
      dsimp only at hc
      have e1 : ((1 - slot : Nat) : Int) = 1 - (slot : Int) := by have := h.hs; omega
      by_cases h0 : r1 = 0
      · rw [if_pos h0] at hc ⊢
        have hsz : (((w3.setCell ⟨g, 0, none⟩ (.int .i64 ((N : Int) + 1))).setCell ⟨g, 1, none⟩ (.slice A1 bs.length c1)).setCell ⟨g, 3, none⟩ (.int .i64 (1 - (slot : Int)))).heap.size = w3.heap.size := by simp [World.setCell]
        have hog : Only (fun k => k = g) w3 (((w3.setCell ⟨g, 0, none⟩ (.int .i64 ((N : Int) + 1))).setCell ⟨g, 1, none⟩ (.slice A1 bs.length c1)).setCell ⟨g, 3, none⟩ (.int .i64 (1 - (slot : Int)))) :=
          (((Only.refl (fun k => k = g) w3).setCell (p := ⟨g, 0, none⟩) (.inl rfl) _).setCell (p := ⟨g, 1, none⟩) (.inl rfl) _).setCell (p := ⟨g, 3, none⟩) (.inl rfl) _
        have hput := ((hblk3.put 0 (.int .i64 ((N : Int) + 1))).put 1 (.slice A1 bs.length c1)).put 3 (.int .i64 (1 - (slot : Int)))
        refine ⟨by rw [hc, h0], ?_, hO3.trans hog (fun k _ hk => by rw [hk]; exact h.fg)⟩
        rw [hc]
        refine ⟨More fI' w2 w3, A1, c1, ?_⟩
        exact {
          imp := hI3.only hog (fun k hk e => hng3 (e ▸ hk))
          sub := hsub _ (by rw [hsz]; exact Nat.le_refl _)
          fg := .inl h.fg
          ng := hng3
          blk := by
            rw [e1]
            exact hput
          bs := ⟨rfl, hbs3.2.1, hbs3.2.2.only hog (fun ad e _ hk => by have := (hA1 ad e).1; omega)⟩
          fA := fun ad e => by
            have h1 := hA1 ad e
            have hdx : wx.drew.heap.size = wx.heap.size := rfl
            refine ⟨.inr ⟨h1.1, by rw [hsz]; omega⟩, fun hk => ?_, by omega, by rw [hsz]; omega⟩
            rcases hk with hk | hk
            · have := (hfl _ hk).2; omega
            · have := hk.1; omega
          hN := by have := h.hN; show N + 1 ≤ _; omega
          hs := by show 1 - slot ≤ 1; omega
          hi := hbl }
      · rw [if_neg h0] at hc ⊢
        have hsz : (w3.setCell ⟨g, 4, none⟩ (.bool true)).heap.size = w3.heap.size := by simp [World.setCell]
        have hog : Only (fun k => k = g) w3 (w3.setCell ⟨g, 4, none⟩ (.bool true)) := (Only.refl (fun k => k = g) w3).setCell (p := ⟨g, 4, none⟩) (.inl rfl) _
        have hput := hblk3.put 4 (.bool true)
        refine ⟨by rw [hc], ?_, hO3.trans hog (fun k _ hk => by rw [hk]; exact h.fg)⟩
        rw [hc]
        refine ⟨More fI' w2 w3, A, c, ?_⟩
        exact {
          imp := hI3.only hog (fun k hk e => hng3 (e ▸ hk))
          sub := hsub _ (by rw [hsz]; exact Nat.le_refl _)
          fg := .inl h.fg
          ng := hng3
          blk := hput
          bs := ⟨rfl, h.bs.2.1, (((h.bs.2.2.ext hb2w).only ho3 (fun ad e _ hk => (h.fA ad e).2.1 (hfl _ hk).1)).only hog (fun ad e _ hk => (h.fA ad e).2.2.1 hk))⟩
          fA := fun ad e => by
            have h1 := h.fA ad e
            have hdx : wx.drew.heap.size = wx.heap.size := rfl
            refine ⟨.inl h1.1, fun hk => ?_, h1.2.2.1, by rw [hsz]; omega⟩
            rcases hk with hk | hk
            · exact h1.2.1 (hfl _ hk).1
            · have := hk.1; omega
          hN := h.hN
          hs := h.hs
          hi := h.hi }
    have Hgood := Lib.hid hgood
    have k0 := hblk3.cell 0
    have k1 := hblk3.cell 1
    have k3 := hblk3.cell 3
    have k4 := hblk3.cell 4
    have f0 := hblk3.free 0
    have f1 := hblk3.free 1
    have f3 := hblk3.free 3
    have f4 := hblk3.free 4
    simp only [List.getElem?_toArray, List.getElem?_cons_zero, List.getElem?_cons_succ] at k0 k1 k3 k4
    have hw3 : w3.cell? ⟨g, 2, none⟩ = some (.pointer (some ⟨gd, 0, none⟩)) := hS3
    clear hgood hsub hO3 hng3 hbs3 hT2 hT5 hI3 ho3 hb2 hbx hR Hcs Hwrs Hrw hblk3 hA1 hfl hI' hs2 hs3 hsx hlt5 hgl hng hn5 hb2w hr2 hrsl hl2 hS2 q2x hB h hN hs
    by_cases h0 : r1 = 0
    · subst h0
      have Hg := Hgood.out
      rw [if_pos rfl] at Hg
      have HG := Lib.hid Hg
      clear Hgood Hg
      go_wp2
      go_ret
      exact HG.out
    · have hb0 : (r1 == 0) = false := beq_eq_false_iff_ne.2 h0
      have Hg := Hgood.out
      rw [if_neg h0] at Hg
      have HG := Lib.hid Hg
      clear Hgood Hg h0
      go_wp2
      go_ret
      exact HG.out
end Go.Proofs.YtdpmfcifgimleaaGreatDoor
