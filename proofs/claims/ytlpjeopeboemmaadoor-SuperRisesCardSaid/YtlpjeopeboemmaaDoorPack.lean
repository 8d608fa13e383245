/-
  The contract of super's Pack. No statement of the seat is proved here.
-/
import Derived.Test.YtlpjeopeboemmaaDoorNumb
namespace Go.Proofs.YtlpjeopeboemmaaDoor
open Go Go.RowKit

/-- bytes that lie somewhere, as an argument -/
def Bs (W : World) (A : Option Addr) (n c : Nat) (xs : List UInt8) : Prop := n = xs.length ∧ xs.length ≤ c ∧ Rd W A (xs.map bv)
theorem Bs.ext {W W' : World} {A : Option Addr} {n c : Nat} {xs : List UInt8} (h : Bs W A n c xs) (hb : Below W.heap.size W W') : Bs W' A n c xs := ⟨h.1, h.2.1, h.2.2.ext hb⟩
theorem Bs.drew {W : World} {A : Option Addr} {n c : Nat} {xs : List UInt8} (h : Bs W A n c xs) : Bs W.drew A n c xs := h
theorem Bs.drewN {W : World} {A : Option Addr} {n c : Nat} {xs : List UInt8} (h : Bs W A n c xs) (q : Nat) : Bs (W.drewN q) A n c xs := h
theorem Bs.alloc {W : World} {A : Option Addr} {n c : Nat} {xs : List UInt8} (h : Bs W A n c xs) (o : Obj) : Bs (W.alloc o) A n c xs := ⟨h.1, h.2.1, h.2.2.alloc o⟩
theorem New.bs {w W : World} {A : Option Addr} {c : Nat} {xs : List UInt8} (h : New w W A c xs) : Bs W A xs.length c xs := by
  have h1 := Own.cap h
  rw [List.length_map] at h1
  exact ⟨rfl, h1, h.rd⟩
theorem New.bs' {w W : World} {A : Option Addr} {n c : Nat} {xs : List UInt8} (h : New w W A c xs) (hn : n = xs.length) : Bs W A n c xs := by subst hn; exact h.bs
theorem Bs.blk {W : World} {g : Nat} {bs : List UInt8} (h : Blk W g 5 (bs.map bv).toArray) : Bs W (some ⟨g, 0, none⟩) bs.length bs.length bs := ⟨rfl, Nat.le_refl _, Rd.blk h⟩

theorem Blk.new_at (w : World) (t : TypeId) (cs : Array Value) {g : Nat} (hg : g = w.heap.size) : Blk (w.alloc (.cells cs t)) g t cs := by subst hg; exact Blk.new w t cs
theorem Bs.zeros {W : World} {g t : Nat} (h : Blk W g 5 (Array.replicate t (bv 0))) : Bs W (some ⟨g, 0, none⟩) t t (List.replicate t 0) := by
  refine ⟨by simp, by simp, ?_⟩
  have := Rd.blk h
  simpa using this
theorem Bs.byte {W : World} {g k : Nat} (hk : k < 256) (h : Blk W g 5 #[.int .u8 (k : Int)]) : Bs W (some ⟨g, 0, none⟩) 1 1 [k.toUInt8] := by
  refine ⟨rfl, Nat.le_refl _, ?_⟩
  have h1 := Rd.blk h
  have e : bv k.toUInt8 = .int .u8 (k : Int) := by unfold bv; rw [toUInt8_toNat, Nat.mod_eq_of_lt hk]
  rw [List.map_cons, List.map_nil, e]
  exact h1
/-- a part of bytes -/
theorem Bs.part {W : World} {ad : Addr} {n c d i m : Nat} {xs : List UInt8} (h : Bs W (some ad) n c xs) (hm : d = min m (xs.length - i)) (j : Nat) (hj : j = c - i) (hi : i ≤ xs.length) : Bs W (some (ad.add i)) d j ((xs.drop i).take m) := by
  obtain ⟨rfl, h2, h3⟩ := h
  refine ⟨by rw [List.length_take, List.length_drop]; exact hm, by rw [List.length_take, List.length_drop]; omega, ?_⟩
  rw [List.map_take, List.map_drop]
  exact (h3.add i).take m
theorem ext_alloc {a b : World} (h : Below a.heap.size a b) (o : Obj) : Below a.heap.size a (b.alloc o) := h.alloc h.size o
theorem ext_drew {a b : World} (h : Below a.heap.size a b) : Below a.heap.size a b.drew := Below.drew' h
theorem RowsF.blk {W : World} {g : Nat} {t : TypeId} {vs : List Value} {xss : List (List UInt8)} (hblk : Blk W g t vs.toArray) (hlen : vs.length = xss.length)
    (h : ∀ (j : Nat) (v : Value) (xs : List UInt8), vs[j]? = some v → xss[j]? = some xs → ∃ B c, v = .slice B xs.length c ∧ xs.length ≤ c ∧ Rd W B (xs.map bv)) : RowsF (fun _ => False) W (some ⟨g, 0, none⟩) xss :=
  ⟨vs, RdF.of (Rd.blk hblk), hlen, fun j v xs hv hx => by
    obtain ⟨B, c, e, hc, hr⟩ := h j v xs hv hx
    exact ⟨B, c, e, hc, RdF.of hr⟩⟩

/-- Join of a literal of three, of two, of one -/
theorem join3 {W : World} {g : Nat} {A1 A2 A3 : Option Addr} {n1 c1 n2 c2 n3 c3 : Nat} (xs1 xs2 xs3 bs : List UInt8) {n : Nat} (hbs : xs1 ++ xs2 ++ xs3 = bs) (hn : n = bs.length) (hblk : Blk W g 22 #[.slice A1 n1 c1, .slice A2 n2 c2, .slice A3 n3 c3])
    (h1 : Bs W A1 n1 c1 xs1) (h2 : Bs W A2 n2 c2 xs2) (h3 : Bs W A3 n3 c3 xs3) (hb : n ≤ 100000) :
    Calls Tryd.prog 52 #[.slice (some ⟨g, 0, none⟩) 3 3] W fun e w' => ∃ A' c', e = .returned (.slice A' n c') ∧ New W w' A' c' bs ∧ Below W.heap.size W w' := by
  obtain ⟨rfl, l1, r1⟩ := h1
  obtain ⟨rfl, l2, r2⟩ := h2
  obtain ⟨rfl, l3, r3⟩ := h3
  subst hn
  exact join_any _ 3 3 [xs1, xs2, xs3] _ W rfl (by rw [← hbs]; simp) (RowsF.blk (vs := [.slice A1 xs1.length c1, .slice A2 xs2.length c2, .slice A3 xs3.length c3]) hblk rfl (by
    intro j v xs hv hx
    match j, hv, hx with
    | 0, hv, hx => simp at hv hx; subst hv hx; exact ⟨_, _, rfl, l1, r1⟩
    | 1, hv, hx => simp at hv hx; subst hv hx; exact ⟨_, _, rfl, l2, r2⟩
    | 2, hv, hx => simp at hv hx; subst hv hx; exact ⟨_, _, rfl, l3, r3⟩)) (by omega) (by simp)
theorem join2 {W : World} {g : Nat} {A1 A2 : Option Addr} {n1 c1 n2 c2 : Nat} (xs1 xs2 bs : List UInt8) {n : Nat} (hbs : xs1 ++ xs2 = bs) (hn : n = bs.length) (hblk : Blk W g 22 #[.slice A1 n1 c1, .slice A2 n2 c2])
    (h1 : Bs W A1 n1 c1 xs1) (h2 : Bs W A2 n2 c2 xs2) (hb : n ≤ 100000) :
    Calls Tryd.prog 52 #[.slice (some ⟨g, 0, none⟩) 2 2] W fun e w' => ∃ A' c', e = .returned (.slice A' n c') ∧ New W w' A' c' bs ∧ Below W.heap.size W w' := by
  obtain ⟨rfl, l1, r1⟩ := h1
  obtain ⟨rfl, l2, r2⟩ := h2
  subst hn
  exact join_any _ 2 2 [xs1, xs2] _ W rfl (by rw [← hbs]; simp) (RowsF.blk (vs := [.slice A1 xs1.length c1, .slice A2 xs2.length c2]) hblk rfl (by
    intro j v xs hv hx
    match j, hv, hx with
    | 0, hv, hx => simp at hv hx; subst hv hx; exact ⟨_, _, rfl, l1, r1⟩
    | 1, hv, hx => simp at hv hx; subst hv hx; exact ⟨_, _, rfl, l2, r2⟩)) (by omega) (by simp)
theorem join1 {W : World} {g : Nat} {A1 : Option Addr} {n1 c1 : Nat} (xs1 : List UInt8) (hblk : Blk W g 22 #[.slice A1 n1 c1])
    (h1 : Bs W A1 n1 c1 xs1) (hb : xs1.length ≤ 100000) :
    Calls Tryd.prog 52 #[.slice (some ⟨g, 0, none⟩) 1 1] W fun e w' => ∃ A' c', e = .returned (.slice A' xs1.length c') ∧ New W w' A' c' xs1 ∧ Below W.heap.size W w' := by
  obtain ⟨rfl, l1, r1⟩ := h1
  exact join_any _ 1 1 [xs1] _ W rfl (by simp) (RowsF.blk (vs := [.slice A1 xs1.length c1]) hblk rfl (by
    intro j v xs hv hx
    match j, hv, hx with
    | 0, hv, hx => simp at hv hx; subst hv hx; exact ⟨_, _, rfl, l1, r1⟩)) (by omega) (by simp)
theorem sum1 {W : World} {g : Nat} {A1 : Option Addr} {n1 c1 : Nat} (xs1 : List UInt8) (ht : Tab W) (hblk : Blk W g 22 #[.slice A1 n1 c1])
    (h1 : Bs W A1 n1 c1 xs1) (hb : xs1.length ≤ 100000) :
    Calls Tryd.prog 54 #[.slice (some ⟨g, 0, none⟩) 1 1] W fun e w' => e = .returned (.int .u32 (sumOf xs1 : Int)) ∧ W = w' := by
  obtain ⟨rfl, l1, r1⟩ := h1
  exact sum_any _ 1 1 [xs1] _ W ht rfl (by simp) (RowsF.blk (vs := [.slice A1 xs1.length c1]) hblk rfl (by
    intro j v xs hv hx
    match j, hv, hx with
    | 0, hv, hx => simp at hv hx; subst hv hx; exact ⟨_, _, rfl, l1, r1⟩)) (by omega) (by simp)

/-! ### Rows of a list that is being made -/
/-- a block of 'N' slices, of which the first ones are these rows, in memory from 'B0' on -/
def RowsAt (B0 : Nat) (w : World) (g N : Nat) (xss : List (List UInt8)) : Prop :=
  ∃ cs, Blk w g 22 cs ∧ cs.size = N ∧ xss.length ≤ N ∧ ∀ (j : Nat) (xs : List UInt8), xss[j]? = some xs → ∃ B c, cs[j]? = some (.slice B xs.length c) ∧ xs.length ≤ c ∧ Rd w B (xs.map bv) ∧ ∀ ad, B = some ad → B0 ≤ ad.block ∧ ad.block ≠ g
theorem RowsAt.ext {B0 : Nat} {w w' : World} {g N : Nat} {xss : List (List UInt8)} (h : RowsAt B0 w g N xss) (hb : Below w.heap.size w w') : RowsAt B0 w' g N xss := by
  obtain ⟨cs, h1, h2, h3, h4⟩ := h
  refine ⟨cs, h1.ext hb, h2, h3, fun j xs hx => ?_⟩
  obtain ⟨B, c, e, hc, hr, hn⟩ := h4 j xs hx
  exact ⟨B, c, e, hc, hr.ext hb, hn⟩
theorem RowsAt.put {B0 : Nat} {w : World} {g N : Nat} {xss : List (List UInt8)} (h : RowsAt B0 w g N xss) (hN : xss.length < N) {B : Option Addr} {n c : Nat} {xs : List UInt8} (hx : Bs w B n c xs) (hn : ∀ ad, B = some ad → B0 ≤ ad.block ∧ ad.block ≠ g) :
    RowsAt B0 (w.setCell ⟨g, xss.length, none⟩ (.slice B n c)) g N (xss ++ [xs]) := by
  obtain ⟨rfl, hc, hr⟩ := hx
  obtain ⟨cs, h1, h2, h3, h4⟩ := h
  refine ⟨_, h1.put _ _, by simpa using h2, by simp; omega, fun j ys hy => ?_⟩
  rw [List.getElem?_append] at hy
  split at hy
  · rename_i hj
    obtain ⟨B', c', e, hc', hr', hn'⟩ := h4 j ys hy
    refine ⟨B', c', by rw [Array.getElem?_setIfInBounds_ne (by omega)]; exact e, hc', hr'.setCell (fun ad ea => (hn' ad ea).2) _, hn'⟩
  · rename_i hj
    have hj0 : j = xss.length := by
      have := (List.getElem?_eq_some_iff.1 hy).1
      simp at this; omega
    subst hj0
    simp at hy
    subst hy
    exact ⟨B, c, by rw [Array.getElem?_setIfInBounds_self]; simp; omega, hc, hr.setCell (fun ad e => (hn ad e).2) _, fun ad e => hn ad e⟩
theorem RowsAt.rowsF {B0 : Nat} {w : World} {g N : Nat} {xss : List (List UInt8)} (h : RowsAt B0 w g N xss) (hN : xss.length = N) (hg : B0 ≤ g) : RowsF (fun k => k < B0) w (some ⟨g, 0, none⟩) xss := by
  obtain ⟨cs, h1, h2, h3, h4⟩ := h
  refine ⟨cs.toList, ⟨Rd.blk h1, fun ad e _ => by injection e with e; subst e; exact Nat.not_lt.2 hg⟩, by rw [Array.length_toList]; omega, fun j v xs hv hx => ?_⟩
  obtain ⟨B, c, e, hc, hr, hn⟩ := h4 j xs hx
  rw [Array.getElem?_toList] at hv
  rw [e] at hv
  injection hv with hv
  exact ⟨B, c, hv.symm, hc, hr, fun ad ea _ => Nat.not_lt.2 (hn ad ea).1⟩

theorem info_rows : (Tryd.prog.info? 22).map (fun i => (i.zero, i.size, i.bytes)) = some (some (.slice none 0 0), 1, 24) := by kernel_rfl
theorem make_rows (W : World) : (Instr.makeSlice 50 (.int .i64 16) (.int .i64 16)).run Tryd.prog W =
    .ok (.slice (some ⟨W.heap.size, 0, none⟩) 16 16) (W.alloc (.cells (madeCells #[.slice none 0 0] 16) 22)) := by
  obtain ⟨i, hi, hz, hsz, hby⟩ := info_parts info_rows
  have hr := run_make (P := Tryd.prog) W 50 22 i _ Tryd.underlying50 hi hz .i64 .i64 16 16 (by omega) (by omega) (by rw [hby]; omega) (by omega)
  simp only [hsz] at hr
  exact hr
theorem RowsAt.new (B0 : Nat) (W : World) : RowsAt B0 (W.alloc (.cells (madeCells #[.slice none 0 0] 16) 22)) W.heap.size 16 [] :=
  ⟨_, Blk.new _ _ _, by simp [madeCells], by simp, fun j xs h => by simp at h⟩

theorem packOf_length (n : Nat) (img : List UInt8) : (packOf n img).length = 16 := by simp [packOf]
theorem pack_take (n k : Nat) (img : List UInt8) (h : k < 16) : (packOf n img).take (k + 1) = (packOf n img).take k ++ [rowOf n k img] := by
  rw [List.take_succ_eq_append_getElem (by rw [packOf_length]; exact h)]
  simp [packOf]
theorem borne_length {img : List UInt8} (h : img.length ≤ 814) : (borneOf img).length = 816 := by unfold borneOf; simp [lowB_length]; omega
theorem head_length {img : List UInt8} (h : img.length ≤ 814) {n k : Nat} (hk : k < 16) : (headOf n k img).length = 60 := by
  unfold headOf
  have := borne_length h
  simp [lowB_length]; omega
theorem row_length {img : List UInt8} (h : img.length ≤ 814) {n k : Nat} (hk : k < 16) : (rowOf n k img).length = 64 := by
  unfold rowOf
  rw [List.length_append, head_length h hk, lowB_length]

set_option maxRecDepth 100000 in
set_option maxHeartbeats 4000000 in
theorem pack_any (n : Int) (A : Option Addr) (m c : Nat) (img : List UInt8) (w : World) (ht : Tab w) (hn : isInt n) (hA : Bs w A m c img) (hi : img.length ≤ 1099511627776) :
    Calls Tryd.prog 23 #[.int .i64 n, .slice A m c] w fun e w' => ∃ A' c', e = .returned (.slice A' (packI n img).length c') ∧ (packI n img).length ≤ c' ∧ RowsF (fun k => k < w.heap.size) w' A' (packI n img) ∧ Below w.heap.size w w' := by
  by_cases hf : fits n img
  · obtain ⟨h1, h2, h3⟩ := hf
    have hA' := hA
    obtain ⟨rfl, hc, hr⟩ := hA'
    obtain ⟨k0, rfl⟩ : ∃ k : Nat, n = (k : Int) := ⟨n.toNat, by omega⟩
    have hp : packI (k0 : Int) img = packOf k0 img := by unfold packI; rw [if_pos ⟨h1, h2, h3⟩]; rfl
    have hpl := packOf_length k0 img
    rw [hp, hpl]
    clear hp
    have hmr := make_rows
    have hmb := make_b
    have hi1 : (1 : Int) ≤ (k0 : Int) := h1
    have hil : (img.length : Int) ≤ 814 := by omega
    have hlow : ∀ W : World, Calls Tryd.prog 53 #[.int .i64 (img.length : Int), .int .i64 2] W fun e w' => ∃ A' c', e = .returned (.slice A' 2 c') ∧ New W w' A' c' (lowB 2 img.length) ∧ Below W.heap.size W w' := fun W => lowfirst_any img.length 2 W (by omega) (by omega)
    have Hlow := Lib.hid hlow
    have hmz : ∀ W : World, (Instr.makeSlice 22 (.int .i64 (814 - (img.length : Int))) (.int .i64 (814 - (img.length : Int)))).run Tryd.prog W =
        .ok (.slice (some ⟨W.heap.size, 0, none⟩) (814 - img.length) (814 - img.length)) (W.alloc (.cells (Array.replicate (814 - img.length) (bv 0)) 5)) := fun W => by
      have := make_b W (814 - img.length) (by omega)
      rw [made_zeros, List.map_replicate, List.toArray_replicate] at this
      rw [show ((814 - img.length : Nat) : Int) = 814 - (img.length : Int) by omega] at this
      exact this
    have hws : IntKind.i64.wrap (814 - (img.length : Int)) = 814 - (img.length : Int) := by rw [IntKind.wrap_i64]; omega
    clear hlow hmb
    go_enter Tryd.func23, Tryd.ntmps23
    go_wp2
    go_region_held3 (fun _ => True) (trivial) (first
      | (go_at_call 53; ((with_reducible refine (Hlow.out _).mono ?_)); rintro e w1 ⟨A1, c1, rfl, hn1, hb1⟩)
      | (go_at_call 52; ((with_reducible refine (join3 (n := 816) (lowB 2 img.length) img (List.replicate (814 - img.length) 0) (borneOf img) rfl ?_ (Blk.new_at _ _ _ ?_) ?_ ?_ ?_ ?_).mono ?_));
          exact (borne_length h3).symm;
          simp;
          (first | exact ((New.bs' hn1 (lowB_length _ _).symm).alloc _).alloc _ | exact (New.bs' hn1 (lowB_length _ _).symm).alloc _);
          (first | exact ((hA.drew.ext hb1).alloc _).alloc _ | exact ((hA.alloc _).drew.ext hb1).alloc _);
          (first | exact (Bs.zeros (Blk.new_at _ _ _ rfl)).alloc _ | exact ((Bs.zeros (Blk.new_at _ _ _ rfl)).drew.ext hb1).alloc _);
          omega;
          rintro e w2 ⟨A2, c2, rfl, hn2, hb2⟩))
    all_goals
      have hB2 : Bs w2 A2 816 c2 (borneOf img) := hn2.bs' (borne_length h3).symm
      have hw2 : Below w.heap.size w w2 := by
        first
          | exact ext_trans (ext_alloc (ext_alloc (ext_trans (ext_drew (Below.refl _ w)) hb1) _) _) hb2
          | exact ext_trans (ext_alloc (ext_trans (ext_drew (ext_alloc (Below.refl _ w) _)) hb1) _) hb2
      clear hn2 hb2 hn1 hb1 hws hmz Hlow
      obtain ⟨q1, q2, hrd2⟩ := hB2
      obtain ⟨ad, rfl, -⟩ := hrd2.at_ (k := 0) (by rw [List.length_map, borne_length h3]; omega)
      rw [borne_length h3] at q2
      clear q1 hA hr hpl hil hi1
      go_wp2
      go_loopw [7, 33] (fun _ i wr => ∃ k : Nat, k ≤ 16 ∧ i = .int .i64 (k : Int) ∧ Below w2.heap.size w2 wr ∧ RowsAt w.heap.size wr w2.heap.size 16 ((packOf k0 img).take k)) (fun _ i _ => 16 - (intOf i).toNat)
      case atStart => exact ⟨0, by omega, rfl, ext_alloc (Below.refl _ _) _, RowsAt.new _ _⟩
      case round =>
        obtain ⟨k, hk, rfl, hbr, hrows⟩ := hrel
        by_cases hlt : k < 16
        · have hB : Bs wr (some ad) 816 c2 (borneOf img) := ⟨(borne_length h3).symm, by rw [borne_length h3]; exact q2, hrd2.ext hbr⟩
          have e1 : IntKind.i64.wrap ((k : Int) * 51) = (k : Int) * 51 := by rw [IntKind.wrap_i64]; omega
          have e2 : IntKind.i64.wrap ((k : Int) + 1) = (k : Int) + 1 := by rw [IntKind.wrap_i64]; omega
          have e3 : IntKind.i64.wrap (((k : Int) + 1) * 51) = ((k : Int) + 1) * 51 := by rw [IntKind.wrap_i64]; omega
          have e4 : IntKind.u8.wrap (k : Int) = (k : Int) := by rw [IntKind.wrap_u8]; omega
          have b1 : (0 : Int) ≤ (k : Int) * 51 := by omega
          have b2 : (k : Int) * 51 ≤ ((k : Int) + 1) * 51 := by omega
          have b3 : ((k : Int) + 1) * 51 ≤ (c2 : Int) := by omega
          have b5 : (0 : Int) ≤ ((k : Int) + 1) * 51 := by omega
          have b6 : (k : Int) ≤ 255 := by omega
          have b7 : (k : Int) ≤ (k : Int) + 1 := by omega
          have hk256 : k < 256 := by omega
          have hcne : ¬ c2 = k * 51 := by omega
          have hlow8 : ∀ W : World, Calls Tryd.prog 53 #[.int .i64 (k0 : Int), .int .i64 8] W fun e w' => ∃ A' c', e = .returned (.slice A' 8 c') ∧ New W w' A' c' (lowB 8 k0) ∧ Below W.heap.size W w' := fun W => lowfirst_any k0 8 W (by omega) (by omega)
          have Hlow8 := Lib.hid hlow8
          have t1 : ((k : Int) * 51).toNat = k * 51 := by omega
          have t2 : (((k : Int) + 1) * 51).toNat = (k + 1) * 51 := by omega
          clear hlow8
          go_wp2
          go_region_held3 (fun _ => True) (trivial) (first
            | (go_at_call 53; ((with_reducible refine (Hlow8.out _).mono ?_)); rintro e w3 ⟨A3, c3, rfl, hn3, hb3⟩)
            | (go_at_call 52; ((with_reducible refine (join3 (n := 60) (lowB 8 k0) [k.toUInt8] (((borneOf img).drop (k * 51)).take 51) (headOf k0 k img) rfl ?_ (Blk.new_at _ _ _ ?_) ?_ ?_ ?_ ?_).mono ?_));
                exact (head_length h3 hlt).symm;
                simp;
                (first | exact ((New.bs' hn3 (lowB_length _ _).symm).alloc _).alloc _ | exact (New.bs' hn3 (lowB_length _ _).symm).alloc _);
                (first | exact (Bs.byte hk256 (Blk.new_at _ _ _ rfl)).alloc _ | exact ((Bs.byte hk256 (Blk.new_at _ _ _ rfl)).drew.ext hb3).alloc _);
                (first | exact (((hB.drew.ext hb3).alloc _).alloc _).part (by rw [borne_length h3]; omega) _ rfl (by rw [borne_length h3]; omega) | exact (((hB.alloc _).drew.ext hb3).alloc _).part (by rw [borne_length h3]; omega) _ rfl (by rw [borne_length h3]; omega));
                omega;
                rintro e w4 ⟨A4, c4, rfl, hn4, hb4⟩))
          all_goals
            have hB4 : Bs w4 A4 60 c4 (headOf k0 k img) := hn4.bs' (head_length h3 hlt).symm
            have hw4 : Below wr.heap.size wr w4 := by
              first
                | exact ext_trans (ext_alloc (ext_alloc (ext_trans (ext_drew (Below.refl _ wr)) hb3) _) _) hb4
                | exact ext_trans (ext_alloc (ext_trans (ext_drew (ext_alloc (Below.refl _ wr) _)) hb3) _) hb4
            clear hn4 hb4 hn3 hb3 Hlow8 e1 e2 e3 e4 b1 b2 b3 b5 hcne t1 t2 hB
            have hs := sum1 (headOf k0 k img) ((((ht.ext hw2).ext hbr).ext hw4).alloc (.cells #[.slice A4 60 c4] 22)) (Blk.new_at w4 22 #[.slice A4 60 c4] rfl) (hB4.alloc _) (by rw [head_length h3 hlt]; omega)
            have hslt := sumOf_lt (headOf k0 k img)
            have hslt' : (sumOf (headOf k0 k img) : Int) ≤ 4294967295 := by omega
            have hrow : headOf k0 k img ++ lowB 4 (sumOf (headOf k0 k img)) = rowOf k0 k img := rfl
            have Hrow := Lib.hid hrow
            have Hs := Lib.hid hs
            clear hs hrow
            generalize sumOf (headOf k0 k img) = s at *
            go_wp2_with fail
            refine Hs.out.mono ?_
            rintro e w5 ⟨rfl, rfl⟩
            go_wp2_with fail
            refine (lowfirst_any s 4 _ (by omega) (by omega)).mono ?_
            rintro e w5 ⟨A5, c5, rfl, hn5, hb5⟩
            have hw5 : Below wr.heap.size wr w5 := ext_trans (ext_alloc hw4 _) hb5
            go_wp2_with fail
            refine (join2 (n := 64) (headOf k0 k img) (lowB 4 s) (rowOf k0 k img) Hrow.out (row_length h3 hlt).symm (Blk.new_at _ _ _ rfl) (((hB4.alloc _).ext hb5).alloc _) ((hn5.bs' (lowB_length _ _).symm).alloc _) (by omega)).mono ?_
            rintro e w6 ⟨A6, c6, rfl, hn6, hb6⟩
            have hw6 : Below wr.heap.size wr w6 := ext_trans (ext_alloc hw5 _) hb6
            have hB6 : Bs w6 A6 64 c6 (rowOf k0 k img) := hn6.bs' (row_length h3 hlt).symm
            have hrows6 := hrows.ext hw6
            have hlen : ((packOf k0 img).take k).length = k := by rw [List.length_take, packOf_length]; omega
            have hsz5 := hw5.size
            have hszr := hbr.size
            have hnew6 : ∀ ad, A6 = some ad → w.heap.size ≤ ad.block ∧ ad.block ≠ w2.heap.size := fun ad e => by
              have h1 := (hn6.2 ad e).1
              have h2 := hw2.size
              have h4 : w2.heap.size < wr.heap.size := by
                obtain ⟨cs, hcs, _⟩ := hrows
                exact hcs.lt
              rw [World.size_alloc] at h1
              omega
            have hput := RowsAt.put hrows6 (by rw [hlen]; omega) hB6 hnew6
            rw [hlen, ← pack_take k0 k img hlt] at hput
            obtain ⟨cs, hcs, hcsz, -⟩ := hrows6
            obtain ⟨v6, hcell⟩ : ∃ v, w6.cell? ⟨w2.heap.size, k, none⟩ = some v := ⟨cs[k], by rw [hcs.cell, Array.getElem?_eq_getElem]⟩
            have hfree := hcs.free k
            have hbr6 : Below w2.heap.size w2 (w6.setCell ⟨w2.heap.size, k, none⟩ (.slice A6 64 c6)) := (ext_trans hbr hw6).setCell (Nat.le_refl _) _
            have Hput := Lib.hid hput
            clear hput hn6 hb6 hB6 hnew6 hrows hn5 hb5 hB4 Hs Hrow hslt hlen hcsz hsz5 hszr
            go_wp2
            go_roundw
            case rel => exact ⟨k + 1, by omega, by go_num, hbr6, Hput.out⟩
            case measure => simp [intOf]; omega
        · obtain rfl : k = 16 := by omega
          have hfin := hrows.rowsF (by rw [List.length_take, packOf_length]; omega) hw2.size
          rw [List.take_of_length_le (by rw [packOf_length]; omega)] at hfin
          have Hfin := Lib.hid hfin
          have hbel := ext_trans hw2 hbr
          clear hfin hrows
          go_wp2
          go_ret
          exact ⟨_, 16, rfl, Nat.le_refl _, Hfin.out, hbel⟩
  · have hp : packI n img = [] := by unfold packI; rw [if_neg hf]
    rw [hp]
    obtain ⟨rfl, hc, hr⟩ := hA
    unfold isInt at hn
    have hcase : n < 1 ∨ (1 ≤ n ∧ 1125899906842624 < n) ∨ (1 ≤ n ∧ n ≤ 1125899906842624 ∧ (814 : Int) < (img.length : Int)) := by
      unfold fits at hf
      omega
    clear hf hp
    have hil : (img.length : Int) ≤ 1099511627776 := by omega
    rcases hcase with h | ⟨h, h'⟩ | ⟨h, h', h''⟩
    all_goals
      go_enter Tryd.func23, Tryd.ntmps23
      go_wp2
      go_ret
      exact ⟨none, 0, rfl, Nat.le_refl _, ⟨[], ⟨Rd.nil _ _, fun ad e => by cases e⟩, rfl, fun j v xs h => by simp at h⟩, Below.refl _ _⟩
end Go.Proofs.YtlpjeopeboemmaaDoor
