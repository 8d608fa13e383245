/-
  Texts of this claim, joined (part 4): contracts and lemmas that the last text goes by. No statement of the seat is proved here.
-/
import Derived.Test.YtdpmfcifgimleaaGreatDoorAll3
import Derived.Lib.Bytealg
import Derived.Sort.Statements
import Derived.IntWalk
import Derived.RangeFuncBox
import Derived.RangeFuncLeaves
import Derived.RangeFuncWrites
import Derived.Shelf.Abstract
import Derived.WalkKit
import Derived.OwnWalkIn
import Derived.TacticsInMore
import Derived.LoopNIn
import Derived.LoopIn
import Derived.Maps.AppendAt
import Derived.Sort.QuietIn
import Derived.Shelf.Small.Strs
import Derived.Shelf.Small.Wraps
import Derived.Shelf.Sort.Plain
import Derived.Shelf.Slices.In.SortNone
import Derived.Shelf.Spec.SearchS
import Derived.Shelf.SlSortCmp.WholeK
import Derived.Shelf.SlSortCmp.NoneTotal
import Derived.Ground.SlsfProg
import Derived.Ground.NamesProg
import Derived.Ground.Names2Prog
import Derived.Test.YtdpmfcifgimleaaGreatDoorProg
set_option linter.unusedVariables false
set_option linter.unusedSimpArgs false
/-
  Entries in memory; the contracts of mark, Owner, freeSectors, Free, Names. No statement of the seat is proved here.
-/
namespace Go.Proofs.YtdpmfcifgimleaaGreatDoor
open Go Go.RowKit

/-! ### rows of strings -/
theorem info_str : (Tryz.prog.info? 9).map (fun i => (i.zero, i.size, i.bytes)) = some (some (.string ⟨#[]⟩), 1, 16) := by kernel_rfl
theorem strs_one (l : List (List UInt8)) : ∀ u ∈ l.map strV, u.oneCell' = true := fun u hu => by
  obtain ⟨x, _, rfl⟩ := List.mem_map.1 hu; rfl

theorem RowO.there {w : World} {e : TypeId} {sz : Nat} {g o m c : Nat} {xs : List Value} (h : RowO w e sz (some ⟨g, o, none⟩) m c xs) {j : Nat} (hj : j < xs.length) : ∃ u, w.cell? ⟨g, o + j, none⟩ = some u := by
  obtain ⟨ad, e, hc⟩ := h.rd.at_ hj
  injection e with e
  subst e
  rw [Addr.add_mid] at hc
  exact ⟨_, hc⟩
/-- the first k of a row's cells from b on are marked -/
theorem markL_set (l : List (List UInt8)) (b k : Nat) (s : List UInt8) (h : b + k < l.length) : (markL l (b, k) s).set (b + k) s = markL l (b, k + 1) s := by
  refine List.ext_getElem (by simp [markL_length]) fun i h1 h2 => ?_
  rw [List.getElem_set]
  have e : ∀ n (hh : i < (markL l (b, n) s).length), (markL l (b, n) s)[i] = if b ≤ i ∧ i < b + n then s else l[i]'(by rw [markL_length] at hh; exact hh) := fun n hh => by simp [markL]
  rw [e, e]
  split
  · rw [if_pos (by omega)]
  · by_cases hc : b ≤ i ∧ i < b + k
    · rw [if_pos hc, if_pos (by omega)]
    · rw [if_neg hc, if_neg (by omega)]
theorem markL_zero (l : List (List UInt8)) (b : Nat) (s : List UInt8) : markL l (b, 0) s = l := by
  refine List.ext_getElem (by simp [markL_length]) fun i h1 h2 => ?_
  simp only [markL, List.getElem_mapIdx]
  rw [if_neg (by omega)]

set_option maxRecDepth 100000 in
set_option maxHeartbeats 1000000 in
theorem mark_any (b n : Nat) (A : Option Addr) (m c : Nat) (l : List (List UInt8)) (s : List UInt8) (w w0 : World) (hN : NewO w0 w 9 1 A m c (l.map strV)) (hm : m = l.length) (hb : b + n ≤ l.length) (hl : l.length ≤ 1000000) :
    Calls Tryz.prog 72 #[extV (b, n), .slice A m c, strV s] w fun e w' => e = .returned (.tuple #[]) ∧ NewO w0 w' 9 1 A m c ((markL l (b, n) s).map strV) ∧ Only (inA A) w w' := by
  subst hm
  have hend : ∀ W, Calls Tryz.prog 132 #[.agg #[.int .i64 (b : Int), .int .i64 (n : Int)]] W fun e w' => e = .returned (.int .i64 ((b + n : Nat) : Int)) ∧ Below W.heap.size W w' := fun W => end_any (b, n) W (by dsimp only; omega) (by dsimp only; omega)
  obtain ⟨E, hE⟩ : ∃ E, b + n = E := ⟨_, rfl⟩
  rw [hE] at hend hb
  have HE := Lib.hid hE
  have hmin : min (E : Int) (l.length : Int) = (E : Int) := by omega
  have hli : (l.length : Int) ≤ 1000000 := by omega
  have hEl : (E : Int) ≤ (l.length : Int) := by omega
  clear hE
  unfold extV iv
  dsimp only
  obtain ⟨S, hS⟩ : ∃ S, strV s = .string S := ⟨_, rfl⟩
  have HS := Lib.hid hS
  rw [hS]
  clear hS
  go_enter Tryz.func72, Tryz.ntmps72
  go_wp2
  go_loopw [6] (fun i w1 => ∃ (k : Nat), b ≤ k ∧ k ≤ E ∧ i = .int .i64 (k : Int) ∧ NewO w0 w1 9 1 A l.length c ((markL l (b, k - b) s).map strV) ∧ Only (inA A) w w1 ∧ Blk w1 w.heap.size 128 #[.int .i64 (b : Int), .int .i64 (n : Int)]) (fun i _ => E - (intOf i).toNat)
  case atStart => exact ⟨b, Nat.le_refl _, by have := HE.out; omega, rfl, by rw [Nat.sub_self, markL_zero]; exact hN.ext (ext_alloc (Below.refl _ _) _), Only.of_ext (ext_alloc (Below.refl _ _) _), Blk.new _ _ _⟩
  case round =>
    obtain ⟨k, hk0, hk, rfl, hN1, ho1, hB1⟩ := hrel
    have d0 : wr.cell? ⟨w.heap.size, 0, none⟩ = some (.int .i64 (b : Int)) := hB1.cell 0
    have d1 : wr.cell? ⟨w.heap.size, 1, none⟩ = some (.int .i64 (n : Int)) := hB1.cell 1
    by_cases hlt : k < E
    · go_wp2_with fail
      refine (hend _).mono ?_
      rintro e w2 ⟨rfl, hb2⟩
      have hN2 := hN1.ext hb2
      have hki : (k : Int) < (l.length : Int) := by omega
      obtain ⟨g, o, rfl⟩ := hN2.row.addr (by omega)
      have hfr := hN2.row.free (o + k)
      obtain ⟨u0, hthere⟩ := hN2.row.there (j := k) (by simp [markL_length]; omega)
      have hne := hN1.row.ne_blk hB1 (by decide)
      rw [inA_some] at hne
      have hB2 : Blk w2 w.heap.size 128 #[.int .i64 (b : Int), .int .i64 (n : Int)] := hB1.ext hb2
      go_wp2
      have hN3 := hN2.set k (by simp [markL_length]; omega) (.string S)
      have hcx : ((markL l (b, k - b) s).map strV).set k (.string S) = (markL l (b, k + 1 - b) s).map strV := by
        rw [← HS.out, ← List.map_set]
        have := markL_set l b (k - b) s (by omega)
        rw [show b + (k - b) = k by omega, show k - b + 1 = k + 1 - b by omega] at this
        rw [this]
      rw [hcx] at hN3
      go_roundw
      case rel =>
        refine ⟨k + 1, by omega, by omega, by go_num, hN3, ((ho1.trans (Only.of_ext (S := inA (some ⟨g, o, none⟩)) hb2) (fun _ _ h => h)).setCell (.inl ((inA_some _ _ _ _).2 rfl)) _), hB2.far (p := ⟨g, o + k, none⟩) (fun h => hne h.symm) _⟩
      case measure => simp [intOf]; omega
    · obtain rfl : k = E := by omega
      go_wp2_with fail
      refine (hend _).mono ?_
      rintro e w2 ⟨rfl, hb2⟩
      have hN2 := hN1.ext hb2
      go_wp2
      go_end0
      have hkb : k - b = n := by have := HE.out; omega
      rw [hkb] at hN2
      exact ⟨rfl, hN2, ho1.trans (Only.of_ext (S := inA A) hb2) (fun _ _ h => h)⟩

/-! ### entries in memory -/
structure Raw where
  e : Ent
  A : Option Addr
  c : Nat
  deriving Inhabited
def encR (r : Raw) : List Value := [strV r.e.name, iv (r.e.len : Int), iv (r.e.sum : Int), .slice r.A r.e.ext.length r.c]
def cellsR (l : List Raw) : List Value := l.flatMap encR
theorem encR_length (r : Raw) : (encR r).length = 4 := rfl
theorem encR_one (r : Raw) : ∀ v ∈ encR r, v.oneCell' = true := fun v hv => by
  simp [encR, iv, strV] at hv
  rcases hv with rfl | rfl | rfl | rfl <;> rfl
theorem cellsR_length (l : List Raw) : (cellsR l).length = l.length * 4 := by
  induction l with
  | nil => rfl
  | cons x r ih =>
    have : cellsR (x :: r) = encR x ++ cellsR r := rfl
    rw [this, List.length_append, ih, encR_length, List.length_cons]; omega
theorem cellsR_append (a b : List Raw) : cellsR (a ++ b) = cellsR a ++ cellsR b := by unfold cellsR; rw [List.flatMap_append]
theorem cellsR_at (l : List Raw) (k : Nat) (h : k < l.length) (j : Nat) (v : Value) (hv : (encR l[k])[j]? = some v) : (cellsR l)[k * 4 + j]? = some v := by
  have hj : j < 4 := by have := (List.getElem?_eq_some_iff.1 hv).1; simpa [encR] using this
  have e : cellsR l = cellsR (l.take k) ++ (encR l[k] ++ cellsR (l.drop (k + 1))) := by
    conv => lhs; rw [← List.take_append_drop k l, cellsR_append, List.drop_eq_getElem_cons h]
    rfl
  have hl : (cellsR (l.take k)).length = k * 4 := by rw [cellsR_length, List.length_take]; congr 1; omega
  rw [e, List.getElem?_append_right (by omega), hl, Nat.add_sub_cancel_left, List.getElem?_append_left (by rw [encR_length]; exact hj)]
  exact hv
theorem cellsR_one (l : List Raw) : ∀ u ∈ cellsR l, u.oneCell' = true := by
  intro u hu
  obtain ⟨x, _, hx⟩ := List.mem_flatMap.1 hu
  exact encR_one x u hx
theorem info_ent : (Tryz.prog.info? 135).map (fun i => (i.zero, i.size, i.bytes)) = some (some (.agg #[.string ⟨#[]⟩, .int .i64 0, .int .i64 0, .slice none 0 0]), 4, 56) := by kernel_rfl
/-- a directory that is read -/
structure DirR (w : World) (A : Option Addr) (c : Nat) (R : List Raw) : Prop where
  le : R.length ≤ c
  flat : Flat A
  rd : Rd w A (cellsR R)
  ext : ∀ r ∈ R, ExtR w r.A r.c r.e.ext
section
variable {w w' : World} {A : Option Addr} {c : Nat} {R : List Raw}
theorem DirR.keep (h : DirR w A c R) (hb : Below w.heap.size w w') : DirR w' A c R := ⟨h.le, h.flat, h.rd.ext hb, fun r hr => (h.ext r hr).ext hb⟩
theorem DirR.cell (h : DirR w A c R) {k : Nat} (hk : k < R.length) : ∃ g o, A = some ⟨g, o, none⟩ ∧ w.cell? ⟨g, o + k * 4, none⟩ = some (strV R[k].e.name) ∧ w.cell? ⟨g, o + k * 4 + 1, none⟩ = some (iv (R[k].e.len : Int)) ∧ w.cell? ⟨g, o + k * 4 + 2, none⟩ = some (iv (R[k].e.sum : Int)) ∧ w.cell? ⟨g, o + k * 4 + 3, none⟩ = some (.slice R[k].A R[k].e.ext.length R[k].c) := by
  obtain ⟨ad, e, _⟩ := h.rd _ _ (cellsR_at R k hk 0 _ rfl)
  obtain ⟨g, o, rfl⟩ := h.flat ad e
  have key : ∀ j v, (encR R[k])[j]? = some v → w.cell? ⟨g, o + k * 4 + j, none⟩ = some v := fun j v hv => by
    obtain ⟨ad', e', hc⟩ := h.rd _ _ (cellsR_at R k hk j v hv)
    rw [e] at e'; injection e' with e'; subst e'
    rw [Addr.add_mid, ← Nat.add_assoc] at hc
    exact hc
  exact ⟨g, o, e, key 0 _ rfl, key 1 _ rfl, key 2 _ rfl, key 3 _ rfl⟩
end

/-! ### Owner -/
theorem make_strs (W : World) (n : Nat) (h : n ≤ 1000000) : (Instr.makeSlice 37 (.int .i64 (n : Int)) (.int .i64 (n : Int))).run Tryz.prog W =
    .ok (.slice (some ⟨W.heap.size, 0, none⟩) n n) (W.alloc (.cells (madeCells #[.string ⟨#[]⟩] n) 9)) := by
  obtain ⟨i, hi, hz, hsz, hby⟩ := info_parts info_str
  have hr := run_make (P := Tryz.prog) W 37 9 i _ Tryz.underlying37 hi hz .i64 .i64 (n : Int) (n : Int) (by omega) (by omega) (by rw [hby]; omega) (by omega)
  simp only [Int.toNat_natCast, hsz, Nat.mul_one] at hr
  exact hr
theorem new_strs (w W : World) (hb : Below w.heap.size w W) (n : Nat) (h : n ≤ 1000000) : NewO w (W.alloc (.cells (madeCells #[.string ⟨#[]⟩] n) 9)) 9 1 (some ⟨W.heap.size, 0, none⟩) n n ((List.replicate n []).map strV) := by
  have e : (madeCells #[Value.string ⟨#[]⟩] n).toList = (List.replicate n []).map strV := by
    refine List.ext_getElem? fun i => ?_
    rw [Array.getElem?_toList]
    simp [madeCells, strV, Nat.mod_one]
    by_cases hi : i < n <;> simp [hi, Array.getElem?_ofFn]
  refine ⟨?_, ext_alloc hb _, fun k hk => ?_⟩
  · rw [← e]
    exact RowO.lit W _ 1 n _ (by simp [madeCells]) (by unfold maxLen; omega) rfl
  · rw [inA_some] at hk; subst hk; exact hb.size
/-- how many there may be, and how large -/
structure Fit (N : Nat) (L : List Ent) : Prop where
  num : L.length ≤ 1000000
  ext : ∀ e ∈ L, e.ext.length ≤ 1000000 ∧ ∀ x ∈ e.ext, x.1 + x.2 ≤ N
theorem ownerL_take (n : Nat) (L : List Ent) (k : Nat) (h : k < L.length) : ownerL n (L.take (k + 1)) = markE (ownerL n (L.take k)) L[k] := by
  unfold ownerL
  rw [List.take_succ_eq_append_getElem h, List.foldl_append]; rfl
def markTo (l : List (List UInt8)) (e : Ent) (j : Nat) : List (List UInt8) := (e.ext.take j).foldl (fun l x => markL l x e.name) l
theorem markTo_succ (l : List (List UInt8)) (e : Ent) (j : Nat) (h : j < e.ext.length) : markTo l e (j + 1) = markL (markTo l e j) e.ext[j] e.name := by
  unfold markTo
  rw [List.take_succ_eq_append_getElem h, List.foldl_append]; rfl
theorem markTo_all (l : List (List UInt8)) (e : Ent) : markTo l e e.ext.length = markE l e := by unfold markTo markE; rw [List.take_length]
theorem markTo_length (l : List (List UInt8)) (e : Ent) (j : Nat) : (markTo l e j).length = l.length := markE_fold_length _ _ _

set_option maxRecDepth 100000 in
set_option maxHeartbeats 4000000 in
theorem owner_any {w : World} {fp : Nat → Prop} {g gd : Nat} {S : Sec} {l : Int} (hI : Imp w fp gd S l) (ps : Value) (dead : Bool) (A : Option Addr) (c : Nat) (R : List Raw) (hB : Blk w g 86 #[.pointer (some ⟨gd, 0, none⟩), ps, .slice A R.length c, .bool dead])
    (hD : DirR w A c R) (hF : Fit S.length (R.map (·.e))) (h32 : 32 ≤ S.length) :
    Calls Tryz.prog 31 #[.pointer (some ⟨g, 0, none⟩)] w fun e w' => ∃ A' c', e = .returned (.slice A' S.length c') ∧ NewO w w' 9 1 A' S.length c' ((ownerL S.length (R.map (·.e))).map strV) := by
  have hn := hI.n
  obtain ⟨gc, Bd, Cd, hL⟩ := hI
  have hlen := len_any hL
  have hmk := fun W => make_strs W S.length (by omega)
  have hnum := hF.num
  rw [List.length_map] at hnum
  have b0 := hB.cell 0
  have b2 := hB.cell 2
  simp only [List.getElem?_toArray, List.getElem?_cons_zero, List.getElem?_cons_succ] at b0 b2
  obtain ⟨F, hF'⟩ : ∃ F, F = fun k => ownerL S.length ((R.map (·.e)).take k) := ⟨_, rfl⟩
  have hF0 : ownerL S.length ((R.map (·.e)).take 0) = F 0 := by rw [hF']
  have hFl : ownerL S.length (R.map (·.e)) = F R.length := by
    rw [hF']
    show _ = ownerL _ ((R.map (·.e)).take R.length)
    rw [List.take_of_length_le (by simp)]
  rw [hFl]
  have HF := Lib.hid hF'
  have HF0 := Lib.hid hF0
  clear hF0 hFl hF'
  go_enter Tryz.func31, Tryz.ntmps31
  go_wp2_with fail
  refine hlen.mono ?_
  rintro e w2 ⟨rfl, rfl⟩
  go_wp2_with fail
  refine (slots_any _).mono ?_
  rintro e w2 ⟨rfl, hb2⟩
  have hN0 := (new_strs w w (Below.refl _ _) S.length (by omega)).ext hb2
  have hmk1 := mark_any 0 32 (some ⟨w.heap.size, 0, none⟩) S.length S.length (List.replicate S.length []) [33] w2 w hN0 (by simp) (by simp; omega) (by simp; omega)
  have Hmk1 := Lib.hid hmk1
  clear hmk1
  go_wp2_with fail
  refine Hmk1.out.mono ?_
  rintro e w3 ⟨rfl, hN1, -⟩
  have hb3 := hN1.bel
  have b2' : w3.cell? ⟨g, 2, none⟩ = some (.slice A R.length c) := (World.cell?_of_block (hb3.block g hB.lt)).trans b2
  have hown0 : markL (List.replicate S.length []) (0, 32) [33] = ownerL S.length ((R.map (·.e)).take 0) := rfl
  rw [hown0, HF0.out] at hN1
  clear Hmk1 hmk hlen hown0
  go_wp2
  go_loopw [24] (fun i w1 => ∃ (k : Nat), k ≤ R.length ∧ i = .int .i64 (k : Int) ∧ NewO w w1 9 1 (some ⟨w.heap.size, 0, none⟩) S.length S.length ((F k).map strV)) (fun i _ => R.length - (intOf i).toNat)
  case atStart => exact ⟨0, Nat.zero_le _, rfl, hN1⟩
  case round =>
    obtain ⟨k, hk, rfl, hN⟩ := hrel
    obtain ⟨wo, hwo⟩ : ∃ wo : World, wo = wr := ⟨_, rfl⟩
    subst hwo
    by_cases hlt : k < R.length
    · obtain ⟨ge, oe, rfl, q0, q1, q2, q3⟩ := (hD.keep hN.bel).cell hlt
      have hx := hD.ext R[k] (List.getElem_mem hlt)
      have hfe := hF.ext R[k].e (List.mem_map.2 ⟨_, List.getElem_mem hlt, rfl⟩)
      have hFk : F (k + 1) = markE (F k) R[k].e := by
        rw [HF.out]
        show ownerL _ _ = _
        rw [ownerL_take _ _ k (by simpa using hlt)]
        simp
      obtain ⟨r, hr⟩ : ∃ r, R[k] = r := ⟨_, rfl⟩
      rw [hr] at q0 q1 q2 q3 hx hfe hFk
      have Hr := Lib.hid hr
      have HFk := Lib.hid hFk
      have hFkl : (F k).length = S.length := by rw [HF.out]; exact ownerL_length _ _
      have HFkl := Lib.hid hFkl
      clear hr hFk hFkl
      obtain ⟨⟨nm, ln, sm, xs⟩, Ax, cx⟩ := r
      dsimp only at q0 q1 q2 q3 hx hfe
      unfold iv at q1 q2
      obtain ⟨hfe1, hfe2⟩ := hfe
      obtain ⟨Z, hZ⟩ : ∃ Z, strV nm = .string Z := ⟨_, rfl⟩
      rw [hZ] at q0
      have HZ := Lib.hid hZ
      clear hZ
      go_wp2
      go_loopw [32] (fun i w1 => ∃ (j : Nat), j ≤ xs.length ∧ i = .int .i64 (j : Int) ∧ NewO w w1 9 1 (some ⟨w.heap.size, 0, none⟩) S.length S.length ((markTo (F k) ⟨nm, ln, sm, xs⟩ j).map strV) ∧ Blk w1 wo.heap.size 135 #[.string Z, .int .i64 (ln : Int), .int .i64 (sm : Int), .slice Ax xs.length cx]) (fun i _ => xs.length - (intOf i).toNat)
      case atStart => exact ⟨0, Nat.zero_le _, rfl, hN.ext (ext_alloc (Below.refl _ _) _), Blk.new _ _ _⟩
      case round =>
        obtain ⟨j, hj, rfl, hN2, hB2⟩ := hrel
        have d0 : wr.cell? ⟨wo.heap.size, 0, none⟩ = some (.string Z) := hB2.cell 0
        by_cases hjn : j < xs.length
        · obtain ⟨gx, ox, rfl, p0, p1⟩ := (hx.ext hN2.bel).cell hjn
          have hxe := hfe2 xs[j] (List.getElem_mem hjn)
          have hms := markTo_succ (F k) ⟨nm, ln, sm, xs⟩ j hjn
          dsimp only at hms
          obtain ⟨x, hxx⟩ : ∃ x, xs[j] = x := ⟨_, rfl⟩
          rw [hxx] at p0 p1 hxe hms
          have Hms := Lib.hid hms
          have Hxx := Lib.hid hxx
          clear hms hxx
          obtain ⟨xb, xn⟩ := x
          dsimp only at p0 p1 hxe
          unfold iv at p0 p1
          have hmk2 := mark_any xb xn (some ⟨w.heap.size, 0, none⟩) S.length S.length (markTo (F k) ⟨nm, ln, sm, xs⟩ j) nm (wr.alloc (.cells #[.int .i64 (xb : Int), .int .i64 (xn : Int)] 128)) w (hN2.ext (ext_alloc (Below.refl _ _) _)) (by rw [markTo_length, HFkl.out]) (by rw [markTo_length, HFkl.out]; exact hxe) (by rw [markTo_length, HFkl.out]; omega)
          rw [HZ.out] at hmk2
          have Hmk2 := Lib.hid hmk2
          have d0' : (wr.alloc (.cells #[.int .i64 (xb : Int), .int .i64 (xn : Int)] 128)).cell? ⟨wo.heap.size, 0, none⟩ = some (.string Z) := (hB2.alloc _).cell 0
          clear hmk2
          go_wp2_with fail
          refine Hmk2.out.mono ?_
          rintro e w4 ⟨rfl, hN4, ho4⟩
          go_wp2
          go_roundw
          case rel => 
            refine ⟨j + 1, by omega, by go_num, by rw [Hms.out]; exact hN4, (hB2.alloc _).only ho4 ?_⟩
            rw [inA_some]
            have := hN.row.lt ((inA_some w.heap.size 0 w.heap.size none).2 rfl)
            omega
          case measure => simp [intOf]; omega
        · obtain rfl : j = xs.length := by omega
          have hall := markTo_all (F k) ⟨nm, ln, sm, xs⟩
          have Hall := Lib.hid hall
          clear hall
          go_wp2
          go_roundw
          case rel => exact ⟨k + 1, by omega, by go_num, by rw [HFk.out, ← Hall.out]; exact hN2⟩
          case measure => simp [intOf]; omega
    · obtain rfl : k = R.length := by omega
      go_wp2
      go_ret
      exact ⟨_, _, rfl, hN⟩
end Go.Proofs.YtdpmfcifgimleaaGreatDoor

/-
  The contracts of freeSectors, Free, Names, Dead, and of a nil Vault. No statement of the seat is proved here.
-/
namespace Go.Proofs.YtdpmfcifgimleaaGreatDoor
open Go Go.RowKit

theorem filter_range_succ (p : Nat → Bool) (k : Nat) : (List.range (k + 1)).filter p = (List.range k).filter p ++ if p k then [k] else [] := by
  rw [List.range_succ, List.filter_append]
  congr 1
  cases h : p k <;> simp [h]

set_option maxRecDepth 100000 in
set_option maxHeartbeats 2000000 in
theorem freesectors_any {w : World} {fp : Nat → Prop} {g gd : Nat} {S : Sec} {l : Int} (hI : Imp w fp gd S l) (ps : Value) (dead : Bool) (A : Option Addr) (c : Nat) (R : List Raw) (hB : Blk w g 86 #[.pointer (some ⟨gd, 0, none⟩), ps, .slice A R.length c, .bool dead])
    (hD : DirR w A c R) (hF : Fit S.length (R.map (·.e))) (h32 : 32 ≤ S.length) :
    Calls Tryz.prog 47 #[.pointer (some ⟨g, 0, none⟩)] w fun e w' => ∃ A' c', e = .returned (.slice A' (freeL S.length (R.map (·.e))).length c') ∧ NewO w w' 3 1 A' (freeL S.length (R.map (·.e))).length c' ((freeL S.length (R.map (·.e))).map iv') := by
  have hn := hI.n
  have how := owner_any hI ps dead A c R hB hD hF h32
  have hol := ownerL_length S.length (R.map (·.e))
  unfold freeL
  obtain ⟨o, ho⟩ : ∃ o, ownerL S.length (R.map (·.e)) = o := ⟨_, rfl⟩
  rw [ho] at how hol ⊢
  obtain ⟨N, hN⟩ : ∃ N, S.length = N := ⟨_, rfl⟩
  rw [hN] at how hol hn ⊢
  clear ho hN hI hF h32 hB hD
  subst hol
  obtain ⟨p, hp⟩ : ∃ p : Nat → Bool, p = fun i => decide (o.getD i [] = []) := ⟨_, rfl⟩
  rw [← hp]
  have Hp := Lib.hid hp
  clear hp
  have hle : ∀ k, ((List.range k).filter p).length ≤ k := fun k => by have := List.length_filter_le p (List.range k); simpa using this
  have Hle := Lib.hid hle
  have hsucc := filter_range_succ p
  have Hsucc := Lib.hid hsucc
  clear hle hsucc
  go_enter Tryz.func47, Tryz.ntmps47
  go_wp2_with fail
  refine how.mono ?_
  rintro e w1 ⟨A1, c1, rfl, hN1⟩
  go_wp2
  go_loopw [3, 4, 5, 9] (fun s _ _ i w2 => ∃ (k : Nat) (A2 : Option Addr) (c2 : Nat), k ≤ o.length ∧ i = .int .i64 (k : Int) ∧ s = .slice A2 ((List.range k).filter p).length c2 ∧ NewO w1 w2 3 1 A2 ((List.range k).filter p).length c2 (((List.range k).filter p).map iv')) (fun _ _ _ i _ => o.length - (intOf i).toNat)
  case atStart => exact ⟨0, none, 0, Nat.zero_le _, rfl, rfl, NewO.start _ _ _⟩
  case round =>
    obtain ⟨k, A2, c2, hk, rfl, rfl, hN2⟩ := hrel
    by_cases hlt : k < o.length
    · have hrd := (hN1.ext hN2.bel).rd
      obtain ⟨ad, rfl, q⟩ := hrd.at_ (k := k) (by simpa using hlt)
      rw [List.getElem_map] at q
      have hpk : p k = decide (o[k] = []) := by
        rw [Hp.out]
        simp only
        rw [List.getD_eq_getElem?_getD, List.getElem?_eq_getElem hlt]; rfl
      have hs := Hsucc.out k
      have hl := Hle.out k
      obtain ⟨f, hf⟩ : ∃ f, (List.range k).filter p = f := ⟨_, rfl⟩
      rw [hf] at hN2 hs hl ⊢
      have Hf := Lib.hid hf
      clear hf
      by_cases he : o[k] = []
      · rw [he] at q
        rw [he] at hpk
        have hpt : p k = true := by rw [hpk]; simp
        rw [hpt] at hs
        have Hs := Lib.hid hs
        clear hs hpk hpt he
        unfold strV at q
        have hm1 : f.length + 1 ≤ maxLen := by unfold maxLen; omega
        go_wp2_with (at_builtin
                     refine wpList_appO _ rfl (.tmp 16) (.tmp 18) _ rfl _ _ 1 8 Tryz.underlying39 info_int rfl A2 _ c2 _ rfl (hN2.row.alloc _) (some ⟨wr.heap.size, 0, none⟩) 1 1 [.int .i64 (k : Int)] rfl rfl (Rd.lit _ #[.int .i64 (k : Int)] _) ?_ ?_ hm1 (by omega) ?_
                     · simp; rfl
                     · intro h; cases h
                     intro A3 c3 w3 hrow3 honly3 hA3)
        have hN3 := hN2.grow (ext_alloc (Below.refl _ _) _) hrow3 honly3 hA3
        go_roundw
        case rel => exact ⟨k + 1, A3, c3, by omega, by go_num, by rw [Hs.out]; simp, by rw [Hs.out]; simpa [iv'] using hN3⟩
        case measure => simp [intOf]; omega
      · have hpf : p k = false := by rw [hpk]; simp [he]
        rw [hpf] at hs
        have Hs := Lib.hid hs
        obtain ⟨x, hx⟩ : ∃ x, o[k] = x := ⟨_, rfl⟩
        rw [hx] at q he
        have hne : (⟨x.toArray⟩ : ByteArray).toList.isEmpty = false := by
          rw [ByteArray.toList_mk]
          cases x with
          | nil => exact absurd rfl he
          | cons a b => rfl
        clear hs hpk hpf hx he
        unfold strV at q
        obtain ⟨Z, hZ⟩ : ∃ Z : ByteArray, ⟨x.toArray⟩ = Z := ⟨_, rfl⟩
        rw [hZ] at q hne
        clear hZ
        go_wp2
        go_roundw
        case rel => exact ⟨k + 1, A2, c2, by omega, by go_num, by rw [Hs.out]; simp, by rw [Hs.out]; simpa using hN2⟩
        case measure => simp [intOf]; omega
    · obtain rfl : k = o.length := by omega
      go_wp2
      go_ret
      exact ⟨A2, c2, rfl, hN2.back hN1.bel⟩

theorem free_any {w : World} {fp : Nat → Prop} {g gd : Nat} {S : Sec} {l : Int} (hI : Imp w fp gd S l) (ps : Value) (dead : Bool) (A : Option Addr) (c : Nat) (R : List Raw) (hB : Blk w g 86 #[.pointer (some ⟨gd, 0, none⟩), ps, .slice A R.length c, .bool dead])
    (hD : DirR w A c R) (hF : Fit S.length (R.map (·.e))) (h32 : 32 ≤ S.length) :
    Calls Tryz.prog 35 #[.pointer (some ⟨g, 0, none⟩)] w fun e w' => e = .returned (.int .i64 ((freeL S.length (R.map (·.e))).length : Int)) ∧ Below w.heap.size w w' := by
  have h := freesectors_any hI ps dead A c R hB hD hF h32
  obtain ⟨f, hf⟩ : ∃ f, freeL S.length (R.map (·.e)) = f := ⟨_, rfl⟩
  rw [hf] at h ⊢
  clear hI hB hD hF hf
  go_enter Tryz.func35, Tryz.ntmps35
  go_wp2_with fail
  refine h.mono ?_
  rintro e w1 ⟨A1, c1, rfl, hN1⟩
  go_wp2
  go_ret
  exact ⟨rfl, hN1.bel⟩

set_option maxRecDepth 100000 in
set_option maxHeartbeats 2000000 in
theorem names_any {w : World} {g : Nat} (pd ps : Value) (dead : Bool) (A : Option Addr) (c : Nat) (R : List Raw) (hB : Blk w g 86 #[pd, ps, .slice A R.length c, .bool dead]) (hD : DirR w A c R) (hn : R.length ≤ 1000000) :
    Calls Tryz.prog 32 #[.pointer (some ⟨g, 0, none⟩)] w fun e w' => ∃ A' c', e = .returned (.slice A' R.length c') ∧ NewO w w' 9 1 A' R.length c' (R.map fun r => strV r.e.name) := by
  have b2 := hB.cell 2
  simp only [List.getElem?_toArray, List.getElem?_cons_zero, List.getElem?_cons_succ] at b2
  have hni : (R.length : Int) ≤ 1000000 := by omega
  clear hB
  go_enter Tryz.func32, Tryz.ntmps32
  go_wp2
  go_loopw [3, 13] (fun s i w1 => ∃ (k : Nat) (A2 : Option Addr) (c2 : Nat), k ≤ R.length ∧ i = .int .i64 (k : Int) ∧ s = .slice A2 k c2 ∧ NewO w w1 9 1 A2 k c2 ((R.take k).map fun r => strV r.e.name)) (fun _ i _ => R.length - (intOf i).toNat)
  case atStart => exact ⟨0, none, 0, Nat.zero_le _, rfl, rfl, NewO.start _ _ _⟩
  case round =>
    obtain ⟨k, A2, c2, hk, rfl, rfl, hN⟩ := hrel
    by_cases hlt : k < R.length
    · have hki : (k : Int) < (R.length : Int) := by omega
      obtain ⟨ge, oe, rfl, q0, q1, q2, q3⟩ := (hD.keep hN.bel).cell hlt
      have hs := List.take_succ_eq_append_getElem hlt
      obtain ⟨r, hr⟩ : ∃ r, R[k] = r := ⟨_, rfl⟩
      rw [hr] at q0 q1 q2 q3 hs
      have Hr := Lib.hid hr
      have Hs := Lib.hid hs
      clear hr hs
      obtain ⟨⟨nm, ln, sm, xs⟩, Ax, cx⟩ := r
      dsimp only at q0 q1 q2 q3
      unfold iv at q1 q2
      obtain ⟨Z, hZ⟩ : ∃ Z, strV nm = .string Z := ⟨_, rfl⟩
      rw [hZ] at q0
      have HZ := Lib.hid hZ
      clear hZ
      have hm1 : k + 1 ≤ maxLen := by unfold maxLen; omega
      go_wp2_with (at_builtin
                   refine wpList_appO _ rfl (.tmp 17) (.tmp 20) _ rfl _ _ 1 16 Tryz.underlying37 info_str rfl A2 _ c2 _ rfl ((hN.row.alloc _).alloc _) (some ⟨wr.heap.size + 1, 0, none⟩) 1 1 [.string Z] rfl rfl (Rd.lit_at _ #[.string Z] _ (by simp)) ?_ ?_ hm1 (by omega) ?_
                   · simp; rfl
                   · intro h; cases h
                   intro A3 c3 w3 hrow3 honly3 hA3)
      have hN3 := hN.grow (ext_alloc (ext_alloc (Below.refl _ _) _) _) hrow3 honly3 hA3
      go_roundw
      case rel => exact ⟨k + 1, A3, c3, by omega, by go_num, rfl, by rw [Hs.out, List.map_append]; simpa [HZ.out] using hN3⟩
      case measure => simp [intOf]; omega
    · obtain rfl : k = R.length := by omega
      rw [List.take_length] at hN
      go_wp2
      go_ret
      exact ⟨A2, c2, rfl, hN⟩

theorem vdead_of {w : World} {g : Nat} (pd ps pv : Value) (dead : Bool) (hB : Blk w g 86 #[pd, ps, pv, .bool dead]) :
    Calls Tryz.prog 37 #[.pointer (some ⟨g, 0, none⟩)] w fun e w' => e = .returned (.bool dead) ∧ w = w' := by
  have b3 := hB.cell 3
  simp only [List.getElem?_toArray, List.getElem?_cons_zero, List.getElem?_cons_succ] at b3
  clear hB
  go_enter Tryz.func37, Tryz.ntmps37
  go_wp2
  go_ret
  exact ⟨rfl, rfl⟩

/-! ### nil -/
theorem vdead_nil (w : World) : Calls Tryz.prog 37 #[.pointer none] w fun e w' => e = .returned (.bool true) ∧ w = w' := by
  go_enter Tryz.func37, Tryz.ntmps37
  go_wp2
  go_ret
  exact ⟨rfl, rfl⟩
theorem vnames_nil (w : World) : Calls Tryz.prog 32 #[.pointer none] w fun e w' => e = .returned (.slice none 0 0) ∧ w = w' := by
  go_enter Tryz.func32, Tryz.ntmps32
  go_wp2
  go_ret
  exact ⟨rfl, rfl⟩
theorem vowner_nil (w : World) : Calls Tryz.prog 31 #[.pointer none] w fun e w' => e = .returned (.slice none 0 0) ∧ w = w' := by
  go_enter Tryz.func31, Tryz.ntmps31
  go_wp2
  go_ret
  exact ⟨rfl, rfl⟩
theorem vfrees_nil (w : World) : Calls Tryz.prog 47 #[.pointer none] w fun e w' => e = .returned (.slice none 0 0) ∧ w = w' := by
  go_enter Tryz.func47, Tryz.ntmps47
  go_wp2_with fail
  refine (vowner_nil _).mono ?_
  rintro e w1 ⟨rfl, rfl⟩
  go_wp2
  go_loopw [3, 9] (fun s i w1 => s = .slice none 0 0 ∧ i = .int .i64 0 ∧ w1 = w) (fun _ _ _ => 0)
  case atStart => exact ⟨rfl, rfl, rfl⟩
  case round =>
    obtain ⟨rfl, rfl, rfl⟩ := hrel
    go_wp2
    go_ret
    exact ⟨rfl, rfl⟩
theorem vfree_nil (w : World) : Calls Tryz.prog 35 #[.pointer none] w fun e w' => e = .returned (.int .i64 0) ∧ w = w' := by
  go_enter Tryz.func35, Tryz.ntmps35
  go_wp2_with fail
  refine (vfrees_nil _).mono ?_
  rintro e w1 ⟨rfl, rfl⟩
  go_wp2
  go_ret
  exact ⟨rfl, rfl⟩
theorem vget_nil (v : Value) (w : World) : Calls Tryz.prog 33 #[.pointer none, v] w fun e w' => e = .returned (.tuple #[.slice none 0 0, .int .i64 5]) ∧ w = w' := by
  go_enter Tryz.func33, Tryz.ntmps33
  go_wp2
  go_ret2
  exact ⟨rfl, rfl⟩
theorem vcommit_nil (u v : Value) (w : World) : Calls Tryz.prog 16 #[.pointer none, u, v] w fun e w' => e = .returned (.int .i64 1) ∧ w = w' := by
  go_enter Tryz.func16, Tryz.ntmps16
  go_wp2
  go_ret
  exact ⟨rfl, rfl⟩
end Go.Proofs.YtdpmfcifgimleaaGreatDoor

/-
  Plain mathematics of names: their order, rising directories, what is found in them. No Go here.
-/
namespace Go.Proofs.YtdpmfcifgimleaaGreatDoor
open Go

/-! ### the order of names -/
theorem lt_irr (a : List UInt8) : ¬ a < a := List.lt_irrefl a
theorem lt_tr {a b c : List UInt8} (h : a < b) (k : b < c) : a < c := List.lt_trans h k
theorem lt_or (a b : List UInt8) : a < b ∨ a = b ∨ b < a := by
  induction a generalizing b with
  | nil => cases b with
    | nil => exact .inr (.inl rfl)
    | cons y ys => exact .inl (List.nil_lt_cons y ys)
  | cons x xs ih => cases b with
    | nil => exact .inr (.inr (List.nil_lt_cons x xs))
    | cons y ys =>
      rw [List.cons_lt_cons_iff, List.cons_lt_cons_iff]
      rcases Nat.lt_trichotomy x.toNat y.toNat with h | h | h
      · exact .inl (.inl (UInt8.lt_iff_toNat_lt.2 h))
      · have : x = y := UInt8.toNat_inj.1 h
        subst this
        rcases ih ys with h | h | h
        · exact .inl (.inr ⟨rfl, h⟩)
        · exact .inr (.inl (by rw [h]))
        · exact .inr (.inr (.inr ⟨rfl, h⟩))
      · exact .inr (.inr (.inl (UInt8.lt_iff_toNat_lt.2 h)))
theorem lt_asy {a b : List UInt8} (h : a < b) : ¬ b < a := fun k => lt_irr a (lt_tr h k)
theorem lt_ne {a b : List UInt8} (h : a < b) : a ≠ b := fun e => lt_irr a (by rw [e] at h; rw [e]; exact h)
theorem not_lt_of {a b : List UInt8} (h : ¬ a < b) : a = b ∨ b < a := by
  rcases lt_or a b with k | k | k
  · exact absurd k h
  · exact .inl k
  · exact .inr k
theorem cmp_lt (a b : List UInt8) : Lib.compareBytes a b < 0 ↔ a < b := by
  induction a generalizing b with
  | nil => cases b with
    | nil => simp [Lib.compareBytes]
    | cons y ys => simp [Lib.compareBytes]
  | cons x xs ih => cases b with
    | nil => simp [Lib.compareBytes]
    | cons y ys =>
      rw [Lib.compareBytes, List.cons_lt_cons_iff]
      by_cases h : x < y
      · simp [h]
      · rw [if_neg h]
        by_cases h2 : y < x
        · rw [if_pos h2]
          have hne : x ≠ y := fun e => by subst e; exact h h2
          simp [h, hne]
        · rw [if_neg h2, ih]
          have e : x = y := UInt8.toNat_inj.1 (by rw [UInt8.lt_iff_toNat_lt] at h h2; omega)
          simp [e]
theorem cmp_zero (a b : List UInt8) : Lib.compareBytes a b = 0 ↔ a = b := by
  induction a generalizing b with
  | nil => cases b with
    | nil => simp [Lib.compareBytes]
    | cons y ys => simp [Lib.compareBytes]
  | cons x xs ih => cases b with
    | nil => simp [Lib.compareBytes]
    | cons y ys =>
      rw [Lib.compareBytes]
      by_cases h : x < y
      · rw [if_pos h]
        have hne : x ≠ y := fun e => by subst e; rw [UInt8.lt_iff_toNat_lt] at h; omega
        simp [hne]
      · rw [if_neg h]
        by_cases h2 : y < x
        · rw [if_pos h2]
          have hne : x ≠ y := fun e => by subst e; exact h h2
          simp [hne]
        · rw [if_neg h2, ih]
          have e : x = y := UInt8.toNat_inj.1 (by rw [UInt8.lt_iff_toNat_lt] at h h2; omega)
          simp [e]
theorem cmp_neg (a b : List UInt8) : Lib.compareBytes a b = -1 ∨ Lib.compareBytes a b = 0 ∨ Lib.compareBytes a b = 1 := by
  induction a generalizing b with
  | nil => cases b <;> simp [Lib.compareBytes]
  | cons x xs ih => cases b with
    | nil => simp [Lib.compareBytes]
    | cons y ys =>
      rw [Lib.compareBytes]
      split
      · exact .inl rfl
      · split
        · exact .inr (.inr rfl)
        · exact ih ys

/-! ### rising -/
def Rises (L : List Ent) : Prop := L.Pairwise (fun a b => a.name < b.name)
theorem rises_lt {L : List Ent} (h : Rises L) {i j : Nat} (hij : i < j) (hj : j < L.length) : (L[i]'(by omega)).name < L[j].name := List.pairwise_iff_getElem.1 h i j (by omega) hj hij
theorem rises_inj {L : List Ent} (h : Rises L) {a b : Ent} (ha : a ∈ L) (hb : b ∈ L) (he : a.name = b.name) : a = b := by
  obtain ⟨i, hi, rfl⟩ := List.mem_iff_getElem.1 ha
  obtain ⟨j, hj, rfl⟩ := List.mem_iff_getElem.1 hb
  rcases Nat.lt_trichotomy i j with hl | hl | hl
  · exact absurd he (lt_ne (rises_lt h hl hj))
  · subst hl; rfl
  · exact absurd he.symm (lt_ne (rises_lt h hl hi))
theorem rises_unique {L M : List Ent} (hp : L.Perm M) (h : Rises L) (k : Rises M) : L = M := by
  unfold Rises at h k
  exact List.Perm.eq_of_pairwise (le := fun a b : Ent => a.name < b.name) (fun a b _ _ h1 h2 => absurd h2 (lt_asy h1)) h k hp
/-- the entry of a name -/
def findE (L : List Ent) (s : List UInt8) : Option Ent := L.find? fun e => decide (e.name = s)
theorem findE_some {L : List Ent} {s : List UInt8} {e : Ent} (h : findE L s = some e) : e ∈ L ∧ e.name = s :=
  ⟨List.mem_of_find?_eq_some h, by have := List.find?_some h; simpa using this⟩
theorem findE_none {L : List Ent} {s : List UInt8} (h : findE L s = none) : ∀ e ∈ L, e.name ≠ s := fun e he hs => by
  have := List.find?_eq_none.1 h e he
  simp at this
  exact this hs
theorem findE_of {L : List Ent} (h : Rises L) {e : Ent} (he : e ∈ L) : findE L e.name = some e := by
  cases hf : findE L e.name with
  | none => exact absurd rfl (findE_none hf e he)
  | some x =>
    obtain ⟨h1, h2⟩ := findE_some hf
    rw [rises_inj h h1 he h2]
end Go.Proofs.YtdpmfcifgimleaaGreatDoor

/-
  The contracts of entry.compare, slices.BinarySearchFunc over a directory, find. No statement of the seat is proved here.
-/
namespace Go.Proofs.YtdpmfcifgimleaaGreatDoor
open Go Go.RowKit

def entV (r : Raw) : Value := .agg (encR r).toArray
theorem entcmp_any (r : Raw) (s : List UInt8) (w : World) :
    Calls Tryz.prog 102 #[entV r, strV s] w fun e w' => e = .returned (.int .i64 (Lib.compareBytes r.e.name s)) ∧ w' = w.alloc (.cells (encR r).toArray 135) := by
  have hc := fun W => compare_any r.e.name s W
  obtain ⟨⟨nm, ln, sm, xs⟩, A, c⟩ := r
  unfold entV encR iv
  dsimp only at hc ⊢
  obtain ⟨Z, hZ⟩ : ∃ Z, strV nm = .string Z := ⟨_, rfl⟩
  obtain ⟨Y, hY⟩ : ∃ Y, strV s = .string Y := ⟨_, rfl⟩
  obtain ⟨R, hR⟩ : ∃ R, Lib.compareBytes nm s = R := ⟨_, rfl⟩
  rw [hZ, hY, hR] at hc
  rw [hZ, hY, hR]
  clear hZ hY hR
  go_enter Tryz.func102, Tryz.ntmps102
  go_wp2_with fail
  refine (hc _).mono ?_
  rintro e w2 ⟨rfl, rfl⟩
  go_wp2
  go_ret
  exact ⟨rfl, rfl⟩

/-- what a search finds: the place, and whether it is there -/
structure Placed (R : List Raw) (s : List UInt8) (i : Nat) (b : Bool) : Prop where
  le : i ≤ R.length
  yes : b = true → ∃ h : i < R.length, R[i].e.name = s
  no : b = false → ∀ r ∈ R, r.e.name ≠ s

set_option maxRecDepth 100000 in
set_option maxHeartbeats 2000000 in
theorem bsearch_any {w : World} (A : Option Addr) (c : Nat) (R : List Raw) (s : List UInt8) (hD : DirR w A c R) (hR : Rises (R.map (·.e))) (hn : R.length ≤ 1000000) :
    Calls Tryz.prog 133 #[.slice A R.length c, strV s, .func (.func 102) #[] #[]] w fun e w' => ∃ (i : Nat) (b : Bool), e = .returned (.tuple #[.int .i64 (i : Int), .bool b]) ∧ Placed R s i b ∧ Below w.heap.size w w' := by
  have hni : (R.length : Int) ≤ 1000000 := by omega
  obtain ⟨Y, hY⟩ : ∃ Y, strV s = .string Y := ⟨_, rfl⟩
  have hcmp := fun r W => entcmp_any r s W
  rw [hY] at hcmp ⊢
  clear hY
  go_enter Tryz.func133, Tryz.ntmps133
  go_wp2
  go_loopw [9, 10, 11] (fun x y _ w1 => ∃ (i j : Nat), i ≤ j ∧ j ≤ R.length ∧ x = .int .i64 (i : Int) ∧ y = .int .i64 (j : Int) ∧ Below w.heap.size w w1 ∧ (∀ k (h : k < R.length), k < i → R[k].e.name < s) ∧ (∀ k (h : k < R.length), j ≤ k → ¬ R[k].e.name < s)) (fun x y _ _ => (intOf y).toNat - (intOf x).toNat)
  case atStart => exact ⟨0, R.length, Nat.zero_le _, Nat.le_refl _, rfl, rfl, Below.refl _ _, fun k h hk => by omega, fun k h hk => by omega⟩
  case round =>
    obtain ⟨i, j, hij, hj, rfl, rfl, hb, h1, h2⟩ := hrel
    have H1 := Lib.hid h1
    have H2 := Lib.hid h2
    clear h1 h2
    by_cases hlt : i < j
    · have hij' : (i : Int) < (j : Int) := by omega
      obtain ⟨H, hH⟩ : ∃ H, (i + j) / 2 = H := ⟨_, rfl⟩
      have hHi : ((i : Int) + (j : Int)) / 2 = (H : Int) := by omega
      have hhl : H < R.length := by omega
      have hhi : (H : Int) < (R.length : Int) := by omega
      have hHb : i ≤ H ∧ H < j := by omega
      clear hH
      obtain ⟨ge, oe, rfl, q0, q1, q2, q3⟩ := (hD.keep hb).cell hhl
      have hc := hcmp R[H] 
      obtain ⟨r, hr⟩ : ∃ r, R[H] = r := ⟨_, rfl⟩
      rw [hr] at q0 q1 q2 q3 hc
      have Hr := Lib.hid hr
      clear hr
      obtain ⟨⟨nm, ln, sm, xs⟩, Ax, cx⟩ := r
      unfold entV encR at hc
      dsimp only at q0 q1 q2 q3 hc
      unfold iv at q1 q2 hc
      obtain ⟨Z, hZ⟩ : ∃ Z, strV nm = .string Z := ⟨_, rfl⟩
      rw [hZ] at q0 hc
      have hcl := cmp_lt nm s
      have hcz := cmp_zero nm s
      obtain ⟨cv, hcv⟩ : ∃ cv, Lib.compareBytes nm s = cv := ⟨_, rfl⟩
      rw [hcv] at hc hcl hcz
      have Hcl := Lib.hid hcl
      have Hcz := Lib.hid hcz
      clear hZ hcv hcl hcz
      by_cases hneg : cv < 0
      · go_wp2_with fail
        refine (hc _).mono ?_
        rintro e w2 ⟨rfl, rfl⟩
        go_wp2
        go_roundw
        case rel =>
          refine ⟨H + 1, j, by omega, hj, by go_num, rfl, ext_alloc hb _, fun k h hk => ?_, H2.out⟩
          have hle : k < H ∨ k = H := by omega
          have hHn : R[H].e.name < s := by rw [Hr.out]; exact Hcl.out.1 hneg
          rcases hle with hle | rfl
          · exact lt_tr (by have := rises_lt hR (i := k) (j := H) hle (by simpa using hhl); simpa using this) hHn
          · exact hHn
        case measure => simp [intOf]; omega
      · go_wp2_with fail
        refine (hc _).mono ?_
        rintro e w2 ⟨rfl, rfl⟩
        go_wp2
        go_roundw
        case rel =>
          refine ⟨i, H, by omega, by omega, rfl, rfl, ext_alloc hb _, H1.out, fun k h hk => ?_⟩
          have hHn : ¬ R[H].e.name < s := by rw [Hr.out]; exact fun hh => by have h9 := Hcl.out.2 hh; omega
          rcases Nat.lt_or_ge H k with hle | hle
          · intro hh
            exact hHn (lt_tr (by have := rises_lt hR (i := H) (j := k) hle (by simpa using h); simpa using this) hh)
          · obtain rfl : k = H := by omega
            exact hHn
        case measure => simp [intOf]; omega
    · obtain rfl : i = j := by omega
      by_cases hin : i < R.length
      · have hini : (i : Int) < (R.length : Int) := by omega
        obtain ⟨H, hH⟩ : ∃ H, i = H := ⟨_, rfl⟩
        subst hH
        obtain ⟨ge, oe, rfl, q0, q1, q2, q3⟩ := (hD.keep hb).cell hin
        have hc := hcmp R[i] 
        obtain ⟨r, hr⟩ : ∃ r, R[i] = r := ⟨_, rfl⟩
        rw [hr] at q0 q1 q2 q3 hc
        have Hr := Lib.hid hr
        clear hr
        obtain ⟨⟨nm, ln, sm, xs⟩, Ax, cx⟩ := r
        unfold entV encR at hc
        dsimp only at q0 q1 q2 q3 hc
        unfold iv at q1 q2 hc
        obtain ⟨Z, hZ⟩ : ∃ Z, strV nm = .string Z := ⟨_, rfl⟩
        rw [hZ] at q0 hc
        have hcl := cmp_lt nm s
        have hcz := cmp_zero nm s
        obtain ⟨cv, hcv⟩ : ∃ cv, Lib.compareBytes nm s = cv := ⟨_, rfl⟩
        rw [hcv] at hc hcl hcz
        have Hcl := Lib.hid hcl
        have Hcz := Lib.hid hcz
        clear hZ hcv hcl hcz
        by_cases hz : cv = 0
        · subst hz
          go_wp2_with fail
          refine (hc _).mono ?_
          rintro e w2 ⟨rfl, rfl⟩
          go_wp2
          go_ret2
          exact ⟨i, true, rfl, ⟨hj, fun _ => ⟨hin, by rw [Hr.out]; exact Hcz.out.1 trivial⟩, fun h => by cases h⟩, ext_alloc hb _⟩
        · have hz' : (cv == 0) = false := by simpa using hz
          go_wp2_with fail
          refine (hc _).mono ?_
          rintro e w2 ⟨rfl, rfl⟩
          go_wp2
          go_ret2
          refine ⟨i, false, rfl, ⟨hj, (fun h => by cases h), fun _ r hr' hs => ?_⟩, ext_alloc hb _⟩
          obtain ⟨k, hk, rfl⟩ := List.mem_iff_getElem.1 hr'
          rcases Nat.lt_trichotomy k i with hl | hl | hl
          · exact lt_ne (H1.out k hk hl) hs
          · subst hl
            rw [Hr.out] at hs
            exact hz (Hcz.out.2 hs)
          · refine H2.out i hin (Nat.le_refl _) ?_
            have := rises_lt hR (i := i) (j := k) hl (by simpa using hk)
            simp only [List.getElem_map] at this
            rw [hs] at this
            exact this
      · have hini : decide ((i : Int) < (R.length : Int)) = false := by simp; omega
        go_wp2
        go_ret2
        refine ⟨i, false, rfl, ⟨hj, (fun h => by cases h), fun _ r hr' hs => ?_⟩, hb⟩
        obtain ⟨k, hk, rfl⟩ := List.mem_iff_getElem.1 hr'
        exact lt_ne (H1.out k hk (by omega)) hs

/-! ### find -/
theorem four_put {w : World} {g : Nat} {t : TypeId} {x0 x1 x2 x3 : Value} (h : Blk w g t #[x0, x1, x2, x3]) (a b c d : Value) : Blk ((((w.setCell ⟨g, 0, none⟩ a).setCell ⟨g, 1, none⟩ b).setCell ⟨g, 2, none⟩ c).setCell ⟨g, 3, none⟩ d) g t #[a, b, c, d] := by
  have := (((h.put 0 a).put 1 b).put 2 c).put 3 d
  simpa using this
theorem four_below {w0 w : World} {g : Nat} (h : Below w0.heap.size w0 w) (hg : w0.heap.size ≤ g) (a b c d : Value) : Below w0.heap.size w0 ((((w.setCell ⟨g, 0, none⟩ a).setCell ⟨g, 1, none⟩ b).setCell ⟨g, 2, none⟩ c).setCell ⟨g, 3, none⟩ d) :=
  (((h.setCell (p := ⟨g, 0, none⟩) hg a).setCell (p := ⟨g, 1, none⟩) hg b).setCell (p := ⟨g, 2, none⟩) hg c).setCell (p := ⟨g, 3, none⟩) hg d
def zeroEnt : Value := .agg #[.string ⟨#[]⟩, .int .i64 0, .int .i64 0, .slice none 0 0]
def Found (R : List Raw) (s : List UInt8) (e : Ending) : Prop :=
  (∃ r ∈ R, r.e.name = s ∧ e = .returned (.tuple #[entV r, .bool true])) ∨ ((∀ r ∈ R, r.e.name ≠ s) ∧ e = .returned (.tuple #[zeroEnt, .bool false]))
set_option maxRecDepth 100000 in
set_option maxHeartbeats 2000000 in
theorem find_any {w : World} (A : Option Addr) (c : Nat) (R : List Raw) (s : List UInt8) (hD : DirR w A c R) (hR : Rises (R.map (·.e))) (hn : R.length ≤ 1000000) :
    Calls Tryz.prog 73 #[.slice A R.length c, strV s] w fun e w' => Found R s e ∧ Below w.heap.size w w' := by
  have hbs := bsearch_any (w := w.alloc (.cells #[.string ⟨#[]⟩, .int .i64 0, .int .i64 0, .slice none 0 0] 135)) A c R s (hD.keep (ext_alloc (Below.refl _ _) _)) hR hn
  obtain ⟨Y, hY⟩ : ∃ Y, strV s = .string Y := ⟨_, rfl⟩
  rw [hY] at hbs ⊢
  clear hY
  have Hbs := Lib.hid hbs
  clear hbs
  go_enter Tryz.func73, Tryz.ntmps73
  go_wp2_with fail
  refine Hbs.out.mono ?_
  rintro e w2 ⟨i, b, rfl, hP, hb2⟩
  have hblk : Blk w2 w.heap.size 135 #[.string ⟨#[]⟩, .int .i64 0, .int .i64 0, .slice none 0 0] := (Blk.new _ _ _).ext hb2
  have f0 := hblk.free 0
  have f1 := hblk.free 1
  have f2 := hblk.free 2
  have f3 := hblk.free 3
  have g0 := hblk.cell 0
  have g1 := hblk.cell 1
  have g2 := hblk.cell 2
  have g3 := hblk.cell 3
  simp only [List.getElem?_toArray, List.getElem?_cons_zero, List.getElem?_cons_succ] at g0 g1 g2 g3
  have hb : Below w.heap.size w w2 := ext_trans (ext_alloc (Below.refl _ _) _) hb2
  cases b with
  | false =>
    have hno := Lib.hid (hP.no rfl)
    clear hP
    go_wp2
    have hB4 := four_put hblk (.string ⟨#[]⟩) (.int .i64 0) (.int .i64 0) (.slice none 0 0)
    have hb4 := four_below hb (Nat.le_refl _) (.string ⟨#[]⟩) (.int .i64 0) (.int .i64 0) (.slice none 0 0)
    have k0 := hB4.cell 0
    have k1 := hB4.cell 1
    have k2 := hB4.cell 2
    have k3 := hB4.cell 3
    simp only [List.getElem?_toArray, List.getElem?_cons_zero, List.getElem?_cons_succ] at k0 k1 k2 k3
    exact bodyPost_ret (v := .tuple #[.agg #[.string ⟨#[]⟩, .int .i64 0, .int .i64 0, .slice none 0 0], .bool false]) (by simp [results, Tryz.results73, go_sem, k0, k1, k2, k3]) rfl ⟨.inr ⟨hno.out, rfl⟩, hb4⟩
  | true =>
    obtain ⟨hi, he⟩ := hP.yes rfl
    have hii : (i : Int) < (R.length : Int) := by omega
    obtain ⟨ge, oe, rfl, q0, q1, q2, q3⟩ := (hD.keep hb).cell hi
    have hmem := List.getElem_mem hi
    obtain ⟨r, hr⟩ : ∃ r, R[i] = r := ⟨_, rfl⟩
    rw [hr] at q0 q1 q2 q3 he hmem
    have Hmem := Lib.hid hmem
    have He := Lib.hid he
    clear hr hP he hmem
    obtain ⟨⟨nm, ln, sm, xs⟩, Ax, cx⟩ := r
    dsimp only at q0 q1 q2 q3
    unfold iv at q1 q2
    obtain ⟨Z, hZ⟩ : ∃ Z, strV nm = .string Z := ⟨_, rfl⟩
    rw [hZ] at q0
    have HZ := Lib.hid hZ
    clear hZ
    go_wp2
    have hB4 := four_put hblk (.string Z) (.int .i64 (ln : Int)) (.int .i64 (sm : Int)) (.slice Ax xs.length cx)
    have hb4 := four_below hb (Nat.le_refl _) (.string Z) (.int .i64 (ln : Int)) (.int .i64 (sm : Int)) (.slice Ax xs.length cx)
    have k0 := hB4.cell 0
    have k1 := hB4.cell 1
    have k2 := hB4.cell 2
    have k3 := hB4.cell 3
    simp only [List.getElem?_toArray, List.getElem?_cons_zero, List.getElem?_cons_succ] at k0 k1 k2 k3
    exact bodyPost_ret (v := .tuple #[.agg #[.string Z, .int .i64 (ln : Int), .int .i64 (sm : Int), .slice Ax xs.length cx], .bool true]) (by simp [results, Tryz.results73, go_sem, k0, k1, k2, k3]) rfl ⟨.inl ⟨_, Hmem.out, He.out, by unfold entV encR iv; rw [HZ.out]⟩, hb4⟩
end Go.Proofs.YtdpmfcifgimleaaGreatDoor

/-
  The contract of Get. No statement of the seat is proved here.
-/
namespace Go.Proofs.YtdpmfcifgimleaaGreatDoor
open Go Go.RowKit

/-- what lies in sectors -/
def dataAt (S : Sec) (l : List Nat) : List UInt8 := l.flatMap fun i => lastOf (S.getD i [])
def blobOf (S : Sec) (e : Ent) : List UInt8 := (dataAt S (secs e.ext)).take e.len
/-- the room of entries -/
structure Roomy (n : Nat) (L : List Ent) : Prop where
  fit : Fit n L
  len : ∀ e ∈ L, e.len ≤ 64 * (secs e.ext).length ∧ (secs e.ext).length ≤ 4096
theorem dataAt_length (S : Sec) (hw : Wf S) (l : List Nat) (h : ∀ i ∈ l, i < S.length) : (dataAt S l).length = 64 * l.length := by
  unfold dataAt
  induction l with
  | nil => rfl
  | cons i r ih =>
    rw [List.flatMap_cons, List.length_append, ih (fun j hj => h j (List.mem_cons_of_mem _ hj)), List.length_cons]
    have hi := h i (by simp)
    have hm := List.getElem_mem hi
    rw [List.getD_eq_getElem?_getD, List.getElem?_eq_getElem hi]
    have := (hw _ hm).2 _ (lastOf_mem (hw _ hm).1)
    simp only [Option.getD_some]
    omega
theorem dataAt_take_succ (S : Sec) (l : List Nat) (k : Nat) (h : k < l.length) : dataAt S (l.take (k + 1)) = dataAt S (l.take k) ++ lastOf (S.getD l[k] []) := by
  unfold dataAt
  rw [List.take_succ_eq_append_getElem h, List.flatMap_append]; simp
def Got (w w' : World) (S : Sec) (L : List Ent) (s : List UInt8) (e : Ending) : Prop :=
  (findE L s = none ∧ e = .returned (.tuple #[.slice none 0 0, .int .i64 5])) ∨
  (∃ en, findE L s = some en ∧ sumOf (blobOf S en) ≠ en.sum ∧ e = .returned (.tuple #[.slice none 0 0, .int .i64 2])) ∨
  (∃ en A c, findE L s = some en ∧ sumOf (blobOf S en) = en.sum ∧ e = .returned (.tuple #[.slice A en.len c, .int .i64 0]) ∧ NewO w w' 5 1 A en.len c ((blobOf S en).map bv))

set_option maxRecDepth 100000 in
set_option maxHeartbeats 4000000 in
theorem get_any {w : World} {fp : Nat → Prop} {g gd : Nat} {S : Sec} {l : Int} (hI : Imp w fp gd S l) (hs : Small 1000000 S) (ht : Tab w) (ps : Value) (dead : Bool) (A : Option Addr) (c : Nat) (R : List Raw) (hB : Blk w g 86 #[.pointer (some ⟨gd, 0, none⟩), ps, .slice A R.length c, .bool dead])
    (hD : DirR w A c R) (hR : Rises (R.map (·.e))) (hF : Roomy S.length (R.map (·.e))) (s : List UInt8) :
    Calls Tryz.prog 33 #[.pointer (some ⟨g, 0, none⟩), strV s] w fun e w' => Got w w' S (R.map (·.e)) s e ∧ Below w.heap.size w w' := by
  have hnum := hF.fit.num
  rw [List.length_map] at hnum
  have hfind := find_any A c R s hD hR hnum
  have b0 := hB.cell 0
  have b2 := hB.cell 2
  simp only [List.getElem?_toArray, List.getElem?_cons_zero, List.getElem?_cons_succ] at b0 b2
  obtain ⟨Y, hY⟩ : ∃ Y, strV s = .string Y := ⟨_, rfl⟩
  rw [hY] at hfind ⊢
  clear hY
  have Hfind := Lib.hid hfind
  clear hfind
  go_enter Tryz.func33, Tryz.ntmps33
  go_wp2_with fail
  refine Hfind.out.mono ?_
  rintro e w1 ⟨hf, hb1⟩
  rcases hf with ⟨r, hr, hrn, rfl⟩ | ⟨hno, rfl⟩
  · have hfe : findE (R.map (·.e)) s = some r.e := by rw [← hrn]; exact findE_of hR (List.mem_map.2 ⟨r, hr, rfl⟩)
    have Hfe := Lib.hid hfe
    have hfx := hF.fit.ext r.e (List.mem_map.2 ⟨r, hr, rfl⟩)
    have hfl := hF.len r.e (List.mem_map.2 ⟨r, hr, rfl⟩)
    have hx := (hD.ext r hr).ext hb1
    clear hfe hrn hr
    obtain ⟨⟨nm, ln, sm, xs⟩, Ax, cx⟩ := r
    unfold entV encR iv
    dsimp only at hfx hfl hx ⊢
    obtain ⟨hx1, hx2⟩ := hfx
    obtain ⟨hl1, hl2⟩ := hfl
    obtain ⟨Z, hZ⟩ : ∃ Z, strV nm = .string Z := ⟨_, rfl⟩
    rw [hZ]
    clear hZ
    obtain ⟨w2, hw2⟩ : ∃ w2, w1.alloc (.cells #[.string Z, .int .i64 (ln : Int), .int .i64 (sm : Int), .slice Ax xs.length cx] 135) = w2 := ⟨_, rfl⟩
    have hb2 : Below w1.heap.size w1 w2 := by rw [← hw2]; exact ext_alloc (Below.refl _ _) _
    have hBe : Blk w2 w1.heap.size 135 #[.string Z, .int .i64 (ln : Int), .int .i64 (sm : Int), .slice Ax xs.length cx] := by rw [← hw2]; exact Blk.new _ _ _
    have hsec := sectors_any w1.heap.size 1 Ax cx xs w2 (hBe.cell 3) (hx.ext hb2) (fun x hx' => by have := hx2 x hx'; have := hI.n; omega) (by omega) hx1
    rw [← hw2] at hsec
    have Hsec := Lib.hid hsec
    have Hw2 := Lib.hid hw2
    clear hsec hw2
    go_wp2_with fail
    refine Hsec.out.mono ?_
    rintro e w3 ⟨A3, c3, rfl, hN3⟩
    have hb3 : Below w.heap.size w w3 := by
      have := hN3.bel
      rw [Hw2.out] at this
      exact ext_trans (ext_trans hb1 hb2) this
    have hb23 : Below w2.heap.size w2 w3 := by
      have := hN3.bel
      rw [Hw2.out] at this
      exact this
    have hin : ∀ i ∈ secs xs, i < S.length := fun i hi => by
      obtain ⟨x, hx, h1, h2⟩ := mem_secs.1 hi
      have := hx2 x hx
      omega
    have hwf := hI.wf
    have hdl : (dataAt S (secs xs)).length = 64 * (secs xs).length := dataAt_length S hwf _ hin
    have hbl : blobOf S ⟨nm, ln, sm, xs⟩ = (dataAt S (secs xs)).take ln := rfl
    have Hbl := Lib.hid hbl
    have Hw := Lib.hid hwf
    clear Hsec hbl hwf
    obtain ⟨sl, hsl⟩ : ∃ sl, secs xs = sl := ⟨_, rfl⟩
    rw [hsl] at hl1 hl2 hN3 hin hdl ⊢
    have Hsl := Lib.hid hsl
    have Hin := Lib.hid hin
    have Hdl := Lib.hid hdl
    clear hsl hin hdl
    have hsli : (sl.length : Int) ≤ 4096 := by omega
    go_wp2
    go_loopw [8, 29] (fun s i w4 => ∃ (k : Nat) (A4 : Option Addr) (c4 : Nat), k ≤ sl.length ∧ i = .int .i64 (k : Int) ∧ s = .slice A4 (64 * k) c4 ∧ NewO w3 w4 5 1 A4 (64 * k) c4 ((dataAt S (sl.take k)).map bv)) (fun _ i _ => sl.length - (intOf i).toNat)
    case atStart => exact ⟨0, none, 0, Nat.zero_le _, rfl, rfl, NewO.start _ _ _⟩
    case round =>
      obtain ⟨k, A4, c4, hk, rfl, rfl, hN4⟩ := hrel
      by_cases hlt : k < sl.length
      · have hki : (k : Int) < (sl.length : Int) := by omega
        have hN3' := hN3.ext hN4.bel
        obtain ⟨ad, rfl, q⟩ := hN3'.rd.at_ (k := k) (by simpa using hlt)
        simp only [List.getElem_map, iv'] at q
        have hik := Hin.out sl[k] (List.getElem_mem hlt)
        have hds := dataAt_take_succ S sl k hlt
        obtain ⟨v, hv⟩ : ∃ v, sl[k] = v := ⟨_, rfl⟩
        rw [hv] at q hik hds
        have Hds := Lib.hid hds
        clear hv hds
        have b0' : wr.cell? ⟨g, 0, none⟩ = some (.pointer (some ⟨gd, 0, none⟩)) := (World.cell?_of_block ((ext_trans hb3 hN4.bel).block g hB.lt)).trans b0
        have hrd := read_all (hI.ext (ext_trans hb3 hN4.bel)) hs (v : Int)
        have Hrd := Lib.hid hrd
        clear hrd
        go_wp2_with fail
        refine Hrd.out.mono ?_
        rintro e w5 ⟨hb5, hrr⟩
        rcases hrr with ⟨k', hk', hkk, g', rfl, hBv, hg'⟩ | ⟨hbad, _⟩
        · obtain rfl : v = k' := by omega
          have hvl : (lastOf S[v]).length = 64 := (Hw.out _ (List.getElem_mem hk')).2 _ (lastOf_mem (Hw.out _ (List.getElem_mem hk')).1)
          have hgd : S.getD v [] = S[v] := by rw [List.getD_eq_getElem?_getD, List.getElem?_eq_getElem hk']; rfl
          rw [hgd] at Hds
          have Hgd := Lib.hid hgd
          clear hgd
          have hm1 : 64 * k + 64 ≤ maxLen := by unfold maxLen; omega
          go_wp2_with (at_builtin
                       refine wpList_appO _ rfl (.tmp 45) (.tmp 46) _ rfl _ _ 1 1 Tryz.underlying57 info_u8 rfl A4 _ c4 _ rfl (hN4.ext hb5).row (some ⟨g', 0, none⟩) 64 64 ((lastOf S[v]).map bv) rfl (by rw [List.length_map, hvl]) ((Rd.blk hBv)) (bvs_one _) ?_ hm1 (by omega) ?_
                       · intro h; cases h
                       intro A6 c6 w6 hrow6 honly6 hA6)
          have hN6 := hN4.grow hb5 hrow6 honly6 hA6
          go_roundw
          case rel => exact ⟨k + 1, A6, c6, by omega, by go_num, by rw [Nat.mul_succ], by rw [Hds.out, Nat.mul_succ, List.map_append]; exact hN6⟩
          case measure => simp [intOf]; omega
        · exact absurd ⟨by omega, by omega⟩ hbad
      · obtain rfl : k = sl.length := by omega
        rw [List.take_length] at hN4
        have hBw : Blk wr w1.heap.size 135 #[.string Z, .int .i64 (ln : Int), .int .i64 (sm : Int), .slice Ax xs.length cx] := hBe.ext (ext_trans hb23 hN4.bel)
        have e1 := hBw.cell 1
        have e2 := hBw.cell 2
        simp only [List.getElem?_toArray, List.getElem?_cons_zero, List.getElem?_cons_succ] at e1 e2
        have hcap := hN4.row.le
        have hlc : (ln : Int) ≤ (c4 : Int) := by omega
        have hblob := Hbl.out
        rw [Hsl.out] at hblob
        have hrow : RowO wr 5 1 A4 ln c4 ((blobOf S ⟨nm, ln, sm, xs⟩).map bv) := hN4.row.sub (by omega) (by rw [hblob, List.length_map, List.length_take, Hdl.out]; omega) (fun j u hu => by
          rw [hblob, List.getElem?_map] at hu
          rw [List.getElem?_map]
          rw [List.getElem?_take] at hu
          split at hu
          · exact hu
          · cases hu)
        have hbll : (blobOf S ⟨nm, ln, sm, xs⟩).length = ln := by rw [hblob, List.length_take, Hdl.out]; omega
        have hN5 : NewO w3 wr 5 1 A4 ln c4 ((blobOf S ⟨nm, ln, sm, xs⟩).map bv) := ⟨hrow, hN4.bel, hN4.2.2⟩
        obtain ⟨bl, hblx⟩ : ∃ bl, blobOf S ⟨nm, ln, sm, xs⟩ = bl := ⟨_, rfl⟩
        rw [hblx] at hrow hbll hN5
        have Hblx := Lib.hid hblx
        have Hrow := Lib.hid hrow
        subst hbll
        clear hblx hblob hrow hcap
        have hsm : ∀ W, (∃ q, W = (wr.alloc (.cells #[.slice A4 bl.length c4] 57)).drewN q) → Calls Tryz.prog 75 #[.slice (some ⟨wr.heap.size, 0, none⟩) 1 1] W fun e w' => e = .returned (.int .u32 (sumOf bl : Int)) ∧ W = w' := by
          rintro W ⟨q, rfl⟩
          exact sum_any _ 1 1 [bl] _ _ (((ht.ext (ext_trans hb3 hN4.bel)).alloc _).drewN q) rfl (by simp) (RowsF.one (RdF.of Hrow.out.rd) Hrow.out.le _ rfl id) (by omega) (by simp)
        have Hsm := Lib.hid hsm
        have hsb := sumOf_lt bl
        obtain ⟨sb, hsb'⟩ : ∃ sb, sumOf bl = sb := ⟨_, rfl⟩
        rw [hsb'] at hsb
        have Hsb := Lib.hid hsb'
        have hsbi : (sb : Int) ≤ 4294967295 := by omega
        have hwr : IntKind.i64.wrap (sb : Int) = (sb : Int) := IntWalk.i64_in _ (by omega)
        have hS1 : ∀ o, (wr.alloc o).cell? ⟨w1.heap.size, 2, none⟩ = some (.int .i64 (sm : Int)) := fun o => (hBw.alloc o).cell 2
        clear hsm hsb hsb'
        go_wp2
        go_region_held3 (fun w' => w'.cell? ⟨w1.heap.size, 2, none⟩ = some (.int .i64 (sm : Int))) (first | exact e2 | exact hS1 _) (first
          | (go_at_call 75; ((with_reducible refine (Hsm.out _ ?_).mono ?_)); (first | exact ⟨0, rfl⟩ | exact ⟨1, rfl⟩); rintro e w9 ⟨rfl, rfl⟩; rw [Hsb.out]))
        all_goals
          clear hwr
          by_cases hbs : sb = sm
          · have hne : ((sb : Int) != (sm : Int)) = false := by simp; omega
            have Hbs := Lib.hid hbs
            clear hbs
            go_wp2
            go_ret2
            refine ⟨.inr (.inr ⟨_, A4, c4, Hfe.out, by rw [Hblx.out, Hsb.out]; exact Hbs.out, rfl, ?_⟩), ?_⟩
            · rw [Hblx.out]
              exact (hN5.ext (by first | exact ext_drew (ext_alloc (Below.refl _ _) _) | exact ext_alloc (Below.refl _ _) _)).back hb3
            · exact ext_trans (ext_trans hb3 hN4.bel) (by first | exact ext_drew (ext_alloc (Below.refl _ _) _) | exact ext_alloc (Below.refl _ _) _)
          · have hne : ((sb : Int) != (sm : Int)) = true := by simp; omega
            have Hbs := Lib.hid hbs
            clear hbs
            go_wp2
            go_ret2
            refine ⟨.inr (.inl ⟨_, Hfe.out, by rw [Hblx.out, Hsb.out]; exact Hbs.out, rfl⟩), ?_⟩
            exact ext_trans (ext_trans hb3 hN4.bel) (by first | exact ext_drew (ext_alloc (Below.refl _ _) _) | exact ext_alloc (Below.refl _ _) _)
  · have hfe : findE (R.map (·.e)) s = none := by
      cases h : findE (R.map (·.e)) s with
      | none => rfl
      | some e =>
        obtain ⟨h1, h2⟩ := findE_some h
        obtain ⟨r, hr, rfl⟩ := List.mem_map.1 h1
        exact absurd h2 (hno r hr)
    have Hfe := Lib.hid hfe
    unfold zeroEnt
    clear hno hfe
    go_wp2
    go_ret2
    exact ⟨.inl ⟨Hfe.out, rfl⟩, ext_alloc hb1 _⟩
end Go.Proofs.YtdpmfcifgimleaaGreatDoor

/-
  The contract of a directory's image. No statement of the seat is proved here.
-/
namespace Go.Proofs.YtdpmfcifgimleaaGreatDoor
open Go Go.RowKit

/-- what a Writer of the call's own may hold: what was born below B, but 'ex' -/
def FpB (W : World) (B : Nat) (ex : Nat → Prop) : Nat → Prop := fun k => W.heap.size ≤ k ∧ k < B ∧ ¬ ex k
def WrB (W w : World) (ex : Nat → Prop) (g : Nat) (bs : List UInt8) : Prop := Wr w (FpB W w.heap.size ex) g (bs.map bv) ∧ Below W.heap.size W w
section
variable {W w wa : World} {ex : Nat → Prop} {g : Nat} {bs : List UInt8}
theorem WrB.nums (h : WrB W w ex g bs) (hb : Below w.heap.size w wa) (hex : ∀ k, ex k → k < wa.heap.size) (A : Option Addr) (n c : Nat) (vs : List Int) (hn : n = vs.length) (hr : Rd wa A (vs.map iv)) (hA : ∀ ad, A = some ad → w.heap.size ≤ ad.block) (hi : ∀ v ∈ vs, isInt v) (hl : bs.length + 9 * vs.length ≤ 549755813888) :
    Calls Tryz.prog 85 #[.pointer (some ⟨g, 0, none⟩), .slice A n c] wa fun e w' => e = .returned (.tuple #[]) ∧ WrB W w' ex g (bs ++ numsB vs) ∧ Only (FpB W w.heap.size ex) wa w' := by
  refine (nums_any (FpB W w.heap.size ex) g A n c vs (bs.map bv) wa (h.1.ext hb) hn ⟨hr, fun ad e _ hk => by have := hA ad e; have := hk.2.1; omega⟩ hi (by rw [List.length_map]; exact hl)).mono ?_
  rintro e w' ⟨rfl, h1, h2⟩
  have z1 := h.2.size
  have z2 := hb.size
  have z3 := h2.size
  refine ⟨rfl, ⟨?_, (ext_trans h.2 hb).trans (h2.below (fun k hk => hk.1) (by omega))⟩, h2⟩
  rw [List.map_append]
  refine h1.mono fun k hk _ => ?_
  rcases hk with hk | hk
  · exact ⟨hk.1, by have := hk.2.1; omega, hk.2.2⟩
  · exact ⟨by omega, hk.2, fun he => by have := hex k he; omega⟩
theorem WrB.bytes (h : WrB W w ex g bs) (hb : Below w.heap.size w wa) (hex : ∀ k, ex k → k < wa.heap.size) (A : Option Addr) (n c : Nat) (xss : List (List UInt8)) (hn : n = xss.length) (hr : RowsF (FpB W w.heap.size ex) wa A xss) (hl : bs.length + (rowsB xss).length ≤ 549755813888) (hl2 : xss.length ≤ 549755813888) :
    Calls Tryz.prog 86 #[.pointer (some ⟨g, 0, none⟩), .slice A n c] wa fun e w' => e = .returned (.tuple #[]) ∧ WrB W w' ex g (bs ++ rowsB xss) ∧ Only (FpB W w.heap.size ex) wa w' := by
  refine (bytes_any (FpB W w.heap.size ex) g A n c xss (bs.map bv) wa (h.1.ext hb) hn hr (by rw [List.length_map]; exact hl) hl2).mono ?_
  rintro e w' ⟨rfl, h1, h2⟩
  have z1 := h.2.size
  have z2 := hb.size
  have z3 := h2.size
  refine ⟨rfl, ⟨?_, (ext_trans h.2 hb).trans (h2.below (fun k hk => hk.1) (by omega))⟩, h2⟩
  rw [List.map_append]
  refine h1.mono fun k hk _ => ?_
  rcases hk with hk | hk
  · exact ⟨hk.1, by have := hk.2.1; omega, hk.2.2⟩
  · exact ⟨by omega, hk.2, fun he => by have := hex k he; omega⟩
end
theorem WrB.ex {W w : World} {ex ex' : Nat → Prop} {g : Nat} {bs : List UInt8} (h : WrB W w ex g bs) (hx : ∀ k, k < w.heap.size → ex' k → ex k) : WrB W w ex' g bs :=
  ⟨h.1.mono fun k hk hl => ⟨hk.1, hk.2.1, fun he => hk.2.2 (hx k hl he)⟩, h.2⟩
theorem ents_take_succ (L : List Ent) (k : Nat) (h : k < L.length) : (L.take (k + 1)).flatMap entB = (L.take k).flatMap entB ++ entB L[k] := by
  rw [List.take_succ_eq_append_getElem h, List.flatMap_append]; simp
theorem exts_take_succ (l : List (Nat × Nat)) (k : Nat) (h : k < l.length) : (l.take (k + 1)).flatMap extB = (l.take k).flatMap extB ++ extB l[k] := by
  rw [List.take_succ_eq_append_getElem h, List.flatMap_append]; simp
theorem flat_le {α : Type} (f : α → List UInt8) (l : List α) (k : Nat) : ((l.take k).flatMap f).length ≤ (l.flatMap f).length := by
  conv => rhs; rw [← List.take_append_drop k l, List.flatMap_append, List.length_append]
  omega
/-- numbers that may be written -/
def Nums (L : List Ent) : Prop := ∀ e ∈ L, e.len ≤ 4611686018427387904 ∧ e.sum ≤ 4611686018427387904 ∧ e.ext.length ≤ 4611686018427387904 ∧ e.name.length ≤ 1000000 ∧ ∀ x ∈ e.ext, x.1 ≤ 4611686018427387904 ∧ x.2 ≤ 4611686018427387904

set_option maxRecDepth 100000 in
set_option maxHeartbeats 4000000 in
theorem dirimage_any {w : World} (A : Option Addr) (c : Nat) (R : List Raw) (hD : DirR w A c R) (hN : Nums (R.map (·.e))) (hl : (dirB (R.map (·.e))).length ≤ 100000000000) (hn : R.length ≤ 1000000) :
    Calls Tryz.prog 41 #[.slice A R.length c] w fun e w' => ∃ A' c', e = .returned (.slice A' (dirB (R.map (·.e))).length c') ∧ New w w' A' c' (dirB (R.map (·.e))) ∧ Below w.heap.size w w' := by
  have hni : (R.length : Int) ≤ 1000000 := by omega
  obtain ⟨P, hP⟩ : ∃ P : Nat → List UInt8, P = fun k => numsB [(R.length : Int)] ++ ((R.map (·.e)).take k).flatMap entB := ⟨_, rfl⟩
  have hP0 : P 0 = numsB [(R.length : Int)] := by rw [hP]; simp
  have hPn : dirB (R.map (·.e)) = P R.length := by
    rw [hP]
    show _ = _ ++ ((R.map (·.e)).take R.length).flatMap entB
    rw [List.take_of_length_le (by simp)]
    unfold dirB
    rw [List.length_map]
  rw [hPn] at hl ⊢
  have hPl : ∀ k, (P k).length ≤ 100000000000 := fun k => by
    refine Nat.le_trans ?_ hl
    rw [hP]
    show (numsB [(R.length : Int)] ++ ((R.map (·.e)).take k).flatMap entB).length ≤ (numsB [(R.length : Int)] ++ ((R.map (·.e)).take R.length).flatMap entB).length
    rw [List.length_append, List.length_append]
    have := flat_le entB ((R.map (·.e)).take R.length) k
    rw [List.take_take] at this
    have h2 : ((R.map (·.e)).take k).flatMap entB = ((R.map (·.e)).take (min k R.length)).flatMap entB := by
      rcases Nat.le_total k R.length with h | h
      · rw [Nat.min_eq_left h]
      · rw [Nat.min_eq_right h, List.take_of_length_le (by simpa using h), List.take_of_length_le (by simp)]
    rw [h2]
    omega
  have hPs : ∀ k (h : k < R.length), P (k + 1) = P k ++ entB R[k].e := fun k h => by
    rw [hP]
    show _ ++ _ = (_ ++ _) ++ _
    rw [ents_take_succ _ k (by simpa using h), List.append_assoc]
    simp
  have HP0 := Lib.hid hP0
  have HPl := Lib.hid hPl
  have HPs := Lib.hid hPs
  clear hP hP0 hPn hl hPl hPs
  have hWB : WrB w (w.alloc (.cells #[.slice none 0 0] 153)) (fun _ => False) w.heap.size [] := ⟨Wr.new w _ ⟨Nat.le_refl _, by simp, id⟩, ext_alloc (Below.refl _ _) _⟩
  have hnm0 := hWB.nums (wa := (w.alloc (.cells #[.slice none 0 0] 153)).alloc (.cells #[.int .i64 (R.length : Int)] 3)) (ext_alloc (Below.refl _ _) _) (fun k hk => hk.elim) (some ⟨w.heap.size + 1, 0, none⟩) 1 1 [(R.length : Int)] rfl (Rd.lit_at _ _ _ (by simp)) (fun ad e => by injection e with e; subst e; simp) (fun v hv => by simp at hv; subst hv; exact ⟨by omega, by omega⟩) (by simp)
  rw [List.nil_append, ← HP0.out] at hnm0
  have Hnm0 := Lib.hid hnm0
  clear hnm0
  go_enter Tryz.func41, Tryz.ntmps41
  go_wp2_with fail
  refine Hnm0.out.mono ?_
  rintro e w1 ⟨rfl, hW1, -⟩
  go_wp2
  go_loopw [14] (fun i w2 => ∃ (k : Nat), k ≤ R.length ∧ i = .int .i64 (k : Int) ∧ WrB w w2 (fun _ => False) w.heap.size (P k)) (fun i _ => R.length - (intOf i).toNat)
  case atStart => exact ⟨0, Nat.zero_le _, rfl, hW1⟩
  case round =>
    obtain ⟨k, hk, rfl, hW⟩ := hrel
    obtain ⟨wo, hwo⟩ : ∃ wo : World, wo = wr := ⟨_, rfl⟩
    subst hwo
    by_cases hlt : k < R.length
    · have hki : (k : Int) < (R.length : Int) := by omega
      obtain ⟨ge, oe, rfl, q0, q1, q2, q3⟩ := (hD.keep hW.2).cell hlt
      have hx := hD.ext R[k] (List.getElem_mem hlt)
      have hnn := hN R[k].e (List.mem_map.2 ⟨_, List.getElem_mem hlt, rfl⟩)
      have hps := HPs.out k hlt
      obtain ⟨r, hr⟩ : ∃ r, R[k] = r := ⟨_, rfl⟩
      rw [hr] at q0 q1 q2 q3 hx hnn hps
      have Hps := Lib.hid hps
      clear hr hps
      obtain ⟨⟨nm, ln, sm, xs⟩, Ax, cx⟩ := r
      dsimp only at q0 q1 q2 q3 hx hnn
      unfold iv at q1 q2
      obtain ⟨hn1, hn2, hn3, hn5, hn4⟩ := hnn
      have hpl := HPl.out k
      have hpl1 := HPl.out (k + 1)
      rw [Hps.out] at hpl1
      unfold entB at hpl1
      simp only [List.length_append] at hpl1
      obtain ⟨wa, hwa⟩ : ∃ wa, wo.alloc (.cells #[strV nm, .int .i64 (ln : Int), .int .i64 (sm : Int), .slice Ax xs.length cx] 135) = wa := ⟨_, rfl⟩
      have hba : Below wo.heap.size wo wa := by rw [← hwa]; exact ext_alloc (Below.refl _ _) _
      have hBe : Blk wa wo.heap.size 135 #[strV nm, .int .i64 (ln : Int), .int .i64 (sm : Int), .slice Ax xs.length cx] := by rw [← hwa]; exact Blk.new _ _ _
      have hza : wa.heap.size = wo.heap.size + 1 := by rw [← hwa]; simp
      obtain ⟨An, cn, wb, hrun, hcn, hrdn, hbb, hAn⟩ := conv_str wa nm
      have hzb := hbb.size
      have hWx : WrB w wo (fun k => k = wo.heap.size) w.heap.size (P k) := hW.ex (fun k hk e => by omega)
      have hby := hWx.bytes (wa := wb.alloc (.cells #[.slice An nm.length cn] 57)) (ext_alloc (ext_trans hba hbb) _) (fun k hk => by subst hk; simp; omega) (some ⟨wb.heap.size, 0, none⟩) 1 1 [nm] rfl (RowsF.one ⟨hrdn, fun ad e _ hk => by have := hAn ad e; have := hk.2.1; omega⟩ hcn _ rfl (fun hk => by have := hk.2.1; omega)) (by omega) (by simp)
      have hBb : Blk (wb.alloc (.cells #[.slice An nm.length cn] 57)) wo.heap.size 135 #[strV nm, .int .i64 (ln : Int), .int .i64 (sm : Int), .slice Ax xs.length cx] := (hBe.ext hbb).alloc _
      have Hby := Lib.hid hby
      have Hwa := Lib.hid hwa
      clear hby
      obtain ⟨Z, hZ⟩ : ∃ Z, strV nm = .string Z := ⟨_, rfl⟩
      rw [hZ] at q0 hrun hBb hBe hwa
      have HZ := Lib.hid hZ
      rw [← hwa] at hrun
      clear hZ hwa
      go_wp2_with fail
      refine Hby.out.mono ?_
      rintro e w3 ⟨rfl, hW3, ho3⟩
      have hB3 := hBb.only ho3 (fun hk => hk.2.2 rfl)
      have e1 := hB3.cell 1
      have e2 := hB3.cell 2
      have e3 := hB3.cell 3
      simp only [List.getElem?_toArray, List.getElem?_cons_zero, List.getElem?_cons_succ] at e1 e2 e3
      have hnm := hW3.nums (wa := w3.alloc (.cells #[.int .i64 (ln : Int), .int .i64 (sm : Int), .int .i64 (xs.length : Int)] 3)) (ext_alloc (Below.refl _ _) _) (fun k hk => by subst hk; have := hB3.lt; simp; omega) (some ⟨w3.heap.size, 0, none⟩) 3 3 [(ln : Int), (sm : Int), (xs.length : Int)] rfl (Rd.lit_at _ _ _ rfl) (fun ad e => by injection e with e; subst e; exact Nat.le_refl _) (fun v hv => by simp at hv; rcases hv with rfl | rfl | rfl <;> exact ⟨by omega, by omega⟩) (by simp only [List.length_append, List.length_cons, List.length_nil]; omega)
      have Hnm := Lib.hid hnm
      clear hnm
      go_wp2_with fail
      refine Hnm.out.mono ?_
      rintro e w4 ⟨rfl, hW4, ho4⟩
      have hB4 := (hB3.alloc _).only ho4 (fun hk => hk.2.2 rfl)
      have f3 := hB4.cell 3
      simp only [List.getElem?_toArray, List.getElem?_cons_zero, List.getElem?_cons_succ] at f3
      obtain ⟨Q, hQ⟩ : ∃ Q : Nat → List UInt8, Q = fun j => P k ++ rowsB [nm] ++ numsB [(ln : Int), (sm : Int), (xs.length : Int)] ++ (xs.take j).flatMap extB := ⟨_, rfl⟩
      have hQ0 : P k ++ rowsB [nm] ++ numsB [(ln : Int), (sm : Int), (xs.length : Int)] = Q 0 := by rw [hQ]; simp
      have hQs : ∀ j (h : j < xs.length), Q (j + 1) = Q j ++ extB xs[j] := fun j h => by
        rw [hQ]
        show _ ++ _ = (_ ++ _) ++ _
        rw [exts_take_succ _ j h, ← List.append_assoc]
      have hQn : P (k + 1) = Q xs.length := by
        rw [Hps.out, hQ]
        show _ = _ ++ (xs.take xs.length).flatMap extB
        rw [List.take_length]
        unfold entB
        simp only [List.append_assoc]
      have hQl : ∀ j, (Q j).length ≤ 100000000100 := fun j => by
        rw [hQ]
        show (_ ++ (xs.take j).flatMap extB : List UInt8).length ≤ _
        rw [List.length_append, List.length_append, List.length_append]
        have := flat_le extB xs j
        omega
      rw [hQ0] at hW4
      have HQs := Lib.hid hQs
      have HQn := Lib.hid hQn
      have HQl := Lib.hid hQl
      clear hQ hQ0 hQs hQn hQl hpl hpl1 Hnm Hby hB3 hBb hBe
      have hxsi : (xs.length : Int) ≤ 4611686018427387904 := by omega
      go_wp2
      go_loopw [39] (fun i w5 => ∃ (j : Nat), j ≤ xs.length ∧ i = .int .i64 (j : Int) ∧ WrB w w5 (fun _ => False) w.heap.size (Q j)) (fun i _ => xs.length - (intOf i).toNat)
      case atStart => exact ⟨0, Nat.zero_le _, rfl, hW4.ex (fun _ _ h => h.elim)⟩
      case round =>
        obtain ⟨j, hj, rfl, hW5⟩ := hrel
        by_cases hjn : j < xs.length
        · obtain ⟨gx, ox, rfl, p0, p1⟩ := (hx.ext hW5.2).cell hjn
          have hxe := hn4 xs[j] (List.getElem_mem hjn)
          have hqs := HQs.out j hjn
          obtain ⟨x, hxx⟩ : ∃ x, xs[j] = x := ⟨_, rfl⟩
          rw [hxx] at p0 p1 hxe hqs
          have Hqs := Lib.hid hqs
          clear hxx hqs
          obtain ⟨xb, xn⟩ := x
          dsimp only at p0 p1 hxe
          unfold iv at p0 p1
          have hql := HQl.out j
          have hnm5 := hW5.nums (wa := (wr.alloc (.cells #[.int .i64 (xb : Int), .int .i64 (xn : Int)] 128)).alloc (.cells #[.int .i64 (xb : Int), .int .i64 (xn : Int)] 3)) (ext_alloc (ext_alloc (Below.refl _ _) _) _) (fun k hk => hk.elim) (some ⟨wr.heap.size + 1, 0, none⟩) 2 2 [(xb : Int), (xn : Int)] rfl (Rd.lit_at _ _ _ (by simp)) (fun ad e => by injection e with e; subst e; simp) (fun v hv => by simp at hv; rcases hv with rfl | rfl <;> exact ⟨by omega, by omega⟩) (by simp only [List.length_cons, List.length_nil]; omega)
          have Hnm5 := Lib.hid hnm5
          clear hnm5 hql
          go_wp2_with fail
          refine Hnm5.out.mono ?_
          rintro e w6 ⟨rfl, hW6, -⟩
          go_wp2
          go_roundw
          case rel => exact ⟨j + 1, by omega, by go_num, by rw [Hqs.out]; exact hW6⟩
          case measure => simp [intOf]; omega
        · obtain rfl : j = xs.length := by omega
          rw [← HQn.out] at hW5
          go_wp2
          go_roundw
          case rel => exact ⟨k + 1, by omega, by go_num, hW5⟩
          case measure => simp [intOf]; omega
    · obtain rfl : k = R.length := by omega
      have hout := out_any _ w.heap.size (P R.length) wo hW.1 (by have := HPl.out R.length; omega)
      have Hout := Lib.hid hout
      clear hout
      go_wp2_with fail
      refine Hout.out.mono ?_
      rintro e w3 ⟨A3, c3, rfl, hn3, hb3⟩
      go_wp2
      go_ret
      exact ⟨A3, c3, rfl, hn3.back hW.2.size, ext_trans hW.2 hb3⟩
end Go.Proofs.YtdpmfcifgimleaaGreatDoor

/-
  The contract of rows: slices.Chunk collected. No statement of the seat is proved here.
-/
namespace Go.Proofs.YtdpmfcifgimleaaGreatDoor
open Go Go.RowKit Go.Shelf Go.Proofs

attribute [local go_sem] Oper.semAt_some

/-- a slice's three parts -/
abbrev Sl := Option Addr × Nat × Nat
def encS (x : Sl) : Value := .slice x.1 x.2.1 x.2.2
def upTo' (f : Nat → Sl) (k : Nat) : List Sl := (List.range k).map f
theorem upTo'_succ (f : Nat → Sl) (k : Nat) : upTo' f (k + 1) = upTo' f k ++ [f k] := by simp [upTo', List.range_succ]
theorem upTo'_length (f : Nat → Sl) (k : Nat) : (upTo' f k).length = k := by simp [upTo']
/-- chunk number k of a slice of m bytes -/
def chunkS (ad : Addr) (m : Nat) (k : Nat) : Sl := (some (ad.add (64 * k)), min 64 (m - 64 * k), min 64 (m - 64 * k))

theorem chunk_any (A : Option Addr) (m c : Nat) (w : World) :
    Calls Tryz.prog 149 #[.slice A m c, .int .i64 64] w fun e w' => e = .returned (.func (.func 189) #[] #[.pointer (some ⟨w.heap.size, 0, none⟩), .pointer (some ⟨w.heap.size + 1, 0, none⟩)]) ∧ w' = (w.alloc (.cells #[.slice A m c] 57)).alloc (.cells #[.int .i64 64] 3) := by
  go_enter Tryz.func149, Tryz.ntmps149
  go_wp2
  go_ret
  exact ⟨rfl, rfl⟩

set_option maxRecDepth 100000 in
set_option maxHeartbeats 4000000 in
theorem chunk1_in (n : Nat) (hn : 1 ≤ n) (l Bs Bn n₀ m c : Nat) (ad : Addr) (hc : m ≤ c) (hm : m ≤ 1000000) (hb1 : Bs < n₀) (hb2 : Bn < n₀) (J Jx : List Sl → World → Prop)
    (hY : ∀ pre x W, J pre W → pre.length < needN m → YieldAt Fence.wide (n - 1) Tryz.prog l #[encS x] W fun e W' =>
      (e = .returned (.bool true) ∧ J (pre ++ [x]) W' ∧ Below n₀ W W') ∨ (e = .returned (.bool false) ∧ Jx (pre ++ [x]) W'))
    (W : World) (hBs : W.cell? ⟨Bs, 0, none⟩ = some (.slice (some ad) m c)) (hBn : W.cell? ⟨Bn, 0, none⟩ = some (.int .i64 64)) (hJd : ∀ s W q, J s W → J s (W.drewN q)) (h0 : J [] W) :
    CallsIn Fence.wide n Tryz.prog 189 #[.func (.yield l) #[] #[], .pointer (some ⟨Bs, 0, none⟩), .pointer (some ⟨Bn, 0, none⟩)] W fun e W' => (∃ v, e = .returned v) ∧
      ((∃ ys, ys = upTo' (chunkS ad m) (needN m) ∧ J ys W') ∨ (∃ pre, (∃ k, k ≤ needN m ∧ pre = upTo' (chunkS ad m) k) ∧ Jx pre W')) := by
  refine callsIn_of_wp Tryz.func189 rfl trivial ?_ rfl
  simp only [Tryz.ntmps189, List.size_toArray, List.length_cons, List.length_nil, Nat.reduceAdd, Nat.reduceSub, Array.replicate_succ, Array.replicate_zero, List.push_toArray, List.append_toArray, List.nil_append, List.cons_append]
  gi_wp2
  gi_loopw [4, 5] (fun i _ wr => ∃ k : Nat, k ≤ needN m ∧ i = .int .i64 ((64 * k : Nat) : Int) ∧ J (upTo' (chunkS ad m) k) wr ∧ Below n₀ W wr)
    (fun i _ _ => 64 * needN m - (intOf i).toNat)
  case atStart => exact ⟨0, Nat.zero_le _, rfl, h0, Below.refl _ _⟩
  case round =>
    obtain ⟨k, hk, rfl, hJs, hnx⟩ := hrel
    have c1 : wr.cell? ⟨Bs, 0, none⟩ = some (.slice (some ad) m c) := (hnx.cell (p := ⟨Bs, 0, none⟩) hb1).trans hBs
    have c2 : wr.cell? ⟨Bn, 0, none⟩ = some (.int .i64 64) := (hnx.cell (p := ⟨Bn, 0, none⟩) hb2).trans hBn
    by_cases hlt : k < needN m
    · have hkm : 64 * k < m := by unfold needN at hlt; omega
      have hki : (64 * (k : Int)) < (m : Int) := by omega
      obtain ⟨t, ht⟩ : ∃ t, 64 * k = t := ⟨_, rfl⟩
      obtain ⟨q, hq⟩ : ∃ q, min 64 (m - t) = q := ⟨_, rfl⟩
      have hqi : min (64 : Int) ((m - t : Nat) : Int) = (q : Int) := by omega
      have hq0 : t + q ≤ c := by omega
      have hq1 : 0 < q := by omega
      have hch : encS (chunkS ad m k) = .slice (some (ad.add t)) q q := by unfold encS chunkS; rw [ht, hq]
      have Hch := Lib.hid hch
      have hti : (t : Int) + (q : Int) ≤ (c : Int) := by omega
      have hti2 : (t : Int) ≤ 1000000 := by omega
      have hqi2 : (q : Int) ≤ 64 := by omega
      rw [ht] at hkm ⊢
      have hkm' : (t : Int) < (m : Int) := by omega
      have Ht := Lib.hid ht
      have Hq := Lib.hid hq
      clear hch ht hki hq
      gi_wp2
      gi_quiet (fail)
      obtain ⟨fn, tmps, assign, body, hy, hR⟩ := hY _ (chunkS ad m k) (wr.drewN nq) (hJd _ _ _ hJs) (by rw [upTo'_length]; exact hlt)
      rw [Hch.out] at hy
      have c1' : (wr.drewN nq).cell? ⟨Bs, 0, none⟩ = some (.slice (some ad) m c) := c1
      gi_wp2
      refine hR.mono ?_
      rintro e W3 (⟨rfl, hJ3, hk3⟩ | ⟨rfl, hJx3⟩)
      · have c3 : W3.cell? ⟨Bn, 0, none⟩ = some (.int .i64 64) := (hk3.cell (p := ⟨Bn, 0, none⟩) hb2).trans c2
        gi_wp2
        go_roundw
        case rel =>
          refine ⟨k + 1, by omega, by rw [← Ht.out]; simp [Int.mul_add], by rw [upTo'_succ]; exact hJ3, ?_⟩
          exact hnx.trans ⟨hk3.os, hk3.tape, hk3.output, hk3.size, hk3.block⟩
        case measure => simp [intOf]; have := Ht.out; omega
      · gi_wp2
        refine bodyPost_ret (results_none rfl _ _ _) rfl ?_
        exact ⟨⟨_, rfl⟩, .inr ⟨_, ⟨k + 1, by omega, (upTo'_succ _ _).symm⟩, hJx3⟩⟩
    · obtain rfl : k = needN m := by omega
      obtain ⟨t, ht⟩ : ∃ t, 64 * needN m = t := ⟨_, rfl⟩
      have hle : (m : Int) ≤ (t : Int) := by have h9 : m ≤ 64 * needN m := by { unfold needN; omega }; omega
      rw [ht]
      clear ht
      gi_wp2
      go_end0
      exact ⟨⟨_, rfl⟩, .inl ⟨_, rfl, hJs⟩⟩

theorem chunk1_nil_in (n : Nat) (l Bs Bn c : Nat) (J : List Sl → World → Prop) (W : World) (hBs : W.cell? ⟨Bs, 0, none⟩ = some (.slice none 0 c)) (h0 : J [] W) :
    CallsIn Fence.wide n Tryz.prog 189 #[.func (.yield l) #[] #[], .pointer (some ⟨Bs, 0, none⟩), .pointer (some ⟨Bn, 0, none⟩)] W fun e W' => (∃ v, e = .returned v) ∧ J [] W' := by
  refine callsIn_of_wp Tryz.func189 rfl trivial ?_ rfl
  simp only [Tryz.ntmps189, List.size_toArray, List.length_cons, List.length_nil, Nat.reduceAdd, Nat.reduceSub, Array.replicate_succ, Array.replicate_zero, List.push_toArray, List.append_toArray, List.nil_append, List.cons_append]
  gi_wp2
  gi_loopw [4] (fun i wr => i = .int .i64 0 ∧ J [] wr ∧ wr.cell? ⟨Bs, 0, none⟩ = some (.slice none 0 c)) (fun _ _ => 0)
  case atStart => exact ⟨rfl, h0, hBs⟩
  case round =>
    obtain ⟨rfl, hJs, hB⟩ := hrel
    gi_wp2
    go_end0
    exact ⟨⟨_, rfl⟩, hJs⟩

/-- all chunks of a slice -/
def chunksOf (A : Option Addr) (m : Nat) : List Sl := match A with | none => [] | some ad => upTo' (chunkS ad m) (needN m)
theorem chunk_stops (n : Nat) (hn : 1 ≤ n) (Bs Bn n₀ m c : Nat) (A : Option Addr) (hA : A = none → m = 0) (hc : m ≤ c) (hm : m ≤ 1000000) (w : World) (hb1 : Bs < n₀) (hb2 : Bn < n₀) (hn0 : n₀ ≤ w.heap.size)
    (hBs : w.cell? ⟨Bs, 0, none⟩ = some (.slice A m c)) (hBn : w.cell? ⟨Bn, 0, none⟩ = some (.int .i64 64)) :
    SeqStopsK Fence.wide n Tryz.prog 189 #[.pointer (some ⟨Bs, 0, none⟩), .pointer (some ⟨Bn, 0, none⟩)] (fun x : Sl => #[encS x]) (Below n₀) (fun ys => ys = chunksOf A m) (fun pre => ∃ k, pre = (chunksOf A m).take k) (needN m) w := by
  intro l J Jx W hW hJ _ hY h0
  have hBs' := (hW.cell (p := ⟨Bs, 0, none⟩) (by show Bs < _; omega)).trans hBs
  have hBn' := (hW.cell (p := ⟨Bn, 0, none⟩) (by show Bn < _; omega)).trans hBn
  cases A with
  | none =>
    obtain rfl := hA rfl
    exact (chunk1_nil_in n l Bs Bn c J W hBs' h0).mono fun e W' ⟨he, hj⟩ => ⟨he, .inl ⟨_, rfl, hj⟩⟩
  | some ad =>
    refine (chunk1_in n hn l Bs Bn n₀ m c ad hc hm hb1 hb2 J Jx hY W hBs' hBn' (fun s A q hs => ?_) h0).mono ?_
    · exact hJ s A _ none hs ⟨rfl, rfl, rfl, Nat.le_refl _, fun _ _ _ => rfl⟩ (fun r e => by cases e)
    · rintro e W' ⟨he, ⟨ys, rfl, hj⟩ | ⟨pre, ⟨k, hk, rfl⟩, hj⟩⟩
      · exact ⟨he, .inl ⟨_, rfl, hj⟩⟩
      · refine ⟨he, .inr ⟨_, ⟨k, ?_⟩, hj⟩⟩
        unfold chunksOf upTo'
        rw [← List.map_take, List.take_range, Nat.min_eq_left hk]

theorem info_bytes : (Tryz.prog.info? 57).map (fun i => (i.zero, i.size, i.bytes)) = some (some (.slice none 0 0), 1, 24) := by kernel_rfl

set_option maxRecDepth 100000 in
set_option maxHeartbeats 4000000 in
/-- slices.AppendSeq(nil, seq), against whatever iterator -/
theorem appendseq_in (n : Nat) (hn : 2 ≤ n) (g : Nat) (lb : Array Value) (eg : ∀ args w, (callFunc g args).run Tryz.prog w = .ok (.enter g args) w) (all : List Sl) (N : Nat) (hN : N ≤ 1000000) (w : World) (n₀ : Nat) (hn0 : n₀ ≤ w.heap.size) (Sp : List Sl → Prop) (hall : all.length ≤ N)
    (hseq : SeqStopsK Fence.wide (n - 1) Tryz.prog g lb (fun x : Sl => #[encS x]) (Below n₀) (fun ys => ys = all) Sp N w) :
    CallsIn Fence.wide n Tryz.prog 188 #[.slice none 0 0, .func (.func g) #[] lb] w fun e W' => ∃ v, e = .returned v ∧ W'.ownsRow w.heap.size 57 1 v all.length (all.map encS) ∧ Below w.heap.size w W' := by
  have h1 : 1 ≤ n := by omega
  obtain ⟨i0, hi, hz0, hz1, hz2⟩ := info_parts info_bytes
  refine callsIn_of_wp_marks Tryz.func188 rfl trivial ?_ rfl
  simp only [Tryz.ntmps188, List.size_toArray, List.length_cons, List.length_nil, Nat.reduceAdd, Nat.reduceSub, Array.replicate_succ, Array.replicate_zero, List.push_toArray, List.append_toArray, List.nil_append, List.cons_append]
  gi_wp2
  have bO := Boxed.new w 150 (.slice none 0 0)
  have hB0 : Below w.heap.size w (w.alloc (.cells #[.slice none 0 0] 150)) := (Below.refl _ w).alloc (Nat.le_refl _) _
  refine wpIn_rangeFunc_ownG rfl h1 (gf := g) (lb := lb) rfl trivial eg hseq belowK_t (belowK_b (by simp; omega)) (hB0.mono (Nat.le_refl _)) (fun _ => rfl)
    (fun pre W => (∃ v, Boxed W w.heap.size 150 v ∧ W.ownsRow w.heap.size 57 1 v pre.length (pre.map encS) ∧ True) ∧ Below w.heap.size w W)
    (fun _ _ _ => False)
    (OwnFrom.and (Own.from (holdsRow_own w.heap.size w.heap.size 150 57 1 (fun pre : List Sl => pre.length) (fun pre => pre.map encS) (fun _ _ => True)) _) (ownFrom_below (Nat.le_refl _) (by simp)))
    (fun _ _ _ _ _ hs _ _ => hs)
    ⟨⟨_, bO, World.ownsRow_nil _ _ _ _, trivial⟩, hB0⟩
    (fun x => { tmps := #[.slice none 0 0, .func (.func g) #[] lb, .pointer (some ⟨w.heap.size, 0, none⟩), undef, .slice none 0 0, encS x, .func (.func g) #[] lb, encS x, undef, undef, undef, undef, undef], defers := [] }) ?assign ?body ?done ?stop
  case assign =>
    intro l x W K hK
    gi_wp2
    exact hK
  case body =>
    rintro l pre ⟨xa, xn, xc⟩ W ⟨⟨v, hv, hrow, -⟩, hB⟩ hlt
    have hc := hv.cell
    have hencs : encS (xa, xn, xc) = .slice xa xn xc := rfl
    have Hencs := Lib.hid hencs
    rw [hencs]
    clear hencs
    gi_wp2_with (gi_at_builtin; refine wpListIn_append_own _ rfl _ _ 150 rfl w.heap.size 57 i0 (.slice none 0 0) 1 24 Tryz.underlying150 hi hz0 hz1 hz2 rfl (by decide) _ _ _ rfl (hrow.alloc _) ⟨W.heap.size, 0, none⟩ 1 1 [.slice xa xn xc] rfl rfl (cell_one_new _ _ _) (by simp [Value.oneCell']) (by unfold maxLen; omega) (by omega) (by have := hB.size; simp; omega) ?_; intro v' w1 hown' hgrow _; obtain ⟨g', cap', rfl⟩ := ownsRow_succ hown'; obtain ⟨hv1, hv2, hr2, hk2, hb2⟩ := hv.appended (by decide) hrow hB.size (Nat.le_refl _) hown' hgrow; have hc1 := hv1.cell; have hf1 := hv1.frozen)
    exact ⟨hk2.from _, hb2.mono hn0, ⟨_, hv2, by rw [List.map_append, List.length_append]; exact hr2, trivial⟩, hB.trans hb2⟩
  case done =>
    rintro D ys W hD rfl ⟨⟨v, hv, hrow, -⟩, hB⟩ hK
    have hc := hv.cell
    gi_wp2
    refine ⟨by simp, .inl ⟨_, _, rfl, run_takeDeferred hK, ?_⟩⟩
    exact ⟨_, results_tmp rfl _ _ _, v, rfl, ownsRow_putObj hrow _ hK rfl, hB.trans (belowK_b (w := w) (Nat.le_refl _) W D _ _ (by simp at hD; omega) hK rfl rfl)⟩
  case stop =>
    rintro D c pre W _ _ h _
    exact h.elim
theorem row_of_owns {w W : World} {e : TypeId} {v : Value} {xs : List Value} {n : Nat} (hn : n = xs.length) (h : W.ownsRow w.heap.size e 1 v n xs) (hb : Below w.heap.size w W) : ∃ A c, v = .slice A n c ∧ NewO w W e 1 A n c xs := by
  subst hn
  rcases h.2 with ⟨rfl, h0⟩ | ⟨g, cap, cur, rfl, h1, h2, h3, h4, h5, h6⟩
  · have : xs = [] := List.eq_nil_of_length_eq_zero h0
    subst this
    exact ⟨none, 0, rfl, RowO.none_ _ _ _, hb, fun k hk => absurd hk (inA_none k)⟩
  · refine ⟨_, cap, rfl, ⟨by simp, .inr ⟨g, 0, cur, rfl, h3, h4, h2, by omega, fun j u hu => ?_⟩⟩, hb, fun k hk => ?_⟩
    · rw [Nat.zero_add]
      have hj : j < xs.length := (List.getElem?_eq_some_iff.1 hu).1
      rw [← hu, ← h6, Nat.mul_one, List.getElem?_take_of_lt hj, Array.getElem?_toList]
    · rw [inA_some] at hk; omega
theorem collect_any (g : Nat) (lb : Array Value) (eg : ∀ args w, (callFunc g args).run Tryz.prog w = .ok (.enter g args) w) (all : List Sl) (N : Nat) (hN : N ≤ 1000000) (w : World) (n₀ : Nat) (hn0 : n₀ ≤ w.heap.size) (Sp : List Sl → Prop) (hall : all.length ≤ N)
    (hseq : SeqStopsK Fence.wide 2 Tryz.prog g lb (fun x : Sl => #[encS x]) (Below n₀) (fun ys => ys = all) Sp N w) :
    Calls Tryz.prog 148 #[.func (.func g) #[] lb] w fun e W' => ∃ A c, e = .returned (.slice A all.length c) ∧ NewO w W' 57 1 A all.length c (all.map encS) := by
  have h := callsIn_wide.1 (appendseq_in 3 (by omega) g lb eg all N hN w n₀ hn0 Sp hall hseq)
  clear hseq eg
  go_enter Tryz.func148, Tryz.ntmps148
  go_wp2_with fail
  refine h.mono ?_
  rintro e W' ⟨v, rfl, hrow, hb⟩
  obtain ⟨A, c, rfl, hN⟩ := row_of_owns (by simp) hrow hb
  go_wp2
  go_ret
  exact ⟨A, c, rfl, hN⟩
theorem chunksOf_length (A : Option Addr) (m : Nat) (hA : A = none → m = 0) : (chunksOf A m).length = needN m := by
  cases A with
  | none => rw [hA rfl]; rfl
  | some ad => simp [chunksOf, upTo'_length]
theorem vrows_any (A : Option Addr) (m c : Nat) (hA : A = none → m = 0) (hc : m ≤ c) (hm : m ≤ 1000000) (w : World) :
    Calls Tryz.prog 103 #[.slice A m c] w fun e W' => ∃ A' c', e = .returned (.slice A' (needN m) c') ∧ NewO w W' 57 1 A' (needN m) c' ((chunksOf A m).map encS) := by
  have hch := chunk_any A m c w
  have hb : Below w.heap.size w ((w.alloc (.cells #[.slice A m c] 57)).alloc (.cells #[.int .i64 64] 3)) := ext_alloc (ext_alloc (Below.refl _ _) _) _
  have hcol := collect_any 189 #[.pointer (some ⟨w.heap.size, 0, none⟩), .pointer (some ⟨w.heap.size + 1, 0, none⟩)] (enters_of Tryz.func189 (by kernel_rfl) rfl) (chunksOf A m) (needN m) (by unfold needN; omega) ((w.alloc (.cells #[.slice A m c] 57)).alloc (.cells #[.int .i64 64] 3)) (w.heap.size + 2) (by simp) _ (by rw [chunksOf_length A m hA]; exact Nat.le_refl _)
    (chunk_stops 2 (by omega) w.heap.size (w.heap.size + 1) (w.heap.size + 2) m c A hA hc hm _ (by omega) (by omega) (by simp)
      (((Blk.new w 57 #[.slice A m c]).alloc _).cell 0) (by have := (Blk.new (w.alloc (.cells #[.slice A m c] 57)) 3 #[.int .i64 64]).cell 0; rwa [World.size_alloc] at this))
  rw [chunksOf_length A m hA] at hcol
  have Hcol := Lib.hid hcol
  clear hcol
  go_enter Tryz.func103, Tryz.ntmps103
  go_wp2_with fail
  refine hch.mono ?_
  rintro e w1 ⟨rfl, rfl⟩
  go_wp2_with fail
  refine Hcol.out.mono ?_
  rintro e w2 ⟨A2, c2, rfl, hN⟩
  go_wp2
  go_ret
  exact ⟨A2, c2, rfl, hN.back hb⟩
/-- a chunk's bytes -/
def chunkB (bs : List UInt8) (k : Nat) : List UInt8 := (bs.drop (64 * k)).take 64
theorem chunkB_length (bs : List UInt8) (k : Nat) : (chunkB bs k).length = min 64 (bs.length - 64 * k) := by simp [chunkB]
theorem chunk_rd {w : World} {A : Option Addr} {bs : List UInt8} (h : Rd w A (bs.map bv)) {k : Nat} (hk : k < needN bs.length) : ∃ X, (chunksOf A bs.length)[k]? = some (X, (chunkB bs k).length, (chunkB bs k).length) ∧ Rd w X ((chunkB bs k).map bv) ∧ ∀ P : Nat → Prop, (∀ ad, A = some ad → P ad.block) → ∀ ad, X = some ad → P ad.block := by
  have hlt : 64 * k < bs.length := by unfold needN at hk; omega
  obtain ⟨ad, rfl, _⟩ := h.at_ (k := 64 * k) (by simpa using hlt)
  refine ⟨some (ad.add (64 * k)), ?_, ?_, fun P hP ad' e => by injection e with e; subst e; rw [block_add]; exact hP ad rfl⟩
  · rw [chunkB_length]
    unfold chunksOf upTo'
    simp only [List.getElem?_map, List.getElem?_range hk, Option.map_some]
    rfl
  · have := (h.add (64 * k)).take 64
    unfold chunkB
    rw [List.map_take, List.map_drop]
    exact this
end Go.Proofs.YtdpmfcifgimleaaGreatDoor

/-
  Blobs that are put, in memory; the contract of place. No statement of the seat is proved here.
-/
namespace Go.Proofs.YtdpmfcifgimleaaGreatDoor
open Go Go.RowKit

/-- a blob that is put: where its data lie -/
structure Blb where
  name : List UInt8
  data : List UInt8
  D : Option Addr
  c : Nat
  deriving Inhabited
def encB (b : Blb) : List Value := [strV b.name, .slice b.D b.data.length b.c]
structure PutR (w : World) (A : Option Addr) (B : List Blb) : Prop where
  rd : Rd w A (B.flatMap encB)
  dat : ∀ b ∈ B, b.data.length ≤ b.c ∧ Rd w b.D (b.data.map bv)
theorem PutR.ext {w w' : World} {A : Option Addr} {B : List Blb} (h : PutR w A B) (hb : Below w.heap.size w w') : PutR w' A B := ⟨h.rd.ext hb, fun b hb' => ⟨(h.dat b hb').1, (h.dat b hb').2.ext hb⟩⟩
theorem cellsB_at (l : List Blb) (k : Nat) (h : k < l.length) (j : Nat) (v : Value) (hv : (encB l[k])[j]? = some v) : (l.flatMap encB)[k * 2 + j]? = some v := by
  have hj : j < 2 := by have := (List.getElem?_eq_some_iff.1 hv).1; simpa [encB] using this
  have e : l.flatMap encB = (l.take k).flatMap encB ++ (encB l[k] ++ (l.drop (k + 1)).flatMap encB) := by
    conv => lhs; rw [← List.take_append_drop k l, List.flatMap_append, List.drop_eq_getElem_cons h]
    rfl
  have hlen : ∀ m : List Blb, (m.flatMap encB).length = m.length * 2 := fun m => by
    induction m with
    | nil => rfl
    | cons x r ih => rw [List.flatMap_cons, List.length_append, ih, List.length_cons]; simp [encB]; omega
  have hl : ((l.take k).flatMap encB).length = k * 2 := by rw [hlen, List.length_take]; congr 1; omega
  rw [e, List.getElem?_append_right (by omega), hl, Nat.add_sub_cancel_left, List.getElem?_append_left (by simpa [encB] using hj)]
  exact hv
theorem flat_of_cell {w : World} {ad : Addr} {u : Value} (h : w.cell? (ad.add 0) = some u) : ∃ g o, ad = ⟨g, o, none⟩ := by
  obtain ⟨g, o, s⟩ := ad
  cases s with
  | none => exact ⟨g, o, rfl⟩
  | some s =>
    unfold World.cell? Addr.add at h
    simp at h
    split at h <;> simp at h
theorem PutR.cell {w : World} {A : Option Addr} {B : List Blb} (h : PutR w A B) {k : Nat} (hk : k < B.length) : ∃ g o, A = some ⟨g, o, none⟩ ∧ w.cell? ⟨g, o + k * 2, none⟩ = some (strV B[k].name) ∧ w.cell? ⟨g, o + k * 2 + 1, none⟩ = some (.slice B[k].D B[k].data.length B[k].c) := by
  obtain ⟨ad, e, c0⟩ := h.rd _ _ (cellsB_at B k hk 0 _ rfl)
  obtain ⟨ad', e', c1⟩ := h.rd _ _ (cellsB_at B k hk 1 _ rfl)
  obtain ⟨ad2, e2, c2⟩ := h.rd _ _ (cellsB_at B 0 (by omega) 0 _ rfl)
  rw [e] at e' e2
  injection e' with e'
  injection e2 with e2
  subst e' e2
  obtain ⟨g, o, rfl⟩ := flat_of_cell c2
  rw [Addr.add_mid] at c0 c1
  rw [← Nat.add_assoc] at c1
  exact ⟨g, o, e, c0, c1⟩

/-! ### what place lays -/
def offs (B : List Blb) (k : Nat) : Nat := ((B.take k).map fun b => needN b.data.length).sum
theorem offs_succ (B : List Blb) (k : Nat) (h : k < B.length) : offs B (k + 1) = offs B k + needN B[k].data.length := by
  unfold offs
  rw [List.take_succ_eq_append_getElem h, List.map_append, List.sum_append]; simp
theorem offs_mono (B : List Blb) {i j : Nat} (h : i ≤ j) : offs B i ≤ offs B j := by
  induction j with
  | zero => obtain rfl : i = 0 := by omega
            exact Nat.le_refl _
  | succ j ih =>
    rcases Nat.lt_or_ge i (j + 1) with hl | hl
    · have h1 := ih (by omega)
      rcases Nat.lt_or_ge j B.length with h2 | h2
      · rw [offs_succ B j h2]; omega
      · unfold offs at h1 ⊢
        rw [List.take_of_length_le (by omega : B.length ≤ j + 1)]
        rw [List.take_of_length_le h2] at h1
        exact h1
    · obtain rfl : i = j + 1 := by omega
      exact Nat.le_refl _
def entK (B : List Blb) (f : List Nat) (k : Nat) : Ent := ⟨(B.getD k default).name, (B.getD k default).data.length, sumOf (B.getD k default).data, joinL ((f.drop (offs B k)).take (needN (B.getD k default).data.length))⟩
def laidTo (B : List Blb) (f : List Nat) (k : Nat) : List Ent := (List.range k).map (entK B f)
theorem laidTo_succ (B : List Blb) (f : List Nat) (k : Nat) : laidTo B f (k + 1) = laidTo B f k ++ [entK B f k] := by simp [laidTo, List.range_succ]
theorem RowO.ne_row {w : World} {e e2 : TypeId} {sz sz2 m m2 c c2 : Nat} {A A2 : Option Addr} {xs ys : List Value} (h : RowO w e sz A m c xs) (h2 : RowO w e2 sz2 A2 m2 c2 ys) (ht : e ≠ e2) : ∀ k, inA A k → ¬ inA A2 k := fun k hk hk2 => by
  rcases h2.2 with ⟨rfl, _⟩ | ⟨g, off, cs, rfl, _, _, hb, _⟩
  · exact inA_none _ hk2
  · rw [inA_some] at hk2
    subst hk2
    exact h.ne_blk hb ht hk
/-- a directory of new memory -/
structure DirN (w w' : World) (A : Option Addr) (n c : Nat) (R : List Raw) : Prop where
  new : NewO w w' 135 4 A n c (cellsR R)
  ext : ∀ r ∈ R, RowO w' 128 2 r.A r.e.ext.length r.c (cellsX r.e.ext) ∧ ∀ k, inA r.A k → w.heap.size ≤ k
theorem DirN.keep {w w1 w2 : World} {A : Option Addr} {n c : Nat} {R : List Raw} (h : DirN w w1 A n c R) (hb : Below w1.heap.size w1 w2) : DirN w w2 A n c R := ⟨h.new.ext hb, fun r hr => ⟨(h.ext r hr).1.ext hb, (h.ext r hr).2⟩⟩
theorem DirN.len {w w' : World} {A : Option Addr} {n c : Nat} {R : List Raw} (h : DirN w w' A n c R) : n = R.length := by
  have hl := h.new.row.1
  rw [cellsR_length] at hl
  omega
theorem DirN.dir {w w' : World} {A : Option Addr} {n c : Nat} {R : List Raw} (h : DirN w w' A n c R) : DirR w' A c R := by
  have hl := h.len
  exact ⟨by have := h.new.row.le; omega, h.new.row.flat, h.new.rd, fun r hr => ExtR.of (h.ext r hr).1⟩
/-- an entry behind them -/
theorem DirN.snoc {w w1 w2 w3 : World} {A A3 : Option Addr} {n c c3 : Nat} {R : List Raw} {r : Raw} (h : DirN w w1 A n c R) (hb : Below w1.heap.size w1 w2) (hr : RowO w2 128 2 r.A r.e.ext.length r.c (cellsX r.e.ext)) (hrn : ∀ k, inA r.A k → w.heap.size ≤ k)
    (h3 : RowO w3 135 4 A3 (n + 1) c3 (cellsR R ++ encR r)) (ho : Only (inA A) w2 w3) (hA : ∀ k, inA A3 k → inA A k ∨ (w2.heap.size ≤ k ∧ k < w3.heap.size)) : DirN w w3 A3 (n + 1) c3 (R ++ [r]) := by
  have he : cellsR (R ++ [r]) = cellsR R ++ encR r := by rw [cellsR_append]; simp [cellsR]
  have hd : (128 : TypeId) ≠ 135 := by decide
  refine ⟨by rw [he]; exact h.new.grow hb h3 ho hA, fun x hx => ?_⟩
  have hrow := h.new.row.ext hb
  rw [List.mem_append] at hx
  rcases hx with hx | hx
  · have h1 := (h.ext x hx).1.ext hb
    exact ⟨h1.only ho (h1.ne_row hrow hd), (h.ext x hx).2⟩
  · simp at hx
    subst hx
    exact ⟨hr.only ho (hr.ne_row hrow hd), hrn⟩
def Laid (w w' : World) (B : List Blb) (f : List Nat) (e : Ending) : Prop :=
  (f.length < offs B B.length ∧ e = .returned (.tuple #[.slice none 0 0, .bool false])) ∨
  (offs B B.length ≤ f.length ∧ ∃ A c R, e = .returned (.tuple #[.slice A B.length c, .bool true]) ∧ DirN w w' A B.length c R ∧ R.map (·.e) = laidTo B f B.length)

set_option maxRecDepth 100000 in
set_option maxHeartbeats 4000000 in
theorem place_any (w : World) (ht : Tab w) (A : Option Addr) (c : Nat) (B : List Blb) (hB : PutR w A B) (F : Option Addr) (cf : Nat) (f : List Nat) (hf : Rd w F (f.map iv')) (hcf : f.length ≤ cf) (hfb : ∀ i ∈ f, i ≤ 1000000) (hfl : f.length ≤ 1000000) (hBl : B.length ≤ 1000000) (hBd : ∀ b ∈ B, b.data.length ≤ 1000000) :
    Calls Tryz.prog 46 #[.slice A B.length c, .slice F f.length cf] w fun e w' => Laid w w' B f e ∧ Below w.heap.size w w' := by
  have hBi : (B.length : Int) ≤ 1000000 := by omega
  go_enter Tryz.func46, Tryz.ntmps46
  go_wp2
  go_loopw [1, 6, 8, 9, 12] (fun fr la _ _ i w1 => ∃ (k : Nat) (A2 : Option Addr) (c2 : Nat) (F2 : Option Addr) (cf2 : Nat) (R : List Raw), k ≤ B.length ∧ i = .int .i64 (k : Int) ∧ offs B k ≤ f.length ∧ fr = .slice F2 (f.length - offs B k) cf2 ∧ f.length - offs B k ≤ cf2 ∧ Rd w F2 ((f.drop (offs B k)).map iv') ∧ la = .slice A2 k c2 ∧ DirN w w1 A2 k c2 R ∧ R.map (·.e) = laidTo B f k) (fun _ _ _ _ i _ => B.length - (intOf i).toNat)
  case atStart => exact ⟨0, none, 0, F, cf, [], Nat.zero_le _, rfl, Nat.zero_le _, rfl, hcf, hf, rfl, ⟨NewO.start _ _ _, fun r hr => by cases hr⟩, rfl⟩
  case round =>
    obtain ⟨k, A2, c2, F2, cf2, R, hk, rfl, hoff, rfl, hcf2, hF2, rfl, hN, hR⟩ := hrel
    by_cases hlt : k < B.length
    · have hki : (k : Int) < (B.length : Int) := by omega
      obtain ⟨gb, ob, rfl, q0, q1⟩ := (hB.ext hN.new.bel).cell hlt
      have hdat := hB.dat B[k] (List.getElem_mem hlt)
      have hdl := hBd B[k] (List.getElem_mem hlt)
      have hos := offs_succ B k hlt
      have hls := laidTo_succ B f k
      have hek : entK B f k = ⟨B[k].name, B[k].data.length, sumOf B[k].data, joinL ((f.drop (offs B k)).take (needN B[k].data.length))⟩ := by
        unfold entK
        rw [List.getD_eq_getElem?_getD, List.getElem?_eq_getElem hlt]; rfl
      have hmon := offs_mono B (i := k + 1) (j := B.length) (by omega)
      obtain ⟨b, hb⟩ : ∃ b, B[k] = b := ⟨_, rfl⟩
      rw [hb] at q0 q1 hdat hdl hos hek
      have Hos := Lib.hid hos
      have Hls := Lib.hid hls
      have Hek := Lib.hid hek
      have HR := Lib.hid hR
      have Hb := Lib.hid hb
      have Hmon := Lib.hid hmon
      clear hos hls hek hR hb hmon
      obtain ⟨nm, dt, D, cd⟩ := b
      dsimp only at q0 q1 hdat hdl
      obtain ⟨hdc, hdr⟩ := hdat
      obtain ⟨Z, hZ⟩ : ∃ Z, strV nm = .string Z := ⟨_, rfl⟩
      rw [hZ] at q0
      have HZ := Lib.hid hZ
      obtain ⟨o, ho⟩ : ∃ o, offs B k = o := ⟨_, rfl⟩
      rw [ho] at hoff hcf2 hF2 ⊢
      have Ho := Lib.hid ho
      obtain ⟨fl, hfl'⟩ : ∃ fl, f.length - o = fl := ⟨_, rfl⟩
      rw [hfl'] at hcf2 ⊢
      have Hfl := Lib.hid hfl'
      clear hZ ho hfl'
      have hnd := need_any dt.length
      obtain ⟨nd, hnd'⟩ : ∃ nd, needN dt.length = nd := ⟨_, rfl⟩
      rw [hnd'] at hnd
      have Hnd := Lib.hid hnd'
      have hndb : nd ≤ 1000000 := by rw [← hnd']; unfold needN; omega
      clear hnd'
      go_wp2_with fail
      refine (hnd _ (by omega)).mono ?_
      rintro e w2 ⟨rfl, rfl⟩
      by_cases hroom : fl < nd
      · have hri : (fl : Int) < (nd : Int) := by omega
        go_wp2
        go_ret2
        refine ⟨.inl ⟨?_, rfl⟩, ext_alloc hN.new.bel _⟩
        have h1 := Hmon.out
        rw [Hos.out, Ho.out, Hnd.out] at h1
        have := Hfl.out
        omega
      · have hri : (nd : Int) ≤ (fl : Int) := by omega
        have hnci : (nd : Int) ≤ (cf2 : Int) := by omega
        obtain ⟨wb, hwb⟩ : ∃ wb, wr.alloc (.cells #[.string Z, .slice D dt.length cd] 65) = wb := ⟨_, rfl⟩
        have hbb : Below wr.heap.size wr wb := by rw [← hwb]; exact ext_alloc (Below.refl _ _) _
        have hzb : wb.heap.size = wr.heap.size + 1 := by rw [← hwb]; simp
        have hBb : Blk wb wr.heap.size 65 #[.string Z, .slice D dt.length cd] := by rw [← hwb]; exact Blk.new _ _ _
        have hbw : Below w.heap.size w wb := ext_trans hN.new.bel hbb
        have hcells : ∀ W, Below wb.heap.size wb W → W.cell? ⟨wr.heap.size, 0, none⟩ = some (.string Z) ∧ W.cell? ⟨wr.heap.size, 1, none⟩ = some (.slice D dt.length cd) := fun W hW => ⟨(hBb.ext hW).cell 0, (hBb.ext hW).cell 1⟩
        have hsm : ∀ W g, Below wb.heap.size wb W → W.heap[g]? = some (.cells #[.slice D dt.length cd] 57 (0, 0)) → Calls Tryz.prog 75 #[.slice (some ⟨g, 0, none⟩) 1 1] W fun e w' => e = .returned (.int .u32 (sumOf dt : Int)) ∧ W = w' := fun W g hW hg => by
          have hrow : RowsF (fun _ => False) W (some ⟨g, 0, none⟩) [dt] := by
            refine ⟨[.slice D dt.length cd], RdF.of (Rd.blk (cs := #[.slice D dt.length cd]) hg), rfl, fun j v xs hv hx => ?_⟩
            match j, hv, hx with
            | 0, hv, hx =>
              simp at hv hx
              subst hv hx
              exact ⟨D, cd, rfl, hdc, RdF.of (hdr.ext (ext_trans hbw hW))⟩
          exact sum_any _ 1 1 [dt] dt W (ht.ext (ext_trans hbw hW)) rfl (by simp) hrow (by omega) (by simp)
        have hjn : ∀ W, Below wb.heap.size wb W → Calls Tryz.prog 97 #[.slice F2 nd cf2] W fun e w' => ∃ A' c', e = .returned (.slice A' (joinL ((f.drop o).take nd)).length c') ∧ NewO W w' 128 2 A' (joinL ((f.drop o).take nd)).length c' (cellsX (joinL ((f.drop o).take nd))) := fun W hW => by
          have hl : ((f.drop o).take nd).length = nd := by have := Hfl.out; rw [List.length_take, List.length_drop]; omega
          refine joined_any F2 nd cf2 ((f.drop o).take nd) W hl.symm (by rw [List.map_take]; exact ((hF2.ext (ext_trans hbw hW)).take nd)) (fun i hi => hfb i (List.mem_of_mem_drop (List.mem_of_mem_take hi))) (by omega)
        have hrw : ∀ W, Below wb.heap.size wb W → RowO W 135 4 A2 k c2 (cellsR R) := fun W hW => hN.new.row.ext (ext_trans hbb hW)
        have hsb := sumOf_lt dt
        obtain ⟨sb, hsb'⟩ : ∃ sb, sumOf dt = sb := ⟨_, rfl⟩
        rw [hsb'] at hsb hsm
        obtain ⟨J, hJ⟩ : ∃ J, joinL ((f.drop o).take nd) = J := ⟨_, rfl⟩
        rw [hJ] at hjn
        have Hsb := Lib.hid hsb'
        have HJ := Lib.hid hJ
        have hsbi : (sb : Int) ≤ 4294967295 := by omega
        have hwrp : IntKind.i64.wrap (sb : Int) = (sb : Int) := IntWalk.i64_in _ (by omega)
        have Hsm := Lib.hid hsm
        have Hjn := Lib.hid hjn
        have Hrw := Lib.hid hrw
        have hblk : ∀ W, Below wb.heap.size wb W → Blk W wr.heap.size 65 #[.string Z, .slice D dt.length cd] := fun W hW => hBb.ext hW
        have Hbl := Lib.hid hblk
        clear hblk
        have Hc := Lib.hid hcells
        have Hwb := Lib.hid hwb
        have hm1 : k + 1 ≤ maxLen := by unfold maxLen; omega
        have Hm1 := Lib.hid hm1
        have Hzb := Lib.hid hzb
        clear hsm hjn hrw hcells hwb hsb hsb' hJ hm1 hzb
        go_wp2
        rw [Hwb.out]
        go_region_held3 (fun w' => w'.cell? ⟨wr.heap.size, 0, none⟩ = some (.string Z) ∧ w'.cell? ⟨wr.heap.size, 1, none⟩ = some (.slice D dt.length cd))
          (first | exact ⟨hB3.cell 0, hB3.cell 1⟩ | exact Hc.out _ (by repeat (first | exact hbj | apply ext_alloc | apply ext_drew | exact Below.refl _ _)))
          (first
          | (go_at_call 75; ((with_reducible refine (Hsm.out _ _ ?_ ?_).mono ?_)); (repeat (first | exact hbj | apply ext_alloc | apply ext_drew | exact Below.refl _ _)); (first | exact heap_alloc_new _ _ | (exact hlit)); rintro e w9 ⟨rfl, rfl⟩)
          | (go_at_call 97; ((with_reducible refine (Hjn.out _ ?_).mono ?_)); (repeat (first | apply ext_alloc | apply ext_drew | exact Below.refl _ _)); rintro e wj ⟨Aj, cj, rfl, hNj⟩; have hbj : Below wb.heap.size wb wj := ext_trans (by repeat (first | apply ext_alloc | apply ext_drew | exact Below.refl _ _)) hNj.bel)
          | (refine step_appO _ rfl (.tmp 24) (.tmp 41) 83 rfl 135 _ 4 56 Tryz.underlying83 info_ent rfl A2 k c2 (cellsR R) rfl (Hrw.out _ (by repeat (first | exact hbj | apply ext_alloc | apply ext_drew | exact Below.refl _ _))) (some ⟨_, 0, none⟩) 1 1 [.string Z, .int .i64 (dt.length : Int), .int .i64 (sb : Int), .slice Aj J.length cj] rfl rfl (Rd.lit_at _ _ _ (by first | rfl | simp)) (by intro u hu; simp at hu; rcases hu with rfl | rfl | rfl | rfl <;> rfl) (by intro h; cases h) Hm1.out (by omega) ?_; intro A3 c3 w3 hrow3 honly3 hA3; have hB3 : Blk w3 wr.heap.size 65 #[.string Z, .slice D dt.length cd] := (Hbl.out _ (by repeat (first | exact hbj | apply ext_alloc | apply ext_drew | exact Below.refl _ _))).only honly3 (RowO.ne_blk (Hrw.out _ (by repeat (first | exact hbj | apply ext_alloc | apply ext_drew | exact Below.refl _ _))) (Hbl.out _ (by repeat (first | exact hbj | apply ext_alloc | apply ext_drew | exact Below.refl _ _))) (by decide))))
        have hbx : Below wr.heap.size wr wj := ext_trans hbb hbj
        have hN3 : DirN w w3 A3 (k + 1) c3 (R ++ [⟨entK B f k, Aj, cj⟩]) := by
          have hzz := Hzb.out
          have hzw := hN.new.bel.size
          have hee : encR ⟨entK B f k, Aj, cj⟩ = [.string Z, .int .i64 (dt.length : Int), .int .i64 (sb : Int), .slice Aj J.length cj] := by
            unfold encR iv
            rw [Hek.out]
            dsimp only
            rw [HZ.out, Hsb.out, Ho.out, Hnd.out, HJ.out]
          have hxe : (entK B f k).ext = J := by rw [Hek.out]; dsimp only; rw [Ho.out, Hnd.out, HJ.out]
          refine hN.snoc (w2 := _) ?_ (r := ⟨entK B f k, Aj, cj⟩) ?_ ?_ ?_ honly3 hA3
          · repeat (first | exact hbx | apply ext_alloc | apply ext_drew)
          · show RowO _ _ 2 Aj _ cj _
            rw [hxe]
            repeat (first | exact hNj.row | apply RowO.alloc | apply RowO.drew)
          · intro q hq
            have := hNj.2.2 q hq
            simp at this
            omega
          · rw [hee]; exact hrow3
        have Hrow3 := Lib.hid hrow3
        have Honly3 := Lib.hid honly3
        have HA3 := Lib.hid hA3
        clear hrow3 honly3 hA3
        go_wp2
        go_roundw
        case rel =>
          have h5 : offs B (k + 1) = o + nd := by rw [Hos.out, Ho.out, Hnd.out]
          have h6 := Hfl.out
          refine ⟨k + 1, A3, c3, _, cf2 - nd, R ++ [⟨entK B f k, Aj, cj⟩], by omega, by go_num, by omega, by rw [h5, show f.length - (o + nd) = fl - nd by omega], by omega, ?_, rfl, hN3, by rw [List.map_append, HR.out, Hls.out]; rfl⟩
          rw [h5, ← List.drop_drop, List.map_drop]
          have h7 := hF2.cut (k := nd) (cap := cf2) (by rw [List.length_map, List.length_drop]; omega)
          rw [Nat.mul_one] at h7
          exact h7
        case measure => simp [intOf]; omega
    · obtain rfl : k = B.length := by omega
      go_wp2
      go_ret2
      exact ⟨.inr ⟨hoff, A2, c2, R, rfl, hN, hR⟩, hN.new.bel⟩
end Go.Proofs.YtdpmfcifgimleaaGreatDoor

/-
  DERIVED: THE SHELF's CONTRACTS AT THIS DUMP, IN PLAIN WORDS (tools/lay-plain.mjs out of 'YtdpmfcifgimleaaGreatDoorShelf0.lean', which tools/lay-shelf.mjs wrote): THE SAME DECLARATIONS UNDER THE SAME NAMES: 'import', 'namespace', 'open', 'def', 'theorem' AND NOTHING ELSE: no command of the shelf's: FOR A HAND-IN. Each laying: the table of numbers ('.._ren') and one theorem, a field a fact of the dump's own or the kernel's comparison; each contract: ONE APPLICATION.
-/
namespace Go.Proofs
open Go.Shelf
def Tryz.laySort_ren : Go.Shelf.Ren := ⟨fun | 190 => 95 | 125 => 143 | 258 => 142 | 128 => 176 | 129 => 177 | 302 => 168 | 303 => 169 | 304 => 170 | 305 => 171 | 306 => 172 | 307 => 173 | 308 => 144 | 309 => 174 | 310 => 175 | 333 => 194 | 329 => 195 | 330 => 196 | 334 => 197 | 335 => 198 | 336 => 178 | 344 => 205 | n => n, fun | 31 => 37 | 9 => 9 | 3 => 3 | 46 => 201 | 0 => 0 | 51 => 138 | 53 => 210 | 4 => 4 | 183 => 235 | 182 => 234 | 131 => 167 | 5 => 5 | 218 => 251 | 222 => 228 | 228 => 260 | 229 => 225 | n => n, fun | n => n⟩
theorem Tryz.laySort : Go.Proofs.Lays.n190 Tryz.prog Tryz.laySort_ren := {
  mixed := by kernel_rfl
  f125 := Tryz.func143.trans (congrArg some (by kernel_rfl))
  f128 := Tryz.func176.trans (congrArg some (by kernel_rfl))
  f129 := Tryz.func177.trans (congrArg some (by kernel_rfl))
  f190 := Tryz.func95.trans (congrArg some (by kernel_rfl))
  f258 := Tryz.func142.trans (congrArg some (by kernel_rfl))
  f302 := Tryz.func168.trans (congrArg some (by kernel_rfl))
  f303 := Tryz.func169.trans (congrArg some (by kernel_rfl))
  f304 := Tryz.func170.trans (congrArg some (by kernel_rfl))
  f305 := Tryz.func171.trans (congrArg some (by kernel_rfl))
  f306 := Tryz.func172.trans (congrArg some (by kernel_rfl))
  f307 := Tryz.func173.trans (congrArg some (by kernel_rfl))
  f308 := Tryz.func144.trans (congrArg some (by kernel_rfl))
  f309 := Tryz.func174.trans (congrArg some (by kernel_rfl))
  f310 := Tryz.func175.trans (congrArg some (by kernel_rfl))
  f329 := Tryz.func195.trans (congrArg some (by kernel_rfl))
  f330 := Tryz.func196.trans (congrArg some (by kernel_rfl))
  f333 := Tryz.func194.trans (congrArg some (by kernel_rfl))
  f334 := Tryz.func197.trans (congrArg some (by kernel_rfl))
  f335 := Tryz.func198.trans (congrArg some (by kernel_rfl))
  f336 := Tryz.func178.trans (congrArg some (by kernel_rfl))
  f344 := Tryz.func205.trans (congrArg some (by kernel_rfl))
  t0 := Tryz.underlying0
  a0 := Tryz.isAgg0
  z0 := Tryz.sizeOf0
  v0 := Tryz.zeroValue0
  t3 := Tryz.underlying3
  a3 := Tryz.isAgg3
  z3 := Tryz.sizeOf3
  v3 := Tryz.zeroValue3
  t4 := Tryz.underlying4
  a4 := Tryz.isAgg4
  z4 := Tryz.sizeOf4
  v4 := Tryz.zeroValue4
  t5 := Tryz.underlying5
  a5 := Tryz.isAgg5
  z5 := Tryz.sizeOf5
  v5 := Tryz.zeroValue5
  t9 := Tryz.underlying9
  a9 := Tryz.isAgg9
  z9 := Tryz.sizeOf9
  v9 := Tryz.zeroValue9
  t31 := Tryz.underlying37
  a31 := Tryz.isAgg37
  z31 := Tryz.sizeOf37
  v31 := Tryz.zeroValue37
  t46 := Tryz.underlying201
  a46 := Tryz.isAgg201
  z46 := Tryz.sizeOf201
  v46 := Tryz.zeroValue201
  t51 := Tryz.underlying138
  a51 := Tryz.isAgg138
  z51 := Tryz.sizeOf138
  v51 := Tryz.zeroValue138
  t53 := Tryz.underlying210
  a53 := Tryz.isAgg210
  z53 := Tryz.sizeOf210
  v53 := Tryz.zeroValue210
  t131 := Tryz.underlying167
  a131 := Tryz.isAgg167
  z131 := Tryz.sizeOf167
  v131 := Tryz.zeroValue167
  t182 := Tryz.underlying234
  a182 := Tryz.isAgg234
  z182 := Tryz.sizeOf234
  v182 := Tryz.zeroValue234
  t183 := Tryz.underlying235
  a183 := Tryz.isAgg235
  z183 := Tryz.sizeOf235
  v183 := Tryz.zeroValue235
  t218 := Tryz.underlying251
  a218 := Tryz.isAgg251
  z218 := Tryz.sizeOf251
  v218 := Tryz.zeroValue251
  t222 := Tryz.underlying228
  a222 := Tryz.isAgg228
  z222 := Tryz.sizeOf228
  v222 := Tryz.zeroValue228
  t228 := Tryz.underlying260
  a228 := Tryz.isAgg260
  z228 := Tryz.sizeOf260
  v228 := Tryz.zeroValue260
  t229 := Tryz.underlying225
  a229 := Tryz.isAgg225
  z229 := Tryz.sizeOf225
  v229 := Tryz.zeroValue225 }
def Tryz.laySearch_ren : Go.Shelf.Ren := ⟨fun | 26 => 99 | 33 => 144 | 34 => 145 | 38 => 178 | n => n, fun | 24 => 37 | 9 => 9 | 3 => 3 | 4 => 4 | 40 => 201 | 0 => 0 | n => n, fun | n => n⟩
theorem Tryz.laySearch : Go.Proofs.Lays2.n26 Tryz.prog Tryz.laySearch_ren := {
  mixed := by kernel_rfl
  f26 := Tryz.func99.trans (congrArg some (by kernel_rfl))
  f33 := Tryz.func144.trans (congrArg some (by kernel_rfl))
  f34 := Tryz.func145.trans (congrArg some (by kernel_rfl))
  f38 := Tryz.func178.trans (congrArg some (by kernel_rfl))
  t0 := Tryz.underlying0
  a0 := Tryz.isAgg0
  z0 := Tryz.sizeOf0
  v0 := Tryz.zeroValue0
  t3 := Tryz.underlying3
  a3 := Tryz.isAgg3
  z3 := Tryz.sizeOf3
  v3 := Tryz.zeroValue3
  t4 := Tryz.underlying4
  a4 := Tryz.isAgg4
  z4 := Tryz.sizeOf4
  v4 := Tryz.zeroValue4
  t9 := Tryz.underlying9
  a9 := Tryz.isAgg9
  z9 := Tryz.sizeOf9
  v9 := Tryz.zeroValue9
  t24 := Tryz.underlying37
  a24 := Tryz.isAgg37
  z24 := Tryz.sizeOf37
  v24 := Tryz.zeroValue37
  t40 := Tryz.underlying201
  a40 := Tryz.isAgg201
  z40 := Tryz.sizeOf201
  v40 := Tryz.zeroValue201 }
def Tryz.layCmp_ren : Go.Shelf.Ren := ⟨fun | 122 => 162 | 215 => 191 | n => n, fun | 3 => 3 | 4 => 4 | n => n, fun | n => n⟩
theorem Tryz.layCmp : Go.Proofs.Lays.n122 Tryz.prog Tryz.layCmp_ren := {
  mixed := by kernel_rfl
  f122 := Tryz.func162.trans (congrArg some (by kernel_rfl))
  f215 := Tryz.func191.trans (congrArg some (by kernel_rfl))
  t3 := Tryz.underlying3
  a3 := Tryz.isAgg3
  z3 := Tryz.sizeOf3
  v3 := Tryz.zeroValue3
  t4 := Tryz.underlying4
  a4 := Tryz.isAgg4
  z4 := Tryz.sizeOf4
  v4 := Tryz.zeroValue4 }
def Tryz.layPdq_ren : Go.Shelf.Ren := ⟨fun | 14 => 146 | 20 => 179 | 21 => 180 | 22 => 181 | 23 => 182 | 24 => 183 | 25 => 184 | 26 => 185 | 27 => 186 | 46 => 199 | 47 => 195 | 48 => 196 | 49 => 200 | 50 => 201 | 15 => 143 | 57 => 206 | 28 => 176 | 29 => 177 | n => n, fun | 24 => 135 | 22 => 82 | 3 => 3 | 25 => 171 | 4 => 4 | 0 => 0 | 46 => 235 | 45 => 234 | 50 => 167 | 66 => 251 | 39 => 201 | 55 => 210 | 70 => 228 | 76 => 260 | 77 => 225 | 53 => 138 | 5 => 5 | 9 => 9 | n => n, fun | n => n⟩
theorem Tryz.layPdq : Go.Proofs.SlLaysF0.n14 Tryz.prog Tryz.layPdq_ren := {
  mixed := by kernel_rfl
  f14 := ⟨Tryz.f146.name, by decide, Tryz.func146.trans (congrArg some (by kernel_rfl))⟩
  f15 := Tryz.func143.trans (congrArg some (by kernel_rfl))
  f20 := ⟨Tryz.f179.name, by decide, Tryz.func179.trans (congrArg some (by kernel_rfl))⟩
  f21 := ⟨Tryz.f180.name, by decide, Tryz.func180.trans (congrArg some (by kernel_rfl))⟩
  f22 := ⟨Tryz.f181.name, by decide, Tryz.func181.trans (congrArg some (by kernel_rfl))⟩
  f23 := ⟨Tryz.f182.name, by decide, Tryz.func182.trans (congrArg some (by kernel_rfl))⟩
  f24 := ⟨Tryz.f183.name, by decide, Tryz.func183.trans (congrArg some (by kernel_rfl))⟩
  f25 := ⟨Tryz.f184.name, by decide, Tryz.func184.trans (congrArg some (by kernel_rfl))⟩
  f26 := ⟨Tryz.f185.name, by decide, Tryz.func185.trans (congrArg some (by kernel_rfl))⟩
  f27 := ⟨Tryz.f186.name, by decide, Tryz.func186.trans (congrArg some (by kernel_rfl))⟩
  f28 := Tryz.func176.trans (congrArg some (by kernel_rfl))
  f29 := Tryz.func177.trans (congrArg some (by kernel_rfl))
  f46 := ⟨Tryz.f199.name, by decide, Tryz.func199.trans (congrArg some (by kernel_rfl))⟩
  f47 := Tryz.func195.trans (congrArg some (by kernel_rfl))
  f48 := Tryz.func196.trans (congrArg some (by kernel_rfl))
  f49 := ⟨Tryz.f200.name, by decide, Tryz.func200.trans (congrArg some (by kernel_rfl))⟩
  f50 := ⟨Tryz.f201.name, by decide, Tryz.func201.trans (congrArg some (by kernel_rfl))⟩
  f57 := ⟨Tryz.f206.name, by decide, Tryz.func206.trans (congrArg some (by kernel_rfl))⟩
  t0 := Tryz.underlying0
  a0 := Tryz.isAgg0
  z0 := Tryz.sizeOf0
  v0 := Tryz.zeroValue0
  t3 := Tryz.underlying3
  a3 := Tryz.isAgg3
  z3 := Tryz.sizeOf3
  v3 := Tryz.zeroValue3
  t4 := Tryz.underlying4
  a4 := Tryz.isAgg4
  z4 := Tryz.sizeOf4
  v4 := Tryz.zeroValue4
  t5 := Tryz.underlying5
  a5 := Tryz.isAgg5
  z5 := Tryz.sizeOf5
  v5 := Tryz.zeroValue5
  t9 := Tryz.underlying9
  a9 := Tryz.isAgg9
  z9 := Tryz.sizeOf9
  v9 := Tryz.zeroValue9
  t22 := Tryz.underlying82
  a22 := Tryz.isAgg82
  z22 := Tryz.sizeOf82
  v22 := Tryz.zeroValue82
  t25 := Tryz.underlying171
  a25 := Tryz.isAgg171
  z25 := Tryz.sizeOf171
  v25 := Tryz.zeroValue171
  t39 := Tryz.underlying201
  a39 := Tryz.isAgg201
  z39 := Tryz.sizeOf201
  v39 := Tryz.zeroValue201
  t45 := Tryz.underlying234
  a45 := Tryz.isAgg234
  z45 := Tryz.sizeOf234
  v45 := Tryz.zeroValue234
  t46 := Tryz.underlying235
  a46 := Tryz.isAgg235
  z46 := Tryz.sizeOf235
  v46 := Tryz.zeroValue235
  t50 := Tryz.underlying167
  a50 := Tryz.isAgg167
  z50 := Tryz.sizeOf167
  v50 := Tryz.zeroValue167
  t53 := Tryz.underlying138
  a53 := Tryz.isAgg138
  z53 := Tryz.sizeOf138
  v53 := Tryz.zeroValue138
  t55 := Tryz.underlying210
  a55 := Tryz.isAgg210
  z55 := Tryz.sizeOf210
  v55 := Tryz.zeroValue210
  t66 := Tryz.underlying251
  a66 := Tryz.isAgg251
  z66 := Tryz.sizeOf251
  v66 := Tryz.zeroValue251
  t70 := Tryz.underlying228
  a70 := Tryz.isAgg228
  z70 := Tryz.sizeOf228
  v70 := Tryz.zeroValue228
  t76 := Tryz.underlying260
  a76 := Tryz.isAgg260
  z76 := Tryz.sizeOf260
  v76 := Tryz.zeroValue260
  t77 := Tryz.underlying225
  a77 := Tryz.isAgg225
  z77 := Tryz.sizeOf225
  v77 := Tryz.zeroValue225 }
def Tryz.layLen_ren : Go.Shelf.Ren := ⟨fun | 125 => 143 | 128 => 176 | 129 => 177 | n => n, fun | 46 => 201 | 3 => 3 | 51 => 138 | 53 => 210 | 4 => 4 | 5 => 5 | 9 => 9 | n => n, fun | n => n⟩
theorem Tryz.layLen : Go.Proofs.Lays.n125 Tryz.prog Tryz.layLen_ren := {
  mixed := by kernel_rfl
  f125 := Tryz.func143.trans (congrArg some (by kernel_rfl))
  f128 := Tryz.func176.trans (congrArg some (by kernel_rfl))
  f129 := Tryz.func177.trans (congrArg some (by kernel_rfl))
  t3 := Tryz.underlying3
  a3 := Tryz.isAgg3
  z3 := Tryz.sizeOf3
  v3 := Tryz.zeroValue3
  t4 := Tryz.underlying4
  a4 := Tryz.isAgg4
  z4 := Tryz.sizeOf4
  v4 := Tryz.zeroValue4
  t5 := Tryz.underlying5
  a5 := Tryz.isAgg5
  z5 := Tryz.sizeOf5
  v5 := Tryz.zeroValue5
  t9 := Tryz.underlying9
  a9 := Tryz.isAgg9
  z9 := Tryz.sizeOf9
  v9 := Tryz.zeroValue9
  t46 := Tryz.underlying201
  a46 := Tryz.isAgg201
  z46 := Tryz.sizeOf201
  v46 := Tryz.zeroValue201
  t51 := Tryz.underlying138
  a51 := Tryz.isAgg138
  z51 := Tryz.sizeOf138
  v51 := Tryz.zeroValue138
  t53 := Tryz.underlying210
  a53 := Tryz.isAgg210
  z53 := Tryz.sizeOf210
  v53 := Tryz.zeroValue210 }
end Go.Proofs
