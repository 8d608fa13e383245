/-
  Texts of this claim, joined (part 3): contracts and lemmas that the last text goes by. No statement of the seat is proved here.
-/
import Derived.Test.YtdpmfcifgimleaaGreatDoorAll2
import Derived.KernelRfl
import Derived.Test.YtdpmfcifgimleaaGreatDoorAll0
import Derived.Shelf.Small.Strs
import Derived.Ground.NamesProg
import Derived.Test.YtdpmfcifgimleaaGreatDoorProg
import Derived.Laws.IdiomStrings
set_option linter.unusedVariables false
set_option linter.unusedSimpArgs false
/-
  The contracts of super's Commit (whatever comes in), Format, Image, Number, Dead. No statement of the seat is proved here.
-/
namespace Go.Proofs.YtdpmfcifgimleaaGreatDoor
open Go Go.RowKit

theorem commit_any {w : World} {fp : Nat → Prop} {g gd : Nat} {s : SupS} (ht : Tab w) (h : Sup w fp g gd s) (hs : Small 900000 s.S) (B : Option Addr) (m d : Nat) (bs : List UInt8) (hB : Bs w B m d bs) (hbl : bs.length ≤ maxLen) :
    Calls Tryz.prog 84 #[.pointer (some ⟨g, 0, none⟩), .slice B m d] w (Committed w fp g gd s bs) := by
  by_cases hc : s.dead = true ∨ 814 < bs.length ∨ s.N = 1125899906842624
  · exact commit_still h B m d bs hB.1 hbl hc
  · have hd : s.dead = false := by
      cases hh : s.dead
      · rfl
      · exact absurd (.inl hh) hc
    exact commit_go ht h hs B m d bs hB hd (by omega) (fun e => hc (.inr (.inr e)))

theorem commit_nil (w : World) (v : Value) : Calls Tryz.prog 84 #[.pointer none, v] w fun e w' => e = .returned (.int .i64 1) ∧ w = w' := by
  go_enter Tryz.func84, Tryz.ntmps84
  go_wp2
  go_ret
  exact ⟨rfl, rfl⟩
theorem image_nil (w : World) : Calls Tryz.prog 61 #[.pointer none] w fun e w' => e = .returned (.slice none 0 0) ∧ w = w' := by
  go_enter Tryz.func61, Tryz.ntmps61
  go_wp2
  go_ret
  exact ⟨rfl, rfl⟩
theorem image_any {w : World} {fp : Nat → Prop} {g gd : Nat} {s : SupS} (h : Sup w fp g gd s) : Calls Tryz.prog 61 #[.pointer (some ⟨g, 0, none⟩)] w fun e w' => ∃ A c, e = .returned (.slice A s.img.length c) ∧ New w w' A c s.img ∧ Below w.heap.size w w' := by
  obtain ⟨fI, A, c, h⟩ := h
  have hc := copied_any h.told h.hi
  go_enter Tryz.func61, Tryz.ntmps61
  go_wp2_with fail
  refine hc.mono ?_
  rintro e w1 ⟨A1, c1, rfl, hn1, hb1⟩
  go_wp2
  go_ret
  exact ⟨A1, c1, rfl, hn1, hb1⟩
theorem Tab.only {T : Nat → Prop} {w w' : World} (h : Tab w) (ho : Only T w w') (hn : ¬ T 0) : Tab w' := fun i hi =>
  (World.cell?_of_block (ho.block _ (World.block_lt_of_cell? w _ (h i hi)) hn)).trans (h i hi)
/-- sixteen rows of nothing -/
def nils : List (List UInt8) := List.replicate 16 []
theorem rows_nils (fp : Nat → Prop) (W : World) (hf : ¬ fp W.heap.size) : RowsF fp (W.alloc (.cells (madeCells #[.slice none 0 0] 16) 57)) (some ⟨W.heap.size, 0, none⟩) nils := by
  refine ⟨(madeCells #[Value.slice none 0 0] 16).toList, ⟨Rd.lit W _ _, fun ad e _ => by injection e with e; subst e; exact hf⟩, by simp [madeCells, nils], fun j v xs hv hx => ?_⟩
  have hx' : xs = [] := List.eq_of_mem_replicate (List.mem_of_getElem? hx)
  subst hx'
  have hv' : v = .slice none 0 0 := by
    rw [Array.getElem?_toList] at hv
    simp [madeCells, Nat.mod_one] at hv
    exact hv.2.symm
  subst hv'
  exact ⟨none, 0, rfl, Nat.le_refl _, Rd.nil _ _, fun ad e => by cases e⟩

/-- what Format leaves, if no error is met -/
def formatS (S : Sec) (l : Int) (img : List UInt8) : Int × SupS := commitS ⟨(layTo S l 16 nils).2.1, (layTo S l 16 nils).2.2, [], 0, 1, false⟩ img
/-- what a call of Format answers, if no error is met -/
def Formatted (w : World) (fp : Nat → Prop) (gd : Nat) (s : SupS) (e : Ending) (w' : World) : Prop :=
  ∃ g, e = .returned (.tuple #[.pointer (some ⟨g, 0, none⟩), .int .i64 0]) ∧ w.heap.size ≤ g ∧ Sup w' (More fp w w') g gd s ∧ Only fp w w'

theorem small_lay {N : Nat} : ∀ (rows : List (List UInt8)) (S : Sec) (l i : Int), Small N S → 1 ≤ N → Small (N + rows.length) (layTo S l i rows).2.1
  | [], S, l, i, h, h1 => by
    unfold layTo
    show Small (N + 0) (if l = 0 then S else flushS S)
    split
    · exact h
    · exact small_flush S (by omega)
  | r :: rs, S, l, i, h, h1 => by
    unfold layTo
    split
    · exact small_mono (small_lay rs _ _ _ (small_write h l i r) (by omega)) (by simp; omega)
    · exact small_mono h (by simp)

set_option maxRecDepth 100000 in
set_option maxHeartbeats 2000000 in
theorem format_any {w : World} {fp : Nat → Prop} {gd : Nat} {S : Sec} {l : Int} (ht : Tab w) (htf : ¬ fp 0) (h : Imp w fp gd S l) (hs : Small 800000 S) (h32 : 32 ≤ S.length) (B : Option Addr) (m d : Nat) (bs : List UInt8) (hB : Bs w B m d bs) (hBf : ∀ ad, B = some ad → bs ≠ [] → ¬ fp ad.block) (hbl : bs.length ≤ 814)
    (c1 : (layTo S l 16 nils).1 = 0) (c2 : (formatS S l bs).1 = 0) :
    Calls Tryz.prog 40 #[.pointer (some ⟨gd, 0, none⟩), .slice B m d] w (Formatted w fp gd (formatS S l bs).2) := by
  have hm := hB.1
  subst hm
  have hhas : decide ((32 : Int) ≤ (S.length : Int)) = true := decide_eq_true (by omega)
  have hh := hasslots_any h
  rw [hhas] at hh
  have Hh := Lib.hid hh
  have hmr := make_rows
  have hli : (bs.length : Int) ≤ 814 := by omega
  have hsm : Small 800016 (layTo S l 16 nils).2.1 := small_lay nils S l 16 hs (by omega)
  obtain ⟨fI, hfI⟩ : ∃ f : Nat → Prop, f = fun k => fp k ∧ k < w.heap.size := ⟨_, rfl⟩
  have hI : Imp w fI gd S l := by rw [hfI]; exact h.mono (fun k hk hl => ⟨hk, hl⟩)
  have hfl : ∀ k, fI k → fp k ∧ k < w.heap.size := by rw [hfI]; exact fun k hk => hk
  obtain ⟨O, hO⟩ : ∃ O, O = Obj.cells #[.int .i64 0, .slice none 0 0, .pointer (some ⟨gd, 0, none⟩), .int .i64 1, .bool false] 148 := ⟨_, rfl⟩
  have hblk0 : Blk (w.alloc O) w.heap.size 148 #[.int .i64 0, .slice none 0 0, .pointer (some ⟨gd, 0, none⟩), .int .i64 1, .bool false] := by rw [hO]; exact Blk.new w _ _
  have hb0 : Below w.heap.size w (w.alloc O) := ext_alloc (Below.refl _ _) _
  have hz0 : (w.alloc O).heap.size = w.heap.size + 1 := World.size_alloc _ _
  have q3 : (w.alloc O).cell? ⟨w.heap.size, 3, none⟩ = some (.int .i64 1) := hblk0.cell 3
  have hws : ∀ (X : World) (g' : Nat), Below w.heap.size w X → g' = X.heap.size → Calls Tryz.prog 83 #[.pointer (some ⟨gd, 0, none⟩), .int .i64 1, .slice (some ⟨g', 0, none⟩) 16 16] (X.alloc (.cells (madeCells #[.slice none 0 0] 16) 57)).drew fun e w' =>
      e = .returned (.int .i64 0) ∧ Imp w' (More fI (X.alloc (.cells (madeCells #[.slice none 0 0] 16) 57)) w') gd (layTo S l 16 nils).2.1 (layTo S l 16 nils).2.2 ∧ Only fI (X.alloc (.cells (madeCells #[.slice none 0 0] 16) 57)).drew w' := fun X g' hX hg' => by
    subst hg'
    have hn : ¬ fI X.heap.size := fun hk => by have := (hfl _ hk).2; have := hX.size; omega
    have h1 := writeslot_any (w := (X.alloc (.cells (madeCells #[.slice none 0 0] 16) 57)).drew) (hI.ext (ext_drew (ext_alloc hX _))) (small_mono hs (by omega)) 1 (by omega) (some ⟨X.heap.size, 0, none⟩) 16 16 nils rfl (rows_nils fI X hn) (by decide)
    refine h1.mono ?_
    rintro e w' ⟨rfl, h2, h3⟩
    exact ⟨by rw [← c1]; rfl, h2, h3⟩
  have Hws := Lib.hid hws
  have Hc2 := Lib.hid c2
  have hq := Lib.hid (show (layTo S l 16 nils) = (layTo S l 16 nils) from rfl)
  clear hws hfI hhas hh c1 c2 hq
  rw [hO] at hblk0 hb0 hz0 q3
  clear hO
  go_enter Tryz.func40, Tryz.ntmps40
  go_wp2_with fail
  refine Hh.out.mono ?_
  rintro e w1 ⟨rfl, rfl⟩
  go_wp2
  go_region_held3 (fun w' => w'.cell? ⟨w.heap.size, 3, none⟩ = some (.int .i64 1)) (first | exact q3 | exact cell_ext q3 (ext_drew (ext_alloc (Below.refl _ _) _)) | exact hS1) (first
    | (go_at_call 83; ((with_reducible refine (Hws.out _ _ ?_ ?_).mono ?_)); exact hb0; (simp); rintro e w2 ⟨rfl, hI2, ho2⟩;
        have hS1 : w2.cell? ⟨w.heap.size, 3, none⟩ = some (.int .i64 1) := (World.cell?_of_block (ho2.block w.heap.size (by show w.heap.size < (World.alloc _ _).heap.size; rw [World.size_alloc]; omega) (fun hk => by have := (hfl _ hk).2; omega))).trans (cell_ext q3 (ext_alloc (Below.refl _ _) _))))
  have hX : Below w.heap.size w ((w.alloc (.cells #[.int .i64 0, .slice none 0 0, .pointer (some ⟨gd, 0, none⟩), .int .i64 1, .bool false] 148)).alloc (.cells (madeCells #[.slice none 0 0] 16) 57)).drew := ext_drew (ext_alloc hb0 _)
  have hXz : ((w.alloc (.cells #[.int .i64 0, .slice none 0 0, .pointer (some ⟨gd, 0, none⟩), .int .i64 1, .bool false] 148)).alloc (.cells (madeCells #[.slice none 0 0] 16) 57)).drew.heap.size = w.heap.size + 2 := by
    show (World.alloc (World.alloc _ _) _).heap.size = _
    rw [World.size_alloc, World.size_alloc]
  have hXz' : ((w.alloc (.cells #[.int .i64 0, .slice none 0 0, .pointer (some ⟨gd, 0, none⟩), .int .i64 1, .bool false] 148)).alloc (.cells (madeCells #[.slice none 0 0] 16) 57)).heap.size = w.heap.size + 2 := hXz
  have hz2 := ho2.size
  have hng : ¬ fI w.heap.size := fun hk => by have := (hfl _ hk).2; omega
  have hblk2 : Blk w2 w.heap.size 148 #[.int .i64 0, .slice none 0 0, .pointer (some ⟨gd, 0, none⟩), .int .i64 1, .bool false] := (Blk.drew (hblk0.alloc (.cells (madeCells #[.slice none 0 0] 16) 57))).only ho2 hng
  have hOw : Only fp w w2 := (Only.of_ext (S := fp) hX).trans ho2 (fun k _ hk => (hfl k hk).1)
  have hB2 : Bs w2 B bs.length d bs := ⟨rfl, hB.2.1, hB.2.2.only hOw (fun ad e hne hk => hBf ad e (by intro hn; exact hne (by rw [hn]; rfl)) hk)⟩
  have ht2 : Tab w2 := ht.only hOw htf
  have hS0 : Sup w2 (More fp w w2) w.heap.size gd ⟨(layTo S l 16 nils).2.1, (layTo S l 16 nils).2.2, [], 0, 1, false⟩ := by
    refine ⟨More fI ((w.alloc (.cells #[.int .i64 0, .slice none 0 0, .pointer (some ⟨gd, 0, none⟩), .int .i64 1, .bool false] 148)).alloc (.cells (madeCells #[.slice none 0 0] 16) 57)) w2, none, 0, ?_⟩
    exact {
      imp := hI2
      sub := fun k hk => by
        rcases hk with hk | hk
        · exact .inl (hfl k hk).1
        · exact .inr ⟨by have := hk.1; omega, hk.2⟩
      fg := .inr ⟨Nat.le_refl _, hblk2.lt⟩
      ng := fun hk => by
        rcases hk with hk | hk
        · exact hng hk
        · have := hk.1; omega
      blk := hblk2
      bs := ⟨rfl, Nat.le_refl _, Rd.nil _ _⟩
      fA := fun ad e => by cases e
      hN := Nat.zero_le _
      hs := Nat.le_refl _
      hi := Nat.zero_le _ }
  have hcm := commit_any ht2 hS0 (small_mono hsm (by omega)) B _ d bs hB2 (by unfold maxLen; omega)
  have Hcm := Lib.hid hcm
  clear hcm hS0 hblk2 hB2 hX hI2 ho2 hng hXz hXz' q3 hblk0 hb0 hz0 hfl hI hB hBf Hws hS1
  go_wp2_with fail
  refine Hcm.out.mono ?_
  rintro e w3 ⟨rfl, hS3, ho3⟩
  have hc2 : (commitS ⟨(layTo S l 16 nils).2.1, (layTo S l 16 nils).2.2, [], 0, 1, false⟩ bs).1 = 0 := Hc2.out
  rw [hc2]
  have hfin : Formatted w fp gd (formatS S l bs).2 (.returned (.tuple #[.pointer (some ⟨w.heap.size, 0, none⟩), .int .i64 0])) w3 := by
    have hz3 := ho3.size
    have hz4 := hOw.size
    refine ⟨w.heap.size, rfl, Nat.le_refl _, SupAt.mono hS3 (fun k hk _ => More.join hOw.size (Nat.le_refl _) ho3.size hk), hOw.join ho3⟩
  have Hfin := Lib.hid hfin
  clear hfin hS3 ho3 hOw hc2 Hc2 Hcm
  go_wp2
  go_ret2
  exact Hfin.out
end Go.Proofs.YtdpmfcifgimleaaGreatDoor

/-
  What disks tell behind commits and crashes: lists and numbers alone. No statement of the seat is proved here.
-/
namespace Go.Proofs.YtdpmfcifgimleaaGreatDoor

/-! ### A slot's sectors -/
theorem numOf_row {n k : Nat} {img : List UInt8} (hn : n ≤ 1125899906842624) (hi : img.length ≤ 814) (hk : k < 16) : numOf (rowOf n k img) = n := by
  have hh := head_length (n := n) hi hk
  have e1 : (rowOf n k img).drop 60 = lowB 4 (sumOf (headOf n k img)) := by unfold rowOf; rw [List.drop_left' hh]
  have e2 : (rowOf n k img).take 60 = headOf n k img := by unfold rowOf; rw [List.take_left' hh]
  have e3 : (rowOf n k img).take 8 = lowB 8 n := by
    unfold rowOf headOf
    rw [List.append_assoc, List.append_assoc, List.take_left' (lowB_length 8 n)]
  unfold numOf
  rw [e1, e2, e3, ofLow_lowB, ofLow_lowB, Nat.mod_eq_of_lt (by have := sumOf_lt (headOf n k img); have e : (256 : Nat) ^ 4 = 4294967296 := rfl; omega), Nat.mod_eq_of_lt (by have e : (256 : Nat) ^ 8 = 18446744073709551616 := rfl; omega), if_pos ⟨rfl, hn⟩]
theorem chunks (b : List UInt8) : ∀ m, m * 51 ≤ b.length → ((List.range m).map fun k => (b.drop (k * 51)).take 51).flatten = b.take (m * 51)
  | 0, _ => by simp
  | m + 1, h => by
    rw [List.range_succ, List.map_append, List.flatten_append, chunks b m (by omega), Nat.add_mul, Nat.one_mul, List.take_add]
    simp
theorem borneR_pack {n : Nat} {img : List UInt8} (hi : img.length ≤ 814) : borneR (packOf n img) = borneOf img := by
  have hb := borne_length hi
  have e : (packOf n img).map (fun r => (r.drop 9).take 51) = (List.range 16).map fun k => ((borneOf img).drop (k * 51)).take 51 := by
    unfold packOf
    rw [List.map_map]
    apply List.map_congr_left
    intro k hk
    have hk' := List.mem_range.1 hk
    have hl : (lowB 8 n ++ [k.toUInt8]).length = 9 := by simp [lowB_length]
    have hc : (((borneOf img).drop (k * 51)).take 51).length = 51 := by rw [List.length_take, List.length_drop, hb]; omega
    show ((rowOf n k img).drop 9).take 51 = _
    unfold rowOf headOf
    rw [List.append_assoc, List.drop_left' hl, List.take_left' hc]
  unfold borneR
  rw [e, chunks (borneOf img) 16 (by omega), List.take_of_length_le (by omega)]
theorem imgR_pack {n : Nat} {img : List UInt8} (hi : img.length ≤ 814) : imgR (packOf n img) = img := by
  have hs : sizeR (packOf n img) = img.length := by
    unfold sizeR
    rw [borneR_pack hi]
    unfold borneOf
    rw [List.append_assoc, List.take_left' (lowB_length 2 _), ofLow_lowB, Nat.mod_eq_of_lt (by have e : (256 : Nat) ^ 2 = 65536 := rfl; omega)]
  unfold imgR
  rw [hs, if_pos hi, borneR_pack hi]
  unfold borneOf
  rw [List.append_assoc, List.drop_left' (lowB_length 2 _), List.take_left]
theorem packOf_get {n k : Nat} {img : List UInt8} (hk : k < 16) : (packOf n img)[k]? = some (rowOf n k img) := by unfold packOf; simp [hk]
theorem pack_head (n : Nat) (img : List UInt8) : (packOf n img).headD [] = rowOf n 0 img := rfl
theorem unpack_pack {n : Nat} {img : List UInt8} (h1 : 1 ≤ n) (h2 : n ≤ 1125899906842624) (hi : img.length ≤ 814) : unpackS (packOf n img) = (n, img) := by
  have hp : packI (n : Int) img = packOf n img := by unfold packI; rw [if_pos ⟨by omega, by omega, hi⟩]; rfl
  unfold unpackS
  rw [pack_head, numOf_row h2 hi (by omega), imgR_pack hi, hp, if_pos rfl]
/-- what is told is packed so -/
theorem unpack_some {rows : List (List UInt8)} (h : 0 < (unpackS rows).1) (hl : rows.length = 16) : rows = packOf (unpackS rows).1 (unpackS rows).2 ∧ (unpackS rows).1 ≤ 1125899906842624 ∧ (unpackS rows).2.length ≤ 814 := by
  have hle := unpackS_le rows
  refine ⟨?_, hle⟩
  unfold unpackS at h hle ⊢
  split at h
  · rename_i hq
    rw [if_pos hq] at hle ⊢
    have hp : packI (numOf (rows.headD []) : Int) (imgR rows) = packOf (numOf (rows.headD [])) (imgR rows) := by
      dsimp only at h hle
      unfold packI
      rw [if_pos ⟨by omega, by omega, hle.2⟩]; rfl
    rw [← hp]
    exact hq
  · simp at h
/-- rows of two numbers are no slot -/
theorem unpack_mixed {rows : List (List UInt8)} (hl : rows.length = 16) {i j : Nat} {r q : List UInt8} (hi : rows[i]? = some r) (hj : rows[j]? = some q) (hne : numOf r ≠ numOf q) : (unpackS rows).1 = 0 := by
  rcases Nat.eq_zero_or_pos (unpackS rows).1 with h | h
  · exact h
  · exfalso
    obtain ⟨h1, h2, h3⟩ := unpack_some h hl
    have hi16 := (List.getElem?_eq_some_iff.1 hi).1
    have hj16 := (List.getElem?_eq_some_iff.1 hj).1
    rw [h1, packOf_get (by omega)] at hi
    rw [h1, packOf_get (by omega)] at hj
    injection hi with hi
    injection hj with hj
    rw [← hi, ← hj, numOf_row h2 h3 (by omega), numOf_row h2 h3 (by omega)] at hne
    exact hne rfl
theorem unpack_zero_snd {rows : List (List UInt8)} (hl : rows.length = 16) (h : (unpackS rows).1 = 0) : unpackS rows = (0, []) := by
  unfold unpackS at h ⊢
  split
  · rename_i hq
    rw [if_pos hq] at h
    dsimp only at h
    rw [h] at hq
    have hp : packI ((0 : Nat) : Int) (imgR rows) = [] := by unfold packI; rw [if_neg (by unfold fits; omega)]
    rw [hp] at hq
    rw [hq] at hl
    simp at hl
  · rfl

/-! ### The greatest number -/
theorem mostR_ge (rows : List (List UInt8)) : ∀ m, m ≤ mostR m rows := by
  induction rows with
  | nil => intro m; exact Nat.le_refl _
  | cons r rs ih => intro m; exact Nat.le_trans (Nat.le_max_left _ _) (ih _)
theorem mostR_mem (rows : List (List UInt8)) : ∀ m r, r ∈ rows → numOf r ≤ mostR m rows := by
  induction rows with
  | nil => intro m r h; cases h
  | cons x rs ih =>
    intro m r h
    rcases List.mem_cons.1 h with h | h
    · subst h; exact Nat.le_trans (Nat.le_max_right _ _) (mostR_ge rs _)
    · exact ih _ r h
theorem mostR_lub (rows : List (List UInt8)) : ∀ m N, m ≤ N → (∀ r ∈ rows, numOf r ≤ N) → mostR m rows ≤ N := by
  induction rows with
  | nil => intro m N h _; exact h
  | cons x rs ih => intro m N h hr; exact ih _ N (Nat.max_le.2 ⟨h, hr x (by simp)⟩) (fun r h => hr r (by simp [h]))

/-! ### Flat disks -/
def lasts (S : Sec) : List (List UInt8) := S.map lastOf
def slotD (D : List (List UInt8)) (k : Nat) : List (List UInt8) := (List.range 16).map fun i => D.getD (k * 16 + i) []
theorem slotRows_lasts (S : Sec) (k : Nat) : slotRows S k = slotD (lasts S) k := by
  unfold slotRows slotD lasts
  apply List.map_congr_left
  intro i _
  rw [List.getD_eq_getElem?_getD, List.getD_eq_getElem?_getD, List.getElem?_map]
  cases S[k * 16 + i]? <;> rfl
theorem slotD_get (D : List (List UInt8)) (k i : Nat) (hi : i < 16) : (slotD D k)[i]? = some (D.getD (k * 16 + i) []) := by unfold slotD; simp [hi]
theorem slotD_length (D : List (List UInt8)) (k : Nat) : (slotD D k).length = 16 := by simp [slotD]
theorem slotD_congr {D E : List (List UInt8)} {k : Nat} (h : ∀ i, i < 16 → D.getD (k * 16 + i) [] = E.getD (k * 16 + i) []) : slotD D k = slotD E k := by
  unfold slotD
  exact List.map_congr_left fun i hi => h i (List.mem_range.1 hi)
/-- what an opened disk tells: number, image, slot; the greatest number -/
def tellD (D : List (List UInt8)) : Nat × List UInt8 × Nat :=
  if (unpackS (slotD D 0)).1 < (unpackS (slotD D 1)).1 then ((unpackS (slotD D 1)).1, (unpackS (slotD D 1)).2, 1) else ((unpackS (slotD D 0)).1, (unpackS (slotD D 0)).2, 0)
def mostD (D : List (List UInt8)) : Nat := mostR (mostR 0 (slotD D 0)) (slotD D 1)
theorem tell_lasts (S : Sec) : tellK S 2 = tellD (lasts S) := by
  unfold tellD
  have h0 : tellK S 1 = if 0 < (unpackS (slotD (lasts S) 0)).1 then ((unpackS (slotD (lasts S) 0)).1, (unpackS (slotD (lasts S) 0)).2, 0) else (0, [], 0) := by
    rw [← slotRows_lasts]; rfl
  have h1 : tellK S 1 = ((unpackS (slotD (lasts S) 0)).1, (unpackS (slotD (lasts S) 0)).2, 0) := by
    rw [h0]
    split
    · rfl
    · rename_i hz
      have hz0 : (unpackS (slotD (lasts S) 0)).1 = 0 := by omega
      rw [unpack_zero_snd (slotD_length _ _) hz0]
  have h2 : tellK S 2 = if (tellK S 1).1 < (unpackS (slotRows S 1)).1 then ((unpackS (slotRows S 1)).1, (unpackS (slotRows S 1)).2, 1) else tellK S 1 := rfl
  rw [h2, h1, slotRows_lasts]
theorem most_lasts (S : Sec) : mostK S 2 = mostD (lasts S) := by
  unfold mostD
  rw [← slotRows_lasts, ← slotRows_lasts]; rfl
/-- in either order -/
theorem mostD_le {D : List (List UInt8)} {N : Nat} : mostD D ≤ N ↔ ∀ k, k ≤ 1 → ∀ r ∈ slotD D k, numOf r ≤ N := by
  constructor
  · intro h k hk r hr
    rcases Nat.le_one_iff_eq_zero_or_eq_one.1 hk with rfl | rfl
    · exact Nat.le_trans (Nat.le_trans (mostR_mem _ 0 r hr) (mostR_ge _ _)) h
    · exact Nat.le_trans (mostR_mem _ _ r hr) h
  · intro h
    exact mostR_lub _ _ _ (mostR_lub _ _ _ (Nat.zero_le _) (h 0 (by omega))) (h 1 (by omega))

/-- An opened disk tells this. -/
def Tells (D : List (List UInt8)) (img : List UInt8) (N slot : Nat) : Prop := 0 < (tellD D).1 ∧ (tellD D).2 = (img, slot) ∧ mostD D = N
theorem Tells.slot_le {D : List (List UInt8)} {img : List UInt8} {N slot : Nat} (h : Tells D img N slot) : slot ≤ 1 := by
  have h2 := h.2.1
  unfold tellD at h2
  split at h2
  · injection h2 with _ h; try omega
  · injection h2 with _ h; try omega
/-- the slot that holds it; the other one tells less -/
theorem Tells.cur {D : List (List UInt8)} {img : List UInt8} {N slot : Nat} (h : Tells D img N slot) : ∃ n, 1 ≤ n ∧ n ≤ N ∧ unpackS (slotD D slot) = (n, img) := by
  obtain ⟨h0, h1, h2⟩ := h
  have key : ∀ k, k ≤ 1 → 0 < (unpackS (slotD D k)).1 → (unpackS (slotD D k)).1 ≤ N := fun k hk hp => by
    obtain ⟨e, l1, l2⟩ := unpack_some hp (slotD_length D k)
    have hm := mostD_le.1 (Nat.le_of_eq h2) k hk (rowOf (unpackS (slotD D k)).1 0 (unpackS (slotD D k)).2) (by
      have := packOf_get (n := (unpackS (slotD D k)).1) (img := (unpackS (slotD D k)).2) (k := 0) (by omega)
      rw [← e] at this
      exact List.mem_of_getElem? this)
    rw [numOf_row l1 l2 (by omega)] at hm
    exact hm
  unfold tellD at h0 h1
  split at h0
  · rename_i hlt
    rw [if_pos hlt] at h1
    injection h1 with h1 h3
    subst h3
    exact ⟨_, h0, key 1 (by omega) h0, by rw [← h1]⟩
  · rename_i hlt
    rw [if_neg hlt] at h1
    injection h1 with h1 h3
    subst h3
    exact ⟨_, h0, key 0 (by omega) h0, by rw [← h1]⟩
/-- told by the slot 'k', if the other one tells a smaller number -/
theorem tells_of {D : List (List UInt8)} {img : List UInt8} {n k : Nat} (hk : k ≤ 1) (hn : 0 < n) (h : unpackS (slotD D k) = (n, img)) (ho : (unpackS (slotD D (1 - k))).1 < n) : Tells D img (mostD D) k := by
  refine ⟨?_, ?_, rfl⟩
  all_goals
    unfold tellD
    rcases Nat.le_one_iff_eq_zero_or_eq_one.1 hk with rfl | rfl
    · rw [if_neg (by rw [h]; exact Nat.not_lt.2 (Nat.le_of_lt ho)), h]
      try exact hn
    · rw [if_pos (by rw [h]; exact ho), h]
      try exact hn
/-- the other slot is of nothing, or of sectors of two numbers: all is as it was, but for the number -/
theorem Tells.other {D E : List (List UInt8)} {img : List UInt8} {N slot : Nat} (h : Tells D img N slot) (hs : slotD E slot = slotD D slot) (ho : (unpackS (slotD E (1 - slot))).1 = 0) : Tells E img (mostD E) slot := by
  obtain ⟨n, h1, h2, h3⟩ := h.cur
  exact tells_of h.slot_le h1 (by rw [hs]; exact h3) (by omega)
/-- another image has been laid -/
theorem Tells.next {D E : List (List UInt8)} {img bs : List UInt8} {N slot : Nat} (h : Tells D img N slot) (hN : N < 1125899906842624) (hb : bs.length ≤ 814) (hs : slotD E slot = slotD D slot) (ho : slotD E (1 - slot) = packOf (N + 1) bs) : Tells E bs (N + 1) (1 - slot) := by
  obtain ⟨n, h1, h2, h3⟩ := h.cur
  have hsl := h.slot_le
  have hm : mostD E = N + 1 := by
    have h4 : mostD E ≤ N + 1 := mostD_le.2 fun k hk r hr => by
      by_cases hks : k = slot
      · subst hks
        rw [hs] at hr
        have := mostD_le.1 (Nat.le_of_eq h.2.2) k hk r hr
        omega
      · obtain rfl : k = 1 - slot := by omega
        rw [ho] at hr
        obtain ⟨i, hi, rfl⟩ := List.mem_map.1 hr
        rw [numOf_row (by omega) hb (List.mem_range.1 hi)]
        exact Nat.le_refl _
    have h5 := mostD_le.1 (Nat.le_refl (mostD E)) (1 - slot) (by omega) (rowOf (N + 1) 0 bs) (by rw [ho]; exact List.mem_of_getElem? (packOf_get (by omega)))
    rw [numOf_row (by omega) hb (by omega)] at h5
    omega
  have ht := tells_of (D := E) (k := 1 - slot) (by omega) (Nat.succ_pos N) (by rw [ho]; exact unpack_pack (by omega) (by omega) hb) (by
    rw [show 1 - (1 - slot) = slot by omega, hs, h3]
    show n < N + 1
    omega)
  rw [hm] at ht
  exact ht
/-- some of the sectors of another image have been laid -/
theorem Tells.torn {D E : List (List UInt8)} {img bs : List UInt8} {N slot : Nat} (h : Tells D img N slot) (hN : N < 1125899906842624) (hb : bs.length ≤ 814) (hs : slotD E slot = slotD D slot)
    (ho : ∀ i, i < 16 → E.getD ((1 - slot) * 16 + i) [] = D.getD ((1 - slot) * 16 + i) [] ∨ E.getD ((1 - slot) * 16 + i) [] = rowOf (N + 1) i bs) :
    ∃ M, N ≤ M ∧ (Tells E img M slot ∨ Tells E bs M (1 - slot)) := by
  have hsl := h.slot_le
  have hold : ∀ i, i < 16 → numOf (D.getD ((1 - slot) * 16 + i) []) ≤ N := fun i hi =>
    mostD_le.1 (Nat.le_of_eq h.2.2) (1 - slot) (by omega) _ (List.mem_of_getElem? (slotD_get D (1 - slot) i hi))
  by_cases hall : ∀ i, i < 16 → E.getD ((1 - slot) * 16 + i) [] = rowOf (N + 1) i bs
  · have e : slotD E (1 - slot) = packOf (N + 1) bs := by
      unfold slotD packOf
      exact List.map_congr_left fun i hi => hall i (List.mem_range.1 hi)
    exact ⟨N + 1, by omega, .inr (h.next hN hb hs e)⟩
  · obtain ⟨i, hi, hni⟩ : ∃ i, i < 16 ∧ E.getD ((1 - slot) * 16 + i) [] ≠ rowOf (N + 1) i bs := Classical.byContradiction fun hc => hall fun i hi => Classical.byContradiction fun hne => hc ⟨i, hi, hne⟩
    have hoi : E.getD ((1 - slot) * 16 + i) [] = D.getD ((1 - slot) * 16 + i) [] := by
      rcases ho i hi with h | h
      · exact h
      · exact absurd h hni
    by_cases hnone : ∀ j, j < 16 → E.getD ((1 - slot) * 16 + j) [] = D.getD ((1 - slot) * 16 + j) []
    · have e1 : slotD E (1 - slot) = slotD D (1 - slot) := slotD_congr hnone
      have e2 : ∀ k, k ≤ 1 → slotD E k = slotD D k := fun k hk => by
        by_cases hks : k = slot
        · rw [hks]; exact hs
        · obtain rfl : k = 1 - slot := by omega
          exact e1
      have et : tellD E = tellD D := by unfold tellD; rw [e2 0 (by omega), e2 1 (by omega)]
      have em : mostD E = mostD D := by unfold mostD; rw [e2 0 (by omega), e2 1 (by omega)]
      exact ⟨N, Nat.le_refl _, .inl ⟨by rw [et]; exact h.1, by rw [et]; exact h.2.1, by rw [em]; exact h.2.2⟩⟩
    · obtain ⟨j, hj, hnj⟩ : ∃ j, j < 16 ∧ E.getD ((1 - slot) * 16 + j) [] ≠ D.getD ((1 - slot) * 16 + j) [] := Classical.byContradiction fun hc => hnone fun i hi => Classical.byContradiction fun hne => hc ⟨i, hi, hne⟩
      have hoj : E.getD ((1 - slot) * 16 + j) [] = rowOf (N + 1) j bs := by
        rcases ho j hj with h | h
        · exact absurd h hnj
        · exact h
      have hnum : numOf (rowOf (N + 1) j bs) = N + 1 := numOf_row (by omega) hb hj
      have hz := unpack_mixed (slotD_length E (1 - slot)) (slotD_get E (1 - slot) i hi) (slotD_get E (1 - slot) j hj) (by
        rw [hoi, hoj, hnum]
        have := hold i hi
        omega)
      refine ⟨mostD E, ?_, .inl (h.other hs hz)⟩
      have hge := mostD_le.1 (Nat.le_refl (mostD E)) (1 - slot) (by omega) _ (List.mem_of_getElem? (slotD_get E (1 - slot) j hj))
      rw [hoj, hnum] at hge
      omega
end Go.Proofs.YtdpmfcifgimleaaGreatDoor

/-
  What a Commit makes of sectors, with a fuse or without; what a crash leaves of it. No statement of the seat is proved here.
-/
namespace Go.Proofs.YtdpmfcifgimleaaGreatDoor

/-- rows are written, not flushed -/
def wrote (S : Sec) (i : Nat) : List (List UInt8) → Sec
  | [] => S
  | r :: rs => wrote (S.set i (S.getD i [] ++ [pad r])) (i + 1) rs
/-- rows laid over a flat disk -/
def over (D : List (List UInt8)) (i : Nat) : List (List UInt8) → List (List UInt8)
  | [] => D
  | r :: rs => over (D.set i (pad r)) (i + 1) rs

theorem wrote_length : ∀ (rows : List (List UInt8)) (S : Sec) (i : Nat), (wrote S i rows).length = S.length
  | [], _, _ => rfl
  | r :: rs, S, i => by rw [wrote, wrote_length rs]; simp
theorem over_length : ∀ (rows : List (List UInt8)) (D : List (List UInt8)) (i : Nat), (over D i rows).length = D.length
  | [], _, _ => rfl
  | r :: rs, D, i => by rw [over, over_length rs]; simp
theorem over_getD : ∀ (rows : List (List UInt8)) (D : List (List UInt8)) (i x : Nat), i + rows.length ≤ D.length → (over D i rows).getD x [] = if i ≤ x ∧ x < i + rows.length then pad (rows.getD (x - i) []) else D.getD x []
  | [], D, i, x, _ => by rw [over, if_neg (by rw [List.length_nil]; omega)]
  | r :: rs, D, i, x, h => by
    rw [List.length_cons] at h ⊢
    rw [over, over_getD rs _ _ x (by simp; omega)]
    by_cases h1 : i + 1 ≤ x ∧ x < i + 1 + rs.length
    · rw [if_pos h1, if_pos (by omega)]
      rw [show x - i = (x - (i + 1)) + 1 by omega]
      simp
    · rw [if_neg h1]
      by_cases hx : x = i
      · subst hx
        rw [if_pos (by omega), Nat.sub_self]
        simp [List.getD_eq_getElem?_getD, show x < D.length by omega]
      · rw [if_neg (by omega), List.getD_eq_getElem?_getD, List.getD_eq_getElem?_getD, List.getElem?_set_ne (Ne.symm hx)]
theorem lastOf_snoc (vs : List (List UInt8)) (v : List UInt8) : lastOf (vs ++ [v]) = v := by unfold lastOf; simp
theorem lasts_wrote : ∀ (rows : List (List UInt8)) (S : Sec) (i : Nat), i + rows.length ≤ S.length → lasts (wrote S i rows) = over (lasts S) i rows
  | [], _, _, _ => rfl
  | r :: rs, S, i, h => by
    rw [List.length_cons] at h
    rw [wrote, over, lasts_wrote rs _ _ (by simp; omega)]
    congr 1
    unfold lasts
    rw [List.map_set, lastOf_snoc]
theorem lasts_flush (S : Sec) : lasts (flushS S) = lasts S := by
  unfold lasts flushS
  rw [List.map_map]
  apply List.map_congr_left
  intro vs _
  rfl
theorem lasts_length (S : Sec) : (lasts S).length = S.length := by simp [lasts]
theorem lasts_getD (S : Sec) (x : Nat) : (lasts S).getD x [] = lastOf (S.getD x []) := by
  unfold lasts
  rw [List.getD_eq_getElem?_getD, List.getD_eq_getElem?_getD, List.getElem?_map]
  cases S[x]? <;> rfl

/-- each sector has one version -/
def Single (S : Sec) : Prop := ∀ vs ∈ S, vs.length = 1
theorem single_flush (S : Sec) : Single (flushS S) := fun vs h => by
  obtain ⟨_, _, rfl⟩ := List.mem_map.1 h
  rfl
theorem single_small {S : Sec} (h : Single S) : Small 1 S := fun vs hv => Nat.le_of_eq (h vs hv)

/-- all is written and flushed, or the fuse burns behind so many -/
theorem lay_cases : ∀ (rows : List (List UInt8)) (S : Sec) (l : Int) (i : Nat), -1 ≤ l → i + rows.length ≤ S.length → (∀ r ∈ rows, r.length ≤ 64) →
    (∃ l', layTo S l (i : Int) rows = (0, flushS (wrote S i rows), l') ∧ (l = -1 → l' = -1) ∧ -1 ≤ l') ∨ (0 ≤ l ∧ ∃ j, j ≤ rows.length ∧ layTo S l (i : Int) rows = (6, wrote S i (rows.take j), 0))
  | [], S, l, i, hl, _, _ => by
    by_cases h0 : l = 0
    · subst h0
      exact .inr ⟨by omega, 0, by simp, by simp [layTo, flushCode, tick, wrote]⟩
    · refine .inl ⟨tick l, ?_, fun h => by subst h; rfl, by unfold tick; split <;> omega⟩
      simp [layTo, flushCode, h0, wrote]
  | r :: rs, S, l, i, hl, h, h64 => by
    rw [List.length_cons] at h
    by_cases h0 : l = 0
    · subst h0
      refine .inr ⟨by omega, 0, by simp, ?_⟩
      have hc : writeCode S.length 0 (i : Int) r = 6 := by unfold writeCode; rw [if_pos rfl]
      rw [layTo, hc, if_neg (by omega)]
      rfl
    · have hc : writeCode S.length l (i : Int) r = 0 := by
        unfold writeCode
        rw [if_neg h0, if_neg (by have := h64 r (by simp); omega)]
      have hw : writeS S l (i : Int) r = S.set i (S.getD i [] ++ [pad r]) := by
        unfold writeS
        rw [if_pos hc, Int.toNat_natCast]
      have htl : -1 ≤ tick l := by unfold tick; split <;> omega
      have ih := lay_cases rs (S.set i (S.getD i [] ++ [pad r])) (tick l) (i + 1) htl (by simp; omega) (fun q hq => h64 q (by simp [hq]))
      have e : layTo S l (i : Int) (r :: rs) = layTo (S.set i (S.getD i [] ++ [pad r])) (tick l) ((i + 1 : Nat) : Int) rs := by
        rw [layTo, if_pos hc, hw]
        rfl
      rw [e]
      rcases ih with ⟨l', h1, h2, h3⟩ | ⟨h1, j, h2, h3⟩
      · refine .inl ⟨l', by rw [h1]; rfl, fun hl1 => h2 (by rw [hl1]; rfl), h3⟩
      · refine .inr ⟨by unfold tick at h1; split at h1 <;> omega, j + 1, by simp; omega, by rw [h3]; rfl⟩

/-- of a crash: a sector is what it was, or what was written -/
theorem wrote_mem : ∀ (rows : List (List UInt8)) (S : Sec) (i x : Nat), i + rows.length ≤ S.length → ∀ v ∈ (wrote S i rows).getD x [], v ∈ S.getD x [] ∨ (i ≤ x ∧ x < i + rows.length ∧ v = pad (rows.getD (x - i) []))
  | [], _, _, _, _, v, h => .inl h
  | r :: rs, S, i, x, hl, v, h => by
    rw [List.length_cons] at hl ⊢
    rw [wrote] at h
    rcases wrote_mem rs _ _ x (by simp; omega) v h with h1 | ⟨h1, h2, h3⟩
    · by_cases hx : x = i
      · subst hx
        rw [List.getD_eq_getElem?_getD, List.getElem?_set_self (by omega)] at h1
        rcases List.mem_append.1 h1 with h1 | h1
        · exact .inl h1
        · simp at h1
          exact .inr ⟨by omega, by omega, by rw [Nat.sub_self]; simpa using h1⟩
      · rw [List.getD_eq_getElem?_getD, List.getElem?_set_ne (Ne.symm hx), ← List.getD_eq_getElem?_getD] at h1
        exact .inl h1
    · refine .inr ⟨by omega, by omega, ?_⟩
      rw [show x - i = (x - (i + 1)) + 1 by omega]
      simpa using h3
theorem crash_getD {S : Sec} (hne : ∀ vs ∈ S, vs ≠ []) (ps : List Int) (x : Nat) (hx : x < S.length) : (lasts (crashS S ps)).getD x [] ∈ S.getD x [] := by
  rw [lasts_getD]
  have e : (crashS S ps).getD x [] = if 1 < (S[x]).length then [crashAt S ps x] else S[x] := by
    unfold crashS
    rw [List.getD_eq_getElem?_getD, List.getElem?_mapIdx, List.getElem?_eq_getElem hx]
    rfl
  have eS : S.getD x [] = S[x] := by rw [List.getD_eq_getElem?_getD, List.getElem?_eq_getElem hx]; rfl
  rw [e, eS]
  have hn := hne S[x] (List.getElem_mem hx)
  split
  · show crashAt S ps x ∈ _
    unfold crashAt
    rw [eS]
    exact pickOf_mem hn _
  · exact lastOf_mem hn
theorem crash_single {S : Sec} (hne : ∀ vs ∈ S, vs ≠ []) (ps : List Int) : Single (crashS S ps) := fun vs h => by
  obtain ⟨x, hx, rfl⟩ := List.mem_iff_getElem.1 h
  have hx' : x < S.length := by simpa [crashS] using hx
  simp only [crashS, List.getElem_mapIdx]
  split
  · rfl
  · have := List.length_pos_iff.2 (hne _ (List.getElem_mem hx'))
    omega
theorem single_getD {S : Sec} (h : Single S) (x : Nat) (hx : x < S.length) : S.getD x [] = [(lasts S).getD x []] := by
  rw [lasts_getD]
  have eS : S.getD x [] = S[x] := by rw [List.getD_eq_getElem?_getD, List.getElem?_eq_getElem hx]; rfl
  rw [eS]
  match hs : S[x], h S[x] (List.getElem_mem hx) with
  | [v], _ => rfl
theorem crash_of_single {S : Sec} (h : Single S) (ps : List Int) : crashS S ps = S := by
  refine List.ext_getElem (by simp [crashS]) fun x h1 h2 => ?_
  simp only [crashS, List.getElem_mapIdx]
  rw [if_neg (by have := h _ (List.getElem_mem h2); omega)]

theorem pad_row {r : List UInt8} (h : r.length = 64) : pad r = r := by unfold pad; rw [h]; simp
theorem packOf_64 {n : Nat} {img : List UInt8} (hi : img.length ≤ 814) : ∀ r ∈ packOf n img, r.length = 64 := fun r hr => by
  obtain ⟨k, hk, rfl⟩ := List.mem_map.1 hr
  exact row_length hi (List.mem_range.1 hk)
theorem packOf_getD {n k : Nat} {img : List UInt8} (hk : k < 16) : (packOf n img).getD k [] = rowOf n k img := by
  rw [List.getD_eq_getElem?_getD, packOf_get hk]; rfl
/-- a slot that was laid over -/
theorem slot_over {D : List (List UInt8)} {k n : Nat} {bs : List UInt8} (hk : k ≤ 1) (h : 32 ≤ D.length) (hb : bs.length ≤ 814) : slotD (over D (k * 16) (packOf n bs)) k = packOf n bs := by
  unfold slotD
  have e : packOf n bs = (List.range 16).map fun i => rowOf n i bs := rfl
  rw [e]
  apply List.map_congr_left
  intro i hi
  have hi' := List.mem_range.1 hi
  rw [← e, over_getD _ _ _ _ (by rw [packOf_length]; omega), packOf_length, if_pos (by omega), show k * 16 + i - k * 16 = i by omega, packOf_getD hi', pad_row (row_length hb hi')]
theorem slot_over_other {D : List (List UInt8)} {k j : Nat} {rows : List (List UInt8)} (hk : k ≤ 1) (hj : j ≤ 1) (hne : j ≠ k) (h : 32 ≤ D.length) (hr : rows.length = 16) : slotD (over D (k * 16) rows) j = slotD D j :=
  slotD_congr fun i hi => by rw [over_getD _ _ _ _ (by omega), if_neg (by omega)]
end Go.Proofs.YtdpmfcifgimleaaGreatDoor

/-
  A Super that lives, one that was cut short; what Format, Commit, a crash make of them. No statement of the seat is proved here.
-/
namespace Go.Proofs.YtdpmfcifgimleaaGreatDoor

/-- A Super that lives: all of its disk is flushed, and an opened one tells the same. -/
structure Alive (s : SupS) : Prop where
  dead : s.dead = false
  one : Single s.S
  len : 32 ≤ s.S.length
  tells : Tells (lasts s.S) s.img s.N s.slot
  low : -1 ≤ s.l
/-- behind a commit of 'bs' that was cut short: whatever a crash leaves, this image or the one ahead is told -/
structure Cut (s : SupS) (bs : List UInt8) (N : Nat) : Prop where
  dead : s.dead = true
  ne : ∀ vs ∈ s.S, vs ≠ []
  len : 32 ≤ s.S.length
  low : -1 ≤ s.l
  small : Small 2 s.S
  tells : ∀ ps, ∃ M k, N ≤ M ∧ (Tells (lasts (crashS s.S ps)) s.img M k ∨ Tells (lasts (crashS s.S ps)) bs M k)

theorem single_ne {S : Sec} (h : Single S) : ∀ vs ∈ S, vs ≠ [] := fun vs hv e => by
  have := h vs hv
  rw [e] at this
  cases this
theorem flush_length (S : Sec) : (flushS S).length = S.length := by simp [flushS]
theorem small_wrote {N : Nat} : ∀ (rows : List (List UInt8)) (S : Sec) (i : Nat), Single S → (∀ x, i ≤ x → (S.getD x []).length ≤ 1) → (∀ vs ∈ S, vs.length ≤ 2) → ∀ vs ∈ wrote S i rows, vs.length ≤ 2 := fun rows S i h1 _ _ vs hv => by
  obtain ⟨x, hx, rfl⟩ := List.mem_iff_getElem.1 hv
  have key : ∀ (rows : List (List UInt8)) (S : Sec) (i x : Nat), (∀ y, i ≤ y → (S.getD y []).length ≤ 1) → (∀ y, (S.getD y []).length ≤ 2) → ((wrote S i rows).getD x []).length ≤ 2 := by
    intro rows
    induction rows with
    | nil => intro S i x _ h2; exact h2 x
    | cons r rs ih =>
      intro S i x ha hb
      rw [wrote]
      refine ih _ _ x (fun y hy => ?_) (fun y => ?_)
      · rw [List.getD_eq_getElem?_getD, List.getElem?_set_ne (by omega), ← List.getD_eq_getElem?_getD]
        exact ha y (by omega)
      · by_cases hy : y = i
        · subst hy
          by_cases hl : y < S.length
          · rw [List.getD_eq_getElem?_getD, List.getElem?_set_self hl]
            have := ha y (Nat.le_refl _)
            simp only [Option.getD_some, List.length_append, List.length_singleton]
            omega
          · rw [List.getD_eq_getElem?_getD, List.getElem?_eq_none (by simp; omega)]
            simp
        · rw [List.getD_eq_getElem?_getD, List.getElem?_set_ne (Ne.symm hy), ← List.getD_eq_getElem?_getD]
          exact hb y
  have h0 : ∀ y, (S.getD y []).length ≤ 1 := fun y => by
    by_cases hy : y < S.length
    · rw [List.getD_eq_getElem?_getD, List.getElem?_eq_getElem hy]
      exact Nat.le_of_eq (h1 _ (List.getElem_mem hy))
    · rw [List.getD_eq_getElem?_getD, List.getElem?_eq_none (by omega)]
      simp
  have := key rows S i x (fun y _ => h0 y) (fun y => by have := h0 y; omega)
  rw [List.getD_eq_getElem?_getD, List.getElem?_eq_getElem hx] at this
  exact this
theorem wrote_ne : ∀ (rows : List (List UInt8)) (S : Sec) (i : Nat), (∀ vs ∈ S, vs ≠ []) → ∀ vs ∈ wrote S i rows, vs ≠ []
  | [], _, _, h => h
  | r :: rs, S, i, h => wrote_ne rs _ _ fun vs hv => by
    rcases List.mem_or_eq_of_mem_set hv with hv | hv
    · exact h vs hv
    · rw [hv]; simp

/-- a slot's sectors are laid, or the fuse burns ahead of it -/
theorem lay_pack {S : Sec} (h1 : Single S) (h32 : 32 ≤ S.length) {l : Int} (hl : -1 ≤ l) {k : Nat} (hk : k ≤ 1) (n : Nat) {bs : List UInt8} (hb : bs.length ≤ 814) :
    (∃ S1 l', layTo S l ((k * 16 : Nat) : Int) (packOf n bs) = (0, S1, l') ∧ Single S1 ∧ S1.length = S.length ∧ slotD (lasts S1) (1 - k) = slotD (lasts S) (1 - k) ∧ slotD (lasts S1) k = packOf n bs ∧ (l = -1 → l' = -1) ∧ -1 ≤ l') ∨
    (0 ≤ l ∧ ∃ S1, layTo S l ((k * 16 : Nat) : Int) (packOf n bs) = (6, S1, 0) ∧ (∀ vs ∈ S1, vs ≠ []) ∧ S1.length = S.length ∧ Small 2 S1 ∧ ∀ ps, slotD (lasts (crashS S1 ps)) (1 - k) = slotD (lasts S) (1 - k) ∧ ∀ i, i < 16 → (lasts (crashS S1 ps)).getD (k * 16 + i) [] = (lasts S).getD (k * 16 + i) [] ∨ (lasts (crashS S1 ps)).getD (k * 16 + i) [] = rowOf n i bs) := by
  have hD : 32 ≤ (lasts S).length := by rw [lasts_length]; exact h32
  have hlen : (packOf n bs).length = 16 := packOf_length n bs
  have h64 : ∀ r ∈ packOf n bs, r.length ≤ 64 := fun r hr => by rw [packOf_64 hb r hr]; omega
  have hso : slotD (over (lasts S) (k * 16) (packOf n bs)) k = packOf n bs := slot_over hk hD hb
  have hso2 : slotD (over (lasts S) (k * 16) (packOf n bs)) (1 - k) = slotD (lasts S) (1 - k) := slot_over_other hk (by omega) (by omega) hD hlen
  have hrow : ∀ i, i < 16 → pad ((packOf n bs).getD i []) = rowOf n i bs := fun i hi => by rw [packOf_getD hi, pad_row (row_length hb hi)]
  generalize rowOf n = row at *
  generalize packOf n bs = rows at *
  have hfit : k * 16 + rows.length ≤ S.length := by omega
  rcases lay_cases rows S l (k * 16) hl hfit h64 with ⟨l', e, hl1, hl'⟩ | ⟨hl0, j, hj, e⟩
  · left
    have hla : lasts (flushS (wrote S (k * 16) rows)) = over (lasts S) (k * 16) rows := by rw [lasts_flush, lasts_wrote _ _ _ hfit]
    have hsi := single_flush (wrote S (k * 16) rows)
    have hfl : (flushS (wrote S (k * 16) rows)).length = S.length := by rw [flush_length, wrote_length]
    generalize flushS (wrote S (k * 16) rows) = S1 at *
    exact ⟨S1, l', e, hsi, hfl, by rw [hla]; exact hso2, by rw [hla]; exact hso, hl1, hl'⟩
  · right
    have hfj : k * 16 + (rows.take j).length ≤ S.length := by rw [List.length_take]; omega
    have hne := wrote_ne (rows.take j) S (k * 16) (single_ne h1)
    have hwl := wrote_length (rows.take j) S (k * 16)
    have hsm : Small 2 (wrote S (k * 16) (rows.take j)) := small_wrote (N := 0) _ _ _ h1 (fun x _ => by
      by_cases hx : x < S.length
      · rw [List.getD_eq_getElem?_getD, List.getElem?_eq_getElem hx]; exact Nat.le_of_eq (h1 _ (List.getElem_mem hx))
      · rw [List.getD_eq_getElem?_getD, List.getElem?_eq_none (by omega)]; simp) (fun vs hv => by rw [h1 vs hv]; omega)
    have hmem := wrote_mem (rows.take j) S (k * 16)
    generalize wrote S (k * 16) (rows.take j) = S1 at *
    have hget : ∀ ps x, x < S.length → (lasts (crashS S1 ps)).getD x [] = (lasts S).getD x [] ∨ (k * 16 ≤ x ∧ x < k * 16 + j ∧ (lasts (crashS S1 ps)).getD x [] = pad ((rows.take j).getD (x - k * 16) [])) := fun ps x hx => by
      have h2 := crash_getD hne ps x (by rw [hwl]; exact hx)
      rcases hmem x hfj _ h2 with h2 | ⟨h2, h3, h4⟩
      · rw [single_getD h1 x hx] at h2
        exact .inl (by simpa using h2)
      · rw [List.length_take] at h3
        exact .inr ⟨h2, by omega, h4⟩
    refine ⟨hl0, S1, e, hne, hwl, hsm, fun ps => ⟨slotD_congr fun i hi => ?_, fun i hi => ?_⟩⟩
    · rcases hget ps ((1 - k) * 16 + i) (by omega) with h | ⟨h, h2, _⟩
      · exact h
      · omega
    · rcases hget ps (k * 16 + i) (by omega) with h | ⟨h, h2, h3⟩
      · exact .inl h
      · right
        rw [h3, show k * 16 + i - k * 16 = i by omega, ← hrow i hi]
        congr 1
        rw [List.getD_eq_getElem?_getD, List.getD_eq_getElem?_getD, List.getElem?_take, if_pos (by omega)]

/-- what a Commit of a Super that lives may be -/
theorem commit_sem {s : SupS} (h : Alive s) (bs : List UInt8) (hb : bs.length ≤ 814) (hN : s.N < 1125899906842624) :
    (∃ s', commitS s bs = (0, s') ∧ Alive s' ∧ s'.img = bs ∧ s'.N = s.N + 1 ∧ s'.S.length = s.S.length ∧ (s.l = -1 → s'.l = -1) ∧ slotD (lasts s'.S) s.slot = slotD (lasts s.S) s.slot ∧ s'.slot = 1 - s.slot ∧ slotD (lasts s'.S) (1 - s.slot) = packOf (s.N + 1) bs) ∨
    (0 ≤ s.l ∧ ∃ s', commitS s bs = (6, s') ∧ Cut s' bs s.N ∧ s'.img = s.img ∧ s'.S.length = s.S.length ∧ s'.l = 0 ∧ s'.N = s.N) := by
  have hsl := h.tells.slot_le
  have hlen := h.len
  have hp : packI ((s.N : Int) + 1) bs = packOf (s.N + 1) bs := by
    unfold packI
    rw [if_pos ⟨by omega, by omega, hb⟩, show ((s.N : Int) + 1).toNat = s.N + 1 by omega]
  have hcast : (((1 - s.slot : Nat) : Int) * 16) = (((1 - s.slot) * 16 : Nat) : Int) := by rw [Int.natCast_mul]; rfl
  have hc : ∀ R, layTo s.S s.l (((1 - s.slot) * 16 : Nat) : Int) (packOf (s.N + 1) bs) = R → commitS s bs = if R.1 = 0 then (0, { S := R.2.1, l := R.2.2, img := bs, N := s.N + 1, slot := 1 - s.slot, dead := false }) else (R.1, { s with S := R.2.1, l := R.2.2, dead := true }) := by
    rintro R rfl
    unfold commitS
    rw [if_neg (by rw [h.dead]; simp), if_neg (by omega), hp, hcast]
  have hss : 1 - (1 - s.slot) = s.slot := by omega
  have hlp := lay_pack h.one hlen h.low (k := 1 - s.slot) (by omega) (s.N + 1) hb
  rw [hss] at hlp
  rcases hlp with ⟨S1, l', e, h1, h2, h3, h4, h5, h6⟩ | ⟨hl0, S1, e, h1, h2, h3, h4⟩
  · left
    have hc1 := hc _ e
    rw [if_pos rfl] at hc1
    exact ⟨_, hc1, { dead := rfl, one := h1, len := by rw [h2]; exact hlen, tells := h.tells.next hN hb h3 h4, low := h6 }, rfl, rfl, h2, h5, h3, rfl, h4⟩
  · right
    have hc1 := hc _ e
    rw [if_neg (show ¬ (6 : Int) = 0 by omega)] at hc1
    refine ⟨hl0, _, hc1, { dead := rfl, ne := h1, len := by rw [h2]; exact hlen, low := by show (-1 : Int) ≤ 0; omega, small := h3, tells := fun ps => ?_ }, rfl, h2, rfl, rfl⟩
    obtain ⟨M, hM, ht⟩ := h.tells.torn hN hb (h4 ps).1 (h4 ps).2
    rcases ht with ht | ht
    · exact ⟨M, _, hM, .inl ht⟩
    · exact ⟨M, _, hM, .inr ht⟩
theorem commit_refused {s : SupS} (h : s.dead = false) (bs : List UInt8) (hb : 814 < bs.length ∨ s.N = 1125899906842624) : commitS s bs = (3, s) := by
  unfold commitS
  rw [if_neg (by rw [h]; simp), if_pos hb]
theorem commit_dead {s : SupS} (h : s.dead = true) (bs : List UInt8) : commitS s bs = (6, s) := by
  unfold commitS
  rw [if_pos h]

/-! ### Format -/
theorem zeros_num0 : numOf (List.replicate 64 0) = 0 := by kernel_rfl
theorem zeros_num (r : List UInt8) (h : r = List.replicate 64 0) : numOf r = 0 := by
  subst h
  exact zeros_num0
theorem pad_nil : pad [] = List.replicate 64 0 := rfl
/-- Format of a disk without a fuse -/
theorem format_sem {S : Sec} (hl : 32 ≤ S.length) (hne : ∀ vs ∈ S, vs ≠ []) (bs : List UInt8) (hb : bs.length ≤ 814) :
    (layTo S (-1) 16 nils).1 = 0 ∧ ∃ s, formatS S (-1) bs = (0, s) ∧ Alive s ∧ s.img = bs ∧ s.N = 1 ∧ s.slot = 0 ∧ s.l = -1 ∧ s.S.length = S.length ∧ slotD (lasts s.S) 0 = packOf 1 bs ∧ unpackS (slotD (lasts s.S) 1) = (0, []) := by
  have hn64 : ∀ r ∈ nils, r.length ≤ 64 := fun r hr => by rw [List.eq_of_mem_replicate hr]; simp
  have hnl : nils.length = 16 := rfl
  have e1 : ∃ S1, layTo S (-1) 16 nils = (0, S1, -1) ∧ Single S1 ∧ S1.length = S.length ∧ lasts S1 = over (lasts S) 16 nils := by
    rcases lay_cases nils S (-1) 16 (by omega) (by rw [hnl]; omega) hn64 with ⟨l', e, h1, _⟩ | ⟨h0, _⟩
    · rw [h1 rfl] at e
      exact ⟨_, e, single_flush _, by rw [flush_length, wrote_length], by rw [lasts_flush, lasts_wrote _ _ _ (by rw [hnl]; omega)]⟩
    · omega
  obtain ⟨S1, e, hs1, hl1, hla⟩ := e1
  refine ⟨by rw [e], ?_⟩
  have hz : ∀ i, i < 16 → (lasts S1).getD (1 * 16 + i) [] = List.replicate 64 0 := fun i hi => by
    rw [hla, over_getD _ _ _ _ (by rw [hnl, lasts_length]; omega), if_pos (by rw [hnl]; omega)]
    have : nils.getD (1 * 16 + i - 16) [] = [] := by
      rw [List.getD_eq_getElem?_getD]
      unfold nils
      rw [List.getElem?_replicate, if_pos (by omega)]; rfl
    rw [this]; rfl
  have hu1 : ∀ D : List (List UInt8), (∀ i, i < 16 → D.getD (1 * 16 + i) [] = List.replicate 64 0) → unpackS (slotD D 1) = (0, []) := fun D hD => by
    refine unpack_zero_snd (slotD_length _ _) ?_
    rcases Nat.eq_zero_or_pos (unpackS (slotD D 1)).1 with h | h
    · exact h
    · exfalso
      obtain ⟨h1, h2, h3⟩ := unpack_some h (slotD_length _ _)
      have h4 := slotD_get D 1 0 (by omega)
      rw [h1, packOf_get (by omega)] at h4
      injection h4 with h4
      have h5 := numOf_row (n := (unpackS (slotD D 1)).1) (k := 0) h2 h3 (by omega)
      rw [h4, zeros_num _ (hD 0 (by omega))] at h5
      omega
  have hp : packI (((0 : Nat) : Int) + 1) bs = packOf 1 bs := by unfold packI; rw [if_pos ⟨by omega, by omega, hb⟩]; rfl
  have hc : formatS S (-1) bs = if (layTo S1 (-1) ((0 : Nat) : Int) (packOf 1 bs)).1 = 0 then (0, { S := (layTo S1 (-1) ((0 : Nat) : Int) (packOf 1 bs)).2.1, l := (layTo S1 (-1) ((0 : Nat) : Int) (packOf 1 bs)).2.2, img := bs, N := 1, slot := 0, dead := false })
      else ((layTo S1 (-1) ((0 : Nat) : Int) (packOf 1 bs)).1, { S := (layTo S1 (-1) ((0 : Nat) : Int) (packOf 1 bs)).2.1, l := (layTo S1 (-1) ((0 : Nat) : Int) (packOf 1 bs)).2.2, img := [], N := 0, slot := 1, dead := true }) := by
    unfold formatS
    rw [e]
    unfold commitS
    rw [if_neg (by simp), if_neg (by show ¬ (814 < bs.length ∨ (0 : Nat) = 1125899906842624); omega), hp]
    rfl
  have hc' : ∀ R, layTo S1 (-1) ((0 : Nat) : Int) (packOf 1 bs) = R → formatS S (-1) bs = if R.1 = 0 then (0, { S := R.2.1, l := R.2.2, img := bs, N := 1, slot := 0, dead := false }) else (R.1, { S := R.2.1, l := R.2.2, img := [], N := 0, slot := 1, dead := true }) := by
    rintro R rfl
    exact hc
  have hlp := lay_pack hs1 (by omega) (show (-1 : Int) ≤ -1 by omega) (k := 0) (by omega) 1 hb
  rcases hlp with ⟨S2, l', e2, g1, g2, g3, g4, g5, g6⟩ | ⟨h0, _⟩
  · have hc1 := hc' _ e2
    rw [if_pos rfl] at hc1
    have hu := hu1 _ hz
    rw [show 1 - 0 = 1 from rfl] at g3
    rw [← g3] at hu
    have ht := tells_of (D := lasts S2) (img := bs) (n := 1) (k := 0) (by omega) (by omega) (by rw [g4]; exact unpack_pack (by omega) (by omega) hb) (by rw [hu]; show (0 : Nat) < 1; omega)
    have hm : mostD (lasts S2) = 1 := by
      have h4 : mostD (lasts S2) ≤ 1 := mostD_le.2 fun k hk r hr => by
        rcases Nat.le_one_iff_eq_zero_or_eq_one.1 hk with rfl | rfl
        · rw [g4] at hr
          obtain ⟨i, hi, rfl⟩ := List.mem_map.1 hr
          rw [numOf_row (by omega) hb (List.mem_range.1 hi)]
          exact Nat.le_refl _
        · rw [g3] at hr
          obtain ⟨i, hi, rfl⟩ := List.mem_map.1 hr
          rw [zeros_num _ (hz i (List.mem_range.1 hi))]
          omega
      have h5 := mostD_le.1 (Nat.le_refl (mostD (lasts S2))) 0 (by omega) (rowOf 1 0 bs) (by rw [g4]; exact List.mem_of_getElem? (packOf_get (by omega)))
      rw [numOf_row (by omega) hb (by omega)] at h5
      omega
    rw [hm] at ht
    exact ⟨_, hc1, { dead := rfl, one := g1, len := by show 32 ≤ S2.length; omega, tells := ht, low := g6 }, rfl, rfl, rfl, g5 rfl, by show S2.length = _; omega, g4, hu⟩
  · omega
end Go.Proofs.YtdpmfcifgimleaaGreatDoor

/-
  The contract of octet's (*Writer).num. No statement of the seat is proved here.
-/
namespace Go.Proofs.YtdpmfcifgimleaaGreatDoor
open Go Go.RowKit

theorem low_digit (n : Nat) (_ : ¬ n < 128) : Value.int .u8 (bits .or .u8 (bits .and .i64 (n : Int) 127 % 256) 128) = bv (n % 128 + 128).toUInt8 := by
  have h1 : bits .and .i64 (n : Int) 127 % 256 = ((n % 128 : Nat) : Int) := by rw [i64_and127]; omega
  have h2 : bits .or .u8 ((n % 128 : Nat) : Int) ((128 : Nat) : Int) = ((n % 128 ||| 128 : Nat) : Int) := u8_or_nat _ _ (by omega) (by omega)
  have h3 : n % 128 ||| 128 = n % 128 + 128 := by rw [Nat.or_comm, nat_join 7 128 (n % 128) rfl (by omega), Nat.add_comm]
  rw [h1]
  rw [show (128 : Int) = ((128 : Nat) : Int) from rfl, h2, h3]
  unfold bv
  rw [show (n % 128 + 128).toUInt8.toNat = n % 128 + 128 by simp [Nat.toUInt8, UInt8.toNat_ofNat']; omega]
theorem last_digit (n : Nat) (h : n < 128) : Value.int .u8 (n : Int) = bv n.toUInt8 := by
  unfold bv
  rw [show n.toUInt8.toNat = n by simp [Nat.toUInt8, UInt8.toNat_ofNat']; omega]

/-- the relation of num's loop -/
def NumRel (fp : Nat → Prop) (g : Nat) (N : Nat) (xs : List Value) (w : World) (n : Nat) (w1 : World) : Prop :=
  n ≤ 4611686018427387904 ∧ ∃ ds : List UInt8, ds ++ dig n = dig N ∧ Wr w1 (More fp w w1) g (xs ++ ds.map bv) ∧ Only fp w w1

theorem NumRel.put {fp : Nat → Prop} {g N : Nat} {xs : List Value} {w w1 w2 : World} {n : Nat} {ds : List UInt8} {d : UInt8} {o : Obj} (hn : n ≤ 4611686018427387904) (he : ds ++ dig n = dig N) (ho : Only fp w w1) (hd : dig n = d :: dig (n / 128))
    (h1 : Wr w2 (More (More fp w w1) (w1.alloc o) w2) g ((xs ++ ds.map bv) ++ [bv d])) (h2 : Only (More fp w w1) (w1.alloc o) w2) : NumRel fp g N xs w (n / 128) w2 := by
  refine ⟨by omega, ds ++ [d], by rw [List.append_assoc, List.singleton_append, ← hd, he], ?_, ?_⟩
  · have e : xs ++ (ds ++ [d]).map bv = (xs ++ ds.map bv) ++ [bv d] := by simp
    rw [e]
    refine h1.mono (fun k hk _ => ?_)
    rcases hk with (hk | hk) | hk
    · exact .inl hk
    · exact .inr ⟨hk.1, by have := h2.size; simp at this; omega⟩
    · exact .inr ⟨by have := ho.size; have := hk.1; simp at this; omega, hk.2⟩
  · exact (ho.alloc o).trans h2 (fun k hk hm => by
      rcases hm with hm | hm
      · exact hm
      · omega)

theorem NumRel.end_ {fp : Nat → Prop} {g N : Nat} {xs : List Value} {w w1 w2 : World} {n : Nat} {ds : List UInt8} {o : Obj} (he : ds ++ dig n = dig N) (ho : Only fp w w1) (hn : n < 128)
    (h1 : Wr w2 (More (More fp w w1) (w1.alloc o) w2) g ((xs ++ ds.map bv) ++ [bv n.toUInt8])) (h2 : Only (More fp w w1) (w1.alloc o) w2) :
    Wr w2 (More fp w w2) g (xs ++ (dig N).map bv) ∧ Only fp w w2 := by
  have e : xs ++ (dig N).map bv = (xs ++ ds.map bv) ++ [bv n.toUInt8] := by rw [← he, dig_lt hn]; simp
  refine ⟨?_, ?_⟩
  · rw [e]
    refine h1.mono (fun k hk _ => ?_)
    rcases hk with (hk | hk) | hk
    · exact .inl hk
    · exact .inr ⟨hk.1, by have := h2.size; simp at this; omega⟩
    · exact .inr ⟨by have := ho.size; have := hk.1; simp at this; omega, hk.2⟩
  · exact (ho.alloc o).trans h2 (fun k hk hm => by
      rcases hm with hm | hm
      · exact hm
      · omega)

theorem NumRel.len {n : Nat} {v : Int} {ds : List UInt8} (he : ds ++ dig n = dig (clamp v)) : (ds.map bv).length ≤ 8 := by
  have h1 := dig_clamp_len v
  have h2 := dig_pos n
  rw [← he, List.length_append] at h1
  rw [List.length_map]
  omega

set_option maxHeartbeats 1000000 in
theorem num_any (fp : Nat → Prop) (g : Nat) (v : Int) (xs : List Value) (w : World) (hw : Wr w fp g xs) (hv1 : -9223372036854775808 ≤ v) (hv2 : v ≤ 9223372036854775807) (hb : xs.length ≤ 549755813888) :
    Calls Tryz.prog 137 #[.pointer (some ⟨g, 0, none⟩), .int .i64 v] w fun e w' => e = .returned (.tuple #[]) ∧ Wr w' (More fp w w') g (xs ++ (dig (clamp v)).map bv) ∧ Only fp w w' := by
  have hcase : v < 0 ∨ (0 ≤ v ∧ v ≤ 4611686018427387904) ∨ 4611686018427387904 < v := by omega
  rcases hcase with ha | ⟨ha, hc⟩ | ha
  all_goals
    go_enter Tryz.func137, Tryz.ntmps137
    go_wp2
    go_loopw [4] (fun r w1 => ∃ n : Nat, r = .int .i64 (n : Int) ∧ NumRel fp g (clamp v) xs w n w1) (fun r _ => (intOf r).toNat)
    case atStart => exact ⟨clamp v, congrArg (Value.int .i64) (by unfold clamp; omega), clamp_le v, [], rfl, by simpa using hw.mono (fun k hk _ => .inl hk), Only.refl _ _⟩
    case round =>
      obtain ⟨n, rfl, hn, ds, he, hw1, ho⟩ := hrel
      have hl := NumRel.len he
      have He := Lib.hid he
      clear he
      by_cases hlt : n < 128
      · go_wp2_with fail
        rw [last_digit n hlt]
        refine (raw_any _ g _ 1 1 (xs ++ ds.map bv) [bv n.toUInt8] _ (hw1.alloc _) rfl (Rd.lit _ _ _) (by simp [bv_one]) (by simp at hl ⊢; omega)).mono ?_
        rintro e w2 ⟨rfl, h1, h2⟩
        go_wp2
        go_end0
        exact ⟨rfl, NumRel.end_ He.out ho hlt h1 h2⟩
      · go_wp2_with fail
        rw [low_digit n hlt]
        refine (raw_any _ g _ 1 1 (xs ++ ds.map bv) [bv (n % 128 + 128).toUInt8] _ (hw1.alloc _) rfl (Rd.lit _ _ _) (by simp [bv_one]) (by simp at hl ⊢; omega)).mono ?_
        rintro e w2 ⟨rfl, h1, h2⟩
        go_wp2
        go_roundw
        case rel => exact ⟨n / 128, by go_num, NumRel.put hn He.out ho (dig_ge hlt) h1 h2⟩
        case measure => simp [intOf]; omega
end Go.Proofs.YtdpmfcifgimleaaGreatDoor

/-
  The contracts of octet's (*Writer).Nums, Bytes, Out. No statement of the seat is proved here.
-/
namespace Go.Proofs.YtdpmfcifgimleaaGreatDoor
open Go Go.RowKit

/-- numbers as bytes -/
def numsB (vs : List Int) : List UInt8 := vs.flatMap fun v => dig (clamp v)
def numsTo (vs : List Int) (k : Nat) : List UInt8 := numsB (vs.take k)
theorem numsTo_succ (vs : List Int) (k : Nat) (h : k < vs.length) : numsTo vs (k + 1) = numsTo vs k ++ dig (clamp vs[k]) := by
  unfold numsTo numsB
  rw [List.take_succ_eq_append_getElem h, List.flatMap_append]; simp
theorem numsTo_all (vs : List Int) : numsTo vs vs.length = numsB vs := by unfold numsTo; rw [List.take_length]
theorem numsTo_len (vs : List Int) : ∀ k, (numsTo vs k).length ≤ 9 * k
  | 0 => by simp [numsTo, numsB]
  | k + 1 => by
    have ih := numsTo_len vs k
    by_cases h : k < vs.length
    · rw [numsTo_succ vs k h, List.length_append]
      have := dig_clamp_len vs[k]
      omega
    · have e : numsTo vs (k + 1) = numsTo vs k := by unfold numsTo; rw [List.take_of_length_le (by omega), List.take_of_length_le (by omega)]
      rw [e]; omega

set_option maxHeartbeats 1000000 in
theorem nums_any (fp : Nat → Prop) (g : Nat) (A : Option Addr) (n c : Nat) (vs : List Int) (xs : List Value) (w : World) (hw : Wr w fp g xs) (hn : n = vs.length) (hr : RdF fp w A (vs.map iv)) (hi : ∀ v ∈ vs, isInt v)
    (hb : xs.length + 9 * vs.length ≤ 549755813888) :
    Calls Tryz.prog 85 #[.pointer (some ⟨g, 0, none⟩), .slice A n c] w fun e w' => e = .returned (.tuple #[]) ∧ Wr w' (More fp w w') g (xs ++ (numsB vs).map bv) ∧ Only fp w w' := by
  subst hn
  go_enter Tryz.func85, Tryz.ntmps85
  go_wp2
  go_loopw [8] (fun i w1 => ∃ k : Nat, k ≤ vs.length ∧ i = .int .i64 (k : Int) ∧ Wr w1 (More fp w w1) g (xs ++ (numsTo vs k).map bv) ∧ Only fp w w1) (fun i _ => vs.length - (intOf i).toNat)
  case atStart => exact ⟨0, Nat.zero_le _, rfl, by simpa [numsTo, numsB] using hw.mono (fun k hk _ => .inl hk), Only.refl _ _⟩
  case round =>
    obtain ⟨k, hk, rfl, hw1, ho⟩ := hrel
    by_cases hlt : k < vs.length
    · obtain ⟨ad, rfl, hc⟩ := (hr.only ho).1.at_ (k := k) (by simpa using hlt)
      simp only [List.getElem_map, iv] at hc
      have hik := hi vs[k] (List.getElem_mem hlt)
      have hlen := numsTo_len vs k
      have hs := Lib.hid (numsTo_succ vs k hlt)
      go_wp2_with fail
      refine (num_any _ g _ _ _ hw1 hik.1 hik.2 (by simp at hlen ⊢; omega)).mono ?_
      rintro e w2 ⟨rfl, h1, h2⟩
      go_wp2
      go_roundw
      case rel => exact ⟨k + 1, by omega, by go_num, by rw [hs.out, List.map_append, ← List.append_assoc]; exact Wr.join ho.size (Nat.le_refl _) h2.size h1, ho.join h2⟩
      case measure => simp [intOf]; omega
    · obtain rfl : k = vs.length := by omega
      rw [numsTo_all] at hw1
      go_wp2
      go_end0
      exact ⟨rfl, hw1, ho⟩

/-- rows as bytes, each with its length -/
def rowsB (xss : List (List UInt8)) : List UInt8 := xss.flatMap fun xs => dig xs.length ++ xs
def rowsTo (xss : List (List UInt8)) (k : Nat) : List UInt8 := rowsB (xss.take k)
theorem rowsTo_succ (xss : List (List UInt8)) (k : Nat) (h : k < xss.length) : rowsTo xss (k + 1) = rowsTo xss k ++ dig xss[k].length ++ xss[k] := by
  unfold rowsTo rowsB
  rw [List.take_succ_eq_append_getElem h, List.flatMap_append]; simp
theorem rowsTo_all (xss : List (List UInt8)) : rowsTo xss xss.length = rowsB xss := by unfold rowsTo; rw [List.take_length]
theorem rowsTo_le (xss : List (List UInt8)) (k : Nat) : (rowsTo xss k).length ≤ (rowsB xss).length := by
  have h : rowsB xss = rowsTo xss k ++ rowsB (xss.drop k) := by unfold rowsTo rowsB; rw [← List.flatMap_append, List.take_append_drop]
  rw [h, List.length_append]; omega

set_option maxHeartbeats 1000000 in
theorem bytes_any (fp : Nat → Prop) (g : Nat) (A : Option Addr) (n c : Nat) (xss : List (List UInt8)) (xs : List Value) (w : World) (hw : Wr w fp g xs) (hn : n = xss.length) (hr : RowsF fp w A xss)
    (hb : xs.length + (rowsB xss).length ≤ 549755813888) (hb2 : xss.length ≤ 549755813888) :
    Calls Tryz.prog 86 #[.pointer (some ⟨g, 0, none⟩), .slice A n c] w fun e w' => e = .returned (.tuple #[]) ∧ Wr w' (More fp w w') g (xs ++ (rowsB xss).map bv) ∧ Only fp w w' := by
  subst hn
  go_enter Tryz.func86, Tryz.ntmps86
  go_wp2
  go_loopw [8] (fun i w1 => ∃ k : Nat, k ≤ xss.length ∧ i = .int .i64 (k : Int) ∧ Wr w1 (More fp w w1) g (xs ++ (rowsTo xss k).map bv) ∧ Only fp w w1) (fun i _ => xss.length - (intOf i).toNat)
  case atStart => exact ⟨0, Nat.zero_le _, rfl, by simpa [rowsTo, rowsB] using hw.mono (fun k hk _ => .inl hk), Only.refl _ _⟩
  case round =>
    obtain ⟨k, hk, rfl, hw1, ho⟩ := hrel
    by_cases hlt : k < xss.length
    · obtain ⟨ad, B, cb, rfl, hcell, hl, hrd⟩ := (hr.more ho).at_ hlt
      have hlen := rowsTo_le xss (k + 1)
      rw [rowsTo_succ xss k hlt] at hlen
      simp only [List.length_append] at hlen
      have hs := Lib.hid (rowsTo_succ xss k hlt)
      have hcl := Lib.hid (clamp_of_nat (n := xss[k].length) (by omega))
      go_wp2_with fail
      refine (num_any _ g _ _ _ hw1 (by omega) (by omega) (by simp; omega)).mono ?_
      rintro e w2 ⟨rfl, h1, h2⟩
      rw [hcl.out] at h1
      have h1' := Wr.join ho.size (Nat.le_refl _) h2.size h1
      have ho2 := ho.join h2
      go_wp2_with fail
      refine (raw_any _ g B _ cb _ (xss[k].map bv) _ h1' (by simp) (hrd.only h2).1 (bvs_one _) (by simp; omega)).mono ?_
      rintro e w3 ⟨rfl, h3, h4⟩
      go_wp2
      go_roundw
      case rel => exact ⟨k + 1, by omega, by go_num, by rw [hs.out, List.map_append, List.map_append, ← List.append_assoc, ← List.append_assoc]; exact Wr.join ho2.size (Nat.le_refl _) h4.size h3, ho2.join h4⟩
      case measure => simp [intOf]; omega
    · obtain rfl : k = xss.length := by omega
      rw [rowsTo_all] at hw1
      go_wp2
      go_end0
      exact ⟨rfl, hw1, ho⟩

set_option maxHeartbeats 1000000 in
theorem out_any (fp : Nat → Prop) (g : Nat) (bs : List UInt8) (w : World) (hw : Wr w fp g (bs.map bv)) (hb : bs.length ≤ 1099511627776) :
    Calls Tryz.prog 87 #[.pointer (some ⟨g, 0, none⟩)] w fun e w' => ∃ A' c', e = .returned (.slice A' bs.length c') ∧ New w w' A' c' bs ∧ Below w.heap.size w w' := by
  obtain ⟨hg, A, c, hblk, hown⟩ := hw
  have h0 := hblk.cell 0
  simp only [List.getElem?_toArray, List.getElem?_cons_zero, List.length_map] at h0
  have hcap := hown.cap
  rw [List.length_map] at hcap
  go_enter Tryz.func87, Tryz.ntmps87
  go_wp2_with fail
  refine (join_any _ 1 1 [bs] bs _ rfl (by simp) (RowsF.one (RdF.of hown.rd) hcap _ rfl id) hb (by simp)).mono ?_
  rintro e w' ⟨A', c', rfl, hnew, hbel⟩
  go_wp2
  go_ret
  exact ⟨A', c', rfl, hnew.back (by simp), ((Below.refl _ _).alloc (Nat.le_refl _) _).trans (hbel.mono (by simp))⟩
end Go.Proofs.YtdpmfcifgimleaaGreatDoor

/-
  Plain mathematics of vault: entries, extents, sectors, names. No Go here.
-/
namespace Go.Proofs.YtdpmfcifgimleaaGreatDoor

/-- a blob's entry in a directory -/
structure Ent where
  name : List UInt8
  len : Nat
  sum : Nat
  ext : List (Nat × Nat)
  deriving Inhabited, DecidableEq

/-- so many sectors -/
def needN (n : Nat) : Nat := (n + 63) / 64
theorem needN_zero : needN 0 = 0 := rfl
theorem needN_pos {n : Nat} (h : 0 < n) : needN n = (n - 1) / 64 + 1 := by unfold needN; omega

/-- the bytes of names -/
def okB (c : UInt8) : Bool := (decide (97 ≤ c.toNat) && decide (c.toNat ≤ 122)) || (decide (48 ≤ c.toNat) && decide (c.toNat ≤ 57))
def nameB (s : List UInt8) : Bool := decide (1 ≤ s.length) && decide (s.length ≤ 8) && s.all okB

/-- the sectors of extents -/
def runL (x : Nat × Nat) : List Nat := (List.range x.2).map (x.1 + ·)
def secs (l : List (Nat × Nat)) : List Nat := l.flatMap runL
theorem runL_length (x : Nat × Nat) : (runL x).length = x.2 := by simp [runL]
theorem mem_runL {x : Nat × Nat} {i : Nat} : i ∈ runL x ↔ x.1 ≤ i ∧ i < x.1 + x.2 := by
  unfold runL
  simp only [List.mem_map, List.mem_range]
  constructor
  · rintro ⟨k, h, rfl⟩; omega
  · intro h; exact ⟨i - x.1, by omega, by omega⟩
theorem runL_succ (b c : Nat) : runL (b, c + 1) = runL (b, c) ++ [b + c] := by
  unfold runL
  rw [List.range_succ, List.map_append]; rfl
theorem secs_append (a b : List (Nat × Nat)) : secs (a ++ b) = secs a ++ secs b := by unfold secs; rw [List.flatMap_append]
theorem secs_one (x : Nat × Nat) : secs [x] = runL x := by simp [secs]
theorem mem_secs {l : List (Nat × Nat)} {i : Nat} : i ∈ secs l ↔ ∃ x ∈ l, x.1 ≤ i ∧ i < x.1 + x.2 := by
  unfold secs
  rw [List.mem_flatMap]
  constructor
  · rintro ⟨x, h1, h2⟩; exact ⟨x, h1, mem_runL.1 h2⟩
  · rintro ⟨x, h1, h2⟩; exact ⟨x, h1, mem_runL.2 h2⟩
theorem secs_take_succ (l : List (Nat × Nat)) (k : Nat) (h : k < l.length) : secs (l.take (k + 1)) = secs (l.take k) ++ runL l[k] := by
  rw [List.take_succ_eq_append_getElem h, secs_append, secs_one]
theorem secs_length (l : List (Nat × Nat)) : (secs l).length = (l.map (·.2)).sum := by
  induction l with
  | nil => rfl
  | cons x r ih =>
    have : secs (x :: r) = runL x ++ secs r := rfl
    rw [this, List.length_append, ih, runL_length]; simp
/-- as extents -/
def jstep (l : List (Nat × Nat)) (i : Nat) : List (Nat × Nat) :=
  match l.getLast? with
  | none => l ++ [(i, 1)]
  | some x => if x.1 + x.2 = i then l.dropLast ++ [(x.1, x.2 + 1)] else l ++ [(i, 1)]
def joinL (s : List Nat) : List (Nat × Nat) := s.foldl jstep []
theorem joinL_snoc (s : List Nat) (i : Nat) : joinL (s ++ [i]) = jstep (joinL s) i := by unfold joinL; rw [List.foldl_append]; rfl
theorem jstep_new {l : List (Nat × Nat)} {i : Nat} (h : ∀ x, l.getLast? = some x → x.1 + x.2 ≠ i) : jstep l i = l ++ [(i, 1)] := by
  unfold jstep
  cases hl : l.getLast? with
  | none => rfl
  | some x => simp only; rw [if_neg (h x hl)]
theorem jstep_more {l : List (Nat × Nat)} {i : Nat} {x : Nat × Nat} (h : l.getLast? = some x) (he : x.1 + x.2 = i) : jstep l i = l.dropLast ++ [(x.1, x.2 + 1)] := by
  unfold jstep
  rw [h]; simp only; rw [if_pos he]
theorem secs_jstep (l : List (Nat × Nat)) (i : Nat) : secs (jstep l i) = secs l ++ [i] := by
  cases hl : l.getLast? with
  | none =>
    rw [jstep_new (by intro x h; rw [hl] at h; cases h), secs_append, secs_one]; rfl
  | some x =>
    by_cases he : x.1 + x.2 = i
    · rw [jstep_more hl he, secs_append, secs_one, runL_succ, ← List.append_assoc]
      congr 1
      · have : l = l.dropLast ++ [x] := by
          have h := List.getLast?_eq_some_iff.1 hl
          obtain ⟨ys, rfl⟩ := h
          simp
        conv => rhs; rw [this, secs_append, secs_one]
      · rw [he]
    · rw [jstep_new (by intro y h; rw [hl] at h; injection h with h; subst h; exact he), secs_append, secs_one]; rfl
theorem secs_joinL (s : List Nat) : secs (joinL s) = s := by
  have key : ∀ n, secs (joinL (s.take n)) = s.take n := by
    intro n
    induction n with
    | zero => rfl
    | succ n ih =>
      rcases Nat.lt_or_ge n s.length with h | h
      · rw [List.take_succ_eq_append_getElem h, joinL_snoc, secs_jstep, ih]
      · rw [List.take_of_length_le (by omega)]
        rw [List.take_of_length_le (by omega)] at ih
        exact ih
  have := key s.length
  rwa [List.take_length] at this
theorem jstep_length (l : List (Nat × Nat)) (i : Nat) : (jstep l i).length ≤ l.length + 1 := by
  unfold jstep
  split
  · simp
  · split <;> simp
theorem joinL_length (s : List Nat) : (joinL s).length ≤ s.length := by
  have key : ∀ n, (joinL (s.take n)).length ≤ n := by
    intro n
    induction n with
    | zero => exact Nat.le_refl _
    | succ n ih =>
      rcases Nat.lt_or_ge n s.length with h | h
      · rw [List.take_succ_eq_append_getElem h, joinL_snoc]
        have := jstep_length (joinL (s.take n)) s[n]; omega
      · rw [List.take_of_length_le (by omega)]
        rw [List.take_of_length_le (by omega)] at ih
        omega
  have := key s.length
  rwa [List.take_length] at this
theorem joinL_take_succ (s : List Nat) (k : Nat) (h : k < s.length) : joinL (s.take (k + 1)) = jstep (joinL (s.take k)) s[k] := by
  rw [List.take_succ_eq_append_getElem h, joinL_snoc]
theorem joinL_mem (s : List Nat) : ∀ x ∈ joinL s, 1 ≤ x.2 ∧ x.1 ∈ s ∧ x.2 ≤ s.length := by
  have key : ∀ n, ∀ x ∈ joinL (s.take n), 1 ≤ x.2 ∧ x.1 ∈ s.take n := by
    intro n
    induction n with
    | zero => intro x hx; simp [joinL] at hx
    | succ n ih =>
      intro x hx
      rcases Nat.lt_or_ge n s.length with h | h
      · rw [joinL_take_succ s n h] at hx
        have hs : ∀ y, y ∈ s.take n → y ∈ s.take (n + 1) := fun y hy => by
          rw [List.take_succ_eq_append_getElem h]; exact List.mem_append_left _ hy
        have hl : s[n] ∈ s.take (n + 1) := by rw [List.take_succ_eq_append_getElem h]; exact List.mem_append_right _ (List.mem_singleton.2 rfl)
        unfold jstep at hx
        split at hx
        · rw [List.mem_append] at hx
          rcases hx with hx | hx
          · exact ⟨(ih x hx).1, hs _ (ih x hx).2⟩
          · simp at hx; subst hx; exact ⟨Nat.le_refl _, hl⟩
        · rename_i y hy
          have hym := List.mem_of_getLast? hy
          split at hx
          · rw [List.mem_append] at hx
            rcases hx with hx | hx
            · have := List.mem_of_mem_take (by rw [List.dropLast_eq_take] at hx; exact hx)
              exact ⟨(ih x this).1, hs _ (ih x this).2⟩
            · simp at hx; subst hx; exact ⟨by simp, hs _ (ih y hym).2⟩
          · rw [List.mem_append] at hx
            rcases hx with hx | hx
            · exact ⟨(ih x hx).1, hs _ (ih x hx).2⟩
            · simp at hx; subst hx; exact ⟨Nat.le_refl _, hl⟩
      · rw [List.take_of_length_le (by omega)] at hx ⊢
        rw [List.take_of_length_le (by omega)] at ih
        exact ih x hx
  intro x hx
  have h := key s.length x (by rw [List.take_length]; exact hx)
  rw [List.take_length] at h
  refine ⟨h.1, h.2, ?_⟩
  have h2 : (runL x).length ≤ (secs (joinL s)).length := by
    obtain ⟨a, b, hab⟩ := List.append_of_mem hx
    rw [hab, secs_append]
    have : secs (x :: b) = runL x ++ secs b := rfl
    rw [this, List.length_append, List.length_append]; omega
  rw [runL_length, secs_joinL] at h2
  exact h2

/-! ### a directory as bytes -/
def extB (x : Nat × Nat) : List UInt8 := numsB [(x.1 : Int), (x.2 : Int)]
def entB (e : Ent) : List UInt8 := rowsB [e.name] ++ numsB [(e.len : Int), (e.sum : Int), (e.ext.length : Int)] ++ e.ext.flatMap extB
def dirB (L : List Ent) : List UInt8 := numsB [(L.length : Int)] ++ L.flatMap entB

/-! ### owners -/
def markL (l : List (List UInt8)) (x : Nat × Nat) (s : List UInt8) : List (List UInt8) := l.mapIdx fun i o => if x.1 ≤ i ∧ i < x.1 + x.2 then s else o
def markE (l : List (List UInt8)) (e : Ent) : List (List UInt8) := e.ext.foldl (fun l x => markL l x e.name) l
def ownerL (n : Nat) (L : List Ent) : List (List UInt8) := L.foldl markE (markL (List.replicate n []) (0, 32) [33])
theorem markL_length (l : List (List UInt8)) (x : Nat × Nat) (s : List UInt8) : (markL l x s).length = l.length := by simp [markL]
theorem markL_getD (l : List (List UInt8)) (x : Nat × Nat) (s : List UInt8) (i : Nat) (h : i < l.length) : (markL l x s).getD i [] = if x.1 ≤ i ∧ i < x.1 + x.2 then s else l.getD i [] := by
  unfold markL
  rw [List.getD_eq_getElem?_getD, List.getElem?_mapIdx, List.getElem?_eq_getElem h, List.getD_eq_getElem?_getD, List.getElem?_eq_getElem h]
  simp
theorem markE_fold_length (s : List UInt8) (xs : List (Nat × Nat)) : ∀ l : List (List UInt8), (xs.foldl (fun l x => markL l x s) l).length = l.length := by
  induction xs with
  | nil => intro l; rfl
  | cons x r ih => intro l; rw [List.foldl_cons, ih, markL_length]
theorem markE_length (l : List (List UInt8)) (e : Ent) : (markE l e).length = l.length := markE_fold_length _ _ _
theorem ownerFold_length (L : List Ent) : ∀ l : List (List UInt8), (L.foldl markE l).length = l.length := by
  induction L with
  | nil => intro l; rfl
  | cons x r ih => intro l; rw [List.foldl_cons, ih, markE_length]
theorem ownerL_length (n : Nat) (L : List Ent) : (ownerL n L).length = n := by
  unfold ownerL
  rw [ownerFold_length, markL_length, List.length_replicate]
theorem markE_getD (e : Ent) (l : List (List UInt8)) (i : Nat) (h : i < l.length) : (markE l e).getD i [] = if i ∈ secs e.ext then e.name else l.getD i [] := by
  unfold markE
  generalize e.ext = xs
  induction xs generalizing l with
  | nil => simp [secs]
  | cons x r ih =>
    rw [List.foldl_cons, ih _ (by rw [markL_length]; exact h), markL_getD _ _ _ _ h]
    have e1 : secs (x :: r) = runL x ++ secs r := rfl
    have e2 : i ∈ secs (x :: r) ↔ (x.1 ≤ i ∧ i < x.1 + x.2) ∨ i ∈ secs r := by rw [e1, List.mem_append, mem_runL]
    by_cases h1 : i ∈ secs r
    · rw [if_pos h1, if_pos (e2.2 (.inr h1))]
    · by_cases h2 : x.1 ≤ i ∧ i < x.1 + x.2
      · rw [if_neg h1, if_pos h2, if_pos (e2.2 (.inl h2))]
      · rw [if_neg h1, if_neg h2, if_neg (by rw [e2]; rintro (h | h); exact h2 h; exact h1 h)]
/-- the sectors that are free, rising -/
def freeL (n : Nat) (L : List Ent) : List Nat := (List.range n).filter fun i => decide ((ownerL n L).getD i [] = [])
end Go.Proofs.YtdpmfcifgimleaaGreatDoor

/-
  DERIVED: THE SHELF's CONTRACTS AT THIS DUMP, IN PLAIN WORDS (tools/lay-plain.mjs out of 'YtdpmfcifgimleaaGreatDoorShelfA0.lean', which tools/lay-shelf.mjs wrote): THE SAME DECLARATIONS UNDER THE SAME NAMES: 'import', 'namespace', 'open', 'def', 'theorem' AND NOTHING ELSE: no command of the shelf's: FOR A HAND-IN. Each laying: the table of numbers ('.._ren') and one theorem, a field a fact of the dump's own or the kernel's comparison; each contract: ONE APPLICATION.
-/
namespace Go.Proofs
open Go.Shelf
def Tryz.layCompare_ren : Go.Shelf.Ren := ⟨fun | 106 => 147 | 213 => 187 | 265 => 202 | n => n, fun | 9 => 9 | 3 => 3 | n => n, fun | n => n⟩
theorem Tryz.layCompare : Go.Proofs.Lays.n106 Tryz.prog Tryz.layCompare_ren := {
  mixed := by kernel_rfl
  f106 := Tryz.func147.trans (congrArg some (by kernel_rfl))
  f213 := Tryz.func187.trans (congrArg some (by kernel_rfl))
  f265 := Tryz.func202.trans (congrArg some (by kernel_rfl))
  t3 := Tryz.underlying3
  a3 := Tryz.isAgg3
  z3 := Tryz.sizeOf3
  v3 := Tryz.zeroValue3
  t9 := Tryz.underlying9
  a9 := Tryz.isAgg9
  z9 := Tryz.sizeOf9
  v9 := Tryz.zeroValue9 }
end Go.Proofs

/-
  The contracts of vault's small functions: Need, isName, end, slots, compare. No statement of the seat is proved here.
-/
namespace Go.Proofs.YtdpmfcifgimleaaGreatDoor
open Go Go.RowKit

/-! ### Need -/
theorem need_any (n : Nat) (w : World) (hn : n ≤ 9223372036854775807) :
    Calls Tryz.prog 34 #[.int .i64 (n : Int)] w fun e w' => e = .returned (.int .i64 (needN n : Int)) ∧ w = w' := by
  by_cases h0 : n = 0
  · subst h0
    go_enter Tryz.func34, Tryz.ntmps34
    go_wp2
    go_ret
    exact ⟨rfl, rfl⟩
  · have hpos : 0 < (n : Int) := by omega
    have hres : (((n : Int) - 1) / 64 + 1) = (needN n : Int) := by unfold needN; omega
    have Hres := Lib.hid hres
    clear hres
    have hle : ¬ ((n : Int) ≤ 0) := by omega
    have hb1 : 0 ≤ (n : Int) - 1 := by omega
    have hb2 : (n : Int) ≤ 9223372036854775807 := by omega
    clear hn h0
    go_enter Tryz.func34, Tryz.ntmps34
    go_wp2
    go_ret
    exact ⟨by rw [← Hres.out]; rfl, rfl⟩
theorem need_neg (n : Int) (w : World) (hn : n ≤ 0) :
    Calls Tryz.prog 34 #[.int .i64 n] w fun e w' => e = .returned (.int .i64 0) ∧ w = w' := by
  go_enter Tryz.func34, Tryz.ntmps34
  go_wp2
  go_ret
  exact ⟨rfl, rfl⟩

/-! ### names -/
theorem compare_any (a b : List UInt8) (w : World) :
    Calls Tryz.prog 147 #[strV a, strV b] w fun e w' => e = .returned (.int .i64 (Lib.compareBytes a b)) ∧ w = w' := by
  have h := Go.Proofs.Any.strings_Compare Go.Proofs.Tryz.layCompare ⟨a.toArray⟩ ⟨b.toArray⟩ w
  change Calls Tryz.prog 147 _ _ _ at h
  refine h.mono ?_
  rintro e w' ⟨rfl, rfl⟩
  exact ⟨by simp, rfl⟩

theorem conv_str (w : World) (bs : List UInt8) : ∃ A c w1, (convert 9 57 (strV bs)).run Tryz.prog w = .ok (.slice A bs.length c) w1 ∧ bs.length ≤ c ∧ Rd w1 A (bs.map bv) ∧ Below w.heap.size w w1 ∧ ∀ ad, A = some ad → w.heap.size ≤ ad.block := by
  have h := run_bytes_of_string (P := Tryz.prog) w 9 57 5 ⟨bs.toArray⟩ Tryz.underlying9 Tryz.underlying57 Tryz.underlying5
  refine ⟨_, _, _, h, grownCap_ge w _ 0 _, ?_, ?_, fun ad e => ?_⟩
  · intro j u hu
    refine ⟨_, rfl, ?_⟩
    refine World.news_of_block (heap_alloc_new w.drew _) j u ?_
    unfold bytesRow
    have hj : j < bs.length := by have := (List.getElem?_eq_some_iff.1 hu).1; simpa using this
    rw [Array.getElem?_toList, Array.getElem?_append_left (by simpa using hj), Array.getElem?_map]
    simp only [List.getElem?_map] at hu
    simpa [bv] using hu
  · exact ext_alloc (ext_drew (Below.refl _ _)) _
  · injection e with e; subst e; exact Nat.le_refl _
theorem okB_yes (c : UInt8) : okB c = true ↔ (97 ≤ (c.toNat : Int) ∧ (c.toNat : Int) ≤ 122) ∨ (48 ≤ (c.toNat : Int) ∧ (c.toNat : Int) ≤ 57) := by
  unfold okB
  simp only [Bool.or_eq_true, Bool.and_eq_true, decide_eq_true_iff]
  omega
theorem okB_no (c : UInt8) : okB c = false ↔ ¬ ((97 ≤ (c.toNat : Int) ∧ (c.toNat : Int) ≤ 122) ∨ (48 ≤ (c.toNat : Int) ∧ (c.toNat : Int) ≤ 57)) := by
  rw [← okB_yes]; simp
set_option maxHeartbeats 1000000 in
set_option maxRecDepth 100000 in
theorem isname_any (s : List UInt8) (w : World) (hs : s.length ≤ maxLen) :
    Calls Tryz.prog 96 #[strV s] w fun e w' => e = .returned (.bool (nameB s)) ∧ Below w.heap.size w w' := by
  unfold maxLen at hs
  have hsz : (⟨s.toArray⟩ : ByteArray).size = s.length := rfl
  by_cases h1 : s.length < 1
  · have hr : nameB s = false := by unfold nameB; simp; omega
    rw [hr]
    have h1' : decide ((s.length : Int) < 1) = true := by simp; omega
    unfold strV
    go_enter Tryz.func96, Tryz.ntmps96
    go_wp2
    go_ret
    exact ⟨rfl, Below.refl _ _⟩
  have h1' : decide ((s.length : Int) < 1) = false := by simp; omega
  by_cases h2 : 8 < s.length
  · have hr : nameB s = false := by unfold nameB; simp; omega
    rw [hr]
    have h2' : decide ((8 : Int) < (s.length : Int)) = true := by simp; omega
    clear h2 h1
    unfold strV
    go_enter Tryz.func96, Tryz.ntmps96
    go_wp2
    go_ret
    exact ⟨rfl, Below.refl _ _⟩
  have h2' : decide ((8 : Int) < (s.length : Int)) = false := by simp; omega
  obtain ⟨A, c, w1, hrun, hc, hrd, hb, hA⟩ := conv_str w s
  have hres : nameB s = s.all okB := by unfold nameB; simp; intro h; omega
  rw [hres]
  have hall : ∀ k, k ≤ s.length → (s.take k).all okB = true → s.all okB = (s.drop k).all okB := fun k hk h => by
    conv => lhs; rw [← List.take_append_drop k s, List.all_append, h, Bool.true_and]
  have Hall := Lib.hid hall
  have H8 := Lib.hid h2
  clear h2 h1 hall hres
  unfold strV at hrun ⊢
  go_enter Tryz.func96, Tryz.ntmps96
  go_wp2
  go_loop [4, 16] (fun _ i => ∃ k : Nat, k ≤ s.length ∧ i = .int .i64 (k : Int) ∧ (s.take k).all okB = true) (fun _ i => s.length - (intOf i).toNat)
  case atStart => exact ⟨0, Nat.zero_le _, rfl, rfl⟩
  case round =>
    obtain ⟨k, hk, rfl, hpre⟩ := hrel
    have Hpre := Lib.hid hpre
    clear hpre
    by_cases hlt : k < s.length
    · have hlti : (k : Int) < (s.length : Int) := by omega
      obtain ⟨ad, rfl, hcell⟩ := (hrd.at_ (k := k) (by simpa using hlt))
      have hcell' : w1.cell? (ad.add k) = some (.int .u8 (s[k].toNat : Int)) := by rw [hcell]; simp [bv]
      clear hcell
      have hstep := List.take_succ_eq_append_getElem hlt
      have Hstep := Lib.hid hstep
      clear hstep
      have hreg : (s[k].toNat : Int) < 48 ∨ (48 ≤ (s[k].toNat : Int) ∧ (s[k].toNat : Int) ≤ 57) ∨ (57 < (s[k].toNat : Int) ∧ (s[k].toNat : Int) < 97) ∨ (97 ≤ (s[k].toNat : Int) ∧ (s[k].toNat : Int) ≤ 122) ∨ 122 < (s[k].toNat : Int) := by omega
      have hreg2 : (decide ((s[k].toNat : Int) ≤ 57) = true ∧ (s[k].toNat : Int) ≤ 57) ∨ (decide ((s[k].toNat : Int) ≤ 57) = false ∧ 57 < (s[k].toNat : Int)) := by
        by_cases hh : (s[k].toNat : Int) ≤ 57
        · exact .inl ⟨decide_eq_true hh, hh⟩
        · exact .inr ⟨decide_eq_false hh, by omega⟩
      have hreg3 : (decide ((s[k].toNat : Int) ≤ 122) = true ∧ (s[k].toNat : Int) ≤ 122) ∨ (decide ((s[k].toNat : Int) ≤ 122) = false ∧ 122 < (s[k].toNat : Int)) := by
        by_cases hh : (s[k].toNat : Int) ≤ 122
        · exact .inl ⟨decide_eq_true hh, hh⟩
        · exact .inr ⟨decide_eq_false hh, by omega⟩
      rcases hreg with h | ⟨h, h'⟩ | ⟨h, h'⟩ | ⟨h, h'⟩ | h <;> rcases hreg2 with ⟨d2, e2⟩ | ⟨d2, e2⟩ <;> rcases hreg3 with ⟨d3, e3⟩ | ⟨d3, e3⟩ <;> try (exfalso; omega)
      · go_wp2
        go_ret
        exact ⟨by rw [Hall.out k hk Hpre.out, List.drop_eq_getElem_cons hlt, List.all_cons, (okB_no s[k]).2 (by omega)]; rfl, hb⟩
      · go_wp2
        go_round
        case rel => exact ⟨k + 1, by omega, by go_num, by rw [Hstep.out, List.all_append, Hpre.out, List.all_cons, (okB_yes s[k]).2 (by omega)]; rfl⟩
        case measure => simp [intOf]; omega
      · go_wp2
        go_ret
        exact ⟨by rw [Hall.out k hk Hpre.out, List.drop_eq_getElem_cons hlt, List.all_cons, (okB_no s[k]).2 (by omega)]; rfl, hb⟩
      · go_wp2
        go_round
        case rel => exact ⟨k + 1, by omega, by go_num, by rw [Hstep.out, List.all_append, Hpre.out, List.all_cons, (okB_yes s[k]).2 (by omega)]; rfl⟩
        case measure => simp [intOf]; omega
      · go_wp2
        go_ret
        exact ⟨by rw [Hall.out k hk Hpre.out, List.drop_eq_getElem_cons hlt, List.all_cons, (okB_no s[k]).2 (by omega)]; rfl, hb⟩
    · go_wp2
      go_ret
      exact ⟨by rw [Hall.out k hk Hpre.out, List.drop_of_length_le (by omega)]; rfl, hb⟩
/-! ### extents -/
def extV (x : Nat × Nat) : Value := .agg #[iv (x.1 : Int), iv (x.2 : Int)]
theorem end_any (x : Nat × Nat) (w : World) (h1 : x.1 ≤ 4611686018427387904) (h2 : x.2 ≤ 4611686018427387903) :
    Calls Tryz.prog 132 #[extV x] w fun e w' => e = .returned (.int .i64 ((x.1 + x.2 : Nat) : Int)) ∧ Below w.heap.size w w' := by
  obtain ⟨b, c⟩ := x
  dsimp only at *
  have hb : (b : Int) ≤ 4611686018427387904 := by omega
  have hc : (c : Int) ≤ 4611686018427387903 := by omega
  unfold extV iv
  dsimp only
  go_enter Tryz.func132, Tryz.ntmps132
  go_wp2
  go_ret
  exact ⟨by simp, ext_alloc (Below.refl _ _) _⟩
theorem slots_any (w : World) :
    Calls Tryz.prog 71 #[] w fun e w' => e = .returned (extV (0, 32)) ∧ Below w.heap.size w w' := by
  go_enter Tryz.func71, Tryz.ntmps71
  go_wp2
  exact bodyPost_ret (v := extV (0, 32)) (by simp [results, Tryz.results71, go_sem]; rfl) rfl ⟨rfl, by
    first | exact ext_alloc (Below.refl _ _) _ | exact (ext_alloc (Below.refl _ _) _)⟩
end Go.Proofs.YtdpmfcifgimleaaGreatDoor

/-
  Rows of the call's own that grow; entries and extents in memory. No statement of the seat is proved here.
-/
namespace Go.Proofs.YtdpmfcifgimleaaGreatDoor
open Go Go.RowKit

/-- a row that was made since 'w' -/
def NewO (w w' : World) (e : TypeId) (sz : Nat) (A : Option Addr) (m c : Nat) (xs : List Value) : Prop := RowO w' e sz A m c xs ∧ Below w.heap.size w w' ∧ ∀ k, inA A k → w.heap.size ≤ k
section
variable {w w1 w2 w3 : World} {e : TypeId} {sz : Nat} {A A' : Option Addr} {m n c c' : Nat} {xs ys : List Value}
theorem NewO.start (w : World) (e : TypeId) (sz : Nat) : NewO w w e sz none 0 0 [] := ⟨RowO.none_ _ _ _, Below.refl _ _, fun k hk => absurd hk (inA_none k)⟩
theorem NewO.row (h : NewO w w1 e sz A m c xs) : RowO w1 e sz A m c xs := h.1
theorem NewO.bel (h : NewO w w1 e sz A m c xs) : Below w.heap.size w w1 := h.2.1
theorem NewO.ext (h : NewO w w1 e sz A m c xs) (hb : Below w1.heap.size w1 w2) : NewO w w2 e sz A m c xs := ⟨h.1.ext hb, ext_trans h.2.1 hb, h.2.2⟩
theorem NewO.grow (h : NewO w w1 e sz A m c xs) (hb : Below w1.heap.size w1 w2) (hr : RowO w3 e sz A' n c' ys) (ho : Only (inA A) w2 w3) (hA : ∀ k, inA A' k → inA A k ∨ (w2.heap.size ≤ k ∧ k < w3.heap.size)) : NewO w w3 e sz A' n c' ys := by
  have h1 := h.2.1.size
  have h2 := hb.size
  refine ⟨hr, (ext_trans h.2.1 hb).trans (ho.below (fun i hi => h.2.2 i hi) (by omega)), fun k hk => ?_⟩
  rcases hA k hk with hk | hk
  · exact h.2.2 k hk
  · omega
theorem NewO.rd (h : NewO w w1 e sz A m c xs) : Rd w1 A xs := h.1.rd
/-- a store to a cell of it -/
theorem NewO.back {w0 : World} (h : NewO w w1 e sz A m c xs) (hb : Below w0.heap.size w0 w) : NewO w0 w1 e sz A m c xs := ⟨h.1, hb.trans (h.2.1.mono hb.size), fun k hk => Nat.le_trans hb.size (h.2.2 k hk)⟩
end

/-- an address at a place of a block -/
def Flat (A : Option Addr) : Prop := ∀ ad, A = some ad → ∃ g o, ad = ⟨g, o, none⟩
theorem RowO.flat {w : World} {e : TypeId} {sz : Nat} {A : Option Addr} {m c : Nat} {xs : List Value} (h : RowO w e sz A m c xs) : Flat A := fun ad e' => by
  rcases h.2 with ⟨h1, _⟩ | ⟨g, o, _, h1, _⟩
  · rw [h1] at e'; cases e'
  · rw [h1] at e'; injection e' with e'; exact ⟨g, o, e'.symm⟩

/-! ### extents in memory -/
def encX (x : Nat × Nat) : List Value := [iv (x.1 : Int), iv (x.2 : Int)]
def cellsX (l : List (Nat × Nat)) : List Value := l.flatMap encX
theorem cellsX_length (l : List (Nat × Nat)) : (cellsX l).length = l.length * 2 := by
  induction l with
  | nil => rfl
  | cons x r ih =>
    have : cellsX (x :: r) = encX x ++ cellsX r := rfl
    rw [this, List.length_append, ih]; simp [encX]; omega
theorem cellsX_append (a b : List (Nat × Nat)) : cellsX (a ++ b) = cellsX a ++ cellsX b := by unfold cellsX; rw [List.flatMap_append]
theorem cellsX_at (l : List (Nat × Nat)) (k : Nat) (h : k < l.length) : (cellsX l)[k * 2]? = some (iv (l[k].1 : Int)) ∧ (cellsX l)[k * 2 + 1]? = some (iv (l[k].2 : Int)) := by
  have e : cellsX l = cellsX (l.take k) ++ (encX l[k] ++ cellsX (l.drop (k + 1))) := by
    conv => lhs; rw [← List.take_append_drop k l, cellsX_append, List.drop_eq_getElem_cons h]
    rfl
  have hl : (cellsX (l.take k)).length = k * 2 := by rw [cellsX_length, List.length_take]; congr 1; omega
  rw [e]
  constructor
  · rw [List.getElem?_append_right (by omega), hl, Nat.sub_self]; rfl
  · rw [List.getElem?_append_right (by omega), hl, Nat.add_sub_cancel_left]; rfl
theorem cellsX_one (l : List (Nat × Nat)) : ∀ u ∈ cellsX l, u.oneCell' = true := by
  intro u hu
  obtain ⟨x, _, hx⟩ := List.mem_flatMap.1 hu
  simp [encX, iv] at hx
  rcases hx with rfl | rfl <;> rfl
theorem info_ext : (Tryz.prog.info? 128).map (fun i => (i.zero, i.size, i.bytes)) = some (some (.agg #[.int .i64 0, .int .i64 0]), 2, 16) := by kernel_rfl
def ExtR (w : World) (A : Option Addr) (c : Nat) (l : List (Nat × Nat)) : Prop := l.length ≤ c ∧ Flat A ∧ Rd w A (cellsX l)
section
variable {S : Nat → Prop} {w w' : World} {A : Option Addr} {c : Nat} {l : List (Nat × Nat)}
theorem ExtR.ext (h : ExtR w A c l) (hb : Below w.heap.size w w') : ExtR w' A c l := ⟨h.1, h.2.1, h.2.2.ext hb⟩
theorem ExtR.cell (h : ExtR w A c l) {k : Nat} (hk : k < l.length) : ∃ g o, A = some ⟨g, o, none⟩ ∧ w.cell? ⟨g, o + k * 2, none⟩ = some (iv (l[k].1 : Int)) ∧ w.cell? ⟨g, o + k * 2 + 1, none⟩ = some (iv (l[k].2 : Int)) := by
  obtain ⟨h1, h2⟩ := cellsX_at l k hk
  obtain ⟨ad, e, c1⟩ := h.2.2 _ _ h1
  obtain ⟨ad', e', c2⟩ := h.2.2 _ _ h2
  rw [e] at e'; injection e' with e'; subst e'
  obtain ⟨g, o, rfl⟩ := h.2.1 ad e
  rw [Addr.add_mid] at c1 c2
  rw [← Nat.add_assoc] at c2
  exact ⟨g, o, e, c1, c2⟩
theorem ExtR.of (h : RowO w 128 2 A l.length c (cellsX l)) : ExtR w A c l := ⟨h.le, h.flat, h.rd⟩
end

/-! ### sectors -/
theorem isz_ext : (Tryz.prog.info? 128).map (·.size) = some 2 := by kernel_rfl
set_option maxHeartbeats 1000000 in
theorem sectors_any (g o : Nat) (A : Option Addr) (c : Nat) (xs : List (Nat × Nat)) (w : World) (hcell : w.cell? ⟨g, o + 2, none⟩ = some (.slice A xs.length c)) (hx : ExtR w A c xs)
    (hb1 : ∀ x ∈ xs, x.1 + x.2 ≤ 1000000) (hb2 : (secs xs).length ≤ 1000000) (hb3 : xs.length ≤ 1000000) :
    Calls Tryz.prog 74 #[.pointer (some ⟨g, o, none⟩)] w fun e w' => ∃ A' c', e = .returned (.slice A' (secs xs).length c') ∧ NewO w w' 3 1 A' (secs xs).length c' ((secs xs).map iv') := by
  go_enter Tryz.func74, Tryz.ntmps74
  go_wp2
  go_loopw [3, 5, 6, 12] (fun s _ _ i w1 => ∃ (k : Nat) (A' : Option Addr) (c' : Nat), k ≤ xs.length ∧ i = .int .i64 (k : Int) ∧ s = .slice A' (secs (xs.take k)).length c' ∧ NewO w w1 3 1 A' (secs (xs.take k)).length c' ((secs (xs.take k)).map iv')) (fun _ _ _ i _ => xs.length - (intOf i).toNat)
  case atStart => exact ⟨0, none, 0, Nat.zero_le _, rfl, rfl, NewO.start _ _ _⟩
  case round =>
    obtain ⟨k, A', c', hk, rfl, rfl, hN⟩ := hrel
    by_cases hlt : k < xs.length
    · obtain ⟨ge, oe, rfl, q1, q2⟩ := (hx.ext hN.bel).cell hlt
      obtain ⟨b, n, hbn⟩ : ∃ b n, xs[k] = (b, n) := ⟨_, _, rfl⟩
      have hsum := hb1 xs[k] (List.getElem_mem hlt)
      have hsx := secs_take_succ xs k hlt
      have hlen : (secs (xs.take (k + 1))).length ≤ (secs xs).length := by
        conv => rhs; rw [← List.take_append_drop (k + 1) xs, secs_append, List.length_append]
        omega
      rw [hsx] at hlen
      rw [hbn] at q1 q2 hsum hsx hlen
      have Hsx := Lib.hid hsx
      have Hlen := Lib.hid hlen
      dsimp only at q1 q2 hsum
      have hbi : (b : Int) + (n : Int) ≤ 1000000 := by omega
      unfold iv at q1 q2
      have Hbn := Lib.hid hbn
      clear hsx hlen hbn hcell
      obtain ⟨L0, hL0⟩ : ∃ L0, secs (xs.take k) = L0 := ⟨_, rfl⟩
      rw [hL0] at hN Hsx Hlen
      have hl2 := Hlen.out
      rw [List.length_append, runL_length] at hl2
      have hl3 : L0.length + n ≤ 1000000 := by omega
      rw [hL0]
      have HL0 := Lib.hid hL0
      clear hL0 hl2 Hlen
      obtain ⟨wo, hwo⟩ : ∃ wo : World, wo = wr := ⟨_, rfl⟩
      subst hwo
      go_wp2
      go_loopw [3, 6, 18] (fun s _ i w2 => ∃ (j : Nat) (A2 : Option Addr) (c2 : Nat), j ≤ n ∧ i = .int .i64 (j : Int) ∧ s = .slice A2 (L0 ++ runL (b, j)).length c2 ∧ NewO w w2 3 1 A2 (L0 ++ runL (b, j)).length c2 ((L0 ++ runL (b, j)).map iv') ∧ Blk w2 wo.heap.size 128 #[.int .i64 (b : Int), .int .i64 (n : Int)] ∧ wo.heap.size + 1 ≤ w2.heap.size) (fun _ _ i _ => n - (intOf i).toNat)
      case atStart => exact ⟨0, A', c', Nat.zero_le _, rfl, by simp [runL], by simpa [runL] using hN.ext (ext_alloc (Below.refl _ _) _), Blk.new _ _ _, by simp⟩
      case round =>
        obtain ⟨j, A2, c2, hj, rfl, rfl, hN2, hB2, hz2⟩ := hrel
        have d0 : wr.cell? ⟨wo.heap.size, 0, none⟩ = some (.int .i64 (b : Int)) := hB2.cell 0
        have d1 : wr.cell? ⟨wo.heap.size, 1, none⟩ = some (.int .i64 (n : Int)) := hB2.cell 1
        obtain ⟨L1, hL1⟩ : ∃ L1, L0 ++ runL (b, j) = L1 := ⟨_, rfl⟩
        have hjl : L1.length = L0.length + j := by rw [← hL1, List.length_append, runL_length]
        rw [hL1] at hN2 ⊢
        by_cases hjn : j < n
        · have hm1 : L1.length + 1 ≤ maxLen := by unfold maxLen; omega
          have hm2 : (L1.length + 1) * 8 ≤ 140737488355328 := by omega
          have hrs : L0 ++ runL (b, j + 1) = L1 ++ [b + j] := by rw [runL_succ, ← List.append_assoc, hL1]
          have Hrs := Lib.hid hrs
          have Hjl := Lib.hid hjl
          clear hrs hjl hL1
          go_wp2_with (at_builtin
                       refine wpList_appO _ rfl (.tmp 21) (.tmp 26) _ rfl _ _ 1 8 Tryz.underlying39 info_int rfl A2 _ c2 _ rfl (hN2.row.alloc _) (some ⟨wr.heap.size, 0, none⟩) 1 1 [.int .i64 ((b : Int) + (j : Int))] rfl rfl (Rd.lit _ #[.int .i64 ((b : Int) + (j : Int))] _) ?_ ?_ hm1 hm2 ?_
                       · simp; rfl
                       · intro h; cases h
                       intro A3 c3 w3 hrow3 honly3 hA3)
          have hN3 := hN2.grow (ext_alloc (Below.refl _ _) _) hrow3 honly3 hA3
          have hz3 := honly3.size
          rw [World.size_alloc] at hz3
          go_roundw
          case rel =>
            refine ⟨j + 1, A3, c3, by omega, by go_num, ?_, ?_, ?_, by omega⟩
            · rw [Hrs.out, List.length_append]; rfl
            · rw [Hrs.out, List.length_append, List.map_append]
              simpa [iv'] using hN3
            · exact (hB2.alloc _).only honly3 (hN2.row.ne_blk hB2 (by decide))
          case measure => simp [intOf]; omega
        · obtain rfl : j = n := by omega
          have Hjl := Lib.hid hjl
          have HL1 := Lib.hid hL1
          clear hjl hL1
          go_wp2
          go_roundw
          case rel =>
            exact ⟨k + 1, A2, c2, by omega, by go_num, by rw [Hsx.out, HL1.out], by rw [Hsx.out, HL1.out]; exact hN2⟩
          case measure => simp [intOf]; omega
    · obtain rfl : k = xs.length := by omega
      rw [List.take_length] at hN ⊢
      go_wp2
      go_ret
      exact ⟨A', c', rfl, hN⟩

/-! ### sectors as extents -/
theorem RowO.set {w : World} {e : TypeId} {sz : Nat} {g o m c : Nat} {xs : List Value} (h : RowO w e sz (some ⟨g, o, none⟩) m c xs) (j : Nat) (hj : j < xs.length) (u : Value) : RowO (w.setCell ⟨g, o + j, none⟩ u) e sz (some ⟨g, o, none⟩) m c (xs.set j u) := by
  refine ⟨by rw [List.length_set]; exact h.1, ?_⟩
  rcases h.2 with ⟨h1, _⟩ | ⟨g', o', cs, h1, h2, h3, h4, h5, h6⟩
  · cases h1
  · injection h1 with h1
    injection h1 with h1 h1' _
    subst h1 h1'
    refine .inr ⟨g, o, cs.setIfInBounds (o + j) u, rfl, h2, h3, h4.put (o + j) u, by simpa using h5, fun i v hv => ?_⟩
    rw [List.getElem?_set] at hv
    split at hv
    · rename_i hij
      subst hij
      have hlt : o + j < cs.size := by
        have := h6 j _ (List.getElem?_eq_getElem hj)
        exact (Array.getElem?_eq_some_iff.1 this).1
      rw [Array.getElem?_setIfInBounds_self_of_lt hlt]; exact hv
    · rename_i hij
      rw [Array.getElem?_setIfInBounds_ne (by omega)]
      exact h6 i v hv
theorem NewO.set {w w1 : World} {e : TypeId} {sz : Nat} {g o m c : Nat} {xs : List Value} (h : NewO w w1 e sz (some ⟨g, o, none⟩) m c xs) (j : Nat) (hj : j < xs.length) (u : Value) : NewO w (w1.setCell ⟨g, o + j, none⟩ u) e sz (some ⟨g, o, none⟩) m c (xs.set j u) :=
  ⟨h.1.set j hj u, ⟨h.2.1.os, h.2.1.tape, h.2.1.output, by simpa [World.setCell] using h.2.1.size, fun i hi => (Below.heap_setCell w1 ⟨g, o + j, none⟩ u i (by
    have := h.2.2 g ((inA_some _ _ _ _).2 rfl)
    show i ≠ g
    omega)).trans (h.2.1.block i hi)⟩, h.2.2⟩
theorem RowO.free {w : World} {e : TypeId} {sz : Nat} {g o m c : Nat} {xs : List Value} (h : RowO w e sz (some ⟨g, o, none⟩) m c xs) (j : Nat) : w.frozen? ⟨g, j, none⟩ = false := by
  rcases h.2 with ⟨h1, _⟩ | ⟨g', o', cs, h1, h2, h3, h4, h5, h6⟩
  · cases h1
  · injection h1 with h1
    injection h1 with h1 h1' _
    subst h1 h1'
    exact h4.free j
theorem RowO.addr {w : World} {e : TypeId} {sz : Nat} {A : Option Addr} {m c : Nat} {xs : List Value} (h : RowO w e sz A m c xs) (h0 : 0 < m) : ∃ g o, A = some ⟨g, o, none⟩ := by
  rcases h.2 with ⟨_, h1, _⟩ | ⟨g, o, _, h1, _⟩
  · omega
  · exact ⟨g, o, h1⟩
theorem cellsX_set (l : List (Nat × Nat)) (b c n : Nat) : (cellsX (l ++ [(b, c)])).set (l.length * 2 + 1) (iv (n : Int)) = cellsX (l ++ [(b, n)]) := by
  rw [cellsX_append, cellsX_append, List.set_append, if_neg (by rw [cellsX_length]; omega), cellsX_length, Nat.add_sub_cancel_left]
  rfl

set_option maxHeartbeats 1000000 in
theorem joined_any (A : Option Addr) (n c : Nat) (fs : List Nat) (w : World) (hn : n = fs.length) (hr : Rd w A (fs.map iv')) (hb : ∀ i ∈ fs, i ≤ 1000000) (hl : fs.length ≤ 1000000) :
    Calls Tryz.prog 97 #[.slice A n c] w fun e w' => ∃ A' c', e = .returned (.slice A' (joinL fs).length c') ∧ NewO w w' 128 2 A' (joinL fs).length c' (cellsX (joinL fs)) := by
  subst hn
  have hl' : (fs.length : Int) ≤ 1000000 := by omega
  go_enter Tryz.func97, Tryz.ntmps97
  go_wp2
  go_loopw [3, 5, 6, 9] (fun s _ _ i w1 => ∃ (k : Nat) (A2 : Option Addr) (c2 : Nat), k ≤ fs.length ∧ i = .int .i64 (k : Int) ∧ s = .slice A2 (joinL (fs.take k)).length c2 ∧ NewO w w1 128 2 A2 (joinL (fs.take k)).length c2 (cellsX (joinL (fs.take k)))) (fun _ _ _ i _ => fs.length - (intOf i).toNat)
  case atStart => exact ⟨0, none, 0, Nat.zero_le _, rfl, rfl, NewO.start _ _ _⟩
  case round =>
    obtain ⟨k, A2, c2, hk, rfl, rfl, hN⟩ := hrel
    by_cases hlt : k < fs.length
    · have hlti : (k : Int) < (fs.length : Int) := by omega
      have hrw := hr.ext hN.bel
      obtain ⟨ad, rfl, q⟩ := hrw.at_ (k := k) (by simpa using hlt)
      simp only [List.getElem_map, iv'] at q
      have hfb := hb fs[k] (List.getElem_mem hlt)
      have hsucc := joinL_take_succ fs k hlt
      have hmem := joinL_mem (fs.take k)
      have hbt : ∀ i ∈ fs.take k, i ≤ 1000000 := fun i hi => hb i (List.mem_of_mem_take hi)
      have htl : (fs.take k).length ≤ 1000000 := by rw [List.length_take]; omega
      have hjl := joinL_length (fs.take k)
      have hjl0 : (fs.take k).length ≤ k := List.length_take_le _ _
      obtain ⟨v, hv⟩ : ∃ v, fs[k] = v := ⟨_, rfl⟩
      rw [hv] at q hfb hsucc
      have Hv := Lib.hid hv
      clear hv
      generalize hJ : joinL (fs.take k) = J at *
      have HJ := Lib.hid hJ
      have Hsucc := Lib.hid hsucc
      have Hmem := Lib.hid hmem
      have Hbt := Lib.hid hbt
      clear hJ hsucc hmem hbt
      rcases List.eq_nil_or_concat J with hJ0 | ⟨J', x, hJ0⟩
      · subst hJ0
        have hm1 : 0 + 1 ≤ maxLen := by unfold maxLen; omega
        go_wp2_with (at_builtin
                     refine wpList_appO _ rfl (.tmp 35) (.tmp 38) _ rfl _ _ 2 16 Tryz.underlying131 info_ext rfl A2 _ c2 _ rfl (hN.row.alloc _) (some ⟨wr.heap.size, 0, none⟩) 1 1 (encX (v, 1)) rfl rfl (Rd.lit _ #[.int .i64 (v : Int), .int .i64 1] _) ?_ ?_ hm1 (by omega) ?_
                     · simp [encX, iv]; exact ⟨rfl, rfl⟩
                     · intro h; cases h
                     intro A3 c3 w3 hrow3 honly3 hA3)
        have hN3 := hN.grow (ext_alloc (Below.refl _ _) _) hrow3 honly3 hA3
        go_roundw
        case rel =>
          exact ⟨k + 1, A3, c3, by omega, by go_num, by rw [Hsucc.out]; rfl, by rw [Hsucc.out]; exact hN3⟩
        case measure => simp [intOf]; omega
      · rw [List.concat_eq_append] at hJ0
        subst hJ0
        obtain ⟨b, n⟩ := x
        obtain ⟨g, o, rfl⟩ := hN.row.addr (by simp)
        have hx := ExtR.of hN.row
        obtain ⟨g', o', e', q1, q2⟩ := hx.cell (k := J'.length) (by simp)
        injection e' with e'
        injection e' with e1 e2 _
        subst e1 e2
        simp only [List.getElem_append_right (Nat.le_refl _), Nat.sub_self, List.getElem_cons_zero, iv] at q1 q2
        have hm := Hmem.out (b, n) (by simp)
        dsimp only at hm
        have hbb := Hbt.out b hm.2.1
        have hlen1 : J'.length + 1 ≤ 1000000 := by simp at hjl; omega
        have hJi : (J'.length : Int) ≤ 1000000 := by omega
        have hjs : b + n = v → jstep (J' ++ [(b, n)]) v = J' ++ [(b, n + 1)] := fun he => by rw [jstep_more (x := (b, n)) (by simp) he]; simp
        have hjn : b + n ≠ v → jstep (J' ++ [(b, n)]) v = J' ++ [(b, n)] ++ [(v, 1)] := fun he => jstep_new (fun x hx => by simp at hx; subst hx; exact he)
        have hset := cellsX_set J' b n (n + 1)
        have hnb : (n : Int) ≤ 1000000 := by omega
        have hend : ∀ W, Calls Tryz.prog 132 #[.agg #[.int .i64 (b : Int), .int .i64 (n : Int)]] W fun e w' => e = .returned (.int .i64 ((b + n : Nat) : Int)) ∧ Below W.heap.size W w' := fun W => end_any (b, n) W (by dsimp only; omega) (by dsimp only; omega)
        have Hjs := Lib.hid hjs
        have Hjn := Lib.hid hjn
        have Hset := Lib.hid hset
        obtain ⟨E, hE⟩ : ∃ E, b + n = E := ⟨_, rfl⟩
        rw [hE] at hend
        have HE := Lib.hid hE
        rw [List.length_append, List.length_singleton] at hN ⊢
        clear hjs hjn hset hE hx htl hjl hlen1
        have Hjl := Lib.hid hjl0
        clear hjl0
        by_cases hev : E = v
        · subst hev
          go_wp2_with fail
          refine (hend _).mono ?_
          rintro e w2 ⟨rfl, hb2⟩
          have hN2 := hN.ext hb2
          have hx2 := ExtR.of (l := J' ++ [(b, n)]) (by rw [List.length_append]; exact hN2.row)
          obtain ⟨g', o', e', p1, p2⟩ := hx2.cell (k := J'.length) (by simp)
          injection e' with e'
          injection e' with e1 e2 _
          subst e1 e2
          simp only [List.getElem_append_right (Nat.le_refl _), Nat.sub_self, List.getElem_cons_zero, iv] at p1 p2
          have hfr := hN2.row.free (o + J'.length * 2 + 1)
          go_wp2
          have hN3 := hN2.set (J'.length * 2 + 1) (by rw [cellsX_append, List.length_append, cellsX_length]; simp [cellsX, encX]) (.int .i64 ((n : Int) + 1))
          rw [← Nat.add_assoc] at hN3
          have hcx : (cellsX (J' ++ [(b, n)])).set (J'.length * 2 + 1) (.int .i64 ((n : Int) + 1)) = cellsX (J' ++ [(b, n + 1)]) := by
            rw [← Hset.out]; simp [iv]
          rw [hcx] at hN3
          go_roundw
          case rel =>
            exact ⟨k + 1, some ⟨g, o, none⟩, c2, by omega, by go_num, by rw [Hsucc.out, Hjs.out (by rw [HE.out])]; simp, by rw [Hsucc.out, Hjs.out (by rw [HE.out])]; simpa using hN3⟩
          case measure => simp [intOf]; omega
        · have hne : ((E : Int) == (v : Int)) = false := by simp; omega
          go_wp2_with fail
          refine (hend _).mono ?_
          rintro e w2 ⟨rfl, hb2⟩
          have hN2 := hN.ext hb2
          have hm1 : J'.length + 1 + 1 ≤ maxLen := by unfold maxLen; omega
          go_wp2_with (at_builtin
                       refine wpList_appO _ rfl (.tmp 35) (.tmp 38) _ rfl _ _ 2 16 Tryz.underlying131 info_ext rfl (some ⟨g, o, none⟩) _ c2 _ rfl (hN2.row.alloc _) (some ⟨w2.heap.size, 0, none⟩) 1 1 (encX (v, 1)) rfl rfl (Rd.lit _ #[.int .i64 (v : Int), .int .i64 1] _) ?_ ?_ hm1 (by omega) ?_
                       · simp [encX, iv]; exact ⟨rfl, rfl⟩
                       · intro h; cases h
                       intro A3 c3 w3 hrow3 honly3 hA3)
          have hN3 := hN2.grow (ext_alloc (Below.refl _ _) _) hrow3 honly3 hA3
          go_roundw
          case rel =>
            exact ⟨k + 1, A3, c3, by omega, by go_num, by rw [Hsucc.out, Hjn.out (by rw [HE.out]; exact hev)]; simp, by rw [Hsucc.out, Hjn.out (by rw [HE.out]; exact hev)]; simpa [cellsX, encX] using hN3⟩
          case measure => simp [intOf]; omega
    · obtain rfl : k = fs.length := by omega
      rw [List.take_length] at hN ⊢
      go_wp2
      go_ret
      exact ⟨A2, c2, rfl, hN⟩
end Go.Proofs.YtdpmfcifgimleaaGreatDoor
