/-
  The contracts of super's Commit (whatever comes in), Format, Image, Number, Dead. No statement of the seat is proved here.
-/
import Derived.Test.YtlpjeopeboemmaaDoorCommit
namespace Go.Proofs.YtlpjeopeboemmaaDoor
open Go Go.RowKit

theorem commit_any {w : World} {fp : Nat → Prop} {g gd : Nat} {s : SupS} (ht : Tab w) (h : Sup w fp g gd s) (hs : Small 900000 s.S) (B : Option Addr) (m d : Nat) (bs : List UInt8) (hB : Bs w B m d bs) (hbl : bs.length ≤ maxLen) :
    Calls Tryd.prog 19 #[.pointer (some ⟨g, 0, none⟩), .slice B m d] w (Committed w fp g gd s bs) := by
  by_cases hc : s.dead = true ∨ 814 < bs.length ∨ s.N = 1125899906842624
  · exact commit_still h B m d bs hB.1 hbl hc
  · have hd : s.dead = false := by
      cases hh : s.dead
      · rfl
      · exact absurd (.inl hh) hc
    exact commit_go ht h hs B m d bs hB hd (by omega) (fun e => hc (.inr (.inr e)))

theorem commit_nil (w : World) (v : Value) : Calls Tryd.prog 19 #[.pointer none, v] w fun e w' => e = .returned (.int .i64 1) ∧ w = w' := by
  go_enter Tryd.func19, Tryd.ntmps19
  go_wp2
  go_ret
  exact ⟨rfl, rfl⟩
theorem image_nil (w : World) : Calls Tryd.prog 15 #[.pointer none] w fun e w' => e = .returned (.slice none 0 0) ∧ w = w' := by
  go_enter Tryd.func15, Tryd.ntmps15
  go_wp2
  go_ret
  exact ⟨rfl, rfl⟩
theorem number_nil (w : World) : Calls Tryd.prog 16 #[.pointer none] w fun e w' => e = .returned (.int .i64 0) ∧ w = w' := by
  go_enter Tryd.func16, Tryd.ntmps16
  go_wp2
  go_ret
  exact ⟨rfl, rfl⟩
theorem dead_nil (w : World) : Calls Tryd.prog 17 #[.pointer none] w fun e w' => e = .returned (.bool true) ∧ w = w' := by
  go_enter Tryd.func17, Tryd.ntmps17
  go_wp2
  go_ret
  exact ⟨rfl, rfl⟩
theorem image_any {w : World} {fp : Nat → Prop} {g gd : Nat} {s : SupS} (h : Sup w fp g gd s) : Calls Tryd.prog 15 #[.pointer (some ⟨g, 0, none⟩)] w fun e w' => ∃ A c, e = .returned (.slice A s.img.length c) ∧ New w w' A c s.img ∧ Below w.heap.size w w' := by
  obtain ⟨fI, A, c, h⟩ := h
  have hc := copied_any h.told h.hi
  go_enter Tryd.func15, Tryd.ntmps15
  go_wp2_with fail
  refine hc.mono ?_
  rintro e w1 ⟨A1, c1, rfl, hn1, hb1⟩
  go_wp2
  go_ret
  exact ⟨A1, c1, rfl, hn1, hb1⟩
theorem number_of {w : World} {fp : Nat → Prop} {g gd : Nat} {s : SupS} (h : Sup w fp g gd s) : Calls Tryd.prog 16 #[.pointer (some ⟨g, 0, none⟩)] w fun e w' => e = .returned (.int .i64 (s.N : Int)) ∧ w = w' := by
  obtain ⟨fI, A, c, h⟩ := h
  have q := h.blk.cell 0
  simp only [List.getElem?_toArray, List.getElem?_cons_zero] at q
  clear h
  go_enter Tryd.func16, Tryd.ntmps16
  go_wp2
  go_ret
  exact ⟨rfl, rfl⟩
theorem dead_of {w : World} {fp : Nat → Prop} {g gd : Nat} {s : SupS} (h : Sup w fp g gd s) : Calls Tryd.prog 17 #[.pointer (some ⟨g, 0, none⟩)] w fun e w' => e = .returned (.bool s.dead) ∧ w = w' := by
  obtain ⟨fI, A, c, h⟩ := h
  have q := h.blk.cell 4
  simp only [List.getElem?_toArray, List.getElem?_cons_zero, List.getElem?_cons_succ] at q
  clear h
  go_enter Tryd.func17, Tryd.ntmps17
  go_wp2
  go_ret
  exact ⟨rfl, rfl⟩

theorem Tab.only {T : Nat → Prop} {w w' : World} (h : Tab w) (ho : Only T w w') (hn : ¬ T 0) : Tab w' := fun i hi =>
  (World.cell?_of_block (ho.block _ (World.block_lt_of_cell? w _ (h i hi)) hn)).trans (h i hi)
/-- sixteen rows of nothing -/
def nils : List (List UInt8) := List.replicate 16 []
theorem rows_nils (fp : Nat → Prop) (W : World) (hf : ¬ fp W.heap.size) : RowsF fp (W.alloc (.cells (madeCells #[.slice none 0 0] 16) 22)) (some ⟨W.heap.size, 0, none⟩) nils := by
  refine ⟨(madeCells #[Value.slice none 0 0] 16).toList, ⟨Rd.lit W _ _, fun ad e _ => by injection e with e; subst e; exact hf⟩, by simp [madeCells, nils], fun j v xs hv hx => ?_⟩
  have hx' : xs = [] := List.eq_of_mem_replicate (List.mem_of_getElem? hx)
  subst hx'
  have hv' : v = .slice none 0 0 := by
    rw [Array.getElem?_toList] at hv
    simp [madeCells, Nat.mod_one] at hv
    exact hv.2.symm
  subst hv'
  exact ⟨none, 0, rfl, Nat.le_refl _, Rd.nil _ _, fun ad e => by cases e⟩

/-- what Format leaves, if no error is met -/
def formatS (S : Sec) (l : Int) (img : List UInt8) : Int × SupS := commitS ⟨(layTo S l 16 nils).2.1, (layTo S l 16 nils).2.2, [], 0, 1, false⟩ img
/-- what a call of Format answers, if no error is met -/
def Formatted (w : World) (fp : Nat → Prop) (gd : Nat) (s : SupS) (e : Ending) (w' : World) : Prop :=
  ∃ g, e = .returned (.tuple #[.pointer (some ⟨g, 0, none⟩), .int .i64 0]) ∧ w.heap.size ≤ g ∧ Sup w' (More fp w w') g gd s ∧ Only fp w w'

theorem small_lay {N : Nat} : ∀ (rows : List (List UInt8)) (S : Sec) (l i : Int), Small N S → 1 ≤ N → Small (N + rows.length) (layTo S l i rows).2.1
  | [], S, l, i, h, h1 => by
    unfold layTo
    show Small (N + 0) (if l = 0 then S else flushS S)
    split
    · exact h
    · exact small_flush S (by omega)
  | r :: rs, S, l, i, h, h1 => by
    unfold layTo
    split
    · exact small_mono (small_lay rs _ _ _ (small_write h l i r) (by omega)) (by simp; omega)
    · exact small_mono h (by simp)

set_option maxRecDepth 100000 in
set_option maxHeartbeats 2000000 in
theorem format_any {w : World} {fp : Nat → Prop} {gd : Nat} {S : Sec} {l : Int} (ht : Tab w) (htf : ¬ fp 0) (h : Imp w fp gd S l) (hs : Small 800000 S) (h32 : 32 ≤ S.length) (B : Option Addr) (m d : Nat) (bs : List UInt8) (hB : Bs w B m d bs) (hBf : ∀ ad, B = some ad → bs ≠ [] → ¬ fp ad.block) (hbl : bs.length ≤ 814)
    (c1 : (layTo S l 16 nils).1 = 0) (c2 : (formatS S l bs).1 = 0) :
    Calls Tryd.prog 30 #[.pointer (some ⟨gd, 0, none⟩), .slice B m d] w (Formatted w fp gd (formatS S l bs).2) := by
  have hm := hB.1
  subst hm
  have hhas : decide ((32 : Int) ≤ (S.length : Int)) = true := decide_eq_true (by omega)
  have hh := hasslots_any h
  rw [hhas] at hh
  have Hh := Lib.hid hh
  have hmr := make_rows
  have hli : (bs.length : Int) ≤ 814 := by omega
  have hsm : Small 800016 (layTo S l 16 nils).2.1 := small_lay nils S l 16 hs (by omega)
  obtain ⟨fI, hfI⟩ : ∃ f : Nat → Prop, f = fun k => fp k ∧ k < w.heap.size := ⟨_, rfl⟩
  have hI : Imp w fI gd S l := by rw [hfI]; exact h.mono (fun k hk hl => ⟨hk, hl⟩)
  have hfl : ∀ k, fI k → fp k ∧ k < w.heap.size := by rw [hfI]; exact fun k hk => hk
  obtain ⟨O, hO⟩ : ∃ O, O = Obj.cells #[.int .i64 0, .slice none 0 0, .pointer (some ⟨gd, 0, none⟩), .int .i64 1, .bool false] 80 := ⟨_, rfl⟩
  have hblk0 : Blk (w.alloc O) w.heap.size 80 #[.int .i64 0, .slice none 0 0, .pointer (some ⟨gd, 0, none⟩), .int .i64 1, .bool false] := by rw [hO]; exact Blk.new w _ _
  have hb0 : Below w.heap.size w (w.alloc O) := ext_alloc (Below.refl _ _) _
  have hz0 : (w.alloc O).heap.size = w.heap.size + 1 := World.size_alloc _ _
  have q3 : (w.alloc O).cell? ⟨w.heap.size, 3, none⟩ = some (.int .i64 1) := hblk0.cell 3
  have hws : ∀ (X : World) (g' : Nat), Below w.heap.size w X → g' = X.heap.size → Calls Tryd.prog 44 #[.pointer (some ⟨gd, 0, none⟩), .int .i64 1, .slice (some ⟨g', 0, none⟩) 16 16] (X.alloc (.cells (madeCells #[.slice none 0 0] 16) 22)).drew fun e w' =>
      e = .returned (.int .i64 0) ∧ Imp w' (More fI (X.alloc (.cells (madeCells #[.slice none 0 0] 16) 22)) w') gd (layTo S l 16 nils).2.1 (layTo S l 16 nils).2.2 ∧ Only fI (X.alloc (.cells (madeCells #[.slice none 0 0] 16) 22)).drew w' := fun X g' hX hg' => by
    subst hg'
    have hn : ¬ fI X.heap.size := fun hk => by have := (hfl _ hk).2; have := hX.size; omega
    have h1 := writeslot_any (w := (X.alloc (.cells (madeCells #[.slice none 0 0] 16) 22)).drew) (hI.ext (ext_drew (ext_alloc hX _))) (small_mono hs (by omega)) 1 (by omega) (some ⟨X.heap.size, 0, none⟩) 16 16 nils rfl (rows_nils fI X hn) (by decide)
    refine h1.mono ?_
    rintro e w' ⟨rfl, h2, h3⟩
    exact ⟨by rw [← c1]; rfl, h2, h3⟩
  have Hws := Lib.hid hws
  have Hc2 := Lib.hid c2
  have hq := Lib.hid (show (layTo S l 16 nils) = (layTo S l 16 nils) from rfl)
  clear hws hfI hhas hh c1 c2 hq
  rw [hO] at hblk0 hb0 hz0 q3
  clear hO
  go_enter Tryd.func30, Tryd.ntmps30
  go_wp2_with fail
  refine Hh.out.mono ?_
  rintro e w1 ⟨rfl, rfl⟩
  go_wp2
  go_region_held3 (fun w' => w'.cell? ⟨w.heap.size, 3, none⟩ = some (.int .i64 1)) (first | exact q3 | exact cell_ext q3 (ext_drew (ext_alloc (Below.refl _ _) _)) | exact hS1) (first
    | (go_at_call 44; ((with_reducible refine (Hws.out _ _ ?_ ?_).mono ?_)); exact hb0; (simp); rintro e w2 ⟨rfl, hI2, ho2⟩;
        have hS1 : w2.cell? ⟨w.heap.size, 3, none⟩ = some (.int .i64 1) := (World.cell?_of_block (ho2.block w.heap.size (by show w.heap.size < (World.alloc _ _).heap.size; rw [World.size_alloc]; omega) (fun hk => by have := (hfl _ hk).2; omega))).trans (cell_ext q3 (ext_alloc (Below.refl _ _) _))))
  have hX : Below w.heap.size w ((w.alloc (.cells #[.int .i64 0, .slice none 0 0, .pointer (some ⟨gd, 0, none⟩), .int .i64 1, .bool false] 80)).alloc (.cells (madeCells #[.slice none 0 0] 16) 22)).drew := ext_drew (ext_alloc hb0 _)
  have hXz : ((w.alloc (.cells #[.int .i64 0, .slice none 0 0, .pointer (some ⟨gd, 0, none⟩), .int .i64 1, .bool false] 80)).alloc (.cells (madeCells #[.slice none 0 0] 16) 22)).drew.heap.size = w.heap.size + 2 := by
    show (World.alloc (World.alloc _ _) _).heap.size = _
    rw [World.size_alloc, World.size_alloc]
  have hXz' : ((w.alloc (.cells #[.int .i64 0, .slice none 0 0, .pointer (some ⟨gd, 0, none⟩), .int .i64 1, .bool false] 80)).alloc (.cells (madeCells #[.slice none 0 0] 16) 22)).heap.size = w.heap.size + 2 := hXz
  have hz2 := ho2.size
  have hng : ¬ fI w.heap.size := fun hk => by have := (hfl _ hk).2; omega
  have hblk2 : Blk w2 w.heap.size 80 #[.int .i64 0, .slice none 0 0, .pointer (some ⟨gd, 0, none⟩), .int .i64 1, .bool false] := (Blk.drew (hblk0.alloc (.cells (madeCells #[.slice none 0 0] 16) 22))).only ho2 hng
  have hOw : Only fp w w2 := (Only.of_ext (S := fp) hX).trans ho2 (fun k _ hk => (hfl k hk).1)
  have hB2 : Bs w2 B bs.length d bs := ⟨rfl, hB.2.1, hB.2.2.only hOw (fun ad e hne hk => hBf ad e (by intro hn; exact hne (by rw [hn]; rfl)) hk)⟩
  have ht2 : Tab w2 := ht.only hOw htf
  have hS0 : Sup w2 (More fp w w2) w.heap.size gd ⟨(layTo S l 16 nils).2.1, (layTo S l 16 nils).2.2, [], 0, 1, false⟩ := by
    refine ⟨More fI ((w.alloc (.cells #[.int .i64 0, .slice none 0 0, .pointer (some ⟨gd, 0, none⟩), .int .i64 1, .bool false] 80)).alloc (.cells (madeCells #[.slice none 0 0] 16) 22)) w2, none, 0, ?_⟩
    exact {
      imp := hI2
      sub := fun k hk => by
        rcases hk with hk | hk
        · exact .inl (hfl k hk).1
        · exact .inr ⟨by have := hk.1; omega, hk.2⟩
      fg := .inr ⟨Nat.le_refl _, hblk2.lt⟩
      ng := fun hk => by
        rcases hk with hk | hk
        · exact hng hk
        · have := hk.1; omega
      blk := hblk2
      bs := ⟨rfl, Nat.le_refl _, Rd.nil _ _⟩
      fA := fun ad e => by cases e
      hN := Nat.zero_le _
      hs := Nat.le_refl _
      hi := Nat.zero_le _ }
  have hcm := commit_any ht2 hS0 (small_mono hsm (by omega)) B _ d bs hB2 (by unfold maxLen; omega)
  have Hcm := Lib.hid hcm
  clear hcm hS0 hblk2 hB2 hX hI2 ho2 hng hXz hXz' q3 hblk0 hb0 hz0 hfl hI hB hBf Hws hS1
  go_wp2_with fail
  refine Hcm.out.mono ?_
  rintro e w3 ⟨rfl, hS3, ho3⟩
  have hc2 : (commitS ⟨(layTo S l 16 nils).2.1, (layTo S l 16 nils).2.2, [], 0, 1, false⟩ bs).1 = 0 := Hc2.out
  rw [hc2]
  have hfin : Formatted w fp gd (formatS S l bs).2 (.returned (.tuple #[.pointer (some ⟨w.heap.size, 0, none⟩), .int .i64 0])) w3 := by
    have hz3 := ho3.size
    have hz4 := hOw.size
    refine ⟨w.heap.size, rfl, Nat.le_refl _, SupAt.mono hS3 (fun k hk _ => More.join hOw.size (Nat.le_refl _) ho3.size hk), hOw.join ho3⟩
  have Hfin := Lib.hid hfin
  clear hfin hS3 ho3 hOw hc2 Hc2 Hcm
  go_wp2
  go_ret2
  exact Hfin.out
end Go.Proofs.YtlpjeopeboemmaaDoor
