/-
  The contract of super's Open. No statement of the seat is proved here.
-/
import Derived.Test.YtlpjeopeboemmaaDoorSupD
import Derived.BigRegion
namespace Go.Proofs.YtlpjeopeboemmaaDoor
open Go Go.RowKit

theorem slotRows_64 {S : Sec} {k : Nat} (hw : Wf S) (hS : k * 16 + 16 ≤ S.length) : ∀ r ∈ slotRows S k, r.length = 64 := fun r hr => by
  obtain ⟨i, hi, rfl⟩ := List.mem_map.1 hr
  have hi' : i < 16 := List.mem_range.1 hi
  have hlt := slot_len hS hi'
  rw [List.getD_eq_getElem?_getD, List.getElem?_eq_getElem hlt]
  have h1 := hw _ (List.getElem_mem hlt)
  exact h1.2 _ (lastOf_mem h1.1)

theorem Bs.far {W : World} {A : Option Addr} {n c : Nat} {xs : List UInt8} (h : Bs W A n c xs) {p : Addr} (hn : ∀ ad, A = some ad → ad.block ≠ p.block) (u : Value) : Bs (W.setCell p u) A n c xs := ⟨h.1, h.2.1, h.2.2.setCell hn u⟩
theorem RowsAt.far {B0 : Nat} {w : World} {g N : Nat} {xss : List (List UInt8)} (h : RowsAt B0 w g N xss) {p : Addr} (hg : g ≠ p.block) (hp : p.block < B0) (u : Value) : RowsAt B0 (w.setCell p u) g N xss := by
  obtain ⟨cs, h1, h2, h3, h4⟩ := h
  refine ⟨cs, h1.far hg u, h2, h3, fun j xs hx => ?_⟩
  obtain ⟨B, c, e, hc, hr, hn⟩ := h4 j xs hx
  exact ⟨B, c, e, hc, hr.setCell (fun ad ea => by have := (hn ad ea).1; omega) u, hn⟩
theorem RowsAt.drew' {B0 : Nat} {w : World} {g N : Nat} {xss : List (List UInt8)} (h : RowsAt B0 w g N xss) : RowsAt B0 w.drew g N xss := h
theorem max_form (p q : Nat) : (if p < q then (q : Int) else (p : Int)) = ((max p q : Nat) : Int) := by
  split <;> omega
/-- what a call of Open answers -/
def Opened (w : World) (fp : Nat → Prop) (gd : Nat) (S : Sec) (l : Int) (e : Ending) (w' : World) : Prop :=
  Below w.heap.size w w' ∧ (((tellK S 2).1 = 0 ∧ e = .returned (.tuple #[.pointer none, .int .i64 2])) ∨
    (0 < (tellK S 2).1 ∧ ∃ g, e = .returned (.tuple #[.pointer (some ⟨g, 0, none⟩), .int .i64 0]) ∧ w.heap.size ≤ g ∧ SupAt w' (More fp w w') g gd S l (tellK S 2).2.1 (mostK S 2) (tellK S 2).2.2 false))

set_option maxRecDepth 100000 in
set_option maxHeartbeats 2000000 in
theorem open_any {w : World} {fp : Nat → Prop} {gd : Nat} {S : Sec} {l : Int} (ht : Tab w) (h : Imp w fp gd S l) (hs : Small 1000000 S) (h32 : 32 ≤ S.length) :
    Calls Tryd.prog 22 #[.pointer (some ⟨gd, 0, none⟩)] w (Opened w fp gd S l) := by
  have hwf := h.wf
  have h64 := Lib.hid (fun k (hk : k ≤ 1) => slotRows_64 (k := k) hwf (by omega))
  have hhas : decide ((32 : Int) ≤ (S.length : Int)) = true := decide_eq_true (by omega)
  have hh := hasslots_any h
  rw [hhas] at hh
  have Hh := Lib.hid hh
  clear hh hhas
  go_enter Tryd.func22, Tryd.ntmps22
  go_wp2_with fail
  refine Hh.out.mono ?_
  rintro e w1 ⟨rfl, rfl⟩
  go_wp2
  go_loopw [5, 6, 7, 8, 9, 11, 18] (fun m _ _ _ _ _ i wr => ∃ (k : Nat) (A : Option Addr) (c : Nat), k ≤ 2 ∧ i = .int .i64 (k : Int) ∧ m = .int .i64 (mostK S k : Int) ∧ Below w.heap.size w wr ∧
    Blk wr w.heap.size 80 #[.int .i64 ((tellK S k).1 : Int), .slice A (tellK S k).2.1.length c, .pointer (some ⟨gd, 0, none⟩), .int .i64 ((tellK S k).2.2 : Int), .bool false] ∧ Bs wr A (tellK S k).2.1.length c (tellK S k).2.1 ∧ (∀ ad, A = some ad → w.heap.size < ad.block ∧ ad.block < wr.heap.size)) (fun _ _ _ _ _ _ i _ => 2 - (intOf i).toNat)
  case atStart => exact ⟨0, none, 0, by omega, rfl, rfl, ext_alloc (Below.refl _ _) _, Blk.new w _ _, ⟨rfl, Nat.le_refl _, Rd.nil _ _⟩, fun ad e => by cases e⟩
  case round =>
    obtain ⟨k, A, c, hk, rfl, rfl, hb, hblk, hbs, hA⟩ := hrel
    obtain ⟨v0, rfl⟩ : ∃ v0 : World, v0 = wr := ⟨_, rfl⟩
    by_cases hlt : k < 2
    · have hcall := readslot_any (h.ext hb) hs k (by omega) (by omega)
      have Hcall := Lib.hid hcall
      have hgl := hblk.lt
      clear hcall
      go_wp2_with fail
      refine Hcall.out.mono ?_
      rintro e w2 ⟨rfl, hrows, hb2⟩
      have hbw2 := ext_trans hb hb2
      have hun := unpack_any (ht.ext hbw2) hrows (slotRows_length S k) (h64.out k (by omega))
      have hU := unpackS_le (slotRows S k)
      have hT := tellK_le S k
      have htell : tellK S (k + 1) = if (tellK S k).1 < (unpackS (slotRows S k)).1 then ((unpackS (slotRows S k)).1, (unpackS (slotRows S k)).2, k) else tellK S k := rfl
      have hmost : mostK S (k + 1) = mostR (mostK S k) (slotRows S k) := rfl
      have hml := mostK_le S k
      have Hml := Lib.hid hml
      have Hun := Lib.hid hun
      have Htell := Lib.hid htell
      have Hmost := Lib.hid hmost
      have hrl := Lib.hid (slotRows_length S k)
      have hr64 := Lib.hid (h64.out k (by omega))
      clear hun htell hmost Hcall
      generalize hrd : slotRows S k = rows at *
      clear hrd
      generalize hud : unpackS rows = U at *
      clear hud
      generalize htd : tellK S k = T at *
      clear htd
      generalize hmd : mostK S k = M at *
      clear hmd
      obtain ⟨un, ui⟩ := U
      obtain ⟨tn, ti, tsl⟩ := T
      go_wp2_with fail
      refine Hun.out.mono ?_
      rintro e w3 ⟨A3, c3, rfl, hB3, hf3, hb3⟩
      have hbw3 := ext_trans hbw2 hb3
      have hblk3 := (hblk.ext hb2).ext hb3
      have hblk4 := hblk3.alloc (.cells #[.int .i64 (un : Int), .slice A3 ui.length c3] 78)
      obtain ⟨j0, j1, -, -⟩ := (Blk.new w3 78 #[.int .i64 (un : Int), .slice A3 ui.length c3]).two
      have q0 := hblk4.cell 0
      have q1 := hblk4.cell 1
      have q3 := hblk4.cell 3
      have f0 := hblk4.free 0
      have f1 := hblk4.free 1
      have f3 := hblk4.free 3
      simp only [List.getElem?_toArray, List.getElem?_cons_zero, List.getElem?_cons_succ] at q0 q1 q3
      have hrows3 := (hrows.ext hb3).ext (ext_alloc (Below.refl w3.heap.size w3) (.cells #[.int .i64 (un : Int), .slice A3 ui.length c3] 78))
      have hbw4 := ext_alloc hbw3 (.cells #[.int .i64 (un : Int), .slice A3 ui.length c3] 78)
      have hsz2 := hb2.size
      have hsz3 := hb3.size
      have hf3' : ∀ ad, A3 = some ad → ad.block ≠ w.heap.size := fun ad e => by have := (hf3 ad e).1; omega
      by_cases hgt : tn < un
      · have hgi : (tn : Int) < (un : Int) := by omega
        go_wp2
        go_region
        go_wp2
        have hblkF := ((hblk4.put 0 (.int .i64 (un : Int))).put 1 (.slice A3 ui.length c3)).put 3 (.int .i64 (k : Int))
        have hbo := ((hbw4.setCell (p := ⟨w.heap.size, 0, none⟩) (Nat.le_refl _) (.int .i64 (un : Int))).setCell (p := ⟨w.heap.size, 1, none⟩) (Nat.le_refl _) (.slice A3 ui.length c3)).setCell (p := ⟨w.heap.size, 3, none⟩) (Nat.le_refl _) (.int .i64 (k : Int))
        have hbsF : Bs _ A3 ui.length c3 ui := (((hB3.alloc (.cells #[.int .i64 (un : Int), .slice A3 ui.length c3] 78)).far (p := ⟨w.heap.size, 0, none⟩) hf3' (.int .i64 (un : Int))).far (p := ⟨w.heap.size, 1, none⟩) hf3' (.slice A3 ui.length c3)).far (p := ⟨w.heap.size, 3, none⟩) hf3' (.int .i64 (k : Int))
        have hrF := ((hrows3.far (p := ⟨w.heap.size, 0, none⟩) (by show v0.heap.size ≠ w.heap.size; omega) (by show w.heap.size < v0.heap.size; omega) (.int .i64 (un : Int))).far (p := ⟨w.heap.size, 1, none⟩) (by show v0.heap.size ≠ w.heap.size; omega) (by show w.heap.size < v0.heap.size; omega) (.slice A3 ui.length c3)).far (p := ⟨w.heap.size, 3, none⟩) (by show v0.heap.size ≠ w.heap.size; omega) (by show w.heap.size < v0.heap.size; omega) (.int .i64 (k : Int))
        have hAF : ∀ ad, A3 = some ad → w.heap.size < ad.block ∧ ad.block < ((((w3.alloc (.cells #[.int .i64 (un : Int), .slice A3 ui.length c3] 78)).setCell ⟨w.heap.size, 0, none⟩ (.int .i64 (un : Int))).setCell ⟨w.heap.size, 1, none⟩ (.slice A3 ui.length c3)).setCell ⟨w.heap.size, 3, none⟩ (.int .i64 (k : Int))).heap.size := fun ad e => by
          have h1 := hf3 ad e
          have h5 : ((((w3.alloc (.cells #[.int .i64 (un : Int), .slice A3 ui.length c3] 78)).setCell ⟨w.heap.size, 0, none⟩ (.int .i64 (un : Int))).setCell ⟨w.heap.size, 1, none⟩ (.slice A3 ui.length c3)).setCell ⟨w.heap.size, 3, none⟩ (.int .i64 (k : Int))).heap.size = w3.heap.size + 1 := by simp [World.setCell]
          omega
        have hto : Tab _ := ht.ext hbo
        have fix : ∀ (X : World), X.drew.heap.size = X.heap.size := fun _ => rfl
        replace hblkF := hblkF.drew
        replace hbo := ext_drew hbo
        replace hbsF := hbsF.drew
        replace hrF := hrF.drew'
        replace hto := hto.drewN 1
        clear q0 q1 q3 f0 f1 f3 j0 j1 hblk4 hblk hblk3 hrows3 hrows hbs hB3 hA fix
        generalize hwo : ((((w3.alloc (.cells #[.int .i64 (un : Int), .slice A3 ui.length c3] 78)).setCell ⟨w.heap.size, 0, none⟩ (.int .i64 (un : Int))).setCell ⟨w.heap.size, 1, none⟩ (.slice A3 ui.length c3)).setCell ⟨w.heap.size, 3, none⟩ (.int .i64 (k : Int))).drew = wo at *
        have hAF2 : ∀ ad, A3 = some ad → w.heap.size < ad.block ∧ ad.block < wo.heap.size := by rw [← hwo]; exact hAF
        clear hAF; rename (∀ ad, A3 = some ad → w.heap.size < ad.block ∧ ad.block < wo.heap.size) => hAF
        have hto2 : Tab wo := by rw [← hwo]; exact hto
        clear hto; rename Tab wo => hto
        clear hwo hf3' hf3 hbw4 hbw3 hbw2 hb2 hb3 hb hsz2 hsz3 hU hT
        have HblkF := Lib.hid hblkF
        have HbsF := Lib.hid hbsF
        have HAF := Lib.hid hAF
        have Hto := Lib.hid hto
        have HrF := Lib.hid hrF
        have Hbo := Lib.hid hbo
        clear hblkF hbsF hAF hto hrF hbo Hun hml
        go_loopw [5, 11, 50] (fun m _ i w9 => ∃ j : Nat, j ≤ 16 ∧ i = .int .i64 (j : Int) ∧ m = .int .i64 (mostR M (rows.take j) : Int) ∧ Below wo.heap.size wo w9) (fun _ _ i _ => 16 - (intOf i).toNat)
        case atStart => exact ⟨0, by omega, rfl, rfl, Below.refl _ _⟩
        case round =>
          obtain ⟨j, hj, rfl, rfl, hb9⟩ := hrel
          by_cases hjl : j < 16
          · have hrow : rows[j]? = some (rows[j]'(by rw [hrl.out]; exact hjl)) := List.getElem?_eq_getElem _
            obtain ⟨cs, h1, h2, h3, h4⟩ := HrF.out.ext hb9
            obtain ⟨B, cB, ec, hcB, hrdB, -⟩ := h4 j _ hrow
            have hcell : wr.cell? ⟨v0.heap.size, j, none⟩ = some (.slice B (rows[j]'(by rw [hrl.out]; exact hjl)).length cB) := (h1.cell j).trans ec
            have hl := hr64.out _ (List.mem_of_getElem? hrow)
            have hsucc := mostR_take M rows j (by rw [hrl.out]; exact hjl)
            have hmj := mostR_le (rows.take j) M (Hml.out)
            have hnl := numOf_le (rows[j]'(by rw [hrl.out]; exact hjl))
            clear hrow ec h1 h2 h3 h4
            generalize (rows[j]'(by rw [hrl.out]; exact hjl)) = row at *
            rw [hl] at hcell hcB
            have hnum := numberof_any B 64 cB row wr (Hto.out.ext hb9) rfl hl hcB hrdB
            have Hnum := Lib.hid hnum
            have Hsucc := Lib.hid hsucc
            clear hnum hsucc hl hrdB
            generalize numOf row = q at *
            generalize mostR M (rows.take j) = p at *
            have hji : (j : Int) < 16 := by omega
            go_wp2_with fail
            refine Hnum.out.mono ?_
            rintro e w10 ⟨rfl, hb10⟩
            have hb910 := ext_trans hb9 hb10
            go_wp2
            go_roundw
            case rel => exact ⟨j + 1, by omega, by go_num, congrArg (Value.int IntKind.i64) (by rw [Hsucc.out]; exact max_form p q), hb910⟩
            case measure => simp [intOf]; omega
          · obtain rfl : j = 16 := by omega
            rw [List.take_of_length_le (by rw [hrl.out]; omega)]
            go_wp2
            go_roundw
            case rel =>
              refine ⟨k + 1, A3, c3, by omega, by go_num, by rw [Hmost.out], ext_trans Hbo.out hb9, ?_⟩
              rw [Htell.out, if_pos hgt]
              exact ⟨HblkF.out.ext hb9, HbsF.out.ext hb9, fun ad e => ⟨(HAF.out ad e).1, Nat.lt_of_lt_of_le (HAF.out ad e).2 hb9.size⟩⟩
            case measure => simp [intOf]; omega
      · have hgi : (un : Int) ≤ (tn : Int) := by omega
        go_wp2
        go_region
        go_wp2
        have hblkF := hblk4.drew
        have hbo := ext_drew hbw4
        have hbsF : Bs _ A ti.length c ti := (((hbs.ext hb2).ext hb3).alloc (.cells #[.int .i64 (un : Int), .slice A3 ui.length c3] 78)).drew
        have hrF := hrows3.drew'
        have hto : Tab (w3.alloc (.cells #[.int .i64 (un : Int), .slice A3 ui.length c3] 78)).drew := ht.ext hbo
        have hAF : ∀ ad, A = some ad → w.heap.size < ad.block ∧ ad.block < (w3.alloc (.cells #[.int .i64 (un : Int), .slice A3 ui.length c3] 78)).drew.heap.size := fun ad e => by
          have h1 := hA ad e
          have h5 : (w3.alloc (.cells #[.int .i64 (un : Int), .slice A3 ui.length c3] 78)).drew.heap.size = w3.heap.size + 1 := by
            show (w3.alloc _).heap.size = _
            rw [World.size_alloc]
          omega
        clear q0 q1 q3 f0 f1 f3 j0 j1 hblk4 hblk hblk3 hrows3 hrows hbs hB3 hA
        generalize hwo : (w3.alloc (.cells #[.int .i64 (un : Int), .slice A3 ui.length c3] 78)).drew = wo at *
        clear hwo hf3' hf3 hbw4 hbw3 hbw2 hb2 hb3 hb hsz2 hsz3 hU hT
        have HblkF := Lib.hid hblkF
        have HbsF := Lib.hid hbsF
        have HAF := Lib.hid hAF
        have Hto := Lib.hid hto
        have HrF := Lib.hid hrF
        have Hbo := Lib.hid hbo
        clear hblkF hbsF hAF hto hrF hbo Hun hml
        go_loopw [5, 11, 50] (fun m _ i w9 => ∃ j : Nat, j ≤ 16 ∧ i = .int .i64 (j : Int) ∧ m = .int .i64 (mostR M (rows.take j) : Int) ∧ Below wo.heap.size wo w9) (fun _ _ i _ => 16 - (intOf i).toNat)
        case atStart => exact ⟨0, by omega, rfl, rfl, Below.refl _ _⟩
        case round =>
          obtain ⟨j, hj, rfl, rfl, hb9⟩ := hrel
          by_cases hjl : j < 16
          · have hrow : rows[j]? = some (rows[j]'(by rw [hrl.out]; exact hjl)) := List.getElem?_eq_getElem _
            obtain ⟨cs, h1, h2, h3, h4⟩ := HrF.out.ext hb9
            obtain ⟨B, cB, ec, hcB, hrdB, -⟩ := h4 j _ hrow
            have hcell : wr.cell? ⟨v0.heap.size, j, none⟩ = some (.slice B (rows[j]'(by rw [hrl.out]; exact hjl)).length cB) := (h1.cell j).trans ec
            have hl := hr64.out _ (List.mem_of_getElem? hrow)
            have hsucc := mostR_take M rows j (by rw [hrl.out]; exact hjl)
            have hmj := mostR_le (rows.take j) M (Hml.out)
            have hnl := numOf_le (rows[j]'(by rw [hrl.out]; exact hjl))
            clear hrow ec h1 h2 h3 h4
            generalize (rows[j]'(by rw [hrl.out]; exact hjl)) = row at *
            rw [hl] at hcell hcB
            have hnum := numberof_any B 64 cB row wr (Hto.out.ext hb9) rfl hl hcB hrdB
            have Hnum := Lib.hid hnum
            have Hsucc := Lib.hid hsucc
            clear hnum hsucc hl hrdB
            generalize numOf row = q at *
            generalize mostR M (rows.take j) = p at *
            have hji : (j : Int) < 16 := by omega
            go_wp2_with fail
            refine Hnum.out.mono ?_
            rintro e w10 ⟨rfl, hb10⟩
            have hb910 := ext_trans hb9 hb10
            go_wp2
            go_roundw
            case rel => exact ⟨j + 1, by omega, by go_num, congrArg (Value.int IntKind.i64) (by rw [Hsucc.out]; exact max_form p q), hb910⟩
            case measure => simp [intOf]; omega
          · obtain rfl : j = 16 := by omega
            rw [List.take_of_length_le (by rw [hrl.out]; omega)]
            go_wp2
            go_roundw
            case rel =>
              refine ⟨k + 1, A, c, by omega, by go_num, by rw [Hmost.out], ext_trans Hbo.out hb9, ?_⟩
              rw [Htell.out, if_neg hgt]
              exact ⟨HblkF.out.ext hb9, HbsF.out.ext hb9, fun ad e => ⟨(HAF.out ad e).1, Nat.lt_of_lt_of_le (HAF.out ad e).2 hb9.size⟩⟩
            case measure => simp [intOf]; omega
    · obtain rfl : k = 2 := by omega
      have hml := mostK_le S 2
      have hT := tellK_le S 2
      have hts : (tellK S 2).2.2 ≤ 1 := by
        show (if _ then _ else _ : Nat × List UInt8 × Nat).2.2 ≤ 1
        split
        · exact Nat.le_refl _
        · show (if _ then _ else _ : Nat × List UInt8 × Nat).2.2 ≤ 1
          split
          · exact Nat.zero_le _
          · exact Nat.zero_le _
      obtain ⟨fin, hfin⟩ : ∃ f : Ending → World → Prop, f = Opened w fp gd S l := ⟨_, rfl⟩
      have q0 := hblk.cell 0
      have f0 := hblk.free 0
      simp only [List.getElem?_toArray, List.getElem?_cons_zero, List.getElem?_cons_succ] at q0
      have hput := hblk.put 0 (.int .i64 (mostK S 2 : Int))
      have hbe : Below w.heap.size w (v0.setCell ⟨w.heap.size, 0, none⟩ (.int .i64 (mostK S 2 : Int))) := hb.setCell (Nat.le_refl _) _
      by_cases hz : (tellK S 2).1 = 0
      · have hpost : ∀ W, Below w.heap.size w W → Opened w fp gd S l (.returned (.tuple #[.pointer none, .int .i64 2])) W := fun W hW => ⟨hW, .inl ⟨hz, rfl⟩⟩
        have Hpost := Lib.hid hpost
        have hzi : (((tellK S 2).1 : Int) == 0) = true := beq_iff_eq.2 (by omega)
        clear hpost hz hml hT hts hput hbe hbs hblk hA hfin
        generalize (tellK S 2).1 = tn at *
        generalize mostK S 2 = M at *
        go_wp2
        go_ret2
        exact Hpost.out _ hb
      · have hpost : Opened w fp gd S l (.returned (.tuple #[.pointer (some ⟨w.heap.size, 0, none⟩), .int .i64 0])) (v0.setCell ⟨w.heap.size, 0, none⟩ (.int .i64 (mostK S 2 : Int))) := by
          have hsz : (v0.setCell ⟨w.heap.size, 0, none⟩ (.int .i64 (mostK S 2 : Int))).heap.size = v0.heap.size := by simp [World.setCell]
          have hbl := hblk.lt
          refine ⟨hbe, .inr ⟨by omega, w.heap.size, rfl, Nat.le_refl _, fun k => fp k ∧ k < w.heap.size, A, c, ?_⟩⟩
          exact {
            imp := (h.mono (fun k hk hl => ⟨hk, hl⟩)).ext hbe
            sub := fun k hk => .inl hk.1
            fg := .inr ⟨Nat.le_refl _, by rw [hsz]; exact hbl⟩
            ng := fun hk => Nat.lt_irrefl _ hk.2
            blk := hput
            bs := hbs.far (p := ⟨w.heap.size, 0, none⟩) (fun ad e => by have := (hA ad e).1; show ad.block ≠ w.heap.size; omega) _
            fA := fun ad e => by
              have := hA ad e
              exact ⟨.inr ⟨by omega, by rw [hsz]; exact this.2⟩, (fun hk => by have := hk.2; omega), by omega, by rw [hsz]; exact this.2⟩
            hN := hml
            hs := hts
            hi := hT.2 }
        have Hpost := Lib.hid hpost
        have hzi : (((tellK S 2).1 : Int) == 0) = false := beq_eq_false_iff_ne.2 (by omega)
        clear hpost hz hml hT hts hput hbe hbs hblk hA hfin
        generalize (tellK S 2).1 = tn at *
        generalize mostK S 2 = M at *
        go_wp2
        go_ret2
        exact Hpost.out
end Go.Proofs.YtlpjeopeboemmaaDoor
