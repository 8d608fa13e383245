/-
  The contract of super's unpack. No statement of the seat is proved here.
-/
import Derived.Test.YtlpjeopeboemmaaDoorTold
namespace Go.Proofs.YtlpjeopeboemmaaDoor
open Go Go.RowKit

theorem out_bytes {w : World} {fp : Nat → Prop} {g : Nat} {bs : List UInt8} (h : Wr w fp g (bs.map bv)) (hl : bs.length ≤ 100000) :
    Calls Tryd.prog 69 #[.pointer (some ⟨g, 0, none⟩)] w fun e w' => ∃ A' c', e = .returned (.slice A' bs.length c') ∧ New w w' A' c' bs ∧ Below w.heap.size w w' := by
  obtain ⟨hg, A, c, hblk, hown⟩ := h
  have h0 := hblk.cell 0
  simp only [List.getElem?_toArray, List.getElem?_cons_zero, List.length_map] at h0
  have hcap := hown.cap
  rw [List.length_map] at hcap
  have hB : Bs w A bs.length c bs := ⟨rfl, hcap, hown.rd⟩
  go_enter Tryd.func69, Tryd.ntmps69
  go_wp2_with fail
  refine (join1 bs (Blk.new_at _ _ _ rfl) (hB.alloc _) hl).mono ?_
  rintro e w1 ⟨A1, c1, rfl, hn1, hb1⟩
  go_wp2
  go_ret
  exact ⟨A1, c1, rfl, hn1.back (by rw [World.size_alloc]; omega), ext_trans (ext_alloc (Below.refl _ _) _) hb1⟩

theorem borneR_take (rows : List (List UInt8)) (k : Nat) (h : k < rows.length) : borneR (rows.take (k + 1)) = borneR (rows.take k) ++ (rows[k].drop 9).take 51 := by
  unfold borneR
  rw [List.take_succ_eq_append_getElem h, List.map_append, List.flatten_append]; simp
theorem borneR_len : ∀ (rows : List (List UInt8)), (∀ r ∈ rows, r.length = 64) → (borneR rows).length = rows.length * 51
  | [], _ => rfl
  | r :: rs, h => by
    have h1 := h r (by simp)
    have h2 := borneR_len rs (fun x hx => h x (by simp [hx]))
    unfold borneR at h2 ⊢
    rw [List.map_cons, List.flatten_cons, List.length_append, h2, List.length_cons]
    simp [h1]
    omega

theorem imgR_len (rows : List (List UInt8)) : (imgR rows).length ≤ 814 := by
  unfold imgR
  split
  · rw [List.length_take]; omega
  · simp
/-- the image is taken -/
theorem take_img {W : World} {fp : Nat → Prop} {g : Nat} {rows : List (List UInt8)} (h : Rdr W fp g ((borneR rows).drop 2) false) (hl : (borneR rows).length = 816) :
    Calls Tryd.prog 70 #[.pointer (some ⟨g, 0, none⟩), .int .i64 (sizeR rows : Int)] W fun e w' => ∃ A c, e = .returned (.slice A (imgR rows).length c) ∧ Bs w' A (imgR rows).length c (imgR rows) ∧ (∀ ad, A = some ad → W.heap.size ≤ ad.block ∧ ad.block < w'.heap.size) ∧ Only (fun k => k = g) W w' := by
  have hs : sizeR rows < 65536 := by
    have := ofLow_lt_of (l := (borneR rows).take 2) (k := 2) (by rw [List.length_take]; omega)
    have e : (256 : Nat) ^ 2 = 65536 := rfl
    unfold sizeR
    omega
  by_cases h8 : sizeR rows ≤ 814
  · have e : imgR rows = ((borneR rows).drop 2).take (sizeR rows) := by unfold imgR; rw [if_pos h8]
    have el : (imgR rows).length = sizeR rows := by rw [e, List.length_take, List.length_drop]; omega
    refine (rraw_ok fp g _ (sizeR rows) W h (by rw [List.length_drop]; omega) (by rw [List.length_drop]; omega)).mono ?_
    rintro e' w' ⟨A, c, rfl, hn, _, ho⟩
    rw [← e] at hn
    rw [el]
    exact ⟨A, c, rfl, hn.bs' el.symm, fun ad ea => hn.2 ad ea, ho⟩
  · have e : imgR rows = [] := by unfold imgR; rw [if_neg h8]
    refine (rraw_none fp g _ (sizeR rows : Int) W h (by unfold isInt; omega) (.inr (by rw [List.length_drop]; omega)) (by rw [List.length_drop]; omega)).mono ?_
    rintro e' w' ⟨rfl, _, ho⟩
    rw [e]
    exact ⟨none, 0, rfl, ⟨rfl, Nat.le_refl _, Rd.nil _ _⟩, (fun ad ea => by cases ea), ho⟩

set_option maxRecDepth 100000 in
set_option maxHeartbeats 4000000 in
theorem unpack_any {w : World} {B0 g : Nat} {rows : List (List UInt8)} (ht : Tab w) (hr : RowsAt B0 w g 16 rows) (h16 : rows.length = 16) (h64 : ∀ r ∈ rows, r.length = 64) :
    Calls Tryd.prog 50 #[.slice (some ⟨g, 0, none⟩) 16 16] w fun e w' => ∃ A' c', e = .returned (.agg #[.int .i64 ((unpackS rows).1 : Int), .slice A' (unpackS rows).2.length c']) ∧ Bs w' A' (unpackS rows).2.length c' (unpackS rows).2 ∧ (∀ ad, A' = some ad → w.heap.size ≤ ad.block ∧ ad.block < w'.heap.size) ∧ Below w.heap.size w w' := by
  have hrF : RowsF (fun _ => False) w (some ⟨g, 0, none⟩) rows := by
    obtain ⟨cs, h1, h2, h3, h4⟩ := hr
    refine ⟨cs.toList, RdF.of (Rd.blk h1), by rw [Array.length_toList]; omega, fun j v xs hv hx => ?_⟩
    obtain ⟨B, c, e, hc, hrd, hn⟩ := h4 j xs hx
    rw [Array.getElem?_toList, e] at hv
    injection hv with hv
    exact ⟨B, c, hv.symm, hc, RdF.of hrd⟩
  have h16' := Lib.hid h16
  go_enter Tryd.func50, Tryd.ntmps50
  go_wp2
  go_loopw [5, 11] (fun _ i wr => ∃ (k : Nat) (fp : Nat → Prop), k ≤ 16 ∧ i = .int .i64 (k : Int) ∧ (∀ j, fp j → w.heap.size + 1 ≤ j) ∧ Wr wr fp (w.heap.size + 1) ((borneR (rows.take k)).map bv) ∧ Below w.heap.size w wr ∧ Blk wr w.heap.size 78 #[.int .i64 0, .slice none 0 0]) (fun _ i _ => 16 - (intOf i).toNat)
  case atStart =>
    refine ⟨0, fun j => j = w.heap.size + 1, by omega, rfl, fun j hj => by omega, ?_, ext_alloc (ext_alloc (Below.refl _ _) _) _, (Blk.new w _ _).alloc _⟩
    have := Wr.new (w.alloc (.cells #[.int .i64 0, .slice none 0 0] 78)) (fun j => j = w.heap.size + 1) (by rw [World.size_alloc])
    rw [World.size_alloc] at this
    exact this
  case round =>
    obtain ⟨k, fp, hk, rfl, hfp, hw, hb, hres⟩ := hrel
    by_cases hlt : k < 16
    · have hrow : rows[k]? = some (rows[k]'(by rw [h16'.out]; exact hlt)) := List.getElem?_eq_getElem _
      obtain ⟨cs, h1, h2, h3, h4⟩ := hr.ext hb
      obtain ⟨B, c, ec, hc, hrd, hn⟩ := h4 k _ hrow
      have hcell : wr.cell? ⟨g, k, none⟩ = some (.slice B (rows[k]'(by rw [h16'.out]; exact hlt)).length c) := (h1.cell k).trans ec
      have hl := h64 _ (List.mem_of_getElem? hrow)
      have hsucc := borneR_take rows k (by rw [h16'.out]; exact hlt)
      clear hrow ec hn h1 h2 h3 h4
      generalize (rows[k]'(by rw [h16'.out]; exact hlt)) = row at *
      rw [hl] at hcell hc
      obtain ⟨ad, rfl, -⟩ := hrd.at_ (k := 0) (by simp; omega)
      obtain ⟨c, rfl⟩ : ∃ d, c = d + 64 := ⟨c - 64, by omega⟩
      have hRd : Rd wr (some ⟨ad.block, ad.off + 9, none⟩) (((row.drop 9).take 51).map bv) := by
        rw [List.map_take, List.map_drop]
        exact (rd_from 9 (by omega) hrd (Below.refl _ _)).take 51
      have hblen : (borneR (rows.take k)).length ≤ 816 := by
        rw [borneR_len _ (fun r hr => h64 r (List.mem_of_mem_take hr)), List.length_take]
        omega
      have hcall := raw_any fp (w.heap.size + 1) (some ⟨ad.block, ad.off + 9, none⟩) 51 (c + 55) _ _ wr hw (by simp; omega) hRd (bvs_one _) (by simp; omega)
      rw [← List.map_append, ← hsucc] at hcall
      have Hcall := Lib.hid hcall
      have c60 : (60 : Int) ≤ (c : Int) + 64 := by omega
      clear hcall hsucc hl hRd hblen hrd hw
      go_wp2_with fail
      refine Hcall.out.mono ?_
      rintro e w2 ⟨rfl, hw2, ho2⟩
      have hb2 : Below w.heap.size w w2 := hb.trans (ho2.below (fun i hi => by have := hfp i hi; omega) hb.size)
      have hres2 := hres.only ho2 (fun h => by have := hfp _ h; omega)
      have hfp2 : ∀ j, More fp wr w2 j → w.heap.size + 1 ≤ j := fun j hj => by
        rcases hj with hj | hj
        · exact hfp j hj
        · have := hb.size
          have := hres.lt
          omega
      go_wp2
      go_roundw
      case rel => exact ⟨k + 1, _, by omega, by go_num, hfp2, hw2, hb2, hres2⟩
      case measure => simp [intOf]; omega
    · obtain rfl : k = 16 := by omega
      rw [List.take_of_length_le (by rw [h16'.out]; omega)] at hw
      have hbl : (borneR rows).length = 816 := by rw [borneR_len _ h64, h16'.out]
      have Hbl := Lib.hid hbl
      have hout := out_bytes hw (by rw [hbl]; omega)
      rw [hbl] at hout
      have Hout := Lib.hid hout
      have hrl := hres.lt
      clear hout hbl hw
      go_wp2_with fail
      refine Hout.out.mono ?_
      rintro e w1 ⟨A1, c1, rfl, hn1, hb1⟩
      have hbw1 := ext_trans hb hb1
      obtain ⟨_, q1, q2⟩ := hn1.bs
      have hnr := newreader A1 816 c1 (borneR rows) w1 Hbl.out.symm q1 q2 (by rw [Hbl.out]; omega)
      have Hnr := Lib.hid hnr
      clear hnr q1 q2
      go_wp2_with fail
      refine Hnr.out.mono ?_
      rintro e w2 ⟨g2, rfl, hrdr, hb2⟩
      have hbw2 := ext_trans hbw1 hb2
      have hg2 : w1.heap.size ≤ g2 := hrdr.1.1
      have hs1 := hb1.size
      have hs0 := hb.size
      have hcall := rraw_ok _ g2 (borneR rows) 2 w2 hrdr (by rw [Hbl.out]; omega) (by rw [Hbl.out]; omega)
      rw [show ((2 : Nat) : Int) = 2 from rfl] at hcall
      have Hcall := Lib.hid hcall
      clear hcall hn1
      go_wp2_with fail
      refine Hcall.out.mono ?_
      rintro e w3 ⟨A3, c3, rfl, hn3, hrdr3, ho3⟩
      have hbw3 : Below w.heap.size w w3 := hbw2.trans (ho3.below (fun i hi => by omega) hbw2.size)
      have hfl := fromlow_any A3 2 c3 ((borneR rows).take 2) w3 (by rw [List.length_take, Hbl.out]; omega) hn3.rd (by rw [List.length_take, Hbl.out]; omega)
      rw [show ofLow ((borneR rows).take 2) = sizeR rows from rfl] at hfl
      have Hfl := Lib.hid hfl
      have hsz : sizeR rows < 65536 := by
        have := ofLow_lt_of (l := (borneR rows).take 2) (k := 2) (by rw [List.length_take]; omega)
        have e : (256 : Nat) ^ 2 = 65536 := rfl
        unfold sizeR
        omega
      have hszi : (sizeR rows : Int) ≤ 65535 := by omega
      have htk := take_img hrdr3 Hbl.out
      have Htk := Lib.hid htk
      clear hfl htk hsz
      go_wp2_with fail
      refine Hfl.out.mono ?_
      rintro e w4 ⟨rfl, rfl⟩
      go_wp2_with fail
      refine Htk.out.mono ?_
      rintro e w4 ⟨A4, c4, rfl, hB4, hf4, ho4⟩
      have hbw4 : Below w.heap.size w w4 := hbw3.trans (ho4.below (fun i hi => by omega) hbw3.size)
      have hf4' : ∀ ad, A4 = some ad → w.heap.size + 1 ≤ ad.block := fun ad e => by
        have := (hf4 ad e).1
        have := hbw3.size
        have := ho3.size
        have := hb2.size
        omega
      have hres4 : Blk w4 w.heap.size 78 #[.int .i64 0, .slice none 0 0] := (((hres.ext hb1).ext hb2).only ho3 (by omega)).only ho4 (by omega)
      have hil := imgR_len rows
      obtain ⟨r0, hr0⟩ : ∃ r, rows[0]? = some r := ⟨_, List.getElem?_eq_getElem (by rw [h16'.out]; omega)⟩
      obtain ⟨cs, h1, h2, h3, h4⟩ := hr.ext hbw4
      obtain ⟨B, c, ec, hc, hrd, -⟩ := h4 0 r0 hr0
      have hcell : w4.cell? ⟨g, 0, none⟩ = some (.slice B r0.length c) := (h1.cell 0).trans ec
      have hl0 := h64 r0 (List.mem_of_getElem? hr0)
      have hhead : rows.headD [] = r0 := by
        match hrs : rows, hr0 with
        | x :: xs, hr0 => simpa using hr0
      rw [hl0] at hcell hc
      have hnum := numberof_any B 64 c r0 w4 (ht.ext hbw4) rfl hl0 hc hrd
      have Hnum := Lib.hid hnum
      have Hhead := Lib.hid hhead
      clear hnum hhead h1 h2 h3 h4 ec hrd hl0 hr0 Hcall Hfl Hnr Hout Htk
      go_wp2_with fail
      refine Hnum.out.mono ?_
      rintro e w5 ⟨rfl, hb5⟩
      have hbw5 := ext_trans hbw4 hb5
      have h6 : ToldAt (w5.alloc (.cells #[.int .i64 (numOf r0 : Int), .slice A4 (imgR rows).length c4] 78)) w5.heap.size (numOf r0) A4 (imgR rows).length c4 (imgR rows) :=
        ⟨(Blk.new w5 _ _).cell 0, (Blk.new w5 _ _).cell 1, (hB4.ext hb5).alloc _⟩
      have hrw := rows_any h6 ((ht.ext hbw5).alloc _) (by have := numOf_le r0; omega) (by omega)
      have Hrw := Lib.hid hrw
      have hbw6 := ext_alloc hbw5 (.cells #[.int .i64 (numOf r0 : Int), .slice A4 (imgR rows).length c4] 78)
      clear hrw
      go_wp2_with fail
      refine Hrw.out.mono ?_
      rintro e w7 ⟨A7, c7, rfl, hl7, hr7, hb7⟩
      have hbw7 := ext_trans hbw6 hb7
      have hpl : (packI (numOf r0 : Int) (imgR rows)).length ≤ 16 := by
        unfold packI
        split
        · rw [packOf_length]; omega
        · simp
      have heqf := equalfunc_any (some ⟨g, 0, none⟩) A7 16 16 _ c7 rows (packI (numOf r0 : Int) (imgR rows)) w7 h16'.out.symm rfl (hrF.ext hbw7) (hr7.weak (fun _ h => h.elim)) (by rw [h16'.out]; omega) (by omega)
      have hres7 := ((hres4.ext hb5).alloc (.cells #[.int .i64 (numOf r0 : Int), .slice A4 (imgR rows).length c4] 78)).ext hb7
      obtain ⟨k0, k1, k2, k3⟩ := hres7.two
      obtain ⟨j0, j1, -, -⟩ := ((Blk.new w5 78 #[.int .i64 (numOf r0 : Int), .slice A4 (imgR rows).length c4]).ext hb7).two
      have hB7 : Bs w7 A4 (imgR rows).length c4 (imgR rows) := ((hB4.ext hb5).alloc _).ext hb7
      have hbu : ∀ u v, Bs ((w7.setCell ⟨w.heap.size, 0, none⟩ u).setCell ⟨w.heap.size, 1, none⟩ v) A4 (imgR rows).length c4 (imgR rows) := fun u v =>
        ⟨rfl, hB7.2.1, (hB7.2.2.setCell (fun ad e => by have := hf4' ad e; show ad.block ≠ w.heap.size; omega) u).setCell (fun ad e => by have := hf4' ad e; show ad.block ≠ w.heap.size; omega) v⟩
      have hbe : ∀ u v, Below w.heap.size w ((w7.setCell ⟨w.heap.size, 0, none⟩ u).setCell ⟨w.heap.size, 1, none⟩ v) := fun u v =>
        (hbw7.setCell (p := ⟨w.heap.size, 0, none⟩) (Nat.le_refl _) _).setCell (p := ⟨w.heap.size, 1, none⟩) (Nat.le_refl _) _
      have hput : ∀ u v, Blk ((w7.setCell ⟨w.heap.size, 0, none⟩ u).setCell ⟨w.heap.size, 1, none⟩ v) w.heap.size 78 #[u, v] := fun u v => (hres7.put 0 u).put 1 v
      have hfz : ∀ ad, A4 = some ad → ∀ u v, w.heap.size ≤ ad.block ∧ ad.block < ((w7.setCell ⟨w.heap.size, 0, none⟩ u).setCell ⟨w.heap.size, 1, none⟩ v).heap.size := fun ad e u v => by
        have h1 := hf4' ad e
        have h2 := (hf4 ad e).2
        have h3 := hb5.size
        have h4 := hb7.size
        have h5 : ((w7.setCell ⟨w.heap.size, 0, none⟩ u).setCell ⟨w.heap.size, 1, none⟩ v).heap.size = w7.heap.size := by simp [World.setCell]
        rw [World.size_alloc] at h4
        omega
      have HZ := Lib.hid hfz
      clear hfz
      by_cases hq : rows = packI (numOf r0 : Int) (imgR rows)
      · have hd : decide (rows = packI (numOf r0 : Int) (imgR rows)) = true := decide_eq_true hq
        have hU : unpackS rows = (numOf r0, imgR rows) := by
          unfold unpackS
          rw [Hhead.out, if_pos hq]
        rw [hd] at heqf
        have Heqf := Lib.hid heqf
        have HU := Lib.hid hU
        have HB := Lib.hid hbu
        have HE := Lib.hid hbe
        have HP := Lib.hid hput
        clear heqf hd hU hq hbu hbe hput hB7 hB4 h6 Hrw Hnum hpl hres7 hres4 hres hrF hr
        go_wp2_with fail
        refine Heqf.out.mono ?_
        rintro e w8 ⟨rfl, rfl⟩
        go_wp2
        rw [HU.out]
        exact bodyPost_ret (results_told rfl _ _ w.heap.size _ _ rfl ((HP.out _ _).cell 0) ((HP.out _ _).cell 1)) rfl ⟨A4, c4, rfl, HB.out _ _, fun ad e => HZ.out ad e _ _, HE.out _ _⟩
      · have hd : decide (rows = packI (numOf r0 : Int) (imgR rows)) = false := decide_eq_false hq
        have hU : unpackS rows = (0, []) := by
          unfold unpackS
          rw [Hhead.out, if_neg hq]
        rw [hd] at heqf
        have Heqf := Lib.hid heqf
        have HU := Lib.hid hU
        have HE := Lib.hid hbe
        have HP := Lib.hid hput
        clear heqf hd hU hq hbu hbe hput hB7 hB4 h6 Hrw Hnum hpl hres7 hres4 hres hrF hr
        go_wp2_with fail
        refine Heqf.out.mono ?_
        rintro e w8 ⟨rfl, rfl⟩
        go_wp2
        rw [HU.out]
        exact bodyPost_ret (results_told rfl _ _ w.heap.size _ _ rfl ((HP.out _ _).cell 0) ((HP.out _ _).cell 1)) rfl ⟨none, 0, rfl, ⟨rfl, Nat.le_refl _, Rd.nil _ _⟩, (fun ad e => by cases e), HE.out _ _⟩
end Go.Proofs.YtlpjeopeboemmaaDoor
