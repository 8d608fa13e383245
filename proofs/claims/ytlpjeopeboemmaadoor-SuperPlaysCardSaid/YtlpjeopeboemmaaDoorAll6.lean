/-
  Texts of this claim, joined (part 6): contracts and lemmas that the last text goes by. No statement of the seat is proved here.
-/
import Derived.Test.YtlpjeopeboemmaaDoorAll5
import Derived.Deep.RegionLaw
import Derived.Deep.RegionHeld3
import Derived.Test.YtlpjeopeboemmaaDoorAll4
import Derived.Deep.RegionHeldLaw
/-
  The contract of the reference's slot: the walk. No statement of the seat is proved here.
-/
namespace Go.Proofs.YtlpjeopeboemmaaDoor
open Go Go.RowKit

/-- the head of the first loop -/
def Head1 (w wr : World) (rows : List (List UInt8)) (n0 : Nat) (va vr vn vm vo vi : Value) : Prop :=
  ∃ (j : Nat) (Aa : Option Addr) (ca : Nat) (Ar : Option Addr) (cr : Nat), j ≤ 16 ∧ vi = .int .i64 (j : Int) ∧ va = .slice Aa (j * 51) ca ∧ vr = .slice Ar j cr ∧ vn = .int .i64 (nAt j n0 : Int) ∧ vm = .int .i64 (mostR 0 (rows.take j) : Int) ∧ vo = .bool (okT n0 (rows.take j)) ∧
    Pair2 w.heap.size wr Aa ca (borneR (rows.take j)) Ar cr (rows.take j) ∧ Below w.heap.size w wr

set_option maxRecDepth 100000 in
set_option maxHeartbeats 4000000 in
theorem rslot_walk {w : World} {gx : Nat} (k : Nat) (hk : k ≤ 1) (rows : List (List UInt8)) (h16 : rows.length = 16) (h64 : ∀ r ∈ rows, r.length = 64)
    (hread : ∀ (wr : World) (j : Nat) (hj : j < rows.length), Below w.heap.size w wr → Calls Tryd.prog 40 #[.pointer (some ⟨gx, 0, none⟩), .int .i64 ((k : Int) * 16 + (j : Int))] wr (RRead wr rows[j])) :
    Calls Tryd.prog 62 #[.pointer (some ⟨gx, 0, none⟩), .int .i64 (k : Int)] w (RSlotted w rows) := by
  have H16 := Lib.hid h16
  have H64 := Lib.hid h64
  have Hread := Lib.hid hread
  obtain ⟨n0, hn0⟩ : ∃ n0, n0 = numOf (rows.headD []) := ⟨_, rfl⟩
  have Hn0 := Lib.hid hn0
  have hbl := Lib.hid (fun j (hj : j ≤ 16) => show (borneR (rows.take j)).length = j * 51 by rw [borneR_len _ (fun r hr => h64 r (List.mem_of_mem_take hr)), List.length_take, h16]; omega)
  have hn0le : n0 ≤ 1125899906842624 := by rw [hn0]; exact numOf_le _
  have Hrow0 : Hid (∀ (hj : 0 < rows.length), numOf rows[0] = n0) := Lib.hid (fun hj => by
    rw [hn0]
    cases rows with
    | nil => cases hj
    | cons a b => rfl)
  clear h16 h64 hread hn0
  go_enter Tryd.func62, Tryd.ntmps62
  go_wp2
  go_loopw [7, 8, 9, 10, 11, 12, 13, 14, 15] (fun va vr vn vm vo vi _ _ _ wr => Head1 w wr rows n0 va vr vn vm vo vi) (fun _ _ _ _ _ vi _ _ _ _ => 16 - (intOf vi).toNat)
  case atStart =>
    exact ⟨0, none, 0, none, 0, by omega, rfl, rfl, rfl, rfl, rfl, rfl, ⟨Own.none_ _ _ _, Own.none_ _ _ _, fun k hk => absurd hk (inA_none k), fun k hk => absurd hk (inA_none k), fun k hk => absurd hk (inA_none k)⟩, Below.refl _ _⟩
  case round =>
    obtain ⟨j, Aa, ca, Ar, cr, hj, rfl, rfl, rfl, rfl, rfl, rfl, hP, hb⟩ := hrel
    by_cases hlt : j < 16
    · have hji : (j : Int) < 16 := by omega
      have hlt' : j < rows.length := by rw [H16.out]; exact hlt
      have hcall := Hread.out wr j hlt' hb
      have Hcall := Lib.hid hcall
      clear hcall
      have hl := H64.out _ (List.getElem_mem hlt')
      have hsm := Lib.hid (mostR_take 0 rows j hlt')
      have hsb := Lib.hid (borneR_take rows j hlt')
      have hst := Lib.hid (show rows.take (j + 1) = rows.take j ++ [rows[j]] from List.take_succ_eq_append_getElem hlt')
      have hso := okT_take n0 rows j hlt'
      have hr0 : j = 0 → numOf rows[j] = n0 := fun e => by subst e; exact Hrow0.out _
      have hmj := mostR_le (rows.take j) 0 (by omega)
      have hnl := numOf_le (rows[j])
      have hblj := Lib.hid (hbl.out j hj)
      have hbj := Lib.hid (show ((rows[j].drop 9).take 51).length = 51 by rw [List.length_take, List.length_drop, hl]; omega)
      generalize rows[j] = row at *
      have Hl := Lib.hid hl
      clear hl
      have hcase : ∃ (b0 : Bool) (bp : Bool) (be : Bool), (((j : Int) == 0) = b0) ∧ ((j == 0) = b0) ∧ (decide ((0 : Int) < (numOf row : Int)) = bp) ∧ (decide (0 < numOf row) = bp) ∧ (((numOf row : Int) == (n0 : Int)) = be) ∧ ((numOf row == n0) = be) ∧ (decide (numOf row = n0) = be) ∧ (b0 = true → be = true ∧ j = 0) ∧ (b0 = false → nAt j n0 = n0) := by
        refine ⟨_, decide (0 < numOf row), decide (numOf row = n0), rfl, ?_, ?_, rfl, ?_, ?_, rfl, fun hh => ?_, fun hh => ?_⟩
        · by_cases h : j = 0
          · subst h; rfl
          · rw [beq_eq_false_iff_ne.2 h, beq_eq_false_iff_ne.2 (by omega)]
        · by_cases h : 0 < numOf row
          · rw [decide_eq_true h, decide_eq_true (by omega)]
          · rw [decide_eq_false h, decide_eq_false (by omega)]
        · by_cases h : numOf row = n0
          · rw [decide_eq_true h, h]; simp
          · rw [decide_eq_false h]; exact beq_eq_false_iff_ne.2 (by omega)
        · by_cases h : numOf row = n0
          · rw [decide_eq_true h, h]; simp
          · rw [decide_eq_false h]; exact beq_eq_false_iff_ne.2 h
        · have : j = 0 := by have := eq_of_beq hh; omega
          exact ⟨decide_eq_true (hr0 this), this⟩
        · unfold nAt
          rw [if_neg]
          rintro rfl
          simp at hh
      obtain ⟨b0, bp, be, q1, q1', q2, q2', q4, q4', q5, q6, q7⟩ := hcase
      obtain ⟨ob, hob⟩ : ∃ ob, ob = okT n0 (rows.take j) := ⟨_, rfl⟩
      have hob0 : j = 0 → ob = true := fun e => by subst e; rw [hob]; rfl
      rw [q2', q5, ← hob] at hso
      rw [← hob]
      have Hso := Lib.hid hso
      clear hso hob hr0
      generalize mostR 0 (rows.take j) = p at *
      generalize hq : numOf row = q at *
      have Hq := Lib.hid hq
      clear hq
      obtain ⟨M, hM⟩ : ∃ M : Nat, (if p < q then (q : Int) else (p : Int)) = (M : Int) := ⟨max p q, max_form p q⟩
      have hMm : M = max p q := by have := max_form p q; omega
      have fin : ∀ (w4 : World) (A' : Option Addr) (c' : Nat) (A2 : Option Addr) (c2 : Nat) (ov : Bool), Pair2 w.heap.size w4 A' c' (borneR (rows.take j) ++ (row.drop 9).take 51) A2 c2 (rows.take j ++ [row]) → Below w.heap.size w w4 → ov = (ob && (bp && be)) →
          Head1 w w4 rows n0 (.slice A' (j * 51 + 51) c') (.slice A2 (j + 1) c2) (.int .i64 (n0 : Int)) (.int .i64 (M : Int)) (.bool ov) (.int .i64 ((j : Int) + 1)) := by
        intro w4 A' c' A2 c2 ov hp4 hb4 hov
        rw [← hsb.out, ← hst.out] at hp4
        exact ⟨j + 1, A', c', A2, c2, by omega, by go_num, by rw [Nat.add_mul, Nat.one_mul], rfl, by unfold nAt; rw [if_neg (Nat.succ_ne_zero j)], by rw [hsm.out, hMm], by rw [Hso.out, hov], hp4, hb4⟩
      have Hfin := Lib.hid fin
      clear fin hMm
      have hz := hb.size
      go_wp2_with fail
      refine Hcall.out.mono ?_
      rintro e w2 ⟨g2, d2, rfl, hb2, hr2, hg2, hg2l⟩
      have hnum := number_any (some ⟨g2, 0, none⟩) 64 (d2 + 64) row w2 rfl Hl.out (by omega) hr2
      rw [Hq.out] at hnum
      have Hnum := Lib.hid hnum
      clear hnum Hcall
      go_wp2_with fail
      refine Hnum.out.mono ?_
      rintro e w3 ⟨rfl, qd, hqd⟩
      have hb23 : Below w2.heap.size w2 w3 := by rw [hqd]; exact ext_drewN (Below.refl _ _) qd
      clear hqd Hnum
      have hb3 := ext_trans (ext_trans hb hb2) hb23
      have hr3 := hr2.ext hb23
      have hP3 := hP.ext (ext_trans hb2 hb23)
      have hsl : Rd w3 (some ⟨g2, 9, none⟩) (((row.drop 9).take 51).map bv) := by
        rw [List.map_take, List.map_drop]
        exact (rd_from 9 (by omega) hr3 (Below.refl _ _)).take 51
      have hcv := Lib.hid (fun W (hW : Only (fun k => inA Aa k) w3 W) => conv_bytes W (some ⟨g2, 0, none⟩) 64 (d2 + 64) row Hl.out.symm (hr3.only hW (fun ad e _ hk => by injection e with e; subst e; have hk' : inA Aa g2 := hk; have := own_lt hP.all hk'; omega)))
      have hz3 := hb3.size
      have d60 : (60 : Int) ≤ (d2 : Int) + 64 := by omega
      clear hP hb hb2 hb23 hr2 hr3 hz hg2l hg2
      cases b0
      · rw [q7 rfl]
        clear q6 q7 hob0
        cases ob
        · clear q2 q2' q4 q4' q5
          go_wp2_with (first
            | (at_builtin
               refine wpList_app _ rfl (.tmp 51) (.tmp 53) _ rfl _ _ 1 Tryd.underlying22 info_u8 rfl Aa (j * 51) ca ((borneR (rows.take j)).map bv) rfl ?_ hP3.all (some ⟨g2, 9, none⟩) 51 (d2 + 55) (((row.drop 9).take 51).map bv) rfl ?_ hsl (bvs_one _) ?_ ?_ ?_
               · rw [List.length_map, hblj.out]
               · rw [List.length_map, hbj.out]
               · unfold maxLen; omega
               · omega
               intro A4 c4 w4 hown4 ho4
               obtain ⟨hP4, hbw4⟩ := hP3.pushA hz3 hown4 ho4
               have cv := hcv.out w4 ho4)
            | (at_builtin
               refine wpList_app _ rfl (.tmp 55) (.tmp 58) _ rfl _ _ 16 Tryd.underlying108 info_str rfl Ar j cr ((rows.take j).map strV) rfl ?_ (hP4.rws.alloc _) (some ⟨w4.heap.size, 0, none⟩) 1 1 [strV row] rfl rfl (Rd.lit w4 #[strV row] _) ?_ ?_ ?_ ?_
               · rw [List.length_map, List.length_take, H16.out]; omega
               · intro u hu; simp at hu; subst hu; rfl
               · unfold maxLen; omega
               · omega
               intro A5 c5 w5 hown5 ho5
               obtain ⟨hP5, hbw5⟩ := (hP4.ext (ext_alloc (Below.refl _ _) _)).pushR (by rw [World.size_alloc]; have := hbw4.size; omega) hown5 ho5))
          have hfin5 := Hfin.out w5 A4 c4 A5 c5 _ hP5 ((hb3.trans hbw4).trans ((Below.refl _ _).alloc (by have := hbw4.size; omega) _ |>.trans hbw5)) rfl
          go_roundw
          case rel => exact hfin5
          case measure => simp [intOf]; omega
        · cases bp
          · clear q4 q4' q5
            go_wp2_with (first
              | (at_builtin
                 refine wpList_app _ rfl (.tmp 51) (.tmp 53) _ rfl _ _ 1 Tryd.underlying22 info_u8 rfl Aa (j * 51) ca ((borneR (rows.take j)).map bv) rfl ?_ hP3.all (some ⟨g2, 9, none⟩) 51 (d2 + 55) (((row.drop 9).take 51).map bv) rfl ?_ hsl (bvs_one _) ?_ ?_ ?_
                 · rw [List.length_map, hblj.out]
                 · rw [List.length_map, hbj.out]
                 · unfold maxLen; omega
                 · omega
                 intro A4 c4 w4 hown4 ho4
                 obtain ⟨hP4, hbw4⟩ := hP3.pushA hz3 hown4 ho4
                 have cv := hcv.out w4 ho4)
              | (at_builtin
                 refine wpList_app _ rfl (.tmp 55) (.tmp 58) _ rfl _ _ 16 Tryd.underlying108 info_str rfl Ar j cr ((rows.take j).map strV) rfl ?_ (hP4.rws.alloc _) (some ⟨w4.heap.size, 0, none⟩) 1 1 [strV row] rfl rfl (Rd.lit w4 #[strV row] _) ?_ ?_ ?_ ?_
                 · rw [List.length_map, List.length_take, H16.out]; omega
                 · intro u hu; simp at hu; subst hu; rfl
                 · unfold maxLen; omega
                 · omega
                 intro A5 c5 w5 hown5 ho5
                 obtain ⟨hP5, hbw5⟩ := (hP4.ext (ext_alloc (Below.refl _ _) _)).pushR (by rw [World.size_alloc]; have := hbw4.size; omega) hown5 ho5))
            have hfin5 := Hfin.out w5 A4 c4 A5 c5 _ hP5 ((hb3.trans hbw4).trans ((Below.refl _ _).alloc (by have := hbw4.size; omega) _ |>.trans hbw5)) rfl
            go_roundw
            case rel => exact hfin5
            case measure => simp [intOf]; omega
          · cases be
            · go_wp2_with (first
                | (at_builtin
                   refine wpList_app _ rfl (.tmp 51) (.tmp 53) _ rfl _ _ 1 Tryd.underlying22 info_u8 rfl Aa (j * 51) ca ((borneR (rows.take j)).map bv) rfl ?_ hP3.all (some ⟨g2, 9, none⟩) 51 (d2 + 55) (((row.drop 9).take 51).map bv) rfl ?_ hsl (bvs_one _) ?_ ?_ ?_
                   · rw [List.length_map, hblj.out]
                   · rw [List.length_map, hbj.out]
                   · unfold maxLen; omega
                   · omega
                   intro A4 c4 w4 hown4 ho4
                   obtain ⟨hP4, hbw4⟩ := hP3.pushA hz3 hown4 ho4
                   have cv := hcv.out w4 ho4)
                | (at_builtin
                   refine wpList_app _ rfl (.tmp 55) (.tmp 58) _ rfl _ _ 16 Tryd.underlying108 info_str rfl Ar j cr ((rows.take j).map strV) rfl ?_ (hP4.rws.alloc _) (some ⟨w4.heap.size, 0, none⟩) 1 1 [strV row] rfl rfl (Rd.lit w4 #[strV row] _) ?_ ?_ ?_ ?_
                   · rw [List.length_map, List.length_take, H16.out]; omega
                   · intro u hu; simp at hu; subst hu; rfl
                   · unfold maxLen; omega
                   · omega
                   intro A5 c5 w5 hown5 ho5
                   obtain ⟨hP5, hbw5⟩ := (hP4.ext (ext_alloc (Below.refl _ _) _)).pushR (by rw [World.size_alloc]; have := hbw4.size; omega) hown5 ho5))
              have hfin5 := Hfin.out w5 A4 c4 A5 c5 _ hP5 ((hb3.trans hbw4).trans ((Below.refl _ _).alloc (by have := hbw4.size; omega) _ |>.trans hbw5)) rfl
              go_roundw
              case rel => exact hfin5
              case measure => simp [intOf]; omega
            · go_wp2_with (first
                | (at_builtin
                   refine wpList_app _ rfl (.tmp 51) (.tmp 53) _ rfl _ _ 1 Tryd.underlying22 info_u8 rfl Aa (j * 51) ca ((borneR (rows.take j)).map bv) rfl ?_ hP3.all (some ⟨g2, 9, none⟩) 51 (d2 + 55) (((row.drop 9).take 51).map bv) rfl ?_ hsl (bvs_one _) ?_ ?_ ?_
                   · rw [List.length_map, hblj.out]
                   · rw [List.length_map, hbj.out]
                   · unfold maxLen; omega
                   · omega
                   intro A4 c4 w4 hown4 ho4
                   obtain ⟨hP4, hbw4⟩ := hP3.pushA hz3 hown4 ho4
                   have cv := hcv.out w4 ho4)
                | (at_builtin
                   refine wpList_app _ rfl (.tmp 55) (.tmp 58) _ rfl _ _ 16 Tryd.underlying108 info_str rfl Ar j cr ((rows.take j).map strV) rfl ?_ (hP4.rws.alloc _) (some ⟨w4.heap.size, 0, none⟩) 1 1 [strV row] rfl rfl (Rd.lit w4 #[strV row] _) ?_ ?_ ?_ ?_
                   · rw [List.length_map, List.length_take, H16.out]; omega
                   · intro u hu; simp at hu; subst hu; rfl
                   · unfold maxLen; omega
                   · omega
                   intro A5 c5 w5 hown5 ho5
                   obtain ⟨hP5, hbw5⟩ := (hP4.ext (ext_alloc (Below.refl _ _) _)).pushR (by rw [World.size_alloc]; have := hbw4.size; omega) hown5 ho5))
              have hfin5 := Hfin.out w5 A4 c4 A5 c5 _ hP5 ((hb3.trans hbw4).trans ((Below.refl _ _).alloc (by have := hbw4.size; omega) _ |>.trans hbw5)) rfl
              go_roundw
              case rel => exact hfin5
              case measure => simp [intOf]; omega
      · obtain ⟨rfl, hj0⟩ := q6 rfl
        obtain rfl := hob0 hj0
        obtain rfl : q = n0 := of_decide_eq_true q5
        clear q4 q4' q5 q6 q7 hob0 hj0
        cases bp
        · go_wp2_with (first
            | (at_builtin
               refine wpList_app _ rfl (.tmp 51) (.tmp 53) _ rfl _ _ 1 Tryd.underlying22 info_u8 rfl Aa (j * 51) ca ((borneR (rows.take j)).map bv) rfl ?_ hP3.all (some ⟨g2, 9, none⟩) 51 (d2 + 55) (((row.drop 9).take 51).map bv) rfl ?_ hsl (bvs_one _) ?_ ?_ ?_
               · rw [List.length_map, hblj.out]
               · rw [List.length_map, hbj.out]
               · unfold maxLen; omega
               · omega
               intro A4 c4 w4 hown4 ho4
               obtain ⟨hP4, hbw4⟩ := hP3.pushA hz3 hown4 ho4
               have cv := hcv.out w4 ho4)
            | (at_builtin
               refine wpList_app _ rfl (.tmp 55) (.tmp 58) _ rfl _ _ 16 Tryd.underlying108 info_str rfl Ar j cr ((rows.take j).map strV) rfl ?_ (hP4.rws.alloc _) (some ⟨w4.heap.size, 0, none⟩) 1 1 [strV row] rfl rfl (Rd.lit w4 #[strV row] _) ?_ ?_ ?_ ?_
               · rw [List.length_map, List.length_take, H16.out]; omega
               · intro u hu; simp at hu; subst hu; rfl
               · unfold maxLen; omega
               · omega
               intro A5 c5 w5 hown5 ho5
               obtain ⟨hP5, hbw5⟩ := (hP4.ext (ext_alloc (Below.refl _ _) _)).pushR (by rw [World.size_alloc]; have := hbw4.size; omega) hown5 ho5))
          have hfin5 := Hfin.out w5 A4 c4 A5 c5 _ hP5 ((hb3.trans hbw4).trans ((Below.refl _ _).alloc (by have := hbw4.size; omega) _ |>.trans hbw5)) rfl
          go_roundw
          case rel => exact hfin5
          case measure => simp [intOf]; omega
        · go_wp2_with (first
            | (at_builtin
               refine wpList_app _ rfl (.tmp 51) (.tmp 53) _ rfl _ _ 1 Tryd.underlying22 info_u8 rfl Aa (j * 51) ca ((borneR (rows.take j)).map bv) rfl ?_ hP3.all (some ⟨g2, 9, none⟩) 51 (d2 + 55) (((row.drop 9).take 51).map bv) rfl ?_ hsl (bvs_one _) ?_ ?_ ?_
               · rw [List.length_map, hblj.out]
               · rw [List.length_map, hbj.out]
               · unfold maxLen; omega
               · omega
               intro A4 c4 w4 hown4 ho4
               obtain ⟨hP4, hbw4⟩ := hP3.pushA hz3 hown4 ho4
               have cv := hcv.out w4 ho4)
            | (at_builtin
               refine wpList_app _ rfl (.tmp 55) (.tmp 58) _ rfl _ _ 16 Tryd.underlying108 info_str rfl Ar j cr ((rows.take j).map strV) rfl ?_ (hP4.rws.alloc _) (some ⟨w4.heap.size, 0, none⟩) 1 1 [strV row] rfl rfl (Rd.lit w4 #[strV row] _) ?_ ?_ ?_ ?_
               · rw [List.length_map, List.length_take, H16.out]; omega
               · intro u hu; simp at hu; subst hu; rfl
               · unfold maxLen; omega
               · omega
               intro A5 c5 w5 hown5 ho5
               obtain ⟨hP5, hbw5⟩ := (hP4.ext (ext_alloc (Below.refl _ _) _)).pushR (by rw [World.size_alloc]; have := hbw4.size; omega) hown5 ho5))
          have hfin5 := Hfin.out w5 A4 c4 A5 c5 _ hP5 ((hb3.trans hbw4).trans ((Below.refl _ _).alloc (by have := hbw4.size; omega) _ |>.trans hbw5)) rfl
          go_roundw
          case rel => exact hfin5
          case measure => simp [intOf]; omega
    · obtain rfl : j = 16 := by omega
      have ht16 : rows.take 16 = rows := List.take_of_length_le (by rw [H16.out]; omega)
      rw [ht16] at hP ⊢
      have Hb := Lib.hid hb
      have hnone := fun (h : unpackS rows = (0, [])) (w' : World) (hw' : Below w.heap.size w w') => rslotted_none (w := w) (w' := w') h hw'
      have Hnone := Lib.hid hnone
      have hzb := hb.size
      clear hnone ht16 hb
      have hml := mostR_le rows 0 (by omega)
      generalize hmr : mostR 0 rows = M at *
      have Hmr := Lib.hid hmr
      clear hmr
      have hnat : nAt 16 n0 = n0 := rfl
      rw [hnat]
      clear hnat
      cases hok : okT n0 rows
      · have hnn := Hnone.out (okT_bad H16.out (by rw [← Hn0.out]; exact hok)) wr Hb.out
        have Hnn := Lib.hid hnn
        clear hnn hok
        go_wp2
        go_ret3
        exact Hnn.out
      · have hpos : 0 < n0 := by rw [Hn0.out]; exact okT_head H16.out (by rw [← Hn0.out]; exact hok)
        have hb816 : (borneR rows).length = 816 := by rw [borneR_len _ H64.out, H16.out]
        obtain ⟨x, y, rest, hxy⟩ : ∃ x y rest, borneR rows = x :: y :: rest := by
          match hq : borneR rows, hb816 with
          | x :: y :: rest, _ => exact ⟨x, y, rest, rfl⟩
        have hsz : (sizeR rows : Int) = (x.toNat : Int) + 256 * (y.toNat : Int) := by
          unfold sizeR
          rw [hxy]
          simp [ofLow]
        have hx255 := x.toNat_lt
        have hy255 := y.toNat_lt
        have hcap := hP.all.cap
        rw [List.length_map, hb816] at hcap
        obtain ⟨g1, rfl⟩ : ∃ g1, Aa = some ⟨g1, 0, none⟩ := by
          rcases hP.all.some_ with ⟨_, _, h0⟩ | ⟨g1, h1, _, _⟩
          · rw [hxy] at h0; cases h0
          · exact ⟨g1, h1⟩
        have hrd := hP.all.rd
        have k0 : wr.cell? ⟨g1, 0, none⟩ = some (.int .u8 (x.toNat : Int)) := by
          obtain ⟨ad, e, hc⟩ := hrd 0 (bv x) (by rw [hxy]; rfl)
          injection e with e; subst e; exact hc
        have k1 : wr.cell? ⟨g1, 1, none⟩ = some (.int .u8 (y.toNat : Int)) := by
          obtain ⟨ad, e, hc⟩ := hrd 1 (bv y) (by rw [hxy]; rfl)
          injection e with e; subst e; exact hc
        have Hsz := Lib.hid hsz
        have Hb816 := Lib.hid hb816
        have hcapi : (816 : Int) ≤ (ca : Int) := by omega
        clear hok hxy hsz hrd hb816
        generalize x.toNat = xn at *
        generalize y.toNat = yn at *
        go_wp2
        go_region
        rw [← Hsz.out]
        obtain ⟨sz, hszd⟩ : ∃ sz, sz = sizeR rows := ⟨_, rfl⟩
        have hszi : (sz : Int) ≤ 65535 := by rw [hszd, Hsz.out]; omega
        rw [← hszd]
        have Hszd := Lib.hid hszd
        obtain ⟨wd, hwd⟩ : ∃ wd, wd = wr.drew := ⟨_, rfl⟩
        rw [← hwd]
        have hbd : Below wr.heap.size wr wd := by rw [hwd]; exact ext_drew (Below.refl _ _)
        have Hbd := Lib.hid hbd
        clear hwd k0 k1 hszd hbd Hsz hx255 hy255
        by_cases hbig : 814 < sz
        · have hbi : (814 : Int) < (sz : Int) := by omega
          have hnn := Hnone.out (unpack_big H16.out (by rw [← Hszd.out]; exact hbig)) wd (ext_trans Hb.out Hbd.out)
          have Hnn := Lib.hid hnn
          clear hnn
          go_wp2
          go_ret3
          exact Hnn.out
        · have hbi : (sz : Int) ≤ 814 := by omega
          have hil : (imgR rows).length = sz := by
            unfold imgR
            rw [if_pos (by rw [← Hszd.out]; omega), List.length_take, List.length_drop, Hb816.out, ← Hszd.out]
            omega
          have himg : imgR rows = ((borneR rows).drop 2).take sz := by
            unfold imgR
            rw [if_pos (by rw [← Hszd.out]; omega), ← Hszd.out]
          have hPd := hP.ext Hbd.out
          obtain ⟨c0, rfl⟩ : ∃ c0, ca = c0 + 816 := ⟨ca - 816, by omega⟩
          have hsl : Rd wd (some ⟨g1, 2, none⟩) ((imgR rows).map bv) := by
            rw [himg, List.map_take, List.map_drop]
            exact (rd_from 2 (by omega) hPd.all.rd (Below.refl _ _)).take sz
          have hnew : New wd (wd.alloc (.cells #[] 5)) (some ⟨wd.heap.size, 0, none⟩) 0 [] := Own.lit wd _ #[] 5 (by unfold maxLen; simp) ⟨Nat.le_refl _, by rw [World.size_alloc]; omega⟩
          have hba : Below wd.heap.size wd (wd.alloc (.cells #[] 5)) := ext_alloc (Below.refl _ _) _
          have Hnew := Lib.hid hnew
          have Hba := Lib.hid hba
          have Hil := Lib.hid hil
          have Hsl := Lib.hid (hsl.alloc (.cells #[] 5))
          have HP := Lib.hid hPd
          obtain ⟨img, himgd⟩ : ∃ img, img = imgR rows := ⟨_, rfl⟩
          have Himg := Lib.hid himgd
          rw [← himgd] at Hil Hsl
          have c816 : (2 : Int) + (sz : Int) ≤ (c0 : Int) + 816 := by omega
          clear hnew hba hil himg hsl hP hPd himgd hzb
          go_wp2_with (first
            | (at_builtin
               refine wpList_app _ rfl (.tmp 76) (.tmp 80) _ rfl _ _ 1 Tryd.underlying22 info_u8 rfl (some ⟨wd.heap.size, 0, none⟩) 0 0 (([] : List UInt8).map bv) rfl rfl Hnew.out (some ⟨g1, 2, none⟩) (2 + sz - 2) (c0 + 814) (img.map bv) rfl ?_ Hsl.out (bvs_one _) ?_ ?_ ?_
               · rw [List.length_map, Hil.out]; omega
               · unfold maxLen; omega
               · omega
               intro A4 c4 w4 hown4 ho4
               obtain ⟨hn4, hb4⟩ := New.grow Hba.out hown4 ho4))
          have h2s : 2 + sz - 2 = sz := by omega
          try rw [h2s]
          have hn4' : New wd w4 A4 c4 img := hn4
          have hbs4 : Bs w4 A4 sz c4 img := hn4'.bs' Hil.out.symm
          have hpk := rpack_any (n0 : Int) A4 sz c4 img w4 (by unfold isInt; omega) hbs4 (by rw [Hil.out]; omega)
          have hw16 : (packI (n0 : Int) img).length = 16 := by
            unfold packI
            rw [if_pos ⟨by omega, by omega, by rw [Hil.out]; omega⟩, packOf_length]
          rw [hw16] at hpk
          have Hpk := Lib.hid hpk
          have hwant := unpack_want rows
          rw [← Hn0.out, ← Himg.out] at hwant
          have Hw := Lib.hid hwant
          have h64w := Lib.hid (packI_64' (n := (n0 : Int)) (img := img))
          have HP4 := Lib.hid (HP.out.ext hb4)
          have hz4 := hn4'.2
          have hwd0 : w.heap.size ≤ wd.heap.size := (ext_trans Hb.out Hbd.out).size
          have hbw4 := ext_trans (ext_trans Hb.out Hbd.out) hb4
          have Hw16 := Lib.hid hw16
          clear hpk hwant hn4 hn4' Hnew Hba Hsl HP h2s hw16 hown4 ho4
          generalize packI (n0 : Int) img = want at *
          go_wp2_with fail
          refine Hpk.out.mono ?_
          rintro e w6 ⟨A6, c6, rfl, hc6, hr6, hb6⟩
          have hwF := hr6.weak (fp' := fun _ => False) (fun _ h => h.elim)
          have hP6 := HP4.out.ext hb6
          have hbs6 := hbs4.ext hb6
          have hbw6 := ext_trans hbw4 hb6
          have hz6 := hb6.size
          obtain ⟨g3, rfl⟩ : ∃ g3, Ar = some ⟨g3, 0, none⟩ := by
            rcases hP6.rws.some_ with ⟨_, _, h0⟩ | ⟨g3, h1, _, _⟩
            · have := congrArg List.length h0
              rw [List.length_map, H16.out] at this
              cases this
            · exact ⟨g3, h1⟩
          have hcap6 := hP6.rws.cap
          rw [List.length_map, H16.out] at hcap6
          have HwF := Lib.hid hwF
          have HrR := Lib.hid hP6.rws.rd
          have hfin : rows = want → RSlotted w rows (.returned (.tuple #[.int .i64 (n0 : Int), .slice A4 sz c4, .int .i64 (M : Int)])) w6 := fun e => by
            have hu := Hw.out.1 e
            refine ⟨A4, c4, by rw [hu, Hmr.out, Hil.out], by rw [hu]; exact hbs6.bs'' Hil.out, fun ad ea => ⟨by have := (hz4 ad ea).1; omega, by have := (hz4 ad ea).2; omega⟩, hbw6⟩
          have hnot : rows ≠ want → RSlotted w rows (.returned (.tuple #[.int .i64 0, .slice none 0 0, .int .i64 (M : Int)])) w6 := fun e => Hnone.out (Hw.out.2 e) w6 hbw6
          have Hfin := Lib.hid hfin
          have Hnot := Lib.hid hnot
          clear hfin hnot hP6 hbs6 hbs4 hr6 hwF HP4 Hpk hcap hcapi
          go_wp2
          go_loopw [19] (fun i wv => ∃ j : Nat, j ≤ 16 ∧ i = .int .i64 (j : Int) ∧ rows.take j = want.take j ∧ Below w6.heap.size w6 wv) (fun i _ => 16 - (intOf i).toNat)
          case atStart => exact ⟨0, by omega, rfl, rfl, Below.refl _ _⟩
          case round =>
            obtain ⟨j, hj, rfl, hpre, hbv⟩ := hrel
            by_cases hlt : j < 16
            · have hji : (j : Int) < 16 := by omega
              have hjr : j < rows.length := by rw [H16.out]; exact hlt
              have hjw : j < want.length := by rw [Hw16.out]; exact hlt
              obtain ⟨ad, B, cB, rfl, hcell, hlc, hrd⟩ := (HwF.out.ext hbv).at_ hjw
              have hl64 := h64w.out _ (List.getElem_mem hjw)
              rw [hl64] at hcell
              have hv : wr.cell? ⟨g3, j, none⟩ = some (.string ⟨rows[j].toArray⟩) := by
                obtain ⟨ad', e, hc⟩ := (HrR.out.ext hbv) j (strV rows[j]) (by rw [List.getElem?_map, List.getElem?_eq_getElem hjr]; rfl)
                injection e with e; subst e
                rw [Addr.add_mid, Nat.zero_add] at hc
                exact hc
              have cv1 := conv_bytes wr.drew B 64 cB want[j] hl64.symm hrd.1.drew
              have hstep : rows[j] = want[j] → rows.take (j + 1) = want.take (j + 1) := fun he => by
                rw [List.take_succ_eq_append_getElem hjr, List.take_succ_eq_append_getElem hjw, hpre, he]
              have hdiff : rows[j] ≠ want[j] → rows ≠ want := fun hne he => hne (by subst he; rfl)
              have Hstep := Lib.hid hstep
              have Hdiff := Lib.hid hdiff
              have Hpre := Lib.hid hpre
              clear hstep hdiff hl64 hrd hlc hpre
              generalize hx : rows[j]'hjr = xr at *
              clear hx
              generalize hx : want[j]'hjw = xw at *
              clear hx
              by_cases he : xr = xw
              · have hst := Lib.hid (Hstep.out he)
                subst he
                generalize (⟨xr.toArray⟩ : ByteArray) = Z at *
                clear Hstep Hdiff
                go_wp2
                go_region
                go_wp2
                go_roundw
                case rel => exact ⟨j + 1, by omega, by go_num, hst.out, ext_drew hbv⟩
                case measure => simp [intOf]; omega
              · have hne1 : (xw == xr) = false := beq_eq_false_iff_ne.2 (Ne.symm he)
                have hne2 := ne_list2 (Ne.symm he)
                have hend := Lib.hid ((Hnot.out (Hdiff.out he)).ext (ext_drew hbv))
                clear Hstep Hdiff he
                go_wp2
                go_region
                go_wp2
                go_ret3
                exact hend.out
            · obtain rfl : j = 16 := by omega
              rw [List.take_of_length_le (by rw [H16.out]; omega), List.take_of_length_le (by rw [Hw16.out]; omega)] at hpre
              have hend := Lib.hid ((Hfin.out hpre).ext hbv)
              clear hpre
              go_wp2
              go_ret3
              exact hend.out

theorem rslot_any {w : World} {fp : Nat → Prop} {gx : Nat} {S : Sec} {l : Int} (h : Ref w fp gx S l) (hs : Small 1000000 S) (k : Nat) (hk : k ≤ 1) (hS : k * 16 + 16 ≤ S.length) :
    Calls Tryd.prog 62 #[.pointer (some ⟨gx, 0, none⟩), .int .i64 (k : Int)] w (RSlotted w (slotRows S k)) := by
  obtain ⟨A, c, B, C, h⟩ := h
  refine rslot_walk k hk (slotRows S k) (slotRows_length S k) (slotRows_64 h.wf hS) (fun wr j hj hb => ?_)
  have hj16 : j < 16 := by rw [slotRows_length] at hj; exact hj
  have hlt : k * 16 + j < S.length := by omega
  have hr := rread_cap (h.ext hb) hs (k * 16 + j) hlt
  have e1 : ((k * 16 + j : Nat) : Int) = (k : Int) * 16 + (j : Int) := by omega
  have e2 : (slotRows S k)[j] = lastOf S[k * 16 + j] := by
    simp only [slotRows, List.getElem_map, List.getElem_range]
    rw [List.getD_eq_getElem?_getD, List.getElem?_eq_getElem hlt]; rfl
  rw [e1] at hr
  generalize (slotRows S k)[j] = r at e2 ⊢
  subst e2
  exact hr
end Go.Proofs.YtlpjeopeboemmaaDoor

/-
  The contract of the reference's Open, from that of its slot. No statement of the seat is proved here.
-/
namespace Go.Proofs.YtlpjeopeboemmaaDoor
open Go Go.RowKit

/-- what the reference's Open answers -/
def ROpened (w : World) (fp : Nat → Prop) (gx : Nat) (S : Sec) (l : Int) (e : Ending) (w' : World) : Prop :=
  Below w.heap.size w w' ∧ (((tellK S 2).1 = 0 ∧ e = .returned (.tuple #[.pointer none, .int .i64 2])) ∨
    (0 < (tellK S 2).1 ∧ ∃ g, e = .returned (.tuple #[.pointer (some ⟨g, 0, none⟩), .int .i64 0]) ∧ w.heap.size ≤ g ∧ RSup w' (More fp w w') g gx ⟨S, l, (tellK S 2).2.1, mostK S 2, (tellK S 2).2.2, false⟩))
theorem mostR_max (rows : List (List UInt8)) : ∀ m, mostR m rows = max m (mostR 0 rows) := by
  unfold mostR
  induction rows with
  | nil => intro m; simp
  | cons r rs ih =>
    intro m
    rw [List.foldl_cons, List.foldl_cons, ih (max m (numOf r)), ih (max 0 (numOf r))]
    omega
theorem most_two (S : Sec) : mostK S 2 = max (mostR 0 (slotRows S 0)) (mostR 0 (slotRows S 1)) := by
  show mostR (mostR 0 (slotRows S 0)) (slotRows S 1) = _
  exact mostR_max _ _
theorem tell_one (S : Sec) : tellK S 1 = ((unpackS (slotRows S 0)).1, (unpackS (slotRows S 0)).2, 0) := by
  show (if 0 < (unpackS (slotRows S 0)).1 then ((unpackS (slotRows S 0)).1, (unpackS (slotRows S 0)).2, 0) else (0, [], 0)) = _
  by_cases h : 0 < (unpackS (slotRows S 0)).1
  · rw [if_pos h]
  · rw [if_neg h, unpack_zero (slotRows_length S 0) (by omega)]
theorem tell_two (S : Sec) : tellK S 2 = if (unpackS (slotRows S 0)).1 < (unpackS (slotRows S 1)).1 then ((unpackS (slotRows S 1)).1, (unpackS (slotRows S 1)).2, 1) else ((unpackS (slotRows S 0)).1, (unpackS (slotRows S 0)).2, 0) := by
  show (if (tellK S 1).1 < (unpackS (slotRows S 1)).1 then ((unpackS (slotRows S 1)).1, (unpackS (slotRows S 1)).2, 1) else tellK S 1) = _
  rw [tell_one]

/-- a new Super of the reference's, in new memory -/
theorem rsup_new {w wd w' : World} {fp : Nat → Prop} {gx : Nat} {S : Sec} {l : Int} {img : List UInt8} {N slot : Nat} {A : Option Addr} {c g : Nat} (h : Ref w fp gx S l) (hb : Below w.heap.size w w') (hg : w.heap.size ≤ g)
    (hblk : Blk w' g 40 #[.pointer (some ⟨gx, 0, none⟩), .slice A img.length c, .int .i64 (N : Int), .int .i64 (slot : Int), .bool false]) (hB : Bs w' A img.length c img)
    (hA : ∀ ad, A = some ad → w.heap.size ≤ ad.block ∧ ad.block ≠ g ∧ ad.block < w'.heap.size) (hN : N ≤ 1125899906842624) (hs : slot ≤ 1) (hi : img.length ≤ 814) : RSup w' (More fp w w') g gx ⟨S, l, img, N, slot, false⟩ :=
  ⟨fun k => fp k ∧ k < w.heap.size, A, c, {
    imp := (h.mono (fun k hk hl => ⟨hk, hl⟩)).ext hb
    sub := fun k hk => .inl hk.1
    fg := .inr ⟨hg, hblk.lt⟩
    ng := fun hk => by have := hk.2; omega
    blk := hblk
    bs := hB
    fA := fun ad e => ⟨.inr ⟨(hA ad e).1, (hA ad e).2.2⟩, (fun hk => by have := hk.2; have := (hA ad e).1; omega), (hA ad e).2⟩
    hN := hN
    hs := hs
    hi := hi }⟩

set_option maxRecDepth 100000 in
set_option maxHeartbeats 2000000 in
theorem ropen_any {w : World} {fp : Nat → Prop} {gx : Nat} {S : Sec} {l : Int} (h : Ref w fp gx S l) (hs : Small 1000000 S) (h32 : 32 ≤ S.length) :
    Calls Tryd.prog 29 #[.pointer (some ⟨gx, 0, none⟩)] w (ROpened w fp gx S l) := by
  have hsml := rsmall_any h
  rw [show decide ((S.length : Int) < 32) = false from decide_eq_false (by omega)] at hsml
  have Hsml := Lib.hid hsml
  have H0 := Lib.hid (rslot_any h hs 0 (by omega) (by omega))
  have H1 := Lib.hid (fun w1 (hb : Below w.heap.size w w1) => rslot_any (h.ext hb) hs 1 (by omega) (by omega))
  have hU0 := unpackS_le (slotRows S 0)
  have hU1 := unpackS_le (slotRows S 1)
  have hm0 := mostR_le (slotRows S 0) 0 (by omega)
  have hm1 := mostR_le (slotRows S 1) 0 (by omega)
  have hnone : ∀ w', Below w.heap.size w w' → (unpackS (slotRows S 0)).1 = 0 → (unpackS (slotRows S 1)).1 = 0 → ROpened w fp gx S l (.returned (.tuple #[.pointer none, .int .i64 2])) w' := fun w' hb e0 e1 => by
    refine ⟨hb, .inl ⟨?_, rfl⟩⟩
    rw [tell_two, if_neg (by omega)]
    exact e0
  have hfirst : ∀ w' g A c, Below w.heap.size w w' → w.heap.size ≤ g → Blk w' g 40 #[.pointer (some ⟨gx, 0, none⟩), .slice A (unpackS (slotRows S 0)).2.length c, .int .i64 ((max (mostR 0 (slotRows S 0)) (mostR 0 (slotRows S 1)) : Nat) : Int), .int .i64 0, .bool false] → Bs w' A (unpackS (slotRows S 0)).2.length c (unpackS (slotRows S 0)).2 →
      (∀ ad, A = some ad → w.heap.size ≤ ad.block ∧ ad.block ≠ g ∧ ad.block < w'.heap.size) → 0 < (unpackS (slotRows S 0)).1 → ¬ (unpackS (slotRows S 0)).1 < (unpackS (slotRows S 1)).1 →
      ROpened w fp gx S l (.returned (.tuple #[.pointer (some ⟨g, 0, none⟩), .int .i64 0])) w' := fun w' g A c hb hg hblk hB hA hp hn => by
    have et : tellK S 2 = ((unpackS (slotRows S 0)).1, (unpackS (slotRows S 0)).2, 0) := by rw [tell_two, if_neg hn]
    refine ⟨hb, .inr ⟨by rw [et]; exact hp, g, rfl, hg, ?_⟩⟩
    rw [et, most_two]
    exact rsup_new (wd := w) h hb hg hblk hB hA (by omega) (Nat.zero_le _) hU0.2
  have hsecond : ∀ w' g A c, Below w.heap.size w w' → w.heap.size ≤ g → Blk w' g 40 #[.pointer (some ⟨gx, 0, none⟩), .slice A (unpackS (slotRows S 1)).2.length c, .int .i64 ((max (mostR 0 (slotRows S 0)) (mostR 0 (slotRows S 1)) : Nat) : Int), .int .i64 1, .bool false] → Bs w' A (unpackS (slotRows S 1)).2.length c (unpackS (slotRows S 1)).2 →
      (∀ ad, A = some ad → w.heap.size ≤ ad.block ∧ ad.block ≠ g ∧ ad.block < w'.heap.size) → (unpackS (slotRows S 0)).1 < (unpackS (slotRows S 1)).1 →
      ROpened w fp gx S l (.returned (.tuple #[.pointer (some ⟨g, 0, none⟩), .int .i64 0])) w' := fun w' g A c hb hg hblk hB hA hp => by
    have et : tellK S 2 = ((unpackS (slotRows S 1)).1, (unpackS (slotRows S 1)).2, 1) := by rw [tell_two, if_pos hp]
    refine ⟨hb, .inr ⟨by rw [et]; show 0 < (unpackS (slotRows S 1)).1; omega, g, rfl, hg, ?_⟩⟩
    rw [et, most_two]
    exact rsup_new (wd := w) h hb hg hblk hB hA (by omega) (Nat.le_refl 1) hU1.2
  have Hnone := Lib.hid hnone
  have Hfirst := Lib.hid hfirst
  have Hsecond := Lib.hid hsecond
  unfold RSlotted at H0 H1
  rw [show ((0 : Nat) : Int) = 0 from rfl] at H0
  rw [show ((1 : Nat) : Int) = 1 from rfl] at H1
  clear hsml hnone hfirst hsecond h hs
  generalize unpackS (slotRows S 0) = U0 at *
  generalize unpackS (slotRows S 1) = U1 at *
  generalize mostR 0 (slotRows S 0) = p at *
  generalize mostR 0 (slotRows S 1) = q at *
  obtain ⟨M, hM⟩ : ∃ M : Nat, (if p < q then (q : Int) else (p : Int)) = (M : Int) := ⟨max p q, max_form p q⟩
  have hMm : max p q = M := by have := max_form p q; omega
  rw [hMm] at Hfirst Hsecond
  obtain ⟨n0, i0⟩ := U0
  obtain ⟨n1, i1⟩ := U1
  dsimp only at *
  clear hMm
  go_enter Tryd.func29, Tryd.ntmps29
  go_wp2_with fail
  refine Hsml.out.mono ?_
  rintro e w0 ⟨rfl, rfl⟩
  go_wp2_with fail
  refine H0.out.mono ?_
  rintro e w1 ⟨A0, c0, rfl, hB0, hA0, hb1⟩
  go_wp2_with fail
  refine (H1.out w1 hb1).mono ?_
  rintro e w2 ⟨A1, c1, rfl, hB1, hA1, hb2⟩
  have hb := ext_trans hb1 hb2
  have hB0' := hB0.ext hb2
  have z1 := hb1.size
  have z2 := hb2.size
  have hfin0 : 0 < n0 → ¬ n0 < n1 → ROpened w fp gx S l (.returned (.tuple #[.pointer (some ⟨w2.heap.size, 0, none⟩), .int .i64 0])) (w2.alloc (.cells #[.pointer (some ⟨gx, 0, none⟩), .slice A0 i0.length c0, .int .i64 (M : Int), .int .i64 0, .bool false] 40)) := fun h1 h2 =>
    Hfirst.out _ _ A0 c0 (ext_alloc hb _) (by omega) (Blk.new w2 _ _) (hB0'.alloc _) (fun ad e => by have := hA0 ad e; rw [World.size_alloc]; exact ⟨by omega, by omega, by omega⟩) h1 h2
  have hfin1 : n0 < n1 → ROpened w fp gx S l (.returned (.tuple #[.pointer (some ⟨w2.heap.size, 0, none⟩), .int .i64 0])) (w2.alloc (.cells #[.pointer (some ⟨gx, 0, none⟩), .slice A1 i1.length c1, .int .i64 (M : Int), .int .i64 1, .bool false] 40)) := fun h1 =>
    Hsecond.out _ _ A1 c1 (ext_alloc hb _) (by omega) (Blk.new w2 _ _) (hB1.alloc _) (fun ad e => by have := hA1 ad e; rw [World.size_alloc]; exact ⟨by omega, by omega, by omega⟩) h1
  have Hfin0 := Lib.hid hfin0
  have Hfin1 := Lib.hid hfin1
  have Hnn := Lib.hid (Hnone.out w2 hb)
  obtain ⟨b0, e0, e0'⟩ : ∃ b0 : Bool, ((n0 : Int) == 0) = b0 ∧ (n0 == 0) = b0 := ⟨_, by
    by_cases e : n0 = 0
    · subst e; rfl
    · rw [beq_eq_false_iff_ne.2 e, beq_eq_false_iff_ne.2 (by omega)], rfl⟩
  obtain ⟨b1, e1, e1'⟩ : ∃ b1 : Bool, ((n1 : Int) == 0) = b1 ∧ (n1 == 0) = b1 := ⟨_, by
    by_cases e : n1 = 0
    · subst e; rfl
    · rw [beq_eq_false_iff_ne.2 e, beq_eq_false_iff_ne.2 (by omega)], rfl⟩
  clear hfin0 hfin1 hB0 hB0' hB1 hA0 hA1 hb1 hb2 hb
  by_cases hz : b0 = true ∧ b1 = true
  · obtain ⟨rfl, rfl⟩ := hz
    have hend := Lib.hid (Hnn.out (eq_of_beq e0') (eq_of_beq e1'))
    go_wp2
    go_ret2
    exact hend.out
  · have hpos : n0 < n1 ∨ (0 < n0 ∧ ¬ n0 < n1) := by
      by_cases e : n0 = 0
      · by_cases e' : n1 = 0
        · exact absurd ⟨by rw [← e0', e]; rfl, by rw [← e1', e']; rfl⟩ hz
        · omega
      · omega
    rcases hpos with hlt | ⟨hp, hnl⟩
    · have hend := Lib.hid (Hfin1.out hlt)
      have hli : (n0 : Int) < (n1 : Int) := by omega
      cases b0 <;> cases b1
      all_goals first | (exact absurd ⟨rfl, rfl⟩ hz) | skip
      all_goals
        clear hz
        go_wp2
        go_ret2
        exact hend.out
    · have hend := Lib.hid (Hfin0.out hp hnl)
      have hli : ¬ (n0 : Int) < (n1 : Int) := by omega
      cases b0 <;> cases b1
      all_goals first | (exact absurd ⟨rfl, rfl⟩ hz) | skip
      all_goals
        clear hz
        go_wp2
        go_ret2
        exact hend.out
end Go.Proofs.YtlpjeopeboemmaaDoor

/-
  The contract of the reference's Commit. No statement of the seat is proved here.
-/
namespace Go.Proofs.YtlpjeopeboemmaaDoor
open Go Go.RowKit

/-- append, as a step of a region that draws its order -/
theorem step_app {P : Program} {w : World} {fp : Nat → Prop} {ops : Array Oper} {o : Oper} {a : Act} {K : Act → World → Prop} {Q : Exit → Act → World → Prop} {E : Prop} (hgd : o.guard = none) (s x : Operand) (t : TypeId)
    (ho : o.op = .call { callee := .builtin .append, args := #[s, x], argTypes := #[t, t] })
    (e : TypeId) (z : Value) (bytes : Nat) (ht : P.underlying t = some (.slice e)) (hi : (P.info? e).map (fun i => (i.zero, i.size, i.bytes)) = some (some z, 1, bytes)) (hzs : z.cells.size = 1)
    (A : Option Addr) (n c : Nat) (xs : List Value) (hs : a.eval s = .slice A n c) (hn : n = xs.length) (hown : Own w fp e A c xs)
    (A2 : Option Addr) (m c2 : Nat) (news : List Value) (hx : a.eval x = .slice A2 m c2) (hm : m = news.length) (hr : Rd w A2 news) (h1 : ∀ u ∈ news, u.oneCell' = true)
    (h63 : n + m ≤ maxLen) (hbytes : (n + m) * bytes ≤ 140737488355328)
    (h : ∀ A' c' w', Own w' (More fp w w') e A' c' (xs ++ news) → Only fp w w' → K (a.put o.dst (.slice A' (n + m) c')) w') :
    if Region.wanted o (yielded ops a.tmps) = true then Oper.wp P o a w K Q else E := by
  have hw : Region.wanted o (yielded ops a.tmps) = true := by simp [Region.wanted, hgd]
  rw [if_pos hw]
  exact wp_app w s x t ho e z bytes ht hi hzs A n c xs hs hn hown A2 m c2 news hx hm hr h1 h63 hbytes h

/-- what the reference's Commit leaves -/
def RCommitted (w : World) (fp : Nat → Prop) (g gx : Nat) (s : SupS) (bs : List UInt8) (e : Ending) (w' : World) : Prop :=
  e = .returned (.int .i64 (commitS s bs).1) ∧ RSup w' (More fp w w') g gx (commitS s bs).2 ∧ Only fp w w'

set_option maxHeartbeats 1000000 in
theorem rcommit_still {w : World} {fp : Nat → Prop} {g gx : Nat} {s : SupS} (h : RSup w fp g gx s) (B : Option Addr) (m d : Nat) (bs : List UInt8) (hm : m = bs.length) (hbl : bs.length ≤ maxLen) (hc : s.dead = true ∨ 814 < bs.length ∨ s.N = 1125899906842624) :
    Calls Tryd.prog 33 #[.pointer (some ⟨g, 0, none⟩), .slice B m d] w (RCommitted w fp g gx s bs) := by
  subst hm
  have hpost : ∀ c, c = (if s.dead = true then (6 : Int) else 3) → RCommitted w fp g gx s bs (.returned (.int .i64 c)) w := by
    rintro c rfl
    have e : commitS s bs = (if s.dead = true then (6 : Int) else 3, s) := by
      unfold commitS
      by_cases hd : s.dead = true
      · rw [if_pos hd, if_pos hd]
      · rw [if_neg hd, if_neg hd, if_pos (by rcases hc with hc | hc; exact absurd hc hd; exact hc)]
    refine ⟨by rw [e], ?_, Only.refl _ _⟩
    rw [e]
    exact RSup.mono h (fun k hk _ => .inl hk)
  have Hpost := Lib.hid hpost
  obtain ⟨fI, A, c, h⟩ := h
  have q4 := h.blk.cell 4
  have q2 := h.blk.cell 2
  simp only [List.getElem?_toArray, List.getElem?_cons_zero, List.getElem?_cons_succ] at q4 q2
  have hN := h.hN
  clear hpost h
  obtain ⟨S, l, img, N, slot, dead⟩ := s
  dsimp only at *
  have hbi : (bs.length : Int) ≤ 9223372036854775807 := by unfold maxLen at hbl; omega
  clear hbl
  cases dead with
  | true =>
    have Hp := Lib.hid (Hpost.out 6 rfl)
    clear Hpost hN hc q2
    go_enter Tryd.func33, Tryd.ntmps33
    go_wp2
    go_ret
    exact Hp.out
  | false =>
    have Hp := Lib.hid (Hpost.out 3 rfl)
    clear Hpost
    by_cases hl : 814 < bs.length
    · have hli : (814 : Int) < (bs.length : Int) := by omega
      have hdl : decide ((814 : Int) < (bs.length : Int)) = true := decide_eq_true hli
      clear hN hc
      go_enter Tryd.func33, Tryd.ntmps33
      go_wp2
      go_ret
      exact Hp.out
    · have hli : (bs.length : Int) ≤ 814 := by omega
      have hNe : N = 1125899906842624 := by
        rcases hc with hc | hc | hc
        · cases hc
        · omega
        · exact hc
      subst hNe
      have hdn : decide ((814 : Int) < (bs.length : Int)) = false := decide_eq_false (by omega)
      clear hN hc
      go_enter Tryd.func33, Tryd.ntmps33
      go_wp2
      go_ret
      exact Hp.out
end Go.Proofs.YtlpjeopeboemmaaDoor

/-
  The contract of the reference's Commit that goes. No statement of the seat is proved here.
-/
namespace Go.Proofs.YtlpjeopeboemmaaDoor
open Go Go.RowKit

set_option maxRecDepth 100000 in
set_option maxHeartbeats 4000000 in
theorem rcommit_go {w : World} {fp : Nat → Prop} {g gx : Nat} {s : SupS} (h : RSup w fp g gx s) (hs : Small 900000 s.S) (B : Option Addr) (m d : Nat) (bs : List UInt8) (hB : Bs w B m d bs) (hBf : ∀ ad, B = some ad → bs ≠ [] → ¬ fp ad.block) (hd : s.dead = false) (hbl : bs.length ≤ 814) (hN : s.N ≠ 1125899906842624) :
    Calls Tryd.prog 33 #[.pointer (some ⟨g, 0, none⟩), .slice B m d] w (RCommitted w fp g gx s bs) := by
  have hm := hB.1
  subst hm
  obtain ⟨fI, A, c, h⟩ := h
  obtain ⟨S, l, img, N, slot, dead⟩ := s
  dsimp only at *
  subst hd
  have q0 := h.blk.cell 0
  have q2 := h.blk.cell 2
  have q3 := h.blk.cell 3
  have q4 := h.blk.cell 4
  simp only [List.getElem?_toArray, List.getElem?_cons_zero, List.getElem?_cons_succ] at q0 q2 q3 q4
  have hli : (bs.length : Int) ≤ 814 := by omega
  have hdn : decide ((814 : Int) < (bs.length : Int)) = false := decide_eq_false (by omega)
  have hNle : N ≤ 1125899906842624 := h.hN
  have hNi : (N : Int) < 1125899906842624 := by omega
  have hdN : decide ((1125899906842624 : Int) ≤ (N : Int)) = false := decide_eq_false (by omega)
  have hsl : slot ≤ 1 := h.hs
  have hws : IntKind.i64.wrap (1 - (slot : Int)) = 1 - (slot : Int) := by rw [IntKind.wrap_i64]; omega
  have hwn : IntKind.i64.wrap ((N : Int) + 1) = (N : Int) + 1 := by rw [IntKind.wrap_i64]; omega
  have hrs16 : (packI ((N : Int) + 1) bs).length = 16 := by
    unfold packI
    rw [if_pos ⟨by omega, by omega, by omega⟩, packOf_length]
  have hcs : ∀ R, layTo S l (((1 - slot : Nat) : Int) * 16) (packI ((N : Int) + 1) bs) = R → commitS ⟨S, l, img, N, slot, false⟩ bs = if R.1 = 0 then (0, ⟨R.2.1, R.2.2, bs, N + 1, 1 - slot, false⟩) else (R.1, ⟨R.2.1, R.2.2, img, N, slot, true⟩) := by
    rintro R rfl
    unfold commitS
    rw [if_neg (by simp), if_neg (by intro h; rcases h with h | h; omega; exact hN h)]
  obtain ⟨fI', hfI⟩ : ∃ f : Nat → Prop, f = fun k => fI k ∧ k < w.heap.size := ⟨_, rfl⟩
  have hI' : Ref w fI' gx S l := by rw [hfI]; exact h.imp.mono (fun k hk hl => ⟨hk, hl⟩)
  have hfl : ∀ k, fI' k → fI k ∧ k < w.heap.size := by rw [hfI]; exact fun k hk => hk
  clear hfI
  have hpk : ∀ W, Below w.heap.size w W → Calls Tryd.prog 24 #[.int .i64 ((N : Int) + 1), .slice B bs.length d] W fun e w' => ∃ A' c', e = .returned (.slice A' 16 c') ∧ RowsF (fun k => k < W.heap.size) w' A' (packI ((N : Int) + 1) bs) ∧ Below W.heap.size W w' := fun W hW => by
    refine (rpack_any ((N : Int) + 1) B bs.length d bs W (by unfold isInt; omega) (hB.ext hW) (by omega)).mono ?_
    rintro e w' ⟨A', c', rfl, -, h2, h3⟩
    rw [hrs16]
    exact ⟨A', c', rfl, h2, h3⟩
  have e1 : ((1 - slot : Nat) : Int) = 1 - (slot : Int) := by omega
  have hwrs : ∀ (w2 : World) (A2 : Option Addr) (c2 : Nat), Below w.heap.size w w2 → RowsF (fun k => k < w.heap.size) w2 A2 (packI ((N : Int) + 1) bs) → Calls Tryd.prog 64 #[.pointer (some ⟨gx, 0, none⟩), .int .i64 (1 - (slot : Int)), .slice A2 16 c2] w2 fun e w3 =>
      ∃ R, layTo S l (((1 - slot : Nat) : Int) * 16) (packI ((N : Int) + 1) bs) = R ∧ e = .returned (.int .i64 R.1) ∧ Ref w3 (More fI' w2 w3) gx R.2.1 R.2.2 ∧ Only fI' w2 w3 := fun w2 A2 c2 hb2 hr2 => by
    have h1 := rlay_full (hI'.ext hb2) hs (1 - slot) (by omega) A2 c2 _ hrs16 (hr2.weak (fun k hk => (hfl k hk).2))
    rw [e1] at h1 ⊢
    refine h1.mono ?_
    rintro e w3 ⟨rfl, h2, h3⟩
    exact ⟨_, rfl, rfl, h2, h3⟩
  have Hpk := Lib.hid hpk
  have Hwrs := Lib.hid hwrs
  have Hcs := Lib.hid hcs
  clear hpk hwrs hcs hrs16
  generalize packI ((N : Int) + 1) bs = rs at *
  go_enter Tryd.func33, Tryd.ntmps33
  go_wp2
  go_region_held3 (fun w' => w'.cell? ⟨g, 0, none⟩ = some (.pointer (some ⟨gx, 0, none⟩)) ∧ w'.cell? ⟨g, 2, none⟩ = some (.int .i64 (N : Int)) ∧ w'.cell? ⟨g, 3, none⟩ = some (.int .i64 (slot : Int))) (first | exact ⟨q0, q2, q3⟩ | exact hS1 | exact hS2) (first
    | (go_at_call 24; ((with_reducible refine (Hpk.out _ ?_).mono ?_)); exact ext_drew (Below.refl _ _); rintro e w1 ⟨A1, c1, rfl, hr1, hb1⟩; have hS1 : w1.cell? ⟨g, 0, none⟩ = some (.pointer (some ⟨gx, 0, none⟩)) ∧ w1.cell? ⟨g, 2, none⟩ = some (.int .i64 (N : Int)) ∧ w1.cell? ⟨g, 3, none⟩ = some (.int .i64 (slot : Int)) := ⟨cell_ext (w := w.drew) q0 hb1, cell_ext (w := w.drew) q2 hb1, cell_ext (w := w.drew) q3 hb1⟩)
    | (go_at_call 64; ((with_reducible refine (Hwrs.out _ _ _ ?_ ?_).mono ?_)); exact ext_trans (ext_drew (Below.refl _ _)) hb1; exact hr1; rintro e w3 ⟨R, hR, rfl, hI3, ho3⟩;
        have hS2 : w3.cell? ⟨g, 0, none⟩ = some (.pointer (some ⟨gx, 0, none⟩)) ∧ w3.cell? ⟨g, 2, none⟩ = some (.int .i64 (N : Int)) ∧ w3.cell? ⟨g, 3, none⟩ = some (.int .i64 (slot : Int)) := by
          have hk : ∀ i v, w1.cell? ⟨g, i, none⟩ = some v → w3.cell? ⟨g, i, none⟩ = some v := fun i v hv => (World.cell?_of_block (a := ⟨g, i, none⟩) (ho3.block g (World.block_lt_of_cell? _ _ hv) (fun hk => h.ng (hfl _ hk).1))).trans hv
          exact ⟨hk _ _ hS1.1, hk _ _ hS1.2.1, hk _ _ hS1.2.2⟩))
  obtain ⟨r1, S2, l2⟩ := R
  have hs1 : w.heap.size ≤ w1.heap.size := hb1.size
  have hs3 := ho3.size
  have hgl := h.blk.lt
  have hng : ¬ fI' g := fun hk => h.ng (hfl _ hk).1
  have hb1w : Below w.heap.size w w1 := ext_trans (ext_drew (Below.refl _ _)) hb1
  have hblk3 : Blk w3 g 40 #[.pointer (some ⟨gx, 0, none⟩), .slice A img.length c, .int .i64 (N : Int), .int .i64 (slot : Int), .bool false] := (h.blk.ext hb1w).only ho3 hng
  have hO3 : Only fp w w3 := (Only.of_ext (S := fp) hb1w).trans ho3 (fun k _ hk => h.sub k (hfl k hk).1)
  have hng3 : ¬ More fI' w1 w3 g := fun hk => by
    rcases hk with hk | hk
    · exact hng hk
    · have := hk.1; omega
  have hsub : ∀ (W : World), w3.heap.size ≤ W.heap.size → ∀ k, More fI' w1 w3 k → More fp w W k := fun W hW k hk => by
    rcases hk with hk | hk
    · exact .inl (h.sub k (hfl k hk).1)
    · exact .inr ⟨by omega, by omega⟩
  have hB3 : Bs w3 B bs.length d bs := ⟨rfl, hB.2.1, (hB.2.2.ext hb1w).only ho3 (fun ad e hne hk => hBf ad e (fun hn => hne (by rw [hn]; rfl)) (h.sub _ (hfl _ hk).1))⟩
  have hc := Hcs.out _ hR
  dsimp only at hc
  have k0 := hblk3.cell 0
  have k1 := hblk3.cell 1
  have k2 := hblk3.cell 2
  have k3 := hblk3.cell 3
  have k4 := hblk3.cell 4
  simp only [List.getElem?_toArray, List.getElem?_cons_zero, List.getElem?_cons_succ] at k0 k1 k2 k3 k4
  by_cases h0 : r1 = 0
  · subst h0
    rw [if_pos rfl] at hc
    -- what the last statement leaves
    have hfin : ∀ (w5 : World) (A5 : Option Addr) (c5 : Nat), New w3 w5 A5 c5 bs → Below w3.heap.size w3 w5 →
        RCommitted w fp g gx ⟨S, l, img, N, slot, false⟩ bs (.returned (.int .i64 0)) (((w5.setCell ⟨g, 3, none⟩ (.int .i64 (1 - (slot : Int)))).setCell ⟨g, 2, none⟩ (.int .i64 ((N : Int) + 1))).setCell ⟨g, 1, none⟩ (.slice A5 bs.length c5)) := fun w5 A5 c5 hn5 hb5 => by
      have hsz : (((w5.setCell ⟨g, 3, none⟩ (.int .i64 (1 - (slot : Int)))).setCell ⟨g, 2, none⟩ (.int .i64 ((N : Int) + 1))).setCell ⟨g, 1, none⟩ (.slice A5 bs.length c5)).heap.size = w5.heap.size := by simp [World.setCell]
      have hog : Only (fun k => k = g) w5 (((w5.setCell ⟨g, 3, none⟩ (.int .i64 (1 - (slot : Int)))).setCell ⟨g, 2, none⟩ (.int .i64 ((N : Int) + 1))).setCell ⟨g, 1, none⟩ (.slice A5 bs.length c5)) :=
        (((Only.refl (fun k => k = g) w5).setCell (p := ⟨g, 3, none⟩) (.inl rfl) _).setCell (p := ⟨g, 2, none⟩) (.inl rfl) _).setCell (p := ⟨g, 1, none⟩) (.inl rfl) _
      have hput := (((hblk3.ext hb5).put 3 (.int .i64 (1 - (slot : Int)))).put 2 (.int .i64 ((N : Int) + 1))).put 1 (.slice A5 bs.length c5)
      have hO5 : Only fp w w5 := hO3.trans (Only.of_ext (S := fp) hb5) (fun _ _ hk => hk)
      have hz5 := hb5.size
      refine ⟨by rw [hc], ?_, hO5.trans hog (fun k _ hk => by rw [hk]; exact h.fg)⟩
      rw [hc]
      refine ⟨More fI' w1 w3, A5, c5, ?_⟩
      exact {
        imp := (hI3.ext hb5).only hog (fun k hk e => hng3 (e ▸ hk))
        sub := hsub _ (by rw [hsz]; exact hz5)
        fg := .inl h.fg
        ng := hng3
        blk := by
          have e3 : (((1 - slot : Nat) : Nat) : Int) = 1 - (slot : Int) := by omega
          have e4 : ((N + 1 : Nat) : Int) = (N : Int) + 1 := by omega
          show Blk _ g 40 #[.pointer (some ⟨gx, 0, none⟩), .slice A5 bs.length c5, .int .i64 ((N + 1 : Nat) : Int), .int .i64 ((1 - slot : Nat) : Int), .bool false]
          rw [e3, e4]
          exact hput
        bs := ⟨rfl, hn5.bs.2.1, hn5.rd.only hog (fun ad e _ hk => by have := (hn5.2 ad e).1; omega)⟩
        fA := fun ad e => by
          have h1 := hn5.2 ad e
          refine ⟨.inr ⟨by omega, by rw [hsz]; exact h1.2⟩, fun hk => ?_, by omega, by rw [hsz]; exact h1.2⟩
          rcases hk with hk | hk
          · have := (hfl _ hk).2; omega
          · have := hk.2; omega
        hN := by show N + 1 ≤ _; omega
        hs := by show 1 - slot ≤ 1; omega
        hi := hbl }
    have Hfin := Lib.hid hfin
    have hnew : ∀ W, Below w3.heap.size w3 W → New w3 (W.alloc (.cells #[] 5)) (some ⟨W.heap.size, 0, none⟩) 0 [] := fun W hW => Own.lit W _ #[] 5 (by unfold maxLen; simp) ⟨hW.size, by rw [World.size_alloc]; omega⟩
    have Hnew := Lib.hid hnew
    have HB3 := Lib.hid (fun W (hW : Below w3.heap.size w3 W) => hB3.ext hW)
    have hcell5 : ∀ W, Below w3.heap.size w3 W → W.cell? ⟨g, 1, none⟩ = some (.slice A img.length c) ∧ W.cell? ⟨g, 2, none⟩ = some (.int .i64 (N : Int)) ∧ W.cell? ⟨g, 3, none⟩ = some (.int .i64 (slot : Int)) ∧ W.frozen? ⟨g, 1, none⟩ = false ∧ W.frozen? ⟨g, 2, none⟩ = false ∧ W.frozen? ⟨g, 3, none⟩ = false := fun W hW =>
      ⟨cell_ext k1 hW, cell_ext k2 hW, cell_ext k3 hW, (hblk3.ext hW).free 1, (hblk3.ext hW).free 2, (hblk3.ext hW).free 3⟩
    have Hcell5 := Lib.hid hcell5
    have f1 := hblk3.free 1
    have f2 := hblk3.free 2
    have f3 := hblk3.free 3
    clear hfin hnew hcell5 hB3 hc hsub hng3 hO3 hblk3 hb1w hng hgl hs3 hs1 hR Hcs Hwrs Hpk hI3 ho3 hb1 hr1 hS1 hS2 hI' hfl q0 q2 q3 q4 k0 k4 h hB hBf hs
    obtain ⟨m1, m2, m3, -, -, -⟩ := Hcell5.out (w3.alloc (.cells #[] 5)) (ext_alloc (Below.refl _ _) _)
    go_wp2
    go_region_law (refine step_app rfl (.tmp 56) (.tmp 57) 22 rfl 5 (.int .u8 0) 1 Tryd.underlying22 info_u8 rfl (some ⟨w3.heap.size, 0, none⟩) 0 0 (([] : List UInt8).map bv) rfl rfl (Hnew.out w3 (Below.refl _ _)).drew B bs.length d (bs.map bv) rfl (by rw [List.length_map]) ((HB3.out _ (ext_alloc (Below.refl _ _) _)).drew).2.2 (bvs_one _) (by unfold maxLen; omega) (by omega) ?_; intro A5 c5 w5 hown5 ho5; obtain ⟨hn5, hb5⟩ := New.grow (ext_drew (ext_alloc (Below.refl _ _) _)) hown5 ho5; obtain ⟨p1, p2, p3, g1, g2, g3⟩ := Hcell5.out w5 hb5)
    all_goals
      go_wp2
      go_ret
      exact Hfin.out w5 A5 c5 hn5 hb5
  · rw [if_neg h0] at hc
    have hfin : RCommitted w fp g gx ⟨S, l, img, N, slot, false⟩ bs (.returned (.int .i64 r1)) (w3.setCell ⟨g, 4, none⟩ (.bool true)) := by
      have hsz : (w3.setCell ⟨g, 4, none⟩ (.bool true)).heap.size = w3.heap.size := by simp [World.setCell]
      have hog : Only (fun k => k = g) w3 (w3.setCell ⟨g, 4, none⟩ (.bool true)) := (Only.refl (fun k => k = g) w3).setCell (p := ⟨g, 4, none⟩) (.inl rfl) _
      refine ⟨by rw [hc], ?_, hO3.trans hog (fun k _ hk => by rw [hk]; exact h.fg)⟩
      rw [hc]
      refine ⟨More fI' w1 w3, A, c, ?_⟩
      exact {
        imp := hI3.only hog (fun k hk e => hng3 (e ▸ hk))
        sub := hsub _ (by rw [hsz]; exact Nat.le_refl _)
        fg := .inl h.fg
        ng := hng3
        blk := hblk3.put 4 (.bool true)
        bs := ⟨rfl, h.bs.2.1, (((h.bs.2.2.ext hb1w).only ho3 (fun ad e _ hk => (h.fA ad e).2.1 (hfl _ hk).1)).only hog (fun ad e _ hk => (h.fA ad e).2.2.1 hk))⟩
        fA := fun ad e => by
          have h1 := h.fA ad e
          refine ⟨.inl h1.1, fun hk => ?_, h1.2.2.1, by rw [hsz]; omega⟩
          rcases hk with hk | hk
          · exact h1.2.1 (hfl _ hk).1
          · have := hk.1; omega
        hN := h.hN
        hs := h.hs
        hi := h.hi }
    have Hfin := Lib.hid hfin
    have hb0 : (r1 == 0) = false := beq_eq_false_iff_ne.2 h0
    have f4 := hblk3.free 4
    clear hfin hB3 hc hsub hng3 hO3 hblk3 hb1w hng hgl hs3 hs1 hR Hcs Hwrs Hpk hI3 ho3 hb1 hr1 hS1 hS2 hI' hfl q0 q2 q3 q4 h hB hBf hs h0 hws hwn hNi hdN hN hNle hdn hli hbl e1 k0 k1 k2 k3
    go_wp2
    go_ret
    exact Hfin.out

theorem rcommit_any {w : World} {fp : Nat → Prop} {g gx : Nat} {s : SupS} (h : RSup w fp g gx s) (hs : Small 900000 s.S) (B : Option Addr) (m d : Nat) (bs : List UInt8) (hB : Bs w B m d bs) (hBf : ∀ ad, B = some ad → bs ≠ [] → ¬ fp ad.block) (hbl : bs.length ≤ maxLen) :
    Calls Tryd.prog 33 #[.pointer (some ⟨g, 0, none⟩), .slice B m d] w (RCommitted w fp g gx s bs) := by
  by_cases hc : s.dead = true ∨ 814 < bs.length ∨ s.N = 1125899906842624
  · exact rcommit_still h B m d bs hB.1 hbl hc
  · exact rcommit_go h hs B m d bs hB hBf (by cases hd : s.dead with | true => exact absurd (.inl hd) hc | false => rfl) (by omega) (fun e => hc (.inr (.inr e)))
end Go.Proofs.YtlpjeopeboemmaaDoor

/-
  A Super and the reference's Super, side by side ('Pr'); the methods in these words. No statement of the seat is proved here.
-/
namespace Go.Proofs.YtlpjeopeboemmaaDoor
open Go Go.RowKit

/-- two regions of memory, of the law's own, apart from each other and from the blocks 'G' -/
structure Apart (W w : World) (G fI fR : Nat → Prop) : Prop where
  d : ∀ k, fI k → fR k → False
  b1 : ∀ k, fI k → Born W w k
  b2 : ∀ k, fR k → Born W w k
  g : ∀ k, G k → ¬ fI k ∧ ¬ fR k ∧ k < w.heap.size
  bel : Below W.heap.size W w
theorem Apart.left {W w w' : World} {G fI fR : Nat → Prop} (h : Apart W w G fI fR) (ho : Only fI w w') : Apart W w' G (More fI w w') fR ∧ Only (fun k => ¬ fR k ∧ ¬ G k) w w' := by
  have z := ho.size
  have z0 := h.bel.size
  refine ⟨⟨fun k hk hk' => ?_, fun k hk => ?_, fun k hk => ⟨(h.b2 k hk).1, by have := (h.b2 k hk).2; omega⟩, fun k hk => ⟨fun hh => ?_, (h.g k hk).2.1, by have := (h.g k hk).2.2; omega⟩, h.bel.trans (ho.below (fun k hk => (h.b1 k hk).1) z0)⟩, ho.mono (fun k _ hk => ⟨fun hk' => h.d k hk hk', fun hg => (h.g k hg).1 hk⟩)⟩
  · rcases hk with hk | hk
    · exact h.d k hk hk'
    · have := (h.b2 k hk').2; omega
  · rcases hk with hk | hk
    · exact ⟨(h.b1 k hk).1, by have := (h.b1 k hk).2; omega⟩
    · exact ⟨by omega, hk.2⟩
  · rcases hh with hh | hh
    · exact (h.g k hk).1 hh
    · have := (h.g k hk).2.2; omega
theorem Apart.swap {W w : World} {G fI fR : Nat → Prop} (h : Apart W w G fI fR) : Apart W w G fR fI := ⟨fun k h1 h2 => h.d k h2 h1, h.b2, h.b1, fun k hk => ⟨(h.g k hk).2.1, (h.g k hk).1, (h.g k hk).2.2⟩, h.bel⟩
theorem Apart.right {W w w' : World} {G fI fR : Nat → Prop} (h : Apart W w G fI fR) (ho : Only fR w w') : Apart W w' G fI (More fR w w') ∧ Only (fun k => ¬ fI k ∧ ¬ G k) w w' :=
  ⟨(h.swap.left ho).1.swap, (h.swap.left ho).2⟩
theorem Apart.ext {W w w' : World} {G fI fR : Nat → Prop} (h : Apart W w G fI fR) (hb : Below w.heap.size w w') : Apart W w' G fI fR := by
  have z := hb.size
  exact ⟨h.d, fun k hk => ⟨(h.b1 k hk).1, by have := (h.b1 k hk).2; omega⟩, fun k hk => ⟨(h.b2 k hk).1, by have := (h.b2 k hk).2; omega⟩, fun k hk => ⟨(h.g k hk).1, (h.g k hk).2.1, by have := (h.g k hk).2.2; omega⟩, ext_trans h.bel hb⟩
/-- other blocks to be kept: those that are apart -/
theorem Apart.guard {W w : World} {G G' fI fR : Nat → Prop} (h : Apart W w G fI fR) (hg : ∀ k, G' k → ¬ fI k ∧ ¬ fR k ∧ k < w.heap.size) : Apart W w G' fI fR := ⟨h.d, h.b1, h.b2, hg, h.bel⟩

/-- both Supers -/
def Pr (W w : World) (G : Nat → Prop) (gd gx g gy : Nat) (s s2 : SupS) : Prop := ∃ fI fR, Apart W w G fI fR ∧ Sup w fI g gd s ∧ RSup w fR gy gx s2
/-- the first one is opened, the other disk is not yet -/
def Hf (W w : World) (G : Nat → Prop) (gd gx g : Nat) (s : SupS) (S2 : Sec) (l2 : Int) : Prop := ∃ fI fR, Apart W w G fI fR ∧ Sup w fI g gd s ∧ Ref w fR gx S2 l2
/-- both disks -/
def Dk (W w : World) (G : Nat → Prop) (gd gx : Nat) (S : Sec) (l : Int) (S2 : Sec) (l2 : Int) : Prop := ∃ fI fR, Apart W w G fI fR ∧ Imp w fI gd S l ∧ Ref w fR gx S2 l2

section
variable {W w w' : World} {G : Nat → Prop} {gd gx g gy : Nat} {s s2 s' : SupS} {S S2 : Sec} {l l2 : Int}
theorem Pr.ext (h : Pr W w G gd gx g gy s s2) (hb : Below w.heap.size w w') : Pr W w' G gd gx g gy s s2 := by
  obtain ⟨fI, fR, ha, h1, h2⟩ := h
  exact ⟨fI, fR, ha.ext hb, SupAt.ext h1 hb, h2.ext hb⟩
theorem Hf.ext (h : Hf W w G gd gx g s S2 l2) (hb : Below w.heap.size w w') : Hf W w' G gd gx g s S2 l2 := by
  obtain ⟨fI, fR, ha, h1, h2⟩ := h
  obtain ⟨A, c, B, C, h2⟩ := h2
  exact ⟨fI, fR, ha.ext hb, SupAt.ext h1 hb, A, c, B, C, h2.ext hb⟩
theorem Dk.ext (h : Dk W w G gd gx S l S2 l2) (hb : Below w.heap.size w w') : Dk W w' G gd gx S l S2 l2 := by
  obtain ⟨fI, fR, ha, h1, A, c, B, C, h2⟩ := h
  exact ⟨fI, fR, ha.ext hb, h1.ext hb, A, c, B, C, h2.ext hb⟩
theorem Pr.dk (h : Pr W w G gd gx g gy s s2) : Dk W w G gd gx s.S s.l s2.S s2.l := by
  obtain ⟨fI, fR, ha, h1, h2⟩ := h
  exact ⟨fI, fR, ha, SupAt.impd h1, h2.ref⟩
theorem Pr.bel (h : Pr W w G gd gx g gy s s2) : Below W.heap.size W w := by
  obtain ⟨fI, fR, ha, h1, h2⟩ := h
  exact ha.bel
theorem Dk.bel (h : Dk W w G gd gx S l S2 l2) : Below W.heap.size W w := by
  obtain ⟨fI, fR, ha, h1, h2⟩ := h
  exact ha.bel
theorem Hf.bel (h : Hf W w G gd gx g s S2 l2) : Below W.heap.size W w := by
  obtain ⟨fI, fR, ha, h1, h2⟩ := h
  exact ha.bel
theorem kept_of {T : Nat → Prop} (ho : Only (fun k => ¬ T k ∧ ¬ G k) w w') (hg : ∀ k, G k → k < w.heap.size) : Kept G w w' := fun k hk => ho.block k (hg k hk) (fun hh => hh.2 hk)
theorem ref_only {fR T : Nat → Prop} {g : Nat} (h : Ref w fR g S l) (ho : Only T w w') (hn : ∀ k, fR k → ¬ T k) : Ref w' fR g S l := by
  obtain ⟨A, c, B, C, h⟩ := h
  exact ⟨A, c, B, C, h.only ho hn⟩
/-- blocks that the law was given are apart from all -/
theorem Apart.arg {fI fR : Nat → Prop} (ha : Apart W w G fI fR) {A : Option Addr} {xs : List Value} (h : Rd W A xs) : ∀ ad, A = some ad → xs ≠ [] → ¬ fI ad.block ∧ ¬ fR ad.block := by
  intro ad e hne
  rcases xs with _ | ⟨x, r⟩
  · exact absurd rfl hne
  · obtain ⟨ad', e', hc⟩ := h 0 x rfl
    rw [e] at e'
    injection e' with e'
    subst e'
    have hb := World.block_lt_of_cell? W _ hc
    rw [block_add] at hb
    exact ⟨fun hk => by have := (ha.b1 _ hk).1; omega, fun hk => by have := (ha.b2 _ hk).1; omega⟩

theorem pr_commit (ht : Tab W) (h : Pr W w G gd gx g gy s s2) (hs : Small 900000 s.S) (B : Option Addr) (m d : Nat) (bs : List UInt8) (hB : Bs W B m d bs) (hbl : bs.length ≤ maxLen) :
    Calls Tryd.prog 19 #[.pointer (some ⟨g, 0, none⟩), .slice B m d] w fun e w' => e = .returned (.int .i64 (commitS s bs).1) ∧ Pr W w' G gd gx g gy (commitS s bs).2 s2 ∧ Kept G w w' := by
  obtain ⟨fI, fR, ha, h1, h2⟩ := h
  refine (commit_any (ht.ext ha.bel) h1 hs B m d bs ⟨hB.1, hB.2.1, hB.2.2.ext ha.bel⟩ hbl).mono ?_
  rintro e w' ⟨rfl, h3, ho⟩
  obtain ⟨ha', ho'⟩ := ha.left ho
  exact ⟨rfl, ⟨_, _, ha', h3, h2.only ho' (fun k hk hh => hh.1 hk)⟩, kept_of ho' (fun k hk => (ha.g k hk).2.2)⟩
theorem pr_rcommit (h : Pr W w G gd gx g gy s s2) (hs : Small 900000 s2.S) (B : Option Addr) (m d : Nat) (bs : List UInt8) (hB : Bs W B m d bs) (hbl : bs.length ≤ maxLen) :
    Calls Tryd.prog 33 #[.pointer (some ⟨gy, 0, none⟩), .slice B m d] w fun e w' => e = .returned (.int .i64 (commitS s2 bs).1) ∧ Pr W w' G gd gx g gy s (commitS s2 bs).2 ∧ Kept G w w' := by
  obtain ⟨fI, fR, ha, h1, h2⟩ := h
  refine (rcommit_any h2 hs B m d bs ⟨hB.1, hB.2.1, hB.2.2.ext ha.bel⟩ (fun ad e hne => (ha.arg hB.2.2 ad e (by intro hn; exact hne (by simpa using hn))).2) hbl).mono ?_
  rintro e w' ⟨rfl, h3, ho⟩
  obtain ⟨ha', ho'⟩ := ha.right ho
  exact ⟨rfl, ⟨_, _, ha', SupAt.only h1 ho' (fun k hk hh => hh.1 hk), h3⟩, kept_of ho' (fun k hk => (ha.g k hk).2.2)⟩
theorem sup_fuse {fp : Nat → Prop} (h : Sup w fp g gd s) (n : Int) (hn : isInt n) :
    Calls Tryd.prog 20 #[.pointer (some ⟨gd, 0, none⟩), .int .i64 n] w fun e w' => e = .returned (.tuple #[]) ∧ Sup w' (More fp w w') g gd { s with l := max n (-1) } ∧ Only fp w w' := by
  obtain ⟨fI, A, c, hp⟩ := h
  refine (fuse_all hp.imp n hn).mono ?_
  rintro e w' ⟨rfl, h1, h2⟩
  have hz := h2.size
  refine ⟨rfl, ⟨More fI w w', A, c, {
    imp := h1
    sub := fun k hk => hk.imp (fun x => hp.sub k x) id
    fg := .inl hp.fg
    ng := fun hk => by
      rcases hk with hk | hk
      · exact hp.ng hk
      · have := hp.blk.lt; omega
    blk := hp.blk.only h2 hp.ng
    bs := ⟨rfl, hp.bs.2.1, hp.bs.2.2.only h2 (fun ad e _ => (hp.fA ad e).2.1)⟩
    fA := fun ad e => ⟨.inl (hp.fA ad e).1, fun hk => by
      rcases hk with hk | hk
      · exact (hp.fA ad e).2.1 hk
      · have := (hp.fA ad e).2.2.2; omega, (hp.fA ad e).2.2.1, by have := (hp.fA ad e).2.2.2; omega⟩
    hN := hp.hN
    hs := hp.hs
    hi := hp.hi }⟩, h2.mono (fun k _ hk => hp.sub k hk)⟩
theorem rsup_fuse {fp : Nat → Prop} (h : RSup w fp g gx s) (n : Int) (hn : isInt n) :
    Calls Tryd.prog 34 #[.pointer (some ⟨gx, 0, none⟩), .int .i64 n] w fun e w' => e = .returned (.tuple #[]) ∧ RSup w' (More fp w w') g gx { s with l := max n (-1) } ∧ Only fp w w' := by
  obtain ⟨fI, A, c, hp⟩ := h
  refine (rfuse_all hp.imp n hn).mono ?_
  rintro e w' ⟨rfl, h1, h2⟩
  have hz := h2.size
  refine ⟨rfl, ⟨More fI w w', A, c, {
    imp := h1
    sub := fun k hk => hk.imp (fun x => hp.sub k x) id
    fg := .inl hp.fg
    ng := fun hk => by
      rcases hk with hk | hk
      · exact hp.ng hk
      · have := hp.blk.lt; omega
    blk := hp.blk.only h2 hp.ng
    bs := ⟨rfl, hp.bs.2.1, hp.bs.2.2.only h2 (fun ad e _ => (hp.fA ad e).2.1)⟩
    fA := fun ad e => ⟨.inl (hp.fA ad e).1, fun hk => by
      rcases hk with hk | hk
      · exact (hp.fA ad e).2.1 hk
      · have := (hp.fA ad e).2.2.2; omega, (hp.fA ad e).2.2.1, by have := (hp.fA ad e).2.2.2; omega⟩
    hN := hp.hN
    hs := hp.hs
    hi := hp.hi }⟩, h2.mono (fun k _ hk => hp.sub k hk)⟩
theorem pr_fuse (h : Pr W w G gd gx g gy s s2) (n : Int) (hn : isInt n) :
    Calls Tryd.prog 20 #[.pointer (some ⟨gd, 0, none⟩), .int .i64 n] w fun e w' => e = .returned (.tuple #[]) ∧ Pr W w' G gd gx g gy { s with l := max n (-1) } s2 ∧ Kept G w w' := by
  obtain ⟨fI, fR, ha, h1, h2⟩ := h
  refine (sup_fuse h1 n hn).mono ?_
  rintro e w' ⟨rfl, h3, ho⟩
  obtain ⟨ha', ho'⟩ := ha.left ho
  exact ⟨rfl, ⟨_, _, ha', h3, h2.only ho' (fun k hk hh => hh.1 hk)⟩, kept_of ho' (fun k hk => (ha.g k hk).2.2)⟩
theorem pr_rfuse (h : Pr W w G gd gx g gy s s2) (n : Int) (hn : isInt n) :
    Calls Tryd.prog 34 #[.pointer (some ⟨gx, 0, none⟩), .int .i64 n] w fun e w' => e = .returned (.tuple #[]) ∧ Pr W w' G gd gx g gy s { s2 with l := max n (-1) } ∧ Kept G w w' := by
  obtain ⟨fI, fR, ha, h1, h2⟩ := h
  refine (rsup_fuse h2 n hn).mono ?_
  rintro e w' ⟨rfl, h3, ho⟩
  obtain ⟨ha', ho'⟩ := ha.right ho
  exact ⟨rfl, ⟨_, _, ha', SupAt.only h1 ho' (fun k hk hh => hh.1 hk), h3⟩, kept_of ho' (fun k hk => (ha.g k hk).2.2)⟩
theorem dk_crash (h : Dk W w G gd gx S l S2 l2) (hs : Small 1000000 S) (P : Option Addr) (n cp : Nat) (ps : List Int) (hn : n = ps.length) (hp : Rd W P (ps.map iv)) (hpi : ∀ x ∈ ps, isInt x) :
    Calls Tryd.prog 21 #[.pointer (some ⟨gd, 0, none⟩), .slice P n cp] w fun e w' => e = .returned (.tuple #[]) ∧ Dk W w' G gd gx (crashS S ps) (-1) S2 l2 ∧ Kept G w w' := by
  obtain ⟨fI, fR, ha, h1, h2⟩ := h
  refine (crash_all h1 hs P n cp ps hn ⟨hp.ext ha.bel, fun ad e hne => (ha.arg hp ad e hne).1⟩ hpi).mono ?_
  rintro e w' ⟨rfl, h3, ho⟩
  obtain ⟨ha', ho'⟩ := ha.left ho
  exact ⟨rfl, ⟨_, _, ha', h3, ref_only h2 ho' (fun k hk hh => hh.1 hk)⟩, kept_of ho' (fun k hk => (ha.g k hk).2.2)⟩
theorem dk_rcrash (h : Dk W w G gd gx S l S2 l2) (hs : Small 1000000 S2) (P : Option Addr) (n cp : Nat) (ps : List Int) (hn : n = ps.length) (hp : Rd W P (ps.map iv)) (hpi : ∀ x ∈ ps, isInt x) :
    Calls Tryd.prog 35 #[.pointer (some ⟨gx, 0, none⟩), .slice P n cp] w fun e w' => e = .returned (.tuple #[]) ∧ Dk W w' G gd gx S l (crashS S2 ps) (-1) ∧ Kept G w w' := by
  obtain ⟨fI, fR, ha, h1, h2⟩ := h
  refine (rcrash_all h2 hs P n cp ps hn ⟨hp.ext ha.bel, fun ad e hne => (ha.arg hp ad e hne).2⟩ hpi).mono ?_
  rintro e w' ⟨rfl, h3, ho⟩
  obtain ⟨ha', ho'⟩ := ha.right ho
  exact ⟨rfl, ⟨_, _, ha', h1.only ho' (fun k hk hh => hh.1 hk), h3⟩, kept_of ho' (fun k hk => (ha.g k hk).2.2)⟩
/-- Open: there is none, or one -/
def DkOpen (W w : World) (G : Nat → Prop) (gd gx : Nat) (S : Sec) (l : Int) (S2 : Sec) (l2 : Int) (e : Ending) (w' : World) : Prop :=
  Below w.heap.size w w' ∧ (((tellK S 2).1 = 0 ∧ e = .returned (.tuple #[.pointer none, .int .i64 2]) ∧ Dk W w' G gd gx S l S2 l2) ∨
    (0 < (tellK S 2).1 ∧ ∃ g, e = .returned (.tuple #[.pointer (some ⟨g, 0, none⟩), .int .i64 0]) ∧ Hf W w' G gd gx g ⟨S, l, (tellK S 2).2.1, mostK S 2, (tellK S 2).2.2, false⟩ S2 l2))
theorem dk_open (ht : Tab W) (h : Dk W w G gd gx S l S2 l2) (hs : Small 1000000 S) (h32 : 32 ≤ S.length) :
    Calls Tryd.prog 22 #[.pointer (some ⟨gd, 0, none⟩)] w (DkOpen W w G gd gx S l S2 l2) := by
  obtain ⟨fI, fR, ha, h1, h2⟩ := h
  refine (open_any (ht.ext ha.bel) h1 hs h32).mono ?_
  rintro e w' ⟨hb, hc⟩
  refine ⟨hb, ?_⟩
  rcases hc with ⟨h0, rfl⟩ | ⟨h0, g, rfl, hg, h3⟩
  · exact .inl ⟨h0, rfl, Dk.ext ⟨fI, fR, ha, h1, h2⟩ hb⟩
  · have ho : Only fI w w' := Only.of_ext hb
    obtain ⟨ha', ho'⟩ := ha.left ho
    exact .inr ⟨h0, g, rfl, _, _, ha', h3, ref_only h2 ho' (fun k hk hh => hh.1 hk)⟩
theorem dk_ropen_none (h : Dk W w G gd gx S l S2 l2) (hs : Small 1000000 S2) (h32 : 32 ≤ S2.length) (h0 : (tellK S2 2).1 = 0) :
    Calls Tryd.prog 29 #[.pointer (some ⟨gx, 0, none⟩)] w fun e w' => e = .returned (.tuple #[.pointer none, .int .i64 2]) ∧ Below w.heap.size w w' := by
  obtain ⟨fI, fR, ha, h1, h2⟩ := h
  refine (ropen_any h2 hs h32).mono ?_
  rintro e w' ⟨hb, hc⟩
  rcases hc with ⟨_, rfl⟩ | ⟨h0', _⟩
  · exact ⟨rfl, hb⟩
  · omega
theorem hf_ropen (h : Hf W w G gd gx g s S2 l2) (hs : Small 1000000 S2) (h32 : 32 ≤ S2.length) (h0 : 0 < (tellK S2 2).1) :
    Calls Tryd.prog 29 #[.pointer (some ⟨gx, 0, none⟩)] w fun e w' => ∃ gy, e = .returned (.tuple #[.pointer (some ⟨gy, 0, none⟩), .int .i64 0]) ∧ Pr W w' G gd gx g gy s ⟨S2, l2, (tellK S2 2).2.1, mostK S2 2, (tellK S2 2).2.2, false⟩ ∧ Below w.heap.size w w' := by
  obtain ⟨fI, fR, ha, h1, h2⟩ := h
  refine (ropen_any h2 hs h32).mono ?_
  rintro e w' ⟨hb, hc⟩
  rcases hc with ⟨h0', _⟩ | ⟨_, gy, rfl, hg, h3⟩
  · omega
  · have ho : Only fR w w' := Only.of_ext hb
    obtain ⟨ha', ho'⟩ := ha.right ho
    exact ⟨gy, rfl, ⟨_, _, ha', SupAt.only h1 ho' (fun k hk hh => hh.1 hk), h3⟩, hb⟩
/-- a store to a block that is kept -/
theorem Apart.put {fI fR : Nat → Prop} (ha : Apart W w G fI fR) {p : Addr} (hp : G p.block) (hw : W.heap.size ≤ p.block) (u : Value) : Apart W (w.setCell p u) G fI fR := by
  have hz : (w.setCell p u).heap.size = w.heap.size := by simp [World.setCell]
  exact ⟨ha.d, fun k hk => ⟨(ha.b1 k hk).1, by have := (ha.b1 k hk).2; omega⟩, fun k hk => ⟨(ha.b2 k hk).1, by have := (ha.b2 k hk).2; omega⟩, fun k hk => ⟨(ha.g k hk).1, (ha.g k hk).2.1, by have := (ha.g k hk).2.2; omega⟩, ha.bel.setCell hw u⟩
theorem Pr.put (h : Pr W w G gd gx g gy s s2) {p : Addr} (hp : G p.block) (hw : W.heap.size ≤ p.block) (u : Value) : Pr W (w.setCell p u) G gd gx g gy s s2 := by
  obtain ⟨fI, fR, ha, h1, h2⟩ := h
  have ho : Only (fun k => k = p.block) w (w.setCell p u) := (Only.refl (fun k => k = p.block) w).setCell (.inl rfl) u
  exact ⟨fI, fR, ha.put hp hw u, SupAt.only h1 ho (fun k hk e => (ha.g _ hp).1 (e ▸ hk)), h2.only ho (fun k hk e => (ha.g _ hp).2.1 (e ▸ hk))⟩
theorem Dk.put (h : Dk W w G gd gx S l S2 l2) {p : Addr} (hp : G p.block) (hw : W.heap.size ≤ p.block) (u : Value) : Dk W (w.setCell p u) G gd gx S l S2 l2 := by
  obtain ⟨fI, fR, ha, h1, h2⟩ := h
  have ho : Only (fun k => k = p.block) w (w.setCell p u) := (Only.refl (fun k => k = p.block) w).setCell (.inl rfl) u
  exact ⟨fI, fR, ha.put hp hw u, h1.only ho (fun k hk e => (ha.g _ hp).1 (e ▸ hk)), ref_only h2 ho (fun k hk e => (ha.g _ hp).2.1 (e ▸ hk))⟩
/-- other blocks to be kept -/
theorem Pr.guard {G' : Nat → Prop} (h : Pr W w G gd gx g gy s s2) (o : Obj) (hg : ∀ k, G' k → G k ∨ k = w.heap.size) : Pr W (w.alloc o) G' gd gx g gy s s2 := by
  obtain ⟨fI, fR, ha, h1, h2⟩ := h
  have hb : Below w.heap.size w (w.alloc o) := ext_alloc (Below.refl _ _) o
  refine ⟨fI, fR, (ha.ext hb).guard (fun k hk => ?_), SupAt.ext h1 hb, h2.ext hb⟩
  rcases hg k hk with hk | hk
  · exact ((ha.ext hb).g k hk)
  · subst hk
    exact ⟨fun hk => by have := (ha.b1 _ hk).2; omega, fun hk => by have := (ha.b2 _ hk).2; omega, by rw [World.size_alloc]; omega⟩
theorem Pr.weak {G' : Nat → Prop} (h : Pr W w G gd gx g gy s s2) (hg : ∀ k, G' k → G k) : Pr W w G' gd gx g gy s s2 := by
  obtain ⟨fI, fR, ha, h1, h2⟩ := h
  exact ⟨fI, fR, ha.guard (fun k hk => ha.g k (hg k hk)), h1, h2⟩
theorem Dk.weak {G' : Nat → Prop} (h : Dk W w G gd gx S l S2 l2) (hg : ∀ k, G' k → G k) : Dk W w G' gd gx S l S2 l2 := by
  obtain ⟨fI, fR, ha, h1, h2⟩ := h
  exact ⟨fI, fR, ha.guard (fun k hk => ha.g k (hg k hk)), h1, h2⟩
end
end Go.Proofs.YtlpjeopeboemmaaDoor

/-
  The contracts of the laws' helpers open and act, over a pair. No statement of the seat is proved here.
-/
namespace Go.Proofs.YtlpjeopeboemmaaDoor
open Go Go.RowKit

/-- a pair of two Supers that tell the same -/
def PairY (W w : World) (gp gd gx : Nat) (s : SupS) : Prop := ∃ g gy, Blk w gp 32 #[.pointer (some ⟨gd, 0, none⟩), .pointer (some ⟨gx, 0, none⟩), .pointer (some ⟨g, 0, none⟩), .pointer (some ⟨gy, 0, none⟩)] ∧ Pr W w (fun k => k = gp) gd gx g gy s s ∧ W.heap.size ≤ gp
/-- a pair of none -/
def PairN (W w : World) (gp gd gx : Nat) (S : Sec) (l : Int) : Prop := Blk w gp 32 #[.pointer (some ⟨gd, 0, none⟩), .pointer (some ⟨gx, 0, none⟩), .pointer none, .pointer none] ∧ Dk W w (fun k => k = gp) gd gx S l S l ∧ W.heap.size ≤ gp
/-- what an act leaves -/
def Left (W w' : World) (gp gd gx N n : Nat) : Prop := Below W.heap.size W w' ∧ ((∃ s, PairY W w' gp gd gx s ∧ Small N s.S ∧ s.S.length = n) ∨ (∃ S l, PairN W w' gp gd gx S l ∧ Small N S ∧ S.length = n))

theorem Pr.blk_out {W w : World} {G : Nat → Prop} {gd gx g gy : Nat} {s s2 : SupS} (h : Pr W w G gd gx g gy s s2) : Below W.heap.size W w := h.bel

set_option maxHeartbeats 2000000 in
theorem popen_any {W w : World} {gp gd gx : Nat} {S : Sec} {l : Int} {N : Nat} {v2 v3 : Value} (ht : Tab W) (hblk : Blk w gp 32 #[.pointer (some ⟨gd, 0, none⟩), .pointer (some ⟨gx, 0, none⟩), v2, v3]) (h : Dk W w (fun k => k = gp) gd gx S l S l) (hw : W.heap.size ≤ gp) (hs : Small N S) (hN : N ≤ 900000) (h32 : 32 ≤ S.length) :
    Calls Tryd.prog 36 #[.pointer (some ⟨gp, 0, none⟩)] w fun e w' => e = .returned (.bool true) ∧ Left W w' gp gd gx N S.length := by
  have q0 := hblk.cell 0
  simp only [List.getElem?_toArray, List.getElem?_cons_zero, List.getElem?_cons_succ] at q0
  have ho1 := Lib.hid (dk_open ht h (small_mono hs (by omega)) h32)
  go_enter Tryd.func36, Tryd.ntmps36
  go_wp2_with fail
  refine ho1.out.mono ?_
  rintro e w1 ⟨hb1, hc⟩
  have hblk1 := hblk.ext hb1
  have q1 := hblk1.cell 1
  simp only [List.getElem?_toArray, List.getElem?_cons_zero, List.getElem?_cons_succ] at q1
  clear q0 hblk h ho1
  rcases hc with ⟨h0, rfl, hD⟩ | ⟨h0, g, rfl, hH⟩
  · have hr := Lib.hid (dk_ropen_none hD (small_mono hs (by omega)) h32 h0)
    go_wp2_with fail
    refine hr.out.mono ?_
    rintro e w2 ⟨rfl, hb2⟩
    have hblk2 := hblk1.ext hb2
    have q2 := hblk2.cell 2
    have q3 := hblk2.cell 3
    have f2 := hblk2.free 2
    have f3 := hblk2.free 3
    simp only [List.getElem?_toArray, List.getElem?_cons_zero, List.getElem?_cons_succ] at q2 q3
    have hfin : Left W ((w2.setCell ⟨gp, 2, none⟩ (.pointer none)).setCell ⟨gp, 3, none⟩ (.pointer none)) gp gd gx N S.length := by
      have hD2 := ((hD.ext hb2).put (p := ⟨gp, 2, none⟩) rfl hw (.pointer none)).put (p := ⟨gp, 3, none⟩) rfl hw (.pointer none)
      exact ⟨hD2.bel, .inr ⟨S, l, ⟨(hblk2.put 2 (.pointer none)).put 3 (.pointer none), hD2, hw⟩, hs, rfl⟩⟩
    have Hfin := Lib.hid hfin
    clear hfin hblk2 hblk1 hD hb1 hb2 hr h0 hs h32 hN
    go_wp2
    go_ret
    exact ⟨rfl, Hfin.out⟩
  · have hr := Lib.hid (hf_ropen hH (small_mono hs (by omega)) h32 h0)
    go_wp2_with fail
    refine hr.out.mono ?_
    rintro e w2 ⟨gy, rfl, hP, hb2⟩
    have hblk2 := hblk1.ext hb2
    have q2 := hblk2.cell 2
    have q3 := hblk2.cell 3
    have f2 := hblk2.free 2
    have f3 := hblk2.free 3
    simp only [List.getElem?_toArray, List.getElem?_cons_zero, List.getElem?_cons_succ] at q2 q3
    have hfin : Left W ((w2.setCell ⟨gp, 2, none⟩ (.pointer (some ⟨g, 0, none⟩))).setCell ⟨gp, 3, none⟩ (.pointer (some ⟨gy, 0, none⟩))) gp gd gx N S.length := by
      have hP2 := (hP.put (p := ⟨gp, 2, none⟩) rfl hw (.pointer (some ⟨g, 0, none⟩))).put (p := ⟨gp, 3, none⟩) rfl hw (.pointer (some ⟨gy, 0, none⟩))
      exact ⟨hP2.bel, .inl ⟨_, ⟨g, gy, (hblk2.put 2 (.pointer (some ⟨g, 0, none⟩))).put 3 (.pointer (some ⟨gy, 0, none⟩)), hP2, hw⟩, hs, rfl⟩⟩
    have Hfin := Lib.hid hfin
    clear hfin hblk2 hblk1 hH hP hb1 hb2 hr h0 hs h32 hN
    go_wp2
    go_ret
    exact ⟨rfl, Hfin.out⟩
end Go.Proofs.YtlpjeopeboemmaaDoor

/-
  The contract of the laws' helper act. No statement of the seat is proved here.
-/
namespace Go.Proofs.YtlpjeopeboemmaaDoor
open Go Go.RowKit

theorem lay_length : ∀ (rows : List (List UInt8)) (S : Sec) (l i : Int), (layTo S l i rows).2.1.length = S.length
  | [], S, l, i => by
    unfold layTo
    show (if l = 0 then S else flushS S).length = S.length
    split
    · rfl
    · exact flushS_length S
  | r :: rs, S, l, i => by
    unfold layTo
    split
    · rw [lay_length rs, writeS_length]
    · rfl
theorem commit_small {N : Nat} {s : SupS} (bs : List UInt8) (h : Small N s.S) (h1 : 1 ≤ N) : Small (N + 16) (commitS s bs).2.S ∧ (commitS s bs).2.S.length = s.S.length := by
  have hl : (packI ((s.N : Int) + 1) bs).length ≤ 16 := by
    unfold packI
    split
    · rw [packOf_length]; omega
    · simp
  have hs := small_mono (small_lay (packI ((s.N : Int) + 1) bs) s.S s.l (((1 - s.slot : Nat) : Int) * 16) h h1) (Nat.add_le_add_left hl N)
  have hn := lay_length (packI ((s.N : Int) + 1) bs) s.S s.l (((1 - s.slot : Nat) : Int) * 16)
  unfold commitS
  split
  · exact ⟨small_mono h (by omega), rfl⟩
  · split
    · exact ⟨small_mono h (by omega), rfl⟩
    · split
      · exact ⟨hs, hn⟩
      · exact ⟨hs, hn⟩

set_option maxRecDepth 100000 in
set_option maxHeartbeats 4000000 in
theorem pact_any {W w : World} {gp gd gx : Nat} {s : SupS} {N : Nat} (ht : Tab W) (hY : PairY W w gp gd gx s) (hs : Small N s.S) (hN : N ≤ 800000) (hN1 : 1 ≤ N) (h32 : 32 ≤ s.S.length) (a : ActD) (hok : a.ok) (B : Option Addr) (cB : Nat) (P : Option Addr) (cP : Nat) (hB : Bs W B a.bs.length cB a.bs) (hP : Rd W P (a.ps.map iv)) :
    Calls Tryd.prog 13 #[.pointer (some ⟨gp, 0, none⟩), .agg #[.int .i64 a.kind, .int .i64 a.i, .slice B a.bs.length cB, .slice P a.ps.length cP]] w fun e w' => e = .returned (.bool true) ∧ Left W w' gp gd gx (N + 16) s.S.length := by
  obtain ⟨g, gy, hblk, hPr, hw⟩ := hY
  obtain ⟨O, hO⟩ : ∃ O, O = Obj.cells #[.int .i64 a.kind, .int .i64 a.i, .slice B a.bs.length cB, .slice P a.ps.length cP] 36 := ⟨_, rfl⟩
  have hP1 := hPr.guard (G' := fun k => k = gp ∨ k = w.heap.size) O (fun k hk => hk)
  have hgl := hblk.lt
  have hkP : ∀ w' : World, Kept (fun k => k = gp ∨ k = w.heap.size) (w.alloc O) w' → Blk w' gp 32 #[.pointer (some ⟨gd, 0, none⟩), .pointer (some ⟨gx, 0, none⟩), .pointer (some ⟨g, 0, none⟩), .pointer (some ⟨gy, 0, none⟩)] := fun w' hk => (hk _ (.inl rfl)).trans (hblk.alloc O)
  have hkA : ∀ w' : World, Kept (fun k => k = gp ∨ k = w.heap.size) (w.alloc O) w' → Blk w' w.heap.size 36 #[.int .i64 a.kind, .int .i64 a.i, .slice B a.bs.length cB, .slice P a.ps.length cP] := fun w' hk => (hk _ (.inr rfl)).trans (by rw [hO]; exact Blk.new w _ _)
  have HkP := Lib.hid hkP
  have HkA := Lib.hid hkA
  have k0 : (w.alloc O).cell? ⟨w.heap.size, 0, none⟩ = some (.int .i64 a.kind) := (hkA _ (fun _ _ => rfl)).cell 0
  have k1 : (w.alloc O).cell? ⟨w.heap.size, 1, none⟩ = some (.int .i64 a.i) := (hkA _ (fun _ _ => rfl)).cell 1
  have k2 : (w.alloc O).cell? ⟨w.heap.size, 2, none⟩ = some (.slice B a.bs.length cB) := (hkA _ (fun _ _ => rfl)).cell 2
  have k3 : (w.alloc O).cell? ⟨w.heap.size, 3, none⟩ = some (.slice P a.ps.length cP) := (hkA _ (fun _ _ => rfl)).cell 3
  have p0 : (w.alloc O).cell? ⟨gp, 0, none⟩ = some (.pointer (some ⟨gd, 0, none⟩)) := (hkP _ (fun _ _ => rfl)).cell 0
  have p1 : (w.alloc O).cell? ⟨gp, 1, none⟩ = some (.pointer (some ⟨gx, 0, none⟩)) := (hkP _ (fun _ _ => rfl)).cell 1
  have p2 : (w.alloc O).cell? ⟨gp, 2, none⟩ = some (.pointer (some ⟨g, 0, none⟩)) := (hkP _ (fun _ _ => rfl)).cell 2
  have p3 : (w.alloc O).cell? ⟨gp, 3, none⟩ = some (.pointer (some ⟨gy, 0, none⟩)) := (hkP _ (fun _ _ => rfl)).cell 3
  have hs9 : Small 900000 s.S := small_mono hs (by omega)
  have hs1 : Small (N + 16) s.S := small_mono hs (by omega)
  have h16 : (16 : Nat) ≤ 16 := Nat.le_refl _
  rw [hO] at k0 k1 k2 k3 p0 p1 p2 p3 hP1 HkP HkA
  clear hO hkP hkA hPr h16
  -- what an act that opens nothing leaves
  have hend : ∀ (w' : World) (s' : SupS), Pr W w' (fun k => k = gp ∨ k = w.heap.size) gd gx g gy s' s' → Kept (fun k => k = gp ∨ k = w.heap.size) (w.alloc (Obj.cells #[.int .i64 a.kind, .int .i64 a.i, .slice B a.bs.length cB, .slice P a.ps.length cP] 36)) w' → Small (N + 16) s'.S → s'.S.length = s.S.length → Left W w' gp gd gx (N + 16) s.S.length := fun w' s' h1 h2 h3 h4 =>
    ⟨h1.bel, .inl ⟨s', ⟨g, gy, HkP.out _ h2, h1.weak (fun k hk => .inl hk), hw⟩, h3, h4⟩⟩
  have Hend := Lib.hid hend
  clear hend
  by_cases c1 : a.kind = 1
  · rw [c1] at k0 k1 k2 k3 p0 p1 p2 p3 hP1 HkP HkA Hend
    rw [c1]
    have hcs := commit_small (s := s) a.bs hs hN1
    have hc1 := pr_commit ht (hP1.ext (ext_drew (Below.refl _ _))) hs9 B _ cB a.bs hB hok.lb
    have hc2 := fun w1 (h : Pr W w1 (fun k => k = gp ∨ k = w.heap.size) gd gx g gy (commitS s a.bs).2 s) => pr_rcommit h hs9 B _ cB a.bs hB hok.lb
    have Hc1 := Lib.hid hc1
    have Hc2 := Lib.hid hc2
    have Hcs := Lib.hid hcs
    clear hc1 hc2 hcs hs hs1 hs9
    generalize commitS s a.bs = C at *
    obtain ⟨cd, sC⟩ := C
    dsimp only at *
    go_enter Tryd.func13, Tryd.ntmps13
    go_wp2
    go_region_held3 (fun w' => w'.cell? ⟨gp, 2, none⟩ = some (.pointer (some ⟨g, 0, none⟩)) ∧ w'.cell? ⟨gp, 3, none⟩ = some (.pointer (some ⟨gy, 0, none⟩)) ∧ w'.cell? ⟨w.heap.size, 2, none⟩ = some (.slice B a.bs.length cB))
      (first | exact ⟨p2, p3, k2⟩ | exact hS2 | exact hS3)
      (first
        | (go_at_call 19; ((with_reducible refine Hc1.out.mono ?_)); rintro e w2 ⟨rfl, hP2, hk2⟩; have hS2 : w2.cell? ⟨gp, 2, none⟩ = some (.pointer (some ⟨g, 0, none⟩)) ∧ w2.cell? ⟨gp, 3, none⟩ = some (.pointer (some ⟨gy, 0, none⟩)) ∧ w2.cell? ⟨w.heap.size, 2, none⟩ = some (.slice B a.bs.length cB) := ⟨(HkP.out w2 hk2).cell 2, (HkP.out w2 hk2).cell 3, (HkA.out w2 hk2).cell 2⟩)
        | (go_at_call 33; ((with_reducible refine (Hc2.out _ hP2).mono ?_)); rintro e w3 ⟨rfl, hP3, hk3⟩; have hk23 : Kept (fun k => k = gp ∨ k = w.heap.size) (w.alloc (Obj.cells #[.int .i64 1, .int .i64 a.i, .slice B a.bs.length cB, .slice P a.ps.length cP] 36)) w3 := fun k hk => (hk3 k hk).trans (hk2 k hk);
            have hS3 : w3.cell? ⟨gp, 2, none⟩ = some (.pointer (some ⟨g, 0, none⟩)) ∧ w3.cell? ⟨gp, 3, none⟩ = some (.pointer (some ⟨gy, 0, none⟩)) ∧ w3.cell? ⟨w.heap.size, 2, none⟩ = some (.slice B a.bs.length cB) := ⟨(HkP.out w3 hk23).cell 2, (HkP.out w3 hk23).cell 3, (HkA.out w3 hk23).cell 2⟩))
    go_wp2
    go_ret
    exact ⟨rfl, Hend.out w3 sC hP3 hk23 Hcs.out.1 Hcs.out.2⟩
  · have c1b : (a.kind == 1) = false := by simpa using c1
    by_cases c2 : a.kind = 2
    · rw [c2] at k0 k1 k2 k3 p0 p1 p2 p3 hP1 HkP HkA Hend
      rw [c2]
      have hc1 := pr_fuse (hP1.ext (ext_drew (Below.refl _ _))) a.i hok.i
      have Hc1 := Lib.hid hc1
      have hc2 := fun w1 (h : Pr W w1 (fun k => k = gp ∨ k = w.heap.size) gd gx g gy { s with l := max a.i (-1) } s) => pr_rfuse (h.ext (ext_drew (Below.refl _ _))) a.i hok.i
      have Hc2 := Lib.hid hc2
      clear hc1 hc2 hs9 hs
      go_enter Tryd.func13, Tryd.ntmps13
      go_wp2
      go_region_held3 (fun w' => w'.cell? ⟨gp, 0, none⟩ = some (.pointer (some ⟨gd, 0, none⟩)) ∧ w'.cell? ⟨w.heap.size, 1, none⟩ = some (.int .i64 a.i))
        (first | exact ⟨p0, k1⟩ | exact hS2)
        (first
          | (go_at_call 20; ((with_reducible refine Hc1.out.mono ?_)); rintro e w2 ⟨rfl, hP2, hk2⟩; have hS2 : w2.cell? ⟨gp, 0, none⟩ = some (.pointer (some ⟨gd, 0, none⟩)) ∧ w2.cell? ⟨w.heap.size, 1, none⟩ = some (.int .i64 a.i) := ⟨(HkP.out w2 hk2).cell 0, (HkA.out w2 hk2).cell 1⟩))
      have r1 : w2.cell? ⟨gp, 1, none⟩ = some (.pointer (some ⟨gx, 0, none⟩)) := (HkP.out w2 hk2).cell 1
      have r2 : w2.cell? ⟨w.heap.size, 1, none⟩ = some (.int .i64 a.i) := hS2.2
      go_wp2
      go_region_held3 (fun w' => w'.cell? ⟨gp, 1, none⟩ = some (.pointer (some ⟨gx, 0, none⟩)) ∧ w'.cell? ⟨w.heap.size, 1, none⟩ = some (.int .i64 a.i))
        (first | exact ⟨r1, r2⟩ | exact hS3)
        (first
          | (go_at_call 34; ((with_reducible refine (Hc2.out _ hP2).mono ?_)); rintro e w3 ⟨rfl, hP3, hk3⟩; have hk23 : Kept (fun k => k = gp ∨ k = w.heap.size) (w.alloc (Obj.cells #[.int .i64 2, .int .i64 a.i, .slice B a.bs.length cB, .slice P a.ps.length cP] 36)) w3 := fun k hk => (hk3 k hk).trans (hk2 k hk);
              have hS3 : w3.cell? ⟨gp, 1, none⟩ = some (.pointer (some ⟨gx, 0, none⟩)) ∧ w3.cell? ⟨w.heap.size, 1, none⟩ = some (.int .i64 a.i) := ⟨(HkP.out w3 hk23).cell 1, (HkA.out w3 hk23).cell 1⟩))
      go_wp2
      go_ret
      exact ⟨rfl, Hend.out w3 _ hP3 hk23 hs1 rfl⟩
    · have c2b : (a.kind == 2) = false := by simpa using c2
      have hlen : (crashS s.S a.ps).length = s.S.length := crashS_length _ _
      by_cases c3 : a.kind = 3
      · rw [c3] at k0 k1 k2 k3 p0 p1 p2 p3 hP1 HkP HkA Hend
        rw [c3]
        have hc1 := dk_crash ((hP1.dk).ext (ext_drew (Below.refl _ _))) (small_mono hs (by omega)) P _ cP a.ps rfl hP hok.ps
        have Hc1 := Lib.hid hc1
        have hc2 := fun w1 (h : Dk W w1 (fun k => k = gp ∨ k = w.heap.size) gd gx (crashS s.S a.ps) (-1) s.S s.l) => dk_rcrash (h.ext (ext_drew (Below.refl _ _))) (small_mono hs (by omega)) P _ cP a.ps rfl hP hok.ps
        have Hc2 := Lib.hid hc2
        have hcr : Small (N + 16) (crashS s.S a.ps) := small_mono (small_crash hs (by omega) a.ps) (by omega)
        have hc3 := fun w1 (hb : Blk w1 gp 32 #[.pointer (some ⟨gd, 0, none⟩), .pointer (some ⟨gx, 0, none⟩), .pointer (some ⟨g, 0, none⟩), .pointer (some ⟨gy, 0, none⟩)]) (h : Dk W w1 (fun k => k = gp ∨ k = w.heap.size) gd gx (crashS s.S a.ps) (-1) (crashS s.S a.ps) (-1)) => popen_any ht hb (h.weak (fun k hk => .inl hk)) hw hcr (by omega) (by rw [hlen]; exact h32)
        rw [hlen] at hc3
        have Hc3 := Lib.hid hc3
        clear hc1 hc2 hc3 hs9 hs hcr
        go_enter Tryd.func13, Tryd.ntmps13
        go_wp2
        go_region_held3 (fun w' => w'.cell? ⟨gp, 0, none⟩ = some (.pointer (some ⟨gd, 0, none⟩)) ∧ w'.cell? ⟨w.heap.size, 3, none⟩ = some (.slice P a.ps.length cP))
          (first | exact ⟨p0, k3⟩ | exact hS2)
          (first
            | (go_at_call 21; ((with_reducible refine Hc1.out.mono ?_)); rintro e w2 ⟨rfl, hP2, hk2⟩; have hS2 : w2.cell? ⟨gp, 0, none⟩ = some (.pointer (some ⟨gd, 0, none⟩)) ∧ w2.cell? ⟨w.heap.size, 3, none⟩ = some (.slice P a.ps.length cP) := ⟨(HkP.out w2 hk2).cell 0, (HkA.out w2 hk2).cell 3⟩))
        have r1 : w2.cell? ⟨gp, 1, none⟩ = some (.pointer (some ⟨gx, 0, none⟩)) := (HkP.out w2 hk2).cell 1
        have r2 : w2.cell? ⟨w.heap.size, 3, none⟩ = some (.slice P a.ps.length cP) := hS2.2
        go_wp2
        go_region_held3 (fun w' => w'.cell? ⟨gp, 1, none⟩ = some (.pointer (some ⟨gx, 0, none⟩)) ∧ w'.cell? ⟨w.heap.size, 3, none⟩ = some (.slice P a.ps.length cP))
          (first | exact ⟨r1, r2⟩ | exact hS3)
          (first
            | (go_at_call 35; ((with_reducible refine (Hc2.out _ hP2).mono ?_)); rintro e w3 ⟨rfl, hP3, hk3⟩; have hk23 : Kept (fun k => k = gp ∨ k = w.heap.size) (w.alloc (Obj.cells #[.int .i64 3, .int .i64 a.i, .slice B a.bs.length cB, .slice P a.ps.length cP] 36)) w3 := fun k hk => (hk3 k hk).trans (hk2 k hk);
                have hS3 : w3.cell? ⟨gp, 1, none⟩ = some (.pointer (some ⟨gx, 0, none⟩)) ∧ w3.cell? ⟨w.heap.size, 3, none⟩ = some (.slice P a.ps.length cP) := ⟨(HkP.out w3 hk23).cell 1, (HkA.out w3 hk23).cell 3⟩))
        have Hop := Lib.hid (Hc3.out w3 (HkP.out w3 hk23) hP3)
        go_wp2_with fail
        refine Hop.out.mono ?_
        rintro e w4 ⟨rfl, hL⟩
        go_wp2
        go_ret
        exact ⟨rfl, hL⟩
      · have c3b : (a.kind == 3) = false := by simpa using c3
        by_cases c4 : a.kind = 4
        · rw [c4] at k0 k1 k2 k3 p0 p1 p2 p3 hP1 HkP HkA Hend
          rw [c4]
          have hop := popen_any ht (HkP.out _ (fun _ _ => rfl)) (hP1.dk.weak (fun k hk => .inl hk)) hw hs1 (by omega) h32
          have Hop := Lib.hid hop
          clear hop hs9 hs
          go_enter Tryd.func13, Tryd.ntmps13
          go_wp2_with fail
          refine Hop.out.mono ?_
          rintro e w4 ⟨rfl, hL⟩
          go_wp2
          go_ret
          exact ⟨rfl, hL⟩
        · have c4b : (a.kind == 4) = false := by simpa using c4
          have hfin := Lib.hid (Hend.out _ s hP1 (fun _ _ => rfl) hs1 rfl)
          go_enter Tryd.func13, Tryd.ntmps13
          go_wp2
          go_ret
          exact ⟨rfl, hfin.out⟩
end Go.Proofs.YtlpjeopeboemmaaDoor

/-
  The contract of the laws' helper disks. No statement of the seat is proved here.
-/
namespace Go.Proofs.YtlpjeopeboemmaaDoor
open Go Go.RowKit

set_option maxRecDepth 100000 in
set_option maxHeartbeats 4000000 in
theorem disks_any {w : World} {fI fR : Nat → Prop} {gd gx gc : Nat} {S : Sec} {l l2 : Int} {B : Nat → Option Addr} {C : Nat → Nat} {A0 : Option Addr} {c0 : Nat} {B0 : Nat → Option Addr} {C0 : Nat → Nat} (hL : Lay w fI gd gc S l B C) (hR : RLay w fR gx S l2 A0 c0 B0 C0) (hs : Small 1000000 S) :
    Calls Tryd.prog 14 #[.pointer (some ⟨gd, 0, none⟩), .pointer (some ⟨gx, 0, none⟩)] w fun e w' => e = .returned (.bool true) ∧ Below w.heap.size w w' := by
  obtain ⟨Wt, hWt⟩ : ∃ Wt, Wt = waiting S := ⟨_, rfl⟩
  have hWlen : Wt.length ≤ 4096 := by rw [hWt]; exact Nat.le_trans (rk_le _ _) hL.n
  have hn := hL.n
  go_enter Tryd.func14, Tryd.ntmps14
  go_wp2_with fail
  refine (waiting_any hL hs).mono ?_
  rintro e w1 ⟨A1, c1, rfl, hrow1, hb1, _⟩
  go_wp2_with fail
  refine (rwaiting_any (hR.ext hb1)).mono ?_
  rintro e w2 ⟨A2, c2, rfl, hrow2, hb2, _⟩
  rw [← hWt] at hrow1 hrow2 ⊢
  replace hWt := Lib.hid hWt
  have hrow1' := hrow1.ext hb2
  have hb12 : Below w.heap.size w w2 := hb1.trans (hb2.mono hb1.size)
  have hL2 := hL.ext hb12
  have hR2 := hR.ext hb12
  have hx0 : w2.cell? ⟨gx, 0, none⟩ = some (.slice A0 S.length c0) := hR2.dsk.cell 0
  have hlen := len_any (hL2.only ((Only.refl (fun _ => False) w2).drew) (fun _ _ x => x))
  go_wp2_with fail
  go_region_held_law (fun w' => w'.cell? ⟨gx, 0, none⟩ = some (.slice A0 S.length c0))
    (first | exact hx0 | assumption)
    (first
      | (go_at_call 39; refine hlen.mono ?_; rintro e w3 ⟨rfl, rfl⟩))
  go_wp2
  go_loopw [7] (fun i wr => ∃ k : Nat, k ≤ Wt.length ∧ i = .int .i64 (k : Int) ∧ Below w2.heap.size w2 wr) (fun i _ => Wt.length - (intOf i).toNat)
  case atStart => exact ⟨0, Nat.zero_le _, rfl, Below.drew' (Below.refl _ _)⟩
  case round =>
    obtain ⟨k, hk, rfl, hbr⟩ := hrel
    by_cases hlt : k < Wt.length
    · have hv : (Wt.map iv')[k]? = some (.int .i64 (Wt[k] : Int)) := by rw [List.getElem?_map, List.getElem?_eq_getElem hlt]; rfl
      obtain ⟨a1, rfl, hc1⟩ := (hrow1'.ext hbr).rd k _ hv
      obtain ⟨a2, rfl, hc2⟩ := (hrow2.ext hbr).rd k _ hv
      have hki : (k : Int) < (Wt.length : Int) := by omega
      clear hv
      go_wp2_with fail
      go_quiet (fail)
      go_wp2
      go_roundw
      case rel => exact ⟨k + 1, by omega, by go_num, ext_drewN hbr _⟩
      case measure => simp [intOf]; omega
    · obtain rfl : k = Wt.length := by omega
      obtain ⟨wo, hwo⟩ : ∃ wo : World, wo = wr := ⟨_, rfl⟩
      subst hwo
      go_wp2
      go_loopw [8, 9, 10, 11, 12] (fun i _ _ _ _ wr => ∃ n : Nat, n ≤ S.length ∧ i = .int .i64 (n : Int) ∧ Below w2.heap.size w2 wr) (fun i _ _ _ _ _ => S.length - (intOf i).toNat)
      case atStart => exact ⟨0, Nat.zero_le _, rfl, hbr⟩
      case round =>
        clear hbr
        obtain ⟨n, hnn, rfl, hbr⟩ := hrel
        have hxr : wr.cell? ⟨gx, 0, none⟩ = some (.slice A0 S.length c0) := (hR2.ext hbr).dsk.cell 0
        by_cases hlt : n < S.length
        · have hni : (n : Int) < (S.length : Int) := by omega
          have hr1 := read_ok (hL2.ext hbr) hs n hlt
          go_wp2_with fail
          refine hr1.mono ?_
          rintro e w5 ⟨g', rfl, hb5, hk5, _⟩
          have hbr5 := hbr.trans (hb5.mono hbr.size)
          have hr2 := rread_ok (hR2.ext hbr5) hs n hlt
          go_wp2_with fail
          refine hr2.mono ?_
          rintro e w6 ⟨g2, c2', rfl, hb6, hrd6, _⟩
          have hl64 : (lastOf S[n]).length = 64 := (hR2.wf S[n] (List.getElem_mem hlt)).2 _ (lastOf_mem (hR2.wf S[n] (List.getElem_mem hlt)).1)
          have hrd5 : Rd w6 (some ⟨g', 0, none⟩) ((lastOf S[n]).map bv) := (Rd.blk (w := w5) hk5).ext hb6
          have hcv1 := conv_bytes w6 (some ⟨g', 0, none⟩) 64 64 (lastOf S[n]) hl64.symm hrd5
          have hcv2 := conv_bytes w6 (some ⟨g2, 0, none⟩) 64 c2' (lastOf S[n]) hl64.symm hrd6
          generalize (⟨(lastOf S[n]).toArray⟩ : ByteArray) = Z at hcv1 hcv2
          clear hr1 hr2 hrd5 hrd6 hk5
          go_wp2
          go_roundw
          case rel => exact ⟨n + 1, by omega, by go_num, hbr5.trans (hb6.mono hbr5.size)⟩
          case measure => simp [intOf]; omega
        · obtain rfl : n = S.length := by omega
          go_wp2
          go_ret
          exact ⟨rfl, hb12.trans (hbr.mono hb12.size)⟩
end Go.Proofs.YtlpjeopeboemmaaDoor

/-
  What the law SuperPlays keeps from round to round. No statement of the seat is proved here.
-/
namespace Go.Proofs.YtlpjeopeboemmaaDoor
open Go Go.RowKit

section
variable {W w w' : World} {gp gd gx N n : Nat}
theorem Left.ext (h : Left W w gp gd gx N n) (hb : Below w.heap.size w w') : Left W w' gp gd gx N n := by
  obtain ⟨h0, h⟩ := h
  refine ⟨ext_trans h0 hb, ?_⟩
  rcases h with ⟨s, ⟨g, gy, h1, h2, h3⟩, h4, h5⟩ | ⟨S, l, ⟨h1, h2, h3⟩, h4, h5⟩
  · exact .inl ⟨s, ⟨g, gy, h1.ext hb, h2.ext hb, h3⟩, h4, h5⟩
  · exact .inr ⟨S, l, ⟨h1.ext hb, h2.ext hb, h3⟩, h4, h5⟩
theorem PairY.drew {s : SupS} (h : PairY W w gp gd gx s) : PairY W w.drew gp gd gx s := by
  obtain ⟨g, gy, h1, h2, h3⟩ := h
  exact ⟨g, gy, h1, h2.ext (ext_drew (Below.refl _ _)), h3⟩
theorem Left.cells (h : Left W w gp gd gx N n) : w.cell? ⟨gp, 0, none⟩ = some (.pointer (some ⟨gd, 0, none⟩)) ∧ w.cell? ⟨gp, 1, none⟩ = some (.pointer (some ⟨gx, 0, none⟩)) := by
  obtain ⟨h0, h⟩ := h
  rcases h with ⟨s, ⟨g, gy, h1, _, _⟩, _, _⟩ | ⟨S, l, ⟨h1, _, _⟩, _, _⟩
  · exact ⟨h1.cell 0, h1.cell 1⟩
  · exact ⟨h1.cell 0, h1.cell 1⟩
theorem Left.mono {M : Nat} (h : Left W w gp gd gx N n) (hm : N ≤ M) : Left W w gp gd gx M n := by
  obtain ⟨h0, h⟩ := h
  refine ⟨h0, ?_⟩
  rcases h with ⟨s, h1, h4, h5⟩ | ⟨S, l, h1, h4, h5⟩
  · exact .inl ⟨s, h1, small_mono h4 hm, h5⟩
  · exact .inr ⟨S, l, h1, small_mono h4 hm, h5⟩
theorem Left.disks (h : Left W w gp gd gx N n) (hN : N ≤ 1000000) : Calls Tryd.prog 14 #[.pointer (some ⟨gd, 0, none⟩), .pointer (some ⟨gx, 0, none⟩)] w fun e w' => e = .returned (.bool true) ∧ Below w.heap.size w w' := by
  obtain ⟨h0, h⟩ := h
  rcases h with ⟨s, ⟨g, gy, _, h2, _⟩, h4, _⟩ | ⟨S, l, ⟨_, h2, _⟩, h4, _⟩
  · obtain ⟨fI, fR, _, ⟨gc, B, C, h5⟩, A, c, B', C', h6⟩ := h2.dk
    exact disks_any h5 h6 (small_mono h4 hN)
  · obtain ⟨fI, fR, _, ⟨gc, B, C, h5⟩, A, c, B', C', h6⟩ := h2
    exact disks_any h5 h6 (small_mono h4 hN)
theorem Begun.pair {g gy : Nat} {s : SupS} (h : Begun W w gp gd gx g gy s) (hb : Below W.heap.size W w) : PairY W w gp gd gx s := by
  obtain ⟨h1, h2, fI, fR, h3, h4, h5, h6, h7⟩ := h
  exact ⟨g, gy, h1, ⟨fI, fR, ⟨h5, fun k hk => (h6 k hk).1, fun k hk => (h7 k hk).1, fun k e => by subst e; exact ⟨fun hk => (h6 _ hk).2 rfl, fun hk => (h7 _ hk).2 rfl, h2.2⟩, hb⟩, h3, h4⟩, h2.1⟩
/-- what a question reads of both Supers -/
theorem Pr.cells {G : Nat → Prop} {g gy : Nat} {s : SupS} (h : Pr W w G gd gx g gy s s) : ∃ A c, w.cell? ⟨gy, 1, none⟩ = some (.slice A s.img.length c) ∧ w.cell? ⟨gy, 2, none⟩ = some (.int .i64 (s.N : Int)) ∧ w.cell? ⟨gy, 4, none⟩ = some (.bool s.dead) ∧ Bs w A s.img.length c s.img := by
  obtain ⟨fI, fR, _, _, fI', A, c, hp⟩ := h
  exact ⟨A, c, hp.blk.cell 1, hp.blk.cell 2, hp.blk.cell 4, hp.bs⟩
theorem Pr.image {G : Nat → Prop} {g gy : Nat} {s s2 : SupS} (h : Pr W w G gd gx g gy s s2) : Calls Tryd.prog 15 #[.pointer (some ⟨g, 0, none⟩)] w fun e w' => ∃ A c, e = .returned (.slice A s.img.length c) ∧ Bs w' A s.img.length c s.img ∧ Below w.heap.size w w' := by
  obtain ⟨fI, fR, _, h1, _⟩ := h
  refine (image_any h1).mono ?_
  rintro e w' ⟨A, c, rfl, hn, hb⟩
  exact ⟨A, c, rfl, hn.bs, hb⟩
theorem Pr.number {G : Nat → Prop} {g gy : Nat} {s s2 : SupS} (h : Pr W w G gd gx g gy s s2) : Calls Tryd.prog 16 #[.pointer (some ⟨g, 0, none⟩)] w fun e w' => e = .returned (.int .i64 (s.N : Int)) ∧ w = w' := by
  obtain ⟨fI, fR, _, h1, _⟩ := h
  exact number_of h1
theorem Pr.dead {G : Nat → Prop} {g gy : Nat} {s s2 : SupS} (h : Pr W w G gd gx g gy s s2) : Calls Tryd.prog 17 #[.pointer (some ⟨g, 0, none⟩)] w fun e w' => e = .returned (.bool s.dead) ∧ w = w' := by
  obtain ⟨fI, fR, _, h1, _⟩ := h
  exact dead_of h1
end
end Go.Proofs.YtlpjeopeboemmaaDoor

/-
  Disks that are written side by side; two lists of rows as one. No statement of the seat is proved here.
-/
namespace Go.Proofs.YtlpjeopeboemmaaDoor
open Go Go.RowKit

section
variable {W w w' : World} {G : Nat → Prop} {gd gx : Nat} {S S2 : Sec} {l l2 : Int}
theorem Dk.lt (h : Dk W w G gd gx S l S2 l2) {k : Nat} (hk : G k) : k < w.heap.size := by
  obtain ⟨fI, fR, ha, _⟩ := h
  exact (ha.g k hk).2.2
/-- what was made since is apart, too -/
theorem Dk.fresh (h : Dk W w G gd gx S l S2 l2) (hb : Below w.heap.size w w') : Dk W w' (fun k => G k ∨ (w.heap.size ≤ k ∧ k < w'.heap.size)) gd gx S l S2 l2 := by
  obtain ⟨fI, fR, ha, h1, A, c, B, C, h2⟩ := h
  refine ⟨fI, fR, (ha.ext hb).guard (fun k hk => ?_), h1.ext hb, A, c, B, C, h2.ext hb⟩
  rcases hk with hk | hk
  · exact (ha.ext hb).g k hk
  · exact ⟨fun hh => by have := (ha.b1 k hh).2; omega, fun hh => by have := (ha.b2 k hh).2; omega, hk.2⟩
theorem dk_write (h : Dk W w G gd gx S l S2 l2) (hs : Small 999999 S) (i : Int) (A : Option Addr) (n c : Nat) (bs : List UInt8) (hB : Bs w A n c bs) :
    Calls Tryd.prog 27 #[.pointer (some ⟨gd, 0, none⟩), .int .i64 i, .slice A n c] w fun e w' => e = .returned (.int .i64 (writeCode S.length l i bs)) ∧ Dk W w' G gd gx (writeS S l i bs) (writeL S.length l i bs) S2 l2 ∧ Kept G w w' := by
  obtain ⟨fI, fR, ha, h1, h2⟩ := h
  refine (write_all h1 hs i A n c bs hB.1 hB.2.2).mono ?_
  rintro e w' ⟨rfl, h3, ho⟩
  obtain ⟨ha', ho'⟩ := ha.left ho
  exact ⟨rfl, ⟨_, _, ha', h3, ref_only h2 ho' (fun k hk hh => hh.1 hk)⟩, kept_of ho' (fun k hk => (ha.g k hk).2.2)⟩
theorem dk_rwrite (h : Dk W w G gd gx S l S2 l2) (hs : Small 999999 S2) (i : Int) (A : Option Addr) (n c : Nat) (bs : List UInt8) (hB : Bs w A n c bs) (hG : ∀ ad, A = some ad → G ad.block) :
    Calls Tryd.prog 28 #[.pointer (some ⟨gx, 0, none⟩), .int .i64 i, .slice A n c] w fun e w' => e = .returned (.int .i64 (writeCode S2.length l2 i bs)) ∧ Dk W w' G gd gx S l (writeS S2 l2 i bs) (writeL S2.length l2 i bs) ∧ Kept G w w' := by
  obtain ⟨fI, fR, ha, h1, h2⟩ := h
  refine (rwrite_all h2 hs i A n c bs hB.1 ⟨hB.2.2, fun ad e _ => (ha.g _ (hG ad e)).2.1⟩).mono ?_
  rintro e w' ⟨rfl, h3, ho⟩
  obtain ⟨ha', ho'⟩ := ha.right ho
  exact ⟨rfl, ⟨_, _, ha', h1.only ho' (fun k hk hh => hh.1 hk), h3⟩, kept_of ho' (fun k hk => (ha.g k hk).2.2)⟩
theorem Bs.kept {A : Option Addr} {n c : Nat} {xs : List UInt8} (h : Bs w A n c xs) (hk : Kept G w w') (hG : ∀ ad, A = some ad → G ad.block) : Bs w' A n c xs :=
  ⟨h.1, h.2.1, h.2.2.keep (fun ad e _ => hk _ (hG ad e))⟩
/-- both disks, new -/
theorem Dk.new {gd gx : Nat} {w1 w2 : World} (hI : Imp w1 (Born w w1) gd S l) (hR : Ref w2 (Born w1 w2) gx S2 l2) (hb : Below W.heap.size W w) (hb1 : Below w.heap.size w w1) (hb2 : Below w1.heap.size w1 w2) : Dk W w2 (fun _ => False) gd gx S l S2 l2 := by
  have z := hb.size
  have z1 := hb1.size
  have z2 := hb2.size
  exact ⟨Born w w1, Born w1 w2, ⟨fun k h1 h2 => by have := h1.2; have := h2.1; omega, fun k hk => ⟨by have := hk.1; omega, by have := hk.2; omega⟩, fun k hk => ⟨by have := hk.1; omega, hk.2⟩, fun k hk => hk.elim, ext_trans (ext_trans hb hb1) hb2⟩, hI.ext hb2, hR⟩
end

/-- two lists of rows, the second appended onto the first -/
theorem out_append_all {w w1 w2 : World} {A1 A2 : Option Addr} {c1 c2 : Nat} {P1 P2 : List (List UInt8)} (hb1 : Below w.heap.size w w1) (hb2 : Below w1.heap.size w1 w2) (h1 : OutAt w.heap.size w1 A1 c1 P1) (h2 : OutAt w1.heap.size w2 A2 c2 P2) :
    ∃ vs1 vs2, vs1.length = P1.length ∧ vs2.length = P2.length ∧ Own w2 (fun k => inA A1 k) 22 A1 c1 vs1 ∧ Rd w2 A2 vs2 ∧ (∀ u ∈ vs2, u.oneCell' = true) ∧
      (∀ (w3 : World) (A3 : Option Addr) (c3 : Nat), Own w3 (More (fun k => inA A1 k) w2 w3) 22 A3 c3 (vs1 ++ vs2) → Only (fun k => inA A1 k) w2 w3 → RowsF (fun k => k < w.heap.size) w3 A3 (P1 ++ P2) ∧ Below w.heap.size w w3) := by
  obtain ⟨vs1, o1, l1, b1, r1⟩ := h1
  obtain ⟨vs2, o2, l2, b2, r2⟩ := h2
  have hlt : ∀ k, inA A1 k → k < w1.heap.size := fun k hk => own_lt o1 hk
  refine ⟨vs1, vs2, l1, l2, o1.ext hb2, o2.rd, fun u hu => ?_, fun w3 A3 c3 ho3 ho => ?_⟩
  · obtain ⟨i, hi, rfl⟩ := List.mem_iff_getElem.1 hu
    obtain ⟨B, cb, e, -⟩ := r2 i _ _ (List.getElem?_eq_getElem hi) (List.getElem?_eq_getElem (by omega))
    rw [e]; rfl
  · refine ⟨⟨vs1 ++ vs2, ⟨ho3.rd, fun ad e _ hk => ?_⟩, by simp [l1, l2], fun j v xs hv hx => ?_⟩, (ext_trans hb1 hb2).trans (ho.below (fun k hk => b1 k hk) (ext_trans hb1 hb2).size)⟩
    · rcases ho3.2 ad e with h | h
      · have := b1 _ h; omega
      · have := hb1.size; have := hb2.size; omega
    · rw [List.getElem?_append] at hv hx
      rw [l1] at hv
      by_cases hj : j < P1.length
      · rw [if_pos hj] at hv hx
        obtain ⟨B, cb, e, hc, hr, hn⟩ := r1 j v xs hv hx
        exact ⟨B, cb, e, hc, (hr.ext hb2).only ho (fun ad ea _ hk => (hn ad ea).2.2 hk), fun ad ea _ hk => by have := (hn ad ea).1; omega⟩
      · rw [if_neg hj] at hv hx
        obtain ⟨B, cb, e, hc, hr, hn⟩ := r2 _ v xs hv hx
        exact ⟨B, cb, e, hc, hr.only ho (fun ad ea _ hk => by have := hlt _ hk; have := (hn ad ea).1; omega), fun ad ea _ hk => by have := (hn ad ea).1; have := hb1.size; omega⟩
theorem RdF.kept {w w' : World} {B0 N : Nat} {A : Option Addr} {xs : List Value} (h : RdF (fun k => k < B0) w A xs) (hN : w.heap.size ≤ N) (hk : Kept (fun k => B0 ≤ k ∧ k < N) w w') : RdF (fun k => k < B0) w' A xs := by
  refine ⟨?_, h.2⟩
  rcases xs with _ | ⟨x, r⟩
  · exact Rd.nil _ _
  · exact h.1.keep (fun ad e hl => hk _ ⟨Nat.not_lt.1 (h.2 ad e (by simp)), by omega⟩)
theorem RowsF.kept {w w' : World} {B0 N : Nat} {A : Option Addr} {xss : List (List UInt8)} (h : RowsF (fun k => k < B0) w A xss) (hN : w.heap.size ≤ N) (hk : Kept (fun k => B0 ≤ k ∧ k < N) w w') : RowsF (fun k => k < B0) w' A xss := by
  obtain ⟨vs, h1, h2, h3⟩ := h
  refine ⟨vs, h1.kept hN hk, h2, fun j v xs hv hx => ?_⟩
  obtain ⟨B, c, e, hc, hr⟩ := h3 j v xs hv hx
  exact ⟨B, c, e, hc, hr.kept hN hk⟩

theorem mask6 (v : Int) : ∃ m : Nat, bits .and .u8 v 63 = (m : Int) ∧ m < 64 := by
  have hx : (BitVec.ofInt 8 v &&& BitVec.ofInt 8 63).toNat ≤ 63 := by
    rw [BitVec.toNat_and]
    exact Nat.le_trans Nat.and_le_right (by decide)
  have h : bits .and .u8 v 63 = ((BitVec.ofInt 8 v &&& BitVec.ofInt 8 63).toNat : Int) := by
    show IntKind.u8.wrap ((BitVec.ofInt 8 v &&& BitVec.ofInt 8 63).toNat : Int) = _
    rw [IntKind.wrap_u8]; omega
  exact ⟨_, h, by omega⟩
theorem xor_byte (a b : Int) : 0 ≤ bits .xor .u8 a b ∧ bits .xor .u8 a b ≤ 255 := by
  show 0 ≤ IntKind.u8.wrap _ ∧ IntKind.u8.wrap _ ≤ 255
  rw [IntKind.wrap_u8]
  omega
/-- one byte of a row anew -/
theorem Bs.set1 {w : World} {g n c x : Nat} {xs : List UInt8} (h : Bs w (some ⟨g, 0, none⟩) n c xs) (hx : x < xs.length) (hf : w.frozen? ⟨g, x, none⟩ = false) (u : UInt8) : Bs (w.setCell ⟨g, x, none⟩ (bv u)) (some ⟨g, 0, none⟩) n c (xs.set x u) := by
  refine ⟨by rw [List.length_set]; exact h.1, by rw [List.length_set]; exact h.2.1, fun j v hv => ⟨_, rfl, ?_⟩⟩
  rw [List.map_set, List.getElem?_set] at hv
  obtain ⟨ad, e, hc⟩ := h.2.2 x (bv xs[x]) (by simp [hx])
  injection e with e; subst e
  rw [Addr.add_mid, Nat.zero_add] at hc ⊢
  by_cases ej : x = j
  · subst ej
    rw [if_pos rfl, if_pos (by rw [List.length_map]; exact hx)] at hv
    injection hv with hv
    rw [← hv]
    exact World.cell?_setCell_same' w _ _ (by rw [hc]; rfl)
  · rw [if_neg ej] at hv
    obtain ⟨ad', e', hc'⟩ := h.2.2 j v hv
    injection e' with e'; subst e'
    rw [Addr.add_mid, Nat.zero_add] at hc'
    refine (World.cell?_setCell_other w ⟨g, x, none⟩ ⟨g, j, none⟩ (bv u) (fun hh => ?_)).trans hc'
    injection hh with _ hh _
    exact ej hh
/-- new bytes, at least one: where they lie -/
theorem new_at {w w' : World} {A : Option Addr} {c : Nat} {xs : List UInt8} (h : New w w' A c xs) (hx : 0 < xs.length) : ∃ g, A = some ⟨g, 0, none⟩ ∧ ∀ i, w'.frozen? ⟨g, i, none⟩ = false := by
  rcases h.1.2 with ⟨_, h0⟩ | ⟨g, cap, cur, h1, _, hg, _⟩
  · rw [List.length_map] at h0; omega
  · injection h1 with h1 _ _
    exact ⟨g, h1, fun i => frozen_of_row w' g i _ _ hg⟩
theorem new_cell {w w' : World} {g c x : Nat} {xs : List UInt8} (h : New w w' (some ⟨g, 0, none⟩) c xs) (hx : x < xs.length) : w'.cell? ⟨g, x, none⟩ = some (.int .u8 (xs[x].toNat : Int)) := by
  obtain ⟨ad, e, hc⟩ := h.rd x (bv xs[x]) (by simp [hx])
  injection e with e; subst e
  rw [Addr.add_mid, Nat.zero_add] at hc
  exact hc
section
open Go.ChangeShapes
variable {H : Type} {enc : TypeId × Value → H} {P : Program} {w : World} {base : Nat} {spare : Nat → Bool} {held : Bool}
theorem trodAll_six {t0 t1 t2 t3 t4 t5 : TypeId} {args : Array Value} {ds : List (DataW H)} {ps : List MemPlace} (h : DataW.TrodAll enc P w base spare held [t0, t1, t2, t3, t4, t5] args.toList ds ps) :
    ∃ v0 v1 v2 v3 v4 v5 d0 d1 d2 d3 d4 d5 p0 p1 p2 p3 p4 p5, args = #[v0, v1, v2, v3, v4, v5] ∧ ds = [d0, d1, d2, d3, d4, d5] ∧ ps = p0 ++ p1 ++ p2 ++ p3 ++ p4 ++ p5 ∧
      DataW.Trod enc P w base spare held t0 v0 d0 p0 ∧ DataW.Trod enc P w base spare held t1 v1 d1 p1 ∧ DataW.Trod enc P w base spare held t2 v2 d2 p2 ∧ DataW.Trod enc P w base spare held t3 v3 d3 p3 ∧ DataW.Trod enc P w base spare held t4 v4 d4 p4 ∧ DataW.Trod enc P w base spare held t5 v5 d5 p5 := by
  obtain ⟨v0, vs0, d0, ds0, p0, q0, hargs, rfl, rfl, h0, r0⟩ := trodAll_cons h
  obtain ⟨v1, vs1, d1, ds1, p1, q1, rfl, rfl, rfl, h1, r1⟩ := trodAll_cons r0
  obtain ⟨v2, vs2, d2, ds2, p2, q2, rfl, rfl, rfl, h2, r2⟩ := trodAll_cons r1
  obtain ⟨v3, vs3, d3, ds3, p3, q3, rfl, rfl, rfl, h3, r3⟩ := trodAll_cons r2
  obtain ⟨v4, vs4, d4, ds4, p4, q4, rfl, rfl, rfl, h4, r4⟩ := trodAll_cons r3
  obtain ⟨v5, vs5, d5, ds5, p5, q5, rfl, rfl, rfl, h5, r5⟩ := trodAll_cons r4
  obtain ⟨rfl, rfl, rfl⟩ := trodAll_nil r5
  exact ⟨v0, v1, v2, v3, v4, v5, d0, d1, d2, d3, d4, d5, p0, p1, p2, p3, p4, p5, by cases args; simp_all, rfl, by simp, h0, h1, h2, h3, h4, h5⟩
end
/-- a number that is a byte, as one -/
theorem byte_of {r : Int} (h0 : 0 ≤ r) (h1 : r ≤ 255) : ∃ u : UInt8, Value.int .u8 r = bv u := by
  refine ⟨UInt8.ofNat r.toNat, ?_⟩
  unfold bv
  rw [show ((UInt8.ofNat r.toNat).toNat : Int) = r by
    rw [UInt8.toNat_ofNat_of_lt' (by show r.toNat < 256; omega)]; omega]
end Go.Proofs.YtlpjeopeboemmaaDoor
