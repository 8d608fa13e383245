/-
  Texts of this claim, joined (part 9): contracts and lemmas that the last text goes by. No statement of the seat is proved here.
-/
import Derived.Test.YtpjgkacekelkdaaGreatDoorAll0
import Derived.Test.YtpjgkacekelkdaaGreatDoorAll7
import Derived.Test.YtpjgkacekelkdaaGreatDoorAll8
import Derived.Test.YtpjgkacekelkdaaGreatDoorAll5
set_option linter.unusedVariables false
set_option linter.unusedSimpArgs false
/-
  Encode (program). No statement of the seat is proved here.
-/
namespace Go.Proofs.YtpjgkacekelkdaaGreatDoor
open Go Go.RowKit
set_option maxRecDepth 100000

theorem rowsTo_lenD (l : List (List UInt8)) (h : ∀ s ∈ l, s.length ≤ 4096) : ∀ k, (rowsTo l k).length ≤ 4105 * k
  | 0 => by simp [rowsTo, rowsB]
  | k + 1 => by
    have ih := rowsTo_lenD l h k
    by_cases hk : k < l.length
    · rw [rowsTo_succ l k hk, List.length_append, List.length_append]
      have h1 := h _ (List.getElem_mem hk)
      have h2 : (dig l[k].length).length ≤ 9 := dig_len 9 _ (by have : (128 : Nat) ^ 9 = 9223372036854775808 := rfl; omega) (by omega)
      omega
    · have e : rowsTo l (k + 1) = rowsTo l k := by
        unfold rowsTo
        rw [List.take_of_length_le (by omega), List.take_of_length_le (by omega)]
      rw [e]
      omega
theorem rowsB_lenD (s : List UInt8) (h : s.length ≤ 2000000) : (rowsB [s]).length ≤ 2000009 := by
  rw [rowsB_sing, List.length_append]
  have h2 : (dig s.length).length ≤ 9 := dig_len 9 _ (by have : (128 : Nat) ^ 9 = 9223372036854775808 := rfl; omega) (by omega)
  omega
/-- how long it can be -/
theorem encD_len {l : List (List UInt8)} (h : mayD l = true) : (encD l).length ≤ 200000000 := by
  obtain ⟨h1, h2⟩ := (mayD_iff l).1 h
  have hw := wordsT_len l
  have hL := rowsTo_lenD (wordsT l) (fun s hs => h2 s (wordsT_mem.1 hs)) (wordsT l).length
  rw [rowsTo_all] at hL
  have hb := rowsB_lenD (bestP (placesT l)) (best_len (places_may h1) (by rw [placesT_len]; omega))
  have hn := dig_nine ((wordsT l).length : Int)
  unfold encD
  rw [List.length_append, List.length_append]
  omega
theorem mayD_len {l : List (List UInt8)} (h : ¬ l.length ≤ 32768) : mayD l = false := by unfold mayD; rw [decide_eq_false h]; rfl

set_option maxHeartbeats 8000000 in
theorem encodeD_any (A : Option Addr) (c : Nat) (l : List (List UInt8)) (w : World) (hA : Rd w A (l.map strV)) (h0 : A = none → c = 0) (hl : l.length ≤ 1000000) (hs : ∀ s ∈ l, s.length ≤ maxLen) :
    Calls Tryz.prog 18 #[.slice A l.length c] w fun e w' => ∃ A' c', e = .returned (.tuple #[.slice A' (ansD l).1.length c', .int .i64 (ansD l).2]) ∧ New w w' A' c' (ansD l).1 ∧ Below w.heap.size w w' := by
  by_cases h1 : l.length ≤ 32768
  case neg =>
    have h1i : (32768 : Int) < (l.length : Int) := by omega
    have HR : Hid (ansD l = ([], 1)) := Lib.hid (by unfold ansD; rw [mayD_len h1]; rfl)
    clear hA hs h0
    go_enter Tryz.func18, Tryz.ntmps18
    go_wp2
    go_ret2
    rw [HR.out]
    exact ⟨none, 0, rfl, Own.none_ _ _ _, Below.refl _ _⟩
  have h1i : ¬ (32768 : Int) < (l.length : Int) := by omega
  have HC := Lib.hid (containsD_any A c l w hA hl hs)
  cases hm : l.any longT with
  | true =>
    have HR : Hid (ansD l = ([], 1)) := Lib.hid (by unfold ansD mayD; rw [hm]; simp)
    rw [hm] at HC
    clear hA hs h0 hm
    go_enter Tryz.func18, Tryz.ntmps18
    go_wp2_with fail
    refine HC.out.mono ?_
    rintro e w1 ⟨rfl, rfl⟩
    go_wp2
    go_ret2
    rw [HR.out]
    exact ⟨none, 0, rfl, Own.none_ _ _ _, Below.refl _ _⟩
  | false =>
    have hmy : mayD l = true := by unfold mayD; rw [hm, decide_eq_true h1]; rfl
    have h4 := ((mayD_iff l).1 hmy).2
    have HR : Hid (ansD l = (encD l, 0)) := Lib.hid (by unfold ansD; rw [if_pos hmy])
    have HWd := Lib.hid (words_any A c l hA h0 hl)
    have HWl := Lib.hid (wordsT_len l)
    have H4 : Hid (∀ s ∈ wordsT l, s.length ≤ 4096) := Lib.hid (fun s hs => h4 s (wordsT_mem.1 hs))
    have HPl : Hid (∀ (B : Option Addr) (d : Nat) (W : World), Below w.heap.size w W → Rd W B ((wordsT l).map strV) → Calls Tryz.prog 49 #[.slice A l.length c, .slice B (wordsT l).length d] W fun e w' => ∃ G, e = .returned (.slice (some ⟨G, 0, none⟩) l.length l.length) ∧ Rd w' (some ⟨G, 0, none⟩) ((placesT l).map iv) ∧ Below W.heap.size W w') := Lib.hid (fun B d W hb hB => placesOf_any A c l B d (wordsT l) W (hA.ext hb) hB (wordsT_rises l).calm h1 (by have := wordsT_len l; omega))
    have HBs : Hid (∀ (G : Nat) (W : World), Rd W (some ⟨G, 0, none⟩) ((placesT l).map iv) → WayC 17 (some ⟨G, 0, none⟩) l.length l.length (bestP (placesT l)) W) := Lib.hid (fun G W hW => by
      have h := way_of (places_may h1) (bBest_any (some ⟨G, 0, none⟩) l.length (placesT l) W hW)
      rw [placesT_len] at h
      exact h)
    have HE : Hid (encD l = numsB [((wordsT l).length : Int)] ++ (rowsTo (wordsT l) (wordsT l).length ++ rowsB [bestP (placesT l)])) := Lib.hid (by rw [rowsTo_all]; rfl)
    have HBl : Hid ((bestP (placesT l)).length ≤ 2000000) := Lib.hid (best_len (places_may h1) (by rw [placesT_len]; omega))
    rw [hm] at HC
    unfold WayC at HBs
    generalize placesT l = PL at *
    generalize wordsT l = Wd at *
    generalize bestP PL = b at *
    have HL := Lib.hid (rowsTo_lenD Wd H4.out)
    have HN1 : Hid ((numsB [(Wd.length : Int)]).length ≤ 9) := Lib.hid (dig_nine _)
    have Hli : Hid ((Wd.length : Int) ≤ 32768) := Lib.hid (by have := HWl.out; omega)
    clear hA hs h0 hm hmy h4
    go_enter Tryz.func18, Tryz.ntmps18
    go_wp2_with fail
    refine HC.out.mono ?_
    rintro e w1 ⟨rfl, rfl⟩
    clear HC
    go_wp2_with fail
    refine HWd.out.mono ?_
    rintro e w1 ⟨A1, c1, rfl, hN⟩
    have HX := Lib.hid (HPl.out A1 c1 w1 hN.bel hN.rd)
    have Hb1 := Lib.hid hN.bel
    have Hr1 := Lib.hid hN.rd
    clear hN HPl HWd
    go_wp2_with fail
    refine HX.out.mono ?_
    rintro e w2 ⟨G, rfl, hr2, hb2⟩
    have HY := Lib.hid (HBs.out G w2 hr2)
    have Hb2 := Lib.hid (ext_trans Hb1.out hb2)
    have Hr2 := Lib.hid (Hr1.out.ext hb2)
    clear hr2 hb2 HX HBs
    go_wp2_with fail
    refine HY.out.mono ?_
    rintro e w3 ⟨A3, c3, rfl, hr3, hc3, hb3⟩
    have Hb3 := Lib.hid (ext_trans Hb2.out hb3)
    have Hr3 := Lib.hid (Hr2.out.ext hb3)
    have Hp3 := Lib.hid hr3
    have Hc3 := Lib.hid hc3
    clear hr3 hb3 hc3 HY Hr2 Hr1
    obtain ⟨W4, hW4⟩ : ∃ W4, W4 = w3.alloc (.cells #[.slice none 0 0] 55) := ⟨_, rfl⟩
    have HWr : Hid (Wr W4 (fun k => k = w3.heap.size) w3.heap.size []) := Lib.hid (by rw [hW4]; exact Wr.new w3 _ rfl)
    have HZ4 : Hid (W4.heap.size = w3.heap.size + 1) := Lib.hid (by rw [hW4, World.size_alloc])
    have Hb4 : Hid (Below w3.heap.size w3 W4) := Lib.hid (by rw [hW4]; exact ext_alloc (Below.refl _ _) _)
    have HW4 := Lib.hid hW4
    have hwi : isInt (Wd.length : Int) := ⟨by omega, by have := Hli.out; omega⟩
    have Hwi := Lib.hid hwi
    obtain ⟨g, hg⟩ : ∃ g, w3.heap.size = g := ⟨_, rfl⟩
    clear hW4 hwi
    go_wp2_with fail
    rw [← HW4.out]
    rw [hg] at HWr HZ4
    have Hg := Lib.hid hg
    clear hg
    refine (nums_any (fun k => k = g) g (some ⟨g + 1, 0, none⟩) 1 1 [(Wd.length : Int)] [] _ (HWr.out.alloc _) rfl (RdF.lit W4 #[.int .i64 (Wd.length : Int)] _ HZ4.out.symm (by omega)) (by
      intro v hv
      simp only [List.mem_cons, List.not_mem_nil, or_false] at hv
      subst hv
      exact Hwi.out) (by simp)).mono ?_
    rintro e w5 ⟨rfl, hr5, ho5⟩
    obtain ⟨Nb, hN⟩ : ∃ N, numsB [(Wd.length : Int)] = N := ⟨_, rfl⟩
    rw [hN] at hr5 HE HN1
    rw [List.nil_append] at hr5
    have hO5 : Only (fun k => k = g) W4 w5 := ((Only.refl _ _).alloc _).trans ho5 (fun _ _ h => h)
    have HR5 : Hid (Wr w5 (More (fun k => k = g) W4 w5) g (Nb.map bv)) := Lib.hid (wr_more (by simp) hr5)
    have HO5 := Lib.hid hO5
    have HK : Hid (∀ W, Only (fun k => k = g) W4 W → Below w3.heap.size w3 W) := Lib.hid (fun W ho => Hb4.out.trans (ho.below (fun i hi => by have := Hg.out; omega) Hb4.out.size))
    clear hN hr5 ho5 hO5
    have hli2 : (Wd.length : Int) ≤ 32768 := Hli.out
    go_wp2
    go_loopw [37] (fun i wr => ∃ k : Nat, k ≤ Wd.length ∧ i = .int .i64 (k : Int) ∧ Wr wr (More (fun k => k = g) W4 wr) g ((Nb ++ rowsTo Wd k).map bv) ∧ Only (fun k => k = g) W4 wr) (fun i _ => Wd.length - (intOf i).toNat)
    case atStart => exact ⟨0, Nat.zero_le _, rfl, by simpa [rowsTo, rowsB] using HR5.out, HO5.out⟩
    case round =>
      obtain ⟨k, hk, rfl, hr, ho⟩ := hrel
      have Hr := Lib.hid hr
      have Ho := Lib.hid ho
      have hll := HL.out k
      have hnl := HN1.out
      have hwl2 := HWl.out
      by_cases hlt : k < Wd.length
      · have hki : (k : Int) < (Wd.length : Int) := by omega
        obtain ⟨ad, hB, hcell⟩ := rd_str (Hr3.out.ext (HK.out wr ho)) hlt
        subst hB
        have Hsn : Hid (Nb ++ rowsTo Wd (k + 1) = (Nb ++ rowsTo Wd k) ++ rowsB [Wd[k]]) := Lib.hid (by rw [rowsTo_succ Wd k hlt, rowsB_sing]; simp)
        have Hll : Hid ((rowsB [Wd[k]]).length ≤ 2000009) := Lib.hid (rowsB_lenD _ (by have := H4.out _ (List.getElem_mem hlt); omega))
        have Hpre : Hid (Nb.length + (rowsTo Wd k).length ≤ 200000000) := Lib.hid (by omega)
        generalize Wd[k] = s at *
        obtain ⟨cc, wc, hcv, hcc, hrc, hbc, hzc⟩ := str_row wr s
        unfold strV at hcell
        have Hrc := Lib.hid hrc
        have Hbc := Lib.hid hbc
        have Hzc := Lib.hid hzc
        have Hcc := Lib.hid hcc
        clear hr ho hrc hbc hzc hll hnl hcc hwl2
        go_wp2_with fail
        refine (bytes_any (More (fun k => k = g) W4 wr) g _ 1 1 [s] ((Nb ++ rowsTo Wd k).map bv) _ ((Hr.out.ext Hbc.out).alloc _) rfl (RowsF.one ⟨Hrc.out, fun ad e _ hm => ?_⟩ Hcc.out _ rfl (fun hm => ?_)) (by simp only [List.length_map, List.length_append]; have := Hpre.out; have := Hll.out; omega) (by simp)).mono ?_
        · injection e with e
          subst e
          rcases hm with hm | hm
          · have h1 := Ho.out.size; have h2 := HZ4.out; simp at hm; omega
          · have := hm.2; simp at this
        · rcases hm with hm | hm
          · have h1 := Ho.out.size; have h2 := HZ4.out; have h3 := Hzc.out; omega
          · have := hm.2; have h3 := Hzc.out; omega
        rintro e w6 ⟨rfl, hr6, ho6⟩
        have hOb : Only (fun k => k = g) W4 (wc.alloc (.cells #[.slice (some ⟨wr.heap.size, 0, none⟩) s.length cc] 26)) := (Ho.out.trans (Only.of_ext Hbc.out) (fun _ _ h => h)).alloc _
        have hR6 : Wr w6 (More (fun k => k = g) W4 w6) g ((Nb ++ rowsTo Wd (k + 1)).map bv) := by
          rw [Hsn.out, List.map_append]
          exact Wr.join Ho.out.size (by rw [World.size_alloc, Hzc.out]; omega) ho6.size hr6
        have hO6 := hOb.join ho6
        have HR6 := Lib.hid hR6
        have HO6 := Lib.hid hO6
        clear hr6 ho6 hOb hR6 hO6
        go_wp2
        go_roundw
        case rel => exact ⟨k + 1, by omega, by go_num, HR6.out, HO6.out⟩
        case measure => simp [intOf]; omega
      · obtain rfl : k = Wd.length := by omega
        have Hpre : Hid (Nb.length + (rowsTo Wd Wd.length).length ≤ 200000000) := Lib.hid (by omega)
        have Hbl : Hid ((rowsB [b]).length ≤ 2000009) := Lib.hid (rowsB_lenD _ HBl.out)
        have Hpb : Hid (RdF (More (fun k => k = g) W4 wr) wr A3 (b.map bv)) := Lib.hid ⟨Hp3.out.ext (HK.out wr ho), fun ad e hne hm => by
          have hlt : ad.block < w3.heap.size := by
            rcases hb : b.map bv with _ | ⟨x, r⟩
            · exact absurd hb hne
            · obtain ⟨ad', e', hc⟩ := Hp3.out 0 x (by rw [hb]; rfl)
              rw [e] at e'
              injection e' with e'
              subst e'
              have := World.block_lt_of_cell? w3 _ hc
              rw [block_add] at this
              exact this
          have h1 := Hg.out
          have h2 := HZ4.out
          rcases hm with hm | hm
          · omega
          · have := hm.1; omega⟩
        have hsz := Ho.out.size
        have hz4 := HZ4.out
        have Hgw : Hid (¬ More (fun k => k = g) W4 wr wr.heap.size) := Lib.hid (fun hm => by
          rcases hm with hm | hm
          · omega
          · have := hm.2; omega)
        clear hr ho hll hnl hwl2 hsz hz4
        go_wp2_with fail
        refine (bytes_any (More (fun k => k = g) W4 wr) g _ 1 1 [b] ((Nb ++ rowsTo Wd Wd.length).map bv) _ (Hr.out.alloc _) rfl (RowsF.one Hpb.out Hc3.out _ rfl Hgw.out) (by simp only [List.length_map, List.length_append]; have := Hpre.out; have := Hbl.out; omega) (by simp)).mono ?_
        rintro e w6 ⟨rfl, hr6, ho6⟩
        have hR6 : Wr w6 (More (fun k => k = g) W4 w6) g (((Nb ++ rowsTo Wd Wd.length) ++ rowsB [b]).map bv) := by
          rw [List.map_append]
          exact Wr.join Ho.out.size (by rw [World.size_alloc]; omega) ho6.size hr6
        have hO6 := (Ho.out.alloc (.cells #[.slice A3 b.length c3] 26)).join ho6
        have HF := Lib.hid (out_any _ g ((Nb ++ rowsTo Wd Wd.length) ++ rowsB [b]) w6 hR6 (by rw [List.length_append, List.length_append]; have := Hpre.out; have := Hbl.out; omega))
        rw [List.append_assoc, ← HE.out] at HF
        have Hbw := Lib.hid (ext_trans Hb3.out (HK.out w6 hO6))
        clear hr6 ho6 hR6 hO6
        go_wp2_with fail
        refine HF.out.mono ?_
        rintro e w7 ⟨A7, c7, rfl, hn7, hb7⟩
        have Hn7 := Lib.hid (hn7.back Hbw.out.size)
        have Hb7 := Lib.hid (ext_trans Hbw.out hb7)
        clear hn7 hb7
        go_wp2
        go_ret2
        rw [HR.out]
        exact ⟨A7, c7, rfl, Hn7.out, Hb7.out⟩
end Go.Proofs.YtpjgkacekelkdaaGreatDoor

/-
  Segments as bytes, read back, joined: mathematics. No statement of the seat is proved here.
-/
namespace Go.Proofs.YtpjgkacekelkdaaGreatDoor
open Go Go.RowKit
set_option maxRecDepth 100000

/-- a line by its template -/
structure Ln where
  id : Int
  vars : List (List UInt8)
/-- lines from a number on -/
structure Sg where
  first : Int
  lines : List Ln
theorem Ln.ext' {a b : Ln} (h1 : a.id = b.id) (h2 : a.vars = b.vars) : a = b := by cases a; cases b; simp_all
theorem Sg.ext' {a b : Sg} (h1 : a.first = b.first) (h2 : a.lines = b.lines) : a = b := by cases a; cases b; simp_all
def longV (v : List UInt8) : Bool := decide (256 < v.length)
/-- no segment has such a line -/
def wrongG (l : Ln) : Bool := decide (l.id < 0) || (decide (64 ≤ l.id) || (decide (64 < l.vars.length) || l.vars.any longV))
def isG (s : Sg) : Bool := decide (0 ≤ s.first ∧ s.first ≤ 34359738368 ∧ 1 ≤ s.lines.length ∧ s.lines.length ≤ 512) && !(s.lines.any wrongG)
theorem wrongG_no (l : Ln) : wrongG l = false ↔ 0 ≤ l.id ∧ l.id < 64 ∧ l.vars.length ≤ 64 ∧ ∀ v ∈ l.vars, v.length ≤ 256 := by
  unfold wrongG
  rw [Bool.or_eq_false_iff, Bool.or_eq_false_iff, Bool.or_eq_false_iff, decide_eq_false_iff_not, decide_eq_false_iff_not, decide_eq_false_iff_not, List.any_eq_false]
  constructor
  · rintro ⟨h1, h2, h3, h4⟩
    exact ⟨by omega, by omega, by omega, fun v hv => by have := h4 v hv; simp [longV] at this; exact this⟩
  · rintro ⟨h1, h2, h3, h4⟩
    exact ⟨by omega, by omega, by omega, fun v hv => by have := h4 v hv; simp [longV]; exact this⟩
theorem isG_iff (s : Sg) : isG s = true ↔ (0 ≤ s.first ∧ s.first ≤ 34359738368 ∧ 1 ≤ s.lines.length ∧ s.lines.length ≤ 512) ∧ ∀ l ∈ s.lines, 0 ≤ l.id ∧ l.id < 64 ∧ l.vars.length ≤ 64 ∧ ∀ v ∈ l.vars, v.length ≤ 256 := by
  unfold isG
  rw [Bool.and_eq_true, decide_eq_true_eq, Bool.not_eq_true', List.any_eq_false]
  exact and_congr Iff.rfl ⟨fun h l hl => (wrongG_no l).1 (by have := h l hl; simpa using this), fun h l hl => by have := (wrongG_no l).2 (h l hl); simp [this]⟩

/-! ### columns -/
def idsG (l : List Ln) : List Int := l.map Ln.id
def cntG (l : List Ln) : List Int := l.map fun x => (x.vars.length : Int)
def varG (l : List Ln) : List (List UInt8) := l.flatMap Ln.vars
theorem varG_len (l : List Ln) (h : ∀ x ∈ l, x.vars.length ≤ 64) : (varG l).length ≤ 64 * l.length := by
  unfold varG
  induction l with
  | nil => simp
  | cons a r ih =>
    rw [List.flatMap_cons, List.length_append, List.length_cons]
    have := h a (List.mem_cons_self ..)
    have := ih fun x hx => h x (List.mem_cons_of_mem _ hx)
    omega
theorem ids_may {l : List Ln} (hl : l.length ≤ 512) (h : ∀ x ∈ l, 0 ≤ x.id ∧ x.id < 64) : mayP (idsG l) = true :=
  (mayP_iff _).2 ⟨by simp [idsG]; omega, fun v hv => by
    obtain ⟨x, hx, rfl⟩ := List.mem_map.1 hv
    have := h x hx
    omega⟩
theorem cnt_may {l : List Ln} (hl : l.length ≤ 512) (h : ∀ x ∈ l, x.vars.length ≤ 64) : mayP (cntG l) = true :=
  (mayP_iff _).2 ⟨by simp [cntG]; omega, fun v hv => by
    obtain ⟨x, hx, rfl⟩ := List.mem_map.1 hv
    have := h x hx
    omega⟩
theorem var_may {l : List Ln} (hl : l.length ≤ 512) (h : ∀ x ∈ l, x.vars.length ≤ 64 ∧ ∀ v ∈ x.vars, v.length ≤ 256) : mayD (varG l) = true :=
  (mayD_iff _).2 ⟨by have := varG_len l fun x hx => (h x hx).1; omega, fun v hv => by
    obtain ⟨x, hx, hv⟩ := List.mem_flatMap.1 hv
    have := (h x hx).2 v hv
    omega⟩
def bodyG (s : Sg) : List UInt8 := numsB [s.first] ++ rowsB [bestP (idsG s.lines), bestP (cntG s.lines), encD (varG s.lines)]
def encG (s : Sg) : List UInt8 := sealB (bodyG s)
/-- an Encode's answer -/
def ansG (s : Sg) : List UInt8 × Int := if isG s = true then (encG s, 0) else ([], 1)
theorem encD_len2 {l : List (List UInt8)} (h : mayD l = true) : (encD l).length ≤ 140000000 := by
  obtain ⟨h1, h2⟩ := (mayD_iff l).1 h
  have hw := wordsT_len l
  have hL := rowsTo_lenD (wordsT l) (fun s hs => h2 s (wordsT_mem.1 hs)) (wordsT l).length
  rw [rowsTo_all] at hL
  have hb := rowsB_lenD (bestP (placesT l)) (best_len (places_may h1) (by rw [placesT_len]; omega))
  have hn := dig_nine ((wordsT l).length : Int)
  unfold encD
  rw [List.length_append, List.length_append]
  omega
theorem bodyG_len {s : Sg} (h : isG s = true) : (bodyG s).length ≤ 150000000 := by
  obtain ⟨⟨h1, h2, h3, h4⟩, h5⟩ := (isG_iff s).1 h
  have b1 := best_len (ids_may h4 fun x hx => ⟨(h5 x hx).1, (h5 x hx).2.1⟩) (by simp [idsG]; omega)
  have b2 := best_len (cnt_may h4 fun x hx => (h5 x hx).2.2.1) (by simp [cntG]; omega)
  have b3 := encD_len2 (var_may h4 fun x hx => (h5 x hx).2.2)
  have d : ∀ n : Nat, n ≤ 400000000 → (dig n).length ≤ 9 := fun n hn => dig_len 9 _ (by have : (128 : Nat) ^ 9 = 9223372036854775808 := rfl; omega) (by omega)
  have e : rowsB [bestP (idsG s.lines), bestP (cntG s.lines), encD (varG s.lines)] = rowsB [bestP (idsG s.lines)] ++ (rowsB [bestP (cntG s.lines)] ++ rowsB [encD (varG s.lines)]) := by simp [rowsB]
  have n1 := dig_nine s.first
  have d1 := d (bestP (idsG s.lines)).length (by omega)
  have d2 := d (bestP (cntG s.lines)).length (by omega)
  have d3 := d (encD (varG s.lines)).length (by omega)
  unfold bodyG
  rw [e, rowsB_sing, rowsB_sing, rowsB_sing]
  simp only [List.length_append]
  omega

theorem encG_len {s : Sg} (h : isG s = true) : (encG s).length ≤ 150000004 := by
  have := bodyG_len h
  unfold encG
  rw [sealB_length]
  omega

/-! ### lines out of columns -/
/-- as far as all columns reach: the variables of a line, what is left -/
def linesK (ids cnt : List Int) (vars : List (List UInt8)) : Nat → List Ln × List (List UInt8)
  | 0 => ([], vars)
  | k + 1 => ((linesK ids cnt vars k).1 ++ [⟨ids.getD k 0, (linesK ids cnt vars k).2.take (cnt.getD k 0).toNat⟩], (linesK ids cnt vars k).2.drop (cnt.getD k 0).toNat)
theorem linesK_len (ids cnt : List Int) (vars : List (List UInt8)) : ∀ k, (linesK ids cnt vars k).1.length = k
  | 0 => rfl
  | k + 1 => by rw [linesK, List.length_append, linesK_len ids cnt vars k]; rfl
theorem linesK_mem (ids cnt : List Int) (vars : List (List UInt8)) : ∀ k, (∀ v ∈ (linesK ids cnt vars k).2, v ∈ vars) ∧ ∀ x ∈ (linesK ids cnt vars k).1, ∀ v ∈ x.vars, v ∈ vars
  | 0 => ⟨fun v hv => hv, fun x hx => by cases hx⟩
  | k + 1 => by
    obtain ⟨h1, h2⟩ := linesK_mem ids cnt vars k
    rw [linesK]
    refine ⟨fun v hv => h1 v (List.mem_of_mem_drop hv), fun x hx v hv => ?_⟩
    rcases List.mem_append.1 hx with hx | hx
    · exact h2 x hx v hv
    · rw [List.mem_singleton] at hx
      subst hx
      exact h1 v (List.mem_of_mem_take hv)
theorem linesK_le (ids cnt : List Int) (vars : List (List UInt8)) : ∀ k, (linesK ids cnt vars k).2.length ≤ vars.length
  | 0 => Nat.le_refl _
  | k + 1 => by rw [linesK, List.length_drop]; have := linesK_le ids cnt vars k; omega
theorem linesK_back (l : List Ln) : ∀ k, k ≤ l.length → linesK (idsG l) (cntG l) (varG l) k = (l.take k, varG (l.drop k))
  | 0, _ => by simp [linesK]
  | k + 1, hk => by
    have ih := linesK_back l k (by omega)
    have hd : l.drop k = l[k] :: l.drop (k + 1) := List.drop_eq_getElem_cons (by omega)
    have e1 : (idsG l).getD k 0 = l[k].id := by simp [idsG, List.getD_eq_getElem?_getD, List.getElem?_eq_getElem (show k < l.length by omega)]
    have e2 : (cntG l).getD k 0 = (l[k].vars.length : Int) := by simp [cntG, List.getD_eq_getElem?_getD, List.getElem?_eq_getElem (show k < l.length by omega)]
    have e3 : varG (l.drop k) = l[k].vars ++ varG (l.drop (k + 1)) := by rw [hd]; unfold varG; rw [List.flatMap_cons]
    rw [linesK, ih, e1, e2, e3, Int.toNat_natCast, List.take_left', List.drop_left', List.take_succ_eq_append_getElem (by omega)] <;> rfl

/-! ### read back -/
def fstG (p : List UInt8) : Nat := (stNum p false).1
def row1 (p : List UInt8) : List UInt8 × List UInt8 × Bool := stBytes (stNum p false).2.1 (stNum p false).2.2
def row2 (p : List UInt8) : List UInt8 × List UInt8 × Bool := stBytes (row1 p).2.1 (row1 p).2.2
def row3 (p : List UInt8) : List UInt8 × List UInt8 × Bool := stBytes (row2 p).2.1 (row2 p).2.2
noncomputable def gidG (p : List UInt8) : List Int := (decR (row1 p).1).1
noncomputable def gcnG (p : List UInt8) : List Int := (decR (row2 p).1).1
noncomputable def gvaG (p : List UInt8) : List (List UInt8) := (decD (row3 p).1).1
/-- what is read -/
noncomputable def gotG (p : List UInt8) : Sg := ⟨(fstG p : Int), (linesK (gidG p) (gcnG p) (gvaG p) (min (gidG p).length (gcnG p).length)).1⟩
def AreG (p : List UInt8) (s : Sg) : Prop := isG s = true ∧ encG s = p
theorem read_bodyG {s : Sg} (h : isG s = true) (r : List UInt8) : (fstG (bodyG s ++ r) : Int) = s.first ∧ row1 (bodyG s ++ r) = (bestP (idsG s.lines), rowsB [bestP (cntG s.lines), encD (varG s.lines)] ++ r, false) ∧
    row2 (bodyG s ++ r) = (bestP (cntG s.lines), rowsB [encD (varG s.lines)] ++ r, false) ∧ row3 (bodyG s ++ r) = (encD (varG s.lines), r, false) := by
  obtain ⟨⟨h1, h2, h3, h4⟩, h5⟩ := (isG_iff s).1 h
  have b1 := best_len (ids_may h4 fun x hx => ⟨(h5 x hx).1, (h5 x hx).2.1⟩) (by simp [idsG]; omega)
  have b2 := best_len (cnt_may h4 fun x hx => (h5 x hx).2.2.1) (by simp [cntG]; omega)
  have b3 := encD_len (var_may h4 fun x hx => (h5 x hx).2.2)
  obtain ⟨n, hn⟩ : ∃ n : Nat, s.first = n := ⟨s.first.toNat, by omega⟩
  have e : bodyG s ++ r = dig n ++ (rowsB [bestP (idsG s.lines), bestP (cntG s.lines), encD (varG s.lines)] ++ r) := by
    unfold bodyG
    rw [hn, numsB_one, clamp_of_nat (by omega), List.append_assoc]
  have s1 : stNum (bodyG s ++ r) false = (n, rowsB [bestP (idsG s.lines), bestP (cntG s.lines), encD (varG s.lines)] ++ r, false) := by rw [e]; exact stNum_digD _ _ (by omega)
  have q1 : row1 (bodyG s ++ r) = (bestP (idsG s.lines), rowsB [bestP (cntG s.lines), encD (varG s.lines)] ++ r, false) := by
    unfold row1
    rw [s1]
    have := stBytes_row (bestP (idsG s.lines)) (rowsB [bestP (cntG s.lines), encD (varG s.lines)] ++ r) (by omega)
    simp only [rowsB, List.flatMap_cons, List.flatMap_nil, List.append_nil, List.append_assoc] at this ⊢
    exact this
  have q2 : row2 (bodyG s ++ r) = (bestP (cntG s.lines), rowsB [encD (varG s.lines)] ++ r, false) := by
    unfold row2
    rw [q1]
    have := stBytes_row (bestP (cntG s.lines)) (rowsB [encD (varG s.lines)] ++ r) (by omega)
    simp only [rowsB, List.flatMap_cons, List.flatMap_nil, List.append_nil, List.append_assoc] at this ⊢
    exact this
  have q3 : row3 (bodyG s ++ r) = (encD (varG s.lines), r, false) := by
    unfold row3
    rw [q2]
    have := stBytes_row (encD (varG s.lines)) r (by omega)
    simp only [rowsB, List.flatMap_cons, List.flatMap_nil, List.append_nil, List.append_assoc] at this ⊢
    exact this
  exact ⟨by unfold fstG; rw [s1, hn], q1, q2, q3⟩
theorem AreG.read {p : List UInt8} {s : Sg} (h : AreG p s) : (fstG p : Int) = s.first ∧ decR (row1 p).1 = (idsG s.lines, 0) ∧ decR (row2 p).1 = (cntG s.lines, 0) ∧ decD (row3 p).1 = (varG s.lines, 0) ∧ (row3 p).2.2 = false := by
  obtain ⟨⟨h1, h2, h3, h4⟩, h5⟩ := (isG_iff s).1 h.1
  have hr := read_bodyG h.1 (lowB 4 (sumOf (bodyG s)))
  have e : bodyG s ++ lowB 4 (sumOf (bodyG s)) = p := h.2
  rw [e] at hr
  obtain ⟨r0, r1, r2, r3⟩ := hr
  refine ⟨r0, ?_, ?_, ?_, by rw [r3]⟩
  · rw [r1]; exact decR_some (dec_best (ids_may h4 fun x hx => ⟨(h5 x hx).1, (h5 x hx).2.1⟩))
  · rw [r2]; exact decR_some (dec_best (cnt_may h4 fun x hx => (h5 x hx).2.2.1))
  · rw [r3]; exact dec_encD (var_may h4 fun x hx => (h5 x hx).2.2)
theorem AreG.got {p : List UInt8} {s : Sg} (h : AreG p s) : gotG p = s := by
  obtain ⟨h0, h1, h2, h3, _⟩ := h.read
  have e1 : gidG p = idsG s.lines := by unfold gidG; rw [h1]
  have e2 : gcnG p = cntG s.lines := by unfold gcnG; rw [h2]
  have e3 : gvaG p = varG s.lines := by unfold gvaG; rw [h3]
  refine Sg.ext' h0 ?_
  show (linesK (gidG p) (gcnG p) (gvaG p) (min (gidG p).length (gcnG p).length)).1 = s.lines
  rw [e1, e2, e3, show min (idsG s.lines).length (cntG s.lines).length = s.lines.length by simp [idsG, cntG], linesK_back s.lines _ (Nat.le_refl _), List.take_length]
theorem AreG.unique {p : List UInt8} {a b : Sg} (ha : AreG p a) (hb : AreG p b) : a = b := ha.got.symm.trans hb.got
open Classical in
/-- what Decode says -/
noncomputable def decG (p : List UInt8) : Sg × Int := if h : ∃ s, AreG p s then (Classical.choose h, 0) else (⟨0, []⟩, 2)
theorem decG_yes {p : List UInt8} {s : Sg} (h : AreG p s) : decG p = (s, 0) := by
  unfold decG
  have hx : ∃ s, AreG p s := ⟨s, h⟩
  rw [dif_pos hx, (Classical.choose_spec hx).unique h]
theorem decG_no {p : List UInt8} (h : ∀ s, ¬ AreG p s) : decG p = (⟨0, []⟩, 2) := by
  unfold decG
  rw [dif_neg (fun ⟨s, hs⟩ => h s hs)]
theorem decG_got (p : List UInt8) : decG p = if (ansG (gotG p)).2 = 0 ∧ decide ((ansG (gotG p)).1 = p) = true then (gotG p, 0) else (⟨0, []⟩, 2) := by
  by_cases h : AreG p (gotG p)
  · rw [decG_yes h, if_pos]
    unfold ansG
    rw [if_pos h.1]
    exact ⟨rfl, decide_eq_true h.2⟩
  · rw [decG_no (fun s hs => h (by rw [hs.got]; exact hs)), if_neg]
    unfold ansG
    by_cases hi : isG (gotG p) = true
    · rw [if_pos hi]
      rintro ⟨_, h2⟩
      exact h ⟨hi, of_decide_eq_true h2⟩
    · rw [if_neg hi]
      rintro ⟨h1, _⟩
      exact absurd h1 (by decide)
theorem decG_may {p : List UInt8} : (decG p).2 = 0 → isG (decG p).1 = true := by
  unfold decG
  split
  · rename_i h
    exact fun _ => (Classical.choose_spec h).1
  · exact fun h => absurd h (by decide)
theorem decG_enc {s : Sg} (h : isG s = true) : decG (encG s) = (s, 0) := decG_yes ⟨h, rfl⟩
/-- where a column is none, or they part, there is no segment -/
theorem decG_bad {p : List UInt8} (h : (row3 p).2.2 = true ∨ (decR (row1 p).1).2 ≠ 0 ∨ (decR (row2 p).1).2 ≠ 0 ∨ (decD (row3 p).1).2 ≠ 0 ∨ (gidG p).length ≠ (gcnG p).length ∨
    (∃ k, k < (gidG p).length ∧ ((linesK (gidG p) (gcnG p) (gvaG p) k).2.length : Int) < (gcnG p).getD k 0) ∨ (linesK (gidG p) (gcnG p) (gvaG p) (gidG p).length).2 ≠ []) : decG p = (⟨0, []⟩, 2) := decG_no fun s hs => by
  obtain ⟨h0, h1, h2, h3, h4⟩ := hs.read
  have e1 : gidG p = idsG s.lines := by unfold gidG; rw [h1]
  have e2 : gcnG p = cntG s.lines := by unfold gcnG; rw [h2]
  have e3 : gvaG p = varG s.lines := by unfold gvaG; rw [h3]
  rw [h1, h2, h3, h4, e1, e2, e3] at h
  have el : (idsG s.lines).length = s.lines.length := by simp [idsG]
  rcases h with h | h | h | h | h | ⟨k, hk, h⟩ | h
  · cases h
  · exact h rfl
  · exact h rfl
  · exact h rfl
  · exact h (by simp [idsG, cntG])
  · rw [el] at hk
    rw [linesK_back s.lines k (by omega)] at h
    have hd : s.lines.drop k = s.lines[k] :: s.lines.drop (k + 1) := List.drop_eq_getElem_cons (by omega)
    have e4 : (cntG s.lines).getD k 0 = (s.lines[k].vars.length : Int) := by simp [cntG, List.getD_eq_getElem?_getD, List.getElem?_eq_getElem hk]
    rw [e4, hd] at h
    unfold varG at h
    rw [List.flatMap_cons, List.length_append] at h
    omega
  · rw [el, linesK_back s.lines _ (Nat.le_refl _), List.drop_length] at h
    exact h rfl

/-! ### spoilt -/
theorem spoiltG {s : Sg} (hs : isG s = true) {j : Nat} (hj : j < (encG s).length) {c : UInt8} (hc : (encG s)[j] ≠ c) : decG ((encG s).set j c) = (⟨0, []⟩, 2) := decG_no fun a ha => by
  have hlen : (bodyG a).length = (bodyG s).length := by
    have := congrArg List.length ha.2
    unfold encG at this
    rw [List.length_set, sealB_length, sealB_length] at this
    omega
  have he : bodyG a ++ lowB 4 (sumOf (bodyG a)) = (bodyG s ++ lowB 4 (sumOf (bodyG s))).set j c := ha.2
  have hj2 : j < (bodyG s).length + 4 := by unfold encG at hj; rw [sealB_length] at hj; exact hj
  by_cases hjl : j < (bodyG s).length
  · rw [List.set_append_left _ _ hjl] at he
    have h1 := (List.append_inj he (by rw [hlen, List.length_set])).1
    have h2 := (List.append_inj he (by rw [hlen, List.length_set])).2
    have h3 := lowB_inj (k := 4) (show sumOf (bodyG a) < 256 ^ 4 by have := sumOf_lt (bodyG a); omega) (show sumOf (bodyG s) < 256 ^ 4 by have := sumOf_lt (bodyG s); omega) h2
    rw [h1] at h3
    refine sum_set_ne (bodyG s) j hjl c ?_ h3
    intro h
    apply hc
    rw [← h]
    exact List.getElem_append_left hjl
  · rw [List.set_append_right _ _ (by omega)] at he
    have h1 := (List.append_inj he hlen).1
    have h2 := (List.append_inj he hlen).2
    rw [h1] at h2
    have h4 : j - (bodyG s).length < (lowB 4 (sumOf (bodyG s))).length := by rw [lowB_length]; omega
    apply hc
    have h5 : (encG s)[j] = (lowB 4 (sumOf (bodyG s)))[j - (bodyG s).length]'h4 := List.getElem_append_right (by omega)
    rw [h5]
    have h6 := congrArg (fun l => l[j - (bodyG s).length]?) h2
    simp only [List.getElem?_set_self h4] at h6
    rw [List.getElem?_eq_getElem h4] at h6
    exact Option.some.inj h6

/-! ### joined -/
def lnsTo (l : List Sg) (k : Nat) : List Ln := (l.take k).flatMap Sg.lines
theorem lnsTo_succ (l : List Sg) {k : Nat} (h : k < l.length) : lnsTo l (k + 1) = lnsTo l k ++ l[k].lines := by
  unfold lnsTo
  rw [List.take_succ_eq_append_getElem h, List.flatMap_append]
  simp
def fstTo (l : List Sg) : Int := (l.map Sg.first).getD 0 0
/-- number k may be, and stands where the ones ahead end -/
def okJ (l : List Sg) (k : Nat) (s : Sg) : Prop := isG s = true ∧ s.first = fstTo l + ((lnsTo l k).length : Int)
open Classical in
noncomputable def joinG (l : List Sg) : Sg × Int := if (∀ k (hk : k < l.length), okJ l k l[k]) ∧ isG ⟨fstTo l, lnsTo l l.length⟩ = true then (⟨fstTo l, lnsTo l l.length⟩, 0) else (⟨0, []⟩, 1)
theorem joinG_no {l : List Sg} {k : Nat} (hk : k < l.length) (h : ¬ okJ l k l[k]) : joinG l = (⟨0, []⟩, 1) := if_neg fun hx => h (hx.1 k hk)
theorem joinG_end {l : List Sg} (h : ∀ k (hk : k < l.length), okJ l k l[k]) : joinG l = if isG ⟨fstTo l, lnsTo l l.length⟩ = true then (⟨fstTo l, lnsTo l l.length⟩, 0) else (⟨0, []⟩, 1) := by
  unfold joinG
  by_cases hi : isG ⟨fstTo l, lnsTo l l.length⟩ = true
  · rw [if_pos ⟨h, hi⟩, if_pos hi]
  · rw [if_neg (fun hx => hi hx.2), if_neg hi]
end Go.Proofs.YtpjgkacekelkdaaGreatDoor

/-
  Segments in memory and as arguments. No statement of the seat is proved here.
-/
namespace Go.Proofs.YtpjgkacekelkdaaGreatDoor
open Go Go.ChangeShapes Go.WideShapes Go.ChangeAt Go.RowKit
set_option maxRecDepth 100000

/-! ### lines -/
structure LnIn (w : World) (l : Ln) (B : Option Addr) (c : Nat) : Prop where
  int : isInt l.id
  le : l.vars.length ≤ c
  cap : c ≤ maxLen
  nil : B = none → c = 0
  rd : Rd w B (l.vars.map strV)
theorem LnIn.ext {w w' : World} {l : Ln} {B : Option Addr} {c : Nat} (h : LnIn w l B c) (hb : Below w.heap.size w w') : LnIn w' l B c := ⟨h.int, h.le, h.cap, h.nil, h.rd.ext hb⟩
def lnV (l : Ln) (B : Option Addr) (c : Nat) : Value := .agg #[.int .i64 l.id, .slice B l.vars.length c]
def IsLn (w : World) (cs : List Value) (l : Ln) : Prop := ∃ (B : Option Addr) (c : Nat), cs = [.int .i64 l.id, .slice B l.vars.length c] ∧ LnIn w l B c
theorem IsLn.lasts : Lasts IsLn := fun _ _ _ _ hb ⟨B, c, h1, h2⟩ => ⟨B, c, h1, h2.ext hb⟩
def lensL (l : Ln) : List Nat := l.vars.map List.length
/-- rows of cells that are lines, element by element -/
def RowL (w : World) (xs : List Value) (l : List Ln) : Prop := xs.length = l.length * 2 ∧ ∀ (j : Nat) (h : j < l.length), ∃ u v, xs[j * 2]? = some u ∧ xs[j * 2 + 1]? = some v ∧ IsLn w [u, v] l[j]
theorem RowL.nil (w : World) : RowL w [] [] := ⟨rfl, fun j h => absurd h (by simp)⟩
theorem RowL.ext {w w' : World} {xs : List Value} {l : List Ln} (h : RowL w xs l) (hb : Below w.heap.size w w') : RowL w' xs l := ⟨h.1, fun j hj => by
  obtain ⟨u, v, h1, h2, h3⟩ := h.2 j hj
  exact ⟨u, v, h1, h2, IsLn.lasts _ _ _ _ hb h3⟩⟩
theorem RowL.app {w : World} {xs ys : List Value} {l m : List Ln} (h : RowL w xs l) (k : RowL w ys m) : RowL w (xs ++ ys) (l ++ m) := by
  refine ⟨by rw [List.length_append, List.length_append, h.1, k.1]; omega, fun j hj => ?_⟩
  by_cases hl : j < l.length
  · obtain ⟨u, v, e1, e2, e3⟩ := h.2 j hl
    refine ⟨u, v, by rw [List.getElem?_append_left (by rw [h.1]; omega)]; exact e1, by rw [List.getElem?_append_left (by rw [h.1]; omega)]; exact e2, ?_⟩
    rw [List.getElem_append_left hl]
    exact e3
  · have hj2 : j - l.length < m.length := by rw [List.length_append] at hj; omega
    obtain ⟨u, v, e1, e2, e3⟩ := k.2 (j - l.length) hj2
    refine ⟨u, v, ?_, ?_, ?_⟩
    · rw [List.getElem?_append_right (by rw [h.1]; omega), h.1, show j * 2 - l.length * 2 = (j - l.length) * 2 by omega]; exact e1
    · rw [List.getElem?_append_right (by rw [h.1]; omega), h.1, show j * 2 + 1 - l.length * 2 = (j - l.length) * 2 + 1 by omega]; exact e2
    · rw [List.getElem_append_right (by omega)]
      exact e3
theorem RowL.one {w : World} {u v : Value} {x : Ln} (h : IsLn w [u, v] x) : RowL w [u, v] [x] := ⟨rfl, fun j hj => by
  obtain rfl : j = 0 := by simpa using hj
  exact ⟨u, v, rfl, rfl, h⟩⟩
theorem RowL.row {w : World} {T : TypeId} {A : Option Addr} {m c : Nat} {xs : List Value} {l : List Ln} (ho : RowO w T 2 A m c xs) (h : RowL w xs l) : RowR IsLn 2 w A l := fun k hk => by
  obtain ⟨u, v, e1, e2, e3⟩ := h.2 k hk
  rcases ho.2 with ⟨_, h0, _⟩ | ⟨g, off, cs, rfl, _, _, hb, _, hc⟩
  · have := ho.1
    rw [h.1] at this
    omega
  · refine ⟨g, off, [u, v], rfl, rfl, fun j z hz => ?_, e3⟩
    match j, hz with
    | 0, hz => simp at hz; subst hz; rw [Nat.add_zero, hb.cell]; exact hc _ _ e1
    | 1, hz => simp at hz; subst hz; rw [Nat.add_assoc, hb.cell]; exact hc _ _ e2
/-- a row of lines that is read, as cells -/
theorem rowL_of {w : World} {A : Option Addr} {l : List Ln} (h : RowR IsLn 2 w A l) : ∃ xs, RowL w xs l ∧ Rd w A xs ∧ ∀ u ∈ xs, u.oneCell' = true := by
  have hex : ∀ k, ∃ p : Value × Value, ∀ hk : k < l.length, ∃ g o, A = some ⟨g, o, none⟩ ∧ w.cell? ⟨g, o + k * 2, none⟩ = some p.1 ∧ w.cell? ⟨g, o + k * 2 + 1, none⟩ = some p.2 ∧ IsLn w [p.1, p.2] l[k] := fun k => by
    by_cases hk : k < l.length
    · obtain ⟨g, o, cs, e, hl, hc, hr⟩ := h k hk
      match cs, hl with
      | [u, v], _ => exact ⟨(u, v), fun _ => ⟨g, o, e, by have := hc 0 u rfl; simpa using this, hc 1 v rfl, hr⟩⟩
    · exact ⟨(undef, undef), fun hk' => absurd hk' hk⟩
  obtain ⟨T, hT⟩ := Classical.axiomOfChoice hex
  have hfm : ∀ n, ((List.range n).flatMap fun k => [(T k).1, (T k).2]).length = n * 2 := fun n => by
    induction n with
    | zero => rfl
    | succ n ih => rw [List.range_succ, List.flatMap_append, List.length_append, ih]; simp; omega
  have hget : ∀ n j, j < n → ((List.range n).flatMap fun k => [(T k).1, (T k).2])[j * 2]? = some (T j).1 ∧ ((List.range n).flatMap fun k => [(T k).1, (T k).2])[j * 2 + 1]? = some (T j).2 := fun n j hj => by
    induction n with
    | zero => omega
    | succ n ih =>
      rw [List.range_succ, List.flatMap_append]
      by_cases hjn : j < n
      · rw [List.getElem?_append_left (by rw [hfm]; omega), List.getElem?_append_left (by rw [hfm]; omega)]
        exact ih hjn
      · obtain rfl : j = n := by omega
        rw [List.getElem?_append_right (by rw [hfm]; omega), List.getElem?_append_right (by rw [hfm]; omega), hfm]
        simp
  refine ⟨(List.range l.length).flatMap fun k => [(T k).1, (T k).2], ⟨hfm _, fun j hj => ?_⟩, fun j u hu => ?_, fun u hu => ?_⟩
  · obtain ⟨_, _, _, _, _, h4⟩ := hT j hj
    exact ⟨_, _, (hget _ j hj).1, (hget _ j hj).2, h4⟩
  · have hj : j < l.length * 2 := by have := (List.getElem?_eq_some_iff.1 hu).1; rwa [hfm] at this
    obtain ⟨g, o, e, h1, h2, _⟩ := hT (j / 2) (by omega)
    refine ⟨⟨g, o, none⟩, e, ?_⟩
    rw [Addr.add_mid]
    rcases Nat.mod_two_eq_zero_or_one j with hm | hm
    · have e2 : j = j / 2 * 2 := by omega
      rw [e2, (hget _ (j / 2) (by omega)).1] at hu
      injection hu with hu
      rw [← hu]
      conv => lhs; rw [show o + j = o + j / 2 * 2 by omega]
      exact h1
    · have e2 : j = j / 2 * 2 + 1 := by omega
      rw [e2, (hget _ (j / 2) (by omega)).2] at hu
      injection hu with hu
      rw [← hu]
      conv => lhs; rw [show o + j = o + j / 2 * 2 + 1 by omega]
      exact h2
  · obtain ⟨k, hk, hu⟩ := List.mem_flatMap.1 hu
    obtain ⟨_, _, _, _, _, B, c, e, _⟩ := hT k (List.mem_range.1 hk)
    injection e with e1 e2
    injection e2 with e2 _
    simp only [List.mem_cons, List.not_mem_nil, or_false] at hu
    rcases hu with rfl | rfl
    · rw [e1]; rfl
    · rw [e2]; rfl

/-! ### segments -/
def sgV (s : Sg) (B : Option Addr) (c : Nat) : Value := .agg #[.int .i64 s.first, .slice B s.lines.length c]
structure SgIn (w : World) (s : Sg) (B : Option Addr) (c : Nat) : Prop where
  int : isInt s.first
  le : s.lines.length ≤ c
  cap : c ≤ maxLen
  nil : B = none → c = 0
  row : RowR IsLn 2 w B s.lines
theorem SgIn.ext {w w' : World} {s : Sg} {B : Option Addr} {c : Nat} (h : SgIn w s B c) (hb : Below w.heap.size w w') : SgIn w' s B c := ⟨h.int, h.le, h.cap, h.nil, h.row.ext IsLn.lasts hb⟩
theorem SgIn.none_ (w : World) : SgIn w ⟨0, []⟩ none 0 := ⟨⟨by simp, by simp⟩, Nat.le_refl _, Nat.zero_le _, fun _ => rfl, RowR.nil _ _⟩
def IsSg (w : World) (cs : List Value) (s : Sg) : Prop := ∃ (B : Option Addr) (c : Nat), cs = [.int .i64 s.first, .slice B s.lines.length c] ∧ SgIn w s B c
theorem IsSg.lasts : Lasts IsSg := fun _ _ _ _ hb ⟨B, c, h1, h2⟩ => ⟨B, c, h1, h2.ext hb⟩
def lensS (s : Sg) : List Nat := s.lines.flatMap lensL
section
variable {H : Type} {enc : TypeId × Value → H} {W : World}
theorem cells_ln : Tryz.prog.cellsOf 47 = 2 := by kernel_rfl
theorem bytes_ln : Tryz.prog.bytesOf 47 = 32 := by kernel_rfl
theorem cells_sg : Tryz.prog.cellsOf 24 = 2 := by kernel_rfl
theorem bytes_sg : Tryz.prog.bytesOf 24 = 32 := by kernel_rfl
theorem cellsG_int : Tryz.prog.cellsOf 3 = 1 := by kernel_rfl
theorem cellsG_strs : Tryz.prog.cellsOf 45 = 1 := by kernel_rfl
theorem cellsG_lns : Tryz.prog.cellsOf 22 = 1 := by kernel_rfl
theorem read_ln {n : Nat} {cs : List Value} {x : DataW H × List MemPlace} (hl : cs.length = 2) (h : DataW.trod enc Tryz.prog W 0 (fun _ => true) true n 47 cs = some x) : ∃ l : Ln, IsLn W cs l ∧ Told 47 x.1 (lensL l) 1 := by
  obtain ⟨ys, n', hn', rfl, hlen, hyl, hg⟩ := DataW.trod_struct Tryz.underlying47 h
  match cs, hl with
  | [e0, e1], _ =>
    match ys, hyl with
    | [y0, y1], _ =>
      have g0 := hg 0 _ rfl
      have g1 := hg 1 _ rfl
      simp only [cellsG_int, cellsG_strs, List.drop_zero, List.drop_succ_cons, List.take_succ_cons, List.take_zero, List.getElem?_cons_zero, List.getElem?_cons_succ] at g0 g1
      obtain ⟨z0, q0, r0, w0⟩ := DataW.trod_int Tryz.underlying3 g0
      obtain ⟨A, len, cap, l, q1, rfl, h3, h4, h5, h6, h7⟩ := read_strs g1
      injection q0 with q0
      injection q1 with q1
      subst q0 q1
      refine ⟨⟨z0, l⟩, ⟨A, cap, rfl, ⟨int_of_wf w0, h3, h4, h5, h6⟩⟩, ⟨fun n hn => ?_, rb_one _⟩⟩
      obtain ⟨s, hs, rfl⟩ := List.mem_map.1 hn
      have h0 : cap ≠ 0 := by
        rintro rfl
        rw [List.eq_nil_of_length_eq_zero (by simpa using h3 : l.length = 0)] at hs
        cases hs
      have h8 := h7.each s.length (by rw [if_neg h0]; exact List.mem_cons_of_mem _ (List.mem_flatMap.2 ⟨s, hs, by simp⟩))
      simp only [List.map_cons, List.map_nil]
      simp only [DataW.weights, Tryz.underlying47, DataW.weightsEach, List.map_cons, List.map_nil, List.mem_append]
      exact .inr (.inl h8)
theorem read_sg {n : Nat} {cs : List Value} {x : DataW H × List MemPlace} (hl : cs.length = 2) (h : DataW.trod enc Tryz.prog W 0 (fun _ => true) true n 24 cs = some x) : ∃ s : Sg, IsSg W cs s ∧ Told 24 x.1 (lensS s) 1 := by
  obtain ⟨ys, n', hn', rfl, hlen, hyl, hg⟩ := DataW.trod_struct Tryz.underlying24 h
  match cs, hl with
  | [e0, e1], _ =>
    match ys, hyl with
    | [y0, y1], _ =>
      have g0 := hg 0 _ rfl
      have g1 := hg 1 _ rfl
      simp only [cellsG_int, cellsG_lns, List.drop_zero, List.drop_succ_cons, List.take_succ_cons, List.take_zero, List.getElem?_cons_zero, List.getElem?_cons_succ] at g0 g1
      obtain ⟨z0, q0, r0, w0⟩ := DataW.trod_int Tryz.underlying3 g0
      obtain ⟨A, len, cap, l, q1, rfl, h3, h4, h5, h6, h7⟩ := read_slice IsLn lensL (fun _ => 1) 32 Tryz.underlying22 cells_ln bytes_ln (by omega) (fun n cs x hl hx => read_ln hl hx) g1
      injection q0 with q0
      injection q1 with q1
      subst q0 q1
      refine ⟨⟨z0, l⟩, ⟨A, cap, rfl, int_of_wf w0, h3, h4, h5, h6⟩, ⟨fun n hn => ?_, rb_one _⟩⟩
      obtain ⟨s, hs, hn⟩ := List.mem_flatMap.1 hn
      have h0 : cap ≠ 0 := by
        rintro rfl
        rw [List.eq_nil_of_length_eq_zero (by simpa using h3 : l.length = 0)] at hs
        cases hs
      have h8 := h7.each n (by rw [if_neg h0]; exact List.mem_cons_of_mem _ (List.mem_flatMap.2 ⟨s, hs, hn⟩))
      simp only [List.map_cons, List.map_nil]
      simp only [DataW.weights, Tryz.underlying24, DataW.weightsEach, List.map_cons, List.map_nil, List.mem_append]
      exact .inr (.inl h8)
/-- a segment as an argument -/
theorem arg_sg {base : Nat} {v : Value} {d : DataW H} {p : List MemPlace} (hv : Value.okWide Tryz.prog W .any base 24 v) (h : DataW.Trod enc Tryz.prog W 0 (fun _ => true) true 24 v d p) :
    ∃ (s : Sg) (B : Option Addr) (c : Nat), v = sgV s B c ∧ SgIn W s B c ∧ Told 24 d (lensS s) 1 := by
  obtain ⟨cs, rfl, hsz⟩ := okWide_struct Tryz.underlying24 hv
  rw [cells_sg] at hsz
  obtain ⟨fuel, hf⟩ := h
  obtain ⟨s, ⟨B, c, e, h1⟩, ht⟩ := read_sg (by simp [Value.cells, hsz]) hf
  refine ⟨s, B, c, ?_, h1, ht⟩
  unfold sgV
  have : cs = #[.int .i64 s.first, .slice B s.lines.length c] := by
    apply Array.toList_inj.1
    simpa [Value.cells] using e
  rw [this]
/-- a row of them -/
theorem arg_sgs {base : Nat} {v : Value} {d : DataW H} {p : List MemPlace} (hv : Value.okWide Tryz.prog W .any base 44 v) (h : DataW.Trod enc Tryz.prog W 0 (fun _ => true) true 44 v d p) :
    ∃ (A : Option Addr) (n c : Nat) (l : List Sg), v = .slice A n c ∧ n = l.length ∧ l.length ≤ c ∧ c ≤ maxLen ∧ RowR IsSg 2 W A l ∧ Told 44 d (if c = 0 then [] else c * 32 :: l.flatMap lensS) ((l.map fun _ => 1).sum + 1) := by
  obtain ⟨a0, len, cap, rfl⟩ := okWide_slice Tryz.underlying44 hv
  obtain ⟨fuel, hf⟩ := h
  obtain ⟨A, len', cap', l, h1, rfl, h3, h4, _, h6, h7⟩ := read_slice IsSg lensS (fun _ => 1) 32 Tryz.underlying44 cells_sg bytes_sg (by omega) (fun n cs x hl hx => read_sg hl hx) hf
  simp [Value.cells] at h1
  obtain ⟨rfl, rfl, rfl⟩ := h1
  exact ⟨a0, l.length, cap, l, rfl, rfl, h3, h4, h6, h7⟩
end
theorem lens_sgs {l : List Sg} {c M : Nat} (hc : l.length ≤ c) (h : ∀ n ∈ (if c = 0 then [] else c * 32 :: l.flatMap lensS), n ≤ M) : ∀ s ∈ l, ∀ x ∈ s.lines, ∀ v ∈ x.vars, v.length ≤ M := fun s hs x hx v hv => by
  have h0 : c ≠ 0 := by
    rintro rfl
    rw [List.eq_nil_of_length_eq_zero (by omega : l.length = 0)] at hs
    cases hs
  exact h _ (by rw [if_neg h0]; exact List.mem_cons_of_mem _ (List.mem_flatMap.2 ⟨s, hs, List.mem_flatMap.2 ⟨x, hx, List.mem_map.2 ⟨v, hv, rfl⟩⟩⟩))
theorem lens_sg {s : Sg} {M : Nat} (h : ∀ n ∈ lensS s, n ≤ M) : ∀ x ∈ s.lines, ∀ v ∈ x.vars, v.length ≤ M := fun x hx v hv => h _ (List.mem_flatMap.2 ⟨x, hx, List.mem_map.2 ⟨v, hv, rfl⟩⟩)
end Go.Proofs.YtpjgkacekelkdaaGreatDoor
