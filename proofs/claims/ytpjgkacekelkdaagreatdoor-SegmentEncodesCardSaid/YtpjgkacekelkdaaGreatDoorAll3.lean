/-
  Texts of this claim, joined (part 3): contracts and lemmas that the last text goes by. No statement of the seat is proved here.
-/
import Derived.Test.YtpjgkacekelkdaaGreatDoorAll2
import Derived.Test.YtpjgkacekelkdaaGreatDoorAll0
import Derived.Test.YtpjgkacekelkdaaGreatDoorRows
import Derived.Laws.IdiomStrings
import Derived.Lib.BufferRead
set_option linter.unusedVariables false
set_option linter.unusedSimpArgs false
/-
  Numbers laid, each as it is and by the one ahead (program). No statement of the seat is proved here.
-/
namespace Go.Proofs.YtpjgkacekelkdaaGreatDoor
open Go Go.RowKit
set_option maxRecDepth 100000

theorem ptwo (a b : Int) : [a, b].map iv = [Value.int .i64 a, .int .i64 b] := rfl
theorem rdf_old {w W : World} {A : Option Addr} {xs : List Value} {fp : Nat → Prop} (h : Rd w A xs) (hb : Below w.heap.size w W) (hf : ∀ k, fp k → w.heap.size ≤ k) : RdF fp W A xs := ⟨h.ext hb, (RdF.fresh h hf).2⟩
theorem wr_more {W2 w3 : World} {g : Nat} {xs : List Value} {a : World} (h2 : W2.heap.size ≤ a.heap.size) (hr3 : Wr w3 (More (fun k => k = g) a w3) g xs) : Wr w3 (More (fun k => k = g) W2 w3) g xs := hr3.mono (fun k hk _ => by
  rcases hk with hk | hk
  · exact .inl hk
  · exact .inr ⟨by have := hk.1; omega, hk.2⟩)

set_option maxHeartbeats 4000000 in
theorem plain_any (A : Option Addr) (c : Nat) (l : List Int) (w : World) (hA : Rd w A (l.map iv)) (hm : mayP l = true) :
    Calls Tryz.prog 67 #[.slice A l.length c] w fun e w' => ∃ A' c', e = .returned (.slice A' (plainP l).length c') ∧ New w w' A' c' (plainP l) ∧ Below w.heap.size w w' := by
  obtain ⟨hl, hv⟩ := (mayP_iff l).1 hm
  have hli : (l.length : Int) ≤ 32768 := by omega
  have HP : Hid (plainP l = numsB [0, (l.length : Int)] ++ numsB l) := Lib.hid rfl
  have HN2 : Hid ((numsB [0, (l.length : Int)]).length ≤ 18) := Lib.hid (by
    have := numsTo_len [0, (l.length : Int)] 2
    rw [show numsTo [0, (l.length : Int)] 2 = numsB [0, (l.length : Int)] from numsTo_all _] at this
    exact this)
  have HNl : Hid ((numsB l).length ≤ 9 * l.length) := Lib.hid (by
    have := numsTo_len l l.length
    rw [numsTo_all] at this
    exact this)
  have HA := Lib.hid hA
  have HV := Lib.hid hv
  have Hl := Lib.hid hl
  generalize plainP l = P at *
  obtain ⟨W2, hW2⟩ : ∃ W2, W2 = w.alloc (.cells #[.slice none 0 0] 55) := ⟨_, rfl⟩
  have HWr : Hid (Wr W2 (fun k => k = w.heap.size) w.heap.size []) := Lib.hid (by rw [hW2]; exact Wr.new w _ rfl)
  have HZ2 : Hid (W2.heap.size = w.heap.size + 1) := Lib.hid (by rw [hW2, World.size_alloc])
  have Hb2 : Hid (Below w.heap.size w W2) := Lib.hid (by rw [hW2]; exact ext_alloc (Below.refl _ _) _)
  have HW2 := Lib.hid hW2
  obtain ⟨g, hg⟩ : ∃ g, w.heap.size = g := ⟨_, rfl⟩
  clear hW2 hA hv hm hl
  go_enter Tryz.func67, Tryz.ntmps67
  go_wp2_with fail
  rw [← HW2.out]
  rw [hg] at HWr HZ2
  have Hg := Lib.hid hg
  clear hg
  refine (nums_any (fun k => k = g) g (some ⟨g + 1, 0, none⟩) 2 2 [0, (l.length : Int)] [] _ (HWr.out.alloc _) rfl (RdF.lit W2 #[.int .i64 0, .int .i64 (l.length : Int)] _ HZ2.out.symm (by omega)) (by
    intro v hv
    simp only [List.mem_cons, List.not_mem_nil, or_false] at hv
    rcases hv with rfl | rfl
    · exact ⟨by omega, by omega⟩
    · exact ⟨by omega, by omega⟩) (by simp)).mono ?_
  rintro e w3 ⟨rfl, hr3, ho3⟩
  obtain ⟨N, hN⟩ : ∃ N, numsB [0, (l.length : Int)] = N := ⟨_, rfl⟩
  rw [hN] at hr3 HP HN2
  rw [List.nil_append] at hr3
  have hO3 : Only (fun k => k = g) W2 w3 := ((Only.refl _ _).alloc _).trans ho3 (fun _ _ h => h)
  have HR3 : Hid (Wr w3 (More (fun k => k = g) W2 w3) g (N.map bv)) := Lib.hid (wr_more (by simp) hr3)
  have HO3 := Lib.hid hO3
  have HK : Hid (∀ W, Only (fun k => k = g) W2 W → Below w.heap.size w W) := Lib.hid (fun W ho => Hb2.out.trans (ho.below (fun i hi => by have := Hg.out; omega) Hb2.out.size))
  clear hN hr3 ho3 hO3
  go_wp2_with fail
  refine (nums_any (More (fun k => k = g) W2 w3) g A l.length c l _ w3 HR3.out rfl (rdf_old HA.out (HK.out _ HO3.out) (fun k hk => by
    rcases hk with rfl | hk
    · have := Hg.out; omega
    · have h1 := hk.1; have h2 := HZ2.out; have := Hg.out; omega)) (fun v hv => by have := HV.out v hv; exact ⟨by omega, by omega⟩) (by rw [List.length_map]; have := HN2.out; have := Hl.out; omega)).mono ?_
  rintro e w4 ⟨rfl, hr4, ho4⟩
  have hR4 : Wr w4 (More (fun k => k = g) W2 w4) g ((N ++ numsB l).map bv) := by
    rw [List.map_append]
    exact Wr.join HO3.out.size (Nat.le_refl _) ho4.size hr4
  have hO4 := HO3.out.join ho4
  have HF := Lib.hid (out_any _ g (N ++ numsB l) w4 hR4 (by rw [List.length_append]; have := HN2.out; have := HNl.out; have := Hl.out; omega))
  rw [← HP.out] at HF
  have Hbw := Lib.hid (HK.out w4 hO4)
  clear hr4 ho4 hR4 hO4
  go_wp2_with fail
  refine HF.out.mono ?_
  rintro e w5 ⟨A5, c5, rfl, hn5, hb5⟩
  have Hn5 := Lib.hid (hn5.back Hbw.out.size)
  have Hb5 := Lib.hid (ext_trans Hbw.out hb5)
  clear hn5 hb5
  go_wp2
  go_ret
  exact ⟨A5, c5, rfl, Hn5.out, Hb5.out⟩

theorem numsB_one (v : Int) : numsB [v] = dig (clamp v) := by simp [numsB]
theorem dig_nine (v : Int) : (numsB [v]).length ≤ 9 := by
  have := numsTo_len [v] 1
  rw [show numsTo [v] 1 = numsB [v] from numsTo_all _] at this
  exact this
theorem numsB_len9 (l : List Int) : (numsB l).length ≤ 9 * l.length := by
  have := numsTo_len l l.length
  rw [numsTo_all] at this
  exact this

set_option maxHeartbeats 8000000 in
theorem delta_any (A : Option Addr) (c : Nat) (l : List Int) (w : World) (hA : Rd w A (l.map iv)) (hm : mayP l = true) :
    Calls Tryz.prog 69 #[.slice A l.length c] w fun e w' => ∃ A' c', e = .returned (.slice A' (deltaP l).length c') ∧ New w w' A' c' (deltaP l) ∧ Below w.heap.size w w' := by
  obtain ⟨hl, hv⟩ := (mayP_iff l).1 hm
  have hli : (l.length : Int) ≤ 32768 := by omega
  have HP : Hid (deltaP l = numsB [1, (l.length : Int)] ++ numsB (deltasTo l l.length)) := Lib.hid rfl
  have HN2 : Hid ((numsB [1, (l.length : Int)]).length ≤ 18) := Lib.hid (by
    have := numsTo_len [1, (l.length : Int)] 2
    rw [show numsTo [1, (l.length : Int)] 2 = numsB [1, (l.length : Int)] from numsTo_all _] at this
    exact this)
  have HNl : Hid (∀ k, (numsB (deltasTo l k)).length ≤ 9 * k) := Lib.hid (fun k => by
    have := numsB_len9 (deltasTo l k)
    rw [deltasTo_len] at this
    exact this)
  have HA := Lib.hid hA
  have HV := Lib.hid hv
  have Hl := Lib.hid hl
  generalize deltaP l = P at *
  obtain ⟨W2, hW2⟩ : ∃ W2, W2 = w.alloc (.cells #[.slice none 0 0] 55) := ⟨_, rfl⟩
  have HWr : Hid (Wr W2 (fun k => k = w.heap.size) w.heap.size []) := Lib.hid (by rw [hW2]; exact Wr.new w _ rfl)
  have HZ2 : Hid (W2.heap.size = w.heap.size + 1) := Lib.hid (by rw [hW2, World.size_alloc])
  have Hb2 : Hid (Below w.heap.size w W2) := Lib.hid (by rw [hW2]; exact ext_alloc (Below.refl _ _) _)
  have HW2 := Lib.hid hW2
  obtain ⟨g, hg⟩ : ∃ g, w.heap.size = g := ⟨_, rfl⟩
  clear hW2 hA hv hm hl
  go_enter Tryz.func69, Tryz.ntmps69
  go_wp2_with fail
  rw [← HW2.out]
  rw [hg] at HWr HZ2
  have Hg := Lib.hid hg
  clear hg
  refine (nums_any (fun k => k = g) g (some ⟨g + 1, 0, none⟩) 2 2 [1, (l.length : Int)] [] _ (HWr.out.alloc _) rfl (RdF.lit W2 #[.int .i64 1, .int .i64 (l.length : Int)] _ HZ2.out.symm (by omega)) (by
    intro v hv
    simp only [List.mem_cons, List.not_mem_nil, or_false] at hv
    rcases hv with rfl | rfl
    · exact ⟨by omega, by omega⟩
    · exact ⟨by omega, by omega⟩) (by simp)).mono ?_
  rintro e w3 ⟨rfl, hr3, ho3⟩
  obtain ⟨N, hN⟩ : ∃ N, numsB [1, (l.length : Int)] = N := ⟨_, rfl⟩
  rw [hN] at hr3 HP HN2
  rw [List.nil_append] at hr3
  have hO3 : Only (fun k => k = g) W2 w3 := ((Only.refl _ _).alloc _).trans ho3 (fun _ _ h => h)
  have HR3 : Hid (Wr w3 (More (fun k => k = g) W2 w3) g (N.map bv)) := Lib.hid (wr_more (by simp) hr3)
  have HO3 := Lib.hid hO3
  have HK : Hid (∀ W, Only (fun k => k = g) W2 W → Below w.heap.size w W) := Lib.hid (fun W ho => Hb2.out.trans (ho.below (fun i hi => by have := Hg.out; omega) Hb2.out.size))
  clear hN hr3 ho3 hO3
  go_wp2
  go_loopw [13, 4] (fun i a wr => ∃ k : Nat, k ≤ l.length ∧ i = .int .i64 (k : Int) ∧ a = .int .i64 (prevP l k) ∧ Wr wr (More (fun k => k = g) W2 wr) g ((N ++ numsB (deltasTo l k)).map bv) ∧ Only (fun k => k = g) W2 wr) (fun i _ _ => l.length - (intOf i).toNat)
  case atStart => exact ⟨0, Nat.zero_le _, rfl, rfl, by simpa [deltasTo, numsB] using HR3.out, HO3.out⟩
  case round =>
    obtain ⟨k, hk, rfl, rfl, hr, ho⟩ := hrel
    have Hr := Lib.hid hr
    have Ho := Lib.hid ho
    by_cases hlt : k < l.length
    · have hki : (k : Int) < (l.length : Int) := by omega
      obtain ⟨ad, hB, hcell⟩ := rd_int (HA.out.ext (HK.out wr ho)) hlt
      subst hB
      have hgd : l.getD k 0 = l[k] := by rw [List.getD_eq_getElem?_getD, List.getElem?_eq_getElem hlt]; rfl
      have Hpk : Hid (prevP l (k + 1) = l[k]) := Lib.hid (by unfold prevP; rw [if_neg (by omega), Nat.add_sub_cancel, hgd])
      have Hsn : Hid (N ++ numsB (deltasTo l (k + 1)) = (N ++ numsB (deltasTo l k)) ++ numsB [foldP (l[k] - prevP l k)]) := Lib.hid (by rw [deltasTo_succ, hgd, numsB_append, List.append_assoc])
      have h1 := HV.out _ (List.getElem_mem hlt)
      have h2 := prevP_ok HV.out hlt
      have h3 := fold_ok HV.out hlt
      rw [hgd] at h3
      have hw1 : IntKind.i64.wrap (l[k] - prevP l k) = l[k] - prevP l k := IntWalk.i64_in _ (by omega)
      have HFo := Lib.hid (folded_any (l[k] - prevP l k) (by omega) (by omega) wr)
      generalize foldP (l[k] - prevP l k) = F at *
      generalize prevP l k = p at *
      generalize l[k] = x at *
      have H3 := Lib.hid h3
      clear hr ho hgd h3
      go_wp2_with fail

      refine HFo.out.mono ?_
      rintro e w' ⟨rfl, rfl⟩
      go_wp2_with fail
      refine (nums_any (More (fun k => k = g) W2 wr) g _ 1 1 [F] ((N ++ numsB (deltasTo l k)).map bv) _ (Hr.out.alloc _) rfl (RdF.lit wr #[.int .i64 F] _ rfl (fun hm => ?_)) (by
        intro v hv
        simp only [List.mem_cons, List.not_mem_nil, or_false] at hv
        subst hv
        have := H3.out
        exact ⟨by omega, by omega⟩) (by simp only [List.length_map, List.length_append, List.length_cons, List.length_nil]; have := HNl.out k; have := HN2.out; have := Hl.out; omega)).mono ?_
      · rcases hm with hm | hm
        · have h1 := Ho.out.size; have h2 := HZ2.out; omega
        · have := hm.2; omega
      rintro e w4 ⟨rfl, hr4, ho4⟩
      have hOb : Only (fun k => k = g) W2 (wr.alloc (.cells #[.int .i64 F] 3)) := Ho.out.alloc _
      have hR4 : Wr w4 (More (fun k => k = g) W2 w4) g ((N ++ numsB (deltasTo l (k + 1))).map bv) := by
        rw [Hsn.out, List.map_append]
        exact Wr.join Ho.out.size (by rw [World.size_alloc]; omega) ho4.size hr4
      have hO4 := hOb.join ho4
      have HR4 := Lib.hid hR4
      have HO4 := Lib.hid hO4
      clear hr4 ho4 hOb hR4 hO4
      go_wp2
      go_roundw
      case rel => exact ⟨k + 1, by omega, by go_num, by rw [Hpk.out], HR4.out, HO4.out⟩
      case measure => simp [intOf]; omega
    · obtain rfl : k = l.length := by omega
      have HF := Lib.hid (out_any _ g (N ++ numsB (deltasTo l l.length)) wr Hr.out (by rw [List.length_append]; have := HN2.out; have := HNl.out l.length; have := Hl.out; omega))
      rw [← HP.out] at HF
      have Hbw := Lib.hid (HK.out wr Ho.out)
      clear hr ho
      go_wp2_with fail
      refine HF.out.mono ?_
      rintro e w5 ⟨A5, c5, rfl, hn5, hb5⟩
      have Hn5 := Lib.hid (hn5.back Hbw.out.size)
      have Hb5 := Lib.hid (ext_trans Hbw.out hb5)
      clear hn5 hb5
      go_wp2
      go_ret
      exact ⟨A5, c5, rfl, Hn5.out, Hb5.out⟩
end Go.Proofs.YtpjgkacekelkdaaGreatDoor

/-
  Numbers as the longest runs, and laid so (program). No statement of the seat is proved here.
-/
namespace Go.Proofs.YtpjgkacekelkdaaGreatDoor
open Go Go.RowKit
set_option maxRecDepth 100000

/-! ### rows of two numbers -/
def encQ (p : Nat × Int) : List Value := [iv (p.1 : Int), iv p.2]
def cellsQ (l : List (Nat × Int)) : List Value := l.flatMap encQ
theorem cellsQ_length (l : List (Nat × Int)) : (cellsQ l).length = l.length * 2 := by
  induction l with
  | nil => rfl
  | cons x r ih =>
    have : cellsQ (x :: r) = encQ x ++ cellsQ r := rfl
    rw [this, List.length_append, ih]; simp [encQ]; omega
theorem cellsQ_append (a b : List (Nat × Int)) : cellsQ (a ++ b) = cellsQ a ++ cellsQ b := by unfold cellsQ; rw [List.flatMap_append]
theorem cellsQ_at (l : List (Nat × Int)) (k : Nat) (h : k < l.length) : (cellsQ l)[k * 2]? = some (iv (l[k].1 : Int)) ∧ (cellsQ l)[k * 2 + 1]? = some (iv l[k].2) := by
  have e : cellsQ l = cellsQ (l.take k) ++ (encQ l[k] ++ cellsQ (l.drop (k + 1))) := by
    conv => lhs; rw [← List.take_append_drop k l, cellsQ_append, List.drop_eq_getElem_cons h]
    rfl
  have hl : (cellsQ (l.take k)).length = k * 2 := by rw [cellsQ_length, List.length_take]; congr 1; omega
  rw [e]
  constructor
  · rw [List.getElem?_append_right (by omega), hl, Nat.sub_self]; rfl
  · rw [List.getElem?_append_right (by omega), hl, Nat.add_sub_cancel_left]; rfl
theorem cellsQ_set (l : List (Nat × Int)) (a b : Nat) (h : Int) : (cellsQ (l ++ [(a, h)])).set (l.length * 2) (iv (b : Int)) = cellsQ (l ++ [(b, h)]) := by
  rw [cellsQ_append, cellsQ_append, List.set_append, if_neg (by rw [cellsQ_length]; omega), cellsQ_length, Nat.sub_self]
  rfl
theorem rd_two {w : World} {A : Option Addr} {l : List (Nat × Int)} (h : Rd w A (cellsQ l)) {k : Nat} (hk : k < l.length) :
    ∃ ad, A = some ad ∧ w.cell? (ad.add (k * 2)) = some (.int .i64 (l[k].1 : Int)) ∧ w.cell? (ad.add (k * 2 + 1)) = some (.int .i64 l[k].2) := by
  obtain ⟨h1, h2⟩ := cellsQ_at l k hk
  obtain ⟨ad, e, c1⟩ := h _ _ h1
  obtain ⟨ad', e', c2⟩ := h _ _ h2
  rw [e] at e'; injection e' with e'; subst e'
  exact ⟨ad, e, c1, c2⟩
theorem RowO.cellQ {w : World} {e : TypeId} {A : Option Addr} {m c : Nat} {l : List (Nat × Int)} (h : RowO w e 2 A m c (cellsQ l)) {k : Nat} (hk : k < l.length) :
    ∃ g o, A = some ⟨g, o, none⟩ ∧ w.cell? ⟨g, o + k * 2, none⟩ = some (.int .i64 (l[k].1 : Int)) ∧ w.cell? ⟨g, o + k * 2 + 1, none⟩ = some (.int .i64 l[k].2) := by
  obtain ⟨ad, e, c1, c2⟩ := rd_two h.rd hk
  obtain ⟨g, o, rfl⟩ := h.flat ad e
  rw [Addr.add_mid] at c1 c2
  rw [← Nat.add_assoc] at c2
  exact ⟨g, o, e, c1, c2⟩
theorem info_run : (Tryz.prog.info? 135).map (fun i => (i.zero, i.size, i.bytes)) = some (some (.agg #[.int .i64 0, .int .i64 0]), 2, 16) := by kernel_rfl

set_option maxHeartbeats 4000000 in
theorem runsOf_any (A : Option Addr) (c : Nat) (l : List Int) (w : World) (hA : Rd w A (l.map iv)) (hl : l.length ≤ 32768) :
    Calls Tryz.prog 94 #[.slice A l.length c] w fun e w' => ∃ A' c', e = .returned (.slice A' (runsP l).length c') ∧ NewO w w' 135 2 A' (runsP l).length c' (cellsQ (runsP l)) := by
  have hli : (l.length : Int) ≤ 32768 := by omega
  have HP : Hid (runsP l = runsTo l l.length) := Lib.hid rfl
  have HA := Lib.hid hA
  generalize runsP l = P at *
  clear hA
  go_enter Tryz.func94, Tryz.ntmps94
  go_wp2
  go_loopw [3, 8] (fun s i wr => ∃ (k : Nat) (R : List (Nat × Int)) (B : Option Addr) (c : Nat), k ≤ l.length ∧ i = .int .i64 (k : Int) ∧ R = runsTo l k ∧ s = .slice B R.length c ∧ NewO w wr 135 2 B R.length c (cellsQ R)) (fun _ i _ => l.length - (intOf i).toNat)
  case atStart => exact ⟨0, [], none, 0, by omega, rfl, rfl, rfl, NewO.start _ _ _⟩
  case round =>
    obtain ⟨k, R, B, cR, hk, rfl, hR, rfl, hN⟩ := hrel
    by_cases hlt : k < l.length
    · have hki : (k : Int) < (l.length : Int) := by omega
      have hrl := runsTo_len l k
      rw [← hR] at hrl
      have hgd : l.getD k 0 = l[k] := by rw [List.getD_eq_getElem?_getD, List.getElem?_eq_getElem hlt]; rfl
      have hrd := HA.out.ext hN.bel
      obtain ⟨ad, hB, hcell⟩ := rd_int hrd hlt
      subst hB
      have hm1 : R.length + 1 ≤ maxLen := by unfold maxLen; omega
      have hm2 : (R.length + 1) * 16 ≤ 140737488355328 := by omega
      have hlast : ((R.length + 1 : Nat) : Int) - 1 = (R.length : Int) := by omega
      by_cases hnew : k = 0 ∨ l.getD (k - 1) 0 ≠ l.getD k 0
      · have Hsn : Hid (runsTo l (k + 1) = R ++ [(1, l[k])]) := Lib.hid (by rw [runsTo_new l k hnew, hgd, hR])
        have HN := Lib.hid hN
        rcases Nat.eq_zero_or_pos k with hk0 | hk0
        · subst hk0
          generalize l[0] = x at *
          have hz : ad.add 0 = ad := by simp [Addr.add]
          rw [hz] at hcell
          clear hz
          clear hR hnew hgd hrd
          go_wp2_with (at_builtin
                       refine wpList_app_new rfl (.tmp 24) (.tmp 27) _ rfl 135 _ 2 16 Tryz.underlying132 info_run rfl B _ cR _ HN.out (ext_alloc (Below.refl _ _) _) rfl ⟨wr.heap.size, 0, none⟩ 1 [.int .i64 0, .int .i64 x] rfl rfl (Rd.lit _ #[.int .i64 0, .int .i64 x] _) ?_ hm1 hm2 ?_
                       · simp; exact ⟨rfl, rfl⟩
                       intro A3 c3 w3 hN3 hb3
                       have hN4 : NewO w w3 135 2 A3 (R.length + 1) c3 (cellsQ (R ++ [(0, x)])) := by rw [cellsQ_append]; exact hN3
                       obtain ⟨g, o, hA3, q1, q2⟩ := hN4.row.cellQ (k := R.length) (by simp)
                       subst hA3
                       simp only [List.getElem_append_right (Nat.le_refl _), Nat.sub_self, List.getElem_cons_zero] at q1
                       have hfr := hN4.row.free (o + R.length * 2)
                       have hN5 := hN4.set (R.length * 2) (by rw [cellsQ_length, List.length_append, List.length_singleton]; omega) (iv ((1 : Nat) : Int))
                       rw [cellsQ_set] at hN5
                       have HN5 := Lib.hid hN5
                       clear hN3 hb3 hN4 hN5 q2)
          go_roundw
          case rel => exact ⟨1, R ++ [(1, x)], some ⟨g, o, none⟩, c3, by omega, by go_num, Hsn.out.symm, by simp, by rw [List.length_append]; exact HN5.out⟩
          case measure => simp [intOf]; omega
        · have hne : l.getD (k - 1) 0 ≠ l.getD k 0 := by
            rcases hnew with h | h
            · omega
            · exact h
          have hlt1 : k - 1 < l.length := by omega
          obtain ⟨ad', hB, hcell1⟩ := rd_int hrd hlt1
          injection hB with hB
          subst hB
          have hgd1 : l.getD (k - 1) 0 = l[k - 1] := by rw [List.getD_eq_getElem?_getD, List.getElem?_eq_getElem hlt1]; rfl
          rw [hgd, hgd1] at hne
          have hki1 : (k : Int) - 1 = ((k - 1 : Nat) : Int) := by omega
          have hk1i : ((k - 1 : Nat) : Int) < (l.length : Int) := by omega
          have hkz : decide ((k : Int) = 0) = false := decide_eq_false (by omega)
          have hkz2 : ¬ ((k : Int) = 0) := by omega
          generalize l[k - 1] = y at *
          generalize l[k] = x at *
          have hyx : (y != x) = true := by simp [hne]
          clear hR hnew hgd hrd hgd1
          go_wp2_with (at_builtin
                       refine wpList_app_new rfl (.tmp 24) (.tmp 27) _ rfl 135 _ 2 16 Tryz.underlying132 info_run rfl B _ cR _ HN.out (ext_alloc (Below.refl _ _) _) rfl ⟨wr.heap.size, 0, none⟩ 1 [.int .i64 0, .int .i64 x] rfl rfl (Rd.lit _ #[.int .i64 0, .int .i64 x] _) ?_ hm1 hm2 ?_
                       · simp; exact ⟨rfl, rfl⟩
                       intro A3 c3 w3 hN3 hb3
                       have hN4 : NewO w w3 135 2 A3 (R.length + 1) c3 (cellsQ (R ++ [(0, x)])) := by rw [cellsQ_append]; exact hN3
                       obtain ⟨g, o, hA3, q1, q2⟩ := hN4.row.cellQ (k := R.length) (by simp)
                       subst hA3
                       simp only [List.getElem_append_right (Nat.le_refl _), Nat.sub_self, List.getElem_cons_zero] at q1
                       have hfr := hN4.row.free (o + R.length * 2)
                       have hN5 := hN4.set (R.length * 2) (by rw [cellsQ_length, List.length_append, List.length_singleton]; omega) (iv ((1 : Nat) : Int))
                       rw [cellsQ_set] at hN5
                       have HN5 := Lib.hid hN5
                       clear hN3 hb3 hN4 hN5 q2)
          go_roundw
          case rel => exact ⟨k + 1, R ++ [(1, x)], some ⟨g, o, none⟩, c3, by omega, by go_num, Hsn.out.symm, by simp, by rw [List.length_append]; exact HN5.out⟩
          case measure => simp [intOf]; omega
      · have hk0 : 0 < k := by rcases Nat.eq_zero_or_pos k with h | h; exact absurd (.inl h) hnew; exact h
        have heq : l.getD (k - 1) 0 = l.getD k 0 := Classical.not_not.1 fun h => hnew (.inr h)
        have hlt1 : k - 1 < l.length := by omega
        obtain ⟨ad', hB, hcell1⟩ := rd_int hrd hlt1
        injection hB with hB
        subst hB
        have hgd1 : l.getD (k - 1) 0 = l[k - 1] := by rw [List.getD_eq_getElem?_getD, List.getElem?_eq_getElem hlt1]; rfl
        obtain ⟨rs, cc, e1, e2⟩ := runsTo_same l (k - 1) (by rw [show k - 1 + 1 = k by omega]; exact heq)
        rw [show k - 1 + 1 = k by omega] at e1 e2
        rw [show k - 1 + 2 = k + 1 by omega] at e2
        rw [hgd] at e1 e2
        rw [hgd, hgd1] at heq
        have hki1 : (k : Int) - 1 = ((k - 1 : Nat) : Int) := by omega
        have hk1i : ((k - 1 : Nat) : Int) < (l.length : Int) := by omega
        have hkz : decide ((k : Int) = 0) = false := decide_eq_false (by omega)
        have hkz2 : ¬ ((k : Int) = 0) := by omega
        rw [heq] at hcell1
        have hmem := (runsTo_mem l k (by omega) (cc, l[k]) (by rw [e1]; simp)).2.1
        generalize l[k - 1] = y at *
        generalize l[k] = x at *
        obtain rfl : R = rs ++ [(cc, x)] := hR.trans e1
        have HE2 := Lib.hid e2
        obtain ⟨g, o, hA3, q1, q2⟩ := hN.row.cellQ (k := rs.length) (by simp)
        subst hA3
        simp only [List.getElem_append_right (Nat.le_refl _), Nat.sub_self, List.getElem_cons_zero] at q1
        have hfr := hN.row.free (o + rs.length * 2)
        have hN5 := hN.set (rs.length * 2) (by rw [cellsQ_length, List.length_append, List.length_singleton]; omega) (iv ((cc + 1 : Nat) : Int))
        rw [cellsQ_set] at hN5
        have HN5 : Hid (NewO w (wr.setCell ⟨g, o + rs.length * 2, none⟩ (.int .i64 ((cc : Int) + 1))) 135 2 (some ⟨g, o, none⟩) (rs.length + [(cc + 1, x)].length) cR (cellsQ (rs ++ [(cc + 1, x)]))) := Lib.hid (by
          rw [List.length_append] at hN5
          exact hN5)
        rw [List.length_append, List.length_singleton] at hN ⊢ hrl
        have hlast : ((rs.length + 1 : Nat) : Int) - 1 = (rs.length : Int) := by omega
        have hcw : IntKind.i64.wrap ((cc : Int) + 1) = (((cc + 1 : Nat) : Int)) := by rw [show (cc : Int) + 1 = ((cc + 1 : Nat) : Int) by omega]; exact IntWalk.i64_in _ (by simp at hmem; omega)
        clear hR hnew hgd hrd hgd1 hN5 q2 e1 e2 hm1 hm2
        go_wp2
        go_roundw
        case rel => exact ⟨k + 1, rs ++ [(cc + 1, x)], some ⟨g, o, none⟩, cR, by omega, by go_num, HE2.out.symm, by simp, by rw [List.length_append]; exact HN5.out⟩
        case measure => simp [intOf]; omega
    · obtain rfl : k = l.length := by omega
      obtain rfl : R = P := hR.trans HP.out.symm
      go_wp2
      go_ret
      exact ⟨B, cR, rfl, hN⟩
end Go.Proofs.YtpjgkacekelkdaaGreatDoor

/-
  Numbers laid as runs (program). No statement of the seat is proved here.
-/
namespace Go.Proofs.YtpjgkacekelkdaaGreatDoor
open Go Go.RowKit
set_option maxRecDepth 100000

def pairsTo (rs : List (Nat × Int)) (k : Nat) : List UInt8 := pairsB (rs.take k)
theorem pairsTo_succ (rs : List (Nat × Int)) (k : Nat) (h : k < rs.length) : pairsTo rs (k + 1) = pairsTo rs k ++ numsB [(rs[k].1 : Int), rs[k].2] := by
  unfold pairsTo
  rw [take_snoc rs k h]
  unfold pairsB
  rw [List.flatMap_append]
  simp
theorem pairsTo_all (rs : List (Nat × Int)) : pairsTo rs rs.length = pairsB rs := by unfold pairsTo; rw [List.take_length]
theorem nums_two_len (a b : Int) : (numsB [a, b]).length ≤ 18 := numsB_len9 [a, b]
theorem pairsTo_len (rs : List (Nat × Int)) : ∀ k, (pairsTo rs k).length ≤ 18 * k
  | 0 => by simp [pairsTo, pairsB]
  | k + 1 => by
    have ih := pairsTo_len rs k
    by_cases hk : k < rs.length
    · rw [pairsTo_succ rs k hk, List.length_append]
      have := nums_two_len (rs[k].1 : Int) rs[k].2
      omega
    · have e : pairsTo rs (k + 1) = pairsTo rs k := by unfold pairsTo; rw [List.take_of_length_le (by omega), List.take_of_length_le (by omega)]
      rw [e]; omega

set_option maxHeartbeats 8000000 in
theorem runs_any (A : Option Addr) (c : Nat) (l : List Int) (w : World) (hA : Rd w A (l.map iv)) (hm : mayP l = true) :
    Calls Tryz.prog 71 #[.slice A l.length c] w fun e w' => ∃ A' c', e = .returned (.slice A' (runsB l).length c') ∧ New w w' A' c' (runsB l) ∧ Below w.heap.size w w' := by
  obtain ⟨hl, hv⟩ := (mayP_iff l).1 hm
  have HR := Lib.hid (runsOf_any A c l w hA hl)
  have HB := Lib.hid (runsTo_mem l l.length (Nat.le_refl _))
  have hrl := runsTo_len l l.length
  have HP : Hid (runsB l = numsB [2, ((runsTo l l.length).length : Int)] ++ pairsTo (runsTo l l.length) (runsTo l l.length).length) := Lib.hid (by rw [pairsTo_all]; rfl)
  rw [show runsP l = runsTo l l.length from rfl] at HR
  have HV := Lib.hid hv
  generalize runsTo l l.length = rs at *
  generalize runsB l = P at *
  have HN2 : Hid ((numsB [2, (rs.length : Int)]).length ≤ 18) := Lib.hid (nums_two_len _ _)
  have HNl := Lib.hid (pairsTo_len rs)
  have hri : (rs.length : Int) ≤ 32768 := by omega
  have Hrl : Hid (rs.length ≤ 32768) := Lib.hid (by omega)
  have Hl := Lib.hid hl
  clear hA hm hl hv
  go_enter Tryz.func71, Tryz.ntmps71
  go_wp2_with fail
  refine HR.out.mono ?_
  rintro e w1 ⟨AR, cR, rfl, hNR⟩
  have Hb1 := Lib.hid hNR.bel
  have HRd := Lib.hid hNR.row
  obtain ⟨W2, hW2⟩ : ∃ W2, W2 = w1.alloc (.cells #[.slice none 0 0] 55) := ⟨_, rfl⟩
  have HWr : Hid (Wr W2 (fun k => k = w1.heap.size) w1.heap.size []) := Lib.hid (by rw [hW2]; exact Wr.new w1 _ rfl)
  have HZ2 : Hid (W2.heap.size = w1.heap.size + 1) := Lib.hid (by rw [hW2, World.size_alloc])
  have Hb2 : Hid (Below w1.heap.size w1 W2) := Lib.hid (by rw [hW2]; exact ext_alloc (Below.refl _ _) _)
  have HW2 := Lib.hid hW2
  obtain ⟨g, hg⟩ : ∃ g, w1.heap.size = g := ⟨_, rfl⟩
  clear hW2 hNR HR
  go_wp2_with fail
  rw [← HW2.out]
  rw [hg] at HWr HZ2
  have Hg := Lib.hid hg
  clear hg
  refine (nums_any (fun k => k = g) g (some ⟨g + 1, 0, none⟩) 2 2 [2, (rs.length : Int)] [] _ (HWr.out.alloc _) rfl (RdF.lit W2 #[.int .i64 2, .int .i64 (rs.length : Int)] _ HZ2.out.symm (by omega)) (by
    intro v hv
    simp only [List.mem_cons, List.not_mem_nil, or_false] at hv
    rcases hv with rfl | rfl
    · exact ⟨by omega, by omega⟩
    · exact ⟨by omega, by omega⟩) (by simp)).mono ?_
  rintro e w3 ⟨rfl, hr3, ho3⟩
  obtain ⟨N, hN⟩ : ∃ N, numsB [2, (rs.length : Int)] = N := ⟨_, rfl⟩
  rw [hN] at hr3 HP HN2
  rw [List.nil_append] at hr3
  have hO3 : Only (fun k => k = g) W2 w3 := ((Only.refl _ _).alloc _).trans ho3 (fun _ _ h => h)
  have HR3 : Hid (Wr w3 (More (fun k => k = g) W2 w3) g (N.map bv)) := Lib.hid (wr_more (by simp) hr3)
  have HO3 := Lib.hid hO3
  have HK : Hid (∀ W, Only (fun k => k = g) W2 W → Below w1.heap.size w1 W) := Lib.hid (fun W ho => Hb2.out.trans (ho.below (fun i hi => by have := Hg.out; omega) Hb2.out.size))
  clear hN hr3 ho3 hO3
  go_wp2
  go_loopw [15] (fun i wr => ∃ k : Nat, k ≤ rs.length ∧ i = .int .i64 (k : Int) ∧ Wr wr (More (fun k => k = g) W2 wr) g ((N ++ pairsTo rs k).map bv) ∧ Only (fun k => k = g) W2 wr) (fun i _ => rs.length - (intOf i).toNat)
  case atStart => exact ⟨0, Nat.zero_le _, rfl, by simpa [pairsTo, pairsB] using HR3.out, HO3.out⟩
  case round =>
    obtain ⟨k, hk, rfl, hr, ho⟩ := hrel
    have Hr := Lib.hid hr
    have Ho := Lib.hid ho
    by_cases hlt : k < rs.length
    · have hki : (k : Int) < (rs.length : Int) := by omega
      obtain ⟨gr, o, hB, c0, c1⟩ := (HRd.out.ext (HK.out wr ho)).cellQ hlt
      subst hB
      have Hsn : Hid (N ++ pairsTo rs (k + 1) = (N ++ pairsTo rs k) ++ numsB [(rs[k].1 : Int), rs[k].2]) := Lib.hid (by rw [pairsTo_succ rs k hlt, List.append_assoc])
      obtain ⟨b1, b2, b3⟩ := HB.out _ (List.getElem_mem hlt)
      have b4 := HV.out _ b3
      have b5 : rs[k].1 ≤ 32768 := by have := Hl.out; omega
      have HB5 := Lib.hid b5
      have HB4 := Lib.hid b4
      generalize rs[k].1 = cc at *
      generalize rs[k].2 = x at *
      clear hr ho b1 b2 b3 b4 b5
      go_wp2_with fail
      refine (nums_any (More (fun k => k = g) W2 wr) g _ 2 2 [(cc : Int), x] ((N ++ pairsTo rs k).map bv) _ ((Hr.out.alloc _).alloc _) rfl (RdF.lit (wr.alloc _) #[.int .i64 (cc : Int), .int .i64 x] _ (by rw [World.size_alloc]) (fun hm => ?_)) (by
        intro v hv
        simp only [List.mem_cons, List.not_mem_nil, or_false] at hv
        have h4 := HB4.out
        have h5 := HB5.out
        rcases hv with rfl | rfl
        · exact ⟨by omega, by omega⟩
        · exact ⟨by omega, by omega⟩) (by simp only [List.length_map, List.length_append, List.length_cons, List.length_nil]; have := HNl.out k; have := HN2.out; have := Hrl.out; omega)).mono ?_
      · rcases hm with hm | hm
        · have h1 := Ho.out.size; have h2 := HZ2.out; omega
        · have := hm.2; omega
      rintro e w4 ⟨rfl, hr4, ho4⟩
      have hOb := (Ho.out.alloc (.cells #[.int .i64 (cc : Int), .int .i64 x] 135)).alloc (.cells #[.int .i64 (cc : Int), .int .i64 x] 3)
      have hR4 : Wr w4 (More (fun k => k = g) W2 w4) g ((N ++ pairsTo rs (k + 1)).map bv) := by
        rw [Hsn.out, List.map_append]
        exact Wr.join Ho.out.size (by rw [World.size_alloc, World.size_alloc]; omega) ho4.size hr4
      have hO4 := hOb.join ho4
      have HR4 := Lib.hid hR4
      have HO4 := Lib.hid hO4
      clear hr4 ho4 hOb hR4 hO4
      go_wp2
      go_roundw
      case rel => exact ⟨k + 1, by omega, by go_num, HR4.out, HO4.out⟩
      case measure => simp [intOf]; omega
    · obtain rfl : k = rs.length := by omega
      have HF := Lib.hid (out_any _ g (N ++ pairsTo rs rs.length) wr Hr.out (by rw [List.length_append]; have := HN2.out; have := HNl.out rs.length; have := Hrl.out; omega))
      rw [← HP.out] at HF
      have Hbw := Lib.hid (ext_trans Hb1.out (HK.out wr Ho.out))
      clear hr ho
      go_wp2_with fail
      refine HF.out.mono ?_
      rintro e w5 ⟨A5, c5, rfl, hn5, hb5⟩
      have Hn5 := Lib.hid (hn5.back Hbw.out.size)
      have Hb5 := Lib.hid (ext_trans Hbw.out hb5)
      clear hn5 hb5
      go_wp2
      go_ret
      exact ⟨A5, c5, rfl, Hn5.out, Hb5.out⟩
end Go.Proofs.YtpjgkacekelkdaaGreatDoor

/-
  The shortest of three (program). No statement of the seat is proved here.
-/
namespace Go.Proofs.YtpjgkacekelkdaaGreatDoor
open Go Go.RowKit
set_option maxRecDepth 100000

theorem nan_any (a : Int) (w : World) : Calls Tryz.prog 98 #[.int .i64 a] w fun e w' => e = .returned (.bool false) ∧ w = w' := by
  go_enter Tryz.func98, Tryz.ntmps98
  go_wp2
  go_ret
  exact ⟨by simp, rfl⟩
def cmpS (a b : Int) : Int := if a < b then -1 else if b < a then 1 else 0
theorem compare_any (a b : Int) (w : World) : Calls Tryz.prog 85 #[.int .i64 a, .int .i64 b] w fun e w' => e = .returned (.int .i64 (cmpS a b)) ∧ w = w' := by
  have H1 := Lib.hid (fun v => nan_any v w)
  have hv : cmpS a b = (if a < b then -1 else if b < a then 1 else 0) := rfl
  generalize cmpS a b = V at *
  by_cases h : a < b
  · rw [if_pos h] at hv
    subst hv
    go_enter Tryz.func85, Tryz.ntmps85
    go_wp2_with fail
    refine (H1.out a).mono ?_
    rintro e w' ⟨rfl, rfl⟩
    go_wp2_with fail
    refine (H1.out b).mono ?_
    rintro e w' ⟨rfl, rfl⟩
    go_wp2
    go_ret
    exact ⟨rfl, rfl⟩
  · rw [if_neg h] at hv
    by_cases h2 : b < a
    · rw [if_pos h2] at hv
      subst hv
      go_enter Tryz.func85, Tryz.ntmps85
      go_wp2_with fail
      refine (H1.out a).mono ?_
      rintro e w' ⟨rfl, rfl⟩
      go_wp2_with fail
      refine (H1.out b).mono ?_
      rintro e w' ⟨rfl, rfl⟩
      go_wp2
      go_ret
      exact ⟨rfl, rfl⟩
    · rw [if_neg h2] at hv
      subst hv
      go_enter Tryz.func85, Tryz.ntmps85
      go_wp2_with fail
      refine (H1.out a).mono ?_
      rintro e w' ⟨rfl, rfl⟩
      go_wp2_with fail
      refine (H1.out b).mono ?_
      rintro e w' ⟨rfl, rfl⟩
      go_wp2
      go_ret
      exact ⟨rfl, rfl⟩
theorem least_any (A B : Option Addr) (n m c d : Nat) (w : World) : Calls Tryz.prog 84 #[.slice A n c, .slice B m d] w fun e w' => e = .returned (.int .i64 (cmpS (n : Int) (m : Int))) ∧ w = w' := by
  have H1 := Lib.hid (compare_any (n : Int) (m : Int) w)
  go_enter Tryz.func84, Tryz.ntmps84
  go_wp2_with fail
  refine H1.out.mono ?_
  rintro e w' ⟨rfl, rfl⟩
  go_wp2
  go_ret
  exact ⟨rfl, rfl⟩
theorem cmp_neg {n m : Nat} : (cmpS (n : Int) (m : Int) < 0) ↔ n < m := by
  unfold cmpS
  split
  · omega
  · split <;> omega
/-- the shortest of the first so many of three -/
def minK (A1 A2 A3 : Option Addr) (n1 n2 n3 c1 c2 c3 k : Nat) : Value :=
  if k = 1 then .slice A1 n1 c1 else if k = 2 then (if n2 < n1 then .slice A2 n2 c2 else .slice A1 n1 c1)
  else (if n3 < (if n2 < n1 then n2 else n1) then .slice A3 n3 c3 else if n2 < n1 then .slice A2 n2 c2 else .slice A1 n1 c1)

set_option maxHeartbeats 4000000 in
theorem minfunc_any (g : Nat) (A1 A2 A3 : Option Addr) (n1 n2 n3 c1 c2 c3 : Nat) (w : World) (t : TypeId) (hB : Blk w g t #[.slice A1 n1 c1, .slice A2 n2 c2, .slice A3 n3 c3]) :
    Calls Tryz.prog 83 #[.slice (some ⟨g, 0, none⟩) 3 3, .func (.func 84) #[] #[]] w fun e w' =>
      e = .returned (minK A1 A2 A3 n1 n2 n3 c1 c2 c3 3) ∧ w = w' := by
  have k0 := hB.cell 0
  have k1 := hB.cell 1
  have k2 := hB.cell 2
  simp only [List.getElem?_toArray, List.getElem?_cons_zero, List.getElem?_cons_succ] at k0 k1 k2
  have HL := Lib.hid (fun (A B : Option Addr) (n m c d : Nat) => least_any A B n m c d w)
  have M1 : minK A1 A2 A3 n1 n2 n3 c1 c2 c3 1 = .slice A1 n1 c1 := rfl
  have M2 : Hid (minK A1 A2 A3 n1 n2 n3 c1 c2 c3 2 = (if n2 < n1 then .slice A2 n2 c2 else .slice A1 n1 c1)) := Lib.hid rfl
  have M3 : Hid (minK A1 A2 A3 n1 n2 n3 c1 c2 c3 3 = (if n3 < (if n2 < n1 then n2 else n1) then .slice A3 n3 c3 else if n2 < n1 then .slice A2 n2 c2 else .slice A1 n1 c1)) := Lib.hid rfl
  clear hB
  generalize hF : minK A1 A2 A3 n1 n2 n3 c1 c2 c3 = F at *
  clear hF
  go_enter Tryz.func83, Tryz.ntmps83
  go_wp2
  go_loop [5, 6] (fun m i => ∃ k : Nat, 1 ≤ k ∧ k ≤ 3 ∧ i = .int .i64 (k : Int) ∧ m = F k) (fun _ i => 3 - (intOf i).toNat)
  case atStart => exact ⟨1, Nat.le_refl _, by omega, rfl, M1.symm⟩
  case round =>
    obtain ⟨k, hk1, hk3, rfl, rfl⟩ := hrel
    obtain rfl | rfl | rfl : k = 1 ∨ k = 2 ∨ k = 3 := by omega
    · rw [M1]
      have H1 := Lib.hid (HL.out A2 A1 n2 n1 c2 c1)
      by_cases h1 : n2 < n1
      · have q1 := cmp_neg.2 h1
        rw [if_pos h1] at M2
        generalize cmpS (n2 : Int) (n1 : Int) = x1 at *
        clear h1
        go_wp2_with fail
        refine H1.out.mono ?_
        rintro e w' ⟨rfl, rfl⟩
        go_wp2
        go_round
        case rel => exact ⟨2, by omega, by omega, by go_num, M2.out.symm⟩
        case measure => simp [intOf]
      · have q1 : ¬ (cmpS (n2 : Int) (n1 : Int) < 0) := fun h => h1 (cmp_neg.1 h)
        rw [if_neg h1] at M2
        generalize cmpS (n2 : Int) (n1 : Int) = x1 at *
        clear h1
        go_wp2_with fail
        refine H1.out.mono ?_
        rintro e w' ⟨rfl, rfl⟩
        go_wp2
        go_round
        case rel => exact ⟨2, by omega, by omega, by go_num, M2.out.symm⟩
        case measure => simp [intOf]
    · by_cases h1 : n2 < n1
      · rw [M2.out, if_pos h1]
        rw [if_pos h1, if_pos h1] at M3
        have H1 := Lib.hid (HL.out A3 A2 n3 n2 c3 c2)
        by_cases h2 : n3 < n2
        · have q1 := cmp_neg.2 h2
          rw [if_pos h2] at M3
          generalize cmpS (n3 : Int) (n2 : Int) = x1 at *
          clear h1 h2 M2
          go_wp2_with fail
          refine H1.out.mono ?_
          rintro e w' ⟨rfl, rfl⟩
          go_wp2
          go_round
          case rel => exact ⟨3, by omega, by omega, by go_num, M3.out.symm⟩
          case measure => simp [intOf]
        · have q1 : ¬ (cmpS (n3 : Int) (n2 : Int) < 0) := fun h => h2 (cmp_neg.1 h)
          rw [if_neg h2] at M3
          generalize cmpS (n3 : Int) (n2 : Int) = x1 at *
          clear h1 h2 M2
          go_wp2_with fail
          refine H1.out.mono ?_
          rintro e w' ⟨rfl, rfl⟩
          go_wp2
          go_round
          case rel => exact ⟨3, by omega, by omega, by go_num, M3.out.symm⟩
          case measure => simp [intOf]
      · rw [M2.out, if_neg h1]
        rw [if_neg h1, if_neg h1] at M3
        have H1 := Lib.hid (HL.out A3 A1 n3 n1 c3 c1)
        by_cases h2 : n3 < n1
        · have q1 := cmp_neg.2 h2
          rw [if_pos h2] at M3
          generalize cmpS (n3 : Int) (n1 : Int) = x1 at *
          clear h1 h2 M2
          go_wp2_with fail
          refine H1.out.mono ?_
          rintro e w' ⟨rfl, rfl⟩
          go_wp2
          go_round
          case rel => exact ⟨3, by omega, by omega, by go_num, M3.out.symm⟩
          case measure => simp [intOf]
        · have q1 : ¬ (cmpS (n3 : Int) (n1 : Int) < 0) := fun h => h2 (cmp_neg.1 h)
          rw [if_neg h2] at M3
          generalize cmpS (n3 : Int) (n1 : Int) = x1 at *
          clear h1 h2 M2
          go_wp2_with fail
          refine H1.out.mono ?_
          rintro e w' ⟨rfl, rfl⟩
          go_wp2
          go_round
          case rel => exact ⟨3, by omega, by omega, by go_num, M3.out.symm⟩
          case measure => simp [intOf]
    · clear M1 M2 M3
      obtain ⟨V, hV⟩ : ∃ V, F 3 = V := ⟨_, rfl⟩
      rw [hV]
      have HV := Lib.hid hV
      clear hV
      go_wp2
      go_ret
      exact ⟨by rw [HV.out]; rfl, rfl⟩

set_option maxHeartbeats 4000000 in
theorem best_any (A : Option Addr) (c : Nat) (l : List Int) (w : World) (hA : Rd w A (l.map iv)) (hm : mayP l = true) :
    Calls Tryz.prog 45 #[.slice A l.length c] w fun e w' => ∃ A' c', e = .returned (.slice A' (bestP l).length c') ∧ New w w' A' c' (bestP l) ∧ Below w.heap.size w w' := by
  have H1 := Lib.hid (plain_any A c l w hA hm)
  have H2 := Lib.hid (fun (W : World) (hb : Below w.heap.size w W) => delta_any A c l W (hA.ext hb) hm)
  have H3 := Lib.hid (fun (W : World) (hb : Below w.heap.size w W) => runs_any A c l W (hA.ext hb) hm)
  have HP : Hid (bestP l = shortP (shortP (plainP l) (deltaP l)) (runsB l)) := Lib.hid rfl
  generalize bestP l = P at *
  generalize plainP l = P1 at *
  generalize deltaP l = P2 at *
  generalize runsB l = P3 at *
  clear hA hm
  go_enter Tryz.func45, Tryz.ntmps45
  go_wp2_with fail
  refine H1.out.mono ?_
  rintro e w1 ⟨A1, c1, rfl, hn1, hb1⟩
  have Hn1 := Lib.hid hn1
  have Hb1 := Lib.hid hb1
  clear hn1 hb1 H1
  go_wp2_with fail
  refine (H2.out w1 Hb1.out).mono ?_
  rintro e w2 ⟨A2, c2, rfl, hn2, hb2⟩
  have Hn1' := Lib.hid (Hn1.out.ext hb2)
  have Hn2 := Lib.hid (hn2.back Hb1.out.size)
  have Hb2 := Lib.hid (ext_trans Hb1.out hb2)
  clear hn2 hb2 H2 Hn1
  go_wp2_with fail
  refine (H3.out w2 Hb2.out).mono ?_
  rintro e w3 ⟨A3, c3, rfl, hn3, hb3⟩
  have Hn1 := Lib.hid (Hn1'.out.ext hb3)
  have Hn2' := Lib.hid (Hn2.out.ext hb3)
  have Hn3 := Lib.hid (hn3.back Hb2.out.size)
  have Hb3 := Lib.hid (ext_trans Hb2.out hb3)
  clear hn3 hb3 H3 Hn2 Hn1'
  go_wp2_with fail
  refine (minfunc_any w3.heap.size A1 A2 A3 P1.length P2.length P3.length c1 c2 c3 _ _ (Blk.new w3 _ _)).mono ?_
  rintro e w4 ⟨rfl, rfl⟩
  go_wp2
  go_ret
  have hx : Below w3.heap.size w3 (w3.alloc (.cells #[.slice A1 P1.length c1, .slice A2 P2.length c2, .slice A3 P3.length c3] 26)) := (Below.refl _ _).alloc (Nat.le_refl _) _
  have g1 := Hn1.out.ext hx
  have g2 := Hn2'.out.ext hx
  have g3 := Hn3.out.ext hx
  have g4 := ext_trans Hb3.out hx
  have hP := HP.out
  have e3 : minK A1 A2 A3 P1.length P2.length P3.length c1 c2 c3 3 = (if P3.length < (if P2.length < P1.length then P2.length else P1.length) then .slice A3 P3.length c3 else if P2.length < P1.length then .slice A2 P2.length c2 else .slice A1 P1.length c1) := rfl
  rw [e3]
  unfold shortP at hP
  by_cases h1 : P2.length < P1.length
  · rw [if_pos h1] at hP
    rw [if_pos h1, if_pos h1]
    by_cases h2 : P3.length < P2.length
    · rw [if_pos h2] at hP
      rw [if_pos h2, hP]
      exact ⟨A3, c3, rfl, g3, g4⟩
    · rw [if_neg h2] at hP
      rw [if_neg h2, hP]
      exact ⟨A2, c2, rfl, g2, g4⟩
  · rw [if_neg h1] at hP
    rw [if_neg h1, if_neg h1]
    by_cases h2 : P3.length < P1.length
    · rw [if_pos h2] at hP
      rw [if_pos h2, hP]
      exact ⟨A3, c3, rfl, g3, g4⟩
    · rw [if_neg h2] at hP
      rw [if_neg h2, hP]
      exact ⟨A1, c1, rfl, g1, g4⟩
end Go.Proofs.YtpjgkacekelkdaaGreatDoor

/-
  Numbers laid in some way, if they may be (program). No statement of the seat is proved here.
-/
namespace Go.Proofs.YtpjgkacekelkdaaGreatDoor
open Go Go.RowKit
set_option maxRecDepth 100000

/-- what is laid, and the error -/
def ansP (l : List Int) (b : List UInt8) : List UInt8 × Int := if mayP l = true then (b, 0) else ([], 1)
set_option maxHeartbeats 2000000 in
theorem laid_plain (A : Option Addr) (c : Nat) (l : List Int) (w : World) (hA : Rd w A (l.map iv)) :
    Calls Tryz.prog 44 #[.func (.func 67) #[] #[], .slice A l.length c] w fun e w' => ∃ A' c', e = .returned (.tuple #[.slice A' (ansP l (plainP l)).1.length c', .int .i64 (ansP l (plainP l)).2]) ∧ New w w' A' c' (ansP l (plainP l)).1 ∧ Below w.heap.size w w' := by
  have hm := may_out l
  have HF := Lib.hid (plain_any A c l w hA)
  have HA := Lib.hid hA
  clear hA
  by_cases h1 : l.length ≤ 32768
  · have h1i : ¬ ((32768 : Int) < (l.length : Int)) := by omega
    have HC := Lib.hid (pcontains_any A c l w HA.out (by omega))
    rw [decide_eq_true h1, Bool.true_and] at hm
    cases hq : l.any outP with
    | true =>
      have HR : Hid (ansP l (plainP l) = ([], 1)) := Lib.hid (by unfold ansP; rw [hm, hq]; rfl)
      rw [hq] at HC
      clear hm hq HF
      go_enter Tryz.func44, Tryz.ntmps44
      go_wp2_with fail
      refine HC.out.mono ?_
      rintro e w' ⟨rfl, rfl⟩
      go_wp2
      go_ret2
      rw [HR.out]
      exact ⟨none, 0, rfl, Own.none_ _ _ _, Below.refl _ _⟩
    | false =>
      rw [hq] at HC hm
      have HR : Hid (ansP l (plainP l) = (plainP l, 0)) := Lib.hid (by unfold ansP; rw [hm]; rfl)
      have HF2 := Lib.hid (HF.out hm)
      clear hm hq HF
      go_enter Tryz.func44, Tryz.ntmps44
      go_wp2_with fail
      refine HC.out.mono ?_
      rintro e w' ⟨rfl, rfl⟩
      go_wp2_with fail
      refine HF2.out.mono ?_
      rintro e w1 ⟨A1, c1, rfl, hn1, hb1⟩
      have Hn1 := Lib.hid hn1
      have Hb1 := Lib.hid hb1
      clear hn1 hb1
      go_wp2
      go_ret2
      rw [HR.out]
      exact ⟨A1, c1, rfl, Hn1.out, Hb1.out⟩
  · have h1i : (32768 : Int) < (l.length : Int) := by omega
    have HR : Hid (ansP l (plainP l) = ([], 1)) := Lib.hid (by unfold ansP; rw [hm, decide_eq_false h1]; rfl)
    clear hm HF
    go_enter Tryz.func44, Tryz.ntmps44
    go_wp2
    go_ret2
    rw [HR.out]
    exact ⟨none, 0, rfl, Own.none_ _ _ _, Below.refl _ _⟩
set_option maxHeartbeats 2000000 in
theorem laid_delta (A : Option Addr) (c : Nat) (l : List Int) (w : World) (hA : Rd w A (l.map iv)) :
    Calls Tryz.prog 44 #[.func (.func 69) #[] #[], .slice A l.length c] w fun e w' => ∃ A' c', e = .returned (.tuple #[.slice A' (ansP l (deltaP l)).1.length c', .int .i64 (ansP l (deltaP l)).2]) ∧ New w w' A' c' (ansP l (deltaP l)).1 ∧ Below w.heap.size w w' := by
  have hm := may_out l
  have HF := Lib.hid (delta_any A c l w hA)
  have HA := Lib.hid hA
  clear hA
  by_cases h1 : l.length ≤ 32768
  · have h1i : ¬ ((32768 : Int) < (l.length : Int)) := by omega
    have HC := Lib.hid (pcontains_any A c l w HA.out (by omega))
    rw [decide_eq_true h1, Bool.true_and] at hm
    cases hq : l.any outP with
    | true =>
      have HR : Hid (ansP l (deltaP l) = ([], 1)) := Lib.hid (by unfold ansP; rw [hm, hq]; rfl)
      rw [hq] at HC
      clear hm hq HF
      go_enter Tryz.func44, Tryz.ntmps44
      go_wp2_with fail
      refine HC.out.mono ?_
      rintro e w' ⟨rfl, rfl⟩
      go_wp2
      go_ret2
      rw [HR.out]
      exact ⟨none, 0, rfl, Own.none_ _ _ _, Below.refl _ _⟩
    | false =>
      rw [hq] at HC hm
      have HR : Hid (ansP l (deltaP l) = (deltaP l, 0)) := Lib.hid (by unfold ansP; rw [hm]; rfl)
      have HF2 := Lib.hid (HF.out hm)
      clear hm hq HF
      go_enter Tryz.func44, Tryz.ntmps44
      go_wp2_with fail
      refine HC.out.mono ?_
      rintro e w' ⟨rfl, rfl⟩
      go_wp2_with fail
      refine HF2.out.mono ?_
      rintro e w1 ⟨A1, c1, rfl, hn1, hb1⟩
      have Hn1 := Lib.hid hn1
      have Hb1 := Lib.hid hb1
      clear hn1 hb1
      go_wp2
      go_ret2
      rw [HR.out]
      exact ⟨A1, c1, rfl, Hn1.out, Hb1.out⟩
  · have h1i : (32768 : Int) < (l.length : Int) := by omega
    have HR : Hid (ansP l (deltaP l) = ([], 1)) := Lib.hid (by unfold ansP; rw [hm, decide_eq_false h1]; rfl)
    clear hm HF
    go_enter Tryz.func44, Tryz.ntmps44
    go_wp2
    go_ret2
    rw [HR.out]
    exact ⟨none, 0, rfl, Own.none_ _ _ _, Below.refl _ _⟩
set_option maxHeartbeats 2000000 in
theorem laid_runs (A : Option Addr) (c : Nat) (l : List Int) (w : World) (hA : Rd w A (l.map iv)) :
    Calls Tryz.prog 44 #[.func (.func 71) #[] #[], .slice A l.length c] w fun e w' => ∃ A' c', e = .returned (.tuple #[.slice A' (ansP l (runsB l)).1.length c', .int .i64 (ansP l (runsB l)).2]) ∧ New w w' A' c' (ansP l (runsB l)).1 ∧ Below w.heap.size w w' := by
  have hm := may_out l
  have HF := Lib.hid (runs_any A c l w hA)
  have HA := Lib.hid hA
  clear hA
  by_cases h1 : l.length ≤ 32768
  · have h1i : ¬ ((32768 : Int) < (l.length : Int)) := by omega
    have HC := Lib.hid (pcontains_any A c l w HA.out (by omega))
    rw [decide_eq_true h1, Bool.true_and] at hm
    cases hq : l.any outP with
    | true =>
      have HR : Hid (ansP l (runsB l) = ([], 1)) := Lib.hid (by unfold ansP; rw [hm, hq]; rfl)
      rw [hq] at HC
      clear hm hq HF
      go_enter Tryz.func44, Tryz.ntmps44
      go_wp2_with fail
      refine HC.out.mono ?_
      rintro e w' ⟨rfl, rfl⟩
      go_wp2
      go_ret2
      rw [HR.out]
      exact ⟨none, 0, rfl, Own.none_ _ _ _, Below.refl _ _⟩
    | false =>
      rw [hq] at HC hm
      have HR : Hid (ansP l (runsB l) = (runsB l, 0)) := Lib.hid (by unfold ansP; rw [hm]; rfl)
      have HF2 := Lib.hid (HF.out hm)
      clear hm hq HF
      go_enter Tryz.func44, Tryz.ntmps44
      go_wp2_with fail
      refine HC.out.mono ?_
      rintro e w' ⟨rfl, rfl⟩
      go_wp2_with fail
      refine HF2.out.mono ?_
      rintro e w1 ⟨A1, c1, rfl, hn1, hb1⟩
      have Hn1 := Lib.hid hn1
      have Hb1 := Lib.hid hb1
      clear hn1 hb1
      go_wp2
      go_ret2
      rw [HR.out]
      exact ⟨A1, c1, rfl, Hn1.out, Hb1.out⟩
  · have h1i : (32768 : Int) < (l.length : Int) := by omega
    have HR : Hid (ansP l (runsB l) = ([], 1)) := Lib.hid (by unfold ansP; rw [hm, decide_eq_false h1]; rfl)
    clear hm HF
    go_enter Tryz.func44, Tryz.ntmps44
    go_wp2
    go_ret2
    rw [HR.out]
    exact ⟨none, 0, rfl, Own.none_ _ _ _, Below.refl _ _⟩
set_option maxHeartbeats 2000000 in
theorem laid_best (A : Option Addr) (c : Nat) (l : List Int) (w : World) (hA : Rd w A (l.map iv)) :
    Calls Tryz.prog 44 #[.func (.func 45) #[] #[], .slice A l.length c] w fun e w' => ∃ A' c', e = .returned (.tuple #[.slice A' (ansP l (bestP l)).1.length c', .int .i64 (ansP l (bestP l)).2]) ∧ New w w' A' c' (ansP l (bestP l)).1 ∧ Below w.heap.size w w' := by
  have hm := may_out l
  have HF := Lib.hid (best_any A c l w hA)
  have HA := Lib.hid hA
  clear hA
  by_cases h1 : l.length ≤ 32768
  · have h1i : ¬ ((32768 : Int) < (l.length : Int)) := by omega
    have HC := Lib.hid (pcontains_any A c l w HA.out (by omega))
    rw [decide_eq_true h1, Bool.true_and] at hm
    cases hq : l.any outP with
    | true =>
      have HR : Hid (ansP l (bestP l) = ([], 1)) := Lib.hid (by unfold ansP; rw [hm, hq]; rfl)
      rw [hq] at HC
      clear hm hq HF
      go_enter Tryz.func44, Tryz.ntmps44
      go_wp2_with fail
      refine HC.out.mono ?_
      rintro e w' ⟨rfl, rfl⟩
      go_wp2
      go_ret2
      rw [HR.out]
      exact ⟨none, 0, rfl, Own.none_ _ _ _, Below.refl _ _⟩
    | false =>
      rw [hq] at HC hm
      have HR : Hid (ansP l (bestP l) = (bestP l, 0)) := Lib.hid (by unfold ansP; rw [hm]; rfl)
      have HF2 := Lib.hid (HF.out hm)
      clear hm hq HF
      go_enter Tryz.func44, Tryz.ntmps44
      go_wp2_with fail
      refine HC.out.mono ?_
      rintro e w' ⟨rfl, rfl⟩
      go_wp2_with fail
      refine HF2.out.mono ?_
      rintro e w1 ⟨A1, c1, rfl, hn1, hb1⟩
      have Hn1 := Lib.hid hn1
      have Hb1 := Lib.hid hb1
      clear hn1 hb1
      go_wp2
      go_ret2
      rw [HR.out]
      exact ⟨A1, c1, rfl, Hn1.out, Hb1.out⟩
  · have h1i : (32768 : Int) < (l.length : Int) := by omega
    have HR : Hid (ansP l (bestP l) = ([], 1)) := Lib.hid (by unfold ansP; rw [hm, decide_eq_false h1]; rfl)
    clear hm HF
    go_enter Tryz.func44, Tryz.ntmps44
    go_wp2
    go_ret2
    rw [HR.out]
    exact ⟨none, 0, rfl, Own.none_ _ _ _, Below.refl _ _⟩
section
variable (A : Option Addr) (c : Nat) (l : List Int) (w : World) (hA : Rd w A (l.map iv))
include hA
theorem bBest_any : Calls Tryz.prog 17 #[.slice A l.length c] w fun e w' => ∃ A' c', e = .returned (.tuple #[.slice A' (ansP l (bestP l)).1.length c', .int .i64 (ansP l (bestP l)).2]) ∧ New w w' A' c' (ansP l (bestP l)).1 ∧ Below w.heap.size w w' := by
  have H := Lib.hid (laid_best A c l w hA)
  generalize ansP l (bestP l) = R at *
  clear hA
  go_enter Tryz.func17, Tryz.ntmps17
  go_wp2_with fail
  refine H.out.mono ?_
  rintro e w1 ⟨A1, c1, rfl, hn1, hb1⟩
  have Hn1 := Lib.hid hn1
  have Hb1 := Lib.hid hb1
  clear hn1 hb1
  go_wp2
  go_ret2
  exact ⟨A1, c1, rfl, Hn1.out, Hb1.out⟩
end
end Go.Proofs.YtpjgkacekelkdaaGreatDoor

/-
  Bytes as a string, as the laws compare them. No statement of the seat is proved here.
-/
namespace Go.Proofs.YtpjgkacekelkdaaGreatDoor
open Go Go.RowKit

theorem conv_bytes (w : World) (A : Option Addr) (n c : Nat) (bs : List UInt8) (hn : n = bs.length) (hr : Rd w A (bs.map bv)) :
    (convert 26 9 (.slice A n c)).run Tryz.prog w = .ok (.string ⟨bs.toArray⟩) w := by
  subst hn
  rcases A with _ | ad
  · have hnil : bs = [] := by
      rcases bs with _ | ⟨b, r⟩
      · rfl
      · obtain ⟨ad, h0, _⟩ := hr 0 _ rfl
        cases h0
    subst hnil
    exact Lib.run_convert_nil_bytes w _ _ 5 c Tryz.underlying26 Tryz.underlying5 Tryz.underlying9
  · refine run_convert_bytes_back w _ _ 5 ad c bs Tryz.underlying26 Tryz.underlying5 Tryz.underlying9 (fun j hj => ?_)
    obtain ⟨ad', h1, h2⟩ := hr j (bv bs[j]) (by simp [hj])
    injection h1 with h1
    subst h1
    exact h2
end Go.Proofs.YtpjgkacekelkdaaGreatDoor

/-
  bytes.Equal. No statement of the seat is proved here.
-/
namespace Go.Proofs.YtpjgkacekelkdaaGreatDoor
open Go Go.RowKit

theorem eqb_any (A B : Option Addr) (c d : Nat) (xs ys : List UInt8) (w : World) (hx : Rd w A (xs.map bv)) (hy : Rd w B (ys.map bv)) :
    Calls Tryz.prog 75 #[.slice A xs.length c, .slice B ys.length d] w fun e w' => e = .returned (.bool (decide (xs = ys))) ∧ w = w' := by
  have h1 := conv_bytes w A xs.length c xs rfl hx
  have h2 := conv_bytes w B ys.length d ys rfl hy
  by_cases hxy : xs = ys
  · subst hxy
    generalize (⟨xs.toArray⟩ : ByteArray) = Z at h1 h2
    go_enter Tryz.func75, Tryz.ntmps75
    go_wp2
    go_ret
    exact ⟨by simp, rfl⟩
  · have hne : ((⟨xs.toArray⟩ : ByteArray).toList == (⟨ys.toArray⟩ : ByteArray).toList) = false := by
      rw [ByteArray.toList_mk, ByteArray.toList_mk]
      simpa using hxy
    have hfin : decide (xs = ys) = false := by simp [hxy]
    have Hfin := Lib.hid hfin
    clear hfin hxy
    generalize (⟨xs.toArray⟩ : ByteArray) = Z at *
    generalize (⟨ys.toArray⟩ : ByteArray) = Y at *
    go_enter Tryz.func75, Tryz.ntmps75
    go_wp2
    go_ret
    exact ⟨by rw [Hfin.out]; rfl, rfl⟩
end Go.Proofs.YtpjgkacekelkdaaGreatDoor
