/-
  Texts of this claim, joined (part 8): contracts and lemmas that the last text goes by. No statement of the seat is proved here.
-/
import Derived.Test.YtjincmnkloeolaaAll7
import Derived.Test.YtjincmnkloeolaaAll5
import Derived.Test.YtjincmnkloeolaaAll2
import Derived.Deep.RegionHeld3
set_option linter.unusedVariables false
set_option linter.unusedSimpArgs false
/-
  TreeFits' walk. No statement of the seat is proved here.
-/
namespace Go.Proofs.Ytjincmnkloeolaa
open Go Go.RowKit Go.Maps
set_option maxRecDepth 100000

theorem fitsT (t : Tr) (hG : Good t) (l : List Tok) : (varsT t l).length = wildN (tmpl (numT t l).1 (numT t l).2) ∧ ((numT t l).2 ≠ 0 → (tmpl (numT t l).1 (numT t l).2).length = l.length ∧ alikeI (tmpl (numT t l).1 (numT t l).2) l = (l.length : Int)) ∧ ((numT t l).2 = 0 → ¬ (l.length ≠ 0 ∧ l.length ≤ 64 ∧ (numT t l).1.lv.length < 3 ∧ (numT t l).1.ts.length + 1 < 8)) ∧ (tmpl (numT t l).1 (numT t l).2).length ≤ 1000000 ∧ (numT t l).2 ≤ (numT t l).1.ts.length := by
  have h1 := numT_fits hG l
  have hs := hG.step l
  refine ⟨(numT_renders hG l).2, fun h0 => ⟨((fits_iff _ _).1 (h1.2 h0)).1, alike_fits (h1.2 h0)⟩, fun h0 ⟨a, b, c, d⟩ => ?_, ?_, h1.1⟩
  · have := numT_zero h0
    rw [this] at c d
    exact new_when hG a b c d h0
  · unfold tmpl
    split
    · exact Nat.le_of_ble_eq_true rfl
    · rw [List.getD_eq_getElem?_getD]
      cases hx : (numT t l).1.ts[(numT t l).2 - 1]? with
      | none => exact Nat.zero_le _
      | some p => have := (hs.long p (List.mem_of_getElem? hx)).2; simp; omega
/-- a row that a law assigns: the tree lies in what the law made itself -/
theorem asg_step {T : Nat → Prop} {w0 wr : World} {g : Nat} {t : Tr} {B : Option Addr} {l : List Tok} (cb : Nat) (hT : TrIn T wr g t) (hG : Good t) (hTs : ∀ j, T j → w0.heap.size ≤ j) (hb : Below w0.heap.size w0 wr) (ht : ToksAt w0 B l) (hs : sumT l l.length ≤ 6000) :
    Calls Try.prog 10 #[.pointer (some ⟨g, 0, none⟩), .slice B l.length cb] wr fun e w' => ∃ (T2 : Nat → Prop) (V : Option Addr) (cv : Nat), e = .returned (.agg #[.int .i64 ((numT t l).2 : Int), .slice V (varsT t l).length cv]) ∧ Hid (TrIn T2 w' g (numT t l).1) ∧ Hid (∀ j, T2 j → w0.heap.size ≤ j) ∧ Hid (RowO w' 9 1 V (varsT t l).length cv ((varsT t l).map strV)) ∧ Hid (∀ k, inA V k → wr.heap.size ≤ k ∧ ¬ T2 k) ∧ Hid (Below w0.heap.size w0 w') ∧ Hid (Only T wr w') ∧ Hid (∀ j, T2 j → T j ∨ wr.heap.size ≤ j) := by
  obtain ⟨h1, h2, h3⟩ := light_ok hs
  refine (assign_any hT hG B cb l (ht.ext hb) (fun ad e hne hS => ?_) (by omega) (by omega) (.inl h3)).mono ?_
  · have := toks_old ht ad e hne
    have := hTs _ hS
    omega
  · rintro e w' ⟨T2, V, cv, rfl, k1, k2, k3, k4, k5⟩
    have hz := hb.size
    exact ⟨T2, V, cv, rfl, Lib.hid k1, Lib.hid (fun j hj => by
      rcases k2 j hj with h | h
      · exact hTs j h
      · omega), Lib.hid k3, Lib.hid k4, Lib.hid (hb.trans (k5.below hTs hz)), Lib.hid k5, Lib.hid k2⟩
set_option maxHeartbeats 6000000 in
theorem fits_walk (A : Option Addr) (c : Nat) (l : List (List Tok)) (w : World) (h : RowR IsTks 1 w A l) (hl : l.length ≤ maxLen) (hz : ∀ r ∈ l, ∀ t ∈ r, t.text.length ≤ 140737488355328) :
    Calls Try.prog 7 #[.slice A l.length c] w fun e w' => e = .returned (.bool true) ∧ Below w.heap.size w w' := by
  have HR := Lib.hid h
  have HH := Lib.hid (heavyT_any A c l w h hl hz)
  unfold maxLen at hl
  have hli : (l.length : Int) ≤ 9223372036854775807 := by omega
  have HN := Lib.hid (new_any w)
  clear h hl hz
  go_enter Try.func7, Try.ntmps7
  go_wp2_with fail
  refine HH.out.mono ?_
  rintro e w0 ⟨r, rfl, hw, hlt⟩
  subst hw
  have HL1 : Hid (r = false → ∀ i (hi : i < l.length), i < 120 → sumT l[i] l[i].length ≤ 6000) := Lib.hid hlt
  clear hlt HH
  cases r
  case true =>
    go_wp2
    go_ret
    exact ⟨rfl, Below.refl _ _⟩
  case false =>
    have HLt : Hid (∀ i (hi : i < l.length), i < 120 → sumT l[i] l[i].length ≤ 6000) := Lib.hid (HL1.out rfl)
    clear HL1
    go_wp2_with fail
    refine HN.out.mono ?_
    rintro e w1 ⟨g, rfl, hT, hb, hg⟩
    have HT := Lib.hid hT
    have Hb := Lib.hid hb
    have Hg := Lib.hid hg
    clear hT hb hg HN
    go_wp2
    go_loopw [4] (fun i wr => ∃ k : Nat, k ≤ l.length ∧ k ≤ 120 ∧ i = .int .i64 (k : Int) ∧ ∃ (T : Nat → Prop) (t : Tr), Hid (TrIn T wr g t) ∧ Hid (Good t) ∧ Hid (∀ j, T j → w.heap.size ≤ j) ∧ Hid (Below w.heap.size w wr)) (fun i _ => l.length - (intOf i).toNat)
    case atStart => exact ⟨0, Nat.zero_le _, Nat.zero_le _, rfl, _, _, HT, Lib.hid Good.new, Lib.hid (fun j hj => by rw [hj]; exact Hg.out), Hb⟩
    case round =>
      obtain ⟨k, hk, hk120, rfl, T, t, HTr, HG, HTs, Hbr⟩ := hrel
      by_cases hlt : k < l.length
      · have hki : (k : Int) < (l.length : Int) := by omega
        by_cases h120 : k < 120
        · have hk1 : (k : Int) < 120 := by omega
          obtain ⟨g2, o2, B, cb, rfl, u0, ht, hm1, hm2⟩ := row_toks HR.out hlt
          unfold maxLen at hm2
          have hmi : (l[k].length : Int) ≤ 9223372036854775807 := by omega
          have HU := Lib.hid u0
          have u1 : wr.cell? ⟨g2, o2 + k, none⟩ = some (.slice B l[k].length cb) := (World.cell?_of_block (Hbr.out.block _ (World.block_lt_of_cell? w _ u0))).trans u0
          have HUx : Hid (∀ W, Below w.heap.size w W → W.cell? ⟨g2, o2 + k, none⟩ = some (.slice B l[k].length cb)) := Lib.hid (fun W hW => (World.cell?_of_block (hW.block _ (World.block_lt_of_cell? w _ u0))).trans u0)
          have HA := Lib.hid (asg_step cb HTr.out HG.out HTs.out Hbr.out ht (HLt.out k hlt h120))
          have HTk := Lib.hid ht
          have HG2 := Lib.hid (HG.out.step l[k])
          have HF := Lib.hid (fitsT t HG.out l[k])
          have HLk := Lib.hid (light_ok (HLt.out k hlt h120)).1
          clear u0 ht hm1 hm2 HG HU
          generalize numT t l[k] = ni at *
          obtain ⟨t2, id⟩ := ni
          simp only at HA HG2 HF
          generalize varsT t l[k] = vs at *
          generalize l[k] = ts at *
          go_wp2_with fail
          refine HA.out.mono ?_
          rintro e w2 ⟨T2, V, cv, rfl, HT2, HTs2, HV, HVn, Hb2, -, -⟩
          have hb3 : Below w2.heap.size w2 (w2.alloc (Obj.cells #[.int .i64 (id : Int), .slice V vs.length cv] 29)) := ext_alloc (Below.refl _ _) _
          have HTm := Lib.hid (template_any (HT2.out.ext hb3) HG2.out HF.out.2.2.2.2)
          have HB := Lib.hid (Blk.new w2 29 #[.int .i64 (id : Int), .slice V vs.length cv])
          have c0 := HB.out.cell 0
          simp only [List.getElem?_toArray, List.getElem?_cons_zero, List.getElem?_cons_succ] at c0
          clear hb3
          go_wp2_with fail
          refine HTm.out.mono ?_
          rintro e w3 ⟨B3, c3, rfl, hN3⟩
          have hbw : Below w2.heap.size w2 w3 := (ext_alloc (Below.refl _ _) _ : Below w2.heap.size w2 (w2.alloc (Obj.cells #[.int .i64 (id : Int), .slice V vs.length cv] 29))).trans (hN3.bel.mono (by rw [World.size_alloc]; exact Nat.le_succ _))
          have HBW : Hid (∀ W, Below w3.heap.size w3 W → Below w.heap.size w W) := Lib.hid (fun W hW => ext_trans (ext_trans Hb2.out hbw) hW)
          have HTW : Hid (∀ W, Below w3.heap.size w3 W → TrIn T2 W g t2) := Lib.hid (fun W hW => (HT2.out.ext hbw).ext hW)
          have hP3 := parts_new hN3
          have HWd : Hid (∀ W, Below w3.heap.size w3 W → Calls Try.prog 21 #[.slice B3 (tmpl t2 id).length c3] W fun e w' => e = .returned (.int .i64 (vs.length : Int)) ∧ Below w3.heap.size w3 w') := Lib.hid (fun W hW => by
            rw [HF.out.1]
            refine (rwild_any B3 _ c3 (tmpl t2 id) W rfl (hP3.ext hW) HF.out.2.2.2.1).mono ?_
            rintro e w' ⟨rfl, hb⟩
            exact ⟨rfl, ext_trans hW hb⟩)
          have HAl : Hid (id ≠ 0 → ∀ W, Below w3.heap.size w3 W → Calls Try.prog 22 #[.slice B3 (tmpl t2 id).length c3, .slice B ts.length cb] W fun e w' => e = .returned (.int .i64 (ts.length : Int)) ∧ Below w3.heap.size w3 w') := Lib.hid (fun h0 W hW => by
            refine (ralike_any B3 _ c3 (tmpl t2 id) B _ cb ts W rfl rfl (hP3.ext hW) (HTk.out.ext (HBW.out W hW)) HF.out.2.2.2.1 (by have := HLk.out; omega)).mono ?_
            rintro e w' ⟨rfl, hb⟩
            rw [(HF.out.2.1 h0).2]
            exact ⟨rfl, ext_trans hW hb⟩)
          have HLn : Hid (∀ W, Below w3.heap.size w3 W → Calls Try.prog 15 #[.pointer (some ⟨g, 0, none⟩)] W fun e w' => e = .returned (.int .i64 ((t2.ts.length : Int) + 1)) ∧ w' = W) := Lib.hid (fun W hW => len_any (HTW.out W hW) (by have := HG2.out.ids; omega))
          have HLv : Hid (∀ W, Below w3.heap.size w3 W → Calls Try.prog 17 #[.pointer (some ⟨g, 0, none⟩)] W fun e w' => e = .returned (.int .i64 (t2.lv.length : Int)) ∧ w' = W) := Lib.hid (fun W hW => leaves_any (HTW.out W hW))
          have HC : Hid (∀ W, Below w3.heap.size w3 W → W.cell? ⟨w2.heap.size, 0, none⟩ = some (.int .i64 (id : Int)) ∧ W.cell? ⟨w2.heap.size, 1, none⟩ = some (.slice V vs.length cv)) := Lib.hid (fun W hW => by
            have hX := (HB.out.ext hN3.bel).ext hW
            have x0 := hX.cell 0
            have x1 := hX.cell 1
            simp only [List.getElem?_toArray, List.getElem?_cons_zero, List.getElem?_cons_succ] at x0 x1
            exact ⟨x0, x1⟩)
          have e1 := (HC.out w3 (Below.refl _ _)).2
          have HPl : Hid (id ≠ 0 → (tmpl t2 id).length = ts.length) := Lib.hid (fun h => (HF.out.2.1 h).1)
          have HZr : Hid (id = 0 → ¬(ts.length ≠ 0 ∧ ts.length ≤ 64 ∧ t2.lv.length < 3 ∧ t2.ts.length + 1 < 8)) := Lib.hid HF.out.2.2.1
          have hvi : (vs.length : Int) ≤ 9223372036854775807 := by have := HV.out.max; have := HV.out.le; unfold maxLen at *; omega
          have hti2 : (t2.ts.length : Int) ≤ 1000000 := by have := HG2.out.ids; omega
          have hli2 : (t2.lv.length : Int) ≤ 1000000 := by have := HG2.out.lvs; omega
          clear hN3 hbw hP3 c0 u1 HF
          generalize tmpl t2 id = P at *
          go_wp2
          go_region_held3 (fun w' => w'.cell? ⟨w2.heap.size, 1, none⟩ = some (.slice V vs.length cv)) (first | exact e1 | exact (HC.out _ hb9).2) (first
            | (go_at_call 21; ((with_reducible refine (HWd.out _ ?_).mono ?_)); (repeat (first | exact Below.refl _ _ | refine ext_drewN ?_ _ | refine ext_drew ?_)); rintro e w9 ⟨rfl, hb9⟩))
          all_goals
            have d0 := (HC.out _ hb9).1
            have d1 := HUx.out _ (HBW.out _ hb9)
            by_cases h0 : id = 0
            · have hid0 : (id : Int) = 0 := by omega
              have hpos : ¬ (0 : Int) < (id : Int) := by omega
              have hb0 : ((id : Int) == 0) = true := by rw [hid0]; rfl
              have hzr := HZr.out h0
              clear h0 HZr
              by_cases ha : ts.length = 0
              · have hai : ¬ (0 : Int) < (ts.length : Int) := by omega
                clear hzr ha
                go_wp2
                go_roundw
                case rel => exact ⟨k + 1, by omega, by omega, by go_num, T2, t2, Lib.hid (HTW.out _ (by repeat (first | exact hb9 | exact hbA | exact hbB | exact hbC | exact hbD | refine ext_drewN ?_ _ | refine ext_drew ?_))), HG2, HTs2, Lib.hid (HBW.out _ (by repeat (first | exact hb9 | exact hbA | exact hbB | exact hbC | exact hbD | refine ext_drewN ?_ _ | refine ext_drew ?_)))⟩
                case measure => simp [intOf]; omega
              · have hai : (0 : Int) < (ts.length : Int) := by omega
                by_cases hc : 64 < ts.length
                · have hci : ¬ (ts.length : Int) ≤ 64 := by omega
                  clear hzr ha hc
                  go_wp2
                  go_roundw
                  case rel => exact ⟨k + 1, by omega, by omega, by go_num, T2, t2, Lib.hid (HTW.out _ (by repeat (first | exact hb9 | exact hbA | exact hbB | exact hbC | exact hbD | refine ext_drewN ?_ _ | refine ext_drew ?_))), HG2, HTs2, Lib.hid (HBW.out _ (by repeat (first | exact hb9 | exact hbA | exact hbB | exact hbC | exact hbD | refine ext_drewN ?_ _ | refine ext_drew ?_)))⟩
                  case measure => simp [intOf]; omega
                · have hci : (ts.length : Int) ≤ 64 := by omega
                  by_cases hd : t2.ts.length + 1 < 64
                  · have hdi : (t2.ts.length : Int) + 1 < 64 := by omega
                    by_cases hf : t2.lv.length < 3
                    · have hfi : (t2.lv.length : Int) < 3 := by omega
                      have Hgi : Hid (decide ((t2.ts.length : Int) + 1 < 8) = false) := Lib.hid (decide_eq_false (by
                        intro h
                        exact hzr ⟨ha, by omega, hf, by omega⟩))
                      clear hzr ha hc hd hf
                      go_wp2_with fail
                      refine (HLn.out _ (by repeat (first | exact hb9 | exact hbA | exact hbB | exact hbC | exact hbD | refine ext_drewN ?_ _ | refine ext_drew ?_))).mono ?_
                      rintro e w10 ⟨rfl, hw⟩
                      have hw := hw.symm
                      subst hw
                      go_wp2_with fail
                      refine (HLv.out _ (by repeat (first | exact hb9 | exact hbA | exact hbB | exact hbC | exact hbD | refine ext_drewN ?_ _ | refine ext_drew ?_))).mono ?_
                      rintro e w10 ⟨rfl, hw⟩
                      have hw := hw.symm
                      subst hw
                      go_wp2_with fail
                      refine (HLn.out _ (by repeat (first | exact hb9 | exact hbA | exact hbB | exact hbC | exact hbD | refine ext_drewN ?_ _ | refine ext_drew ?_))).mono ?_
                      rintro e w10 ⟨rfl, hw⟩
                      have hw := hw.symm
                      subst hw
                      have hgi := Hgi.out
                      go_wp2
                      go_roundw
                      case rel => exact ⟨k + 1, by omega, by omega, by go_num, T2, t2, Lib.hid (HTW.out _ (by repeat (first | exact hb9 | exact hbA | exact hbB | exact hbC | exact hbD | refine ext_drewN ?_ _ | refine ext_drew ?_))), HG2, HTs2, Lib.hid (HBW.out _ (by repeat (first | exact hb9 | exact hbA | exact hbB | exact hbC | exact hbD | refine ext_drewN ?_ _ | refine ext_drew ?_)))⟩
                      case measure => simp [intOf]; omega
                    · have Hfi : Hid (decide ((t2.lv.length : Int) < 3) = false) := Lib.hid (decide_eq_false (by omega))
                      clear hzr ha hc hd hf
                      go_wp2_with fail
                      refine (HLn.out _ (by repeat (first | exact hb9 | exact hbA | exact hbB | exact hbC | exact hbD | refine ext_drewN ?_ _ | refine ext_drew ?_))).mono ?_
                      rintro e w10 ⟨rfl, hw⟩
                      have hw := hw.symm
                      subst hw
                      go_wp2_with fail
                      refine (HLv.out _ (by repeat (first | exact hb9 | exact hbA | exact hbB | exact hbC | exact hbD | refine ext_drewN ?_ _ | refine ext_drew ?_))).mono ?_
                      rintro e w10 ⟨rfl, hw⟩
                      have hw := hw.symm
                      subst hw
                      have hfi := Hfi.out
                      go_wp2
                      go_roundw
                      case rel => exact ⟨k + 1, by omega, by omega, by go_num, T2, t2, Lib.hid (HTW.out _ (by repeat (first | exact hb9 | exact hbA | exact hbB | exact hbC | exact hbD | refine ext_drewN ?_ _ | refine ext_drew ?_))), HG2, HTs2, Lib.hid (HBW.out _ (by repeat (first | exact hb9 | exact hbA | exact hbB | exact hbC | exact hbD | refine ext_drewN ?_ _ | refine ext_drew ?_)))⟩
                      case measure => simp [intOf]; omega
                  · have Hdi : Hid (decide ((t2.ts.length : Int) + 1 < 64) = false) := Lib.hid (decide_eq_false (by omega))
                    clear hzr ha hc hd
                    go_wp2_with fail
                    refine (HLn.out _ (by repeat (first | exact hb9 | exact hbA | exact hbB | exact hbC | exact hbD | refine ext_drewN ?_ _ | refine ext_drew ?_))).mono ?_
                    rintro e w10 ⟨rfl, hw⟩
                    have hw := hw.symm
                    subst hw
                    have hdi := Hdi.out
                    go_wp2
                    go_roundw
                    case rel => exact ⟨k + 1, by omega, by omega, by go_num, T2, t2, Lib.hid (HTW.out _ (by repeat (first | exact hb9 | exact hbA | exact hbB | exact hbC | exact hbD | refine ext_drewN ?_ _ | refine ext_drew ?_))), HG2, HTs2, Lib.hid (HBW.out _ (by repeat (first | exact hb9 | exact hbA | exact hbB | exact hbC | exact hbD | refine ext_drewN ?_ _ | refine ext_drew ?_)))⟩
                    case measure => simp [intOf]; omega
            · have hid0 : ¬ (id : Int) = 0 := by omega
              have hpos : (0 : Int) < (id : Int) := by omega
              have hb0 : ((id : Int) == 0) = false := beq_eq_false_iff_ne.2 hid0
              have hpl := HPl.out h0
              have hne1 : ((P.length : Int) != (ts.length : Int)) = false := by rw [hpl]; simp
              have hne2 : ((ts.length : Int) != (P.length : Int)) = false := by rw [hpl]; simp
              have HAl2 := Lib.hid (HAl.out h0)
              clear hpl HAl h0
              go_wp2_with fail
              refine (HAl2.out _ (by repeat (first | exact hb9 | exact hbA | exact hbB | exact hbC | exact hbD | refine ext_drewN ?_ _ | refine ext_drew ?_))).mono ?_
              rintro e w10 ⟨rfl, hbA⟩
              have d0 := (HC.out _ hbA).1
              go_wp2
              go_roundw
              case rel => exact ⟨k + 1, by omega, by omega, by go_num, T2, t2, Lib.hid (HTW.out _ (by repeat (first | exact hb9 | exact hbA | exact hbB | exact hbC | exact hbD | refine ext_drewN ?_ _ | refine ext_drew ?_))), HG2, HTs2, Lib.hid (HBW.out _ (by repeat (first | exact hb9 | exact hbA | exact hbB | exact hbC | exact hbD | refine ext_drewN ?_ _ | refine ext_drew ?_)))⟩
              case measure => simp [intOf]; omega
        · have hk1 : ¬ (k : Int) < 120 := by omega
          have HK := Lib.hid (known15_any wr)
          go_wp2_with fail
          refine HK.out.mono ?_
          rintro e w' ⟨rfl, hb⟩
          go_wp2
          go_ret
          exact ⟨rfl, ext_trans Hbr.out hb⟩
      · obtain rfl : k = l.length := by omega
        have HK := Lib.hid (known15_any wr)
        go_wp2_with fail
        refine HK.out.mono ?_
        rintro e w' ⟨rfl, hb⟩
        go_wp2
        go_ret
        exact ⟨rfl, ext_trans Hbr.out hb⟩
end Go.Proofs.Ytjincmnkloeolaa
