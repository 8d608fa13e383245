/-
  Texts of this claim, joined (part 11): contracts and lemmas that the last text goes by. No statement of the seat is proved here.
-/
import Derived.Test.YtdghbdiapkelnaaAll10
import Derived.Test.YtdghbdiapkelnaaAll8
import Derived.Test.YtdghbdiapkelnaaAll2
import Derived.Test.YtdghbdiapkelnaaAll9
import Derived.Deep.RegionHeld3
set_option linter.unusedVariables false
set_option linter.unusedSimpArgs false
/-
  TreeFits' walk. No statement of the seat is proved here.
-/
namespace Go.Proofs.Ytdghbdiapkelnaa
open Go Go.RowKit Go.Maps
set_option maxRecDepth 100000

theorem fitsT (t : Tr) (hG : Good t) (l : List Tok) : (varsT t l).length = wildN (tmpl (numT t l).1 (numT t l).2) ∧ ((numT t l).2 ≠ 0 → (tmpl (numT t l).1 (numT t l).2).length = l.length ∧ alikeI (tmpl (numT t l).1 (numT t l).2) l = (l.length : Int)) ∧ ((numT t l).2 = 0 → ¬ (l.length ≠ 0 ∧ l.length ≤ 64 ∧ (numT t l).1.lv.length < 3 ∧ (numT t l).1.ts.length + 1 < 8)) ∧ (tmpl (numT t l).1 (numT t l).2).length ≤ 1000000 ∧ (numT t l).2 ≤ (numT t l).1.ts.length := by
  have h1 := numT_fits hG l
  have hs := hG.step l
  refine ⟨(numT_renders hG l).2, fun h0 => ⟨((fits_iff _ _).1 (h1.2 h0)).1, alike_fits (h1.2 h0)⟩, fun h0 ⟨a, b, c, d⟩ => ?_, ?_, h1.1⟩
  · have := numT_zero h0
    rw [this] at c d
    exact new_when hG a b c d h0
  · unfold tmpl
    split
    · exact Nat.le_of_ble_eq_true rfl
    · rw [List.getD_eq_getElem?_getD]
      cases hx : (numT t l).1.ts[(numT t l).2 - 1]? with
      | none => exact Nat.zero_le _
      | some p => have := (hs.long p (List.mem_of_getElem? hx)).2; simp; omega
/-- a row that a law assigns: the tree lies in what the law made itself -/
theorem asg_step {T : Nat → Prop} {w0 wr : World} {g : Nat} {t : Tr} {B : Option Addr} {l : List Tok} (cb : Nat) (hT : TrIn T wr g t) (hG : Good t) (hTs : ∀ j, T j → w0.heap.size ≤ j) (hb : Below w0.heap.size w0 wr) (ht : ToksAt w0 B l) (hs : sumT l l.length ≤ 6000) :
    Calls Try.prog 15 #[.pointer (some ⟨g, 0, none⟩), .slice B l.length cb] wr fun e w' => ∃ (T2 : Nat → Prop) (V : Option Addr) (cv : Nat), e = .returned (.agg #[.int .i64 ((numT t l).2 : Int), .slice V (varsT t l).length cv]) ∧ Hid (TrIn T2 w' g (numT t l).1) ∧ Hid (∀ j, T2 j → w0.heap.size ≤ j) ∧ Hid (RowO w' 9 1 V (varsT t l).length cv ((varsT t l).map strV)) ∧ Hid (∀ k, inA V k → wr.heap.size ≤ k ∧ ¬ T2 k) ∧ Hid (Below w0.heap.size w0 w') ∧ Hid (Only T wr w') ∧ Hid (∀ j, T2 j → T j ∨ wr.heap.size ≤ j) := by
  obtain ⟨h1, h2, h3⟩ := light_ok hs
  refine (assign_any hT hG B cb l (ht.ext hb) (fun ad e hne hS => ?_) (by omega) (by omega) (.inl h3)).mono ?_
  · have := toks_old ht ad e hne
    have := hTs _ hS
    omega
  · rintro e w' ⟨T2, V, cv, rfl, k1, k2, k3, k4, k5⟩
    have hz := hb.size
    exact ⟨T2, V, cv, rfl, Lib.hid k1, Lib.hid (fun j hj => by
      rcases k2 j hj with h | h
      · exact hTs j h
      · omega), Lib.hid k3, Lib.hid k4, Lib.hid (hb.trans (k5.below hTs hz)), Lib.hid k5, Lib.hid k2⟩
set_option maxHeartbeats 6000000 in
theorem fits_walk (A : Option Addr) (c : Nat) (l : List (List Tok)) (w : World) (h : RowR IsTks 1 w A l) (hl : l.length ≤ maxLen) (hz : ∀ r ∈ l, ∀ t ∈ r, t.text.length ≤ 140737488355328) :
    Calls Try.prog 10 #[.slice A l.length c] w fun e w' => e = .returned (.bool true) ∧ Below w.heap.size w w' := by
  have HR := Lib.hid h
  have HH := Lib.hid (heavyT_any A c l w h hl hz)
  unfold maxLen at hl
  have hli : (l.length : Int) ≤ 9223372036854775807 := by omega
  have HN := Lib.hid (new_any w)
  clear h hl hz
  go_enter Try.func10, Try.ntmps10
  go_wp2_with fail
  refine HH.out.mono ?_
  rintro e w0 ⟨r, rfl, hw, hlt⟩
  subst hw
  have HL1 : Hid (r = false → ∀ i (hi : i < l.length), i < 120 → sumT l[i] l[i].length ≤ 6000) := Lib.hid hlt
  clear hlt HH
  cases r
  case true =>
    go_wp2
    go_ret
    exact ⟨rfl, Below.refl _ _⟩
  case false =>
    have HLt : Hid (∀ i (hi : i < l.length), i < 120 → sumT l[i] l[i].length ≤ 6000) := Lib.hid (HL1.out rfl)
    clear HL1
    go_wp2_with fail
    refine HN.out.mono ?_
    rintro e w1 ⟨g, rfl, hT, hb, hg⟩
    have HT := Lib.hid hT
    have Hb := Lib.hid hb
    have Hg := Lib.hid hg
    clear hT hb hg HN
    go_wp2
    go_loopw [4] (fun i wr => ∃ k : Nat, k ≤ l.length ∧ k ≤ 120 ∧ i = .int .i64 (k : Int) ∧ ∃ (T : Nat → Prop) (t : Tr), Hid (TrIn T wr g t) ∧ Hid (Good t) ∧ Hid (∀ j, T j → w.heap.size ≤ j) ∧ Hid (Below w.heap.size w wr)) (fun i _ => l.length - (intOf i).toNat)
    case atStart => exact ⟨0, Nat.zero_le _, Nat.zero_le _, rfl, _, _, HT, Lib.hid Good.new, Lib.hid (fun j hj => by rw [hj]; exact Hg.out), Hb⟩
    case round =>
      obtain ⟨k, hk, hk120, rfl, T, t, HTr, HG, HTs, Hbr⟩ := hrel
      by_cases hlt : k < l.length
      · have hki : (k : Int) < (l.length : Int) := by omega
        by_cases h120 : k < 120
        · have hk1 : (k : Int) < 120 := by omega
          obtain ⟨g2, o2, B, cb, rfl, u0, ht, hm1, hm2⟩ := row_toks HR.out hlt
          unfold maxLen at hm2
          have hmi : (l[k].length : Int) ≤ 9223372036854775807 := by omega
          have HU := Lib.hid u0
          have u1 : wr.cell? ⟨g2, o2 + k, none⟩ = some (.slice B l[k].length cb) := (World.cell?_of_block (Hbr.out.block _ (World.block_lt_of_cell? w _ u0))).trans u0
          have HUx : Hid (∀ W, Below w.heap.size w W → W.cell? ⟨g2, o2 + k, none⟩ = some (.slice B l[k].length cb)) := Lib.hid (fun W hW => (World.cell?_of_block (hW.block _ (World.block_lt_of_cell? w _ u0))).trans u0)
          have HA := Lib.hid (asg_step cb HTr.out HG.out HTs.out Hbr.out ht (HLt.out k hlt h120))
          have HTk := Lib.hid ht
          have HG2 := Lib.hid (HG.out.step l[k])
          have HF := Lib.hid (fitsT t HG.out l[k])
          have HLk := Lib.hid (light_ok (HLt.out k hlt h120)).1
          clear u0 ht hm1 hm2 HG HU
          generalize numT t l[k] = ni at *
          obtain ⟨t2, id⟩ := ni
          simp only at HA HG2 HF
          generalize varsT t l[k] = vs at *
          generalize l[k] = ts at *
          go_wp2_with fail
          refine HA.out.mono ?_
          rintro e w2 ⟨T2, V, cv, rfl, HT2, HTs2, HV, HVn, Hb2, -, -⟩
          have hb3 : Below w2.heap.size w2 (w2.alloc (Obj.cells #[.int .i64 (id : Int), .slice V vs.length cv] 31)) := ext_alloc (Below.refl _ _) _
          have HTm := Lib.hid (template_any (HT2.out.ext hb3) HG2.out HF.out.2.2.2.2)
          have HB := Lib.hid (Blk.new w2 31 #[.int .i64 (id : Int), .slice V vs.length cv])
          have c0 := HB.out.cell 0
          simp only [List.getElem?_toArray, List.getElem?_cons_zero, List.getElem?_cons_succ] at c0
          clear hb3
          go_wp2_with fail
          refine HTm.out.mono ?_
          rintro e w3 ⟨B3, c3, rfl, hN3⟩
          have hbw : Below w2.heap.size w2 w3 := (ext_alloc (Below.refl _ _) _ : Below w2.heap.size w2 (w2.alloc (Obj.cells #[.int .i64 (id : Int), .slice V vs.length cv] 31))).trans (hN3.bel.mono (by rw [World.size_alloc]; exact Nat.le_succ _))
          have HBW : Hid (∀ W, Below w3.heap.size w3 W → Below w.heap.size w W) := Lib.hid (fun W hW => ext_trans (ext_trans Hb2.out hbw) hW)
          have HTW : Hid (∀ W, Below w3.heap.size w3 W → TrIn T2 W g t2) := Lib.hid (fun W hW => (HT2.out.ext hbw).ext hW)
          have hP3 := parts_new hN3
          have HWd : Hid (∀ W, Below w3.heap.size w3 W → Calls Try.prog 30 #[.slice B3 (tmpl t2 id).length c3] W fun e w' => e = .returned (.int .i64 (vs.length : Int)) ∧ Below w3.heap.size w3 w') := Lib.hid (fun W hW => by
            rw [HF.out.1]
            refine (rwild_any B3 _ c3 (tmpl t2 id) W rfl (hP3.ext hW) HF.out.2.2.2.1).mono ?_
            rintro e w' ⟨rfl, hb⟩
            exact ⟨rfl, ext_trans hW hb⟩)
          have HAl : Hid (id ≠ 0 → ∀ W, Below w3.heap.size w3 W → Calls Try.prog 31 #[.slice B3 (tmpl t2 id).length c3, .slice B ts.length cb] W fun e w' => e = .returned (.int .i64 (ts.length : Int)) ∧ Below w3.heap.size w3 w') := Lib.hid (fun h0 W hW => by
            refine (ralike_any B3 _ c3 (tmpl t2 id) B _ cb ts W rfl rfl (hP3.ext hW) (HTk.out.ext (HBW.out W hW)) HF.out.2.2.2.1 (by have := HLk.out; omega)).mono ?_
            rintro e w' ⟨rfl, hb⟩
            rw [(HF.out.2.1 h0).2]
            exact ⟨rfl, ext_trans hW hb⟩)
          have HLn : Hid (∀ W, Below w3.heap.size w3 W → Calls Try.prog 22 #[.pointer (some ⟨g, 0, none⟩)] W fun e w' => e = .returned (.int .i64 ((t2.ts.length : Int) + 1)) ∧ w' = W) := Lib.hid (fun W hW => len_any (HTW.out W hW) (by have := HG2.out.ids; omega))
          have HLv : Hid (∀ W, Below w3.heap.size w3 W → Calls Try.prog 24 #[.pointer (some ⟨g, 0, none⟩)] W fun e w' => e = .returned (.int .i64 (t2.lv.length : Int)) ∧ w' = W) := Lib.hid (fun W hW => leaves_any (HTW.out W hW))
          have HC : Hid (∀ W, Below w3.heap.size w3 W → W.cell? ⟨w2.heap.size, 0, none⟩ = some (.int .i64 (id : Int)) ∧ W.cell? ⟨w2.heap.size, 1, none⟩ = some (.slice V vs.length cv)) := Lib.hid (fun W hW => by
            have hX := (HB.out.ext hN3.bel).ext hW
            have x0 := hX.cell 0
            have x1 := hX.cell 1
            simp only [List.getElem?_toArray, List.getElem?_cons_zero, List.getElem?_cons_succ] at x0 x1
            exact ⟨x0, x1⟩)
          have e1 := (HC.out w3 (Below.refl _ _)).2
          have HPl : Hid (id ≠ 0 → (tmpl t2 id).length = ts.length) := Lib.hid (fun h => (HF.out.2.1 h).1)
          have HZr : Hid (id = 0 → ¬(ts.length ≠ 0 ∧ ts.length ≤ 64 ∧ t2.lv.length < 3 ∧ t2.ts.length + 1 < 8)) := Lib.hid HF.out.2.2.1
          have hvi : (vs.length : Int) ≤ 9223372036854775807 := by have := HV.out.max; have := HV.out.le; unfold maxLen at *; omega
          have hti2 : (t2.ts.length : Int) ≤ 1000000 := by have := HG2.out.ids; omega
          have hli2 : (t2.lv.length : Int) ≤ 1000000 := by have := HG2.out.lvs; omega
          clear hN3 hbw hP3 c0 u1 HF
          generalize tmpl t2 id = P at *
          go_wp2
          go_region_held3 (fun w' => w'.cell? ⟨w2.heap.size, 1, none⟩ = some (.slice V vs.length cv)) (first | exact e1 | exact (HC.out _ hb9).2) (first
            | (go_at_call 30; ((with_reducible refine (HWd.out _ ?_).mono ?_)); (repeat (first | exact Below.refl _ _ | refine ext_drewN ?_ _ | refine ext_drew ?_)); rintro e w9 ⟨rfl, hb9⟩))
          all_goals
            have d0 := (HC.out _ hb9).1
            have d1 := HUx.out _ (HBW.out _ hb9)
            by_cases h0 : id = 0
            · have hid0 : (id : Int) = 0 := by omega
              have hpos : ¬ (0 : Int) < (id : Int) := by omega
              have hb0 : ((id : Int) == 0) = true := by rw [hid0]; rfl
              have hzr := HZr.out h0
              clear h0 HZr
              by_cases ha : ts.length = 0
              · have hai : ¬ (0 : Int) < (ts.length : Int) := by omega
                clear hzr ha
                go_wp2
                go_roundw
                case rel => exact ⟨k + 1, by omega, by omega, by go_num, T2, t2, Lib.hid (HTW.out _ (by repeat (first | exact hb9 | exact hbA | exact hbB | exact hbC | exact hbD | refine ext_drewN ?_ _ | refine ext_drew ?_))), HG2, HTs2, Lib.hid (HBW.out _ (by repeat (first | exact hb9 | exact hbA | exact hbB | exact hbC | exact hbD | refine ext_drewN ?_ _ | refine ext_drew ?_)))⟩
                case measure => simp [intOf]; omega
              · have hai : (0 : Int) < (ts.length : Int) := by omega
                by_cases hc : 64 < ts.length
                · have hci : ¬ (ts.length : Int) ≤ 64 := by omega
                  clear hzr ha hc
                  go_wp2
                  go_roundw
                  case rel => exact ⟨k + 1, by omega, by omega, by go_num, T2, t2, Lib.hid (HTW.out _ (by repeat (first | exact hb9 | exact hbA | exact hbB | exact hbC | exact hbD | refine ext_drewN ?_ _ | refine ext_drew ?_))), HG2, HTs2, Lib.hid (HBW.out _ (by repeat (first | exact hb9 | exact hbA | exact hbB | exact hbC | exact hbD | refine ext_drewN ?_ _ | refine ext_drew ?_)))⟩
                  case measure => simp [intOf]; omega
                · have hci : (ts.length : Int) ≤ 64 := by omega
                  by_cases hd : t2.ts.length + 1 < 64
                  · have hdi : (t2.ts.length : Int) + 1 < 64 := by omega
                    by_cases hf : t2.lv.length < 3
                    · have hfi : (t2.lv.length : Int) < 3 := by omega
                      have Hgi : Hid (decide ((t2.ts.length : Int) + 1 < 8) = false) := Lib.hid (decide_eq_false (by
                        intro h
                        exact hzr ⟨ha, by omega, hf, by omega⟩))
                      clear hzr ha hc hd hf
                      go_wp2_with fail
                      refine (HLn.out _ (by repeat (first | exact hb9 | exact hbA | exact hbB | exact hbC | exact hbD | refine ext_drewN ?_ _ | refine ext_drew ?_))).mono ?_
                      rintro e w10 ⟨rfl, hw⟩
                      have hw := hw.symm
                      subst hw
                      go_wp2_with fail
                      refine (HLv.out _ (by repeat (first | exact hb9 | exact hbA | exact hbB | exact hbC | exact hbD | refine ext_drewN ?_ _ | refine ext_drew ?_))).mono ?_
                      rintro e w10 ⟨rfl, hw⟩
                      have hw := hw.symm
                      subst hw
                      go_wp2_with fail
                      refine (HLn.out _ (by repeat (first | exact hb9 | exact hbA | exact hbB | exact hbC | exact hbD | refine ext_drewN ?_ _ | refine ext_drew ?_))).mono ?_
                      rintro e w10 ⟨rfl, hw⟩
                      have hw := hw.symm
                      subst hw
                      have hgi := Hgi.out
                      go_wp2
                      go_roundw
                      case rel => exact ⟨k + 1, by omega, by omega, by go_num, T2, t2, Lib.hid (HTW.out _ (by repeat (first | exact hb9 | exact hbA | exact hbB | exact hbC | exact hbD | refine ext_drewN ?_ _ | refine ext_drew ?_))), HG2, HTs2, Lib.hid (HBW.out _ (by repeat (first | exact hb9 | exact hbA | exact hbB | exact hbC | exact hbD | refine ext_drewN ?_ _ | refine ext_drew ?_)))⟩
                      case measure => simp [intOf]; omega
                    · have Hfi : Hid (decide ((t2.lv.length : Int) < 3) = false) := Lib.hid (decide_eq_false (by omega))
                      clear hzr ha hc hd hf
                      go_wp2_with fail
                      refine (HLn.out _ (by repeat (first | exact hb9 | exact hbA | exact hbB | exact hbC | exact hbD | refine ext_drewN ?_ _ | refine ext_drew ?_))).mono ?_
                      rintro e w10 ⟨rfl, hw⟩
                      have hw := hw.symm
                      subst hw
                      go_wp2_with fail
                      refine (HLv.out _ (by repeat (first | exact hb9 | exact hbA | exact hbB | exact hbC | exact hbD | refine ext_drewN ?_ _ | refine ext_drew ?_))).mono ?_
                      rintro e w10 ⟨rfl, hw⟩
                      have hw := hw.symm
                      subst hw
                      have hfi := Hfi.out
                      go_wp2
                      go_roundw
                      case rel => exact ⟨k + 1, by omega, by omega, by go_num, T2, t2, Lib.hid (HTW.out _ (by repeat (first | exact hb9 | exact hbA | exact hbB | exact hbC | exact hbD | refine ext_drewN ?_ _ | refine ext_drew ?_))), HG2, HTs2, Lib.hid (HBW.out _ (by repeat (first | exact hb9 | exact hbA | exact hbB | exact hbC | exact hbD | refine ext_drewN ?_ _ | refine ext_drew ?_)))⟩
                      case measure => simp [intOf]; omega
                  · have Hdi : Hid (decide ((t2.ts.length : Int) + 1 < 64) = false) := Lib.hid (decide_eq_false (by omega))
                    clear hzr ha hc hd
                    go_wp2_with fail
                    refine (HLn.out _ (by repeat (first | exact hb9 | exact hbA | exact hbB | exact hbC | exact hbD | refine ext_drewN ?_ _ | refine ext_drew ?_))).mono ?_
                    rintro e w10 ⟨rfl, hw⟩
                    have hw := hw.symm
                    subst hw
                    have hdi := Hdi.out
                    go_wp2
                    go_roundw
                    case rel => exact ⟨k + 1, by omega, by omega, by go_num, T2, t2, Lib.hid (HTW.out _ (by repeat (first | exact hb9 | exact hbA | exact hbB | exact hbC | exact hbD | refine ext_drewN ?_ _ | refine ext_drew ?_))), HG2, HTs2, Lib.hid (HBW.out _ (by repeat (first | exact hb9 | exact hbA | exact hbB | exact hbC | exact hbD | refine ext_drewN ?_ _ | refine ext_drew ?_)))⟩
                    case measure => simp [intOf]; omega
            · have hid0 : ¬ (id : Int) = 0 := by omega
              have hpos : (0 : Int) < (id : Int) := by omega
              have hb0 : ((id : Int) == 0) = false := beq_eq_false_iff_ne.2 hid0
              have hpl := HPl.out h0
              have hne1 : ((P.length : Int) != (ts.length : Int)) = false := by rw [hpl]; simp
              have hne2 : ((ts.length : Int) != (P.length : Int)) = false := by rw [hpl]; simp
              have HAl2 := Lib.hid (HAl.out h0)
              clear hpl HAl h0
              go_wp2_with fail
              refine (HAl2.out _ (by repeat (first | exact hb9 | exact hbA | exact hbB | exact hbC | exact hbD | refine ext_drewN ?_ _ | refine ext_drew ?_))).mono ?_
              rintro e w10 ⟨rfl, hbA⟩
              have d0 := (HC.out _ hbA).1
              go_wp2
              go_roundw
              case rel => exact ⟨k + 1, by omega, by omega, by go_num, T2, t2, Lib.hid (HTW.out _ (by repeat (first | exact hb9 | exact hbA | exact hbB | exact hbC | exact hbD | refine ext_drewN ?_ _ | refine ext_drew ?_))), HG2, HTs2, Lib.hid (HBW.out _ (by repeat (first | exact hb9 | exact hbA | exact hbB | exact hbC | exact hbD | refine ext_drewN ?_ _ | refine ext_drew ?_)))⟩
              case measure => simp [intOf]; omega
        · have hk1 : ¬ (k : Int) < 120 := by omega
          have HK := Lib.hid (known15_any wr)
          go_wp2_with fail
          refine HK.out.mono ?_
          rintro e w' ⟨rfl, hb⟩
          go_wp2
          go_ret
          exact ⟨rfl, ext_trans Hbr.out hb⟩
      · obtain rfl : k = l.length := by omega
        have HK := Lib.hid (known15_any wr)
        go_wp2_with fail
        refine HK.out.mono ?_
        rintro e w' ⟨rfl, hb⟩
        go_wp2
        go_ret
        exact ⟨rfl, ext_trans Hbr.out hb⟩
end Go.Proofs.Ytdghbdiapkelnaa

/-
  A tree of nothing: number, Encode, Copy. No statement of the seat is proved here.
-/
namespace Go.Proofs.Ytdghbdiapkelnaa
open Go Go.RowKit Go.Maps
set_option maxRecDepth 100000

theorem number_nil (B : Option Addr) (n c : Nat) (w : World) : Calls Try.prog 32 #[.pointer none, .slice B n c] w fun e w' => e = .returned (.int .i64 0) ∧ w' = w := by
  go_enter Try.func32, Try.ntmps32
  go_wp2
  go_ret
  exact ⟨rfl, rfl⟩
theorem encode_nil (w : World) : Calls Try.prog 26 #[.pointer none] w fun e w' => e = .returned (.slice none 0 0) ∧ w' = w := by
  go_enter Try.func26, Try.ntmps26
  go_wp2
  go_ret
  exact ⟨rfl, rfl⟩
theorem copy_nil (w : World) : Calls Try.prog 28 #[.pointer none] w fun e w' => e = .returned (.pointer none) ∧ w' = w := by
  go_enter Try.func28, Try.ntmps28
  go_wp2
  go_ret
  exact ⟨rfl, rfl⟩
set_option maxHeartbeats 1000000 in
theorem assign_nil (B : Option Addr) (c : Nat) (l : List Tok) (w : World) (hT : ToksAt w B l) (hm : l.length ≤ 1000000) (hj : (joinL l).length ≤ 140737488355328) :
    Calls Try.prog 15 #[.pointer none, .slice B l.length c] w fun e w' => ∃ V, e = .returned (.agg #[.int .i64 0, .slice V 1 1]) ∧ RowO w' 9 1 V 1 1 [strV (joinL l)] ∧ Below w.heap.size w w' := by
  have hb0 : Below w.heap.size w (w.alloc (.cells #[.int .i64 0, .slice none 0 0] 31)) := ext_alloc (Below.refl _ _) _
  have HNum := Lib.hid (number_nil B l.length c (w.alloc (.cells #[.int .i64 0, .slice none 0 0] 31)))
  have HB2 := Lib.hid (Blk.new w 31 #[.int .i64 0, .slice none 0 0])
  obtain ⟨Z, hZ, -⟩ := str_hide (joinL l)
  have HJ := Lib.hid (ljoin_any B c l _ (hT.ext hb0) hm hj)
  rw [hZ] at HJ ⊢
  have Hb0 := Lib.hid hb0
  clear hT hj hZ hb0
  go_enter Try.func15, Try.ntmps15
  go_wp2_with fail
  refine HNum.out.mono ?_
  rintro e w2 ⟨rfl, hw⟩
  have hw := hw.symm
  subst hw
  go_wp2_with fail
  refine HJ.out.mono ?_
  rintro e w3 ⟨rfl, hb3⟩
  have Hb3 := Lib.hid (ext_trans Hb0.out hb3)
  have hX := (HB2.out.ext hb3).ext (ext_alloc (Below.refl _ _) (.cells #[.string Z] 9))
  have k0 := hX.cell 0
  have k1 := hX.cell 1
  have f0 := hX.free 0
  have f1 := hX.free 1
  simp only [List.getElem?_toArray, List.getElem?_cons_zero, List.getElem?_cons_succ] at k0 k1
  have hY := hX.put 0 (.int .i64 0)
  have m0 := (hY.put 1 (.slice (some ⟨w3.heap.size, 0, none⟩) 1 1)).cell 0
  have m1 := (hY.put 1 (.slice (some ⟨w3.heap.size, 0, none⟩) 1 1)).cell 1
  have m2 := hY.cell 0
  simp only [List.getElem?_toArray, List.setIfInBounds_toArray, List.set_cons_zero, List.set_cons_succ, List.getElem?_cons_zero, List.getElem?_cons_succ] at m0 m1 m2
  have Hlt : Hid (w.heap.size < w3.heap.size) := Lib.hid (by have := hb3.size; rw [World.size_alloc] at this; omega)
  clear hX hY hb3
  go_wp2
  refine bodyPost_ret (v := .agg #[.int .i64 0, .slice (some ⟨w3.heap.size, 0, none⟩) 1 1]) (by simp [results, Try.results15, go_sem, m0, m1, m2]) rfl ?_
  have hc : Only (fun k => k = w.heap.size) (w3.alloc (.cells #[.string Z] 9)) (((w3.alloc (.cells #[.string Z] 9)).setCell ⟨w.heap.size, 0, none⟩ (.int .i64 0)).setCell ⟨w.heap.size, 1, none⟩ (.slice (some ⟨w3.heap.size, 0, none⟩) 1 1)) := ((Only.of_ext (S := fun k => k = w.heap.size) (Below.refl _ _)).setCell (.inl rfl) _).setCell (.inl rfl) _
  have hr : RowO (w3.alloc (.cells #[.string Z] 9)) 9 1 (some ⟨w3.heap.size, 0, none⟩) 1 1 [.string Z] := RowO.lit w3 9 1 1 #[.string Z] rfl (Nat.le_of_ble_eq_true rfl) rfl
  refine ⟨_, rfl, hr.only hc (fun k hk e => ?_), (ext_alloc Hb3.out _).trans (hc.below (fun i hi => by omega) (ext_alloc Hb3.out _).size)⟩
  rw [inA_some] at hk
  have := Hlt.out
  omega
end Go.Proofs.Ytdghbdiapkelnaa

/-
  The contracts of the reference's Render and Join. No statement of the seat is proved here.
-/
namespace Go.Proofs.Ytdghbdiapkelnaa
open Go Go.RowKit
set_option maxRecDepth 100000

theorem str_app {a b : List UInt8} {S Y : ByteArray} (h1 : strV a = .string S) (h2 : strV b = .string Y) : strV (a ++ b) = .string (S ++ Y) := by
  injection h1 with h1
  injection h2 with h2
  rw [← h1, ← h2]
  unfold strV
  congr 1
theorem str_size {a : List UInt8} {S : ByteArray} (h : strV a = .string S) : S.size = a.length := by
  injection h with h
  rw [← h]
  simp [ByteArray.size]
set_option maxHeartbeats 4000000 in
theorem rjoin_any (B : Option Addr) (n d : Nat) (ts : List Tok) (w : World) (hn : n = ts.length) (h2 : ToksAt w B ts) (hl2 : ts.length ≤ 1000000) (hsum : sumT ts ts.length ≤ 140737488355328) :
    Calls Try.prog 21 #[.slice B n d] w fun e w' => e = .returned (strV (joinL ts)) ∧ w' = w := by
  subst hn
  have hli2 : (ts.length : Int) ≤ 1000000 := by omega
  go_enter Try.func21, Try.ntmps21
  go_wp2
  go_loop [3, 4] (fun s i => ∃ (k : Nat) (S : ByteArray), k ≤ ts.length ∧ i = .int .i64 (k : Int) ∧ s = .string S ∧ Hid (strV (joinTo ts k) = .string S)) (fun _ i => ts.length - (intOf i).toNat)
  case atStart => exact ⟨0, ⟨#[]⟩, Nat.zero_le _, rfl, rfl, Lib.hid rfl⟩
  case round =>
    obtain ⟨k, S, hk, rfl, rfl, HS⟩ := hrel
    by_cases hlt : k < ts.length
    · obtain ⟨g2, o2, rfl, -, c3⟩ := h2.at_ hlt
      have hki2 : (k : Int) < (ts.length : Int) := by omega
      obtain ⟨Z, hZ, hZs⟩ := str_hide ts[k].text
      rw [hZ] at c3
      have HE : Hid (strV (joinTo ts (k + 1)) = .string (S ++ Z)) := Lib.hid (by rw [joinTo_succ ts k hlt]; exact str_app HS.out hZ)
      have hsz : S.size + Z.size ≤ 140737488355328 := by
        have h1 := joinTo_len ts (k + 1)
        have h3 := sumT_mono ts (k + 1)
        rw [joinTo_succ ts k hlt, List.length_append] at h1
        have h4 := str_size HS.out
        omega
      clear hZ hZs
      go_wp2
      go_round
      case rel => exact ⟨k + 1, S ++ Z, by omega, by go_num, rfl, HE⟩
      case measure => simp [intOf]; omega
    · obtain rfl : k = ts.length := by omega
      go_wp2
      go_ret
      exact ⟨congrArg Ending.returned HS.out.symm, rfl⟩
set_option maxHeartbeats 4000000 in
theorem rrender_any (A : Option Addr) (n c : Nat) (l : List Prt) (V : Option Addr) (nv cv : Nat) (vs : List (List UInt8)) (w : World) (hn : n = l.length) (hnv : nv = vs.length) (h : PartsAt w A l) (hV : Rd w V (vs.map strV)) (hl : l.length ≤ 1000000) (hvl : vs.length ≤ 1000000) (hsum : (renderL l vs).length ≤ 140737488355328) :
    Calls Try.prog 20 #[.slice A n c, .slice V nv cv] w (SaysRender l vs w) := by
  subst hn hnv
  have hli : (l.length : Int) ≤ 1000000 := by omega
  have hvi : (vs.length : Int) ≤ 1000000 := by omega
  have HC := rwild_any A _ c l w rfl h hl
  by_cases he : vs.length = wildN l
  · have hp : SaysRender l vs w = fun e w' => e = .returned (.tuple #[strV (renderL l vs), .int .i64 0]) ∧ Below w.heap.size w w' := by
      funext e w'; unfold SaysRender rendS rendE; rw [if_pos he, if_pos he]
    rw [hp]
    rw [← he] at HC
    have He := Lib.hid he
    clear hp he
    go_enter Try.func20, Try.ntmps20
    go_wp2_with fail
    refine HC.mono ?_
    rintro e w1 ⟨rfl, hb1⟩
    have Hb1 := Lib.hid hb1
    clear hb1 HC
    go_wp2
    go_loop [6, 7, 8] (fun s j i => ∃ (k m : Nat) (S : ByteArray), k ≤ l.length ∧ m ≤ k ∧ i = .int .i64 (k : Int) ∧ j = .int .i64 (m : Int) ∧ s = .string S ∧ Hid (m = wildTo l k) ∧ Hid (strV (rTo l vs k) = .string S)) (fun _ _ i => l.length - (intOf i).toNat)
    case atStart => exact ⟨0, 0, ⟨#[]⟩, Nat.zero_le _, Nat.zero_le _, rfl, rfl, rfl, Lib.hid (by simp [wildTo, wildN]), Lib.hid rfl⟩
    case round =>
      obtain ⟨k, m, S, hk, hm, rfl, rfl, rfl, Hm, HS⟩ := hrel
      by_cases hlt : k < l.length
      · obtain ⟨g, o, rfl, c0, c1⟩ := (h.ext Hb1.out).at_ hlt
        have hki : (k : Int) < (l.length : Int) := by omega
        have HR := Lib.hid (rTo_succ l vs k hlt)
        have HW := Lib.hid (wildTo_succ l k hlt)
        have hle := rTo_le l vs (k + 1) (by omega)
        obtain ⟨Y, hY, hYs⟩ := str_hide l[k].text
        rw [hY] at c1
        have hss := str_size HS.out
        cases hA : l[k].any
        · rw [hA] at c0
          have he2 : rTo l vs (k + 1) = rTo l vs k ++ l[k].text := by rw [HR.out, hA]; rfl
          have HE : Hid (strV (rTo l vs (k + 1)) = .string (S ++ Y)) := Lib.hid (by rw [he2]; exact str_app HS.out hY)
          have hsz : S.size + Y.size ≤ 140737488355328 := by rw [he2, List.length_append] at hle; omega
          have HW2 : Hid (wildTo l (k + 1) = wildTo l k) := Lib.hid (by rw [HW.out, hA]; rfl)
          clear hA hY hYs hss he2 hle
          go_wp2
          go_round
          case rel => exact ⟨k + 1, m, S ++ Y, by omega, by omega, by go_num, rfl, rfl, Lib.hid (by rw [HW2.out]; exact Hm.out), HE⟩
          case measure => simp [intOf]; omega
        · rw [hA] at c0
          have hwl := wildTo_lt l k hlt hA
          rw [← He.out, ← Hm.out] at hwl
          obtain ⟨ad, rfl, q0⟩ := rd_str (hV.ext Hb1.out) hwl
          obtain ⟨Z, hZ, hZs⟩ := str_hide vs[m]
          rw [hZ] at q0
          have he2 : rTo l vs (k + 1) = rTo l vs k ++ vs[m] := by
            rw [HR.out, hA, ← Hm.out]
            simp only [if_true]
            rw [List.getD_eq_getElem?_getD, List.getElem?_eq_getElem hwl]; rfl
          have HE : Hid (strV (rTo l vs (k + 1)) = .string (S ++ Z)) := Lib.hid (by rw [he2]; exact str_app HS.out hZ)
          have hsz : S.size + Z.size ≤ 140737488355328 := by rw [he2, List.length_append] at hle; omega
          have HW2 : Hid (wildTo l (k + 1) = wildTo l k + 1) := Lib.hid (by rw [HW.out, hA]; rfl)
          have hmi : (m : Int) < (vs.length : Int) := by omega
          clear hA hY hYs hss he2 hle hZ hZs
          go_wp2
          go_round
          case rel => exact ⟨k + 1, m + 1, S ++ Z, by omega, by omega, by go_num, by go_num, rfl, Lib.hid (by rw [HW2.out, Hm.out]), HE⟩
          case measure => simp [intOf]; omega
      · obtain rfl : k = l.length := by omega
        go_wp2
        go_ret2
        exact ⟨by rw [show strV (renderL l vs) = .string S from HS.out]; rfl, Hb1.out⟩
  · have hp : SaysRender l vs w = fun e w' => e = .returned (.tuple #[strV [], .int .i64 1]) ∧ Below w.heap.size w w' := by
      funext e w'; unfold SaysRender rendS rendE; rw [if_neg he, if_neg he]
    rw [hp]
    have hei : ¬ (vs.length : Int) = (wildN l : Int) := by omega
    generalize wildN l = m at hei HC
    clear hp he
    go_enter Try.func20, Try.ntmps20
    go_wp2_with fail
    refine HC.mono ?_
    rintro e w1 ⟨rfl, hb1⟩
    have Hb1 := Lib.hid hb1
    clear hb1 HC
    go_wp2
    go_ret2
    exact ⟨rfl, Hb1.out⟩
end Go.Proofs.Ytdghbdiapkelnaa

/-
  TreeOfNothing's walk. No statement of the seat is proved here.
-/
namespace Go.Proofs.Ytdghbdiapkelnaa
open Go Go.RowKit Go.Maps
set_option maxRecDepth 100000

theorem one_row (w : World) {B : Option Addr} {c : Nat} {l : List Tok} (h : ToksAt w B l) (hc : l.length ≤ c) (hm : c ≤ maxLen) : RowR IsTks 1 (w.alloc (.cells #[.slice B l.length c] 33)) (some ⟨w.heap.size, 0, none⟩) [l] := fun k hk => by
  obtain rfl : k = 0 := by simp at hk; omega
  refine ⟨_, _, [.slice B l.length c], rfl, rfl, fun i u hu => ?_, B, c, rfl, h.ext (ext_alloc (Below.refl _ _) _), hc, hm⟩
  have := (Blk.new w 33 #[.slice B l.length c]).cell i
  simp only [Nat.zero_mul, Nat.add_zero, Nat.zero_add]
  rw [this]
  simpa using hu
set_option maxHeartbeats 4000000 in
theorem nothing_walk (A : Option Addr) (c : Nat) (l : List Tok) (w : World) (h : ToksAt w A l) (hc : l.length ≤ c) (hm : c ≤ maxLen) (hz : ∀ t ∈ l, t.text.length ≤ 140737488355328) :
    Calls Try.prog 8 #[.slice A l.length c] w fun e w' => e = .returned (.bool true) ∧ Below w.heap.size w w' := by
  have hb0 : Below w.heap.size w (w.alloc (.cells #[.slice A l.length c] 33)) := ext_alloc (Below.refl _ _) _
  have HH := Lib.hid (heavyT_any (some ⟨w.heap.size, 0, none⟩) 1 [l] _ (one_row w h hc hm) (Nat.le_of_ble_eq_true rfl) (fun r hr => by rw [List.mem_singleton.1 hr]; exact hz))
  have HT := Lib.hid (h.ext hb0)
  have Hb0 := Lib.hid hb0
  unfold maxLen at hm
  have hli : (l.length : Int) ≤ 9223372036854775807 := by omega
  clear h hc hm hz hb0
  go_enter Try.func8, Try.ntmps8
  go_wp2_with fail
  refine HH.out.mono ?_
  rintro e w0 ⟨r, rfl, hw, hlt⟩
  subst hw
  have HL1 : Hid (r = false → sumT l l.length ≤ 6000) := Lib.hid (fun h => hlt h 0 (Nat.lt_succ_self 0) (Nat.le_of_ble_eq_true rfl))
  clear hlt HH
  cases r
  case true =>
    go_wp2
    go_ret
    exact ⟨rfl, Hb0.out⟩
  case false =>
    have hs := HL1.out rfl
    obtain ⟨h1, h2, -⟩ := light_ok hs
    have HA := Lib.hid (assign_nil A c l _ HT.out (by omega) (by omega))
    have HJ : Hid (∀ W, Below w.heap.size w W → ToksAt W A l → Calls Try.prog 21 #[.slice A l.length c] W fun e w' => e = .returned (strV (joinL l)) ∧ w' = W) := Lib.hid (fun W hW hT => rjoin_any A _ c l W rfl hT (by omega) (by omega))
    clear hs h1 h2 HL1
    obtain ⟨Z, hZ, -⟩ := str_hide (joinL l)
    rw [hZ] at HA HJ
    clear hZ
    go_wp2_with fail
    refine HA.out.mono ?_
    rintro e w2 ⟨V, rfl, hV, hb2⟩
    obtain ⟨b, o, rfl⟩ := hV.addr (by decide)
    obtain ⟨ad, ea, v0⟩ := hV.rd 0 _ rfl
    injection ea with ea
    subst ea
    have v0 : w2.cell? ⟨b, o, none⟩ = some (.string Z) := v0
    have HTm := Lib.hid (template_nil (w2.alloc (Obj.cells #[.int .i64 0, .slice (some ⟨b, o, none⟩) 1 1] 31)) 0)
    clear hV
    go_wp2_with fail
    refine HTm.out.mono ?_
    rintro e w3 ⟨rfl, hw⟩
    subst hw
    obtain ⟨w3, hw3⟩ : ∃ w3, w3 = w2.alloc (Obj.cells #[.int .i64 0, .slice (some ⟨b, o, none⟩) 1 1] 31) := ⟨_, rfl⟩
    have HB : Hid (Blk w3 w2.heap.size 31 #[.int .i64 0, .slice (some ⟨b, o, none⟩) 1 1]) := Lib.hid (by rw [hw3]; exact Blk.new _ _ _)
    have hb3 : Below w2.heap.size w2 w3 := by rw [hw3]; exact ext_alloc (Below.refl _ _) _
    have HTk : Hid (∀ W, Below w3.heap.size w3 W → ToksAt W A l) := Lib.hid (fun W hW => ((HT.out.ext hb2).ext hb3).ext hW)
    have HBW : Hid (∀ W, Below w3.heap.size w3 W → Below w.heap.size w W) := Lib.hid (fun W hW => ext_trans (ext_trans (ext_trans Hb0.out hb2) hb3) hW)
    have HS : Hid (∀ W, Below w3.heap.size w3 W → W.cell? ⟨w2.heap.size, 0, none⟩ = some (.int .i64 0) ∧ W.cell? ⟨w2.heap.size, 1, none⟩ = some (.slice (some ⟨b, o, none⟩) 1 1) ∧ W.cell? ⟨b, o, none⟩ = some (.string Z)) := Lib.hid (fun W hW => by
      have hX := HB.out.ext hW
      have x0 := hX.cell 0
      have x1 := hX.cell 1
      simp only [List.getElem?_toArray, List.getElem?_cons_zero, List.getElem?_cons_succ] at x0 x1
      exact ⟨x0, x1, (World.cell?_of_block ((hb3.trans (hW.mono hb3.size)).block _ (World.block_lt_of_cell? w2 _ v0))).trans v0⟩)
    have e0 := HS.out w3 (Below.refl _ _)
    have HKn : Hid (∀ W, Below w3.heap.size w3 W → Calls Try.prog 18 #[] W fun e w' => e = .returned (.bool true) ∧ Below w3.heap.size w3 w') := Lib.hid (fun W hW => (known15_any W).mono (fun e w' ⟨a, b⟩ => ⟨a, ext_trans hW b⟩))
    have HJ2 : Hid (∀ W, Below w3.heap.size w3 W → Calls Try.prog 21 #[.slice A l.length c] W fun e w' => e = .returned (.string Z) ∧ w' = W) := Lib.hid (fun W hW => HJ.out W (HBW.out W hW) (HTk.out W hW))
    have Hw3 := Lib.hid hw3
    clear v0 hb2 hb3 HTm HA HJ hw3
    go_wp2
    rw [← Hw3.out]
    go_region_held3 (fun W => W.cell? ⟨w2.heap.size, 0, none⟩ = some (.int .i64 0) ∧ W.cell? ⟨w2.heap.size, 1, none⟩ = some (.slice (some ⟨b, o, none⟩) 1 1) ∧ W.cell? ⟨b, o, none⟩ = some (.string Z)) (first | exact e0 | exact HS.out _ hb9) (first
      | (go_at_call 21; (with_reducible refine (HJ2.out _ ?_).mono ?_); (repeat (first | exact hb9 | exact Below.refl _ _ | refine ext_drewN ?_ _ | refine ext_drew ?_)); rintro e w9 ⟨rfl, hw9⟩; have hw9 := hw9.symm; subst hw9)
      | (go_at_call 22; (with_reducible refine (len_nil _).mono ?_); rintro e w9 ⟨rfl, hw9⟩; have hw9 := hw9.symm; subst hw9)
      | (go_at_call 24; (with_reducible refine (leaves_nil _).mono ?_); rintro e w9 ⟨rfl, hw9⟩; have hw9 := hw9.symm; subst hw9)
      | (go_at_call 26; (with_reducible refine (encode_nil _).mono ?_); rintro e w9 ⟨rfl, hw9⟩; have hw9 := hw9.symm; subst hw9)
      | (go_at_call 28; (with_reducible refine (copy_nil _).mono ?_); rintro e w9 ⟨rfl, hw9⟩; have hw9 := hw9.symm; subst hw9)
      | (go_at_call 18; (with_reducible refine (HKn.out _ ?_).mono ?_); (repeat (first | exact hb9 | exact Below.refl _ _ | refine ext_drewN ?_ _ | refine ext_drew ?_)); rintro e w9 ⟨rfl, hb9⟩))
    all_goals
      go_wp2
      go_ret
      exact ⟨rfl, HBW.out _ (by repeat (first | exact hb9 | exact Below.refl _ _ | refine ext_drewN ?_ _ | refine ext_drew ?_))⟩
end Go.Proofs.Ytdghbdiapkelnaa

/-
  TreeTwice' walk. No statement of the seat is proved here.
-/
namespace Go.Proofs.Ytdghbdiapkelnaa
open Go Go.RowKit Go.Maps
set_option maxRecDepth 100000

theorem varsT_twice {t : Tr} (h : Good t) (l : List Tok) : varsT (numT t l).1 l = varsT t l := by
  unfold varsT
  rw [numT_twice h l]
theorem idT {t : Tr} (h : Good t) (l : List Tok) : isInt ((numT t l).2 : Int) := by
  have h1 := (numT_fits h l).1
  have h2 := (h.step l).ids
  unfold isInt
  omega

set_option maxHeartbeats 4000000 in
theorem twice_walk (A : Option Addr) (c : Nat) (l : List (List Tok)) (B : Option Addr) (c2 : Nat) (a : List Tok) (w : World) (h : RowR IsTks 1 w A l) (hl : l.length ≤ maxLen) (hz : ∀ r ∈ l, ∀ t ∈ r, t.text.length ≤ 140737488355328)
    (h2 : ToksAt w B a) (hc2 : a.length ≤ c2) (hm2 : c2 ≤ maxLen) (hz2 : ∀ t ∈ a, t.text.length ≤ 140737488355328) :
    Calls Try.prog 9 #[.slice A l.length c, .slice B a.length c2] w fun e w' => e = .returned (.bool true) ∧ Below w.heap.size w w' := by
  have HR := Lib.hid h
  have HH := Lib.hid (heavyT_any A c l w h hl hz)
  have hb0 : Below w.heap.size w (w.alloc (.cells #[.slice B a.length c2] 33)) := ext_alloc (Below.refl _ _) _
  have HH2 := Lib.hid (heavyT_any (some ⟨w.heap.size, 0, none⟩) 1 [a] _ (one_row w h2 hc2 hm2) (Nat.le_of_ble_eq_true rfl) (fun r hr => by rw [List.mem_singleton.1 hr]; exact hz2))
  have HTa := Lib.hid h2
  have Hb0 := Lib.hid hb0
  unfold maxLen at hl hm2
  have hli : (l.length : Int) ≤ 9223372036854775807 := by omega
  have hli2 : (a.length : Int) ≤ 9223372036854775807 := by omega
  clear h hl hz h2 hc2 hm2 hz2 hb0
  go_enter Try.func9, Try.ntmps9
  go_wp2_with fail
  refine HH.out.mono ?_
  rintro e w0 ⟨r, rfl, hw, hlt⟩
  subst hw
  have HL1 : Hid (r = false → ∀ i (hi : i < l.length), i < 120 → sumT l[i] l[i].length ≤ 6000) := Lib.hid hlt
  clear hlt HH
  cases r
  case true =>
    go_wp2
    go_ret
    exact ⟨rfl, Below.refl _ _⟩
  case false =>
    have HLt : Hid (∀ i (hi : i < l.length), i < 120 → sumT l[i] l[i].length ≤ 6000) := Lib.hid (HL1.out rfl)
    clear HL1
    go_wp2_with fail
    refine HH2.out.mono ?_
    rintro e w0 ⟨r, rfl, hw, hlt⟩
    subst hw
    have HL1 : Hid (r = false → sumT a a.length ≤ 6000) := Lib.hid (fun h => hlt h 0 (Nat.lt_succ_self 0) (Nat.le_of_ble_eq_true rfl))
    clear hlt HH2
    cases r
    case true =>
      go_wp2
      go_ret
      exact ⟨rfl, Hb0.out⟩
    case false =>
      have HSa : Hid (sumT a a.length ≤ 6000) := Lib.hid (HL1.out rfl)
      have HN := Lib.hid (new_any (w.alloc (.cells #[.slice B a.length c2] 33)))
      clear HL1
      go_wp2_with fail
      refine HN.out.mono ?_
      rintro e w1 ⟨g, rfl, hT, hb, hg⟩
      have HT := Lib.hid hT
      have Hb := Lib.hid (ext_trans Hb0.out hb)
      have Hg : Hid (w.heap.size ≤ g) := Lib.hid (Nat.le_trans Hb0.out.size hg)
      clear hT hb hg HN Hb0
      go_wp2
      go_loopw [6] (fun i wr => ∃ k : Nat, k ≤ l.length ∧ k ≤ 120 ∧ i = .int .i64 (k : Int) ∧ ∃ (T : Nat → Prop) (t : Tr), Hid (TrIn T wr g t) ∧ Hid (Good t) ∧ Hid (∀ j, T j → w.heap.size ≤ j) ∧ Hid (Below w.heap.size w wr)) (fun i _ => l.length - (intOf i).toNat)
      case atStart => exact ⟨0, Nat.zero_le _, Nat.zero_le _, rfl, _, _, HT, Lib.hid Good.new, Lib.hid (fun j hj => by rw [hj]; exact Hg.out), Hb⟩
      case round =>
        obtain ⟨k, hk, hk120, rfl, T, t, HTr, HG, HTs, Hbr⟩ := hrel
        by_cases hlt : k < l.length
        · have hki : (k : Int) < (l.length : Int) := by omega
          by_cases h120 : k < 120
          · have hk1 : (k : Int) < 120 := by omega
            obtain ⟨g2, o2, B3, cb, rfl, u0, ht, hm1, hm2⟩ := row_toks HR.out hlt
            unfold maxLen at hm2
            have hmi : (l[k].length : Int) ≤ 9223372036854775807 := by omega
            have u1 : wr.cell? ⟨g2, o2 + k, none⟩ = some (.slice B3 l[k].length cb) := (World.cell?_of_block (Hbr.out.block _ (World.block_lt_of_cell? w _ u0))).trans u0
            have HA := Lib.hid (asg_step cb HTr.out HG.out HTs.out Hbr.out ht (HLt.out k hlt h120))
            have HG2 := Lib.hid (HG.out.step l[k])
            clear u0 ht hm1 hm2 HG HTr HTs
            go_wp2_with fail
            refine HA.out.mono ?_
            rintro e w2 ⟨T2, V, cv, rfl, HT2, HTs2, -, -, Hb2, -, -⟩
            go_wp2
            go_roundw
            case rel => exact ⟨k + 1, by omega, by omega, by go_num, T2, _, HT2, HG2, HTs2, Hb2⟩
            case measure => simp [intOf]; omega
          · have hk1 : ¬ (k : Int) < 120 := by omega
            clear h120
            have HA := Lib.hid (asg_step c2 HTr.out HG.out HTs.out Hbr.out HTa.out HSa.out)
            have HG2 := Lib.hid (HG.out.step a)
            have HLn : Hid (∀ T2 W, TrIn T2 W g (numT t a).1 → Calls Try.prog 22 #[.pointer (some ⟨g, 0, none⟩)] W fun e w' => e = .returned (.int .i64 (((numT t a).1.ts.length : Int) + 1)) ∧ w' = W) := Lib.hid (fun T2 W hW => len_any hW (by have := HG2.out.ids; omega))
            have HA2 : Hid (∀ T2 W, TrIn T2 W g (numT t a).1 → (∀ j, T2 j → w.heap.size ≤ j) → Below w.heap.size w W → Calls Try.prog 15 #[.pointer (some ⟨g, 0, none⟩), .slice B a.length c2] W fun e w' => ∃ (T3 : Nat → Prop) (V : Option Addr) (cv : Nat), e = .returned (.agg #[.int .i64 ((numT t a).2 : Int), .slice V (varsT t a).length cv]) ∧ Hid (TrIn T3 w' g (numT t a).1) ∧ Hid (RowO w' 9 1 V (varsT t a).length cv ((varsT t a).map strV)) ∧ Hid (Below w.heap.size w w') ∧ Hid (Only T2 W w')) := Lib.hid (fun T2 W hT hTs hb => by
              have hx := asg_step c2 hT HG2.out hTs hb HTa.out HSa.out
              rw [varsT_twice HG.out, numT_twice HG.out] at hx
              refine hx.mono ?_
              rintro e w' ⟨T3, V, cv, rfl, k1, -, k3, -, k5, k6, -⟩
              exact ⟨T3, V, cv, rfl, k1, k3, k5, k6⟩)
            have HI := Lib.hid (idT HG.out a)
            have HTi : Hid ((numT t a).1.ts.length ≤ 63) := Lib.hid HG2.out.ids
            clear HG HTr HTs HG2
            generalize numT t a = ni at *
            obtain ⟨t2, id⟩ := ni
            dsimp only at HA HA2 HLn HI HTi
            generalize varsT t a = vs at *
            have hn2 : (t2.ts.length : Int) + 1 ≤ 1000000 := by have := HTi.out; omega
            go_wp2_with fail
            refine HA.out.mono ?_
            rintro e w2 ⟨T2, V, cv, rfl, HT2, HTs2, HV, HVn, Hb2, -, -⟩
            have hb3 : Below w2.heap.size w2 (w2.alloc (Obj.cells #[.int .i64 (id : Int), .slice V vs.length cv] 31)) := ext_alloc (Below.refl _ _) _
            have HB := Lib.hid (Blk.new w2 31 #[.int .i64 (id : Int), .slice V vs.length cv])
            have HTx := Lib.hid (HT2.out.ext hb3)
            have Hbx := Lib.hid (ext_trans Hb2.out hb3)
            have HVx := Lib.hid (HV.out.ext hb3)
            have HNx : Hid (¬ T2 w2.heap.size) := Lib.hid (fun h => by
              obtain ⟨A, c, xs, R, d, ys, M, h1⟩ := HT2.out
              exact Nat.lt_irrefl _ (h1.lt _ h))
            have HAx := Lib.hid (HA2.out T2 _ HTx.out HTs2.out Hbx.out)
            have HLx := Lib.hid (HLn.out T2 _ HTx.out)
            clear hb3
            go_wp2_with fail
            refine HLx.out.mono ?_
            rintro e w3 ⟨rfl, hw3⟩
            subst hw3
            go_wp2_with fail
            refine HAx.out.mono ?_
            rintro e w4 ⟨T3, V2, cv2, rfl, HT3, HV2, Hb4, HO4⟩
            obtain ⟨w5, hw5⟩ : ∃ w5, w5 = w4.alloc (Obj.cells #[.int .i64 (id : Int), .slice V2 vs.length cv2] 31) := ⟨_, rfl⟩
            have Hw5 := Lib.hid hw5
            have hb5 : Below w4.heap.size w4 w5 := by rw [hw5]; exact ext_alloc (Below.refl _ _) _
            have HB2 : Hid (Blk w5 w4.heap.size 31 #[.int .i64 (id : Int), .slice V2 vs.length cv2]) := Lib.hid (by rw [hw5]; exact Blk.new _ _ _)
            have HB1 := Lib.hid ((HB.out.only HO4.out HNx.out).ext hb5)
            have hV5 := (HVx.out.only HO4.out (fun k hk => (HVn.out k hk).2)).ext hb5
            have hV6 := HV2.out.ext hb5
            have HLi : Hid (Calls Try.prog 14 #[.agg #[.int .i64 (id : Int), .slice V vs.length cv], .agg #[.int .i64 (id : Int), .slice V2 vs.length cv2]] w5 fun e w' => e = .returned (.bool true) ∧ Below w5.heap.size w5 w') := Lib.hid (by
              refine (rline_any ⟨(id : Int), vs⟩ ⟨(id : Int), vs⟩ V V2 cv cv2 w5 ⟨HI.out, hV5.le, hV5.max, hV5.nil_cap, hV5.rd⟩ ⟨HI.out, hV6.le, hV6.max, hV6.nil_cap, hV6.rd⟩).mono ?_
              rintro e w' ⟨r, rfl, hr, hb⟩
              rw [hr.2 rfl]
              exact ⟨rfl, hb⟩)
            have HBW : Hid (∀ W, Below w5.heap.size w5 W → Below w.heap.size w W) := Lib.hid (fun W hW => ext_trans (ext_trans Hb4.out hb5) hW)
            have HL2 : Hid (∀ W, Below w5.heap.size w5 W → Calls Try.prog 22 #[.pointer (some ⟨g, 0, none⟩)] W fun e w' => e = .returned (.int .i64 ((t2.ts.length : Int) + 1)) ∧ w' = W) := Lib.hid (fun W hW => HLn.out T3 W ((HT3.out.ext hb5).ext hW))
            have x0 := HB1.out.cell 0
            have x1 := HB1.out.cell 1
            have y0 := HB2.out.cell 0
            have y1 := HB2.out.cell 1
            simp only [List.getElem?_toArray, List.getElem?_cons_zero, List.getElem?_cons_succ] at x0 x1 y0 y1
            rw [hw5] at x0 x1 y0 y1
            clear hw5 hb5 hV5 hV6
            go_wp2_with fail
            rw [← Hw5.out]
            refine HLi.out.mono ?_
            rintro e w6 ⟨rfl, hb9⟩
            clear x0 x1 y0 y1
            go_wp2_with fail
            refine (HL2.out _ hb9).mono ?_
            rintro e w7 ⟨rfl, hw7⟩
            have hw7 := hw7.symm
            subst hw7
            go_wp2_with fail
            refine (known15_any _).mono ?_
            rintro e w8 ⟨rfl, hbA⟩
            have hbF := ext_trans (HBW.out _ hb9) hbA
            go_wp2
            go_ret
            exact ⟨rfl, hbF⟩
        · obtain rfl : k = l.length := by omega
          clear hlt hk hk120
          have HA := Lib.hid (asg_step c2 HTr.out HG.out HTs.out Hbr.out HTa.out HSa.out)
          have HG2 := Lib.hid (HG.out.step a)
          have HLn : Hid (∀ T2 W, TrIn T2 W g (numT t a).1 → Calls Try.prog 22 #[.pointer (some ⟨g, 0, none⟩)] W fun e w' => e = .returned (.int .i64 (((numT t a).1.ts.length : Int) + 1)) ∧ w' = W) := Lib.hid (fun T2 W hW => len_any hW (by have := HG2.out.ids; omega))
          have HA2 : Hid (∀ T2 W, TrIn T2 W g (numT t a).1 → (∀ j, T2 j → w.heap.size ≤ j) → Below w.heap.size w W → Calls Try.prog 15 #[.pointer (some ⟨g, 0, none⟩), .slice B a.length c2] W fun e w' => ∃ (T3 : Nat → Prop) (V : Option Addr) (cv : Nat), e = .returned (.agg #[.int .i64 ((numT t a).2 : Int), .slice V (varsT t a).length cv]) ∧ Hid (TrIn T3 w' g (numT t a).1) ∧ Hid (RowO w' 9 1 V (varsT t a).length cv ((varsT t a).map strV)) ∧ Hid (Below w.heap.size w w') ∧ Hid (Only T2 W w')) := Lib.hid (fun T2 W hT hTs hb => by
            have hx := asg_step c2 hT HG2.out hTs hb HTa.out HSa.out
            rw [varsT_twice HG.out, numT_twice HG.out] at hx
            refine hx.mono ?_
            rintro e w' ⟨T3, V, cv, rfl, k1, -, k3, -, k5, k6, -⟩
            exact ⟨T3, V, cv, rfl, k1, k3, k5, k6⟩)
          have HI := Lib.hid (idT HG.out a)
          have HTi : Hid ((numT t a).1.ts.length ≤ 63) := Lib.hid HG2.out.ids
          clear HG HTr HTs HG2
          generalize numT t a = ni at *
          obtain ⟨t2, id⟩ := ni
          dsimp only at HA HA2 HLn HI HTi
          generalize varsT t a = vs at *
          have hn2 : (t2.ts.length : Int) + 1 ≤ 1000000 := by have := HTi.out; omega
          go_wp2_with fail
          refine HA.out.mono ?_
          rintro e w2 ⟨T2, V, cv, rfl, HT2, HTs2, HV, HVn, Hb2, -, -⟩
          have hb3 : Below w2.heap.size w2 (w2.alloc (Obj.cells #[.int .i64 (id : Int), .slice V vs.length cv] 31)) := ext_alloc (Below.refl _ _) _
          have HB := Lib.hid (Blk.new w2 31 #[.int .i64 (id : Int), .slice V vs.length cv])
          have HTx := Lib.hid (HT2.out.ext hb3)
          have Hbx := Lib.hid (ext_trans Hb2.out hb3)
          have HVx := Lib.hid (HV.out.ext hb3)
          have HNx : Hid (¬ T2 w2.heap.size) := Lib.hid (fun h => by
            obtain ⟨A, c, xs, R, d, ys, M, h1⟩ := HT2.out
            exact Nat.lt_irrefl _ (h1.lt _ h))
          have HAx := Lib.hid (HA2.out T2 _ HTx.out HTs2.out Hbx.out)
          have HLx := Lib.hid (HLn.out T2 _ HTx.out)
          clear hb3
          go_wp2_with fail
          refine HLx.out.mono ?_
          rintro e w3 ⟨rfl, hw3⟩
          subst hw3
          go_wp2_with fail
          refine HAx.out.mono ?_
          rintro e w4 ⟨T3, V2, cv2, rfl, HT3, HV2, Hb4, HO4⟩
          obtain ⟨w5, hw5⟩ : ∃ w5, w5 = w4.alloc (Obj.cells #[.int .i64 (id : Int), .slice V2 vs.length cv2] 31) := ⟨_, rfl⟩
          have Hw5 := Lib.hid hw5
          have hb5 : Below w4.heap.size w4 w5 := by rw [hw5]; exact ext_alloc (Below.refl _ _) _
          have HB2 : Hid (Blk w5 w4.heap.size 31 #[.int .i64 (id : Int), .slice V2 vs.length cv2]) := Lib.hid (by rw [hw5]; exact Blk.new _ _ _)
          have HB1 := Lib.hid ((HB.out.only HO4.out HNx.out).ext hb5)
          have hV5 := (HVx.out.only HO4.out (fun k hk => (HVn.out k hk).2)).ext hb5
          have hV6 := HV2.out.ext hb5
          have HLi : Hid (Calls Try.prog 14 #[.agg #[.int .i64 (id : Int), .slice V vs.length cv], .agg #[.int .i64 (id : Int), .slice V2 vs.length cv2]] w5 fun e w' => e = .returned (.bool true) ∧ Below w5.heap.size w5 w') := Lib.hid (by
            refine (rline_any ⟨(id : Int), vs⟩ ⟨(id : Int), vs⟩ V V2 cv cv2 w5 ⟨HI.out, hV5.le, hV5.max, hV5.nil_cap, hV5.rd⟩ ⟨HI.out, hV6.le, hV6.max, hV6.nil_cap, hV6.rd⟩).mono ?_
            rintro e w' ⟨r, rfl, hr, hb⟩
            rw [hr.2 rfl]
            exact ⟨rfl, hb⟩)
          have HBW : Hid (∀ W, Below w5.heap.size w5 W → Below w.heap.size w W) := Lib.hid (fun W hW => ext_trans (ext_trans Hb4.out hb5) hW)
          have HL2 : Hid (∀ W, Below w5.heap.size w5 W → Calls Try.prog 22 #[.pointer (some ⟨g, 0, none⟩)] W fun e w' => e = .returned (.int .i64 ((t2.ts.length : Int) + 1)) ∧ w' = W) := Lib.hid (fun W hW => HLn.out T3 W ((HT3.out.ext hb5).ext hW))
          have x0 := HB1.out.cell 0
          have x1 := HB1.out.cell 1
          have y0 := HB2.out.cell 0
          have y1 := HB2.out.cell 1
          simp only [List.getElem?_toArray, List.getElem?_cons_zero, List.getElem?_cons_succ] at x0 x1 y0 y1
          rw [hw5] at x0 x1 y0 y1
          clear hw5 hb5 hV5 hV6
          go_wp2_with fail
          rw [← Hw5.out]
          refine HLi.out.mono ?_
          rintro e w6 ⟨rfl, hb9⟩
          clear x0 x1 y0 y1
          go_wp2_with fail
          refine (HL2.out _ hb9).mono ?_
          rintro e w7 ⟨rfl, hw7⟩
          have hw7 := hw7.symm
          subst hw7
          go_wp2_with fail
          refine (known15_any _).mono ?_
          rintro e w8 ⟨rfl, hbA⟩
          have hbF := ext_trans (HBW.out _ hb9) hbA
          go_wp2
          go_ret
          exact ⟨rfl, hbF⟩
end Go.Proofs.Ytdghbdiapkelnaa
