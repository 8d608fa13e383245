/-
  Texts of this claim, joined (part 4): contracts and lemmas that the last text goes by. No statement of the seat is proved here.
-/
import Derived.Test.YthceajadgjnnmaaAll3
import Derived.Test.YthceajadgjnnmaaAll2
set_option linter.unusedVariables false
set_option linter.unusedSimpArgs false
/-
  Decode (reference). No statement of the seat is proved here.
-/
namespace Go.Proofs.Ythceajadgjnnmaa
open Go Go.RowKit
set_option maxRecDepth 100000

theorem ne_strP {xs ys : List UInt8} (h : xs ≠ ys) : ((⟨xs.toArray⟩ : ByteArray).toList == (⟨ys.toArray⟩ : ByteArray).toList) = false := by
  rw [beq_eq_false_iff_ne, ByteArray.toList_mk, ByteArray.toList_mk]
  exact h
theorem rrK_len (l : List Int) : ∀ k o, rrK l k = some o → o.length ≤ 32768
  | 0, o, h => by injection h with h; subst h; simp
  | k + 1, o, h => by
    rw [rrK] at h
    split at h
    · cases h
    · rename_i q hq
      split at h
      · cases h
      · rename_i hc
        injection h with h
        subst h
        rw [List.length_append, List.length_replicate]
        have := rrK_len l k q hq
        omega
theorem rrA_len (l : List Int) : (rrA l).1.length ≤ 32768 := by
  unfold rrA
  cases h : rrP l with
  | none => simp
  | some o => exact rrK_len l _ o h
theorem stNum_shrink {bs : List UInt8} (h : bs ≠ []) : (stNum bs false).2.1.length + 1 ≤ bs.length := by
  have hl := List.length_pos_iff.2 h
  rcases hR : num? bs with _ | ⟨n, k⟩
  · have e : stNum bs false = (0, [], true) := by simp [stNum, hR, resN, restOf, badOf]
    rw [e]
    simp
    omega
  · have e : stNum bs false = (n, bs.drop k, false) := by simp [stNum, hR, resN, restOf, badOf]
    obtain ⟨h1, h2, h3⟩ := num_bounds hR
    rw [e]
    simp
    omega
theorem stNum_bad_nil {bs : List UInt8} (h : (stNum bs false).2.2 = true) : (stNum bs false).2.1 = [] := by
  rcases hR : num? bs with _ | ⟨n, k⟩
  · simp [stNum, hR, resN, restOf, badOf]
  · simp [stNum, hR, resN, restOf, badOf] at h
/-- what the loop still takes, with what it has -/
structure Rkg (p : List UInt8) (b2 : List UInt8) (bad2 : Bool) (m : Nat) (acc : List Nat) (rest : List UInt8) (bad : Bool) : Prop where
  all : (acc ++ (takeA m rest bad).1, (takeA m rest bad).2) = takeA p.length b2 bad2
  fuel : rest.length ≤ m
  le : bad = false → acc.length + rest.length ≤ p.length
  le1 : acc.length ≤ p.length + 1
  each : ∀ v ∈ acc, v ≤ 4611686018427387904
theorem Rkg.step {p b2 : List UInt8} {bad2 : Bool} {m : Nat} {acc : List Nat} {rest : List UInt8} (h : Rkg p b2 bad2 (m + 1) acc rest false) (hr : rest ≠ []) : Rkg p b2 bad2 m (acc ++ [(stNum rest false).1]) (stNum rest false).2.1 (stNum rest false).2.2 := by
  have h1 := stNum_shrink hr
  have h2 := h.fuel
  have h3 := h.le rfl
  refine ⟨?_, by omega, fun _ => by rw [List.length_append]; simp; omega, by rw [List.length_append]; simp; omega, fun v hv => ?_⟩
  · rw [← h.all, takeA_succ m hr, List.append_assoc]; rfl
  · rcases List.mem_append.1 hv with hv | hv
    · exact h.each v hv
    · simp at hv; rw [hv]; exact stNum_le _ _
theorem Rkg.end_ {p b2 : List UInt8} {bad2 : Bool} {m : Nat} {acc : List Nat} {rest : List UInt8} {bad : Bool} (h : Rkg p b2 bad2 m acc rest bad) (he : rest = []) : takeA p.length b2 bad2 = (acc, [], bad) := by
  have h1 := h.all
  subst he
  rw [takeA_end m (.inr rfl), List.append_nil] at h1
  exact h1.symm
theorem decR_none {p : List UInt8} (h : decP p = none) : decR p = ([], 2) := by unfold decR; rw [h]
theorem decR_bad {p : List UInt8} {ns : List Nat} (hw : (stNum p false).1 ≤ 2) (ht : takeA p.length (stNum (stNum p false).2.1 (stNum p false).2.2).2.1 (stNum (stNum p false).2.1 (stNum p false).2.2).2.2 = (ns, [], true)) : decR p = ([], 2) := by
  have h := dec_rrd (Nat.le_refl _) hw ht (o := _) rfl
  rw [if_pos rfl] at h
  exact decR_none h
theorem decR_o {p : List UInt8} {ns : List Nat} (hw : (stNum p false).1 ≤ 2) (ht : takeA p.length (stNum (stNum p false).2.1 (stNum p false).2.2).2.1 (stNum (stNum p false).2.1 (stNum p false).2.2).2.2 = (ns, [], false)) :
    (rrdP (stNum p false).1 (intsN ns) = none → decR p = ([], 2)) ∧ (∀ l, rrdP (stNum p false).1 (intsN ns) = some l → decR p = chkP (encP (stNum p false).1) p l) := by
  constructor
  · intro ho
    have h := dec_rrd (Nat.le_refl _) hw ht ho
    rw [if_neg (by simp)] at h
    exact decR_none h
  · intro l ho
    have h := dec_rrd (Nat.le_refl _) hw ht ho
    rw [if_neg (by simp)] at h
    unfold decR chkP
    rw [h]
    simp only
    split
    · rename_i hx
      split at hx
      · rename_i hy
        injection hx with hx
        rw [if_pos hy, hx]
      · cases hx
    · rename_i hx
      split at hx
      · cases hx
      · rename_i hy
        rw [if_neg hy]
theorem chk_cases (enc : List Int → List UInt8) (p : List UInt8) (l : List Int) : ((ansP l (enc l)).2 = 1 ∧ chkP enc p l = ([], 2)) ∨ ((ansP l (enc l)).2 = 0 ∧ (ansP l (enc l)).1 ≠ p ∧ chkP enc p l = ([], 2)) ∨ ((ansP l (enc l)).2 = 0 ∧ (ansP l (enc l)).1 = p ∧ chkP enc p l = (l, 0)) := by
  unfold ansP chkP
  by_cases h : mayP l = true
  · rw [if_pos h]
    by_cases he : enc l = p
    · exact .inr (.inr ⟨rfl, he, by rw [if_pos ⟨h, he⟩]⟩)
    · exact .inr (.inl ⟨rfl, he, by rw [if_neg (fun hx => he hx.2)]⟩)
  · rw [if_neg h]
    exact .inl ⟨rfl, by rw [if_neg (fun hx => h hx.1)]⟩
def sLen : Value → Nat | .slice _ n _ => n | _ => 0

set_option maxHeartbeats 8000000 in
theorem rdecode_any (p : List UInt8) (A : Option Addr) (ca : Nat) (w : World) (hA : Rd w A (p.map bv)) (hc : p.length ≤ ca) (hp : p.length ≤ 1000000) :
    Calls Try.prog 23 #[.slice A p.length ca] w fun e w' => ∃ B' c', e = .returned (.tuple #[.slice B' (decR p).1.length c', .int .i64 (decR p).2]) ∧ Rd w' B' ((decR p).1.map iv) ∧ Below w.heap.size w w' := by
  have HWay : Hid (2 < (stNum p false).1 → decR p = ([], 2)) := Lib.hid decR_way
  have HBd : Hid (∀ ns, (stNum p false).1 ≤ 2 → takeA p.length (stNum (stNum p false).2.1 (stNum p false).2.2).2.1 (stNum (stNum p false).2.1 (stNum p false).2.2).2.2 = (ns, [], true) → decR p = ([], 2)) := Lib.hid (fun ns => decR_bad)
  have HGd : Hid (∀ ns, (stNum p false).1 ≤ 2 → takeA p.length (stNum (stNum p false).2.1 (stNum p false).2.2).2.1 (stNum (stNum p false).2.1 (stNum p false).2.2).2.2 = (ns, [], false) → (rrdP (stNum p false).1 (intsN ns) = none → decR p = ([], 2)) ∧ (∀ l, rrdP (stNum p false).1 (intsN ns) = some l → decR p = chkP (encP (stNum p false).1) p l)) := Lib.hid (fun ns => decR_o)
  generalize decR p = R at *
  have HA := Lib.hid hA
  obtain ⟨w2, hw2⟩ : ∃ w2, w2 = w.alloc (.cells #[.slice A p.length ca, .bool false] 66) := ⟨_, rfl⟩
  have Hb2 : Hid (Below w.heap.size w w2) := Lib.hid (by rw [hw2]; exact ext_alloc (Below.refl _ _) _)
  have HR2 : Hid (RRd w2 (fun k => k < w.heap.size ∨ k = w.heap.size) w.heap.size p false) := Lib.hid (by
    refine ⟨.inr rfl, (fun h => by cases h), A, ca, ?_, hA.ext Hb2.out, fun ad e hne => ?_, hc⟩
    · rw [hw2]; exact Blk.new _ _ _
    · obtain ⟨ad', e', hcell⟩ := hA.at_ (k := 0) (by have := List.length_pos_iff.2 hne; simpa using this)
      rw [e] at e'; injection e' with e'; subst e'
      have hl := World.block_lt_of_cell? w _ hcell
      rw [block_add] at hl
      exact ⟨.inl hl, by omega⟩)
  have Hw2 := Lib.hid hw2
  obtain ⟨g, hg⟩ : ∃ g, w.heap.size = g := ⟨_, rfl⟩
  have h1l := stNum_len p false
  clear hw2 hA
  go_enter Try.func23, Try.ntmps23
  go_wp2_with fail
  rw [← Hw2.out]
  rw [hg] at HR2
  have Hg := Lib.hid hg
  clear hg
  refine (refnum_st _ g p false w2 HR2.out (by omega)).mono ?_
  rintro e w3 ⟨rfl, hr3, ho3⟩
  generalize stNum p false = q1 at *
  obtain ⟨way, b1, bad1⟩ := q1
  simp only at HWay HBd HGd hr3 h1l ⊢
  have Hr3 := Lib.hid hr3
  have Ho3 := Lib.hid ho3
  have h2l := stNum_len b1 bad1
  clear hr3 ho3
  go_wp2_with fail
  refine (refnum_st _ g b1 bad1 w3 Hr3.out (by omega)).mono ?_
  rintro e w5 ⟨rfl, hr5, ho5⟩
  generalize stNum b1 bad1 = q2 at *
  obtain ⟨cnt, b2, bad2⟩ := q2
  simp only at HBd HGd hr5 h2l ⊢
  have Hr5 := Lib.hid hr5
  have Hb5 : Hid (Below w.heap.size w w5) := Lib.hid (Hb2.out.trans ((Ho3.out.trans ho5 (fun _ _ h => h)).below (fun i hi => by have := Hg.out; omega) Hb2.out.size))
  have Hgl : Hid (g < w5.heap.size) := Lib.hid hr5.lt
  have hcn : ¬ ((cnt : Int) < 0) := by omega
  have hcd : decide ((cnt : Int) < 0) = false := decide_eq_false hcn
  clear hr5 ho5
  go_wp2
  go_loopw [7] (fun s wr => ∃ (m : Nat) (acc : List Nat) (rest : List UInt8) (bad : Bool) (A1 : Option Addr) (c1 : Nat), s = .slice A1 acc.length c1 ∧ Hid (Rkg p b2 bad2 m acc rest bad) ∧ RRd wr (fun k => k < g ∨ k = g) g rest bad ∧ Fr w5 wr A1 c1 (intsN acc) ∧ Only (fun k => k = g) w5 wr) (fun s _ => p.length + 2 - sLen s)
  case atStart => exact ⟨p.length, [], b2, bad2, none, 0, rfl, Lib.hid ⟨by rw [List.nil_append], by omega, fun _ => by simp; omega, by simp, by simp⟩, Hr5.out, Fr.start _ _, Only.refl _ _⟩
  case round =>
    obtain ⟨m, acc, rest, bad, A1, c1, rfl, Hrd, hr, hS, ho⟩ := hrel
    have Hr := Lib.hid hr
    have HS := Lib.hid hS
    have Ho := Lib.hid ho
    obtain ⟨_, hnil, Ar, cr, hblk, _, _, _⟩ := hr
    have hc0 := hblk.cell 0
    have hc1 := hblk.cell 1
    simp only [List.getElem?_toArray, List.getElem?_cons_zero, List.getElem?_cons_succ] at hc0 hc1
    have HBk := Lib.hid hblk
    have Hbw : Hid (Below w.heap.size w wr) := Lib.hid (Hb5.out.trans (ho.below (fun i hi => by have := Hg.out; omega) Hb5.out.size))
    clear hS ho hblk
    cases bad with
    | true =>
      have Hend := Lib.hid (Hrd.out.end_ (hnil rfl))
      clear hnil
      rcases Nat.lt_or_ge 2 way with h2 | h2
      · have HR := Lib.hid (HWay.out h2)
        clear HWay HBd HGd
        go_wp2
        go_ret2
        rw [HR.out]
        first | exact ⟨none, 0, rfl, Rd.nil _ _, Hbw.out⟩ | exact ⟨none, ⟨0, rfl⟩, Rd.nil _ _, Hbw.out⟩
      · have HR := Lib.hid (HBd.out _ h2 Hend.out)
        clear HWay HBd HGd
        go_wp2
        go_ret2
        rw [HR.out]
        first | exact ⟨none, 0, rfl, Rd.nil _ _, Hbw.out⟩ | exact ⟨none, ⟨0, rfl⟩, Rd.nil _ _, Hbw.out⟩
    | false =>
      by_cases hne : rest = []
      · subst hne
        have Hend := Lib.hid (Hrd.out.end_ rfl)
        have Hev : Hid (∀ v ∈ intsN acc, 0 ≤ v ∧ v ≤ 4611686018427387904) := Lib.hid (fun v hv => by
          obtain ⟨x, hx, rfl⟩ := List.mem_map.1 hv
          have := Hrd.out.each x hx
          omega)
        have Hal : Hid ((intsN acc).length ≤ 1000001) := Lib.hid (by rw [intsN_length]; have := Hrd.out.le1; omega)
        have hrow := HS.out.rd
        have Hlen := Lib.hid (intsN_length acc)
        have hq : acc.length = (intsN acc).length := (intsN_length acc).symm
        clear hnil
        rcases Nat.lt_or_ge 2 way with h2 | h2
        · have HR := Lib.hid (HWay.out h2)
          have h2i : (2 : Int) < (way : Int) := by omega
          have h2d : decide ((2 : Int) < (way : Int)) = true := decide_eq_true h2i
          clear HWay HBd HGd hrow hq
          go_wp2
          go_ret2
          rw [HR.out]
          first | exact ⟨none, 0, rfl, Rd.nil _ _, Hbw.out⟩ | exact ⟨none, ⟨0, rfl⟩, Rd.nil _ _, Hbw.out⟩
        · have HG := Lib.hid (HGd.out _ h2 Hend.out)
          clear HWay HBd HGd
          rw [hq]
          generalize intsN acc = L at *
          clear hq Hlen
          obtain rfl | rfl | rfl : way = 0 ∨ way = 1 ∨ way = 2 := by omega
          · have HR : Hid (R = chkP plainP p L) := Lib.hid (HG.out.2 L rfl)
            have HE := Lib.hid (rplain_any A1 c1 L wr hrow (by have := Hal.out; omega))
            have HrL : Hid (Rd wr A1 (L.map iv)) := Lib.hid hrow
            clear hrow HG
            have hcs := chk_cases plainP p L
            rw [← HR.out] at hcs
            generalize ansP L (plainP L) = a at *
            obtain ⟨q, er⟩ := a
            simp only at HE hcs
            clear HR
            go_wp2_with fail
            refine HE.out.mono ?_
            rintro e w7 ⟨A7, c7, rfl, hn7, hb7⟩
            have Hb7 := Lib.hid (ext_trans Hbw.out hb7)
            have HrL7 := Lib.hid (HrL.out.ext hb7)
            rcases hcs with ⟨rfl, hR⟩ | ⟨rfl, hqp, hR⟩ | ⟨rfl, hqp, hR⟩
            · have HRR := Lib.hid hR
              clear hR hn7 hb7 HE
              go_wp2
              go_ret2
              rw [HRR.out]
              exact ⟨none, 0, rfl, Rd.nil _ _, Hb7.out⟩
            · have HRR := Lib.hid hR
              have hcv1 := conv_bytes w7 A7 q.length c7 q rfl hn7.rd
              have hcv2 := conv_bytes w7 A p.length ca p rfl (HA.out.ext Hb7.out)
              have hne2 : ((⟨q.toArray⟩ : ByteArray).toList == (⟨p.toArray⟩ : ByteArray).toList) = false := ne_strP hqp
              obtain ⟨Z, hZ⟩ : ∃ Z : ByteArray, (⟨q.toArray⟩ : ByteArray) = Z := ⟨_, rfl⟩
              obtain ⟨Y, hY'⟩ : ∃ Z : ByteArray, (⟨p.toArray⟩ : ByteArray) = Z := ⟨_, rfl⟩
              rw [hZ] at hcv1 hne2
              rw [hY'] at hcv2 hne2
              clear hZ hY' hqp hR hn7 hb7 HE
              go_wp2
              go_ret2
              rw [HRR.out]
              exact ⟨none, 0, rfl, Rd.nil _ _, Hb7.out⟩
            · have HRR := Lib.hid hR
              subst hqp
              have hcv1 := conv_bytes w7 A7 q.length c7 q rfl hn7.rd
              have hcv2 := conv_bytes w7 A q.length ca q rfl (HA.out.ext Hb7.out)
              obtain ⟨Z, hZ⟩ : ∃ Z : ByteArray, (⟨q.toArray⟩ : ByteArray) = Z := ⟨_, rfl⟩
              rw [hZ] at hcv1 hcv2
              clear hZ hR hn7 hb7 HE
              go_wp2
              go_ret2
              rw [HRR.out]
              exact ⟨A1, c1, rfl, HrL7.out, Hb7.out⟩
          · have HR : Hid (R = chkP deltaP p (rdel L)) := Lib.hid (HG.out.2 (rdel L) rfl)
            have HDl := Lib.hid (rdeltas_any A1 c1 L wr hrow Hev.out (by have := Hal.out; omega))
            have hdl : (rdel L).length ≤ 1099511627776 := by
              have h1 := addedTo_len L L.length
              have := Hal.out
              unfold rdel
              split
              · show (addedTo L L.length).length ≤ _
                omega
              · simp
            generalize rdel L = M at *
            clear hrow HG
            go_wp2_with fail
            refine HDl.out.mono ?_
            rintro e wd ⟨A2, c2, rfl, hN2⟩
            have HE := Lib.hid (rdelta_any A2 c2 M wd hN2.rd hdl)
            have HrL : Hid (Rd wd A2 (M.map iv)) := Lib.hid hN2.rd
            have Hbw2 := Lib.hid (ext_trans Hbw.out hN2.bel)
            have hc1d : wd.cell? ⟨g, 1, none⟩ = some (.bool false) := cell_only hc1 (Only.of_ext (S := fun _ => False) hN2.bel) (fun h => h)
            clear hN2 HDl hdl
            have hcs := chk_cases deltaP p M
            rw [← HR.out] at hcs
            generalize ansP M (deltaP M) = a at *
            obtain ⟨q, er⟩ := a
            simp only at HE hcs
            clear HR
            go_wp2_with fail
            refine HE.out.mono ?_
            rintro e w7 ⟨A7, c7, rfl, hn7, hb7⟩
            have Hb7 := Lib.hid (ext_trans Hbw2.out hb7)
            have HrL7 := Lib.hid (HrL.out.ext hb7)
            rcases hcs with ⟨rfl, hR⟩ | ⟨rfl, hqp, hR⟩ | ⟨rfl, hqp, hR⟩
            · have HRR := Lib.hid hR
              clear hR hn7 hb7 HE
              go_wp2
              go_ret2
              rw [HRR.out]
              exact ⟨none, 0, rfl, Rd.nil _ _, Hb7.out⟩
            · have HRR := Lib.hid hR
              have hcv1 := conv_bytes w7 A7 q.length c7 q rfl hn7.rd
              have hcv2 := conv_bytes w7 A p.length ca p rfl (HA.out.ext Hb7.out)
              have hne2 : ((⟨q.toArray⟩ : ByteArray).toList == (⟨p.toArray⟩ : ByteArray).toList) = false := ne_strP hqp
              obtain ⟨Z, hZ⟩ : ∃ Z : ByteArray, (⟨q.toArray⟩ : ByteArray) = Z := ⟨_, rfl⟩
              obtain ⟨Y, hY'⟩ : ∃ Z : ByteArray, (⟨p.toArray⟩ : ByteArray) = Z := ⟨_, rfl⟩
              rw [hZ] at hcv1 hne2
              rw [hY'] at hcv2 hne2
              clear hZ hY' hqp hR hn7 hb7 HE
              go_wp2
              go_ret2
              rw [HRR.out]
              exact ⟨none, 0, rfl, Rd.nil _ _, Hb7.out⟩
            · have HRR := Lib.hid hR
              subst hqp
              have hcv1 := conv_bytes w7 A7 q.length c7 q rfl hn7.rd
              have hcv2 := conv_bytes w7 A q.length ca q rfl (HA.out.ext Hb7.out)
              obtain ⟨Z, hZ⟩ : ∃ Z : ByteArray, (⟨q.toArray⟩ : ByteArray) = Z := ⟨_, rfl⟩
              rw [hZ] at hcv1 hcv2
              clear hZ hR hn7 hb7 HE
              go_wp2
              go_ret2
              rw [HRR.out]
              exact ⟨A2, c2, rfl, HrL7.out, Hb7.out⟩
          · have HGn : Hid ((rrA L).2 = false → R = ([], 2)) := Lib.hid (fun h => HG.out.1 (by
              show rrP L = none
              unfold rrA at h
              cases hrr : rrP L with
              | none => rfl
              | some o => rw [hrr] at h; cases h))
            have HGs : Hid ((rrA L).2 = true → R = chkP runsB p (rrA L).1) := Lib.hid (fun h => HG.out.2 (rrA L).1 (by
              show rrP L = some (rrA L).1
              unfold rrA at h ⊢
              cases hrr : rrP L with
              | none => rw [hrr] at h; cases h
              | some o => rfl))
            have HDl := Lib.hid (rrunsl_any A1 c1 L wr hrow Hev.out (by have := Hal.out; omega))
            have HML := Lib.hid (rrA_len L)
            generalize rrA L = M at *
            obtain ⟨M, ok⟩ := M
            simp only at HGn HGs HDl HML
            clear hrow HG
            cases ok with
            | false =>
              have HR := Lib.hid (HGn.out rfl)
              clear HGn HGs
              go_wp2_with fail
              refine HDl.out.mono ?_
              rintro e wd ⟨A2, c2, rfl, hN2⟩
              have Hbw2 := Lib.hid (ext_trans Hbw.out hN2.bel)
              clear hN2 HDl
              go_wp2
              go_ret2
              rw [HR.out]
              exact ⟨none, 0, rfl, Rd.nil _ _, Hbw2.out⟩
            | true =>
              have HR := Lib.hid (HGs.out rfl)
              clear HGn HGs
              go_wp2_with fail
              refine HDl.out.mono ?_
              rintro e wd ⟨A2, c2, rfl, hN2⟩
              have hlc : M.length ≤ c2 := hN2.row.le
              have hcm : c2 ≤ maxLen := by
                rcases hN2.row.2 with ⟨_, _, h⟩ | ⟨_, _, _, _, _, h, _⟩
                · rw [h]; exact Nat.zero_le _
                · exact h
              have HrL : Hid (Rd wd A2 (M.map iv)) := Lib.hid hN2.rd
              have Hbw2 := Lib.hid (ext_trans Hbw.out hN2.bel)
              clear HDl
              have hML : M.length ≤ 1099511627776 := by have := HML.out; omega
              have HE := Lib.hid (rruns_any A2 c2 M wd hN2.rd hML)
              clear hN2 hlc hcm hML
              have hcs := chk_cases runsB p M
              rw [← HR.out] at hcs
              generalize ansP M (runsB M) = a at *
              obtain ⟨q, er⟩ := a
              simp only at HE hcs
              clear HR
              go_wp2_with fail
              refine HE.out.mono ?_
              rintro e w7 ⟨A7, c7, rfl, hn7, hb7⟩
              have Hb7 := Lib.hid (ext_trans Hbw2.out hb7)
              have HrL7 := Lib.hid (HrL.out.ext hb7)
              rcases hcs with ⟨rfl, hR⟩ | ⟨rfl, hqp, hR⟩ | ⟨rfl, hqp, hR⟩
              · have HRR := Lib.hid hR
                clear hR hn7 hb7 HE
                go_wp2
                go_ret2
                rw [HRR.out]
                exact ⟨none, 0, rfl, Rd.nil _ _, Hb7.out⟩
              · have HRR := Lib.hid hR
                have hcv1 := conv_bytes w7 A7 q.length c7 q rfl hn7.rd
                have hcv2 := conv_bytes w7 A p.length ca p rfl (HA.out.ext Hb7.out)
                have hne2 : ((⟨q.toArray⟩ : ByteArray).toList == (⟨p.toArray⟩ : ByteArray).toList) = false := ne_strP hqp
                obtain ⟨Z, hZ⟩ : ∃ Z : ByteArray, (⟨q.toArray⟩ : ByteArray) = Z := ⟨_, rfl⟩
                obtain ⟨Y, hY'⟩ : ∃ Z : ByteArray, (⟨p.toArray⟩ : ByteArray) = Z := ⟨_, rfl⟩
                rw [hZ] at hcv1 hne2
                rw [hY'] at hcv2 hne2
                clear hZ hY' hqp hR hn7 hb7 HE
                go_wp2
                go_ret2
                rw [HRR.out]
                exact ⟨none, 0, rfl, Rd.nil _ _, Hb7.out⟩
              · have HRR := Lib.hid hR
                subst hqp
                have hcv1 := conv_bytes w7 A7 q.length c7 q rfl hn7.rd
                have hcv2 := conv_bytes w7 A q.length ca q rfl (HA.out.ext Hb7.out)
                obtain ⟨Z, hZ⟩ : ∃ Z : ByteArray, (⟨q.toArray⟩ : ByteArray) = Z := ⟨_, rfl⟩
                rw [hZ] at hcv1 hcv2
                clear hZ hR hn7 hb7 HE
                go_wp2
                go_ret2
                rw [HRR.out]
                exact ⟨A2, c2, rfl, HrL7.out, Hb7.out⟩
      · have hln : 0 < rest.length := List.length_pos_iff.2 hne
        have hli : (0 : Int) < (rest.length : Int) := by omega
        have hld : decide ((0 : Int) < (rest.length : Int)) = true := decide_eq_true hli
        obtain ⟨k, hk⟩ : ∃ k, m = k + 1 := ⟨m - 1, by have := Hrd.out.fuel; omega⟩
        have HRs := Lib.hid (Rkg.step (by rw [← hk]; exact Hrd.out) hne)
        have hal : acc.length + 1 ≤ 1000001 := by have := Hrd.out.le rfl; omega
        have hk2 : acc.length + 1 ≤ maxLen := by unfold maxLen; omega
        have hk3 : (acc.length + 1) * 8 ≤ 140737488355328 := by omega
        have hrl : rest.length ≤ 1099511627776 := by have := Hrd.out.le rfl; omega
        have HNU := Lib.hid (refnum_st _ g rest false wr Hr.out hrl)
        have Hal := Lib.hid hal
        generalize stNum rest false = q at *
        obtain ⟨x, rest', bd'⟩ := q
        simp only at HRs HNU
        clear hk hal hnil hne HWay HBd HGd
        go_wp2_with fail
        refine HNU.out.mono ?_
        rintro e x1 ⟨rfl, hr5, ho5⟩
        have hrow : RowO x1 3 1 A1 acc.length c1 ((intsN acc).map iv) := by
          have h1 := HS.out.row.only ho5 (fun k hk e => by have := HS.out.new k hk; have := Hgl.out; omega)
          rw [intsN_length] at h1
          exact h1
        have Hrow := Lib.hid hrow
        have Hr5' := Lib.hid hr5
        have Ho5 := Lib.hid (Ho.out.trans ho5 (fun _ _ h => h))
        clear hrow hr5 ho5
        go_wp2_with (at_builtin
                     refine wpList_appO _ rfl (.tmp 32) (.tmp 35) _ rfl 3 _ 1 8 Try.underlying22 info_int rfl A1 _ c1 _ rfl (Hrow.out.alloc _) (some ⟨x1.heap.size, 0, none⟩) 1 1 [.int .i64 (x : Int)] rfl rfl (Rd.lit _ #[.int .i64 (x : Int)] _) ?_ ?_ hk2 hk3 ?_
                     · simp; rfl
                     · intro h; cases h
                     intro A3 c3 w3 hrow3 honly3 hA3
                     have hx1 : w5.heap.size ≤ (x1.alloc (.cells #[.int .i64 (x : Int)] 3)).heap.size := by rw [World.size_alloc]; have := Ho5.out.size; omega
                     have hF3 : Fr w5 w3 A3 c3 (intsN (acc ++ [x])) := by
                       rw [intsN_append]
                       exact HS.out.grow (S := fun _ => True) hx1 (by rw [intsN_length]; exact hrow3) hA3
                     have hO3 := HS.out.only (Ho5.out.alloc (.cells #[.int .i64 (x : Int)] 3)) honly3
                     have hR3 : RRd w3 (fun k => k < g ∨ k = g) g rest' bd' := (Hr5'.out.ext (ext_alloc (Below.refl _ _) _)).only honly3 (fun k hk hi => by have h1 := HS.out.new k hi; have h2 := Hgl.out; have h3 := Hb5.out.size; omega)
                     have HF3 := Lib.hid hF3
                     have HO3 := Lib.hid hO3
                     have HR3 := Lib.hid hR3
                     clear hrow3 honly3 hA3 hx1 hF3 hO3 hR3)
        go_roundw
        case rel => exact ⟨k, acc ++ [x], rest', bd', A3, c3, by rw [List.length_append]; rfl, HRs, HR3.out, HF3.out, HO3.out⟩
        case measure => simp [sLen]; have := Hal.out; have := Hrd.out.le rfl; omega
end Go.Proofs.Ythceajadgjnnmaa

/-
  The laws' helpers numbers and known; PackTells, PackDecodes. No statement of the seat is proved here.
-/
namespace Go.Proofs.Ythceajadgjnnmaa
open Go Go.RowKit
set_option maxRecDepth 100000

set_option maxHeartbeats 4000000 in
theorem numbers_any (A : Option Addr) (c : Nat) (xs : List Int) (B : Option Addr) (d : Nat) (ys : List Int) (w : World) (hA : Rd w A (xs.map iv)) (hB : Rd w B (ys.map iv)) (hx : xs.length ≤ 1000000) (hy : ys.length ≤ 1000000) :
    Calls Try.prog 24 #[.slice A xs.length c, .slice B ys.length d] w fun e w' => e = .returned (.bool (decide (xs = ys))) ∧ Below w.heap.size w w' := by
  by_cases hl : xs.length = ys.length
  case neg =>
    have hli : ¬ (xs.length : Int) = (ys.length : Int) := by omega
    have hlb : ((xs.length : Int) != (ys.length : Int)) = true := by simp; omega
    have HF : Hid (decide (xs = ys) = false) := Lib.hid (decide_eq_false fun h => hl (by rw [h]))
    clear hA hB hl
    go_enter Try.func24, Try.ntmps24
    go_wp2
    go_ret
    exact ⟨by rw [HF.out]; rfl, Below.refl _ _⟩
  rw [← hl]
  have hn : (xs.length : Int) ≤ 1000000 := by omega
  have Hl := Lib.hid hl
  have HA := Lib.hid hA
  have HB := Lib.hid hB
  have HT : Hid ((∀ j : Nat, j < xs.length → xs[j]? = ys[j]?) → decide (xs = ys) = true) := Lib.hid (fun h => decide_eq_true (List.ext_getElem? fun j => by
    by_cases hj : j < xs.length
    · exact h j hj
    · rw [List.getElem?_eq_none (by omega), List.getElem?_eq_none (by omega)]))
  have HF : Hid (∀ j : Nat, xs[j]? ≠ ys[j]? → decide (xs = ys) = false) := Lib.hid (fun j h => decide_eq_false fun h2 => h (by rw [h2]))
  generalize decide (xs = ys) = D at *
  clear hA hB hl hy
  go_enter Try.func24, Try.ntmps24
  go_wp2
  go_loopw [5] (fun i wr => ∃ k : Nat, k ≤ xs.length ∧ i = .int .i64 (k : Int) ∧ Hid (∀ j : Nat, j < k → xs[j]? = ys[j]?) ∧ Below w.heap.size w wr) (fun i _ => xs.length - (intOf i).toNat)
  case atStart => exact ⟨0, Nat.zero_le _, rfl, Lib.hid (fun j h => absurd h (by omega)), Below.refl _ _⟩
  case round =>
    obtain ⟨k, hk, rfl, Hno, hb⟩ := hrel
    by_cases hlt : k < xs.length
    · have hki : (k : Int) < (xs.length : Int) := by omega
      have hlt2 : k < ys.length := by have := Hl.out; omega
      obtain ⟨ad, hB1, hcell⟩ := rd_int (HA.out.ext hb) hlt
      subst hB1
      obtain ⟨ad2, hB2, hcell2⟩ := rd_int (HB.out.ext hb) hlt2
      subst hB2
      have HFk : Hid (xs[k] ≠ ys[k] → D = false) := Lib.hid (fun h => HF.out k (by rw [List.getElem?_eq_getElem hlt, List.getElem?_eq_getElem hlt2]; simpa using h))
      have HTk : Hid (xs[k] = ys[k] → ∀ j : Nat, j < k + 1 → xs[j]? = ys[j]?) := Lib.hid (fun h j hj => by
        rcases Nat.lt_succ_iff_lt_or_eq.1 hj with h3 | rfl
        · exact Hno.out j h3
        · rw [List.getElem?_eq_getElem hlt, List.getElem?_eq_getElem hlt2, h])
      have Hb := Lib.hid hb
      generalize xs[k] = x at *
      generalize ys[k] = y at *
      clear hb
      by_cases hxy : x = y
      · subst hxy
        have Ht := Lib.hid (HTk.out rfl)
        clear HFk HTk
        go_wp2_with fail
        go_quiet (fail)
        go_wp2
        go_roundw
        case rel => exact ⟨k + 1, by omega, by go_num, Ht, ext_drewN Hb.out _⟩
        case measure => simp [intOf]; omega
      · have hne : (x != y) = true := by simpa using hxy
        have Hf := Lib.hid (HFk.out hxy)
        clear HFk HTk hxy
        go_wp2_with fail
        go_quiet (fail)
        go_wp2
        go_ret
        exact ⟨by rw [Hf.out]; rfl, ext_drewN Hb.out _⟩
    · obtain rfl : k = xs.length := by omega
      have Ht := Lib.hid (HT.out Hno.out)
      have Hb := Lib.hid hb
      clear hb
      go_wp2
      go_ret
      exact ⟨by rw [Ht.out]; rfl, Hb.out⟩

theorem best_seven : ansP [7, 7, 7, 7, 7] (bestP [7, 7, 7, 7, 7]) = ([2, 1, 5, 7], 0) := by
  have h1 : mayP [7, 7, 7, 7, 7] = true := by decide
  have hr : runsP [7, 7, 7, 7, 7] = [(5, 7)] := by decide
  have hd : deltasP [7, 7, 7, 7, 7] = [14, 0, 0, 0, 0] := by decide
  have e0 : dig 0 = [0] := dig_lt (by omega)
  have e1 : dig 1 = [1] := dig_lt (by omega)
  have e2 : dig 2 = [2] := dig_lt (by omega)
  have e5 : dig 5 = [5] := dig_lt (by omega)
  have e7 : dig 7 = [7] := dig_lt (by omega)
  have e14 : dig 14 = [14] := dig_lt (by omega)
  have c0 : clamp 0 = 0 := rfl
  have c1 : clamp 1 = 1 := rfl
  have c2 : clamp 2 = 2 := rfl
  have c5 : clamp 5 = 5 := rfl
  have c7 : clamp 7 = 7 := rfl
  have c14 : clamp 14 = 14 := rfl
  unfold ansP
  rw [if_pos h1]
  have hp : plainP [7, 7, 7, 7, 7] = [0, 5, 7, 7, 7, 7, 7] := by
    unfold plainP
    simp [numsB_cons, numsB_nil, c0, c5, c7, e0, e5, e7]
  have hdl : deltaP [7, 7, 7, 7, 7] = [1, 5, 14, 0, 0, 0, 0] := by
    unfold deltaP
    rw [hd]
    simp [numsB_cons, numsB_nil, c0, c1, c5, c14, e0, e1, e5, e14]
  have hrn : runsB [7, 7, 7, 7, 7] = [2, 1, 5, 7] := by
    unfold runsB
    rw [hr]
    simp [pairsB, numsB_cons, numsB_nil, c1, c2, c5, c7, e1, e2, e5, e7]
  unfold bestP
  rw [hp, hdl, hrn]
  rfl
set_option maxHeartbeats 2000000 in
theorem known16_any (w : World) : Calls Try.prog 21 #[] w fun e w' => e = .returned (.bool true) ∧ Below w.heap.size w w' := by
  have H := Lib.hid (fun (W : World) (ad : Addr) (hW : Rd W (some ad) ([7, 7, 7, 7, 7].map iv)) => bBest_any (some ad) 5 [7, 7, 7, 7, 7] W hW)
  rw [best_seven] at H
  have Hr := Lib.hid (Rd.lit w #[.int .i64 7, .int .i64 7, .int .i64 7, .int .i64 7, .int .i64 7] 3)
  go_enter Try.func21, Try.ntmps21
  go_wp2_with fail
  refine (H.out _ _ Hr.out).mono ?_
  rintro e w1 ⟨A1, c1, rfl, hn1, hb1⟩
  have hcv := conv_bytes w1 A1 4 c1 [2, 1, 5, 7] rfl hn1.rd
  have hln : ([2, 1, 5, 7] : List UInt8).length = 4 := rfl
  have Hb1 : Hid (Below w.heap.size w w1) := Lib.hid (ext_trans (ext_alloc (Below.refl _ _) _) hb1)
  clear hn1 hb1 H
  go_wp2
  go_ret
  exact ⟨rfl, Hb1.out⟩
end Go.Proofs.Ythceajadgjnnmaa

/-
  The walks of PackTells and PackDecodes. No statement of the seat is proved here.
-/
namespace Go.Proofs.Ythceajadgjnnmaa
open Go Go.RowKit
set_option maxRecDepth 100000

set_option maxHeartbeats 8000000 in
theorem pack_tells (A : Option Addr) (n c : Nat) (l : List Int) (w : World) (hn : n = l.length) (hA : Rd w A (l.map iv)) (hm : n ≤ maxLen) :
    Calls Try.prog 3 #[.slice A n c] w fun e w' => e = .returned (.bool true) ∧ Below w.heap.size w w' := by
  subst hn
  unfold maxLen at hm
  by_cases h4 : l.length ≤ 400
  case neg =>
    have hi : (400 : Int) < (l.length : Int) := by omega
    clear hA
    go_enter Try.func3, Try.ntmps3
    go_wp2
    go_ret
    exact ⟨rfl, Below.refl _ _⟩
  have hni : ¬ (400 : Int) < (l.length : Int) := by omega
  have H1 := Lib.hid (fun (W : World) (hb : Below w.heap.size w W) => bPlain_any A c l W (hA.ext hb))
  have H2 := Lib.hid (fun (W : World) (hb : Below w.heap.size w W) => rplain_any A c l W (hA.ext hb) (by omega))
  have H3 := Lib.hid (fun (W : World) (hb : Below w.heap.size w W) => bDelta_any A c l W (hA.ext hb))
  have H4 := Lib.hid (fun (W : World) (hb : Below w.heap.size w W) => rdelta_any A c l W (hA.ext hb) (by omega))
  have H5 := Lib.hid (fun (W : World) (hb : Below w.heap.size w W) => bRuns_any A c l W (hA.ext hb))
  have H6 := Lib.hid (fun (W : World) (hb : Below w.heap.size w W) => rruns_any A c l W (hA.ext hb) (by omega))
  have H7 := Lib.hid (fun (W : World) (hb : Below w.heap.size w W) => bBest_any A c l W (hA.ext hb))
  have H8 := Lib.hid (fun (W : World) (hb : Below w.heap.size w W) => rbest_any A c l W (hA.ext hb) (by omega))
  have HKn := Lib.hid known16_any
  generalize ansP l (plainP l) = R1 at *
  generalize ansP l (deltaP l) = R2 at *
  generalize ansP l (runsB l) = R3 at *
  generalize ansP l (bestP l) = R4 at *
  obtain ⟨b1, e1⟩ := R1
  obtain ⟨b2, e2⟩ := R2
  obtain ⟨b3, e3⟩ := R3
  obtain ⟨b4, e4⟩ := R4
  simp only at H1 H2 H3 H4 H5 H6 H7 H8
  have Hb0 := Lib.hid (Below.refl w.heap.size w)
  clear hA
  go_enter Try.func3, Try.ntmps3
  go_wp2_with fail
  refine (H1.out w Hb0.out).mono ?_
  rintro e w1 ⟨A1, c1, rfl, hn, hb⟩
  have Hb1 := Lib.hid (ext_trans Hb0.out hb)
  have Hc1 := Lib.hid hn.rd
  clear hn hb H1
  go_wp2_with fail
  refine (H2.out w1 Hb1.out).mono ?_
  rintro e w2 ⟨A2, c2, rfl, hn, hb⟩
  have Hb2 := Lib.hid (ext_trans Hb1.out hb)
  have Hc1 := Lib.hid (Rd.ext Hc1.out hb)
  have Hc2 := Lib.hid hn.rd
  clear hn hb H2
  go_wp2_with fail
  refine (H3.out w2 Hb2.out).mono ?_
  rintro e w3 ⟨A3, c3, rfl, hn, hb⟩
  have Hb3 := Lib.hid (ext_trans Hb2.out hb)
  have Hc1 := Lib.hid (Rd.ext Hc1.out hb)
  have Hc2 := Lib.hid (Rd.ext Hc2.out hb)
  have Hc3 := Lib.hid hn.rd
  clear hn hb H3
  go_wp2_with fail
  refine (H4.out w3 Hb3.out).mono ?_
  rintro e w4 ⟨A4, c4, rfl, hn, hb⟩
  have Hb4 := Lib.hid (ext_trans Hb3.out hb)
  have Hc1 := Lib.hid (Rd.ext Hc1.out hb)
  have Hc2 := Lib.hid (Rd.ext Hc2.out hb)
  have Hc3 := Lib.hid (Rd.ext Hc3.out hb)
  have Hc4 := Lib.hid hn.rd
  clear hn hb H4
  go_wp2_with fail
  refine (H5.out w4 Hb4.out).mono ?_
  rintro e w5 ⟨A5, c5, rfl, hn, hb⟩
  have Hb5 := Lib.hid (ext_trans Hb4.out hb)
  have Hc1 := Lib.hid (Rd.ext Hc1.out hb)
  have Hc2 := Lib.hid (Rd.ext Hc2.out hb)
  have Hc3 := Lib.hid (Rd.ext Hc3.out hb)
  have Hc4 := Lib.hid (Rd.ext Hc4.out hb)
  have Hc5 := Lib.hid hn.rd
  clear hn hb H5
  go_wp2_with fail
  refine (H6.out w5 Hb5.out).mono ?_
  rintro e w6 ⟨A6, c6, rfl, hn, hb⟩
  have Hb6 := Lib.hid (ext_trans Hb5.out hb)
  have Hc1 := Lib.hid (Rd.ext Hc1.out hb)
  have Hc2 := Lib.hid (Rd.ext Hc2.out hb)
  have Hc3 := Lib.hid (Rd.ext Hc3.out hb)
  have Hc4 := Lib.hid (Rd.ext Hc4.out hb)
  have Hc5 := Lib.hid (Rd.ext Hc5.out hb)
  have Hc6 := Lib.hid hn.rd
  clear hn hb H6
  go_wp2_with fail
  refine (H7.out w6 Hb6.out).mono ?_
  rintro e w7 ⟨A7, c7, rfl, hn, hb⟩
  have Hb7 := Lib.hid (ext_trans Hb6.out hb)
  have Hc1 := Lib.hid (Rd.ext Hc1.out hb)
  have Hc2 := Lib.hid (Rd.ext Hc2.out hb)
  have Hc3 := Lib.hid (Rd.ext Hc3.out hb)
  have Hc4 := Lib.hid (Rd.ext Hc4.out hb)
  have Hc5 := Lib.hid (Rd.ext Hc5.out hb)
  have Hc6 := Lib.hid (Rd.ext Hc6.out hb)
  have Hc7 := Lib.hid hn.rd
  clear hn hb H7
  go_wp2_with fail
  refine (H8.out w7 Hb7.out).mono ?_
  rintro e w8 ⟨A8, c8, rfl, hn, hb⟩
  have Hb8 := Lib.hid (ext_trans Hb7.out hb)
  have Hc1 := Lib.hid (Rd.ext Hc1.out hb)
  have Hc2 := Lib.hid (Rd.ext Hc2.out hb)
  have Hc3 := Lib.hid (Rd.ext Hc3.out hb)
  have Hc4 := Lib.hid (Rd.ext Hc4.out hb)
  have Hc5 := Lib.hid (Rd.ext Hc5.out hb)
  have Hc6 := Lib.hid (Rd.ext Hc6.out hb)
  have Hc7 := Lib.hid (Rd.ext Hc7.out hb)
  have Hc8 := Lib.hid hn.rd
  clear hn hb H8
  have hcv1 := conv_bytes w8 A1 b1.length c1 b1 rfl Hc1.out
  have hcv2 := conv_bytes w8 A2 b1.length c2 b1 rfl Hc2.out
  have hcv3 := conv_bytes w8 A3 b2.length c3 b2 rfl Hc3.out
  have hcv4 := conv_bytes w8 A4 b2.length c4 b2 rfl Hc4.out
  have hcv5 := conv_bytes w8 A5 b3.length c5 b3 rfl Hc5.out
  have hcv6 := conv_bytes w8 A6 b3.length c6 b3 rfl Hc6.out
  have hcv7 := conv_bytes w8 A7 b4.length c7 b4 rfl Hc7.out
  have hcv8 := conv_bytes w8 A8 b4.length c8 b4 rfl Hc8.out
  obtain ⟨Z1, hZ1⟩ : ∃ Z : ByteArray, (⟨b1.toArray⟩ : ByteArray) = Z := ⟨_, rfl⟩
  rw [hZ1] at hcv1 hcv2
  obtain ⟨Z2, hZ2⟩ : ∃ Z : ByteArray, (⟨b2.toArray⟩ : ByteArray) = Z := ⟨_, rfl⟩
  rw [hZ2] at hcv3 hcv4
  obtain ⟨Z3, hZ3⟩ : ∃ Z : ByteArray, (⟨b3.toArray⟩ : ByteArray) = Z := ⟨_, rfl⟩
  rw [hZ3] at hcv5 hcv6
  obtain ⟨Z4, hZ4⟩ : ∃ Z : ByteArray, (⟨b4.toArray⟩ : ByteArray) = Z := ⟨_, rfl⟩
  rw [hZ4] at hcv7 hcv8
  clear hZ1 hZ2 hZ3 hZ4
  go_wp2_with fail
  refine (HKn.out w8).mono ?_
  rintro e w9 ⟨rfl, hb⟩
  have Hb9 := Lib.hid (ext_trans Hb8.out hb)
  clear hb
  go_wp2
  go_ret
  exact ⟨rfl, Hb9.out⟩

set_option maxHeartbeats 8000000 in
theorem pack_decodes (A : Option Addr) (n ca : Nat) (p : List UInt8) (w : World) (hn : n = p.length) (hA : Rd w A (p.map bv)) (hc : p.length ≤ ca) (hm : n ≤ maxLen) :
    Calls Try.prog 4 #[.slice A n ca] w fun e w' => e = .returned (.bool true) ∧ Below w.heap.size w w' := by
  subst hn
  unfold maxLen at hm
  by_cases h5 : p.length ≤ 500
  case neg =>
    have hi : (500 : Int) < (p.length : Int) := by omega
    clear hA
    go_enter Try.func4, Try.ntmps4
    go_wp2
    go_ret
    exact ⟨rfl, Below.refl _ _⟩
  have hni : ¬ (500 : Int) < (p.length : Int) := by omega
  have HD : Hid (∀ (A1 : Option Addr) (c1 : Nat) (W : World), Below w.heap.size w W → Rd W A1 (p.map bv) → p.length ≤ c1 → Calls Try.prog 22 #[.slice A1 p.length c1] W fun e w' => ∃ B' c', e = .returned (.tuple #[.slice B' (decR p).1.length c', .int .i64 (decR p).2]) ∧ Rd w' B' ((decR p).1.map iv) ∧ Below W.heap.size W w') := Lib.hid (fun A1 c1 W _ hW hc => decode_any p A1 c1 W hW hc (by omega))
  have HE : Hid (∀ (W : World), Below w.heap.size w W → Calls Try.prog 23 #[.slice A p.length ca] W fun e w' => ∃ B' c', e = .returned (.tuple #[.slice B' (decR p).1.length c', .int .i64 (decR p).2]) ∧ Rd w' B' ((decR p).1.map iv) ∧ Below W.heap.size W w') := Lib.hid (fun W hb => rdecode_any p A ca W (hA.ext hb) hc (by omega))
  have hl : (decR p).1.length ≤ 1000000 := by
    unfold decR
    cases hd : decP p with
    | none => simp
    | some l =>
      have := ((mayP_iff l).1 (dec_may hd)).1
      show l.length ≤ _
      omega
  have Hl := Lib.hid hl
  have HKn := Lib.hid known16_any
  have HA := Lib.hid hA
  have Hc := Lib.hid hc
  have hk1 : 0 + p.length ≤ maxLen := by unfold maxLen; omega
  have hk2 : (0 + p.length) * 1 ≤ 140737488355328 := by omega
  generalize decR p = R at *
  obtain ⟨r, er⟩ := R
  simp only at HD HE Hl
  clear hl hA
  go_enter Try.func4, Try.ntmps4
  go_wp2_with (at_builtin
               refine wpList_app _ rfl (.tmp 11) (.tmp 12) _ rfl _ _ 1 Try.underlying23 info_u8 rfl (some ⟨w.heap.size, 0, none⟩) 0 0 [] rfl rfl (Own.lit w (fun k => w.heap.size ≤ k) #[] _ (by simp) (Nat.le_refl _)) A p.length ca (p.map bv) rfl (by rw [List.length_map]) (HA.out.alloc _) (bvs_one _) hk1 hk2 ?_
               intro A1 c1 w1 hown1 honly1
               have Hown1 := Lib.hid hown1
               have Hb1 : Hid (Below w.heap.size w w1) := Lib.hid (((Below.refl _ _).alloc (Nat.le_refl _) _).trans (honly1.below (fun i hi => hi) (by simp)))
               clear hown1 honly1)
  refine (HD.out A1 c1 w1 Hb1.out (by have := Hown1.out.rd; simpa using this) (by have := Hown1.out.cap; simpa using this)).mono ?_
  rintro e w2 ⟨B2, c2, rfl, hr2, hb2⟩
  have Hb2 := Lib.hid (ext_trans Hb1.out hb2)
  have Hr2 := Lib.hid hr2
  clear hr2 hb2
  go_wp2_with fail
  refine (HE.out w2 Hb2.out).mono ?_
  rintro e w3 ⟨B3, c3, rfl, hr3, hb3⟩
  have Hb3 := Lib.hid (ext_trans Hb2.out hb3)
  have HN := Lib.hid (numbers_any B2 c2 r B3 c3 r w3 (Hr2.out.ext hb3) hr3 Hl.out Hl.out)
  have hdd : decide (r = r) = true := decide_eq_true rfl
  rw [hdd] at HN
  clear hr3 hb3 hdd
  go_wp2_with fail
  refine HN.out.mono ?_
  rintro e w4 ⟨rfl, hb4⟩
  have Hb4 := Lib.hid (ext_trans Hb3.out hb4)
  clear hb4
  go_wp2_with fail
  refine (HKn.out w4).mono ?_
  rintro e w5 ⟨rfl, hb⟩
  have Hb5 := Lib.hid (ext_trans Hb4.out hb)
  clear hb
  go_wp2
  go_ret
  exact ⟨rfl, Hb5.out⟩
end Go.Proofs.Ythceajadgjnnmaa

/-
  Lengths: as many alike numbers as one likes, numbers that rise by little; reading back in every way. No statement of the seat is proved here.
-/
namespace Go.Proofs.Ythceajadgjnnmaa
open Go Go.RowKit
set_option maxRecDepth 100000

theorem getD_rep (v : Int) {n k : Nat} (h : k < n) : (List.replicate n v).getD k 0 = v := by
  rw [List.getD_eq_getElem?_getD, List.getElem?_replicate, if_pos h]
  rfl
theorem runsTo_rep (v : Int) (n : Nat) : ∀ k, k + 1 ≤ n → runsTo (List.replicate n v) (k + 1) = [(k + 1, v)]
  | 0, h => by
    rw [runsTo_new _ _ (.inl rfl), getD_rep v (by omega)]
    rfl
  | k + 1, h => by
    have e := runsTo_rep v n k (by omega)
    rw [runsTo, if_neg (by rw [Nat.add_sub_cancel, getD_rep v (by omega), getD_rep v (by omega)]; simp), e]
    rfl
theorem dig_three (x : Nat) (h : x ≤ 32768) : (dig (clamp (x : Int))).length ≤ 3 :=
  dig_len 3 _ (by rw [clamp_of_nat (by omega)]; have : (128 : Nat) ^ 3 = 2097152 := rfl; omega) (by omega)
theorem dig_six {v : Int} (h0 : 0 ≤ v) (h1 : v ≤ 2199023255552) : (dig (clamp v)).length ≤ 6 :=
  dig_len 6 _ (by have := clamp_le' h0 (by omega); have : (128 : Nat) ^ 6 = 4398046511104 := rfl; omega) (by omega)
theorem dig_small1 {v : Int} (h0 : 0 ≤ v) (h1 : v ≤ 127) : (dig (clamp v)).length ≤ 1 :=
  dig_len 1 _ (by have := clamp_le' h0 (by omega); have : (128 : Nat) ^ 1 = 128 := rfl; omega) (by omega)
theorem runs_rep_len (v : Int) (n : Nat) (hn : n ≤ 32768) (h0 : 0 ≤ v) (h1 : v ≤ 1099511627776) : (runsB (List.replicate n v)).length ≤ 12 := by
  have c2 : (dig (clamp 2)).length ≤ 1 := dig_small1 (by omega) (by omega)
  have c0 : (dig (clamp 0)).length ≤ 1 := dig_small1 (by omega) (by omega)
  have c1 : (dig (clamp 1)).length ≤ 1 := dig_small1 (by omega) (by omega)
  have cv : (dig (clamp v)).length ≤ 6 := dig_six h0 (by omega)
  unfold runsB runsP
  rw [List.length_replicate]
  rcases n with _ | n
  · have e : runsTo (List.replicate 0 v) 0 = [] := rfl
    rw [e]
    have e2 : numsB [2, (([] : List (Nat × Int)).length : Int)] ++ pairsB [] = dig (clamp 2) ++ dig (clamp 0) := by simp [pairsB, numsB_cons, numsB_nil]
    rw [e2, List.length_append]
    omega
  · rw [runsTo_rep v (n + 1) n (Nat.le_refl _)]
    have e2 : numsB [2, (([(n + 1, v)] : List (Nat × Int)).length : Int)] ++ pairsB [(n + 1, v)] = dig (clamp 2) ++ (dig (clamp 1) ++ (dig (clamp ((n + 1 : Nat) : Int)) ++ dig (clamp v))) := by
      simp [pairsB, numsB_cons, numsB_nil]
    have c3 := dig_three (n + 1) hn
    rw [e2, List.length_append, List.length_append, List.length_append]
    omega
theorem best_rep_len (v : Int) (n : Nat) (hn : n ≤ 32768) (h0 : 0 ≤ v) (h1 : v ≤ 1099511627776) : (bestP (List.replicate n v)).length ≤ 12 :=
  Nat.le_trans (best_le _ 2 (Nat.le_refl _)) (runs_rep_len v n hn h0 h1)
theorem may_rep (v : Int) (n : Nat) (hn : n ≤ 32768) (h0 : 0 ≤ v) (h1 : v ≤ 1099511627776) : mayP (List.replicate n v) = true :=
  (mayP_iff _).2 ⟨by rw [List.length_replicate]; exact hn, fun x hx => by rw [List.eq_of_mem_replicate hx]; exact ⟨h0, h1⟩⟩

/-! ### rising -/
def low5 (x : Int) : Int := bits .and .i64 x 31
theorem low5_ok (x : Int) : 0 ≤ low5 x ∧ low5 x ≤ 31 := by
  have hx : (BitVec.ofInt 64 x &&& BitVec.ofInt 64 31).toNat ≤ 31 := by
    rw [BitVec.toNat_and]
    exact Nat.le_trans Nat.and_le_right (by decide)
  have h : low5 x = ((BitVec.ofInt 64 x &&& BitVec.ofInt 64 31).toNat : Int) := by
    show IntKind.i64.wrap ((BitVec.ofInt 64 x &&& BitVec.ofInt 64 31).toNat : Int) = _
    rw [IntKind.wrap_i64]; omega
  omega
/-- the number that stands at a place -/
def riseK (f : Int) (xs : List Int) : Nat → Int
  | 0 => f
  | k + 1 => riseK f xs k + low5 (xs.getD k 0)
def riseTo (f : Int) (xs : List Int) (k : Nat) : List Int := (List.range (k + 1)).map (riseK f xs)
theorem riseTo_len (f : Int) (xs : List Int) (k : Nat) : (riseTo f xs k).length = k + 1 := by simp [riseTo]
theorem riseTo_zero (f : Int) (xs : List Int) : riseTo f xs 0 = [f] := rfl
theorem riseTo_succ (f : Int) (xs : List Int) (k : Nat) : riseTo f xs (k + 1) = riseTo f xs k ++ [riseK f xs k + low5 (xs.getD k 0)] := by
  unfold riseTo
  rw [List.range_succ, List.map_append]
  rfl
theorem riseTo_get (f : Int) (xs : List Int) (k j : Nat) (h : j < k + 1) : (riseTo f xs k)[j]? = some (riseK f xs j) := by simp [riseTo, h]
theorem riseK_ok {f : Int} (xs : List Int) (h0 : 0 ≤ f) : ∀ k : Nat, 0 ≤ riseK f xs k ∧ riseK f xs k ≤ f + 31 * (k : Int)
  | 0 => ⟨h0, by simp [riseK]⟩
  | k + 1 => by
    have := riseK_ok xs h0 k
    have h := low5_ok (xs.getD k 0)
    rw [riseK]
    omega
theorem may_rise {f : Int} (xs : List Int) {k : Nat} (h0 : 0 ≤ f) (h1 : f ≤ 549755813888) (hk : k ≤ 300) : mayP (riseTo f xs k) = true := by
  refine (mayP_iff _).2 ⟨by rw [riseTo_len]; omega, fun x hx => ?_⟩
  unfold riseTo at hx
  obtain ⟨j, hj, rfl⟩ := List.mem_map.1 hx
  have := riseK_ok xs h0 j
  have := List.mem_range.1 hj
  omega
theorem rise_deltas {f : Int} (xs : List Int) {n : Nat} (h0 : 0 ≤ f) (h1 : f ≤ 549755813888) : ∀ k, k ≤ n + 1 → (numsB (deltasTo (riseTo f xs n) k)).length ≤ 5 + k
  | 0, _ => by simp [deltasTo, numsB_nil]
  | k + 1, hk => by
    have ih := rise_deltas (n := n) xs h0 h1 k (by omega)
    rw [deltasTo_succ, numsB_append, List.length_append, numsB_one]
    have hg : (riseTo f xs n).getD k 0 = riseK f xs k := by rw [List.getD_eq_getElem?_getD, riseTo_get _ _ _ _ hk]; rfl
    rcases k with _ | k
    · have e : foldP ((riseTo f xs n).getD 0 0 - prevP (riseTo f xs n) 0) = 2 * f := by
        rw [hg]
        unfold prevP foldP
        rw [if_pos rfl, if_neg (by simp [riseK]; omega)]
        simp [riseK]
      rw [e]
      have := dig_six (v := 2 * f) (by omega) (by omega)
      have h00 : (numsB (deltasTo (riseTo f xs n) 0)).length = 0 := by simp [deltasTo, numsB_nil]
      omega
    · have hp : prevP (riseTo f xs n) (k + 1) = riseK f xs k := by
        unfold prevP
        rw [if_neg (by omega), Nat.add_sub_cancel, List.getD_eq_getElem?_getD, riseTo_get _ _ _ _ (by omega)]
        rfl
      have hl := low5_ok (xs.getD k 0)
      have e : foldP ((riseTo f xs n).getD (k + 1) 0 - prevP (riseTo f xs n) (k + 1)) = 2 * low5 (xs.getD k 0) := by
        rw [hg, hp, riseK]
        unfold foldP
        rw [if_neg (by omega)]
        omega
      rw [e]
      have := dig_small1 (v := 2 * low5 (xs.getD k 0)) (by omega) (by omega)
      omega
theorem best_rise_len {f : Int} (xs : List Int) {n : Nat} (h0 : 0 ≤ f) (h1 : f ≤ 549755813888) (hn : n ≤ 300) : (bestP (riseTo f xs n)).length ≤ 10 + (riseTo f xs n).length := by
  refine Nat.le_trans (best_le _ 1 (by omega)) ?_
  show (deltaP _).length ≤ _
  unfold deltaP deltasP
  rw [riseTo_len]
  have := rise_deltas (n := n) xs h0 h1 (n + 1) (Nat.le_refl _)
  have c1 : (dig (clamp 1)).length ≤ 1 := dig_small1 (by omega) (by omega)
  have c2 := dig_three (n + 1) (by omega)
  have e : numsB [1, ((n + 1 : Nat) : Int)] = dig (clamp 1) ++ dig (clamp ((n + 1 : Nat) : Int)) := by simp [numsB_cons, numsB_nil]
  rw [e, List.length_append, List.length_append]
  omega

/-! ### read back -/
theorem decR_some {p : List UInt8} {l : List Int} (h : decP p = some l) : decR p = (l, 0) := by unfold decR; rw [h]
theorem encP_len {w : Nat} {l : List Int} (hw : w ≤ 2) (h : mayP l = true) (hl : l.length ≤ 100000) : (encP w l).length ≤ 2000000 := by
  have h3 := numsB_len9 l
  match w, hw with
  | 0, _ =>
    show (plainP l).length ≤ _
    unfold plainP
    have h1 := numsB_len9 [0, (l.length : Int)]
    rw [List.length_append]
    simp only [List.length_cons, List.length_nil] at h1
    omega
  | 1, _ =>
    show (deltaP l).length ≤ _
    unfold deltaP
    have h1 := numsB_len9 [1, (l.length : Int)]
    have h2 := numsB_len9 (deltasP l)
    have h4 : (deltasP l).length = l.length := deltasTo_len _ _
    rw [List.length_append]
    simp only [List.length_cons, List.length_nil] at h1
    omega
  | 2, _ =>
    show (runsB l).length ≤ _
    unfold runsB
    have h1 := numsB_len9 [2, ((runsP l).length : Int)]
    have h2 : (runsP l).length ≤ l.length := runsTo_len _ _
    have h5 : ∀ rs : List (Nat × Int), (pairsB rs).length ≤ 18 * rs.length := by
      intro rs
      induction rs with
      | nil => simp [pairsB]
      | cons r rs ih =>
        have h6 := numsB_len9 [(r.1 : Int), r.2]
        have e : pairsB (r :: rs) = numsB [(r.1 : Int), r.2] ++ pairsB rs := by simp [pairsB]
        rw [e, List.length_append, List.length_cons]
        simp only [List.length_cons, List.length_nil] at h6
        omega
    have h7 := h5 (runsP l)
    rw [List.length_append]
    simp only [List.length_cons, List.length_nil] at h1
    omega
theorem best_len {l : List Int} (h : mayP l = true) (hl : l.length ≤ 100000) : (bestP l).length ≤ 2000000 := Nat.le_trans (best_le l 0 (by omega)) (encP_len (by omega) h hl)
theorem ansP_of {l : List Int} (h : mayP l = true) (b : List UInt8) : ansP l b = (b, 0) := by unfold ansP; rw [if_pos h]
theorem ansP_no {l : List Int} (h : mayP l = false) (b : List UInt8) : ansP l b = ([], 1) := by unfold ansP; rw [h]; rfl
/-- a row that is one of the four ways -/
def WayP (l : List Int) (b : List UInt8) : Prop := decR b = (l, 0) ∧ (bestP l).length ≤ b.length ∧ b.length ≤ 2000000
theorem wayP_enc {w : Nat} {l : List Int} (hw : w ≤ 2) (h : mayP l = true) (hl : l.length ≤ 100000) : WayP l (encP w l) := ⟨decR_some (dec_enc hw h), best_le l w hw, encP_len hw h hl⟩
theorem wayP_best {l : List Int} (h : mayP l = true) (hl : l.length ≤ 100000) : WayP l (bestP l) := ⟨decR_some (dec_best h), Nat.le_refl _, best_len h hl⟩
end Go.Proofs.Ythceajadgjnnmaa

/-
  The walks of PackBack, PackRuns and PackRises. No statement of the seat is proved here.
-/
namespace Go.Proofs.Ythceajadgjnnmaa
open Go Go.RowKit
set_option maxRecDepth 100000

/-- what a way answers -/
def WayC (f : FuncId) (A : Option Addr) (n c : Nat) (b : List UInt8) (W : World) : Prop :=
  Calls Try.prog f #[.slice A n c] W fun e w' => ∃ A' c', e = .returned (.tuple #[.slice A' b.length c', .int .i64 0]) ∧ Rd w' A' (b.map bv) ∧ b.length ≤ c' ∧ Below W.heap.size W w'
theorem way_of {f : FuncId} {A : Option Addr} {n c : Nat} {l : List Int} {W : World} {b : List UInt8} (hm : mayP l = true)
    (h : Calls Try.prog f #[.slice A n c] W fun e w' => ∃ A' c', e = .returned (.tuple #[.slice A' (ansP l b).1.length c', .int .i64 (ansP l b).2]) ∧ New W w' A' c' (ansP l b).1 ∧ Below W.heap.size W w') : WayC f A n c b W := by
  rw [ansP_of hm] at h
  exact h.mono fun e w' ⟨A', c', he, hn, hb⟩ => ⟨A', c', he, hn.rd, by have := Own.cap hn; simpa using this, hb⟩
/-- what is read back -/
theorem read_back {l : List Int} {b : List UInt8} (h : decR b = (l, 0)) (hb : b.length ≤ 2000000) (A : Option Addr) (c : Nat) (W : World) (hA : Rd W A (b.map bv)) (hc : b.length ≤ c) :
    Calls Try.prog 22 #[.slice A b.length c] W fun e w' => ∃ B' c', e = .returned (.tuple #[.slice B' l.length c', .int .i64 0]) ∧ Rd w' B' (l.map iv) ∧ Below W.heap.size W w' := by
  have H := decode_any b A c W hA hc (by omega)
  rw [h] at H
  exact H
theorem same_rows (A : Option Addr) (c : Nat) (B : Option Addr) (d : Nat) (l : List Int) (w : World) (hA : Rd w A (l.map iv)) (hB : Rd w B (l.map iv)) (hl : l.length ≤ 1000000) :
    Calls Try.prog 24 #[.slice A l.length c, .slice B l.length d] w fun e w' => e = .returned (.bool true) ∧ Below w.heap.size w w' := by
  have HN := numbers_any A c l B d l w hA hB hl hl
  have hdd : decide (l = l) = true := decide_eq_true rfl
  rw [hdd] at HN
  exact HN
/-- four rows, each read back as the numbers, none shorter than the last -/
def Four (l : List Int) (m : Nat) (w : World) (ad : Addr) : Prop := ∀ j, j < 4 → ∃ B b c, w.cell? (ad.add j) = some (.slice B b.length c) ∧ Rd w B (b.map bv) ∧ b.length ≤ c ∧ decR b = (l, 0) ∧ m ≤ b.length ∧ b.length ≤ 2000000
theorem Four.ext {l : List Int} {m : Nat} {w w' : World} {ad : Addr} (h : Four l m w ad) (hb : Below w.heap.size w w') : Four l m w' ad := fun j hj => by
  obtain ⟨B, b, c, h1, h2, h3⟩ := h j hj
  exact ⟨B, b, c, cell_only h1 (Only.of_ext (S := fun _ => False) hb) (fun h => h), h2.ext hb, h3⟩
theorem four_lit {l : List Int} {m : Nat} {w : World} {A1 A2 A3 A4 : Option Addr} {c1 c2 c3 c4 : Nat} {b1 b2 b3 b4 : List UInt8} {t : TypeId}
    (h1 : Rd w A1 (b1.map bv) ∧ b1.length ≤ c1 ∧ decR b1 = (l, 0) ∧ m ≤ b1.length ∧ b1.length ≤ 2000000) (h2 : Rd w A2 (b2.map bv) ∧ b2.length ≤ c2 ∧ decR b2 = (l, 0) ∧ m ≤ b2.length ∧ b2.length ≤ 2000000)
    (h3 : Rd w A3 (b3.map bv) ∧ b3.length ≤ c3 ∧ decR b3 = (l, 0) ∧ m ≤ b3.length ∧ b3.length ≤ 2000000) (h4 : Rd w A4 (b4.map bv) ∧ b4.length ≤ c4 ∧ decR b4 = (l, 0) ∧ m ≤ b4.length ∧ b4.length ≤ 2000000) :
    Four l m (w.alloc (.cells #[.slice A1 b1.length c1, .slice A2 b2.length c2, .slice A3 b3.length c3, .slice A4 b4.length c4] t)) ⟨w.heap.size, 0, none⟩ := by
  intro j hj
  have hr := Rd.lit w #[.slice A1 b1.length c1, .slice A2 b2.length c2, .slice A3 b3.length c3, .slice A4 b4.length c4] t
  have go : ∀ (B : Option Addr) (b : List UInt8) (c : Nat), (#[Value.slice A1 b1.length c1, .slice A2 b2.length c2, .slice A3 b3.length c3, .slice A4 b4.length c4] : Array Value).toList[j]? = some (.slice B b.length c) → (Rd w B (b.map bv) ∧ b.length ≤ c ∧ decR b = (l, 0) ∧ m ≤ b.length ∧ b.length ≤ 2000000) →
      ∃ B b c, (w.alloc (.cells #[.slice A1 b1.length c1, .slice A2 b2.length c2, .slice A3 b3.length c3, .slice A4 b4.length c4] t)).cell? ((⟨w.heap.size, 0, none⟩ : Addr).add j) = some (.slice B b.length c) ∧ Rd (w.alloc (.cells #[.slice A1 b1.length c1, .slice A2 b2.length c2, .slice A3 b3.length c3, .slice A4 b4.length c4] t)) B (b.map bv) ∧ b.length ≤ c ∧ decR b = (l, 0) ∧ m ≤ b.length ∧ b.length ≤ 2000000 := by
    intro B b c hx hy
    obtain ⟨ad, e, hc⟩ := hr j _ hx
    injection e with e
    subst e
    exact ⟨B, b, c, hc, hy.1.alloc _, hy.2⟩
  rcases j with _ | _ | _ | _ | j
  · exact go A1 b1 c1 rfl h1
  · exact go A2 b2 c2 rfl h2
  · exact go A3 b3 c3 rfl h3
  · exact go A4 b4 c4 rfl h4
  · omega

set_option maxHeartbeats 8000000 in
theorem pack_back (A : Option Addr) (n c : Nat) (l : List Int) (w : World) (hn : n = l.length) (hA : Rd w A (l.map iv)) (hm : n ≤ maxLen) :
    Calls Try.prog 5 #[.slice A n c] w fun e w' => e = .returned (.bool true) ∧ Below w.heap.size w w' := by
  subst hn
  unfold maxLen at hm
  have HKn := Lib.hid known16_any
  by_cases h4 : l.length ≤ 400
  case neg =>
    have hi : (400 : Int) < (l.length : Int) := by omega
    clear hA
    go_enter Try.func5, Try.ntmps5
    go_wp2
    go_ret
    exact ⟨rfl, Below.refl _ _⟩
  have hni : ¬ (400 : Int) < (l.length : Int) := by omega
  have hli : (l.length : Int) ≤ 400 := by omega
  have HA := Lib.hid hA
  have HM : Hid ((∀ j (hj : j < l.length), okP l[j] = true) → mayP l = true) := Lib.hid (fun h => by
    unfold mayP
    rw [decide_eq_true (by omega), Bool.true_and, List.all_eq_true]
    intro x hx
    obtain ⟨j, hj, rfl⟩ := List.mem_iff_getElem.1 hx
    exact h j hj)
  clear hA
  go_enter Try.func5, Try.ntmps5
  go_wp2
  go_loop [3] (fun i => ∃ k : Nat, k ≤ l.length ∧ i = .int .i64 (k : Int) ∧ ∀ j (hj : j < l.length), j < k → okP l[j] = true) (fun i => l.length - (intOf i).toNat)
  case atStart => exact ⟨0, Nat.zero_le _, rfl, fun j _ h => absurd h (by omega)⟩
  case round =>
    obtain ⟨k, hk, rfl, hno⟩ := hrel
    have Hno := Lib.hid hno
    by_cases hlt : k < l.length
    · have hki : (k : Int) < (l.length : Int) := by omega
      obtain ⟨ad, hB, hcell⟩ := rd_int HA.out hlt
      subst hB
      have HF : Hid (okP l[k] = true → ∀ j (hj : j < l.length), j < k + 1 → okP l[j] = true) := Lib.hid (fun h j hj hj2 => by
        rcases Nat.lt_succ_iff_lt_or_eq.1 hj2 with h3 | rfl
        · exact hno j hj h3
        · exact h)
      have hok : okP l[k] = decide (0 ≤ l[k] ∧ l[k] ≤ 1099511627776) := rfl
      clear hno
      generalize l[k] = x at *
      by_cases h0 : x < 0
      · have d0 : decide (x < 0) = true := decide_eq_true h0
        clear HF hok
        go_wp2_with fail
        refine (HKn.out w).mono ?_
        rintro e w5 ⟨rfl, hb⟩
        have Hb5 := Lib.hid hb
        clear hb
        go_wp2
        go_ret
        exact ⟨rfl, Hb5.out⟩
      · have d0 : decide (x < 0) = false := decide_eq_false h0
        by_cases h1 : 1099511627776 < x
        · have d1 : decide (1099511627776 < x) = true := decide_eq_true h1
          clear HF hok
          go_wp2_with fail
          refine (HKn.out w).mono ?_
          rintro e w5 ⟨rfl, hb⟩
          have Hb5 := Lib.hid hb
          clear hb
          go_wp2
          go_ret
          exact ⟨rfl, Hb5.out⟩
        · have d1 : decide (1099511627776 < x) = false := decide_eq_false h1
          have Hf := Lib.hid (HF.out (by rw [hok]; exact decide_eq_true (by omega)))
          clear HF hok
          go_wp2
          go_round
          case rel => exact ⟨k + 1, by omega, by go_num, Hf.out⟩
          case measure => simp [intOf]; omega
    · obtain rfl : k = l.length := by omega
      have hmay := HM.out (fun j hj => hno j hj hj)
      have hl5 : l.length ≤ 100000 := by omega
      have H1 := Lib.hid (fun (W : World) (hb : Below w.heap.size w W) => way_of hmay (bPlain_any A c l W (HA.out.ext hb)))
      have H2 := Lib.hid (fun (W : World) (hb : Below w.heap.size w W) => way_of hmay (bDelta_any A c l W (HA.out.ext hb)))
      have H3 := Lib.hid (fun (W : World) (hb : Below w.heap.size w W) => way_of hmay (bRuns_any A c l W (HA.out.ext hb)))
      have H4 := Lib.hid (fun (W : World) (hb : Below w.heap.size w W) => way_of hmay (bBest_any A c l W (HA.out.ext hb)))
      have G1 : Hid (WayP l (plainP l)) := Lib.hid (wayP_enc (w := 0) (by omega) hmay hl5)
      have G2 : Hid (WayP l (deltaP l)) := Lib.hid (wayP_enc (w := 1) (by omega) hmay hl5)
      have G3 : Hid (WayP l (runsB l)) := Lib.hid (wayP_enc (w := 2) (by omega) hmay hl5)
      have G4 : Hid (WayP l (bestP l)) := Lib.hid (wayP_best hmay hl5)
      unfold WayP at G1 G2 G3 G4
      unfold WayC at H1 H2 H3 H4
      generalize plainP l = b1 at *
      generalize deltaP l = b2 at *
      generalize runsB l = b3 at *
      generalize bestP l = b4 at *
      have Hb0 := Lib.hid (Below.refl w.heap.size w)
      clear hno Hno hmay HM
      go_wp2_with fail
      refine (H1.out w Hb0.out).mono ?_
      rintro e w1 ⟨A1, c1, rfl, hn, hcc, hb⟩
      have Hb1 := Lib.hid (ext_trans Hb0.out hb)
      have Hc1 := Lib.hid hn
      have Hl1 := Lib.hid hcc
      clear hn hcc hb H1
      go_wp2_with fail
      refine (H2.out w1 Hb1.out).mono ?_
      rintro e w2 ⟨A2, c2, rfl, hn, hcc, hb⟩
      have Hb2 := Lib.hid (ext_trans Hb1.out hb)
      have Hc1 := Lib.hid (Rd.ext Hc1.out hb)
      have Hc2 := Lib.hid hn
      have Hl2 := Lib.hid hcc
      clear hn hcc hb H2
      go_wp2_with fail
      refine (H3.out w2 Hb2.out).mono ?_
      rintro e w3 ⟨A3, c3, rfl, hn, hcc, hb⟩
      have Hb3 := Lib.hid (ext_trans Hb2.out hb)
      have Hc1 := Lib.hid (Rd.ext Hc1.out hb)
      have Hc2 := Lib.hid (Rd.ext Hc2.out hb)
      have Hc3 := Lib.hid hn
      have Hl3 := Lib.hid hcc
      clear hn hcc hb H3
      go_wp2_with fail
      refine (H4.out w3 Hb3.out).mono ?_
      rintro e w4 ⟨A4, c4, rfl, hn, hcc, hb⟩
      have Hb4 := Lib.hid (ext_trans Hb3.out hb)
      have Hc1 := Lib.hid (Rd.ext Hc1.out hb)
      have Hc2 := Lib.hid (Rd.ext Hc2.out hb)
      have Hc3 := Lib.hid (Rd.ext Hc3.out hb)
      have Hc4 := Lib.hid hn
      have Hl4 := Lib.hid hcc
      clear hn hcc hb H4
      have HFo := Lib.hid (four_lit (t := 23) (m := b4.length) ⟨Hc1.out, Hl1.out, G1.out⟩ ⟨Hc2.out, Hl2.out, G2.out⟩ ⟨Hc3.out, Hl3.out, G3.out⟩ ⟨Hc4.out, Hl4.out, G4.out⟩)
      have Hb5 : Hid (Below w.heap.size w (w4.alloc (.cells #[.slice A1 b1.length c1, .slice A2 b2.length c2, .slice A3 b3.length c3, .slice A4 b4.length c4] 23))) := Lib.hid (ext_alloc Hb4.out _)
      obtain ⟨b4n, hb4n⟩ : ∃ m, b4.length = m := ⟨_, rfl⟩
      rw [hb4n] at HFo
      have HFo2 : Hid (Four l b4n (w4.alloc (.cells #[.slice A1 b1.length c1, .slice A2 b2.length c2, .slice A3 b3.length c3, .slice A4 b4.length c4] 23)) ⟨w4.heap.size, 0, none⟩) := Lib.hid (by have := HFo.out; rw [← hb4n]; rw [← hb4n] at this; exact this)
      have Hq := Lib.hid hb4n
      clear hb4n HFo
      go_wp2
      go_loopw [13] (fun i wr => ∃ (k : Nat), k ≤ 4 ∧ i = .int .i64 (k : Int) ∧ Hid (Four l b4n wr ⟨w4.heap.size, 0, none⟩) ∧ Hid (Below w.heap.size w wr)) (fun i _ => 4 - (intOf i).toNat)
      case atStart => exact ⟨0, by omega, rfl, HFo2, Hb5⟩
      case round =>
        obtain ⟨k, hk, rfl, HFr, Hbr⟩ := hrel
        by_cases hlt : k < 4
        · have hki : (k : Int) < 4 := by omega
          obtain ⟨B, b, cb, hcell, hr, hcb, hd, hmb, hbl⟩ := HFr.out k hlt
          have HD := Lib.hid (read_back hd hbl B cb wr hr hcb)
          have hle : ¬ (b.length : Int) < (b4.length : Int) := by have := Hq.out; omega
          rw [Addr.add_mid, Nat.zero_add] at hcell
          have Hcell := Lib.hid hcell
          clear hr hcb hd hmb hbl
          go_wp2_with fail
          refine HD.out.mono ?_
          rintro e w6 ⟨B6, c6, rfl, hr6, hb6⟩
          have HS := Lib.hid (same_rows A c B6 c6 l w6 (HA.out.ext (ext_trans Hbr.out hb6)) hr6 (by omega))
          have Hb6 := Lib.hid hb6
          clear hr6 hb6 hcell
          go_wp2_with fail
          refine HS.out.mono ?_
          rintro e w7 ⟨rfl, hb7⟩
          have hcell := cell_only Hcell.out (Only.of_ext (S := fun _ => False) (ext_trans Hb6.out hb7)) (fun h => h)
          have Hb7 := Lib.hid (ext_trans Hb6.out hb7)
          clear hb7
          go_wp2
          go_roundw
          case rel => exact ⟨k + 1, by omega, by go_num, Lib.hid (HFr.out.ext Hb7.out), Lib.hid (ext_trans Hbr.out Hb7.out)⟩
          case measure => simp [intOf]; omega
        · obtain rfl : k = 4 := by omega
          go_wp2_with fail
          refine (HKn.out wr).mono ?_
          rintro e w6 ⟨rfl, hb6⟩
          have Hb6 := Lib.hid hb6
          clear hb6
          go_wp2
          go_ret
          exact ⟨rfl, ext_trans Hbr.out Hb6.out⟩

/-! ### as many alike ones as one likes -/
theorem rep_set (v : Int) (n k : Nat) (h : k < n) : (List.replicate k (iv v) ++ List.replicate (n - k) (iv 0)).set k (iv v) = List.replicate (k + 1) (iv v) ++ List.replicate (n - (k + 1)) (iv 0) := by
  have e : n - k = (n - (k + 1)) + 1 := by omega
  rw [List.set_append, if_neg (by simp), List.length_replicate, Nat.sub_self, e, List.replicate_succ, List.set_cons_zero, List.replicate_succ', List.append_assoc]
  rfl
set_option maxHeartbeats 8000000 in
theorem pack_runs (n v : Int) (w : World) (hn : isInt n) (hv : isInt v) :
    Calls Try.prog 6 #[.int .i64 n, .int .i64 v] w fun e w' => e = .returned (.bool true) ∧ Below w.heap.size w w' := by
  have HKn := Lib.hid known16_any
  obtain ⟨n1, n2⟩ := hn
  obtain ⟨v1, v2⟩ := hv
  by_cases h1 : n < 0
  · have d1 : decide (n < 0) = true := decide_eq_true h1
    go_enter Try.func6, Try.ntmps6
    go_wp2
    go_ret
    exact ⟨rfl, Below.refl _ _⟩
  have d1 : decide (n < 0) = false := decide_eq_false h1
  by_cases h2 : 40000 < n
  · have d2 : decide (40000 < n) = true := decide_eq_true h2
    go_enter Try.func6, Try.ntmps6
    go_wp2
    go_ret
    exact ⟨rfl, Below.refl _ _⟩
  have d2 : decide (40000 < n) = false := decide_eq_false h2
  by_cases h3 : v < 0
  · have d3 : decide (v < 0) = true := decide_eq_true h3
    go_enter Try.func6, Try.ntmps6
    go_wp2
    go_ret
    exact ⟨rfl, Below.refl _ _⟩
  have d3 : decide (v < 0) = false := decide_eq_false h3
  by_cases h4 : 1099511627776 < v
  · have d4 : decide (1099511627776 < v) = true := decide_eq_true h4
    go_enter Try.func6, Try.ntmps6
    go_wp2
    go_ret
    exact ⟨rfl, Below.refl _ _⟩
  have d4 : decide (1099511627776 < v) = false := decide_eq_false h4
  obtain ⟨m, rfl⟩ : ∃ m : Nat, n = (m : Int) := ⟨n.toNat, by omega⟩
  have hm4 : m ≤ 40000 := by omega
  have hmk := fun W => make_ints W m (by omega)
  rw [Nat.mul_one] at hmk
  have HR : Hid (RowO (w.alloc (.cells (madeCells #[.int .i64 0] m) 3)) 3 1 (some ⟨w.heap.size, 0, none⟩) m m (repR m 0 v)) := Lib.hid (row_made w m v (by omega))
  have HE : Hid (repR m m v = (List.replicate m v).map iv) := Lib.hid (by rw [repR_all, List.map_replicate])
  have HB : Hid (∀ W, Rd W (some ⟨w.heap.size, 0, none⟩) ((List.replicate m v).map iv) → Calls Try.prog 19 #[.slice (some ⟨w.heap.size, 0, none⟩) m m] W fun e w' => ∃ A' c', e = .returned (.tuple #[.slice A' (ansP (List.replicate m v) (bestP (List.replicate m v))).1.length c', .int .i64 (ansP (List.replicate m v) (bestP (List.replicate m v))).2]) ∧ New W w' A' c' (ansP (List.replicate m v) (bestP (List.replicate m v))).1 ∧ Below W.heap.size W w') := Lib.hid (fun W hW => by
    have h := bBest_any (some ⟨w.heap.size, 0, none⟩) m (List.replicate m v) W hW
    rw [List.length_replicate] at h
    exact h)
  have HS : Hid (∀ k, k < m → (repR m k v).set k (iv v) = repR m (k + 1) v) := Lib.hid (fun k hk => by unfold repR; exact rep_set v m k hk)
  have HLn : Hid (∀ k, k ≤ m → (repR m k v).length = m) := Lib.hid (fun k hk => repR_len m k v hk)
  obtain ⟨G, hG⟩ : ∃ G, w.heap.size = G := ⟨_, rfl⟩
  have HG := Lib.hid hG
  rw [hG] at HR HB
  have Hb1 : Hid (Below w.heap.size w (w.alloc (.cells (madeCells #[.int .i64 0] m) 3))) := Lib.hid (ext_alloc (Below.refl _ _) _)
  obtain ⟨W1, hW1⟩ : ∃ W1, W1 = w.alloc (.cells (madeCells #[.int .i64 0] m) 3) := ⟨_, rfl⟩
  have hmk2 : (Instr.makeSlice 22 (.int .i64 (m : Int)) (.int .i64 (m : Int))).run Try.prog w = .ok (.slice (some ⟨G, 0, none⟩) m m) W1 := by rw [hW1, ← hG]; exact hmk w
  rw [← hW1] at HR Hb1
  clear hW1 hmk hG
  go_enter Try.func6, Try.ntmps6
  go_wp2
  go_loopw [6] (fun i wr => ∃ (k : Nat), k ≤ m ∧ i = .int .i64 (k : Int) ∧ Hid (RowO wr 3 1 (some ⟨G, 0, none⟩) m m (repR m k v)) ∧ Hid (Below w.heap.size w wr)) (fun i _ => m - (intOf i).toNat)
  case atStart => exact ⟨0, Nat.zero_le _, rfl, HR, Hb1⟩
  case round =>
    obtain ⟨k, hk, rfl, HRr, Hbr⟩ := hrel
    by_cases hlt : k < m
    · have hki : (k : Int) < (m : Int) := by omega
      obtain ⟨ad, e, hcell⟩ := HRr.out.rd.at_ (k := k) (by rw [HLn.out k hk]; exact hlt)
      injection e with e
      subst e
      rw [Addr.add_mid] at hcell
      have hfr := HRr.out.free (0 + k)
      have hst := HRr.out.set k (by rw [HLn.out k hk]; exact hlt) (iv v)
      rw [HS.out k hlt] at hst
      have HR2 : Hid (RowO (wr.setCell ⟨G, 0 + k, none⟩ (.int .i64 v)) 3 1 (some ⟨G, 0, none⟩) m m (repR m (k + 1) v)) := Lib.hid hst
      have HB2 : Hid (Below w.heap.size w (wr.setCell ⟨G, 0 + k, none⟩ (.int .i64 v))) := Lib.hid (Hbr.out.setCell (p := ⟨G, 0 + k, none⟩) (Nat.le_of_eq HG.out) _)
      obtain ⟨y, hy⟩ : ∃ y, (repR m k v)[k]'(by rw [HLn.out k hk]; exact hlt) = y := ⟨_, rfl⟩
      rw [hy] at hcell
      rw [Nat.zero_add] at hcell hfr HR2 HB2
      clear hst hy
      go_wp2
      go_roundw
      case rel => exact ⟨k + 1, by omega, by go_num, HR2, HB2⟩
      case measure => simp [intOf]; omega
    · obtain rfl : k = m := by omega
      have HRd : Hid (Rd wr (some ⟨G, 0, none⟩) ((List.replicate k v).map iv)) := Lib.hid (by rw [← HE.out]; exact HRr.out.rd)
      have HB3 := Lib.hid (HB.out wr HRd.out)
      clear HB
      by_cases h5 : k ≤ 32768
      · have hng : ¬ (32768 : Int) < (k : Int) := by omega
        have hmy := may_rep v k h5 (by omega) (by omega)
        rw [ansP_of hmy] at HB3
        have hl12 := best_rep_len v k h5 (by omega) (by omega)
        have HD := Lib.hid (fun A c W hA hc => read_back (decR_some (dec_best hmy)) (by omega) A c W hA hc)
        have HX := Lib.hid (fun B d W hA hB => same_rows (some ⟨G, 0, none⟩) k B d (List.replicate k v) W hA hB (by rw [List.length_replicate]; omega))
        rw [List.length_replicate] at HD HX
        generalize bestP (List.replicate k v) = b at *
        generalize List.replicate k v = l at *
        have hle : (b.length : Int) ≤ 12 := by omega
        have hleb : decide ((b.length : Int) ≤ 12) = true := decide_eq_true hle
        clear hl12 hmy
        go_wp2_with fail
        refine HB3.out.mono ?_
        rintro e w6 ⟨A6, c6, rfl, hn6, hb6⟩
        have HD2 := Lib.hid (HD.out A6 c6 w6 hn6.rd (by have := Own.cap hn6; simpa using this))
        have Hb6 := Lib.hid hb6
        clear hn6 hb6 HD
        go_wp2_with fail
        refine HD2.out.mono ?_
        rintro e w7 ⟨B7, c7, rfl, hr7, hb7⟩
        have HX2 := Lib.hid (HX.out B7 c7 w7 (HRd.out.ext (ext_trans Hb6.out hb7)) hr7)
        have Hb7 := Lib.hid (ext_trans Hb6.out hb7)
        clear hr7 hb7 HX
        go_wp2_with fail
        refine HX2.out.mono ?_
        rintro e w8 ⟨rfl, hb8⟩
        have Hb8 := Lib.hid (ext_trans Hb7.out hb8)
        clear hb8
        go_wp2_with fail
        refine (HKn.out w8).mono ?_
        rintro e w9 ⟨rfl, hb9⟩
        have Hb9 := Lib.hid (ext_trans Hb8.out hb9)
        clear hb9
        go_wp2
        go_ret
        exact ⟨rfl, ext_trans Hbr.out Hb9.out⟩
      · have hg : (32768 : Int) < (k : Int) := by omega
        have hmy : mayP (List.replicate k v) = false := by
          unfold mayP
          rw [List.length_replicate, decide_eq_false h5]
          rfl
        rw [ansP_no hmy] at HB3
        clear hmy
        go_wp2_with fail
        refine HB3.out.mono ?_
        rintro e w6 ⟨A6, c6, rfl, hn6, hb6⟩
        have Hb6 := Lib.hid hb6
        clear hn6 hb6
        go_wp2_with fail
        refine (HKn.out w6).mono ?_
        rintro e w9 ⟨rfl, hb9⟩
        have Hb9 := Lib.hid (ext_trans Hb6.out hb9)
        clear hb9
        go_wp2
        go_ret
        exact ⟨rfl, ext_trans Hbr.out Hb9.out⟩

/-! ### numbers that rise -/
set_option maxHeartbeats 8000000 in
theorem pack_rises (f : Int) (A : Option Addr) (n c : Nat) (xs : List Int) (w : World) (hf : isInt f) (hn : n = xs.length) (hA : Rd w A (xs.map iv)) (hm : n ≤ maxLen) :
    Calls Try.prog 7 #[.int .i64 f, .slice A n c] w fun e w' => e = .returned (.bool true) ∧ Below w.heap.size w w' := by
  subst hn
  unfold maxLen at hm
  have HKn := Lib.hid known16_any
  obtain ⟨f1, f2⟩ := hf
  by_cases h1 : f < 0
  · have d1 : decide (f < 0) = true := decide_eq_true h1
    clear hA
    go_enter Try.func7, Try.ntmps7
    go_wp2
    go_ret
    exact ⟨rfl, Below.refl _ _⟩
  have d1 : decide (f < 0) = false := decide_eq_false h1
  by_cases h2 : 549755813888 < f
  · have d2 : decide (549755813888 < f) = true := decide_eq_true h2
    clear hA
    go_enter Try.func7, Try.ntmps7
    go_wp2
    go_ret
    exact ⟨rfl, Below.refl _ _⟩
  have d2 : decide (549755813888 < f) = false := decide_eq_false h2
  by_cases h3 : 300 < xs.length
  · have d3 : (300 : Int) < (xs.length : Int) := by omega
    clear hA
    go_enter Try.func7, Try.ntmps7
    go_wp2
    go_ret
    exact ⟨rfl, Below.refl _ _⟩
  have d3 : ¬ (300 : Int) < (xs.length : Int) := by omega
  have d4 : (xs.length : Int) ≤ 300 := by omega
  have HA := Lib.hid hA
  have HN0 : Hid (NewO w (w.alloc (.cells #[.int .i64 f] 3)) 3 1 (some ⟨w.heap.size, 0, none⟩) 1 1 ((riseTo f xs 0).map iv)) := Lib.hid ⟨RowO.lit w 3 1 1 #[.int .i64 f] rfl (by unfold maxLen; omega) rfl, ext_alloc (Below.refl _ _) _, fun k hk => by rw [inA_some] at hk; omega⟩
  have HL0 : Hid ((riseTo f xs 0).length = 1) := Lib.hid (riseTo_len f xs 0)
  clear hA
  go_enter Try.func7, Try.ntmps7
  go_wp2
  go_loopw [5, 6] (fun s i wr => ∃ (k : Nat) (L : List Int) (B : Option Addr) (cB : Nat), k ≤ xs.length ∧ i = .int .i64 (k : Int) ∧ s = .slice B (k + 1) cB ∧ Hid (L = riseTo f xs k) ∧ Hid (NewO w wr 3 1 B (k + 1) cB (L.map iv))) (fun _ i _ => xs.length - (intOf i).toNat)
  case atStart => exact ⟨0, riseTo f xs 0, some ⟨w.heap.size, 0, none⟩, 1, Nat.zero_le _, rfl, rfl, Lib.hid rfl, HN0⟩
  case round =>
    obtain ⟨k, L, B, cB, hk, rfl, rfl, HLL, HN⟩ := hrel
    by_cases hlt : k < xs.length
    · have hki : (k : Int) < (xs.length : Int) := by omega
      have hki1 : (k : Int) < (k : Int) + 1 := by omega
      have hll : L.length = k + 1 := by rw [HLL.out, riseTo_len]
      have hgk : L[k]'(by omega) = riseK f xs k := by
        have h := riseTo_get f xs k k (by omega)
        rw [← HLL.out, List.getElem?_eq_getElem (by omega)] at h
        injection h
      obtain ⟨ad1, e1, hcell1⟩ := rd_int HN.out.rd (k := k) (by omega)
      obtain ⟨g, o, rfl⟩ := HN.out.row.flat ad1 e1
      subst e1
      rw [Addr.add_mid, hgk] at hcell1
      obtain ⟨ad2, hB2, hcell2⟩ := rd_int (HA.out.ext HN.out.bel) hlt
      subst hB2
      have hbx := riseK_ok xs (f := f) (by omega) k
      have hlow := low5_ok xs[k]
      have Hnx : Hid (riseTo f xs (k + 1) = L ++ [riseK f xs k + low5 xs[k]]) := Lib.hid (by
        rw [riseTo_succ, HLL.out]
        rw [List.getD_eq_getElem?_getD, List.getElem?_eq_getElem hlt]
        rfl)
      have hlo : bits .and .i64 xs[k] 31 = low5 xs[k] := rfl
      have HC : Hid (∀ W, Below wr.heap.size wr W → W.cell? ⟨g, o + k, none⟩ = some (.int .i64 (riseK f xs k)) ∧ W.cell? (ad2.add k) = some (.int .i64 xs[k])) := Lib.hid (fun W hW => ⟨cell_only hcell1 (Only.of_ext (S := fun _ => False) hW) (fun h => h), cell_only hcell2 (Only.of_ext (S := fun _ => False) hW) (fun h => h)⟩)
      generalize low5 xs[k] = d at *
      generalize riseK f xs k = x at *
      generalize xs[k] = y at *
      have hwr : IntKind.i64.wrap (x + d) = x + d := IntWalk.i64_in _ (by omega)
      have Hgw : Hid (∀ (W w3 : World) (A3 : Option Addr) (c3 : Nat), Below wr.heap.size wr W → RowO w3 3 1 A3 (k + 1 + 1) c3 (L.map iv ++ [.int .i64 (x + d)]) → Only (inA (some ⟨g, o, none⟩)) W w3 → (∀ q, inA A3 q → inA (some ⟨g, o, none⟩) q ∨ (W.heap.size ≤ q ∧ q < w3.heap.size)) → NewO w w3 3 1 A3 (k + 1 + 1) c3 ((L ++ [x + d]).map iv)) := Lib.hid (fun W w3 A3 c3 hW hr ho hA3 => by
        rw [List.map_append]
        exact HN.out.grow hW hr ho hA3)
      have hm1 : k + 1 + 1 ≤ maxLen := by unfold maxLen; omega
      have hm2 : (k + 1 + 1) * 8 ≤ 140737488355328 := by omega
      have Hk := Lib.hid hll
      have hcell1 : wr.drew.cell? ⟨g, o + k, none⟩ = some (.int .i64 x) := hcell1
      have hcell2 : wr.drew.cell? (ad2.add k) = some (.int .i64 y) := hcell2
      clear hll hgk hbx
      go_wp2
      refine wp_region_held_drew (S := fun _ => True) (by kernel_rfl) ?_ (fun hHeld => ?_)
      · all_goals trivial
      refine wpAnyH_take (i := 0) (v := ?_) (take_list rfl) (by kernel_rfl) (by kernel_rfl) (by kernel_rfl) (fun _ _ _ h => h) (Or.inl ⟨by rfl, ?_⟩) (by assumption) ?_
      rotate_left
      · intro w hSw
        try dsimp only at hSw
        first | (go_simp; done) | (go_simp; with_reducible rfl)
      try simp only [Act.put, List.setIfInBounds_toArray, List.set_cons_zero, List.set_cons_succ]
      refine wpAnyH_take (i := 1) (v := ?_) (take_list rfl) (by kernel_rfl) (by kernel_rfl) (by kernel_rfl) (fun _ _ _ h => h) (Or.inl ⟨by rfl, ?_⟩) (by assumption) ?_
      rotate_left
      · intro w hSw
        try dsimp only at hSw
        first | (go_simp; done) | (go_simp; with_reducible rfl)
      try simp only [Act.put, List.setIfInBounds_toArray, List.set_cons_zero, List.set_cons_succ]
      refine wpAnyH_take (i := 2) (v := ?_) (take_list rfl) (by kernel_rfl) (by kernel_rfl) (by kernel_rfl) (fun _ _ _ h => h) (Or.inl ⟨by rfl, ?_⟩) (by assumption) ?_
      rotate_left
      · intro w hSw
        try dsimp only at hSw
        first | (go_simp; done) | (go_simp; with_reducible rfl)
      try simp only [Act.put, List.setIfInBounds_toArray, List.set_cons_zero, List.set_cons_succ]
      refine wpAnyH_take (i := 3) (v := ?_) (take_list rfl) (by kernel_rfl) (by kernel_rfl) (by kernel_rfl) (fun _ _ _ h => h) (Or.inl ⟨by rfl, ?_⟩) (by assumption) ?_
      rotate_left
      · intro w hSw
        try dsimp only at hSw
        first | (go_simp; done) | (go_simp; with_reducible rfl)
      try simp only [Act.put, List.setIfInBounds_toArray, List.set_cons_zero, List.set_cons_succ]
      refine wpAnyH_take (i := 5) (v := ?_) (take_list rfl) (by kernel_rfl) (by kernel_rfl) (by kernel_rfl) (fun _ _ _ h => h) (Or.inl ⟨by rfl, ?_⟩) (by assumption) ?_
      rotate_left
      · intro w hSw
        try dsimp only at hSw
        first | (go_simp; done) | (go_simp; with_reducible rfl)
      try simp only [Act.put, List.setIfInBounds_toArray, List.set_cons_zero, List.set_cons_succ]
      refine wpAnyH_take (i := 6) (v := ?_) (take_list rfl) (by kernel_rfl) (by kernel_rfl) (by kernel_rfl) (fun _ _ _ h => h) (Or.inl ⟨by rfl, ?_⟩) (by assumption) ?_
      rotate_left
      · intro w hSw
        try dsimp only at hSw
        first | (go_simp; done) | (go_simp; with_reducible rfl)
      try simp only [Act.put, List.setIfInBounds_toArray, List.set_cons_zero, List.set_cons_succ]
      refine wpAnyH_take (i := 7) (v := ?_) (take_list rfl) (by kernel_rfl) (by kernel_rfl) (by kernel_rfl) (fun _ _ _ h => h) (Or.inl ⟨by rfl, ?_⟩) (by assumption) ?_
      rotate_left
      · intro w hSw
        try dsimp only at hSw
        first | (go_simp; done) | (go_simp; with_reducible rfl)
      try simp only [Act.put, List.setIfInBounds_toArray, List.set_cons_zero, List.set_cons_succ]
      refine wpAnyH_ready (rs := [4, 8]) (by kernel_rfl) (by simp) ?_
      refine AllReadyH.cons (take_list rfl) (fun K hK => ?_) ?_
      · skip
        go_simp
        refine hK.out _ _ ?_ (fun hHeld => ?_)
        · try dsimp only
          all_goals trivial
        clear hK K
        refine wpAnyH_ready (rs := [8]) (by kernel_rfl) (by simp) ?_
        refine AllReadyH.cons (take_list rfl) (fun K hK => ?_) ?_
        · skip
          go_simp
          refine hK.out _ _ ?_ (fun hHeld => ?_)
          · try dsimp only
            all_goals trivial
          clear hK K
          refine wpAnyH_take (i := 9) (v := ?_) (take_list rfl) (by kernel_rfl) (by kernel_rfl) (by kernel_rfl) (fun _ _ _ h => h) (Or.inl ⟨by rfl, ?_⟩) (by assumption) ?_
          rotate_left
          · intro w hSw
            try dsimp only at hSw
            first | (go_simp; done) | (go_simp; with_reducible rfl)
          try simp only [Act.put, List.setIfInBounds_toArray, List.set_cons_zero, List.set_cons_succ]
          refine wpAnyH_take (i := 10) (v := ?_) (take_list rfl) (by kernel_rfl) (by kernel_rfl) (by kernel_rfl) (fun _ _ _ h => h) (Or.inl ⟨by rfl, ?_⟩) (by assumption) ?_
          rotate_left
          · intro w hSw
            try dsimp only at hSw
            first | (go_simp; done) | (go_simp; with_reducible rfl)
          try simp only [Act.put, List.setIfInBounds_toArray, List.set_cons_zero, List.set_cons_succ]
          refine wpAnyH_ready (rs := [11]) (by kernel_rfl) (by simp) ?_
          refine AllReadyH.cons (take_list rfl) (fun K hK => ?_) ?_
          · skip
            go_simp
            refine hK.out _ _ ?_ (fun hHeld => ?_)
            · try dsimp only
              all_goals trivial
            clear hK K
            refine wpAnyH_ready (rs := [12]) (by kernel_rfl) (by simp) ?_
            refine AllReadyH.cons (take_list rfl) (fun K hK => ?_) ?_
            · skip
              refine step_appO _ rfl (.tmp 30) (.tmp 41) _ rfl 3 _ 1 8 Try.underlying22 info_int rfl (some ⟨g, o, none⟩) (k + 1) cB (L.map iv) rfl (HN.out.row.ext (by repeat (first | exact Below.refl _ _ | apply ext_drew | apply ext_drewN | apply ext_alloc))) (some ⟨_, 0, none⟩) 1 1 [.int .i64 (x + d)] rfl rfl (Rd.lit_at _ #[.int .i64 (x + d)] _ (by first | rfl | simp)) (by intro u hu; simp at hu; subst hu; rfl) (by intro h; cases h) hm1 hm2 ?_
              intro A3 c3 w3 hr3 ho3 hA3
              have HN3 := Lib.hid (Hgw.out _ w3 A3 c3 (by repeat (first | exact Below.refl _ _ | apply ext_drew | apply ext_drewN | apply ext_alloc)) hr3 ho3 hA3)
              clear hr3 ho3 hA3
              refine hK.out _ _ ?_ (fun hHeld => ?_)
              · try dsimp only
                all_goals trivial
              clear hK K
              refine wpAnyH_take (i := 13) (v := ?_) (take_list rfl) (by kernel_rfl) (by kernel_rfl) (by kernel_rfl) (fun _ _ _ h => h) (Or.inl ⟨by rfl, ?_⟩) (by assumption) ?_
              rotate_left
              · intro w hSw
                try dsimp only at hSw
                first | (go_simp; done) | (go_simp; with_reducible rfl)
              try simp only [Act.put, List.setIfInBounds_toArray, List.set_cons_zero, List.set_cons_succ]
              refine wpAnyH_done (by kernel_rfl) ?_ _
              go_wp2
              go_roundw
              case rel => exact ⟨k + 1, L ++ [x + d], A3, c3, by omega, by go_num, rfl, Lib.hid Hnx.out.symm, HN3⟩
              case measure => simp [intOf]; omega
            exact AllReadyH.nil
          exact AllReadyH.nil
        exact AllReadyH.nil
      refine AllReadyH.cons (take_list rfl) (fun K hK => ?_) ?_
      · skip
        go_simp
        refine hK.out _ _ ?_ (fun hHeld => ?_)
        · try dsimp only
          all_goals trivial
        clear hK K
        refine wpAnyH_take (i := 9) (v := ?_) (take_list rfl) (by kernel_rfl) (by kernel_rfl) (by kernel_rfl) (fun _ _ _ h => h) (Or.inl ⟨by rfl, ?_⟩) (by assumption) ?_
        rotate_left
        · intro w hSw
          try dsimp only at hSw
          first | (go_simp; done) | (go_simp; with_reducible rfl)
        try simp only [Act.put, List.setIfInBounds_toArray, List.set_cons_zero, List.set_cons_succ]
        refine wpAnyH_ready (rs := [4]) (by kernel_rfl) (by simp) ?_
        refine AllReadyH.cons (take_list rfl) (fun K hK => ?_) ?_
        · skip
          go_simp
          refine hK.out _ _ ?_ (fun hHeld => ?_)
          · try dsimp only
            all_goals trivial
          clear hK K
          refine wpAnyH_take (i := 10) (v := ?_) (take_list rfl) (by kernel_rfl) (by kernel_rfl) (by kernel_rfl) (fun _ _ _ h => h) (Or.inl ⟨by rfl, ?_⟩) (by assumption) ?_
          rotate_left
          · intro w hSw
            try dsimp only at hSw
            first | (go_simp; done) | (go_simp; with_reducible rfl)
          try simp only [Act.put, List.setIfInBounds_toArray, List.set_cons_zero, List.set_cons_succ]
          refine wpAnyH_ready (rs := [11]) (by kernel_rfl) (by simp) ?_
          refine AllReadyH.cons (take_list rfl) (fun K hK => ?_) ?_
          · skip
            go_simp
            refine hK.out _ _ ?_ (fun hHeld => ?_)
            · try dsimp only
              all_goals trivial
            clear hK K
            refine wpAnyH_ready (rs := [12]) (by kernel_rfl) (by simp) ?_
            refine AllReadyH.cons (take_list rfl) (fun K hK => ?_) ?_
            · skip
              refine step_appO _ rfl (.tmp 30) (.tmp 41) _ rfl 3 _ 1 8 Try.underlying22 info_int rfl (some ⟨g, o, none⟩) (k + 1) cB (L.map iv) rfl (HN.out.row.ext (by repeat (first | exact Below.refl _ _ | apply ext_drew | apply ext_drewN | apply ext_alloc))) (some ⟨_, 0, none⟩) 1 1 [.int .i64 (x + d)] rfl rfl (Rd.lit_at _ #[.int .i64 (x + d)] _ (by first | rfl | simp)) (by intro u hu; simp at hu; subst hu; rfl) (by intro h; cases h) hm1 hm2 ?_
              intro A3 c3 w3 hr3 ho3 hA3
              have HN3 := Lib.hid (Hgw.out _ w3 A3 c3 (by repeat (first | exact Below.refl _ _ | apply ext_drew | apply ext_drewN | apply ext_alloc)) hr3 ho3 hA3)
              clear hr3 ho3 hA3
              refine hK.out _ _ ?_ (fun hHeld => ?_)
              · try dsimp only
                all_goals trivial
              clear hK K
              refine wpAnyH_take (i := 13) (v := ?_) (take_list rfl) (by kernel_rfl) (by kernel_rfl) (by kernel_rfl) (fun _ _ _ h => h) (Or.inl ⟨by rfl, ?_⟩) (by assumption) ?_
              rotate_left
              · intro w hSw
                try dsimp only at hSw
                first | (go_simp; done) | (go_simp; with_reducible rfl)
              try simp only [Act.put, List.setIfInBounds_toArray, List.set_cons_zero, List.set_cons_succ]
              refine wpAnyH_done (by kernel_rfl) ?_ _
              go_wp2
              go_roundw
              case rel => exact ⟨k + 1, L ++ [x + d], A3, c3, by omega, by go_num, rfl, Lib.hid Hnx.out.symm, HN3⟩
              case measure => simp [intOf]; omega
            exact AllReadyH.nil
          exact AllReadyH.nil
        exact AllReadyH.nil
      exact AllReadyH.nil
    · obtain rfl : k = xs.length := by omega
      have hmy := may_rise xs (f := f) (k := xs.length) (by omega) (by omega) (by omega)
      have hbl := best_rise_len xs (f := f) (n := xs.length) (by omega) (by omega) (by omega)
      have hll : L.length = xs.length + 1 := by rw [HLL.out, riseTo_len]
      rw [← HLL.out] at hmy hbl
      have HB3 := Lib.hid (way_of hmy (bBest_any B cB L wr HN.out.rd))
      have HD := Lib.hid (fun A c W hA hc => read_back (decR_some (dec_best hmy)) (by omega) A c W hA hc)
      have HX := Lib.hid (fun D d W hA hB => same_rows B cB D d L W hA hB (by omega))
      rw [hll] at HB3 HD HX hbl
      unfold WayC at HB3
      generalize bestP L = b at *
      have hle : (b.length : Int) ≤ 10 + ((xs.length + 1 : Nat) : Int) := by omega
      have hle2 : (b.length : Int) ≤ 10 + ((xs.length : Int) + 1) := by omega
      have hwl : IntKind.i64.wrap (10 + ((xs.length + 1 : Nat) : Int)) = 10 + ((xs.length + 1 : Nat) : Int) := IntWalk.i64_in _ (by omega)
      clear hll hmy hbl
      go_wp2_with fail
      refine HB3.out.mono ?_
      rintro e w6 ⟨A6, c6, rfl, hr6, hc6, hb6⟩
      have HD2 := Lib.hid (HD.out A6 c6 w6 hr6 hc6)
      have Hb6 := Lib.hid hb6
      clear hr6 hc6 hb6 HD
      go_wp2_with fail
      refine HD2.out.mono ?_
      rintro e w7 ⟨B7, c7, rfl, hr7, hb7⟩
      have HX2 := Lib.hid (HX.out B7 c7 w7 (HN.out.rd.ext (ext_trans Hb6.out hb7)) hr7)
      have Hb7 := Lib.hid (ext_trans Hb6.out hb7)
      clear hr7 hb7 HX
      go_wp2_with fail
      refine HX2.out.mono ?_
      rintro e w8 ⟨rfl, hb8⟩
      have Hb8 := Lib.hid (ext_trans Hb7.out hb8)
      clear hb8
      go_wp2_with fail
      refine (HKn.out w8).mono ?_
      rintro e w9 ⟨rfl, hb9⟩
      have Hb9 := Lib.hid (ext_trans Hb8.out hb9)
      clear hb9
      go_wp2
      go_ret
      exact ⟨rfl, ext_trans HN.out.bel Hb9.out⟩
end Go.Proofs.Ythceajadgjnnmaa
