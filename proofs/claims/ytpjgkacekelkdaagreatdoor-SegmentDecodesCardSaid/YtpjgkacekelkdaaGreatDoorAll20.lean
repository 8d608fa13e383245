/-
  Texts of this claim, joined (part 20): contracts and lemmas that the last text goes by. No statement of the seat is proved here.
-/
import Derived.Test.YtpjgkacekelkdaaGreatDoorAll19
import Derived.Test.YtpjgkacekelkdaaGreatDoorAll6
import Derived.Test.YtpjgkacekelkdaaGreatDoorAll3
import Derived.Test.YtpjgkacekelkdaaGreatDoorAll16
set_option linter.unusedVariables false
set_option linter.unusedSimpArgs false
/-
  Decode (reference). No statement of the seat is proved here.
-/
namespace Go.Proofs.YtpjgkacekelkdaaGreatDoor
open Go Go.RowKit
set_option maxRecDepth 100000

theorem ne_strP {xs ys : List UInt8} (h : xs ≠ ys) : ((⟨xs.toArray⟩ : ByteArray).toList == (⟨ys.toArray⟩ : ByteArray).toList) = false := by
  rw [beq_eq_false_iff_ne, ByteArray.toList_mk, ByteArray.toList_mk]
  exact h
theorem rrK_len (l : List Int) : ∀ k o, rrK l k = some o → o.length ≤ 32768
  | 0, o, h => by injection h with h; subst h; simp
  | k + 1, o, h => by
    rw [rrK] at h
    split at h
    · cases h
    · rename_i q hq
      split at h
      · cases h
      · rename_i hc
        injection h with h
        subst h
        rw [List.length_append, List.length_replicate]
        have := rrK_len l k q hq
        omega
theorem rrA_len (l : List Int) : (rrA l).1.length ≤ 32768 := by
  unfold rrA
  cases h : rrP l with
  | none => simp
  | some o => exact rrK_len l _ o h
theorem stNum_shrink {bs : List UInt8} (h : bs ≠ []) : (stNum bs false).2.1.length + 1 ≤ bs.length := by
  have hl := List.length_pos_iff.2 h
  rcases hR : num? bs with _ | ⟨n, k⟩
  · have e : stNum bs false = (0, [], true) := by simp [stNum, hR, resN, restOf, badOf]
    rw [e]
    simp
    omega
  · have e : stNum bs false = (n, bs.drop k, false) := by simp [stNum, hR, resN, restOf, badOf]
    obtain ⟨h1, h2, h3⟩ := num_bounds hR
    rw [e]
    simp
    omega
theorem stNum_bad_nil {bs : List UInt8} (h : (stNum bs false).2.2 = true) : (stNum bs false).2.1 = [] := by
  rcases hR : num? bs with _ | ⟨n, k⟩
  · simp [stNum, hR, resN, restOf, badOf]
  · simp [stNum, hR, resN, restOf, badOf] at h
/-- what the loop still takes, with what it has -/
structure Rkg (p : List UInt8) (b2 : List UInt8) (bad2 : Bool) (m : Nat) (acc : List Nat) (rest : List UInt8) (bad : Bool) : Prop where
  all : (acc ++ (takeA m rest bad).1, (takeA m rest bad).2) = takeA p.length b2 bad2
  fuel : rest.length ≤ m
  le : bad = false → acc.length + rest.length ≤ p.length
  le1 : acc.length ≤ p.length + 1
  each : ∀ v ∈ acc, v ≤ 4611686018427387904
theorem Rkg.step {p b2 : List UInt8} {bad2 : Bool} {m : Nat} {acc : List Nat} {rest : List UInt8} (h : Rkg p b2 bad2 (m + 1) acc rest false) (hr : rest ≠ []) : Rkg p b2 bad2 m (acc ++ [(stNum rest false).1]) (stNum rest false).2.1 (stNum rest false).2.2 := by
  have h1 := stNum_shrink hr
  have h2 := h.fuel
  have h3 := h.le rfl
  refine ⟨?_, by omega, fun _ => by rw [List.length_append]; simp; omega, by rw [List.length_append]; simp; omega, fun v hv => ?_⟩
  · rw [← h.all, takeA_succ m hr, List.append_assoc]; rfl
  · rcases List.mem_append.1 hv with hv | hv
    · exact h.each v hv
    · simp at hv; rw [hv]; exact stNum_le _ _
theorem Rkg.end_ {p b2 : List UInt8} {bad2 : Bool} {m : Nat} {acc : List Nat} {rest : List UInt8} {bad : Bool} (h : Rkg p b2 bad2 m acc rest bad) (he : rest = []) : takeA p.length b2 bad2 = (acc, [], bad) := by
  have h1 := h.all
  subst he
  rw [takeA_end m (.inr rfl), List.append_nil] at h1
  exact h1.symm
theorem decR_none {p : List UInt8} (h : decP p = none) : decR p = ([], 2) := by unfold decR; rw [h]
theorem decR_bad {p : List UInt8} {ns : List Nat} (hw : (stNum p false).1 ≤ 2) (ht : takeA p.length (stNum (stNum p false).2.1 (stNum p false).2.2).2.1 (stNum (stNum p false).2.1 (stNum p false).2.2).2.2 = (ns, [], true)) : decR p = ([], 2) := by
  have h := dec_rrd (Nat.le_refl _) hw ht (o := _) rfl
  rw [if_pos rfl] at h
  exact decR_none h
theorem decR_o {p : List UInt8} {ns : List Nat} (hw : (stNum p false).1 ≤ 2) (ht : takeA p.length (stNum (stNum p false).2.1 (stNum p false).2.2).2.1 (stNum (stNum p false).2.1 (stNum p false).2.2).2.2 = (ns, [], false)) :
    (rrdP (stNum p false).1 (intsN ns) = none → decR p = ([], 2)) ∧ (∀ l, rrdP (stNum p false).1 (intsN ns) = some l → decR p = chkP (encP (stNum p false).1) p l) := by
  constructor
  · intro ho
    have h := dec_rrd (Nat.le_refl _) hw ht ho
    rw [if_neg (by simp)] at h
    exact decR_none h
  · intro l ho
    have h := dec_rrd (Nat.le_refl _) hw ht ho
    rw [if_neg (by simp)] at h
    unfold decR chkP
    rw [h]
    simp only
    split
    · rename_i hx
      split at hx
      · rename_i hy
        injection hx with hx
        rw [if_pos hy, hx]
      · cases hx
    · rename_i hx
      split at hx
      · cases hx
      · rename_i hy
        rw [if_neg hy]
theorem chk_cases (enc : List Int → List UInt8) (p : List UInt8) (l : List Int) : ((ansP l (enc l)).2 = 1 ∧ chkP enc p l = ([], 2)) ∨ ((ansP l (enc l)).2 = 0 ∧ (ansP l (enc l)).1 ≠ p ∧ chkP enc p l = ([], 2)) ∨ ((ansP l (enc l)).2 = 0 ∧ (ansP l (enc l)).1 = p ∧ chkP enc p l = (l, 0)) := by
  unfold ansP chkP
  by_cases h : mayP l = true
  · rw [if_pos h]
    by_cases he : enc l = p
    · exact .inr (.inr ⟨rfl, he, by rw [if_pos ⟨h, he⟩]⟩)
    · exact .inr (.inl ⟨rfl, he, by rw [if_neg (fun hx => he hx.2)]⟩)
  · rw [if_neg h]
    exact .inl ⟨rfl, by rw [if_neg (fun hx => h hx.1)]⟩
def sLen : Value → Nat | .slice _ n _ => n | _ => 0

set_option maxHeartbeats 8000000 in
theorem rdecode_any (p : List UInt8) (A : Option Addr) (ca : Nat) (w : World) (hA : Rd w A (p.map bv)) (hc : p.length ≤ ca) (hp : p.length ≤ 1000000) :
    Calls Tryz.prog 41 #[.slice A p.length ca] w fun e w' => ∃ B' c', e = .returned (.tuple #[.slice B' (decR p).1.length c', .int .i64 (decR p).2]) ∧ Rd w' B' ((decR p).1.map iv) ∧ Below w.heap.size w w' := by
  have HWay : Hid (2 < (stNum p false).1 → decR p = ([], 2)) := Lib.hid decR_way
  have HBd : Hid (∀ ns, (stNum p false).1 ≤ 2 → takeA p.length (stNum (stNum p false).2.1 (stNum p false).2.2).2.1 (stNum (stNum p false).2.1 (stNum p false).2.2).2.2 = (ns, [], true) → decR p = ([], 2)) := Lib.hid (fun ns => decR_bad)
  have HGd : Hid (∀ ns, (stNum p false).1 ≤ 2 → takeA p.length (stNum (stNum p false).2.1 (stNum p false).2.2).2.1 (stNum (stNum p false).2.1 (stNum p false).2.2).2.2 = (ns, [], false) → (rrdP (stNum p false).1 (intsN ns) = none → decR p = ([], 2)) ∧ (∀ l, rrdP (stNum p false).1 (intsN ns) = some l → decR p = chkP (encP (stNum p false).1) p l)) := Lib.hid (fun ns => decR_o)
  generalize decR p = R at *
  have HA := Lib.hid hA
  obtain ⟨w2, hw2⟩ : ∃ w2, w2 = w.alloc (.cells #[.slice A p.length ca, .bool false] 83) := ⟨_, rfl⟩
  have Hb2 : Hid (Below w.heap.size w w2) := Lib.hid (by rw [hw2]; exact ext_alloc (Below.refl _ _) _)
  have HR2 : Hid (RRd w2 (fun k => k < w.heap.size ∨ k = w.heap.size) w.heap.size p false) := Lib.hid (by
    refine ⟨.inr rfl, (fun h => by cases h), A, ca, ?_, hA.ext Hb2.out, fun ad e hne => ?_, hc⟩
    · rw [hw2]; exact Blk.new _ _ _
    · obtain ⟨ad', e', hcell⟩ := hA.at_ (k := 0) (by have := List.length_pos_iff.2 hne; simpa using this)
      rw [e] at e'; injection e' with e'; subst e'
      have hl := World.block_lt_of_cell? w _ hcell
      rw [block_add] at hl
      exact ⟨.inl hl, by omega⟩)
  have Hw2 := Lib.hid hw2
  obtain ⟨g, hg⟩ : ∃ g, w.heap.size = g := ⟨_, rfl⟩
  have h1l := stNum_len p false
  clear hw2 hA
  go_enter Tryz.func41, Tryz.ntmps41
  go_wp2_with fail
  rw [← Hw2.out]
  rw [hg] at HR2
  have Hg := Lib.hid hg
  clear hg
  refine (refnum_st _ g p false w2 HR2.out (by omega)).mono ?_
  rintro e w3 ⟨rfl, hr3, ho3⟩
  generalize stNum p false = q1 at *
  obtain ⟨way, b1, bad1⟩ := q1
  simp only at HWay HBd HGd hr3 h1l ⊢
  have Hr3 := Lib.hid hr3
  have Ho3 := Lib.hid ho3
  have h2l := stNum_len b1 bad1
  clear hr3 ho3
  go_wp2_with fail
  refine (refnum_st _ g b1 bad1 w3 Hr3.out (by omega)).mono ?_
  rintro e w5 ⟨rfl, hr5, ho5⟩
  generalize stNum b1 bad1 = q2 at *
  obtain ⟨cnt, b2, bad2⟩ := q2
  simp only at HBd HGd hr5 h2l ⊢
  have Hr5 := Lib.hid hr5
  have Hb5 : Hid (Below w.heap.size w w5) := Lib.hid (Hb2.out.trans ((Ho3.out.trans ho5 (fun _ _ h => h)).below (fun i hi => by have := Hg.out; omega) Hb2.out.size))
  have Hgl : Hid (g < w5.heap.size) := Lib.hid hr5.lt
  have hcn : ¬ ((cnt : Int) < 0) := by omega
  have hcd : decide ((cnt : Int) < 0) = false := decide_eq_false hcn
  clear hr5 ho5
  go_wp2
  go_loopw [7] (fun s wr => ∃ (m : Nat) (acc : List Nat) (rest : List UInt8) (bad : Bool) (A1 : Option Addr) (c1 : Nat), s = .slice A1 acc.length c1 ∧ Hid (Rkg p b2 bad2 m acc rest bad) ∧ RRd wr (fun k => k < g ∨ k = g) g rest bad ∧ Fr w5 wr A1 c1 (intsN acc) ∧ Only (fun k => k = g) w5 wr) (fun s _ => p.length + 2 - sLen s)
  case atStart => exact ⟨p.length, [], b2, bad2, none, 0, rfl, Lib.hid ⟨by rw [List.nil_append], by omega, fun _ => by simp; omega, by simp, by simp⟩, Hr5.out, Fr.start _ _, Only.refl _ _⟩
  case round =>
    obtain ⟨m, acc, rest, bad, A1, c1, rfl, Hrd, hr, hS, ho⟩ := hrel
    have Hr := Lib.hid hr
    have HS := Lib.hid hS
    have Ho := Lib.hid ho
    obtain ⟨_, hnil, Ar, cr, hblk, _, _, _⟩ := hr
    have hc0 := hblk.cell 0
    have hc1 := hblk.cell 1
    simp only [List.getElem?_toArray, List.getElem?_cons_zero, List.getElem?_cons_succ] at hc0 hc1
    have HBk := Lib.hid hblk
    have Hbw : Hid (Below w.heap.size w wr) := Lib.hid (Hb5.out.trans (ho.below (fun i hi => by have := Hg.out; omega) Hb5.out.size))
    clear hS ho hblk
    cases bad with
    | true =>
      have Hend := Lib.hid (Hrd.out.end_ (hnil rfl))
      clear hnil
      rcases Nat.lt_or_ge 2 way with h2 | h2
      · have HR := Lib.hid (HWay.out h2)
        clear HWay HBd HGd
        go_wp2
        go_ret2
        rw [HR.out]
        first | exact ⟨none, 0, rfl, Rd.nil _ _, Hbw.out⟩ | exact ⟨none, ⟨0, rfl⟩, Rd.nil _ _, Hbw.out⟩
      · have HR := Lib.hid (HBd.out _ h2 Hend.out)
        clear HWay HBd HGd
        go_wp2
        go_ret2
        rw [HR.out]
        first | exact ⟨none, 0, rfl, Rd.nil _ _, Hbw.out⟩ | exact ⟨none, ⟨0, rfl⟩, Rd.nil _ _, Hbw.out⟩
    | false =>
      by_cases hne : rest = []
      · subst hne
        have Hend := Lib.hid (Hrd.out.end_ rfl)
        have Hev : Hid (∀ v ∈ intsN acc, 0 ≤ v ∧ v ≤ 4611686018427387904) := Lib.hid (fun v hv => by
          obtain ⟨x, hx, rfl⟩ := List.mem_map.1 hv
          have := Hrd.out.each x hx
          omega)
        have Hal : Hid ((intsN acc).length ≤ 1000001) := Lib.hid (by rw [intsN_length]; have := Hrd.out.le1; omega)
        have hrow := HS.out.rd
        have Hlen := Lib.hid (intsN_length acc)
        have hq : acc.length = (intsN acc).length := (intsN_length acc).symm
        clear hnil
        rcases Nat.lt_or_ge 2 way with h2 | h2
        · have HR := Lib.hid (HWay.out h2)
          have h2i : (2 : Int) < (way : Int) := by omega
          have h2d : decide ((2 : Int) < (way : Int)) = true := decide_eq_true h2i
          clear HWay HBd HGd hrow hq
          go_wp2
          go_ret2
          rw [HR.out]
          first | exact ⟨none, 0, rfl, Rd.nil _ _, Hbw.out⟩ | exact ⟨none, ⟨0, rfl⟩, Rd.nil _ _, Hbw.out⟩
        · have HG := Lib.hid (HGd.out _ h2 Hend.out)
          clear HWay HBd HGd
          rw [hq]
          generalize intsN acc = L at *
          clear hq Hlen
          obtain rfl | rfl | rfl : way = 0 ∨ way = 1 ∨ way = 2 := by omega
          · have HR : Hid (R = chkP plainP p L) := Lib.hid (HG.out.2 L rfl)
            have HE := Lib.hid (rplain_any A1 c1 L wr hrow (by have := Hal.out; omega))
            have HrL : Hid (Rd wr A1 (L.map iv)) := Lib.hid hrow
            clear hrow HG
            have hcs := chk_cases plainP p L
            rw [← HR.out] at hcs
            generalize ansP L (plainP L) = a at *
            obtain ⟨q, er⟩ := a
            simp only at HE hcs
            clear HR
            go_wp2_with fail
            refine HE.out.mono ?_
            rintro e w7 ⟨A7, c7, rfl, hn7, hb7⟩
            have Hb7 := Lib.hid (ext_trans Hbw.out hb7)
            have HrL7 := Lib.hid (HrL.out.ext hb7)
            rcases hcs with ⟨rfl, hR⟩ | ⟨rfl, hqp, hR⟩ | ⟨rfl, hqp, hR⟩
            · have HRR := Lib.hid hR
              clear hR hn7 hb7 HE
              go_wp2
              go_ret2
              rw [HRR.out]
              exact ⟨none, 0, rfl, Rd.nil _ _, Hb7.out⟩
            · have HRR := Lib.hid hR
              have hcv1 := conv_bytes w7 A7 q.length c7 q rfl hn7.rd
              have hcv2 := conv_bytes w7 A p.length ca p rfl (HA.out.ext Hb7.out)
              have hne2 : ((⟨q.toArray⟩ : ByteArray).toList == (⟨p.toArray⟩ : ByteArray).toList) = false := ne_strP hqp
              obtain ⟨Z, hZ⟩ : ∃ Z : ByteArray, (⟨q.toArray⟩ : ByteArray) = Z := ⟨_, rfl⟩
              obtain ⟨Y, hY'⟩ : ∃ Z : ByteArray, (⟨p.toArray⟩ : ByteArray) = Z := ⟨_, rfl⟩
              rw [hZ] at hcv1 hne2
              rw [hY'] at hcv2 hne2
              clear hZ hY' hqp hR hn7 hb7 HE
              go_wp2
              go_ret2
              rw [HRR.out]
              exact ⟨none, 0, rfl, Rd.nil _ _, Hb7.out⟩
            · have HRR := Lib.hid hR
              subst hqp
              have hcv1 := conv_bytes w7 A7 q.length c7 q rfl hn7.rd
              have hcv2 := conv_bytes w7 A q.length ca q rfl (HA.out.ext Hb7.out)
              obtain ⟨Z, hZ⟩ : ∃ Z : ByteArray, (⟨q.toArray⟩ : ByteArray) = Z := ⟨_, rfl⟩
              rw [hZ] at hcv1 hcv2
              clear hZ hR hn7 hb7 HE
              go_wp2
              go_ret2
              rw [HRR.out]
              exact ⟨A1, c1, rfl, HrL7.out, Hb7.out⟩
          · have HR : Hid (R = chkP deltaP p (rdel L)) := Lib.hid (HG.out.2 (rdel L) rfl)
            have HDl := Lib.hid (rdeltas_any A1 c1 L wr hrow Hev.out (by have := Hal.out; omega))
            have hdl : (rdel L).length ≤ 1099511627776 := by
              have h1 := addedTo_len L L.length
              have := Hal.out
              unfold rdel
              split
              · show (addedTo L L.length).length ≤ _
                omega
              · simp
            generalize rdel L = M at *
            clear hrow HG
            go_wp2_with fail
            refine HDl.out.mono ?_
            rintro e wd ⟨A2, c2, rfl, hN2⟩
            have HE := Lib.hid (rdelta_any A2 c2 M wd hN2.rd hdl)
            have HrL : Hid (Rd wd A2 (M.map iv)) := Lib.hid hN2.rd
            have Hbw2 := Lib.hid (ext_trans Hbw.out hN2.bel)
            have hc1d : wd.cell? ⟨g, 1, none⟩ = some (.bool false) := cell_only hc1 (Only.of_ext (S := fun _ => False) hN2.bel) (fun h => h)
            clear hN2 HDl hdl
            have hcs := chk_cases deltaP p M
            rw [← HR.out] at hcs
            generalize ansP M (deltaP M) = a at *
            obtain ⟨q, er⟩ := a
            simp only at HE hcs
            clear HR
            go_wp2_with fail
            refine HE.out.mono ?_
            rintro e w7 ⟨A7, c7, rfl, hn7, hb7⟩
            have Hb7 := Lib.hid (ext_trans Hbw2.out hb7)
            have HrL7 := Lib.hid (HrL.out.ext hb7)
            rcases hcs with ⟨rfl, hR⟩ | ⟨rfl, hqp, hR⟩ | ⟨rfl, hqp, hR⟩
            · have HRR := Lib.hid hR
              clear hR hn7 hb7 HE
              go_wp2
              go_ret2
              rw [HRR.out]
              exact ⟨none, 0, rfl, Rd.nil _ _, Hb7.out⟩
            · have HRR := Lib.hid hR
              have hcv1 := conv_bytes w7 A7 q.length c7 q rfl hn7.rd
              have hcv2 := conv_bytes w7 A p.length ca p rfl (HA.out.ext Hb7.out)
              have hne2 : ((⟨q.toArray⟩ : ByteArray).toList == (⟨p.toArray⟩ : ByteArray).toList) = false := ne_strP hqp
              obtain ⟨Z, hZ⟩ : ∃ Z : ByteArray, (⟨q.toArray⟩ : ByteArray) = Z := ⟨_, rfl⟩
              obtain ⟨Y, hY'⟩ : ∃ Z : ByteArray, (⟨p.toArray⟩ : ByteArray) = Z := ⟨_, rfl⟩
              rw [hZ] at hcv1 hne2
              rw [hY'] at hcv2 hne2
              clear hZ hY' hqp hR hn7 hb7 HE
              go_wp2
              go_ret2
              rw [HRR.out]
              exact ⟨none, 0, rfl, Rd.nil _ _, Hb7.out⟩
            · have HRR := Lib.hid hR
              subst hqp
              have hcv1 := conv_bytes w7 A7 q.length c7 q rfl hn7.rd
              have hcv2 := conv_bytes w7 A q.length ca q rfl (HA.out.ext Hb7.out)
              obtain ⟨Z, hZ⟩ : ∃ Z : ByteArray, (⟨q.toArray⟩ : ByteArray) = Z := ⟨_, rfl⟩
              rw [hZ] at hcv1 hcv2
              clear hZ hR hn7 hb7 HE
              go_wp2
              go_ret2
              rw [HRR.out]
              exact ⟨A2, c2, rfl, HrL7.out, Hb7.out⟩
          · have HGn : Hid ((rrA L).2 = false → R = ([], 2)) := Lib.hid (fun h => HG.out.1 (by
              show rrP L = none
              unfold rrA at h
              cases hrr : rrP L with
              | none => rfl
              | some o => rw [hrr] at h; cases h))
            have HGs : Hid ((rrA L).2 = true → R = chkP runsB p (rrA L).1) := Lib.hid (fun h => HG.out.2 (rrA L).1 (by
              show rrP L = some (rrA L).1
              unfold rrA at h ⊢
              cases hrr : rrP L with
              | none => rw [hrr] at h; cases h
              | some o => rfl))
            have HDl := Lib.hid (rrunsl_any A1 c1 L wr hrow Hev.out (by have := Hal.out; omega))
            have HML := Lib.hid (rrA_len L)
            generalize rrA L = M at *
            obtain ⟨M, ok⟩ := M
            simp only at HGn HGs HDl HML
            clear hrow HG
            cases ok with
            | false =>
              have HR := Lib.hid (HGn.out rfl)
              clear HGn HGs
              go_wp2_with fail
              refine HDl.out.mono ?_
              rintro e wd ⟨A2, c2, rfl, hN2⟩
              have Hbw2 := Lib.hid (ext_trans Hbw.out hN2.bel)
              clear hN2 HDl
              go_wp2
              go_ret2
              rw [HR.out]
              exact ⟨none, 0, rfl, Rd.nil _ _, Hbw2.out⟩
            | true =>
              have HR := Lib.hid (HGs.out rfl)
              clear HGn HGs
              go_wp2_with fail
              refine HDl.out.mono ?_
              rintro e wd ⟨A2, c2, rfl, hN2⟩
              have hlc : M.length ≤ c2 := hN2.row.le
              have hcm : c2 ≤ maxLen := by
                rcases hN2.row.2 with ⟨_, _, h⟩ | ⟨_, _, _, _, _, h, _⟩
                · rw [h]; exact Nat.zero_le _
                · exact h
              have HrL : Hid (Rd wd A2 (M.map iv)) := Lib.hid hN2.rd
              have Hbw2 := Lib.hid (ext_trans Hbw.out hN2.bel)
              clear HDl
              have hML : M.length ≤ 1099511627776 := by have := HML.out; omega
              have HE := Lib.hid (rruns_any A2 c2 M wd hN2.rd hML)
              clear hN2 hlc hcm hML
              have hcs := chk_cases runsB p M
              rw [← HR.out] at hcs
              generalize ansP M (runsB M) = a at *
              obtain ⟨q, er⟩ := a
              simp only at HE hcs
              clear HR
              go_wp2_with fail
              refine HE.out.mono ?_
              rintro e w7 ⟨A7, c7, rfl, hn7, hb7⟩
              have Hb7 := Lib.hid (ext_trans Hbw2.out hb7)
              have HrL7 := Lib.hid (HrL.out.ext hb7)
              rcases hcs with ⟨rfl, hR⟩ | ⟨rfl, hqp, hR⟩ | ⟨rfl, hqp, hR⟩
              · have HRR := Lib.hid hR
                clear hR hn7 hb7 HE
                go_wp2
                go_ret2
                rw [HRR.out]
                exact ⟨none, 0, rfl, Rd.nil _ _, Hb7.out⟩
              · have HRR := Lib.hid hR
                have hcv1 := conv_bytes w7 A7 q.length c7 q rfl hn7.rd
                have hcv2 := conv_bytes w7 A p.length ca p rfl (HA.out.ext Hb7.out)
                have hne2 : ((⟨q.toArray⟩ : ByteArray).toList == (⟨p.toArray⟩ : ByteArray).toList) = false := ne_strP hqp
                obtain ⟨Z, hZ⟩ : ∃ Z : ByteArray, (⟨q.toArray⟩ : ByteArray) = Z := ⟨_, rfl⟩
                obtain ⟨Y, hY'⟩ : ∃ Z : ByteArray, (⟨p.toArray⟩ : ByteArray) = Z := ⟨_, rfl⟩
                rw [hZ] at hcv1 hne2
                rw [hY'] at hcv2 hne2
                clear hZ hY' hqp hR hn7 hb7 HE
                go_wp2
                go_ret2
                rw [HRR.out]
                exact ⟨none, 0, rfl, Rd.nil _ _, Hb7.out⟩
              · have HRR := Lib.hid hR
                subst hqp
                have hcv1 := conv_bytes w7 A7 q.length c7 q rfl hn7.rd
                have hcv2 := conv_bytes w7 A q.length ca q rfl (HA.out.ext Hb7.out)
                obtain ⟨Z, hZ⟩ : ∃ Z : ByteArray, (⟨q.toArray⟩ : ByteArray) = Z := ⟨_, rfl⟩
                rw [hZ] at hcv1 hcv2
                clear hZ hR hn7 hb7 HE
                go_wp2
                go_ret2
                rw [HRR.out]
                exact ⟨A2, c2, rfl, HrL7.out, Hb7.out⟩
      · have hln : 0 < rest.length := List.length_pos_iff.2 hne
        have hli : (0 : Int) < (rest.length : Int) := by omega
        have hld : decide ((0 : Int) < (rest.length : Int)) = true := decide_eq_true hli
        obtain ⟨k, hk⟩ : ∃ k, m = k + 1 := ⟨m - 1, by have := Hrd.out.fuel; omega⟩
        have HRs := Lib.hid (Rkg.step (by rw [← hk]; exact Hrd.out) hne)
        have hal : acc.length + 1 ≤ 1000001 := by have := Hrd.out.le rfl; omega
        have hk2 : acc.length + 1 ≤ maxLen := by unfold maxLen; omega
        have hk3 : (acc.length + 1) * 8 ≤ 140737488355328 := by omega
        have hrl : rest.length ≤ 1099511627776 := by have := Hrd.out.le rfl; omega
        have HNU := Lib.hid (refnum_st _ g rest false wr Hr.out hrl)
        have Hal := Lib.hid hal
        generalize stNum rest false = q at *
        obtain ⟨x, rest', bd'⟩ := q
        simp only at HRs HNU
        clear hk hal hnil hne HWay HBd HGd
        go_wp2_with fail
        refine HNU.out.mono ?_
        rintro e x1 ⟨rfl, hr5, ho5⟩
        have hrow : RowO x1 3 1 A1 acc.length c1 ((intsN acc).map iv) := by
          have h1 := HS.out.row.only ho5 (fun k hk e => by have := HS.out.new k hk; have := Hgl.out; omega)
          rw [intsN_length] at h1
          exact h1
        have Hrow := Lib.hid hrow
        have Hr5' := Lib.hid hr5
        have Ho5 := Lib.hid (Ho.out.trans ho5 (fun _ _ h => h))
        clear hrow hr5 ho5
        go_wp2_with (at_builtin
                     refine wpList_appO _ rfl (.tmp 32) (.tmp 35) _ rfl 3 _ 1 8 Tryz.underlying48 info_int rfl A1 _ c1 _ rfl (Hrow.out.alloc _) (some ⟨x1.heap.size, 0, none⟩) 1 1 [.int .i64 (x : Int)] rfl rfl (Rd.lit _ #[.int .i64 (x : Int)] _) ?_ ?_ hk2 hk3 ?_
                     · simp; rfl
                     · intro h; cases h
                     intro A3 c3 w3 hrow3 honly3 hA3
                     have hx1 : w5.heap.size ≤ (x1.alloc (.cells #[.int .i64 (x : Int)] 3)).heap.size := by rw [World.size_alloc]; have := Ho5.out.size; omega
                     have hF3 : Fr w5 w3 A3 c3 (intsN (acc ++ [x])) := by
                       rw [intsN_append]
                       exact HS.out.grow (S := fun _ => True) hx1 (by rw [intsN_length]; exact hrow3) hA3
                     have hO3 := HS.out.only (Ho5.out.alloc (.cells #[.int .i64 (x : Int)] 3)) honly3
                     have hR3 : RRd w3 (fun k => k < g ∨ k = g) g rest' bd' := (Hr5'.out.ext (ext_alloc (Below.refl _ _) _)).only honly3 (fun k hk hi => by have h1 := HS.out.new k hi; have h2 := Hgl.out; have h3 := Hb5.out.size; omega)
                     have HF3 := Lib.hid hF3
                     have HO3 := Lib.hid hO3
                     have HR3 := Lib.hid hR3
                     clear hrow3 honly3 hA3 hx1 hF3 hO3 hR3)
        go_roundw
        case rel => exact ⟨k, acc ++ [x], rest', bd', A3, c3, by rw [List.length_append]; rfl, HRs, HR3.out, HF3.out, HO3.out⟩
        case measure => simp [sLen]; have := Hal.out; have := Hrd.out.le rfl; omega
end Go.Proofs.YtpjgkacekelkdaaGreatDoor

/-
  Decode (reference). No statement of the seat is proved here.
-/
namespace Go.Proofs.YtpjgkacekelkdaaGreatDoor
open Go Go.RowKit
set_option maxRecDepth 100000

theorem plcD_of {N : Nat} {p b0 : List UInt8} {bad0 : Bool} {acc : List (List UInt8)} {rest : List UInt8} {bad : Bool} (h1 : (stNum p false).2 = (b0, bad0)) (h2 : takeR N b0 bad0 = (acc, rest, bad)) : plcD N p = stBytes rest bad := by
  unfold plcD wrdD
  rw [h1, h2]
/-- how much there can be -/
theorem tkd_le {L : Nat} {acc : List (List UInt8)} {rest : List UInt8} {s : List UInt8} (h : acc.length + rest.length ≤ L) : ((stBytes rest false).2.2 = false → (acc ++ [s]).length + (stBytes rest false).2.1.length ≤ L) ∧ (acc ++ [s]).length ≤ L + 1 := by
  rw [List.length_append]
  refine ⟨fun hb => ?_, by simp; omega⟩
  have := stBytes_good hb
  simp
  omega
/-- what is answered, told by the place where the reading ended -/
theorem rdec_cases {p b0 : List UInt8} {bad0 : Bool} {acc : List (List UInt8)} {rest : List UInt8} {bad : Bool} (h1 : (stNum p false).2 = (b0, bad0)) (h2 : takeR (cntD p) b0 bad0 = (acc, rest, bad)) :
    ((stBytes rest bad).2.2 = true → decD p = ([], 2)) ∧ ((decR (stBytes rest bad).1).2 ≠ 0 → decD p = ([], 2)) ∧ ((decR (stBytes rest bad).1).2 = 0 → (decR (stBytes rest bad).1).1.all (inD acc) = false → decD p = ([], 2)) ∧
      ((decR (stBytes rest bad).1).2 = 0 → (decR (stBytes rest bad).1).1.all (inD acc) = true → decD p = if (ansD ((decR (stBytes rest bad).1).1.map (pkD acc))).2 = 0 ∧ decide ((ansD ((decR (stBytes rest bad).1).1.map (pkD acc))).1 = p) = true then ((decR (stBytes rest bad).1).1.map (pkD acc), 0) else ([], 2)) := by
  have ht := takD_of (N := cntD p) h1 h2
  refine ⟨fun h => ?_, fun h => ?_, fun h h' => ?_, fun h h' => ?_⟩
  · exact dec_flag p (.inl rfl) (by rw [plcD_of h1 h2]; exact h)
  · rw [if_neg (fun hx => h hx.1)] at ht
    rw [dec_take (.inl rfl) ht, if_neg (by simp)]
  · rw [if_neg (fun hx => by rw [h'] at hx; exact absurd hx.2 (by simp))] at ht
    rw [dec_take (.inl rfl) ht, if_neg (by simp)]
  · rw [if_pos ⟨h, h'⟩] at ht
    rw [dec_take (.inl rfl) ht]
    simp

set_option maxHeartbeats 16000000 in
theorem rdecodeD_any (p : List UInt8) (A : Option Addr) (ca : Nat) (w : World) (hA : Rd w A (p.map bv)) (hc : p.length ≤ ca) (hp : p.length ≤ 900000) :
    Calls Tryz.prog 43 #[.slice A p.length ca] w fun e w' => ∃ A' c', e = .returned (.tuple #[.slice A' (decD p).1.length c', .int .i64 (decD p).2]) ∧ TxtAt w' A' c' (decD p).1 ∧ Below w.heap.size w w' := by
  have HCs : Hid (∀ acc rest bad, takeR (stNum p false).1 (stNum p false).2.1 (stNum p false).2.2 = (acc, rest, bad) → ((stBytes rest bad).2.2 = true → decD p = ([], 2)) ∧ ((decR (stBytes rest bad).1).2 ≠ 0 → decD p = ([], 2)) ∧ ((decR (stBytes rest bad).1).2 = 0 → (decR (stBytes rest bad).1).1.all (inD acc) = false → decD p = ([], 2)) ∧
      ((decR (stBytes rest bad).1).2 = 0 → (decR (stBytes rest bad).1).1.all (inD acc) = true → decD p = if (ansD ((decR (stBytes rest bad).1).1.map (pkD acc))).2 = 0 ∧ decide ((ansD ((decR (stBytes rest bad).1).1.map (pkD acc))).1 = p) = true then ((decR (stBytes rest bad).1).1.map (pkD acc), 0) else ([], 2))) := Lib.hid (fun acc rest bad h => rdec_cases rfl h)
  generalize decD p = R at *
  have HA := Lib.hid hA
  obtain ⟨w2, hw2⟩ : ∃ w2, w2 = w.alloc (.cells #[.slice A p.length ca, .bool false] 83) := ⟨_, rfl⟩
  have Hb2 : Hid (Below w.heap.size w w2) := Lib.hid (by rw [hw2]; exact ext_alloc (Below.refl _ _) _)
  have HR2 : Hid (RRd w2 (fun k => k < w.heap.size ∨ k = w.heap.size) w.heap.size p false) := Lib.hid (by
    refine ⟨.inr rfl, (fun h => by cases h), A, ca, ?_, hA.ext Hb2.out, fun ad e hne => ?_, hc⟩
    · rw [hw2]; exact Blk.new _ _ _
    · obtain ⟨ad', e', hcell⟩ := hA.at_ (k := 0) (by have := List.length_pos_iff.2 hne; simpa using this)
      rw [e] at e'; injection e' with e'; subst e'
      have hl := World.block_lt_of_cell? w _ hcell
      rw [block_add] at hl
      exact ⟨.inl hl, by omega⟩)
  have Hw2 := Lib.hid hw2
  obtain ⟨g, hg⟩ : ∃ g, w.heap.size = g := ⟨_, rfl⟩
  have h1l := stNum_len p false
  have hnl := stNum_le p false
  have Hp := Lib.hid hp
  clear hw2 hA
  go_enter Tryz.func43, Tryz.ntmps43
  go_wp2_with fail
  rw [← Hw2.out]
  rw [hg] at HR2
  have Hg := Lib.hid hg
  clear hg
  refine (refnum_st _ g p false w2 HR2.out (by omega)).mono ?_
  rintro e w5 ⟨rfl, hr3, ho3⟩
  generalize stNum p false = q1 at *
  obtain ⟨N, b0, bad0⟩ := q1
  simp only at HCs hr3 h1l hnl ⊢
  have Hr5 := Lib.hid hr3
  have Hb5 : Hid (Below w.heap.size w w5) := Lib.hid (Hb2.out.trans (ho3.below (fun i hi => by have := Hg.out; omega) Hb2.out.size))
  have Hgl : Hid (g < w5.heap.size) := Lib.hid hr3.lt
  have Hb0l : Hid (b0.length ≤ 900000) := Lib.hid (by omega)
  have hNi : (N : Int) ≤ 4611686018427387904 := by omega
  clear hr3 ho3 h1l hp
  go_wp2
  go_loopw [6, 8] (fun s i wr => ∃ (j m : Nat) (acc : List (List UInt8)) (rest : List UInt8) (bad : Bool) (A1 : Option Addr) (c1 : Nat), i = .int .i64 (j : Int) ∧ s = .slice A1 acc.length c1 ∧ Hid (j + m = N) ∧ Hid (Tkd N b0 bad0 m acc rest bad) ∧ Hid ((bad = false → acc.length + rest.length ≤ b0.length) ∧ acc.length ≤ b0.length + 1) ∧ RRd wr (fun k => k < g ∨ k = g) g rest bad ∧ FrS w5 wr A1 c1 acc ∧ Only (fun k => k = g) w5 wr) (fun _ i _ => N - (intOf i).toNat)
  case atStart => exact ⟨0, N, [], b0, bad0, none, 0, rfl, rfl, Lib.hid (by omega), Lib.hid ⟨rfl, rfl, by simp, by simp, Nat.le_refl _⟩, Lib.hid ⟨fun _ => by simp, by simp⟩, Hr5.out, FrS.start _ _, Only.refl _ _⟩
  case round =>
    obtain ⟨j, m, acc, rest, bad, A1, c1, rfl, rfl, Hjm, Hrd, Hal, hr, hS, ho⟩ := hrel
    have Hr := Lib.hid hr
    have HS := Lib.hid hS
    have Ho := Lib.hid ho
    obtain ⟨_, _, Ar, cr, hblk, _, _, _⟩ := hr
    have hc1 := hblk.cell 1
    simp only [List.getElem?_toArray, List.getElem?_cons_zero, List.getElem?_cons_succ] at hc1
    have Hen : Hid (acc.length ≤ 900001) := Lib.hid (by have := Hal.out.2; have := Hb0l.out; omega)
    have Hea : Hid (∀ s ∈ acc, s.length ≤ 1000000) := Lib.hid (fun s hs => by have := Hrd.out.each s hs; have := Hb0l.out; omega)
    have Hrs : Hid (rest.length ≤ 900000) := Lib.hid (Nat.le_trans Hrd.out.short Hb0l.out)
    have HEX := Lib.hid (fun (he : m = 0 ∨ bad = true) => HCs.out acc rest bad (Hrd.out.end_ he))
    have HBY := Lib.hid (refbytes_st (fun k => k < g ∨ k = g) g rest bad wr Hr.out (by have := Hrs.out; omega))
    have hji : (j : Int) ≤ 4611686018427387904 := by have := Hjm.out; omega
    clear hS ho hblk
    by_cases hm : m = 0
    · have hjN : ¬ (j : Int) < (N : Int) := by have := Hjm.out; omega
      have HC := Lib.hid (HEX.out (.inl hm))
      clear HEX hm
      obtain ⟨⟨B, rs2, fl⟩, hB⟩ : ∃ q, stBytes rest bad = q := ⟨_, rfl⟩
      have hBl : B.length ≤ 900000 := by have := (stBytes_len rest bad).2; rw [hB] at this; exact Nat.le_trans this Hrs.out
      rw [hB] at HC HBY
      simp only at HC HBY
      have HDe := Lib.hid (fun (A : Option Addr) (c : Nat) (W : World) (hW : Rd W A (B.map bv)) (hc : B.length ≤ c) => rdecode_any B A c W hW hc (by omega))
      have hRl := decR_len B
      have hRe := decR_snd B
      have hRv : ∀ v ∈ (decR B).1, 0 ≤ v ∧ v ≤ 1099511627776 := by
        rcases hRe with h | h
        · exact ((mayP_iff _).1 (decR_ok h)).2
        · rw [h]; simp
      obtain ⟨pl, er, hR⟩ : ∃ pl er, decR B = (pl, er) := ⟨_, _, rfl⟩
      rw [hR] at HC hRl hRe hRv
      simp only [hR] at HDe
      simp only at HC hRl hRe hRv
      have HRl := Lib.hid hRl
      have HRe : Hid (er = 0 ∨ (pl = [] ∧ er = 2)) := Lib.hid (by
        rcases hRe with h | h
        · exact .inl h
        · injection h with h1 h2; exact .inr ⟨h1, h2⟩)
      have HRv := Lib.hid hRv
      have hpli : (pl.length : Int) ≤ 32768 := by omega
      clear hB hBl hRl hRe hRv hR
      go_wp2_with fail
      refine HBY.out.mono ?_
      rintro e x1 ⟨A2, c2, rfl, hn2, hr2, ho2⟩
      have hc2 : B.length ≤ c2 := by have := Own.cap hn2; simpa using this
      have HD2 := Lib.hid (HDe.out A2 c2 x1 hn2.rd hc2)
      have Ho2 := Lib.hid (Ho.out.trans ho2 (fun _ _ h => h))
      have hrow : RowO x1 9 1 A1 acc.length c1 (acc.map strV) := HS.out.row.only ho2 (fun k hk e => by have := HS.out.new k hk; have := Hgl.out; omega)
      have Hrow := Lib.hid hrow.rd
      have HR2 := Lib.hid hr2
      clear hn2 hr2 ho2 hc2 hrow HDe HBY hc1
      go_wp2_with fail
      refine HD2.out.mono ?_
      rintro e x2 ⟨A5, c5, rfl, hr5, hb5⟩
      have Hr5 := Lib.hid hr5
      have Hw5 := Lib.hid (Hrow.out.ext hb5)
      have Ho5 : Hid (Only (fun k => k = g) w5 x2) := Lib.hid (Ho2.out.trans (Only.of_ext (S := fun k => k = g) hb5) (fun _ _ h => h))
      have Hb6 : Hid (Below w.heap.size w x2) := Lib.hid (Hb5.out.trans (Ho5.out.below (fun i hi => by have := Hg.out; omega) Hb5.out.size))
      obtain ⟨_, _, Ar2, cr2, hblk2, _, _, _⟩ := HR2.out.ext hb5
      have hc1 := hblk2.cell 1
      simp only [List.getElem?_toArray, List.getElem?_cons_zero, List.getElem?_cons_succ] at hc1
      clear hr5 hb5 HD2 hblk2
      cases fl with
      | true =>
        have HRR : Hid (R = ([], 2)) := Lib.hid (HC.out.1 rfl)
        clear HC
        go_wp2
        go_ret2
        rw [HRR.out]
        exact ⟨none, 0, rfl, TxtAt.none_ _, Hb6.out⟩
      | false =>
      by_cases he0 : er = 0
      case neg =>
        have HRR : Hid (R = ([], 2)) := Lib.hid (HC.out.2.1 he0)
        have hne : (er != 0) = true := by simpa using he0
        clear HC
        go_wp2
        go_ret2
        rw [HRR.out]
        exact ⟨none, 0, rfl, TxtAt.none_ _, Hb6.out⟩
      subst he0
      go_wp2
      go_loopw [7, 11] (fun s i wr2 => ∃ (k : Nat) (A6 : Option Addr) (c6 : Nat), k ≤ pl.length ∧ i = .int .i64 (k : Int) ∧ s = .slice A6 k c6 ∧ Hid (∀ j (hj : j < pl.length), j < k → inD acc pl[j] = true) ∧ Hid (NewO x2 wr2 9 1 A6 k c6 (((pl.take k).map (pkD acc)).map strV))) (fun _ i _ => pl.length - (intOf i).toNat)
      case atStart => exact ⟨0, none, 0, Nat.zero_le _, rfl, rfl, Lib.hid (fun j _ h => absurd h (by omega)), Lib.hid (NewO.start _ _ _)⟩
      case round =>
        obtain ⟨k, A6, c6, hk, rfl, rfl, Hno, HN6⟩ := hrel
        by_cases hlt : k < pl.length
        · have hki : (k : Int) < (pl.length : Int) := by omega
          obtain ⟨ad, hB, hcell⟩ := rd_int (Hr5.out.ext HN6.out.bel) hlt
          subst hB
          have hv := HRv.out _ (List.getElem_mem hlt)
          by_cases hin : pl[k] < (acc.length : Int)
          · obtain ⟨v, hvn⟩ : ∃ v : Nat, pl[k] = (v : Int) := ⟨pl[k].toNat, by omega⟩
            have hva : v < acc.length := by omega
            obtain ⟨ad2, hA, hcell2⟩ := rd_str (Hw5.out.ext HN6.out.bel) hva
            subst hA
            have Hsn : Hid (((pl.take (k + 1)).map (pkD acc)).map strV = ((pl.take k).map (pkD acc)).map strV ++ [strV acc[v]]) := Lib.hid (by
              rw [List.take_succ_eq_append_getElem hlt, List.map_append, List.map_append, List.map_singleton, List.map_singleton, hvn]
              unfold pkD
              rw [Int.toNat_natCast, List.getD_eq_getElem?_getD, List.getElem?_eq_getElem hva]
              rfl)
            have Hno2 : Hid (∀ j (hj : j < pl.length), j < k + 1 → inD acc pl[j] = true) := Lib.hid (fun j hj hj2 => by
              rcases Nat.lt_succ_iff_lt_or_eq.1 hj2 with h3 | rfl
              · exact Hno.out j hj h3
              · exact decide_eq_true hin)
            have hge : ¬ (acc.length : Int) ≤ (v : Int) := by omega
            have hgen : decide (acc.length ≤ v) = false := decide_eq_false (by omega)
            have hvi : (v : Int) < (acc.length : Int) := by omega
            have hk2 : k + 1 ≤ maxLen := by unfold maxLen; have := HRl.out; omega
            have hk3 : (k + 1) * 16 ≤ 140737488355328 := by have := HRl.out; omega
            rw [hvn] at hcell
            obtain ⟨Z, hu⟩ : ∃ Z : ByteArray, strV acc[v] = .string Z := ⟨_, rfl⟩
            rw [hu] at hcell2 Hsn
            clear hvn hin hv hu hva
            go_wp2_with (at_builtin
                         refine wpList_app_new rfl (.tmp 63) (.tmp 71) _ rfl 9 _ 1 16 Tryz.underlying45 info_str rfl A6 _ c6 _ HN6.out (ext_alloc (Below.refl _ _) _) rfl ⟨wr.heap.size, 0, none⟩ 1 [.string Z] rfl rfl (Rd.lit _ #[.string Z] _) ?_ hk2 hk3 ?_
                         · intro x hx; simp at hx; rw [hx]; rfl
                         intro A7 c7 w7 hN7 hb7
                         rw [← Hsn.out] at hN7
                         have HN7 := Lib.hid hN7
                         clear hN7 hb7)
            go_roundw
            case rel => exact ⟨k + 1, A7, c7, by omega, by go_num, rfl, Hno2, HN7⟩
            case measure => simp [intOf]; omega
          · have HRR : Hid (R = ([], 2)) := Lib.hid (HC.out.2.2.1 (by simp) (by
              rw [List.all_eq_false]
              exact ⟨pl[k], List.getElem_mem hlt, by simpa [inD] using hin⟩))
            obtain ⟨v, hvn⟩ : ∃ v : Nat, pl[k] = (v : Int) := ⟨pl[k].toNat, by omega⟩
            have hge : (acc.length : Int) ≤ (v : Int) := by omega
            have hgen : decide (acc.length ≤ v) = true := decide_eq_true (by omega)
            rw [hvn] at hcell
            clear hvn hin hv HC
            go_wp2
            go_ret2
            rw [HRR.out]
            exact ⟨none, 0, rfl, TxtAt.none_ _, ext_trans Hb6.out HN6.out.bel⟩
        · obtain rfl : k = pl.length := by omega
          have hTx := HN6.out
          rw [List.take_length] at hTx
          have HRr : Hid (R = if (ansD (pl.map (pkD acc))).2 = 0 ∧ decide ((ansD (pl.map (pkD acc))).1 = p) = true then (pl.map (pkD acc), 0) else ([], 2)) := Lib.hid (HC.out.2.2.2 (by simp) (List.all_eq_true.2 fun v hv => by
            obtain ⟨j, hj, rfl⟩ := List.mem_iff_getElem.1 hv
            exact Hno.out j hj hj))
          have HTl : Hid ((pl.map (pkD acc)).length = pl.length) := Lib.hid (by rw [List.length_map])
          have HTe : Hid (∀ s ∈ pl.map (pkD acc), s.length ≤ 1000000) := Lib.hid (fun s hs => by
            obtain ⟨v, hv, rfl⟩ := List.mem_map.1 hs
            unfold pkD
            by_cases hx : v.toNat < acc.length
            · rw [List.getD_eq_getElem?_getD, List.getElem?_eq_getElem hx]
              exact Hea.out _ (List.getElem_mem hx)
            · rw [List.getD_eq_getElem?_getD, List.getElem?_eq_none (by omega)]
              simp)
          generalize pl.map (pkD acc) = T at *
          have HTx := Lib.hid (TxtAt.of_row hTx.row HTl.out.symm)
          have Hb7 := Lib.hid (ext_trans Hb6.out hTx.bel)
          have HE := Lib.hid (rencodeD_any A6 c6 T wr HTx.out.rd (by rw [HTl.out]; have := HRl.out; omega) HTe.out)
          rw [HTl.out] at HE
          obtain ⟨q, eq, ha⟩ : ∃ b er, ansD T = (b, er) := ⟨_, _, rfl⟩
          rw [ha] at HE HRr
          simp only at HE HRr
          clear ha hTx HC
          go_wp2_with fail
          refine HE.out.mono ?_
          rintro e w7 ⟨A7, c7, rfl, hn7, hb7⟩
          have Hb8 := Lib.hid (ext_trans Hb7.out hb7)
          have HTx8 := Lib.hid (HTx.out.ext hb7)
          by_cases h0 : eq = 0
          · subst h0
            by_cases hqp : q = p
            · have HRR : Hid (R = (T, 0)) := Lib.hid (by rw [HRr.out, if_pos ⟨rfl, decide_eq_true hqp⟩])
              subst hqp
              have hcv1 := conv_bytes w7 A7 q.length c7 q rfl hn7.rd
              have hcv2 := conv_bytes w7 A q.length ca q rfl (HA.out.ext Hb8.out)
              obtain ⟨Z, hZ⟩ : ∃ Z : ByteArray, (⟨q.toArray⟩ : ByteArray) = Z := ⟨_, rfl⟩
              rw [hZ] at hcv1 hcv2
              clear hZ HRr hn7 hb7 HE
              go_wp2
              go_ret2
              rw [HRR.out]
              exact ⟨A6, c6, by rw [HTl.out]; rfl, HTx8.out, Hb8.out⟩
            · have HRR : Hid (R = ([], 2)) := Lib.hid (by rw [HRr.out, if_neg (by rw [decide_eq_false hqp]; simp)])
              have hcv1 := conv_bytes w7 A7 q.length c7 q rfl hn7.rd
              have hcv2 := conv_bytes w7 A p.length ca p rfl (HA.out.ext Hb8.out)
              have hne2 : ((⟨q.toArray⟩ : ByteArray).toList == (⟨p.toArray⟩ : ByteArray).toList) = false := ne_strP hqp
              obtain ⟨Z, hZ⟩ : ∃ Z : ByteArray, (⟨q.toArray⟩ : ByteArray) = Z := ⟨_, rfl⟩
              obtain ⟨Y, hY'⟩ : ∃ Z : ByteArray, (⟨p.toArray⟩ : ByteArray) = Z := ⟨_, rfl⟩
              rw [hZ] at hcv1 hne2
              rw [hY'] at hcv2 hne2
              clear hZ hY' hqp HRr hn7 hb7 HE
              go_wp2
              go_ret2
              rw [HRR.out]
              exact ⟨none, 0, rfl, TxtAt.none_ _, Hb8.out⟩
          · have HRR : Hid (R = ([], 2)) := Lib.hid (by rw [HRr.out, if_neg (fun h => h0 h.1)])
            have hne : (eq != 0) = true := by simpa using h0
            clear HRr hn7 hb7 HE
            go_wp2
            go_ret2
            rw [HRR.out]
            exact ⟨none, 0, rfl, TxtAt.none_ _, Hb8.out⟩
    have hjN : (j : Int) < (N : Int) := by have := Hjm.out; omega
    have hjNn : j < N := by have := Hjm.out; omega
    cases bad with
    | true =>
      have HC := Lib.hid (HEX.out (.inr rfl))
      clear HEX hm
      obtain ⟨⟨B, rs2, fl⟩, hB⟩ : ∃ q, stBytes rest true = q := ⟨_, rfl⟩
      have hBl : B.length ≤ 900000 := by have := (stBytes_len rest true).2; rw [hB] at this; exact Nat.le_trans this Hrs.out
      rw [hB] at HC HBY
      simp only at HC HBY
      have HDe := Lib.hid (fun (A : Option Addr) (c : Nat) (W : World) (hW : Rd W A (B.map bv)) (hc : B.length ≤ c) => rdecode_any B A c W hW hc (by omega))
      have hRl := decR_len B
      have hRe := decR_snd B
      have hRv : ∀ v ∈ (decR B).1, 0 ≤ v ∧ v ≤ 1099511627776 := by
        rcases hRe with h | h
        · exact ((mayP_iff _).1 (decR_ok h)).2
        · rw [h]; simp
      obtain ⟨pl, er, hR⟩ : ∃ pl er, decR B = (pl, er) := ⟨_, _, rfl⟩
      rw [hR] at HC hRl hRe hRv
      simp only [hR] at HDe
      simp only at HC hRl hRe hRv
      have HRl := Lib.hid hRl
      have HRe : Hid (er = 0 ∨ (pl = [] ∧ er = 2)) := Lib.hid (by
        rcases hRe with h | h
        · exact .inl h
        · injection h with h1 h2; exact .inr ⟨h1, h2⟩)
      have HRv := Lib.hid hRv
      have hpli : (pl.length : Int) ≤ 32768 := by omega
      clear hB hBl hRl hRe hRv hR
      go_wp2_with fail
      refine HBY.out.mono ?_
      rintro e x1 ⟨A2, c2, rfl, hn2, hr2, ho2⟩
      have hc2 : B.length ≤ c2 := by have := Own.cap hn2; simpa using this
      have HD2 := Lib.hid (HDe.out A2 c2 x1 hn2.rd hc2)
      have Ho2 := Lib.hid (Ho.out.trans ho2 (fun _ _ h => h))
      have hrow : RowO x1 9 1 A1 acc.length c1 (acc.map strV) := HS.out.row.only ho2 (fun k hk e => by have := HS.out.new k hk; have := Hgl.out; omega)
      have Hrow := Lib.hid hrow.rd
      have HR2 := Lib.hid hr2
      clear hn2 hr2 ho2 hc2 hrow HDe HBY hc1
      go_wp2_with fail
      refine HD2.out.mono ?_
      rintro e x2 ⟨A5, c5, rfl, hr5, hb5⟩
      have Hr5 := Lib.hid hr5
      have Hw5 := Lib.hid (Hrow.out.ext hb5)
      have Ho5 : Hid (Only (fun k => k = g) w5 x2) := Lib.hid (Ho2.out.trans (Only.of_ext (S := fun k => k = g) hb5) (fun _ _ h => h))
      have Hb6 : Hid (Below w.heap.size w x2) := Lib.hid (Hb5.out.trans (Ho5.out.below (fun i hi => by have := Hg.out; omega) Hb5.out.size))
      obtain ⟨_, _, Ar2, cr2, hblk2, _, _, _⟩ := HR2.out.ext hb5
      have hc1 := hblk2.cell 1
      simp only [List.getElem?_toArray, List.getElem?_cons_zero, List.getElem?_cons_succ] at hc1
      clear hr5 hb5 HD2 hblk2
      cases fl with
      | true =>
        have HRR : Hid (R = ([], 2)) := Lib.hid (HC.out.1 rfl)
        clear HC
        go_wp2
        go_ret2
        rw [HRR.out]
        exact ⟨none, 0, rfl, TxtAt.none_ _, Hb6.out⟩
      | false =>
      by_cases he0 : er = 0
      case neg =>
        have HRR : Hid (R = ([], 2)) := Lib.hid (HC.out.2.1 he0)
        have hne : (er != 0) = true := by simpa using he0
        clear HC
        go_wp2
        go_ret2
        rw [HRR.out]
        exact ⟨none, 0, rfl, TxtAt.none_ _, Hb6.out⟩
      subst he0
      go_wp2
      go_loopw [7, 11] (fun s i wr2 => ∃ (k : Nat) (A6 : Option Addr) (c6 : Nat), k ≤ pl.length ∧ i = .int .i64 (k : Int) ∧ s = .slice A6 k c6 ∧ Hid (∀ j (hj : j < pl.length), j < k → inD acc pl[j] = true) ∧ Hid (NewO x2 wr2 9 1 A6 k c6 (((pl.take k).map (pkD acc)).map strV))) (fun _ i _ => pl.length - (intOf i).toNat)
      case atStart => exact ⟨0, none, 0, Nat.zero_le _, rfl, rfl, Lib.hid (fun j _ h => absurd h (by omega)), Lib.hid (NewO.start _ _ _)⟩
      case round =>
        obtain ⟨k, A6, c6, hk, rfl, rfl, Hno, HN6⟩ := hrel
        by_cases hlt : k < pl.length
        · have hki : (k : Int) < (pl.length : Int) := by omega
          obtain ⟨ad, hB, hcell⟩ := rd_int (Hr5.out.ext HN6.out.bel) hlt
          subst hB
          have hv := HRv.out _ (List.getElem_mem hlt)
          by_cases hin : pl[k] < (acc.length : Int)
          · obtain ⟨v, hvn⟩ : ∃ v : Nat, pl[k] = (v : Int) := ⟨pl[k].toNat, by omega⟩
            have hva : v < acc.length := by omega
            obtain ⟨ad2, hA, hcell2⟩ := rd_str (Hw5.out.ext HN6.out.bel) hva
            subst hA
            have Hsn : Hid (((pl.take (k + 1)).map (pkD acc)).map strV = ((pl.take k).map (pkD acc)).map strV ++ [strV acc[v]]) := Lib.hid (by
              rw [List.take_succ_eq_append_getElem hlt, List.map_append, List.map_append, List.map_singleton, List.map_singleton, hvn]
              unfold pkD
              rw [Int.toNat_natCast, List.getD_eq_getElem?_getD, List.getElem?_eq_getElem hva]
              rfl)
            have Hno2 : Hid (∀ j (hj : j < pl.length), j < k + 1 → inD acc pl[j] = true) := Lib.hid (fun j hj hj2 => by
              rcases Nat.lt_succ_iff_lt_or_eq.1 hj2 with h3 | rfl
              · exact Hno.out j hj h3
              · exact decide_eq_true hin)
            have hge : ¬ (acc.length : Int) ≤ (v : Int) := by omega
            have hgen : decide (acc.length ≤ v) = false := decide_eq_false (by omega)
            have hvi : (v : Int) < (acc.length : Int) := by omega
            have hk2 : k + 1 ≤ maxLen := by unfold maxLen; have := HRl.out; omega
            have hk3 : (k + 1) * 16 ≤ 140737488355328 := by have := HRl.out; omega
            rw [hvn] at hcell
            obtain ⟨Z, hu⟩ : ∃ Z : ByteArray, strV acc[v] = .string Z := ⟨_, rfl⟩
            rw [hu] at hcell2 Hsn
            clear hvn hin hv hu hva
            go_wp2_with (at_builtin
                         refine wpList_app_new rfl (.tmp 63) (.tmp 71) _ rfl 9 _ 1 16 Tryz.underlying45 info_str rfl A6 _ c6 _ HN6.out (ext_alloc (Below.refl _ _) _) rfl ⟨wr.heap.size, 0, none⟩ 1 [.string Z] rfl rfl (Rd.lit _ #[.string Z] _) ?_ hk2 hk3 ?_
                         · intro x hx; simp at hx; rw [hx]; rfl
                         intro A7 c7 w7 hN7 hb7
                         rw [← Hsn.out] at hN7
                         have HN7 := Lib.hid hN7
                         clear hN7 hb7)
            go_roundw
            case rel => exact ⟨k + 1, A7, c7, by omega, by go_num, rfl, Hno2, HN7⟩
            case measure => simp [intOf]; omega
          · have HRR : Hid (R = ([], 2)) := Lib.hid (HC.out.2.2.1 (by simp) (by
              rw [List.all_eq_false]
              exact ⟨pl[k], List.getElem_mem hlt, by simpa [inD] using hin⟩))
            obtain ⟨v, hvn⟩ : ∃ v : Nat, pl[k] = (v : Int) := ⟨pl[k].toNat, by omega⟩
            have hge : (acc.length : Int) ≤ (v : Int) := by omega
            have hgen : decide (acc.length ≤ v) = true := decide_eq_true (by omega)
            rw [hvn] at hcell
            clear hvn hin hv HC
            go_wp2
            go_ret2
            rw [HRR.out]
            exact ⟨none, 0, rfl, TxtAt.none_ _, ext_trans Hb6.out HN6.out.bel⟩
        · obtain rfl : k = pl.length := by omega
          have hTx := HN6.out
          rw [List.take_length] at hTx
          have HRr : Hid (R = if (ansD (pl.map (pkD acc))).2 = 0 ∧ decide ((ansD (pl.map (pkD acc))).1 = p) = true then (pl.map (pkD acc), 0) else ([], 2)) := Lib.hid (HC.out.2.2.2 (by simp) (List.all_eq_true.2 fun v hv => by
            obtain ⟨j, hj, rfl⟩ := List.mem_iff_getElem.1 hv
            exact Hno.out j hj hj))
          have HTl : Hid ((pl.map (pkD acc)).length = pl.length) := Lib.hid (by rw [List.length_map])
          have HTe : Hid (∀ s ∈ pl.map (pkD acc), s.length ≤ 1000000) := Lib.hid (fun s hs => by
            obtain ⟨v, hv, rfl⟩ := List.mem_map.1 hs
            unfold pkD
            by_cases hx : v.toNat < acc.length
            · rw [List.getD_eq_getElem?_getD, List.getElem?_eq_getElem hx]
              exact Hea.out _ (List.getElem_mem hx)
            · rw [List.getD_eq_getElem?_getD, List.getElem?_eq_none (by omega)]
              simp)
          generalize pl.map (pkD acc) = T at *
          have HTx := Lib.hid (TxtAt.of_row hTx.row HTl.out.symm)
          have Hb7 := Lib.hid (ext_trans Hb6.out hTx.bel)
          have HE := Lib.hid (rencodeD_any A6 c6 T wr HTx.out.rd (by rw [HTl.out]; have := HRl.out; omega) HTe.out)
          rw [HTl.out] at HE
          obtain ⟨q, eq, ha⟩ : ∃ b er, ansD T = (b, er) := ⟨_, _, rfl⟩
          rw [ha] at HE HRr
          simp only at HE HRr
          clear ha hTx HC
          go_wp2_with fail
          refine HE.out.mono ?_
          rintro e w7 ⟨A7, c7, rfl, hn7, hb7⟩
          have Hb8 := Lib.hid (ext_trans Hb7.out hb7)
          have HTx8 := Lib.hid (HTx.out.ext hb7)
          by_cases h0 : eq = 0
          · subst h0
            by_cases hqp : q = p
            · have HRR : Hid (R = (T, 0)) := Lib.hid (by rw [HRr.out, if_pos ⟨rfl, decide_eq_true hqp⟩])
              subst hqp
              have hcv1 := conv_bytes w7 A7 q.length c7 q rfl hn7.rd
              have hcv2 := conv_bytes w7 A q.length ca q rfl (HA.out.ext Hb8.out)
              obtain ⟨Z, hZ⟩ : ∃ Z : ByteArray, (⟨q.toArray⟩ : ByteArray) = Z := ⟨_, rfl⟩
              rw [hZ] at hcv1 hcv2
              clear hZ HRr hn7 hb7 HE
              go_wp2
              go_ret2
              rw [HRR.out]
              exact ⟨A6, c6, by rw [HTl.out]; rfl, HTx8.out, Hb8.out⟩
            · have HRR : Hid (R = ([], 2)) := Lib.hid (by rw [HRr.out, if_neg (by rw [decide_eq_false hqp]; simp)])
              have hcv1 := conv_bytes w7 A7 q.length c7 q rfl hn7.rd
              have hcv2 := conv_bytes w7 A p.length ca p rfl (HA.out.ext Hb8.out)
              have hne2 : ((⟨q.toArray⟩ : ByteArray).toList == (⟨p.toArray⟩ : ByteArray).toList) = false := ne_strP hqp
              obtain ⟨Z, hZ⟩ : ∃ Z : ByteArray, (⟨q.toArray⟩ : ByteArray) = Z := ⟨_, rfl⟩
              obtain ⟨Y, hY'⟩ : ∃ Z : ByteArray, (⟨p.toArray⟩ : ByteArray) = Z := ⟨_, rfl⟩
              rw [hZ] at hcv1 hne2
              rw [hY'] at hcv2 hne2
              clear hZ hY' hqp HRr hn7 hb7 HE
              go_wp2
              go_ret2
              rw [HRR.out]
              exact ⟨none, 0, rfl, TxtAt.none_ _, Hb8.out⟩
          · have HRR : Hid (R = ([], 2)) := Lib.hid (by rw [HRr.out, if_neg (fun h => h0 h.1)])
            have hne : (eq != 0) = true := by simpa using h0
            clear HRr hn7 hb7 HE
            go_wp2
            go_ret2
            rw [HRR.out]
            exact ⟨none, 0, rfl, TxtAt.none_ _, Hb8.out⟩
    | false =>
      clear HEX
      obtain ⟨k, hk⟩ : ∃ k, m = k + 1 := ⟨m - 1, by omega⟩
      have HRs := Lib.hid (Tkd.step (by rw [← hk]; exact Hrd.out))
      have HLe : Hid (((stBytes rest false).2.2 = false → (acc ++ [(stBytes rest false).1]).length + (stBytes rest false).2.1.length ≤ b0.length) ∧ (acc ++ [(stBytes rest false).1]).length ≤ b0.length + 1) := Lib.hid (tkd_le (Hal.out.1 rfl))
      have hk2 : acc.length + 1 ≤ maxLen := by unfold maxLen; have := Hen.out; omega
      have hk3 : (acc.length + 1) * 16 ≤ 140737488355328 := by have := Hen.out; omega
      generalize stBytes rest false = q at *
      obtain ⟨bs, rest', bd'⟩ := q
      simp only at HRs HBY HLe
      have Hk := Lib.hid hk
      have HjN := Lib.hid hjNn
      clear hk hm hjNn
      go_wp2_with fail
      refine HBY.out.mono ?_
      rintro e x1 ⟨A2, c2, rfl, hn2, hr2, ho2⟩
      have hcv := conv_bytes x1 A2 bs.length c2 bs rfl hn2.rd
      have hrow : RowO x1 9 1 A1 acc.length c1 (acc.map strV) := HS.out.row.only ho2 (fun k hk e => by have := HS.out.new k hk; have := Hgl.out; omega)
      have Hrow := Lib.hid hrow
      have Hr2 := Lib.hid hr2
      have Ho2 := Lib.hid (Ho.out.trans ho2 (fun _ _ h => h))
      have hsv : (.string ⟨bs.toArray⟩ : Value) = strV bs := rfl
      rw [hsv] at hcv
      obtain ⟨Z, hv⟩ : ∃ Z : ByteArray, strV bs = .string Z := ⟨_, rfl⟩
      rw [hv] at hcv
      have Hv := Lib.hid hv
      clear hrow hr2 ho2 hn2 hv hsv
      go_wp2_with (at_builtin
                   refine wpList_appO _ rfl (.tmp 30) (.tmp 34) _ rfl 9 _ 1 16 Tryz.underlying45 info_str rfl A1 _ c1 _ rfl (Hrow.out.alloc _) (some ⟨x1.heap.size, 0, none⟩) 1 1 [.string Z] rfl rfl (Rd.lit _ #[.string Z] _) ?_ ?_ hk2 hk3 ?_
                   · intro u hu; simp at hu; rw [hu]; rfl
                   · intro h; cases h
                   intro A3 c3 w3 hrow3 honly3 hA3
                   rw [← Hv.out] at hrow3 honly3
                   have hx1 : w5.heap.size ≤ (x1.alloc (.cells #[.string Z] 9)).heap.size := by rw [World.size_alloc]; have := Ho2.out.size; omega
                   have hF3 : FrS w5 w3 A3 c3 (acc ++ [bs]) := HS.out.grow hx1 hrow3 hA3
                   have hO3 := HS.out.only (Ho2.out.alloc (.cells #[strV bs] 9)) honly3
                   have hR3 : RRd w3 (fun k => k < g ∨ k = g) g rest' bd' := (Hr2.out.ext (ext_alloc (Below.refl _ _) _)).only honly3 (fun k hk hi => by have h1 := HS.out.new k hi; have h2 := Hgl.out; omega)
                   have HF3 := Lib.hid hF3
                   have HO3 := Lib.hid hO3
                   have HR3 := Lib.hid hR3
                   clear hrow3 honly3 hA3 hx1 hF3 hO3 hR3)
      go_roundw
      case rel => exact ⟨j + 1, k, acc ++ [bs], rest', bd', A3, c3, by go_num, by rw [List.length_append]; rfl, Lib.hid (by have := Hjm.out; have := Hk.out; omega), HRs, HLe, HR3.out, HF3.out, HO3.out⟩
      case measure => simp [intOf]; have := HjN.out; omega
end Go.Proofs.YtpjgkacekelkdaaGreatDoor
