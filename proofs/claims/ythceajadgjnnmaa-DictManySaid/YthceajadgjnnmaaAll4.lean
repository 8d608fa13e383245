/-
  Texts of this claim, joined (part 4): contracts and lemmas that the last text goes by. No statement of the seat is proved here.
-/
import Derived.Test.YthceajadgjnnmaaAll3
import Derived.Test.YthceajadgjnnmaaAll0
import Derived.Test.YthceajadgjnnmaaAll2
import Derived.Test.YthceajadgjnnmaaAll1
import Derived.Lib.SlicesCompact
import Derived.Shelf.Sort.Plain
import Derived.Shelf.Slices.In.SortNone
import Derived.Shelf.Spec.SearchS
import Derived.Shelf.Slices.CompactS
import Derived.Ground.NamesProg
import Derived.Ground.Names2Prog
import Derived.Test.YthceajadgjnnmaaProg
import Derived.Laws.IdiomStrings
set_option linter.unusedVariables false
set_option linter.unusedSimpArgs false
/-
  Decode (reference). No statement of the seat is proved here.
-/
namespace Go.Proofs.Ythceajadgjnnmaa
open Go Go.RowKit
set_option maxRecDepth 100000

theorem ne_strP {xs ys : List UInt8} (h : xs ≠ ys) : ((⟨xs.toArray⟩ : ByteArray).toList == (⟨ys.toArray⟩ : ByteArray).toList) = false := by
  rw [beq_eq_false_iff_ne, ByteArray.toList_mk, ByteArray.toList_mk]
  exact h
theorem rrK_len (l : List Int) : ∀ k o, rrK l k = some o → o.length ≤ 32768
  | 0, o, h => by injection h with h; subst h; simp
  | k + 1, o, h => by
    rw [rrK] at h
    split at h
    · cases h
    · rename_i q hq
      split at h
      · cases h
      · rename_i hc
        injection h with h
        subst h
        rw [List.length_append, List.length_replicate]
        have := rrK_len l k q hq
        omega
theorem rrA_len (l : List Int) : (rrA l).1.length ≤ 32768 := by
  unfold rrA
  cases h : rrP l with
  | none => simp
  | some o => exact rrK_len l _ o h
theorem stNum_shrink {bs : List UInt8} (h : bs ≠ []) : (stNum bs false).2.1.length + 1 ≤ bs.length := by
  have hl := List.length_pos_iff.2 h
  rcases hR : num? bs with _ | ⟨n, k⟩
  · have e : stNum bs false = (0, [], true) := by simp [stNum, hR, resN, restOf, badOf]
    rw [e]
    simp
    omega
  · have e : stNum bs false = (n, bs.drop k, false) := by simp [stNum, hR, resN, restOf, badOf]
    obtain ⟨h1, h2, h3⟩ := num_bounds hR
    rw [e]
    simp
    omega
theorem stNum_bad_nil {bs : List UInt8} (h : (stNum bs false).2.2 = true) : (stNum bs false).2.1 = [] := by
  rcases hR : num? bs with _ | ⟨n, k⟩
  · simp [stNum, hR, resN, restOf, badOf]
  · simp [stNum, hR, resN, restOf, badOf] at h
/-- what the loop still takes, with what it has -/
structure Rkg (p : List UInt8) (b2 : List UInt8) (bad2 : Bool) (m : Nat) (acc : List Nat) (rest : List UInt8) (bad : Bool) : Prop where
  all : (acc ++ (takeA m rest bad).1, (takeA m rest bad).2) = takeA p.length b2 bad2
  fuel : rest.length ≤ m
  le : bad = false → acc.length + rest.length ≤ p.length
  le1 : acc.length ≤ p.length + 1
  each : ∀ v ∈ acc, v ≤ 4611686018427387904
theorem Rkg.step {p b2 : List UInt8} {bad2 : Bool} {m : Nat} {acc : List Nat} {rest : List UInt8} (h : Rkg p b2 bad2 (m + 1) acc rest false) (hr : rest ≠ []) : Rkg p b2 bad2 m (acc ++ [(stNum rest false).1]) (stNum rest false).2.1 (stNum rest false).2.2 := by
  have h1 := stNum_shrink hr
  have h2 := h.fuel
  have h3 := h.le rfl
  refine ⟨?_, by omega, fun _ => by rw [List.length_append]; simp; omega, by rw [List.length_append]; simp; omega, fun v hv => ?_⟩
  · rw [← h.all, takeA_succ m hr, List.append_assoc]; rfl
  · rcases List.mem_append.1 hv with hv | hv
    · exact h.each v hv
    · simp at hv; rw [hv]; exact stNum_le _ _
theorem Rkg.end_ {p b2 : List UInt8} {bad2 : Bool} {m : Nat} {acc : List Nat} {rest : List UInt8} {bad : Bool} (h : Rkg p b2 bad2 m acc rest bad) (he : rest = []) : takeA p.length b2 bad2 = (acc, [], bad) := by
  have h1 := h.all
  subst he
  rw [takeA_end m (.inr rfl), List.append_nil] at h1
  exact h1.symm
theorem decR_none {p : List UInt8} (h : decP p = none) : decR p = ([], 2) := by unfold decR; rw [h]
theorem decR_bad {p : List UInt8} {ns : List Nat} (hw : (stNum p false).1 ≤ 2) (ht : takeA p.length (stNum (stNum p false).2.1 (stNum p false).2.2).2.1 (stNum (stNum p false).2.1 (stNum p false).2.2).2.2 = (ns, [], true)) : decR p = ([], 2) := by
  have h := dec_rrd (Nat.le_refl _) hw ht (o := _) rfl
  rw [if_pos rfl] at h
  exact decR_none h
theorem decR_o {p : List UInt8} {ns : List Nat} (hw : (stNum p false).1 ≤ 2) (ht : takeA p.length (stNum (stNum p false).2.1 (stNum p false).2.2).2.1 (stNum (stNum p false).2.1 (stNum p false).2.2).2.2 = (ns, [], false)) :
    (rrdP (stNum p false).1 (intsN ns) = none → decR p = ([], 2)) ∧ (∀ l, rrdP (stNum p false).1 (intsN ns) = some l → decR p = chkP (encP (stNum p false).1) p l) := by
  constructor
  · intro ho
    have h := dec_rrd (Nat.le_refl _) hw ht ho
    rw [if_neg (by simp)] at h
    exact decR_none h
  · intro l ho
    have h := dec_rrd (Nat.le_refl _) hw ht ho
    rw [if_neg (by simp)] at h
    unfold decR chkP
    rw [h]
    simp only
    split
    · rename_i hx
      split at hx
      · rename_i hy
        injection hx with hx
        rw [if_pos hy, hx]
      · cases hx
    · rename_i hx
      split at hx
      · cases hx
      · rename_i hy
        rw [if_neg hy]
theorem chk_cases (enc : List Int → List UInt8) (p : List UInt8) (l : List Int) : ((ansP l (enc l)).2 = 1 ∧ chkP enc p l = ([], 2)) ∨ ((ansP l (enc l)).2 = 0 ∧ (ansP l (enc l)).1 ≠ p ∧ chkP enc p l = ([], 2)) ∨ ((ansP l (enc l)).2 = 0 ∧ (ansP l (enc l)).1 = p ∧ chkP enc p l = (l, 0)) := by
  unfold ansP chkP
  by_cases h : mayP l = true
  · rw [if_pos h]
    by_cases he : enc l = p
    · exact .inr (.inr ⟨rfl, he, by rw [if_pos ⟨h, he⟩]⟩)
    · exact .inr (.inl ⟨rfl, he, by rw [if_neg (fun hx => he hx.2)]⟩)
  · rw [if_neg h]
    exact .inl ⟨rfl, by rw [if_neg (fun hx => h hx.1)]⟩
def sLen : Value → Nat | .slice _ n _ => n | _ => 0

set_option maxHeartbeats 8000000 in
theorem rdecode_any (p : List UInt8) (A : Option Addr) (ca : Nat) (w : World) (hA : Rd w A (p.map bv)) (hc : p.length ≤ ca) (hp : p.length ≤ 1000000) :
    Calls Try.prog 23 #[.slice A p.length ca] w fun e w' => ∃ B' c', e = .returned (.tuple #[.slice B' (decR p).1.length c', .int .i64 (decR p).2]) ∧ Rd w' B' ((decR p).1.map iv) ∧ Below w.heap.size w w' := by
  have HWay : Hid (2 < (stNum p false).1 → decR p = ([], 2)) := Lib.hid decR_way
  have HBd : Hid (∀ ns, (stNum p false).1 ≤ 2 → takeA p.length (stNum (stNum p false).2.1 (stNum p false).2.2).2.1 (stNum (stNum p false).2.1 (stNum p false).2.2).2.2 = (ns, [], true) → decR p = ([], 2)) := Lib.hid (fun ns => decR_bad)
  have HGd : Hid (∀ ns, (stNum p false).1 ≤ 2 → takeA p.length (stNum (stNum p false).2.1 (stNum p false).2.2).2.1 (stNum (stNum p false).2.1 (stNum p false).2.2).2.2 = (ns, [], false) → (rrdP (stNum p false).1 (intsN ns) = none → decR p = ([], 2)) ∧ (∀ l, rrdP (stNum p false).1 (intsN ns) = some l → decR p = chkP (encP (stNum p false).1) p l)) := Lib.hid (fun ns => decR_o)
  generalize decR p = R at *
  have HA := Lib.hid hA
  obtain ⟨w2, hw2⟩ : ∃ w2, w2 = w.alloc (.cells #[.slice A p.length ca, .bool false] 66) := ⟨_, rfl⟩
  have Hb2 : Hid (Below w.heap.size w w2) := Lib.hid (by rw [hw2]; exact ext_alloc (Below.refl _ _) _)
  have HR2 : Hid (RRd w2 (fun k => k < w.heap.size ∨ k = w.heap.size) w.heap.size p false) := Lib.hid (by
    refine ⟨.inr rfl, (fun h => by cases h), A, ca, ?_, hA.ext Hb2.out, fun ad e hne => ?_, hc⟩
    · rw [hw2]; exact Blk.new _ _ _
    · obtain ⟨ad', e', hcell⟩ := hA.at_ (k := 0) (by have := List.length_pos_iff.2 hne; simpa using this)
      rw [e] at e'; injection e' with e'; subst e'
      have hl := World.block_lt_of_cell? w _ hcell
      rw [block_add] at hl
      exact ⟨.inl hl, by omega⟩)
  have Hw2 := Lib.hid hw2
  obtain ⟨g, hg⟩ : ∃ g, w.heap.size = g := ⟨_, rfl⟩
  have h1l := stNum_len p false
  clear hw2 hA
  go_enter Try.func23, Try.ntmps23
  go_wp2_with fail
  rw [← Hw2.out]
  rw [hg] at HR2
  have Hg := Lib.hid hg
  clear hg
  refine (refnum_st _ g p false w2 HR2.out (by omega)).mono ?_
  rintro e w3 ⟨rfl, hr3, ho3⟩
  generalize stNum p false = q1 at *
  obtain ⟨way, b1, bad1⟩ := q1
  simp only at HWay HBd HGd hr3 h1l ⊢
  have Hr3 := Lib.hid hr3
  have Ho3 := Lib.hid ho3
  have h2l := stNum_len b1 bad1
  clear hr3 ho3
  go_wp2_with fail
  refine (refnum_st _ g b1 bad1 w3 Hr3.out (by omega)).mono ?_
  rintro e w5 ⟨rfl, hr5, ho5⟩
  generalize stNum b1 bad1 = q2 at *
  obtain ⟨cnt, b2, bad2⟩ := q2
  simp only at HBd HGd hr5 h2l ⊢
  have Hr5 := Lib.hid hr5
  have Hb5 : Hid (Below w.heap.size w w5) := Lib.hid (Hb2.out.trans ((Ho3.out.trans ho5 (fun _ _ h => h)).below (fun i hi => by have := Hg.out; omega) Hb2.out.size))
  have Hgl : Hid (g < w5.heap.size) := Lib.hid hr5.lt
  have hcn : ¬ ((cnt : Int) < 0) := by omega
  have hcd : decide ((cnt : Int) < 0) = false := decide_eq_false hcn
  clear hr5 ho5
  go_wp2
  go_loopw [7] (fun s wr => ∃ (m : Nat) (acc : List Nat) (rest : List UInt8) (bad : Bool) (A1 : Option Addr) (c1 : Nat), s = .slice A1 acc.length c1 ∧ Hid (Rkg p b2 bad2 m acc rest bad) ∧ RRd wr (fun k => k < g ∨ k = g) g rest bad ∧ Fr w5 wr A1 c1 (intsN acc) ∧ Only (fun k => k = g) w5 wr) (fun s _ => p.length + 2 - sLen s)
  case atStart => exact ⟨p.length, [], b2, bad2, none, 0, rfl, Lib.hid ⟨by rw [List.nil_append], by omega, fun _ => by simp; omega, by simp, by simp⟩, Hr5.out, Fr.start _ _, Only.refl _ _⟩
  case round =>
    obtain ⟨m, acc, rest, bad, A1, c1, rfl, Hrd, hr, hS, ho⟩ := hrel
    have Hr := Lib.hid hr
    have HS := Lib.hid hS
    have Ho := Lib.hid ho
    obtain ⟨_, hnil, Ar, cr, hblk, _, _, _⟩ := hr
    have hc0 := hblk.cell 0
    have hc1 := hblk.cell 1
    simp only [List.getElem?_toArray, List.getElem?_cons_zero, List.getElem?_cons_succ] at hc0 hc1
    have HBk := Lib.hid hblk
    have Hbw : Hid (Below w.heap.size w wr) := Lib.hid (Hb5.out.trans (ho.below (fun i hi => by have := Hg.out; omega) Hb5.out.size))
    clear hS ho hblk
    cases bad with
    | true =>
      have Hend := Lib.hid (Hrd.out.end_ (hnil rfl))
      clear hnil
      rcases Nat.lt_or_ge 2 way with h2 | h2
      · have HR := Lib.hid (HWay.out h2)
        clear HWay HBd HGd
        go_wp2
        go_ret2
        rw [HR.out]
        first | exact ⟨none, 0, rfl, Rd.nil _ _, Hbw.out⟩ | exact ⟨none, ⟨0, rfl⟩, Rd.nil _ _, Hbw.out⟩
      · have HR := Lib.hid (HBd.out _ h2 Hend.out)
        clear HWay HBd HGd
        go_wp2
        go_ret2
        rw [HR.out]
        first | exact ⟨none, 0, rfl, Rd.nil _ _, Hbw.out⟩ | exact ⟨none, ⟨0, rfl⟩, Rd.nil _ _, Hbw.out⟩
    | false =>
      by_cases hne : rest = []
      · subst hne
        have Hend := Lib.hid (Hrd.out.end_ rfl)
        have Hev : Hid (∀ v ∈ intsN acc, 0 ≤ v ∧ v ≤ 4611686018427387904) := Lib.hid (fun v hv => by
          obtain ⟨x, hx, rfl⟩ := List.mem_map.1 hv
          have := Hrd.out.each x hx
          omega)
        have Hal : Hid ((intsN acc).length ≤ 1000001) := Lib.hid (by rw [intsN_length]; have := Hrd.out.le1; omega)
        have hrow := HS.out.rd
        have Hlen := Lib.hid (intsN_length acc)
        have hq : acc.length = (intsN acc).length := (intsN_length acc).symm
        clear hnil
        rcases Nat.lt_or_ge 2 way with h2 | h2
        · have HR := Lib.hid (HWay.out h2)
          have h2i : (2 : Int) < (way : Int) := by omega
          have h2d : decide ((2 : Int) < (way : Int)) = true := decide_eq_true h2i
          clear HWay HBd HGd hrow hq
          go_wp2
          go_ret2
          rw [HR.out]
          first | exact ⟨none, 0, rfl, Rd.nil _ _, Hbw.out⟩ | exact ⟨none, ⟨0, rfl⟩, Rd.nil _ _, Hbw.out⟩
        · have HG := Lib.hid (HGd.out _ h2 Hend.out)
          clear HWay HBd HGd
          rw [hq]
          generalize intsN acc = L at *
          clear hq Hlen
          obtain rfl | rfl | rfl : way = 0 ∨ way = 1 ∨ way = 2 := by omega
          · have HR : Hid (R = chkP plainP p L) := Lib.hid (HG.out.2 L rfl)
            have HE := Lib.hid (rplain_any A1 c1 L wr hrow (by have := Hal.out; omega))
            have HrL : Hid (Rd wr A1 (L.map iv)) := Lib.hid hrow
            clear hrow HG
            have hcs := chk_cases plainP p L
            rw [← HR.out] at hcs
            generalize ansP L (plainP L) = a at *
            obtain ⟨q, er⟩ := a
            simp only at HE hcs
            clear HR
            go_wp2_with fail
            refine HE.out.mono ?_
            rintro e w7 ⟨A7, c7, rfl, hn7, hb7⟩
            have Hb7 := Lib.hid (ext_trans Hbw.out hb7)
            have HrL7 := Lib.hid (HrL.out.ext hb7)
            rcases hcs with ⟨rfl, hR⟩ | ⟨rfl, hqp, hR⟩ | ⟨rfl, hqp, hR⟩
            · have HRR := Lib.hid hR
              clear hR hn7 hb7 HE
              go_wp2
              go_ret2
              rw [HRR.out]
              exact ⟨none, 0, rfl, Rd.nil _ _, Hb7.out⟩
            · have HRR := Lib.hid hR
              have hcv1 := conv_bytes w7 A7 q.length c7 q rfl hn7.rd
              have hcv2 := conv_bytes w7 A p.length ca p rfl (HA.out.ext Hb7.out)
              have hne2 : ((⟨q.toArray⟩ : ByteArray).toList == (⟨p.toArray⟩ : ByteArray).toList) = false := ne_strP hqp
              obtain ⟨Z, hZ⟩ : ∃ Z : ByteArray, (⟨q.toArray⟩ : ByteArray) = Z := ⟨_, rfl⟩
              obtain ⟨Y, hY'⟩ : ∃ Z : ByteArray, (⟨p.toArray⟩ : ByteArray) = Z := ⟨_, rfl⟩
              rw [hZ] at hcv1 hne2
              rw [hY'] at hcv2 hne2
              clear hZ hY' hqp hR hn7 hb7 HE
              go_wp2
              go_ret2
              rw [HRR.out]
              exact ⟨none, 0, rfl, Rd.nil _ _, Hb7.out⟩
            · have HRR := Lib.hid hR
              subst hqp
              have hcv1 := conv_bytes w7 A7 q.length c7 q rfl hn7.rd
              have hcv2 := conv_bytes w7 A q.length ca q rfl (HA.out.ext Hb7.out)
              obtain ⟨Z, hZ⟩ : ∃ Z : ByteArray, (⟨q.toArray⟩ : ByteArray) = Z := ⟨_, rfl⟩
              rw [hZ] at hcv1 hcv2
              clear hZ hR hn7 hb7 HE
              go_wp2
              go_ret2
              rw [HRR.out]
              exact ⟨A1, c1, rfl, HrL7.out, Hb7.out⟩
          · have HR : Hid (R = chkP deltaP p (rdel L)) := Lib.hid (HG.out.2 (rdel L) rfl)
            have HDl := Lib.hid (rdeltas_any A1 c1 L wr hrow Hev.out (by have := Hal.out; omega))
            have hdl : (rdel L).length ≤ 1099511627776 := by
              have h1 := addedTo_len L L.length
              have := Hal.out
              unfold rdel
              split
              · show (addedTo L L.length).length ≤ _
                omega
              · simp
            generalize rdel L = M at *
            clear hrow HG
            go_wp2_with fail
            refine HDl.out.mono ?_
            rintro e wd ⟨A2, c2, rfl, hN2⟩
            have HE := Lib.hid (rdelta_any A2 c2 M wd hN2.rd hdl)
            have HrL : Hid (Rd wd A2 (M.map iv)) := Lib.hid hN2.rd
            have Hbw2 := Lib.hid (ext_trans Hbw.out hN2.bel)
            have hc1d : wd.cell? ⟨g, 1, none⟩ = some (.bool false) := cell_only hc1 (Only.of_ext (S := fun _ => False) hN2.bel) (fun h => h)
            clear hN2 HDl hdl
            have hcs := chk_cases deltaP p M
            rw [← HR.out] at hcs
            generalize ansP M (deltaP M) = a at *
            obtain ⟨q, er⟩ := a
            simp only at HE hcs
            clear HR
            go_wp2_with fail
            refine HE.out.mono ?_
            rintro e w7 ⟨A7, c7, rfl, hn7, hb7⟩
            have Hb7 := Lib.hid (ext_trans Hbw2.out hb7)
            have HrL7 := Lib.hid (HrL.out.ext hb7)
            rcases hcs with ⟨rfl, hR⟩ | ⟨rfl, hqp, hR⟩ | ⟨rfl, hqp, hR⟩
            · have HRR := Lib.hid hR
              clear hR hn7 hb7 HE
              go_wp2
              go_ret2
              rw [HRR.out]
              exact ⟨none, 0, rfl, Rd.nil _ _, Hb7.out⟩
            · have HRR := Lib.hid hR
              have hcv1 := conv_bytes w7 A7 q.length c7 q rfl hn7.rd
              have hcv2 := conv_bytes w7 A p.length ca p rfl (HA.out.ext Hb7.out)
              have hne2 : ((⟨q.toArray⟩ : ByteArray).toList == (⟨p.toArray⟩ : ByteArray).toList) = false := ne_strP hqp
              obtain ⟨Z, hZ⟩ : ∃ Z : ByteArray, (⟨q.toArray⟩ : ByteArray) = Z := ⟨_, rfl⟩
              obtain ⟨Y, hY'⟩ : ∃ Z : ByteArray, (⟨p.toArray⟩ : ByteArray) = Z := ⟨_, rfl⟩
              rw [hZ] at hcv1 hne2
              rw [hY'] at hcv2 hne2
              clear hZ hY' hqp hR hn7 hb7 HE
              go_wp2
              go_ret2
              rw [HRR.out]
              exact ⟨none, 0, rfl, Rd.nil _ _, Hb7.out⟩
            · have HRR := Lib.hid hR
              subst hqp
              have hcv1 := conv_bytes w7 A7 q.length c7 q rfl hn7.rd
              have hcv2 := conv_bytes w7 A q.length ca q rfl (HA.out.ext Hb7.out)
              obtain ⟨Z, hZ⟩ : ∃ Z : ByteArray, (⟨q.toArray⟩ : ByteArray) = Z := ⟨_, rfl⟩
              rw [hZ] at hcv1 hcv2
              clear hZ hR hn7 hb7 HE
              go_wp2
              go_ret2
              rw [HRR.out]
              exact ⟨A2, c2, rfl, HrL7.out, Hb7.out⟩
          · have HGn : Hid ((rrA L).2 = false → R = ([], 2)) := Lib.hid (fun h => HG.out.1 (by
              show rrP L = none
              unfold rrA at h
              cases hrr : rrP L with
              | none => rfl
              | some o => rw [hrr] at h; cases h))
            have HGs : Hid ((rrA L).2 = true → R = chkP runsB p (rrA L).1) := Lib.hid (fun h => HG.out.2 (rrA L).1 (by
              show rrP L = some (rrA L).1
              unfold rrA at h ⊢
              cases hrr : rrP L with
              | none => rw [hrr] at h; cases h
              | some o => rfl))
            have HDl := Lib.hid (rrunsl_any A1 c1 L wr hrow Hev.out (by have := Hal.out; omega))
            have HML := Lib.hid (rrA_len L)
            generalize rrA L = M at *
            obtain ⟨M, ok⟩ := M
            simp only at HGn HGs HDl HML
            clear hrow HG
            cases ok with
            | false =>
              have HR := Lib.hid (HGn.out rfl)
              clear HGn HGs
              go_wp2_with fail
              refine HDl.out.mono ?_
              rintro e wd ⟨A2, c2, rfl, hN2⟩
              have Hbw2 := Lib.hid (ext_trans Hbw.out hN2.bel)
              clear hN2 HDl
              go_wp2
              go_ret2
              rw [HR.out]
              exact ⟨none, 0, rfl, Rd.nil _ _, Hbw2.out⟩
            | true =>
              have HR := Lib.hid (HGs.out rfl)
              clear HGn HGs
              go_wp2_with fail
              refine HDl.out.mono ?_
              rintro e wd ⟨A2, c2, rfl, hN2⟩
              have hlc : M.length ≤ c2 := hN2.row.le
              have hcm : c2 ≤ maxLen := by
                rcases hN2.row.2 with ⟨_, _, h⟩ | ⟨_, _, _, _, _, h, _⟩
                · rw [h]; exact Nat.zero_le _
                · exact h
              have HrL : Hid (Rd wd A2 (M.map iv)) := Lib.hid hN2.rd
              have Hbw2 := Lib.hid (ext_trans Hbw.out hN2.bel)
              clear HDl
              have hML : M.length ≤ 1099511627776 := by have := HML.out; omega
              have HE := Lib.hid (rruns_any A2 c2 M wd hN2.rd hML)
              clear hN2 hlc hcm hML
              have hcs := chk_cases runsB p M
              rw [← HR.out] at hcs
              generalize ansP M (runsB M) = a at *
              obtain ⟨q, er⟩ := a
              simp only at HE hcs
              clear HR
              go_wp2_with fail
              refine HE.out.mono ?_
              rintro e w7 ⟨A7, c7, rfl, hn7, hb7⟩
              have Hb7 := Lib.hid (ext_trans Hbw2.out hb7)
              have HrL7 := Lib.hid (HrL.out.ext hb7)
              rcases hcs with ⟨rfl, hR⟩ | ⟨rfl, hqp, hR⟩ | ⟨rfl, hqp, hR⟩
              · have HRR := Lib.hid hR
                clear hR hn7 hb7 HE
                go_wp2
                go_ret2
                rw [HRR.out]
                exact ⟨none, 0, rfl, Rd.nil _ _, Hb7.out⟩
              · have HRR := Lib.hid hR
                have hcv1 := conv_bytes w7 A7 q.length c7 q rfl hn7.rd
                have hcv2 := conv_bytes w7 A p.length ca p rfl (HA.out.ext Hb7.out)
                have hne2 : ((⟨q.toArray⟩ : ByteArray).toList == (⟨p.toArray⟩ : ByteArray).toList) = false := ne_strP hqp
                obtain ⟨Z, hZ⟩ : ∃ Z : ByteArray, (⟨q.toArray⟩ : ByteArray) = Z := ⟨_, rfl⟩
                obtain ⟨Y, hY'⟩ : ∃ Z : ByteArray, (⟨p.toArray⟩ : ByteArray) = Z := ⟨_, rfl⟩
                rw [hZ] at hcv1 hne2
                rw [hY'] at hcv2 hne2
                clear hZ hY' hqp hR hn7 hb7 HE
                go_wp2
                go_ret2
                rw [HRR.out]
                exact ⟨none, 0, rfl, Rd.nil _ _, Hb7.out⟩
              · have HRR := Lib.hid hR
                subst hqp
                have hcv1 := conv_bytes w7 A7 q.length c7 q rfl hn7.rd
                have hcv2 := conv_bytes w7 A q.length ca q rfl (HA.out.ext Hb7.out)
                obtain ⟨Z, hZ⟩ : ∃ Z : ByteArray, (⟨q.toArray⟩ : ByteArray) = Z := ⟨_, rfl⟩
                rw [hZ] at hcv1 hcv2
                clear hZ hR hn7 hb7 HE
                go_wp2
                go_ret2
                rw [HRR.out]
                exact ⟨A2, c2, rfl, HrL7.out, Hb7.out⟩
      · have hln : 0 < rest.length := List.length_pos_iff.2 hne
        have hli : (0 : Int) < (rest.length : Int) := by omega
        have hld : decide ((0 : Int) < (rest.length : Int)) = true := decide_eq_true hli
        obtain ⟨k, hk⟩ : ∃ k, m = k + 1 := ⟨m - 1, by have := Hrd.out.fuel; omega⟩
        have HRs := Lib.hid (Rkg.step (by rw [← hk]; exact Hrd.out) hne)
        have hal : acc.length + 1 ≤ 1000001 := by have := Hrd.out.le rfl; omega
        have hk2 : acc.length + 1 ≤ maxLen := by unfold maxLen; omega
        have hk3 : (acc.length + 1) * 8 ≤ 140737488355328 := by omega
        have hrl : rest.length ≤ 1099511627776 := by have := Hrd.out.le rfl; omega
        have HNU := Lib.hid (refnum_st _ g rest false wr Hr.out hrl)
        have Hal := Lib.hid hal
        generalize stNum rest false = q at *
        obtain ⟨x, rest', bd'⟩ := q
        simp only at HRs HNU
        clear hk hal hnil hne HWay HBd HGd
        go_wp2_with fail
        refine HNU.out.mono ?_
        rintro e x1 ⟨rfl, hr5, ho5⟩
        have hrow : RowO x1 3 1 A1 acc.length c1 ((intsN acc).map iv) := by
          have h1 := HS.out.row.only ho5 (fun k hk e => by have := HS.out.new k hk; have := Hgl.out; omega)
          rw [intsN_length] at h1
          exact h1
        have Hrow := Lib.hid hrow
        have Hr5' := Lib.hid hr5
        have Ho5 := Lib.hid (Ho.out.trans ho5 (fun _ _ h => h))
        clear hrow hr5 ho5
        go_wp2_with (at_builtin
                     refine wpList_appO _ rfl (.tmp 32) (.tmp 35) _ rfl 3 _ 1 8 Try.underlying22 info_int rfl A1 _ c1 _ rfl (Hrow.out.alloc _) (some ⟨x1.heap.size, 0, none⟩) 1 1 [.int .i64 (x : Int)] rfl rfl (Rd.lit _ #[.int .i64 (x : Int)] _) ?_ ?_ hk2 hk3 ?_
                     · simp; rfl
                     · intro h; cases h
                     intro A3 c3 w3 hrow3 honly3 hA3
                     have hx1 : w5.heap.size ≤ (x1.alloc (.cells #[.int .i64 (x : Int)] 3)).heap.size := by rw [World.size_alloc]; have := Ho5.out.size; omega
                     have hF3 : Fr w5 w3 A3 c3 (intsN (acc ++ [x])) := by
                       rw [intsN_append]
                       exact HS.out.grow (S := fun _ => True) hx1 (by rw [intsN_length]; exact hrow3) hA3
                     have hO3 := HS.out.only (Ho5.out.alloc (.cells #[.int .i64 (x : Int)] 3)) honly3
                     have hR3 : RRd w3 (fun k => k < g ∨ k = g) g rest' bd' := (Hr5'.out.ext (ext_alloc (Below.refl _ _) _)).only honly3 (fun k hk hi => by have h1 := HS.out.new k hi; have h2 := Hgl.out; have h3 := Hb5.out.size; omega)
                     have HF3 := Lib.hid hF3
                     have HO3 := Lib.hid hO3
                     have HR3 := Lib.hid hR3
                     clear hrow3 honly3 hA3 hx1 hF3 hO3 hR3)
        go_roundw
        case rel => exact ⟨k, acc ++ [x], rest', bd', A3, c3, by rw [List.length_append]; rfl, HRs, HR3.out, HF3.out, HO3.out⟩
        case measure => simp [sLen]; have := Hal.out; have := Hrd.out.le rfl; omega
end Go.Proofs.Ythceajadgjnnmaa

/-
  The laws' helpers numbers and known; PackTells, PackDecodes. No statement of the seat is proved here.
-/
namespace Go.Proofs.Ythceajadgjnnmaa
open Go Go.RowKit
set_option maxRecDepth 100000

set_option maxHeartbeats 4000000 in
theorem numbers_any (A : Option Addr) (c : Nat) (xs : List Int) (B : Option Addr) (d : Nat) (ys : List Int) (w : World) (hA : Rd w A (xs.map iv)) (hB : Rd w B (ys.map iv)) (hx : xs.length ≤ 1000000) (hy : ys.length ≤ 1000000) :
    Calls Try.prog 24 #[.slice A xs.length c, .slice B ys.length d] w fun e w' => e = .returned (.bool (decide (xs = ys))) ∧ Below w.heap.size w w' := by
  by_cases hl : xs.length = ys.length
  case neg =>
    have hli : ¬ (xs.length : Int) = (ys.length : Int) := by omega
    have hlb : ((xs.length : Int) != (ys.length : Int)) = true := by simp; omega
    have HF : Hid (decide (xs = ys) = false) := Lib.hid (decide_eq_false fun h => hl (by rw [h]))
    clear hA hB hl
    go_enter Try.func24, Try.ntmps24
    go_wp2
    go_ret
    exact ⟨by rw [HF.out]; rfl, Below.refl _ _⟩
  rw [← hl]
  have hn : (xs.length : Int) ≤ 1000000 := by omega
  have Hl := Lib.hid hl
  have HA := Lib.hid hA
  have HB := Lib.hid hB
  have HT : Hid ((∀ j : Nat, j < xs.length → xs[j]? = ys[j]?) → decide (xs = ys) = true) := Lib.hid (fun h => decide_eq_true (List.ext_getElem? fun j => by
    by_cases hj : j < xs.length
    · exact h j hj
    · rw [List.getElem?_eq_none (by omega), List.getElem?_eq_none (by omega)]))
  have HF : Hid (∀ j : Nat, xs[j]? ≠ ys[j]? → decide (xs = ys) = false) := Lib.hid (fun j h => decide_eq_false fun h2 => h (by rw [h2]))
  generalize decide (xs = ys) = D at *
  clear hA hB hl hy
  go_enter Try.func24, Try.ntmps24
  go_wp2
  go_loopw [5] (fun i wr => ∃ k : Nat, k ≤ xs.length ∧ i = .int .i64 (k : Int) ∧ Hid (∀ j : Nat, j < k → xs[j]? = ys[j]?) ∧ Below w.heap.size w wr) (fun i _ => xs.length - (intOf i).toNat)
  case atStart => exact ⟨0, Nat.zero_le _, rfl, Lib.hid (fun j h => absurd h (by omega)), Below.refl _ _⟩
  case round =>
    obtain ⟨k, hk, rfl, Hno, hb⟩ := hrel
    by_cases hlt : k < xs.length
    · have hki : (k : Int) < (xs.length : Int) := by omega
      have hlt2 : k < ys.length := by have := Hl.out; omega
      obtain ⟨ad, hB1, hcell⟩ := rd_int (HA.out.ext hb) hlt
      subst hB1
      obtain ⟨ad2, hB2, hcell2⟩ := rd_int (HB.out.ext hb) hlt2
      subst hB2
      have HFk : Hid (xs[k] ≠ ys[k] → D = false) := Lib.hid (fun h => HF.out k (by rw [List.getElem?_eq_getElem hlt, List.getElem?_eq_getElem hlt2]; simpa using h))
      have HTk : Hid (xs[k] = ys[k] → ∀ j : Nat, j < k + 1 → xs[j]? = ys[j]?) := Lib.hid (fun h j hj => by
        rcases Nat.lt_succ_iff_lt_or_eq.1 hj with h3 | rfl
        · exact Hno.out j h3
        · rw [List.getElem?_eq_getElem hlt, List.getElem?_eq_getElem hlt2, h])
      have Hb := Lib.hid hb
      generalize xs[k] = x at *
      generalize ys[k] = y at *
      clear hb
      by_cases hxy : x = y
      · subst hxy
        have Ht := Lib.hid (HTk.out rfl)
        clear HFk HTk
        go_wp2_with fail
        go_quiet (fail)
        go_wp2
        go_roundw
        case rel => exact ⟨k + 1, by omega, by go_num, Ht, ext_drewN Hb.out _⟩
        case measure => simp [intOf]; omega
      · have hne : (x != y) = true := by simpa using hxy
        have Hf := Lib.hid (HFk.out hxy)
        clear HFk HTk hxy
        go_wp2_with fail
        go_quiet (fail)
        go_wp2
        go_ret
        exact ⟨by rw [Hf.out]; rfl, ext_drewN Hb.out _⟩
    · obtain rfl : k = xs.length := by omega
      have Ht := Lib.hid (HT.out Hno.out)
      have Hb := Lib.hid hb
      clear hb
      go_wp2
      go_ret
      exact ⟨by rw [Ht.out]; rfl, Hb.out⟩

theorem best_seven : ansP [7, 7, 7, 7, 7] (bestP [7, 7, 7, 7, 7]) = ([2, 1, 5, 7], 0) := by
  have h1 : mayP [7, 7, 7, 7, 7] = true := by decide
  have hr : runsP [7, 7, 7, 7, 7] = [(5, 7)] := by decide
  have hd : deltasP [7, 7, 7, 7, 7] = [14, 0, 0, 0, 0] := by decide
  have e0 : dig 0 = [0] := dig_lt (by omega)
  have e1 : dig 1 = [1] := dig_lt (by omega)
  have e2 : dig 2 = [2] := dig_lt (by omega)
  have e5 : dig 5 = [5] := dig_lt (by omega)
  have e7 : dig 7 = [7] := dig_lt (by omega)
  have e14 : dig 14 = [14] := dig_lt (by omega)
  have c0 : clamp 0 = 0 := rfl
  have c1 : clamp 1 = 1 := rfl
  have c2 : clamp 2 = 2 := rfl
  have c5 : clamp 5 = 5 := rfl
  have c7 : clamp 7 = 7 := rfl
  have c14 : clamp 14 = 14 := rfl
  unfold ansP
  rw [if_pos h1]
  have hp : plainP [7, 7, 7, 7, 7] = [0, 5, 7, 7, 7, 7, 7] := by
    unfold plainP
    simp [numsB_cons, numsB_nil, c0, c5, c7, e0, e5, e7]
  have hdl : deltaP [7, 7, 7, 7, 7] = [1, 5, 14, 0, 0, 0, 0] := by
    unfold deltaP
    rw [hd]
    simp [numsB_cons, numsB_nil, c0, c1, c5, c14, e0, e1, e5, e14]
  have hrn : runsB [7, 7, 7, 7, 7] = [2, 1, 5, 7] := by
    unfold runsB
    rw [hr]
    simp [pairsB, numsB_cons, numsB_nil, c1, c2, c5, c7, e1, e2, e5, e7]
  unfold bestP
  rw [hp, hdl, hrn]
  rfl
set_option maxHeartbeats 2000000 in
theorem known16_any (w : World) : Calls Try.prog 21 #[] w fun e w' => e = .returned (.bool true) ∧ Below w.heap.size w w' := by
  have H := Lib.hid (fun (W : World) (ad : Addr) (hW : Rd W (some ad) ([7, 7, 7, 7, 7].map iv)) => bBest_any (some ad) 5 [7, 7, 7, 7, 7] W hW)
  rw [best_seven] at H
  have Hr := Lib.hid (Rd.lit w #[.int .i64 7, .int .i64 7, .int .i64 7, .int .i64 7, .int .i64 7] 3)
  go_enter Try.func21, Try.ntmps21
  go_wp2_with fail
  refine (H.out _ _ Hr.out).mono ?_
  rintro e w1 ⟨A1, c1, rfl, hn1, hb1⟩
  have hcv := conv_bytes w1 A1 4 c1 [2, 1, 5, 7] rfl hn1.rd
  have hln : ([2, 1, 5, 7] : List UInt8).length = 4 := rfl
  have Hb1 : Hid (Below w.heap.size w w1) := Lib.hid (ext_trans (ext_alloc (Below.refl _ _) _) hb1)
  clear hn1 hb1 H
  go_wp2
  go_ret
  exact ⟨rfl, Hb1.out⟩
end Go.Proofs.Ythceajadgjnnmaa

/-
  Lengths: as many alike numbers as one likes, numbers that rise by little; reading back in every way. No statement of the seat is proved here.
-/
namespace Go.Proofs.Ythceajadgjnnmaa
open Go Go.RowKit
set_option maxRecDepth 100000

theorem getD_rep (v : Int) {n k : Nat} (h : k < n) : (List.replicate n v).getD k 0 = v := by
  rw [List.getD_eq_getElem?_getD, List.getElem?_replicate, if_pos h]
  rfl
theorem runsTo_rep (v : Int) (n : Nat) : ∀ k, k + 1 ≤ n → runsTo (List.replicate n v) (k + 1) = [(k + 1, v)]
  | 0, h => by
    rw [runsTo_new _ _ (.inl rfl), getD_rep v (by omega)]
    rfl
  | k + 1, h => by
    have e := runsTo_rep v n k (by omega)
    rw [runsTo, if_neg (by rw [Nat.add_sub_cancel, getD_rep v (by omega), getD_rep v (by omega)]; simp), e]
    rfl
theorem dig_three (x : Nat) (h : x ≤ 32768) : (dig (clamp (x : Int))).length ≤ 3 :=
  dig_len 3 _ (by rw [clamp_of_nat (by omega)]; have : (128 : Nat) ^ 3 = 2097152 := rfl; omega) (by omega)
theorem dig_six {v : Int} (h0 : 0 ≤ v) (h1 : v ≤ 2199023255552) : (dig (clamp v)).length ≤ 6 :=
  dig_len 6 _ (by have := clamp_le' h0 (by omega); have : (128 : Nat) ^ 6 = 4398046511104 := rfl; omega) (by omega)
theorem dig_small1 {v : Int} (h0 : 0 ≤ v) (h1 : v ≤ 127) : (dig (clamp v)).length ≤ 1 :=
  dig_len 1 _ (by have := clamp_le' h0 (by omega); have : (128 : Nat) ^ 1 = 128 := rfl; omega) (by omega)
theorem runs_rep_len (v : Int) (n : Nat) (hn : n ≤ 32768) (h0 : 0 ≤ v) (h1 : v ≤ 1099511627776) : (runsB (List.replicate n v)).length ≤ 12 := by
  have c2 : (dig (clamp 2)).length ≤ 1 := dig_small1 (by omega) (by omega)
  have c0 : (dig (clamp 0)).length ≤ 1 := dig_small1 (by omega) (by omega)
  have c1 : (dig (clamp 1)).length ≤ 1 := dig_small1 (by omega) (by omega)
  have cv : (dig (clamp v)).length ≤ 6 := dig_six h0 (by omega)
  unfold runsB runsP
  rw [List.length_replicate]
  rcases n with _ | n
  · have e : runsTo (List.replicate 0 v) 0 = [] := rfl
    rw [e]
    have e2 : numsB [2, (([] : List (Nat × Int)).length : Int)] ++ pairsB [] = dig (clamp 2) ++ dig (clamp 0) := by simp [pairsB, numsB_cons, numsB_nil]
    rw [e2, List.length_append]
    omega
  · rw [runsTo_rep v (n + 1) n (Nat.le_refl _)]
    have e2 : numsB [2, (([(n + 1, v)] : List (Nat × Int)).length : Int)] ++ pairsB [(n + 1, v)] = dig (clamp 2) ++ (dig (clamp 1) ++ (dig (clamp ((n + 1 : Nat) : Int)) ++ dig (clamp v))) := by
      simp [pairsB, numsB_cons, numsB_nil]
    have c3 := dig_three (n + 1) hn
    rw [e2, List.length_append, List.length_append, List.length_append]
    omega
theorem best_rep_len (v : Int) (n : Nat) (hn : n ≤ 32768) (h0 : 0 ≤ v) (h1 : v ≤ 1099511627776) : (bestP (List.replicate n v)).length ≤ 12 :=
  Nat.le_trans (best_le _ 2 (Nat.le_refl _)) (runs_rep_len v n hn h0 h1)
theorem may_rep (v : Int) (n : Nat) (hn : n ≤ 32768) (h0 : 0 ≤ v) (h1 : v ≤ 1099511627776) : mayP (List.replicate n v) = true :=
  (mayP_iff _).2 ⟨by rw [List.length_replicate]; exact hn, fun x hx => by rw [List.eq_of_mem_replicate hx]; exact ⟨h0, h1⟩⟩

/-! ### rising -/
def low5 (x : Int) : Int := bits .and .i64 x 31
theorem low5_ok (x : Int) : 0 ≤ low5 x ∧ low5 x ≤ 31 := by
  have hx : (BitVec.ofInt 64 x &&& BitVec.ofInt 64 31).toNat ≤ 31 := by
    rw [BitVec.toNat_and]
    exact Nat.le_trans Nat.and_le_right (by decide)
  have h : low5 x = ((BitVec.ofInt 64 x &&& BitVec.ofInt 64 31).toNat : Int) := by
    show IntKind.i64.wrap ((BitVec.ofInt 64 x &&& BitVec.ofInt 64 31).toNat : Int) = _
    rw [IntKind.wrap_i64]; omega
  omega
/-- the number that stands at a place -/
def riseK (f : Int) (xs : List Int) : Nat → Int
  | 0 => f
  | k + 1 => riseK f xs k + low5 (xs.getD k 0)
def riseTo (f : Int) (xs : List Int) (k : Nat) : List Int := (List.range (k + 1)).map (riseK f xs)
theorem riseTo_len (f : Int) (xs : List Int) (k : Nat) : (riseTo f xs k).length = k + 1 := by simp [riseTo]
theorem riseTo_zero (f : Int) (xs : List Int) : riseTo f xs 0 = [f] := rfl
theorem riseTo_succ (f : Int) (xs : List Int) (k : Nat) : riseTo f xs (k + 1) = riseTo f xs k ++ [riseK f xs k + low5 (xs.getD k 0)] := by
  unfold riseTo
  rw [List.range_succ, List.map_append]
  rfl
theorem riseTo_get (f : Int) (xs : List Int) (k j : Nat) (h : j < k + 1) : (riseTo f xs k)[j]? = some (riseK f xs j) := by simp [riseTo, h]
theorem riseK_ok {f : Int} (xs : List Int) (h0 : 0 ≤ f) : ∀ k : Nat, 0 ≤ riseK f xs k ∧ riseK f xs k ≤ f + 31 * (k : Int)
  | 0 => ⟨h0, by simp [riseK]⟩
  | k + 1 => by
    have := riseK_ok xs h0 k
    have h := low5_ok (xs.getD k 0)
    rw [riseK]
    omega
theorem may_rise {f : Int} (xs : List Int) {k : Nat} (h0 : 0 ≤ f) (h1 : f ≤ 549755813888) (hk : k ≤ 300) : mayP (riseTo f xs k) = true := by
  refine (mayP_iff _).2 ⟨by rw [riseTo_len]; omega, fun x hx => ?_⟩
  unfold riseTo at hx
  obtain ⟨j, hj, rfl⟩ := List.mem_map.1 hx
  have := riseK_ok xs h0 j
  have := List.mem_range.1 hj
  omega
theorem rise_deltas {f : Int} (xs : List Int) {n : Nat} (h0 : 0 ≤ f) (h1 : f ≤ 549755813888) : ∀ k, k ≤ n + 1 → (numsB (deltasTo (riseTo f xs n) k)).length ≤ 5 + k
  | 0, _ => by simp [deltasTo, numsB_nil]
  | k + 1, hk => by
    have ih := rise_deltas (n := n) xs h0 h1 k (by omega)
    rw [deltasTo_succ, numsB_append, List.length_append, numsB_one]
    have hg : (riseTo f xs n).getD k 0 = riseK f xs k := by rw [List.getD_eq_getElem?_getD, riseTo_get _ _ _ _ hk]; rfl
    rcases k with _ | k
    · have e : foldP ((riseTo f xs n).getD 0 0 - prevP (riseTo f xs n) 0) = 2 * f := by
        rw [hg]
        unfold prevP foldP
        rw [if_pos rfl, if_neg (by simp [riseK]; omega)]
        simp [riseK]
      rw [e]
      have := dig_six (v := 2 * f) (by omega) (by omega)
      have h00 : (numsB (deltasTo (riseTo f xs n) 0)).length = 0 := by simp [deltasTo, numsB_nil]
      omega
    · have hp : prevP (riseTo f xs n) (k + 1) = riseK f xs k := by
        unfold prevP
        rw [if_neg (by omega), Nat.add_sub_cancel, List.getD_eq_getElem?_getD, riseTo_get _ _ _ _ (by omega)]
        rfl
      have hl := low5_ok (xs.getD k 0)
      have e : foldP ((riseTo f xs n).getD (k + 1) 0 - prevP (riseTo f xs n) (k + 1)) = 2 * low5 (xs.getD k 0) := by
        rw [hg, hp, riseK]
        unfold foldP
        rw [if_neg (by omega)]
        omega
      rw [e]
      have := dig_small1 (v := 2 * low5 (xs.getD k 0)) (by omega) (by omega)
      omega
theorem best_rise_len {f : Int} (xs : List Int) {n : Nat} (h0 : 0 ≤ f) (h1 : f ≤ 549755813888) (hn : n ≤ 300) : (bestP (riseTo f xs n)).length ≤ 10 + (riseTo f xs n).length := by
  refine Nat.le_trans (best_le _ 1 (by omega)) ?_
  show (deltaP _).length ≤ _
  unfold deltaP deltasP
  rw [riseTo_len]
  have := rise_deltas (n := n) xs h0 h1 (n + 1) (Nat.le_refl _)
  have c1 : (dig (clamp 1)).length ≤ 1 := dig_small1 (by omega) (by omega)
  have c2 := dig_three (n + 1) (by omega)
  have e : numsB [1, ((n + 1 : Nat) : Int)] = dig (clamp 1) ++ dig (clamp ((n + 1 : Nat) : Int)) := by simp [numsB_cons, numsB_nil]
  rw [e, List.length_append, List.length_append]
  omega

/-! ### read back -/
theorem decR_some {p : List UInt8} {l : List Int} (h : decP p = some l) : decR p = (l, 0) := by unfold decR; rw [h]
theorem encP_len {w : Nat} {l : List Int} (hw : w ≤ 2) (h : mayP l = true) (hl : l.length ≤ 100000) : (encP w l).length ≤ 2000000 := by
  have h3 := numsB_len9 l
  match w, hw with
  | 0, _ =>
    show (plainP l).length ≤ _
    unfold plainP
    have h1 := numsB_len9 [0, (l.length : Int)]
    rw [List.length_append]
    simp only [List.length_cons, List.length_nil] at h1
    omega
  | 1, _ =>
    show (deltaP l).length ≤ _
    unfold deltaP
    have h1 := numsB_len9 [1, (l.length : Int)]
    have h2 := numsB_len9 (deltasP l)
    have h4 : (deltasP l).length = l.length := deltasTo_len _ _
    rw [List.length_append]
    simp only [List.length_cons, List.length_nil] at h1
    omega
  | 2, _ =>
    show (runsB l).length ≤ _
    unfold runsB
    have h1 := numsB_len9 [2, ((runsP l).length : Int)]
    have h2 : (runsP l).length ≤ l.length := runsTo_len _ _
    have h5 : ∀ rs : List (Nat × Int), (pairsB rs).length ≤ 18 * rs.length := by
      intro rs
      induction rs with
      | nil => simp [pairsB]
      | cons r rs ih =>
        have h6 := numsB_len9 [(r.1 : Int), r.2]
        have e : pairsB (r :: rs) = numsB [(r.1 : Int), r.2] ++ pairsB rs := by simp [pairsB]
        rw [e, List.length_append, List.length_cons]
        simp only [List.length_cons, List.length_nil] at h6
        omega
    have h7 := h5 (runsP l)
    rw [List.length_append]
    simp only [List.length_cons, List.length_nil] at h1
    omega
theorem best_len {l : List Int} (h : mayP l = true) (hl : l.length ≤ 100000) : (bestP l).length ≤ 2000000 := Nat.le_trans (best_le l 0 (by omega)) (encP_len (by omega) h hl)
theorem ansP_of {l : List Int} (h : mayP l = true) (b : List UInt8) : ansP l b = (b, 0) := by unfold ansP; rw [if_pos h]
theorem ansP_no {l : List Int} (h : mayP l = false) (b : List UInt8) : ansP l b = ([], 1) := by unfold ansP; rw [h]; rfl
/-- a row that is one of the four ways -/
def WayP (l : List Int) (b : List UInt8) : Prop := decR b = (l, 0) ∧ (bestP l).length ≤ b.length ∧ b.length ≤ 2000000
theorem wayP_enc {w : Nat} {l : List Int} (hw : w ≤ 2) (h : mayP l = true) (hl : l.length ≤ 100000) : WayP l (encP w l) := ⟨decR_some (dec_enc hw h), best_le l w hw, encP_len hw h hl⟩
theorem wayP_best {l : List Int} (h : mayP l = true) (hl : l.length ≤ 100000) : WayP l (bestP l) := ⟨decR_some (dec_best h), Nat.le_refl _, best_len h hl⟩
end Go.Proofs.Ythceajadgjnnmaa

/-
  The walks of PackBack, PackRuns and PackRises. No statement of the seat is proved here.
-/
namespace Go.Proofs.Ythceajadgjnnmaa
open Go Go.RowKit
set_option maxRecDepth 100000

/-- what a way answers -/
def WayC (f : FuncId) (A : Option Addr) (n c : Nat) (b : List UInt8) (W : World) : Prop :=
  Calls Try.prog f #[.slice A n c] W fun e w' => ∃ A' c', e = .returned (.tuple #[.slice A' b.length c', .int .i64 0]) ∧ Rd w' A' (b.map bv) ∧ b.length ≤ c' ∧ Below W.heap.size W w'
theorem way_of {f : FuncId} {A : Option Addr} {n c : Nat} {l : List Int} {W : World} {b : List UInt8} (hm : mayP l = true)
    (h : Calls Try.prog f #[.slice A n c] W fun e w' => ∃ A' c', e = .returned (.tuple #[.slice A' (ansP l b).1.length c', .int .i64 (ansP l b).2]) ∧ New W w' A' c' (ansP l b).1 ∧ Below W.heap.size W w') : WayC f A n c b W := by
  rw [ansP_of hm] at h
  exact h.mono fun e w' ⟨A', c', he, hn, hb⟩ => ⟨A', c', he, hn.rd, by have := Own.cap hn; simpa using this, hb⟩
/-- what is read back -/
theorem read_back {l : List Int} {b : List UInt8} (h : decR b = (l, 0)) (hb : b.length ≤ 2000000) (A : Option Addr) (c : Nat) (W : World) (hA : Rd W A (b.map bv)) (hc : b.length ≤ c) :
    Calls Try.prog 22 #[.slice A b.length c] W fun e w' => ∃ B' c', e = .returned (.tuple #[.slice B' l.length c', .int .i64 0]) ∧ Rd w' B' (l.map iv) ∧ Below W.heap.size W w' := by
  have H := decode_any b A c W hA hc (by omega)
  rw [h] at H
  exact H
theorem same_rows (A : Option Addr) (c : Nat) (B : Option Addr) (d : Nat) (l : List Int) (w : World) (hA : Rd w A (l.map iv)) (hB : Rd w B (l.map iv)) (hl : l.length ≤ 1000000) :
    Calls Try.prog 24 #[.slice A l.length c, .slice B l.length d] w fun e w' => e = .returned (.bool true) ∧ Below w.heap.size w w' := by
  have HN := numbers_any A c l B d l w hA hB hl hl
  have hdd : decide (l = l) = true := decide_eq_true rfl
  rw [hdd] at HN
  exact HN
/-- four rows, each read back as the numbers, none shorter than the last -/
def Four (l : List Int) (m : Nat) (w : World) (ad : Addr) : Prop := ∀ j, j < 4 → ∃ B b c, w.cell? (ad.add j) = some (.slice B b.length c) ∧ Rd w B (b.map bv) ∧ b.length ≤ c ∧ decR b = (l, 0) ∧ m ≤ b.length ∧ b.length ≤ 2000000
theorem Four.ext {l : List Int} {m : Nat} {w w' : World} {ad : Addr} (h : Four l m w ad) (hb : Below w.heap.size w w') : Four l m w' ad := fun j hj => by
  obtain ⟨B, b, c, h1, h2, h3⟩ := h j hj
  exact ⟨B, b, c, cell_only h1 (Only.of_ext (S := fun _ => False) hb) (fun h => h), h2.ext hb, h3⟩
theorem four_lit {l : List Int} {m : Nat} {w : World} {A1 A2 A3 A4 : Option Addr} {c1 c2 c3 c4 : Nat} {b1 b2 b3 b4 : List UInt8} {t : TypeId}
    (h1 : Rd w A1 (b1.map bv) ∧ b1.length ≤ c1 ∧ decR b1 = (l, 0) ∧ m ≤ b1.length ∧ b1.length ≤ 2000000) (h2 : Rd w A2 (b2.map bv) ∧ b2.length ≤ c2 ∧ decR b2 = (l, 0) ∧ m ≤ b2.length ∧ b2.length ≤ 2000000)
    (h3 : Rd w A3 (b3.map bv) ∧ b3.length ≤ c3 ∧ decR b3 = (l, 0) ∧ m ≤ b3.length ∧ b3.length ≤ 2000000) (h4 : Rd w A4 (b4.map bv) ∧ b4.length ≤ c4 ∧ decR b4 = (l, 0) ∧ m ≤ b4.length ∧ b4.length ≤ 2000000) :
    Four l m (w.alloc (.cells #[.slice A1 b1.length c1, .slice A2 b2.length c2, .slice A3 b3.length c3, .slice A4 b4.length c4] t)) ⟨w.heap.size, 0, none⟩ := by
  intro j hj
  have hr := Rd.lit w #[.slice A1 b1.length c1, .slice A2 b2.length c2, .slice A3 b3.length c3, .slice A4 b4.length c4] t
  have go : ∀ (B : Option Addr) (b : List UInt8) (c : Nat), (#[Value.slice A1 b1.length c1, .slice A2 b2.length c2, .slice A3 b3.length c3, .slice A4 b4.length c4] : Array Value).toList[j]? = some (.slice B b.length c) → (Rd w B (b.map bv) ∧ b.length ≤ c ∧ decR b = (l, 0) ∧ m ≤ b.length ∧ b.length ≤ 2000000) →
      ∃ B b c, (w.alloc (.cells #[.slice A1 b1.length c1, .slice A2 b2.length c2, .slice A3 b3.length c3, .slice A4 b4.length c4] t)).cell? ((⟨w.heap.size, 0, none⟩ : Addr).add j) = some (.slice B b.length c) ∧ Rd (w.alloc (.cells #[.slice A1 b1.length c1, .slice A2 b2.length c2, .slice A3 b3.length c3, .slice A4 b4.length c4] t)) B (b.map bv) ∧ b.length ≤ c ∧ decR b = (l, 0) ∧ m ≤ b.length ∧ b.length ≤ 2000000 := by
    intro B b c hx hy
    obtain ⟨ad, e, hc⟩ := hr j _ hx
    injection e with e
    subst e
    exact ⟨B, b, c, hc, hy.1.alloc _, hy.2⟩
  rcases j with _ | _ | _ | _ | j
  · exact go A1 b1 c1 rfl h1
  · exact go A2 b2 c2 rfl h2
  · exact go A3 b3 c3 rfl h3
  · exact go A4 b4 c4 rfl h4
  · omega

set_option maxHeartbeats 8000000 in
theorem pack_back (A : Option Addr) (n c : Nat) (l : List Int) (w : World) (hn : n = l.length) (hA : Rd w A (l.map iv)) (hm : n ≤ maxLen) :
    Calls Try.prog 5 #[.slice A n c] w fun e w' => e = .returned (.bool true) ∧ Below w.heap.size w w' := by
  subst hn
  unfold maxLen at hm
  have HKn := Lib.hid known16_any
  by_cases h4 : l.length ≤ 400
  case neg =>
    have hi : (400 : Int) < (l.length : Int) := by omega
    clear hA
    go_enter Try.func5, Try.ntmps5
    go_wp2
    go_ret
    exact ⟨rfl, Below.refl _ _⟩
  have hni : ¬ (400 : Int) < (l.length : Int) := by omega
  have hli : (l.length : Int) ≤ 400 := by omega
  have HA := Lib.hid hA
  have HM : Hid ((∀ j (hj : j < l.length), okP l[j] = true) → mayP l = true) := Lib.hid (fun h => by
    unfold mayP
    rw [decide_eq_true (by omega), Bool.true_and, List.all_eq_true]
    intro x hx
    obtain ⟨j, hj, rfl⟩ := List.mem_iff_getElem.1 hx
    exact h j hj)
  clear hA
  go_enter Try.func5, Try.ntmps5
  go_wp2
  go_loop [3] (fun i => ∃ k : Nat, k ≤ l.length ∧ i = .int .i64 (k : Int) ∧ ∀ j (hj : j < l.length), j < k → okP l[j] = true) (fun i => l.length - (intOf i).toNat)
  case atStart => exact ⟨0, Nat.zero_le _, rfl, fun j _ h => absurd h (by omega)⟩
  case round =>
    obtain ⟨k, hk, rfl, hno⟩ := hrel
    have Hno := Lib.hid hno
    by_cases hlt : k < l.length
    · have hki : (k : Int) < (l.length : Int) := by omega
      obtain ⟨ad, hB, hcell⟩ := rd_int HA.out hlt
      subst hB
      have HF : Hid (okP l[k] = true → ∀ j (hj : j < l.length), j < k + 1 → okP l[j] = true) := Lib.hid (fun h j hj hj2 => by
        rcases Nat.lt_succ_iff_lt_or_eq.1 hj2 with h3 | rfl
        · exact hno j hj h3
        · exact h)
      have hok : okP l[k] = decide (0 ≤ l[k] ∧ l[k] ≤ 1099511627776) := rfl
      clear hno
      generalize l[k] = x at *
      by_cases h0 : x < 0
      · have d0 : decide (x < 0) = true := decide_eq_true h0
        clear HF hok
        go_wp2_with fail
        refine (HKn.out w).mono ?_
        rintro e w5 ⟨rfl, hb⟩
        have Hb5 := Lib.hid hb
        clear hb
        go_wp2
        go_ret
        exact ⟨rfl, Hb5.out⟩
      · have d0 : decide (x < 0) = false := decide_eq_false h0
        by_cases h1 : 1099511627776 < x
        · have d1 : decide (1099511627776 < x) = true := decide_eq_true h1
          clear HF hok
          go_wp2_with fail
          refine (HKn.out w).mono ?_
          rintro e w5 ⟨rfl, hb⟩
          have Hb5 := Lib.hid hb
          clear hb
          go_wp2
          go_ret
          exact ⟨rfl, Hb5.out⟩
        · have d1 : decide (1099511627776 < x) = false := decide_eq_false h1
          have Hf := Lib.hid (HF.out (by rw [hok]; exact decide_eq_true (by omega)))
          clear HF hok
          go_wp2
          go_round
          case rel => exact ⟨k + 1, by omega, by go_num, Hf.out⟩
          case measure => simp [intOf]; omega
    · obtain rfl : k = l.length := by omega
      have hmay := HM.out (fun j hj => hno j hj hj)
      have hl5 : l.length ≤ 100000 := by omega
      have H1 := Lib.hid (fun (W : World) (hb : Below w.heap.size w W) => way_of hmay (bPlain_any A c l W (HA.out.ext hb)))
      have H2 := Lib.hid (fun (W : World) (hb : Below w.heap.size w W) => way_of hmay (bDelta_any A c l W (HA.out.ext hb)))
      have H3 := Lib.hid (fun (W : World) (hb : Below w.heap.size w W) => way_of hmay (bRuns_any A c l W (HA.out.ext hb)))
      have H4 := Lib.hid (fun (W : World) (hb : Below w.heap.size w W) => way_of hmay (bBest_any A c l W (HA.out.ext hb)))
      have G1 : Hid (WayP l (plainP l)) := Lib.hid (wayP_enc (w := 0) (by omega) hmay hl5)
      have G2 : Hid (WayP l (deltaP l)) := Lib.hid (wayP_enc (w := 1) (by omega) hmay hl5)
      have G3 : Hid (WayP l (runsB l)) := Lib.hid (wayP_enc (w := 2) (by omega) hmay hl5)
      have G4 : Hid (WayP l (bestP l)) := Lib.hid (wayP_best hmay hl5)
      unfold WayP at G1 G2 G3 G4
      unfold WayC at H1 H2 H3 H4
      generalize plainP l = b1 at *
      generalize deltaP l = b2 at *
      generalize runsB l = b3 at *
      generalize bestP l = b4 at *
      have Hb0 := Lib.hid (Below.refl w.heap.size w)
      clear hno Hno hmay HM
      go_wp2_with fail
      refine (H1.out w Hb0.out).mono ?_
      rintro e w1 ⟨A1, c1, rfl, hn, hcc, hb⟩
      have Hb1 := Lib.hid (ext_trans Hb0.out hb)
      have Hc1 := Lib.hid hn
      have Hl1 := Lib.hid hcc
      clear hn hcc hb H1
      go_wp2_with fail
      refine (H2.out w1 Hb1.out).mono ?_
      rintro e w2 ⟨A2, c2, rfl, hn, hcc, hb⟩
      have Hb2 := Lib.hid (ext_trans Hb1.out hb)
      have Hc1 := Lib.hid (Rd.ext Hc1.out hb)
      have Hc2 := Lib.hid hn
      have Hl2 := Lib.hid hcc
      clear hn hcc hb H2
      go_wp2_with fail
      refine (H3.out w2 Hb2.out).mono ?_
      rintro e w3 ⟨A3, c3, rfl, hn, hcc, hb⟩
      have Hb3 := Lib.hid (ext_trans Hb2.out hb)
      have Hc1 := Lib.hid (Rd.ext Hc1.out hb)
      have Hc2 := Lib.hid (Rd.ext Hc2.out hb)
      have Hc3 := Lib.hid hn
      have Hl3 := Lib.hid hcc
      clear hn hcc hb H3
      go_wp2_with fail
      refine (H4.out w3 Hb3.out).mono ?_
      rintro e w4 ⟨A4, c4, rfl, hn, hcc, hb⟩
      have Hb4 := Lib.hid (ext_trans Hb3.out hb)
      have Hc1 := Lib.hid (Rd.ext Hc1.out hb)
      have Hc2 := Lib.hid (Rd.ext Hc2.out hb)
      have Hc3 := Lib.hid (Rd.ext Hc3.out hb)
      have Hc4 := Lib.hid hn
      have Hl4 := Lib.hid hcc
      clear hn hcc hb H4
      have HFo := Lib.hid (four_lit (t := 23) (m := b4.length) ⟨Hc1.out, Hl1.out, G1.out⟩ ⟨Hc2.out, Hl2.out, G2.out⟩ ⟨Hc3.out, Hl3.out, G3.out⟩ ⟨Hc4.out, Hl4.out, G4.out⟩)
      have Hb5 : Hid (Below w.heap.size w (w4.alloc (.cells #[.slice A1 b1.length c1, .slice A2 b2.length c2, .slice A3 b3.length c3, .slice A4 b4.length c4] 23))) := Lib.hid (ext_alloc Hb4.out _)
      obtain ⟨b4n, hb4n⟩ : ∃ m, b4.length = m := ⟨_, rfl⟩
      rw [hb4n] at HFo
      have HFo2 : Hid (Four l b4n (w4.alloc (.cells #[.slice A1 b1.length c1, .slice A2 b2.length c2, .slice A3 b3.length c3, .slice A4 b4.length c4] 23)) ⟨w4.heap.size, 0, none⟩) := Lib.hid (by have := HFo.out; rw [← hb4n]; rw [← hb4n] at this; exact this)
      have Hq := Lib.hid hb4n
      clear hb4n HFo
      go_wp2
      go_loopw [13] (fun i wr => ∃ (k : Nat), k ≤ 4 ∧ i = .int .i64 (k : Int) ∧ Hid (Four l b4n wr ⟨w4.heap.size, 0, none⟩) ∧ Hid (Below w.heap.size w wr)) (fun i _ => 4 - (intOf i).toNat)
      case atStart => exact ⟨0, by omega, rfl, HFo2, Hb5⟩
      case round =>
        obtain ⟨k, hk, rfl, HFr, Hbr⟩ := hrel
        by_cases hlt : k < 4
        · have hki : (k : Int) < 4 := by omega
          obtain ⟨B, b, cb, hcell, hr, hcb, hd, hmb, hbl⟩ := HFr.out k hlt
          have HD := Lib.hid (read_back hd hbl B cb wr hr hcb)
          have hle : ¬ (b.length : Int) < (b4.length : Int) := by have := Hq.out; omega
          rw [Addr.add_mid, Nat.zero_add] at hcell
          have Hcell := Lib.hid hcell
          clear hr hcb hd hmb hbl
          go_wp2_with fail
          refine HD.out.mono ?_
          rintro e w6 ⟨B6, c6, rfl, hr6, hb6⟩
          have HS := Lib.hid (same_rows A c B6 c6 l w6 (HA.out.ext (ext_trans Hbr.out hb6)) hr6 (by omega))
          have Hb6 := Lib.hid hb6
          clear hr6 hb6 hcell
          go_wp2_with fail
          refine HS.out.mono ?_
          rintro e w7 ⟨rfl, hb7⟩
          have hcell := cell_only Hcell.out (Only.of_ext (S := fun _ => False) (ext_trans Hb6.out hb7)) (fun h => h)
          have Hb7 := Lib.hid (ext_trans Hb6.out hb7)
          clear hb7
          go_wp2
          go_roundw
          case rel => exact ⟨k + 1, by omega, by go_num, Lib.hid (HFr.out.ext Hb7.out), Lib.hid (ext_trans Hbr.out Hb7.out)⟩
          case measure => simp [intOf]; omega
        · obtain rfl : k = 4 := by omega
          go_wp2_with fail
          refine (HKn.out wr).mono ?_
          rintro e w6 ⟨rfl, hb6⟩
          have Hb6 := Lib.hid hb6
          clear hb6
          go_wp2
          go_ret
          exact ⟨rfl, ext_trans Hbr.out Hb6.out⟩

/-! ### as many alike ones as one likes -/
theorem rep_set (v : Int) (n k : Nat) (h : k < n) : (List.replicate k (iv v) ++ List.replicate (n - k) (iv 0)).set k (iv v) = List.replicate (k + 1) (iv v) ++ List.replicate (n - (k + 1)) (iv 0) := by
  have e : n - k = (n - (k + 1)) + 1 := by omega
  rw [List.set_append, if_neg (by simp), List.length_replicate, Nat.sub_self, e, List.replicate_succ, List.set_cons_zero, List.replicate_succ', List.append_assoc]
  rfl
set_option maxHeartbeats 8000000 in
theorem pack_runs (n v : Int) (w : World) (hn : isInt n) (hv : isInt v) :
    Calls Try.prog 6 #[.int .i64 n, .int .i64 v] w fun e w' => e = .returned (.bool true) ∧ Below w.heap.size w w' := by
  have HKn := Lib.hid known16_any
  obtain ⟨n1, n2⟩ := hn
  obtain ⟨v1, v2⟩ := hv
  by_cases h1 : n < 0
  · have d1 : decide (n < 0) = true := decide_eq_true h1
    go_enter Try.func6, Try.ntmps6
    go_wp2
    go_ret
    exact ⟨rfl, Below.refl _ _⟩
  have d1 : decide (n < 0) = false := decide_eq_false h1
  by_cases h2 : 40000 < n
  · have d2 : decide (40000 < n) = true := decide_eq_true h2
    go_enter Try.func6, Try.ntmps6
    go_wp2
    go_ret
    exact ⟨rfl, Below.refl _ _⟩
  have d2 : decide (40000 < n) = false := decide_eq_false h2
  by_cases h3 : v < 0
  · have d3 : decide (v < 0) = true := decide_eq_true h3
    go_enter Try.func6, Try.ntmps6
    go_wp2
    go_ret
    exact ⟨rfl, Below.refl _ _⟩
  have d3 : decide (v < 0) = false := decide_eq_false h3
  by_cases h4 : 1099511627776 < v
  · have d4 : decide (1099511627776 < v) = true := decide_eq_true h4
    go_enter Try.func6, Try.ntmps6
    go_wp2
    go_ret
    exact ⟨rfl, Below.refl _ _⟩
  have d4 : decide (1099511627776 < v) = false := decide_eq_false h4
  obtain ⟨m, rfl⟩ : ∃ m : Nat, n = (m : Int) := ⟨n.toNat, by omega⟩
  have hm4 : m ≤ 40000 := by omega
  have hmk := fun W => make_ints W m (by omega)
  rw [Nat.mul_one] at hmk
  have HR : Hid (RowO (w.alloc (.cells (madeCells #[.int .i64 0] m) 3)) 3 1 (some ⟨w.heap.size, 0, none⟩) m m (repR m 0 v)) := Lib.hid (row_made w m v (by omega))
  have HE : Hid (repR m m v = (List.replicate m v).map iv) := Lib.hid (by rw [repR_all, List.map_replicate])
  have HB : Hid (∀ W, Rd W (some ⟨w.heap.size, 0, none⟩) ((List.replicate m v).map iv) → Calls Try.prog 19 #[.slice (some ⟨w.heap.size, 0, none⟩) m m] W fun e w' => ∃ A' c', e = .returned (.tuple #[.slice A' (ansP (List.replicate m v) (bestP (List.replicate m v))).1.length c', .int .i64 (ansP (List.replicate m v) (bestP (List.replicate m v))).2]) ∧ New W w' A' c' (ansP (List.replicate m v) (bestP (List.replicate m v))).1 ∧ Below W.heap.size W w') := Lib.hid (fun W hW => by
    have h := bBest_any (some ⟨w.heap.size, 0, none⟩) m (List.replicate m v) W hW
    rw [List.length_replicate] at h
    exact h)
  have HS : Hid (∀ k, k < m → (repR m k v).set k (iv v) = repR m (k + 1) v) := Lib.hid (fun k hk => by unfold repR; exact rep_set v m k hk)
  have HLn : Hid (∀ k, k ≤ m → (repR m k v).length = m) := Lib.hid (fun k hk => repR_len m k v hk)
  obtain ⟨G, hG⟩ : ∃ G, w.heap.size = G := ⟨_, rfl⟩
  have HG := Lib.hid hG
  rw [hG] at HR HB
  have Hb1 : Hid (Below w.heap.size w (w.alloc (.cells (madeCells #[.int .i64 0] m) 3))) := Lib.hid (ext_alloc (Below.refl _ _) _)
  obtain ⟨W1, hW1⟩ : ∃ W1, W1 = w.alloc (.cells (madeCells #[.int .i64 0] m) 3) := ⟨_, rfl⟩
  have hmk2 : (Instr.makeSlice 22 (.int .i64 (m : Int)) (.int .i64 (m : Int))).run Try.prog w = .ok (.slice (some ⟨G, 0, none⟩) m m) W1 := by rw [hW1, ← hG]; exact hmk w
  rw [← hW1] at HR Hb1
  clear hW1 hmk hG
  go_enter Try.func6, Try.ntmps6
  go_wp2
  go_loopw [6] (fun i wr => ∃ (k : Nat), k ≤ m ∧ i = .int .i64 (k : Int) ∧ Hid (RowO wr 3 1 (some ⟨G, 0, none⟩) m m (repR m k v)) ∧ Hid (Below w.heap.size w wr)) (fun i _ => m - (intOf i).toNat)
  case atStart => exact ⟨0, Nat.zero_le _, rfl, HR, Hb1⟩
  case round =>
    obtain ⟨k, hk, rfl, HRr, Hbr⟩ := hrel
    by_cases hlt : k < m
    · have hki : (k : Int) < (m : Int) := by omega
      obtain ⟨ad, e, hcell⟩ := HRr.out.rd.at_ (k := k) (by rw [HLn.out k hk]; exact hlt)
      injection e with e
      subst e
      rw [Addr.add_mid] at hcell
      have hfr := HRr.out.free (0 + k)
      have hst := HRr.out.set k (by rw [HLn.out k hk]; exact hlt) (iv v)
      rw [HS.out k hlt] at hst
      have HR2 : Hid (RowO (wr.setCell ⟨G, 0 + k, none⟩ (.int .i64 v)) 3 1 (some ⟨G, 0, none⟩) m m (repR m (k + 1) v)) := Lib.hid hst
      have HB2 : Hid (Below w.heap.size w (wr.setCell ⟨G, 0 + k, none⟩ (.int .i64 v))) := Lib.hid (Hbr.out.setCell (p := ⟨G, 0 + k, none⟩) (Nat.le_of_eq HG.out) _)
      obtain ⟨y, hy⟩ : ∃ y, (repR m k v)[k]'(by rw [HLn.out k hk]; exact hlt) = y := ⟨_, rfl⟩
      rw [hy] at hcell
      rw [Nat.zero_add] at hcell hfr HR2 HB2
      clear hst hy
      go_wp2
      go_roundw
      case rel => exact ⟨k + 1, by omega, by go_num, HR2, HB2⟩
      case measure => simp [intOf]; omega
    · obtain rfl : k = m := by omega
      have HRd : Hid (Rd wr (some ⟨G, 0, none⟩) ((List.replicate k v).map iv)) := Lib.hid (by rw [← HE.out]; exact HRr.out.rd)
      have HB3 := Lib.hid (HB.out wr HRd.out)
      clear HB
      by_cases h5 : k ≤ 32768
      · have hng : ¬ (32768 : Int) < (k : Int) := by omega
        have hmy := may_rep v k h5 (by omega) (by omega)
        rw [ansP_of hmy] at HB3
        have hl12 := best_rep_len v k h5 (by omega) (by omega)
        have HD := Lib.hid (fun A c W hA hc => read_back (decR_some (dec_best hmy)) (by omega) A c W hA hc)
        have HX := Lib.hid (fun B d W hA hB => same_rows (some ⟨G, 0, none⟩) k B d (List.replicate k v) W hA hB (by rw [List.length_replicate]; omega))
        rw [List.length_replicate] at HD HX
        generalize bestP (List.replicate k v) = b at *
        generalize List.replicate k v = l at *
        have hle : (b.length : Int) ≤ 12 := by omega
        have hleb : decide ((b.length : Int) ≤ 12) = true := decide_eq_true hle
        clear hl12 hmy
        go_wp2_with fail
        refine HB3.out.mono ?_
        rintro e w6 ⟨A6, c6, rfl, hn6, hb6⟩
        have HD2 := Lib.hid (HD.out A6 c6 w6 hn6.rd (by have := Own.cap hn6; simpa using this))
        have Hb6 := Lib.hid hb6
        clear hn6 hb6 HD
        go_wp2_with fail
        refine HD2.out.mono ?_
        rintro e w7 ⟨B7, c7, rfl, hr7, hb7⟩
        have HX2 := Lib.hid (HX.out B7 c7 w7 (HRd.out.ext (ext_trans Hb6.out hb7)) hr7)
        have Hb7 := Lib.hid (ext_trans Hb6.out hb7)
        clear hr7 hb7 HX
        go_wp2_with fail
        refine HX2.out.mono ?_
        rintro e w8 ⟨rfl, hb8⟩
        have Hb8 := Lib.hid (ext_trans Hb7.out hb8)
        clear hb8
        go_wp2_with fail
        refine (HKn.out w8).mono ?_
        rintro e w9 ⟨rfl, hb9⟩
        have Hb9 := Lib.hid (ext_trans Hb8.out hb9)
        clear hb9
        go_wp2
        go_ret
        exact ⟨rfl, ext_trans Hbr.out Hb9.out⟩
      · have hg : (32768 : Int) < (k : Int) := by omega
        have hmy : mayP (List.replicate k v) = false := by
          unfold mayP
          rw [List.length_replicate, decide_eq_false h5]
          rfl
        rw [ansP_no hmy] at HB3
        clear hmy
        go_wp2_with fail
        refine HB3.out.mono ?_
        rintro e w6 ⟨A6, c6, rfl, hn6, hb6⟩
        have Hb6 := Lib.hid hb6
        clear hn6 hb6
        go_wp2_with fail
        refine (HKn.out w6).mono ?_
        rintro e w9 ⟨rfl, hb9⟩
        have Hb9 := Lib.hid (ext_trans Hb6.out hb9)
        clear hb9
        go_wp2
        go_ret
        exact ⟨rfl, ext_trans Hbr.out Hb9.out⟩

/-! ### numbers that rise -/
set_option maxHeartbeats 8000000 in
theorem pack_rises (f : Int) (A : Option Addr) (n c : Nat) (xs : List Int) (w : World) (hf : isInt f) (hn : n = xs.length) (hA : Rd w A (xs.map iv)) (hm : n ≤ maxLen) :
    Calls Try.prog 7 #[.int .i64 f, .slice A n c] w fun e w' => e = .returned (.bool true) ∧ Below w.heap.size w w' := by
  subst hn
  unfold maxLen at hm
  have HKn := Lib.hid known16_any
  obtain ⟨f1, f2⟩ := hf
  by_cases h1 : f < 0
  · have d1 : decide (f < 0) = true := decide_eq_true h1
    clear hA
    go_enter Try.func7, Try.ntmps7
    go_wp2
    go_ret
    exact ⟨rfl, Below.refl _ _⟩
  have d1 : decide (f < 0) = false := decide_eq_false h1
  by_cases h2 : 549755813888 < f
  · have d2 : decide (549755813888 < f) = true := decide_eq_true h2
    clear hA
    go_enter Try.func7, Try.ntmps7
    go_wp2
    go_ret
    exact ⟨rfl, Below.refl _ _⟩
  have d2 : decide (549755813888 < f) = false := decide_eq_false h2
  by_cases h3 : 300 < xs.length
  · have d3 : (300 : Int) < (xs.length : Int) := by omega
    clear hA
    go_enter Try.func7, Try.ntmps7
    go_wp2
    go_ret
    exact ⟨rfl, Below.refl _ _⟩
  have d3 : ¬ (300 : Int) < (xs.length : Int) := by omega
  have d4 : (xs.length : Int) ≤ 300 := by omega
  have HA := Lib.hid hA
  have HN0 : Hid (NewO w (w.alloc (.cells #[.int .i64 f] 3)) 3 1 (some ⟨w.heap.size, 0, none⟩) 1 1 ((riseTo f xs 0).map iv)) := Lib.hid ⟨RowO.lit w 3 1 1 #[.int .i64 f] rfl (by unfold maxLen; omega) rfl, ext_alloc (Below.refl _ _) _, fun k hk => by rw [inA_some] at hk; omega⟩
  have HL0 : Hid ((riseTo f xs 0).length = 1) := Lib.hid (riseTo_len f xs 0)
  clear hA
  go_enter Try.func7, Try.ntmps7
  go_wp2
  go_loopw [5, 6] (fun s i wr => ∃ (k : Nat) (L : List Int) (B : Option Addr) (cB : Nat), k ≤ xs.length ∧ i = .int .i64 (k : Int) ∧ s = .slice B (k + 1) cB ∧ Hid (L = riseTo f xs k) ∧ Hid (NewO w wr 3 1 B (k + 1) cB (L.map iv))) (fun _ i _ => xs.length - (intOf i).toNat)
  case atStart => exact ⟨0, riseTo f xs 0, some ⟨w.heap.size, 0, none⟩, 1, Nat.zero_le _, rfl, rfl, Lib.hid rfl, HN0⟩
  case round =>
    obtain ⟨k, L, B, cB, hk, rfl, rfl, HLL, HN⟩ := hrel
    by_cases hlt : k < xs.length
    · have hki : (k : Int) < (xs.length : Int) := by omega
      have hki1 : (k : Int) < (k : Int) + 1 := by omega
      have hll : L.length = k + 1 := by rw [HLL.out, riseTo_len]
      have hgk : L[k]'(by omega) = riseK f xs k := by
        have h := riseTo_get f xs k k (by omega)
        rw [← HLL.out, List.getElem?_eq_getElem (by omega)] at h
        injection h
      obtain ⟨ad1, e1, hcell1⟩ := rd_int HN.out.rd (k := k) (by omega)
      obtain ⟨g, o, rfl⟩ := HN.out.row.flat ad1 e1
      subst e1
      rw [Addr.add_mid, hgk] at hcell1
      obtain ⟨ad2, hB2, hcell2⟩ := rd_int (HA.out.ext HN.out.bel) hlt
      subst hB2
      have hbx := riseK_ok xs (f := f) (by omega) k
      have hlow := low5_ok xs[k]
      have Hnx : Hid (riseTo f xs (k + 1) = L ++ [riseK f xs k + low5 xs[k]]) := Lib.hid (by
        rw [riseTo_succ, HLL.out]
        rw [List.getD_eq_getElem?_getD, List.getElem?_eq_getElem hlt]
        rfl)
      have hlo : bits .and .i64 xs[k] 31 = low5 xs[k] := rfl
      have HC : Hid (∀ W, Below wr.heap.size wr W → W.cell? ⟨g, o + k, none⟩ = some (.int .i64 (riseK f xs k)) ∧ W.cell? (ad2.add k) = some (.int .i64 xs[k])) := Lib.hid (fun W hW => ⟨cell_only hcell1 (Only.of_ext (S := fun _ => False) hW) (fun h => h), cell_only hcell2 (Only.of_ext (S := fun _ => False) hW) (fun h => h)⟩)
      generalize low5 xs[k] = d at *
      generalize riseK f xs k = x at *
      generalize xs[k] = y at *
      have hwr : IntKind.i64.wrap (x + d) = x + d := IntWalk.i64_in _ (by omega)
      have Hgw : Hid (∀ (W w3 : World) (A3 : Option Addr) (c3 : Nat), Below wr.heap.size wr W → RowO w3 3 1 A3 (k + 1 + 1) c3 (L.map iv ++ [.int .i64 (x + d)]) → Only (inA (some ⟨g, o, none⟩)) W w3 → (∀ q, inA A3 q → inA (some ⟨g, o, none⟩) q ∨ (W.heap.size ≤ q ∧ q < w3.heap.size)) → NewO w w3 3 1 A3 (k + 1 + 1) c3 ((L ++ [x + d]).map iv)) := Lib.hid (fun W w3 A3 c3 hW hr ho hA3 => by
        rw [List.map_append]
        exact HN.out.grow hW hr ho hA3)
      have hm1 : k + 1 + 1 ≤ maxLen := by unfold maxLen; omega
      have hm2 : (k + 1 + 1) * 8 ≤ 140737488355328 := by omega
      have Hk := Lib.hid hll
      have hcell1 : wr.drew.cell? ⟨g, o + k, none⟩ = some (.int .i64 x) := hcell1
      have hcell2 : wr.drew.cell? (ad2.add k) = some (.int .i64 y) := hcell2
      clear hll hgk hbx
      go_wp2
      refine wp_region_held_drew (S := fun _ => True) (by kernel_rfl) ?_ (fun hHeld => ?_)
      · all_goals trivial
      refine wpAnyH_take (i := 0) (v := ?_) (take_list rfl) (by kernel_rfl) (by kernel_rfl) (by kernel_rfl) (fun _ _ _ h => h) (Or.inl ⟨by rfl, ?_⟩) (by assumption) ?_
      rotate_left
      · intro w hSw
        try dsimp only at hSw
        first | (go_simp; done) | (go_simp; with_reducible rfl)
      try simp only [Act.put, List.setIfInBounds_toArray, List.set_cons_zero, List.set_cons_succ]
      refine wpAnyH_take (i := 1) (v := ?_) (take_list rfl) (by kernel_rfl) (by kernel_rfl) (by kernel_rfl) (fun _ _ _ h => h) (Or.inl ⟨by rfl, ?_⟩) (by assumption) ?_
      rotate_left
      · intro w hSw
        try dsimp only at hSw
        first | (go_simp; done) | (go_simp; with_reducible rfl)
      try simp only [Act.put, List.setIfInBounds_toArray, List.set_cons_zero, List.set_cons_succ]
      refine wpAnyH_take (i := 2) (v := ?_) (take_list rfl) (by kernel_rfl) (by kernel_rfl) (by kernel_rfl) (fun _ _ _ h => h) (Or.inl ⟨by rfl, ?_⟩) (by assumption) ?_
      rotate_left
      · intro w hSw
        try dsimp only at hSw
        first | (go_simp; done) | (go_simp; with_reducible rfl)
      try simp only [Act.put, List.setIfInBounds_toArray, List.set_cons_zero, List.set_cons_succ]
      refine wpAnyH_take (i := 3) (v := ?_) (take_list rfl) (by kernel_rfl) (by kernel_rfl) (by kernel_rfl) (fun _ _ _ h => h) (Or.inl ⟨by rfl, ?_⟩) (by assumption) ?_
      rotate_left
      · intro w hSw
        try dsimp only at hSw
        first | (go_simp; done) | (go_simp; with_reducible rfl)
      try simp only [Act.put, List.setIfInBounds_toArray, List.set_cons_zero, List.set_cons_succ]
      refine wpAnyH_take (i := 5) (v := ?_) (take_list rfl) (by kernel_rfl) (by kernel_rfl) (by kernel_rfl) (fun _ _ _ h => h) (Or.inl ⟨by rfl, ?_⟩) (by assumption) ?_
      rotate_left
      · intro w hSw
        try dsimp only at hSw
        first | (go_simp; done) | (go_simp; with_reducible rfl)
      try simp only [Act.put, List.setIfInBounds_toArray, List.set_cons_zero, List.set_cons_succ]
      refine wpAnyH_take (i := 6) (v := ?_) (take_list rfl) (by kernel_rfl) (by kernel_rfl) (by kernel_rfl) (fun _ _ _ h => h) (Or.inl ⟨by rfl, ?_⟩) (by assumption) ?_
      rotate_left
      · intro w hSw
        try dsimp only at hSw
        first | (go_simp; done) | (go_simp; with_reducible rfl)
      try simp only [Act.put, List.setIfInBounds_toArray, List.set_cons_zero, List.set_cons_succ]
      refine wpAnyH_take (i := 7) (v := ?_) (take_list rfl) (by kernel_rfl) (by kernel_rfl) (by kernel_rfl) (fun _ _ _ h => h) (Or.inl ⟨by rfl, ?_⟩) (by assumption) ?_
      rotate_left
      · intro w hSw
        try dsimp only at hSw
        first | (go_simp; done) | (go_simp; with_reducible rfl)
      try simp only [Act.put, List.setIfInBounds_toArray, List.set_cons_zero, List.set_cons_succ]
      refine wpAnyH_ready (rs := [4, 8]) (by kernel_rfl) (by simp) ?_
      refine AllReadyH.cons (take_list rfl) (fun K hK => ?_) ?_
      · skip
        go_simp
        refine hK.out _ _ ?_ (fun hHeld => ?_)
        · try dsimp only
          all_goals trivial
        clear hK K
        refine wpAnyH_ready (rs := [8]) (by kernel_rfl) (by simp) ?_
        refine AllReadyH.cons (take_list rfl) (fun K hK => ?_) ?_
        · skip
          go_simp
          refine hK.out _ _ ?_ (fun hHeld => ?_)
          · try dsimp only
            all_goals trivial
          clear hK K
          refine wpAnyH_take (i := 9) (v := ?_) (take_list rfl) (by kernel_rfl) (by kernel_rfl) (by kernel_rfl) (fun _ _ _ h => h) (Or.inl ⟨by rfl, ?_⟩) (by assumption) ?_
          rotate_left
          · intro w hSw
            try dsimp only at hSw
            first | (go_simp; done) | (go_simp; with_reducible rfl)
          try simp only [Act.put, List.setIfInBounds_toArray, List.set_cons_zero, List.set_cons_succ]
          refine wpAnyH_take (i := 10) (v := ?_) (take_list rfl) (by kernel_rfl) (by kernel_rfl) (by kernel_rfl) (fun _ _ _ h => h) (Or.inl ⟨by rfl, ?_⟩) (by assumption) ?_
          rotate_left
          · intro w hSw
            try dsimp only at hSw
            first | (go_simp; done) | (go_simp; with_reducible rfl)
          try simp only [Act.put, List.setIfInBounds_toArray, List.set_cons_zero, List.set_cons_succ]
          refine wpAnyH_ready (rs := [11]) (by kernel_rfl) (by simp) ?_
          refine AllReadyH.cons (take_list rfl) (fun K hK => ?_) ?_
          · skip
            go_simp
            refine hK.out _ _ ?_ (fun hHeld => ?_)
            · try dsimp only
              all_goals trivial
            clear hK K
            refine wpAnyH_ready (rs := [12]) (by kernel_rfl) (by simp) ?_
            refine AllReadyH.cons (take_list rfl) (fun K hK => ?_) ?_
            · skip
              refine step_appO _ rfl (.tmp 30) (.tmp 41) _ rfl 3 _ 1 8 Try.underlying22 info_int rfl (some ⟨g, o, none⟩) (k + 1) cB (L.map iv) rfl (HN.out.row.ext (by repeat (first | exact Below.refl _ _ | apply ext_drew | apply ext_drewN | apply ext_alloc))) (some ⟨_, 0, none⟩) 1 1 [.int .i64 (x + d)] rfl rfl (Rd.lit_at _ #[.int .i64 (x + d)] _ (by first | rfl | simp)) (by intro u hu; simp at hu; subst hu; rfl) (by intro h; cases h) hm1 hm2 ?_
              intro A3 c3 w3 hr3 ho3 hA3
              have HN3 := Lib.hid (Hgw.out _ w3 A3 c3 (by repeat (first | exact Below.refl _ _ | apply ext_drew | apply ext_drewN | apply ext_alloc)) hr3 ho3 hA3)
              clear hr3 ho3 hA3
              refine hK.out _ _ ?_ (fun hHeld => ?_)
              · try dsimp only
                all_goals trivial
              clear hK K
              refine wpAnyH_take (i := 13) (v := ?_) (take_list rfl) (by kernel_rfl) (by kernel_rfl) (by kernel_rfl) (fun _ _ _ h => h) (Or.inl ⟨by rfl, ?_⟩) (by assumption) ?_
              rotate_left
              · intro w hSw
                try dsimp only at hSw
                first | (go_simp; done) | (go_simp; with_reducible rfl)
              try simp only [Act.put, List.setIfInBounds_toArray, List.set_cons_zero, List.set_cons_succ]
              refine wpAnyH_done (by kernel_rfl) ?_ _
              go_wp2
              go_roundw
              case rel => exact ⟨k + 1, L ++ [x + d], A3, c3, by omega, by go_num, rfl, Lib.hid Hnx.out.symm, HN3⟩
              case measure => simp [intOf]; omega
            exact AllReadyH.nil
          exact AllReadyH.nil
        exact AllReadyH.nil
      refine AllReadyH.cons (take_list rfl) (fun K hK => ?_) ?_
      · skip
        go_simp
        refine hK.out _ _ ?_ (fun hHeld => ?_)
        · try dsimp only
          all_goals trivial
        clear hK K
        refine wpAnyH_take (i := 9) (v := ?_) (take_list rfl) (by kernel_rfl) (by kernel_rfl) (by kernel_rfl) (fun _ _ _ h => h) (Or.inl ⟨by rfl, ?_⟩) (by assumption) ?_
        rotate_left
        · intro w hSw
          try dsimp only at hSw
          first | (go_simp; done) | (go_simp; with_reducible rfl)
        try simp only [Act.put, List.setIfInBounds_toArray, List.set_cons_zero, List.set_cons_succ]
        refine wpAnyH_ready (rs := [4]) (by kernel_rfl) (by simp) ?_
        refine AllReadyH.cons (take_list rfl) (fun K hK => ?_) ?_
        · skip
          go_simp
          refine hK.out _ _ ?_ (fun hHeld => ?_)
          · try dsimp only
            all_goals trivial
          clear hK K
          refine wpAnyH_take (i := 10) (v := ?_) (take_list rfl) (by kernel_rfl) (by kernel_rfl) (by kernel_rfl) (fun _ _ _ h => h) (Or.inl ⟨by rfl, ?_⟩) (by assumption) ?_
          rotate_left
          · intro w hSw
            try dsimp only at hSw
            first | (go_simp; done) | (go_simp; with_reducible rfl)
          try simp only [Act.put, List.setIfInBounds_toArray, List.set_cons_zero, List.set_cons_succ]
          refine wpAnyH_ready (rs := [11]) (by kernel_rfl) (by simp) ?_
          refine AllReadyH.cons (take_list rfl) (fun K hK => ?_) ?_
          · skip
            go_simp
            refine hK.out _ _ ?_ (fun hHeld => ?_)
            · try dsimp only
              all_goals trivial
            clear hK K
            refine wpAnyH_ready (rs := [12]) (by kernel_rfl) (by simp) ?_
            refine AllReadyH.cons (take_list rfl) (fun K hK => ?_) ?_
            · skip
              refine step_appO _ rfl (.tmp 30) (.tmp 41) _ rfl 3 _ 1 8 Try.underlying22 info_int rfl (some ⟨g, o, none⟩) (k + 1) cB (L.map iv) rfl (HN.out.row.ext (by repeat (first | exact Below.refl _ _ | apply ext_drew | apply ext_drewN | apply ext_alloc))) (some ⟨_, 0, none⟩) 1 1 [.int .i64 (x + d)] rfl rfl (Rd.lit_at _ #[.int .i64 (x + d)] _ (by first | rfl | simp)) (by intro u hu; simp at hu; subst hu; rfl) (by intro h; cases h) hm1 hm2 ?_
              intro A3 c3 w3 hr3 ho3 hA3
              have HN3 := Lib.hid (Hgw.out _ w3 A3 c3 (by repeat (first | exact Below.refl _ _ | apply ext_drew | apply ext_drewN | apply ext_alloc)) hr3 ho3 hA3)
              clear hr3 ho3 hA3
              refine hK.out _ _ ?_ (fun hHeld => ?_)
              · try dsimp only
                all_goals trivial
              clear hK K
              refine wpAnyH_take (i := 13) (v := ?_) (take_list rfl) (by kernel_rfl) (by kernel_rfl) (by kernel_rfl) (fun _ _ _ h => h) (Or.inl ⟨by rfl, ?_⟩) (by assumption) ?_
              rotate_left
              · intro w hSw
                try dsimp only at hSw
                first | (go_simp; done) | (go_simp; with_reducible rfl)
              try simp only [Act.put, List.setIfInBounds_toArray, List.set_cons_zero, List.set_cons_succ]
              refine wpAnyH_done (by kernel_rfl) ?_ _
              go_wp2
              go_roundw
              case rel => exact ⟨k + 1, L ++ [x + d], A3, c3, by omega, by go_num, rfl, Lib.hid Hnx.out.symm, HN3⟩
              case measure => simp [intOf]; omega
            exact AllReadyH.nil
          exact AllReadyH.nil
        exact AllReadyH.nil
      exact AllReadyH.nil
    · obtain rfl : k = xs.length := by omega
      have hmy := may_rise xs (f := f) (k := xs.length) (by omega) (by omega) (by omega)
      have hbl := best_rise_len xs (f := f) (n := xs.length) (by omega) (by omega) (by omega)
      have hll : L.length = xs.length + 1 := by rw [HLL.out, riseTo_len]
      rw [← HLL.out] at hmy hbl
      have HB3 := Lib.hid (way_of hmy (bBest_any B cB L wr HN.out.rd))
      have HD := Lib.hid (fun A c W hA hc => read_back (decR_some (dec_best hmy)) (by omega) A c W hA hc)
      have HX := Lib.hid (fun D d W hA hB => same_rows B cB D d L W hA hB (by omega))
      rw [hll] at HB3 HD HX hbl
      unfold WayC at HB3
      generalize bestP L = b at *
      have hle : (b.length : Int) ≤ 10 + ((xs.length + 1 : Nat) : Int) := by omega
      have hle2 : (b.length : Int) ≤ 10 + ((xs.length : Int) + 1) := by omega
      have hwl : IntKind.i64.wrap (10 + ((xs.length + 1 : Nat) : Int)) = 10 + ((xs.length + 1 : Nat) : Int) := IntWalk.i64_in _ (by omega)
      clear hll hmy hbl
      go_wp2_with fail
      refine HB3.out.mono ?_
      rintro e w6 ⟨A6, c6, rfl, hr6, hc6, hb6⟩
      have HD2 := Lib.hid (HD.out A6 c6 w6 hr6 hc6)
      have Hb6 := Lib.hid hb6
      clear hr6 hc6 hb6 HD
      go_wp2_with fail
      refine HD2.out.mono ?_
      rintro e w7 ⟨B7, c7, rfl, hr7, hb7⟩
      have HX2 := Lib.hid (HX.out B7 c7 w7 (HN.out.rd.ext (ext_trans Hb6.out hb7)) hr7)
      have Hb7 := Lib.hid (ext_trans Hb6.out hb7)
      clear hr7 hb7 HX
      go_wp2_with fail
      refine HX2.out.mono ?_
      rintro e w8 ⟨rfl, hb8⟩
      have Hb8 := Lib.hid (ext_trans Hb7.out hb8)
      clear hb8
      go_wp2_with fail
      refine (HKn.out w8).mono ?_
      rintro e w9 ⟨rfl, hb9⟩
      have Hb9 := Lib.hid (ext_trans Hb8.out hb9)
      clear hb9
      go_wp2
      go_ret
      exact ⟨rfl, ext_trans HN.out.bel Hb9.out⟩
end Go.Proofs.Ythceajadgjnnmaa

/-
  Rows of texts that rise; where a text stands in them; texts as bytes, and read back: mathematics. No statement of the seat is proved here.
-/
namespace Go.Proofs.Ythceajadgjnnmaa
open Go Go.RowKit
set_option maxRecDepth 100000

/-! ### rising rows -/
def RisesT (l : List (List UInt8)) : Prop := l.Pairwise fun a b => a < b
/-- rising, maybe with equals -/
def CalmT (l : List (List UInt8)) : Prop := l.Pairwise fun a b => ¬ b < a
theorem RisesT.calm {l : List (List UInt8)} (h : RisesT l) : CalmT l := List.Pairwise.imp (fun hab => lt_asy hab) h
theorem RisesT.nodup {l : List (List UInt8)} (h : RisesT l) : l.Nodup := List.Pairwise.imp (fun hab => lt_ne hab) h
theorem risesT_unique {l m : List (List UInt8)} (h : RisesT l) (k : RisesT m) (hm : ∀ x, x ∈ l ↔ x ∈ m) : l = m :=
  List.Perm.eq_of_pairwise (le := fun a b : List UInt8 => a < b) (fun a b _ _ h1 h2 => absurd h2 (lt_asy h1)) h k ((List.perm_ext_iff_of_nodup h.nodup k.nodup).2 hm)
theorem not_lt_tr {a b c : List UInt8} (h : ¬ b < a) (k : ¬ c < b) : ¬ c < a := fun x => by
  rcases not_lt_of h with rfl | h
  · exact k x
  · exact k (lt_tr x h)
/-- how many of them are less -/
def placeT (w : List (List UInt8)) (s : List UInt8) : Nat := w.countP fun t => decide (t < s)
theorem placeT_le (w : List (List UInt8)) (s : List UInt8) : placeT w s ≤ w.length := List.countP_le_length
theorem placeT_cons_lt {a s : List UInt8} (h : a < s) (r : List (List UInt8)) : placeT (a :: r) s = placeT r s + 1 := List.countP_cons_of_pos (by simpa using h)
theorem placeT_cons_ge {a s : List UInt8} {r : List (List UInt8)} (h : ¬ a < s) (hr : ∀ b ∈ r, ¬ b < a) : placeT (a :: r) s = 0 := by
  unfold placeT
  rw [List.countP_eq_zero]
  intro b hb
  simp only [decide_eq_true_eq]
  rcases List.mem_cons.1 hb with rfl | hb
  · exact h
  · exact fun hlt => by
      rcases not_lt_of (hr b hb) with rfl | h2
      · exact h hlt
      · exact h (lt_tr h2 hlt)
theorem placeT_spec : ∀ {w : List (List UInt8)} {s : List UInt8}, CalmT w → (∀ t (ht : t < w.length), t < placeT w s → w[t] < s) ∧ (∀ t (ht : t < w.length), placeT w s ≤ t → ¬ w[t] < s)
  | [], s, _ => ⟨fun t ht => absurd ht (by simp), fun t ht => absurd ht (by simp)⟩
  | a :: r, s, h => by
    unfold CalmT at h
    rw [List.pairwise_cons] at h
    obtain ⟨h1, h2⟩ := placeT_spec (s := s) (show CalmT r from h.2)
    by_cases ha : a < s
    · rw [placeT_cons_lt ha]
      refine ⟨fun t ht hp => ?_, fun t ht hp => ?_⟩
      · rcases t with _ | t
        · exact ha
        · exact h1 t (by simpa using ht) (by omega)
      · rcases t with _ | t
        · omega
        · exact h2 t (by simpa using ht) (by omega)
    · rw [placeT_cons_ge ha h.1]
      refine ⟨fun t ht hp => by omega, fun t ht _ => ?_⟩
      rcases t with _ | t
      · exact ha
      · have hm : r[t]'(by simpa using ht) ∈ r := List.getElem_mem _
        show ¬ r[t]'(by simpa using ht) < s
        exact fun hlt => by
          rcases not_lt_of (h.1 _ hm) with e | h3
          · rw [e] at hlt; exact ha hlt
          · exact ha (lt_tr h3 hlt)
theorem placeT_of {w : List (List UInt8)} {s : List UInt8} (h : CalmT w) {k : Nat} (hk : k ≤ w.length) (h1 : ∀ t (ht : t < w.length), t < k → w[t] < s) (h2 : ∀ t (ht : t < w.length), k ≤ t → ¬ w[t] < s) : k = placeT w s := by
  obtain ⟨g1, g2⟩ := placeT_spec (s := s) h
  have hle := placeT_le w s
  rcases Nat.lt_trichotomy k (placeT w s) with hl | hl | hl
  · exact absurd (g1 k (by omega) hl) (h2 k (by omega) (Nat.le_refl _))
  · exact hl
  · exact absurd (h1 (placeT w s) (by omega) hl) (g2 _ (by omega) (Nat.le_refl _))
theorem placeT_mem {w : List (List UInt8)} {s : List UInt8} (h : RisesT w) : (∃ hk : placeT w s < w.length, w[placeT w s] = s) ↔ s ∈ w := by
  obtain ⟨g1, g2⟩ := placeT_spec (s := s) h.calm
  constructor
  · rintro ⟨hk, e⟩
    rw [← e]
    exact List.getElem_mem _
  · intro hs
    obtain ⟨t, ht, rfl⟩ := List.mem_iff_getElem.1 hs
    have hge : placeT w w[t] ≤ t := by
      rcases Nat.lt_or_ge t (placeT w w[t]) with hl | hl
      · exact absurd (g1 t ht hl) (lt_irr _)
      · exact hl
    rcases Nat.eq_or_lt_of_le hge with e | hl
    · exact ⟨by omega, by simp only [e]⟩
    · have hp := List.pairwise_iff_getElem.1 h (placeT w w[t]) t (by omega) ht hl
      exact absurd hp (g2 _ (by omega) (Nat.le_refl _))
/-- a text more, if it is not there -/
def insT (out : List (List UInt8)) (s : List UInt8) : List (List UInt8) := if s ∈ out then out else out.take (placeT out s) ++ s :: out.drop (placeT out s)
theorem insT_mem (out : List (List UInt8)) (s x : List UInt8) : x ∈ insT out s ↔ x ∈ out ∨ x = s := by
  unfold insT
  split
  · rename_i h
    exact ⟨.inl, fun hx => hx.elim id (fun e => e ▸ h)⟩
  · have e : x ∈ out ↔ x ∈ out.take (placeT out s) ∨ x ∈ out.drop (placeT out s) := by
      conv => lhs; rw [← List.take_append_drop (placeT out s) out]
      exact List.mem_append
    rw [List.mem_append, List.mem_cons, e]
    constructor
    · rintro (h | rfl | h)
      · exact .inl (.inl h)
      · exact .inr rfl
      · exact .inl (.inr h)
    · rintro ((h | h) | rfl)
      · exact .inl h
      · exact .inr (.inr h)
      · exact .inr (.inl rfl)
theorem insT_rises {out : List (List UInt8)} (h : RisesT out) (s : List UInt8) : RisesT (insT out s) := by
  unfold insT
  split
  · exact h
  · rename_i hs
    obtain ⟨g1, g2⟩ := placeT_spec (s := s) h.calm
    have ht : ∀ a ∈ out.take (placeT out s), a < s := fun a ha => by
      obtain ⟨i, hi, rfl⟩ := List.mem_iff_getElem.1 ha
      rw [List.getElem_take]
      rw [List.length_take] at hi
      exact g1 i (by omega) (by omega)
    have hd : ∀ b ∈ out.drop (placeT out s), s < b := fun b hb => by
      have hm : b ∈ out := List.mem_of_mem_drop hb
      obtain ⟨i, hi, rfl⟩ := List.mem_iff_getElem.1 hb
      rw [List.length_drop] at hi
      have hn : ¬ (out.drop (placeT out s))[i]'(by rw [List.length_drop]; exact hi) < s := by
        rw [List.getElem_drop]
        exact g2 _ (by omega) (by omega)
      rcases not_lt_of hn with e | e
      · rw [e] at hm; exact absurd hm hs
      · exact e
    unfold RisesT
    rw [List.pairwise_append, List.pairwise_cons]
    exact ⟨List.Pairwise.sublist (List.take_sublist _ _) h, ⟨hd, List.Pairwise.sublist (List.drop_sublist _ _) h⟩, fun a ha b hb => by
      rcases List.mem_cons.1 hb with rfl | hb
      · exact ht a ha
      · exact lt_tr (ht a ha) (hd b hb)⟩
theorem insT_len (out : List (List UInt8)) (s : List UInt8) : (insT out s).length ≤ out.length + 1 := by
  unfold insT
  split
  · omega
  · have := placeT_le out s
    simp
    omega
/-! ### each text once -/
def wordsTo (l : List (List UInt8)) : Nat → List (List UInt8)
  | 0 => []
  | k + 1 => insT (wordsTo l k) (l.getD k [])
def wordsT (l : List (List UInt8)) : List (List UInt8) := wordsTo l l.length
theorem wordsTo_rises (l : List (List UInt8)) : ∀ k, RisesT (wordsTo l k)
  | 0 => List.Pairwise.nil
  | k + 1 => insT_rises (wordsTo_rises l k) _
theorem wordsTo_len (l : List (List UInt8)) : ∀ k, (wordsTo l k).length ≤ k
  | 0 => Nat.le_refl _
  | k + 1 => Nat.le_trans (insT_len _ _) (by have := wordsTo_len l k; omega)
theorem wordsTo_mem (l : List (List UInt8)) (x : List UInt8) : ∀ k, k ≤ l.length → (x ∈ wordsTo l k ↔ x ∈ l.take k)
  | 0, _ => by simp [wordsTo]
  | k + 1, hk => by
    rw [wordsTo, insT_mem, wordsTo_mem l x k (by omega), List.take_succ_eq_append_getElem (by omega), List.mem_append, List.mem_singleton]
    rw [List.getD_eq_getElem?_getD, List.getElem?_eq_getElem (by omega)]
    rfl
theorem wordsT_rises (l : List (List UInt8)) : RisesT (wordsT l) := wordsTo_rises l _
theorem wordsT_len (l : List (List UInt8)) : (wordsT l).length ≤ l.length := wordsTo_len l _
theorem wordsT_mem {l : List (List UInt8)} {x : List UInt8} : x ∈ wordsT l ↔ x ∈ l := by
  unfold wordsT
  rw [wordsTo_mem l x l.length (Nat.le_refl _), List.take_length]
theorem wordsT_of {l m : List (List UInt8)} (h : RisesT m) (hm : ∀ x, x ∈ m ↔ x ∈ l) : m = wordsT l := risesT_unique h (wordsT_rises l) fun x => (hm x).trans wordsT_mem.symm
theorem wordsT_again (l : List (List UInt8)) : wordsT (wordsT l) = wordsT l := (wordsT_of (wordsT_rises l) fun _ => Iff.rfl).symm
theorem compact_up (ts : List (List UInt8)) (h : CalmT ts) : ∀ m, m ≤ ts.length → RisesT (Lib.compactUpTo ts.toArray m) ∧ ∀ x, x ∈ Lib.compactUpTo ts.toArray m ↔ x ∈ ts.take m
  | 0, _ => ⟨List.Pairwise.nil, fun x => by simp [Lib.compactUpTo]⟩
  | m + 1, hm => by
    obtain ⟨ih1, ih2⟩ := compact_up ts h m (by omega)
    have hg : ∀ j, j < ts.length → ts.toArray[j]! = ts.getD j [] := fun j hj => by
      rw [getElem!_pos ts.toArray j (by simpa using hj), List.getD_eq_getElem?_getD, List.getElem?_eq_getElem hj]
      simp
    have hgd : ∀ j (hj : j < ts.length), ts.getD j [] = ts[j] := fun j hj => by rw [List.getD_eq_getElem?_getD, List.getElem?_eq_getElem hj]; rfl
    have htk : ts.take (m + 1) = ts.take m ++ [ts[m]] := List.take_succ_eq_append_getElem (by omega)
    rw [Lib.compactUpTo_succ, hg m (by omega), hgd m (by omega), htk]
    by_cases hk : m = 0 ∨ ts.toArray[m]! ≠ ts.toArray[m - 1]!
    · have e : Lib.keeps ts.toArray m = true := by simp only [Lib.keeps, decide_eq_true_eq]; exact hk
      rw [e, if_pos rfl]
      refine ⟨?_, fun x => by rw [List.mem_append, List.mem_append, ih2 x]⟩
      unfold RisesT
      rw [List.pairwise_append]
      refine ⟨ih1, List.pairwise_singleton _ _, fun a ha b hb => ?_⟩
      rw [List.mem_singleton] at hb
      subst hb
      have ha2 := (ih2 a).1 ha
      obtain ⟨j, hj, rfl⟩ := List.mem_iff_getElem.1 ha2
      rw [List.length_take] at hj
      rw [List.getElem_take]
      rcases hk with rfl | hk
      · omega
      · rw [hg m (by omega), hg (m - 1) (by omega), hgd m (by omega), hgd (m - 1) (by omega)] at hk
        have h1 : ¬ ts[m]'(by omega) < ts[m - 1]'(by omega) := by
          rcases Nat.eq_zero_or_pos m with rfl | hp
          · omega
          · exact List.pairwise_iff_getElem.1 h (m - 1) m (by omega) (by omega) (by omega)
        have h2 : ts[m - 1]'(by omega) < ts[m]'(by omega) := by
          rcases not_lt_of h1 with h3 | h3
          · exact absurd h3 hk
          · exact h3
        rcases Nat.eq_or_lt_of_le (show j ≤ m - 1 by omega) with rfl | hlt
        · exact h2
        · have h3 := List.pairwise_iff_getElem.1 h j (m - 1) (by omega) (by omega) hlt
          rcases not_lt_of h3 with h4 | h4
          · rw [← h4]; exact h2
          · exact lt_tr h4 h2
    · have e : Lib.keeps ts.toArray m = false := by simp only [Lib.keeps, decide_eq_false_iff_not]; exact hk
      rw [e]
      refine ⟨by simpa using ih1, fun x => ?_⟩
      have h0 : m ≠ 0 := fun h0 => hk (.inl h0)
      have h1 : ts.toArray[m]! = ts.toArray[m - 1]! := Classical.not_not.1 fun h1 => hk (.inr h1)
      rw [hg m (by omega), hg (m - 1) (by omega), hgd m (by omega), hgd (m - 1) (by omega)] at h1
      have h2 : ts[m]'(by omega) ∈ ts.take m := by
        rw [h1]
        refine List.mem_iff_getElem.2 ⟨m - 1, by rw [List.length_take]; omega, by rw [List.getElem_take]⟩
      simp only [Bool.false_eq_true, if_false, List.append_nil]
      rw [ih2 x, List.mem_append, List.mem_singleton]
      exact ⟨.inl, fun hx => hx.elim id (fun e => e ▸ h2)⟩
theorem compact_words {ts l : List (List UInt8)} (h : CalmT ts) (hm : ∀ x, x ∈ ts ↔ x ∈ l) : Lib.compact ts = wordsT l := by
  obtain ⟨h1, h2⟩ := compact_up ts h ts.length (Nat.le_refl _)
  refine wordsT_of h1 fun x => ?_
  have := h2 x
  rw [List.take_length] at this
  exact this.trans (hm x)

/-! ### texts as bytes -/
def longT (s : List UInt8) : Bool := decide (4096 < s.length)
def mayD (l : List (List UInt8)) : Bool := decide (l.length ≤ 32768) && !(l.any longT)
theorem mayD_iff (l : List (List UInt8)) : mayD l = true ↔ l.length ≤ 32768 ∧ ∀ s ∈ l, s.length ≤ 4096 := by
  unfold mayD
  rw [Bool.and_eq_true, decide_eq_true_eq, Bool.not_eq_true', List.any_eq_false]
  exact and_congr Iff.rfl ⟨fun h s hs => by have := h s hs; simp [longT] at this; exact this, fun h s hs => by have := h s hs; simp [longT]; exact this⟩
def placesT (l : List (List UInt8)) : List Int := l.map fun s => (placeT (wordsT l) s : Int)
theorem placesT_len (l : List (List UInt8)) : (placesT l).length = l.length := by simp [placesT]
theorem places_may {l : List (List UInt8)} (h : l.length ≤ 32768) : mayP (placesT l) = true := by
  refine (mayP_iff _).2 ⟨by rw [placesT_len]; exact h, fun v hv => ?_⟩
  obtain ⟨s, _, rfl⟩ := List.mem_map.1 hv
  have h1 := placeT_le (wordsT l) s
  have h2 := wordsT_len l
  omega
def encD (l : List (List UInt8)) : List UInt8 := numsB [((wordsT l).length : Int)] ++ (rowsB (wordsT l) ++ rowsB [bestP (placesT l)])
/-- an Encode's answer -/
def ansD (l : List (List UInt8)) : List UInt8 × Int := if mayD l = true then (encD l, 0) else ([], 1)

/-! ### read back -/
def cntD (p : List UInt8) : Nat := (stNum p false).1
def wrdD (k : Nat) (p : List UInt8) : List (List UInt8) × List UInt8 × Bool := takeR k (stNum p false).2.1 (stNum p false).2.2
def plcD (k : Nat) (p : List UInt8) : List UInt8 × List UInt8 × Bool := stBytes (wrdD k p).2.1 (wrdD k p).2.2
def inD (W : List (List UInt8)) (v : Int) : Bool := decide (v < (W.length : Int))
def pickD (W : List (List UInt8)) (pl : List Int) : Option (List (List UInt8)) := if pl.all (inD W) = true then some (pl.map fun v => W.getD v.toNat []) else none
noncomputable def gotD (k : Nat) (p : List UInt8) : Option (List (List UInt8)) := if (decR (plcD k p).1).2 = 0 then pickD (wrdD k p).1 (decR (plcD k p).1).1 else none
theorem decR_nil : decR [] = ([], 2) := by
  have h : decP [] = none := by
    refine dec_none fun l w ha => ?_
    obtain ⟨hw, _, he⟩ := ha
    rw [enc_eq l hw] at he
    have := List.append_eq_nil_iff.1 he
    exact dig_pos' _ this.1
  unfold decR
  rw [h]
theorem decR_ok {b : List UInt8} (h : (decR b).2 = 0) : mayP (decR b).1 = true := by
  unfold decR at h ⊢
  cases hd : decP b with
  | none => rw [hd] at h; exact absurd h (by decide)
  | some l => exact dec_may hd
theorem decR_no {b : List UInt8} (h : (decR b).2 ≠ 0) : decR b = ([], 2) := by
  unfold decR at h ⊢
  cases hd : decP b with
  | none => rfl
  | some l => rw [hd] at h; exact absurd rfl h
theorem decR_len (b : List UInt8) : (decR b).1.length ≤ 32768 := by
  by_cases h : (decR b).2 = 0
  · exact ((mayP_iff _).1 (decR_ok h)).1
  · rw [decR_no h]; simp
theorem rowsB_app (a b : List (List UInt8)) : rowsB (a ++ b) = rowsB a ++ rowsB b := by unfold rowsB; rw [List.flatMap_append]
theorem rowsB_sing (s : List UInt8) : rowsB [s] = dig s.length ++ s := by simp [rowsB]
theorem pick_places (l : List (List UInt8)) : pickD (wordsT l) (placesT l) = some l := by
  have hin : ∀ s ∈ l, ∃ hk : placeT (wordsT l) s < (wordsT l).length, (wordsT l)[placeT (wordsT l) s] = s := fun s hs => (placeT_mem (wordsT_rises l)).2 (wordsT_mem.2 hs)
  unfold pickD
  rw [if_pos]
  · congr 1
    unfold placesT
    rw [List.map_map]
    conv => rhs; rw [← List.map_id l]
    refine List.map_congr_left fun s hs => ?_
    obtain ⟨hk, e⟩ := hin s hs
    show (wordsT l).getD ((placeT (wordsT l) s : Int)).toNat [] = s
    rw [Int.toNat_natCast, List.getD_eq_getElem?_getD, List.getElem?_eq_getElem hk]
    exact e
  · rw [List.all_eq_true]
    intro v hv
    obtain ⟨s, hs, rfl⟩ := List.mem_map.1 hv
    obtain ⟨hk, _⟩ := hin s hs
    simp only [inD, decide_eq_true_eq]
    omega
theorem enc_read {l : List (List UInt8)} (h : mayD l = true) : cntD (encD l) = (wordsT l).length ∧ gotD (wordsT l).length (encD l) = some l ∧ (plcD (wordsT l).length (encD l)).2.2 = false := by
  obtain ⟨h1, h2⟩ := (mayD_iff l).1 h
  have hw := wordsT_len l
  have e1 : stNum (encD l) false = ((wordsT l).length, rowsB (wordsT l) ++ rowsB [bestP (placesT l)], false) := by
    unfold encD
    rw [numsB_one, clamp_of_nat (by omega), stNum_dig _ _ (by omega)]
  have e2 : wrdD (wordsT l).length (encD l) = (wordsT l, rowsB [bestP (placesT l)], false) := by
    unfold wrdD
    rw [e1]
    exact takeR_rows _ _ fun s hs => by have := h2 s (wordsT_mem.1 hs); omega
  have hb := best_len (places_may h1) (by rw [placesT_len]; omega)
  have e3 : plcD (wordsT l).length (encD l) = (bestP (placesT l), [], false) := by
    unfold plcD
    rw [e2, rowsB_sing]
    have := stBytes_row (bestP (placesT l)) [] (by omega)
    rw [List.append_nil] at this
    exact this
  refine ⟨by unfold cntD; rw [e1], ?_, by rw [e3]⟩
  unfold gotD
  rw [e3, e2, decR_some (dec_best (places_may h1))]
  exact pick_places l
/-- what is read, if it is laid as just these bytes -/
def chkD (p : List UInt8) (o : Option (List (List UInt8))) : List (List UInt8) × Int := match o with
  | some l => if mayD l = true ∧ encD l = p then (l, 0) else ([], 2)
  | none => ([], 2)
open Classical in
noncomputable def decD (p : List UInt8) : List (List UInt8) × Int := if h : ∃ l, mayD l = true ∧ encD l = p then (Classical.choose h, 0) else ([], 2)
theorem enc_got {l : List (List UInt8)} (h : mayD l = true) {k : Nat} (hk : k = cntD (encD l) ∨ k = min (cntD (encD l)) 32769) : gotD k (encD l) = some l ∧ (plcD k (encD l)).2.2 = false := by
  obtain ⟨h1, h2, h3⟩ := enc_read h
  have hw := wordsT_len l
  have h4 := ((mayD_iff l).1 h).1
  have e : k = (wordsT l).length := by
    rcases hk with rfl | rfl
    · exact h1
    · rw [h1]; omega
  rw [e]
  exact ⟨h2, h3⟩
theorem dec_got (p : List UInt8) {k : Nat} (hk : k = cntD p ∨ k = min (cntD p) 32769) : decD p = chkD p (gotD k p) := by
  unfold decD
  split
  · rename_i h
    obtain ⟨h1, h2⟩ := Classical.choose_spec h
    rw [← h2] at hk
    have h3 := (enc_got h1 hk).1
    rw [h2] at h3
    rw [h3]
    unfold chkD
    simp only
    rw [if_pos ⟨h1, h2⟩]
  · rename_i h
    unfold chkD
    split
    · rename_i l _
      rw [if_neg (fun hx => h ⟨l, hx⟩)]
    · rfl
theorem dec_flag (p : List UInt8) {k : Nat} (hk : k = cntD p ∨ k = min (cntD p) 32769) (hb : (plcD k p).2.2 = true) : decD p = ([], 2) := by
  unfold decD
  rw [dif_neg]
  rintro ⟨l, h1, rfl⟩
  rw [(enc_got h1 hk).2] at hb
  cases hb
theorem dec_encD {l : List (List UInt8)} (h : mayD l = true) : decD (encD l) = (l, 0) := by
  rw [dec_got (encD l) (.inl rfl), (enc_got h (.inl rfl)).1]
  unfold chkD
  exact if_pos ⟨h, rfl⟩
theorem decD_may {p : List UInt8} : mayD (decD p).1 = true := by
  unfold decD
  split
  · rename_i h
    exact (Classical.choose_spec h).1
  · exact (mayD_iff _).2 ⟨by simp, by simp⟩

/-! ### one text, many times -/
theorem words_rep (s : List UInt8) (n : Nat) (h : 0 < n) : wordsT (List.replicate n s) = [s] := by
  refine (wordsT_of (List.pairwise_singleton _ _) fun x => ?_).symm
  rw [List.mem_singleton, List.mem_replicate]
  exact ⟨fun e => ⟨by omega, e⟩, fun e => e.2⟩
theorem places_rep (s : List UInt8) (n : Nat) (h : 0 < n) : placesT (List.replicate n s) = List.replicate n 0 := by
  unfold placesT
  rw [words_rep s n h, List.map_replicate]
  congr 1
  have : placeT [s] s = 0 := placeT_cons_ge (lt_irr s) (by simp)
  rw [this]
  rfl
theorem dig_two (x : Nat) (h : x ≤ 16383) : (dig (clamp (x : Int))).length ≤ 2 :=
  dig_len 2 _ (by rw [clamp_of_nat (by omega)]; have : (128 : Nat) ^ 2 = 16384 := rfl; omega) (by omega)
theorem many_len (s : List UInt8) (n : Nat) (hs : s.length ≤ 500) (h : 0 < n) (hn : n ≤ 2000) : (encD (List.replicate n s)).length ≤ s.length + 12 := by
  unfold encD
  rw [places_rep s n h, words_rep s n h, List.length_append, List.length_append, rowsB_sing, rowsB_sing, List.length_append, List.length_append]
  have c1 : (numsB [(([s] : List (List UInt8)).length : Int)]).length ≤ 1 := by
    rw [numsB_one]
    exact dig_small1 (by simp) (by simp)
  have c2 : (dig s.length).length ≤ 2 := by have := dig_two s.length (by omega); rwa [clamp_of_nat (by omega)] at this
  have c3 : (bestP (List.replicate n 0)).length ≤ 5 := by
    refine Nat.le_trans (best_le _ 2 (Nat.le_refl _)) ?_
    show (runsB _).length ≤ 5
    have c2 : (dig (clamp 2)).length ≤ 1 := dig_small1 (by omega) (by omega)
    have c1 : (dig (clamp 1)).length ≤ 1 := dig_small1 (by omega) (by omega)
    have c0 : (dig (clamp 0)).length ≤ 1 := dig_small1 (by omega) (by omega)
    unfold runsB runsP
    rw [List.length_replicate]
    obtain ⟨m, rfl⟩ : ∃ m, n = m + 1 := ⟨n - 1, by omega⟩
    rw [runsTo_rep 0 (m + 1) m (Nat.le_refl _)]
    have e2 : numsB [2, (([(m + 1, (0 : Int))] : List (Nat × Int)).length : Int)] ++ pairsB [(m + 1, (0 : Int))] = dig (clamp 2) ++ (dig (clamp 1) ++ (dig (clamp ((m + 1 : Nat) : Int)) ++ dig (clamp 0))) := by
      simp [pairsB, numsB_cons, numsB_nil]
    have c3 := dig_two (m + 1) (by omega)
    rw [e2, List.length_append, List.length_append, List.length_append]
    omega
  have c4 : (dig (bestP (List.replicate n 0)).length).length ≤ 1 := dig_len 1 _ (by have : (128 : Nat) ^ 1 = 128 := rfl; omega) (by omega)
  omega
end Go.Proofs.Ythceajadgjnnmaa

/-
  DERIVED: THE SHELF's CONTRACTS AT THIS DUMP, IN PLAIN WORDS (tools/lay-plain.mjs out of 'YthceajadgjnnmaaShelfD0.lean', which tools/lay-shelf.mjs wrote): THE SAME DECLARATIONS UNDER THE SAME NAMES: 'import', 'namespace', 'open', 'def', 'theorem' AND NOTHING ELSE: no command of the shelf's: FOR A HAND-IN. Each laying: the table of numbers ('.._ren') and one theorem, a field a fact of the dump's own or the kernel's comparison; each contract: ONE APPLICATION.
-/
namespace Go.Proofs
open Go.Shelf
def Try.laySort_ren : Go.Shelf.Ren := ⟨fun | 190 => 60 | 125 => 86 | 258 => 85 | 128 => 101 | 129 => 102 | 302 => 93 | 303 => 94 | 304 => 95 | 305 => 96 | 306 => 97 | 307 => 98 | 308 => 91 | 309 => 99 | 310 => 100 | 333 => 107 | 329 => 108 | 330 => 109 | 334 => 110 | 335 => 111 | 336 => 106 | 344 => 112 | n => n, fun | 31 => 40 | 9 => 9 | 3 => 3 | 46 => 87 | 0 => 0 | 51 => 124 | 53 => 86 | 4 => 4 | 183 => 118 | 182 => 117 | 131 => 104 | 5 => 5 | 218 => 130 | 222 => 101 | 228 => 135 | 229 => 98 | n => n, fun | n => n⟩
theorem Try.laySort : Go.Proofs.Lays.n190 Try.prog Try.laySort_ren := {
  mixed := by kernel_rfl
  f125 := Try.func86.trans (congrArg some (by kernel_rfl))
  f128 := Try.func101.trans (congrArg some (by kernel_rfl))
  f129 := Try.func102.trans (congrArg some (by kernel_rfl))
  f190 := Try.func60.trans (congrArg some (by kernel_rfl))
  f258 := Try.func85.trans (congrArg some (by kernel_rfl))
  f302 := Try.func93.trans (congrArg some (by kernel_rfl))
  f303 := Try.func94.trans (congrArg some (by kernel_rfl))
  f304 := Try.func95.trans (congrArg some (by kernel_rfl))
  f305 := Try.func96.trans (congrArg some (by kernel_rfl))
  f306 := Try.func97.trans (congrArg some (by kernel_rfl))
  f307 := Try.func98.trans (congrArg some (by kernel_rfl))
  f308 := Try.func91.trans (congrArg some (by kernel_rfl))
  f309 := Try.func99.trans (congrArg some (by kernel_rfl))
  f310 := Try.func100.trans (congrArg some (by kernel_rfl))
  f329 := Try.func108.trans (congrArg some (by kernel_rfl))
  f330 := Try.func109.trans (congrArg some (by kernel_rfl))
  f333 := Try.func107.trans (congrArg some (by kernel_rfl))
  f334 := Try.func110.trans (congrArg some (by kernel_rfl))
  f335 := Try.func111.trans (congrArg some (by kernel_rfl))
  f336 := Try.func106.trans (congrArg some (by kernel_rfl))
  f344 := Try.func112.trans (congrArg some (by kernel_rfl))
  t0 := Try.underlying0
  a0 := Try.isAgg0
  z0 := Try.sizeOf0
  v0 := Try.zeroValue0
  t3 := Try.underlying3
  a3 := Try.isAgg3
  z3 := Try.sizeOf3
  v3 := Try.zeroValue3
  t4 := Try.underlying4
  a4 := Try.isAgg4
  z4 := Try.sizeOf4
  v4 := Try.zeroValue4
  t5 := Try.underlying5
  a5 := Try.isAgg5
  z5 := Try.sizeOf5
  v5 := Try.zeroValue5
  t9 := Try.underlying9
  a9 := Try.isAgg9
  z9 := Try.sizeOf9
  v9 := Try.zeroValue9
  t31 := Try.underlying40
  a31 := Try.isAgg40
  z31 := Try.sizeOf40
  v31 := Try.zeroValue40
  t46 := Try.underlying87
  a46 := Try.isAgg87
  z46 := Try.sizeOf87
  v46 := Try.zeroValue87
  t51 := Try.underlying124
  a51 := Try.isAgg124
  z51 := Try.sizeOf124
  v51 := Try.zeroValue124
  t53 := Try.underlying86
  a53 := Try.isAgg86
  z53 := Try.sizeOf86
  v53 := Try.zeroValue86
  t131 := Try.underlying104
  a131 := Try.isAgg104
  z131 := Try.sizeOf104
  v131 := Try.zeroValue104
  t182 := Try.underlying117
  a182 := Try.isAgg117
  z182 := Try.sizeOf117
  v182 := Try.zeroValue117
  t183 := Try.underlying118
  a183 := Try.isAgg118
  z183 := Try.sizeOf118
  v183 := Try.zeroValue118
  t218 := Try.underlying130
  a218 := Try.isAgg130
  z218 := Try.sizeOf130
  v218 := Try.zeroValue130
  t222 := Try.underlying101
  a222 := Try.isAgg101
  z222 := Try.sizeOf101
  v222 := Try.zeroValue101
  t228 := Try.underlying135
  a228 := Try.isAgg135
  z228 := Try.sizeOf135
  v228 := Try.zeroValue135
  t229 := Try.underlying98
  a229 := Try.isAgg98
  z229 := Try.sizeOf98
  v229 := Try.zeroValue98 }
def Try.laySearch_ren : Go.Shelf.Ren := ⟨fun | 26 => 82 | 33 => 91 | 34 => 92 | 38 => 106 | n => n, fun | 24 => 40 | 9 => 9 | 3 => 3 | 4 => 4 | 40 => 87 | 0 => 0 | n => n, fun | n => n⟩
theorem Try.laySearch : Go.Proofs.Lays2.n26 Try.prog Try.laySearch_ren := {
  mixed := by kernel_rfl
  f26 := Try.func82.trans (congrArg some (by kernel_rfl))
  f33 := Try.func91.trans (congrArg some (by kernel_rfl))
  f34 := Try.func92.trans (congrArg some (by kernel_rfl))
  f38 := Try.func106.trans (congrArg some (by kernel_rfl))
  t0 := Try.underlying0
  a0 := Try.isAgg0
  z0 := Try.sizeOf0
  v0 := Try.zeroValue0
  t3 := Try.underlying3
  a3 := Try.isAgg3
  z3 := Try.sizeOf3
  v3 := Try.zeroValue3
  t4 := Try.underlying4
  a4 := Try.isAgg4
  z4 := Try.sizeOf4
  v4 := Try.zeroValue4
  t9 := Try.underlying9
  a9 := Try.isAgg9
  z9 := Try.sizeOf9
  v9 := Try.zeroValue9
  t24 := Try.underlying40
  a24 := Try.isAgg40
  z24 := Try.sizeOf40
  v24 := Try.zeroValue40
  t40 := Try.underlying87
  a40 := Try.isAgg87
  z40 := Try.sizeOf87
  v40 := Try.zeroValue87 }
def Try.layCompact_ren : Go.Shelf.Ren := ⟨fun | 194 => 61 | n => n, fun | 31 => 40 | 9 => 9 | 3 => 3 | 4 => 4 | 0 => 0 | n => n, fun | n => n⟩
theorem Try.layCompact : Go.Proofs.Lays.n194 Try.prog Try.layCompact_ren := {
  mixed := by kernel_rfl
  f194 := Try.func61.trans (congrArg some (by kernel_rfl))
  t0 := Try.underlying0
  a0 := Try.isAgg0
  z0 := Try.sizeOf0
  v0 := Try.zeroValue0
  t3 := Try.underlying3
  a3 := Try.isAgg3
  z3 := Try.sizeOf3
  v3 := Try.zeroValue3
  t4 := Try.underlying4
  a4 := Try.isAgg4
  z4 := Try.sizeOf4
  v4 := Try.zeroValue4
  t9 := Try.underlying9
  a9 := Try.isAgg9
  z9 := Try.sizeOf9
  v9 := Try.zeroValue9
  t31 := Try.underlying40
  a31 := Try.isAgg40
  z31 := Try.sizeOf40
  v31 := Try.zeroValue40 }
end Go.Proofs

/-
  Texts, cloned, sorted, each once (program's Words): the library's contracts in these words. No statement of the seat is proved here.
-/
namespace Go.Proofs.Ythceajadgjnnmaa
open Go Go.RowKit Go.Sort Go.Lib

set_option maxRecDepth 100000 in
theorem clone_strs {w : World} (A : Option Addr) (m c : Nat) (xs : List Value) (hl : xs.length = m) (hr : Rd w A xs) (h0 : A = none → m = 0 ∧ c = 0) (h1 : ∀ u ∈ xs, u.oneCell' = true) (hm : m ≤ 1000000) :
    Calls Try.prog 59 #[.slice A m c] w fun e w' => ∃ A' c', e = .returned (.slice A' m c') ∧ NewO w w' 9 1 A' m c' xs := by
  have he := Lib.run_eql_slice_nil (P := Try.prog) w 40 9 A m c 0 0 Try.underlying40
  rcases A with _ | ad
  · obtain ⟨rfl, rfl⟩ := h0 rfl
    have hnil : xs = [] := List.eq_nil_of_length_eq_zero hl
    subst hnil
    go_enter Try.func59, Try.ntmps59
    go_wp2
    go_ret
    exact ⟨none, 0, rfl, NewO.start _ _ _⟩
  · have hm1 : 0 + m ≤ maxLen := by unfold maxLen; omega
    have hm2 : (0 + m) * 16 ≤ 140737488355328 := by omega
    have hempty : NewO w (w.alloc (.cells #[] 9)) 9 1 (some ⟨w.heap.size, 0, none⟩) 0 0 [] := ⟨RowO.lit w 9 1 0 #[] rfl (Nat.zero_le _) rfl, ext_alloc (Below.refl _ _) _, fun k hk => by rw [inA_some] at hk; omega⟩
    have hrd := hr.alloc (.cells #[] 9)
    go_enter Try.func59, Try.ntmps59
    go_wp2_with (at_builtin
                 refine wpList_appO _ rfl (.tmp 5) (.tmp 6) _ rfl _ _ 1 16 Try.underlying40 info_str rfl (some ⟨w.heap.size, 0, none⟩) 0 0 [] rfl hempty.row (some ad) m c xs rfl (by rw [hl, Nat.mul_one]) hrd h1 ?_ hm1 hm2 ?_
                 · intro h; cases h
                 intro A2 c2 w2 hrow2 honly2 hA2)
    go_ret
    rw [List.nil_append] at hrow2
    rw [Nat.zero_add] at hrow2
    exact ⟨A2, c2, by first | rfl | simp, hempty.grow (Below.refl _ _) hrow2 honly2 hA2⟩

section
variable {w : World} {g off m c : Nat} {ss : List (List UInt8)}
theorem holds_strs (h : RowO w 9 1 (some ⟨g, off, none⟩) m c (ss.map strV)) : Holds encStr w g off ss.toArray := by
  intro j hj
  have hj' : j < ss.length := by simpa using hj
  refine ⟨?_, h.free _⟩
  obtain ⟨ad, e, hc⟩ := h.rd j _ (List.getElem?_eq_getElem (by simpa using hj'))
  injection e with e
  subst e
  rw [Addr.add_mid] at hc
  rw [hc]
  simp [hj']
  rfl
theorem sorted_strs (h : RowO w 9 1 (some ⟨g, off, none⟩) m c (ss.map strV)) (ts : List (List UInt8)) (hd : ts.length = ss.length) (n : Nat) (os : Array Obj) :
    RowO (grow (putRow encStr (Sort.ahead w n) g off ts.toArray) os) 9 1 (some ⟨g, off, none⟩) m c (ts.map strV) ∧ Only (inA (some ⟨g, off, none⟩)) w (grow (putRow encStr (Sort.ahead w n) g off ts.toArray) os) := by
  have h1 := h.1
  rcases h.2 with ⟨h2, _⟩ | ⟨g', off', cs, h2, h3, h4, hb, h6, h7⟩
  · cases h2
  · injection h2 with h2
    injection h2 with h2 h2' _
    subst h2 h2'
    have hg : g < w.heap.size := hb.lt
    have hb' := hb
    unfold Blk at hb'
    refine ⟨⟨by rw [List.length_map, hd]; rw [List.length_map] at h1; exact h1, .inr ⟨g, off, putCells encStr off ts.toArray cs, rfl, h3, h4, ?_, by simp [putCells]; omega, fun j u hu => ?_⟩⟩, ?_⟩
    · unfold Blk
      rw [heap_grow_old _ _ (by simpa using hg)]
      simp [putRow, mapBlock, Sort.ahead, Array.getElem?_modify, hb', onCells]
    · have hj : j < ts.length := by have := (List.getElem?_eq_some_iff.1 hu).1; simpa using this
      rw [List.length_map] at h1
      have hjs : off + j < cs.size := by omega
      unfold putCells
      rw [Array.getElem?_mapIdx, Array.getElem?_eq_getElem hjs]
      have hj2 : j < ts.toArray.size := by simpa using hj
      simp only [Option.map_some, List.size_toArray]
      rw [if_pos ⟨by omega, by omega⟩, show off + j - off = j by omega, getElem!_pos _ j hj2]
      rw [← hu, List.getElem?_map, List.getElem?_eq_getElem hj]
      simp
      rfl
    · refine ⟨rfl, rfl, rfl, by simp [grow, putRow, mapBlock, Sort.ahead], fun k hk hn => ?_⟩
      rw [inA_some] at hn
      rw [heap_grow_old _ _ (by simpa [putRow, mapBlock, Sort.ahead] using hk)]
      simp [putRow, mapBlock, Sort.ahead, Array.getElem?_modify, hn]
end
theorem sortstrs_any {w : World} {A : Option Addr} {c : Nat} {ss : List (List UInt8)} (h : RowO w 9 1 A ss.length c (ss.map strV)) (hl : ss.length ≤ 1000000) :
    Calls Try.prog 60 #[.slice A ss.length c] w fun e w' => e = .returned (.tuple #[]) ∧ ∃ ts : List (List UInt8), ts.Perm ss ∧ ts.Pairwise (fun a b => ¬ b < a) ∧ RowO w' 9 1 A ss.length c (ts.map strV) ∧ Only (inA A) w w' := by
  cases A with
  | none =>
    have h0 : ss = [] := by
      rcases h.2 with ⟨_, h1, _⟩ | ⟨_, _, _, h1, _⟩
      · exact List.eq_nil_of_length_eq_zero h1
      · cases h1
    subst h0
    have hs := Go.Proofs.Any.slices_Sort_string_none Try.laySort none c w
    change Calls Try.prog 60 _ _ _ at hs
    refine hs.mono ?_
    rintro e w' ⟨rfl, rfl⟩
    exact ⟨rfl, [], List.Perm.refl _, List.Pairwise.nil, h, Only.refl _ _⟩
  | some ad =>
    obtain ⟨g, off, e⟩ := h.flat ad rfl
    subst e
    have hs := Go.Proofs.Any.slices_Sort_string Try.laySort g off c ss w (holds_strs h) (h.lt ((inA_some g off g none).2 rfl)) (by omega)
    change Calls Try.prog 60 _ _ _ at hs
    refine hs.mono ?_
    rintro e w' ⟨rfl, n, os, rfl⟩
    have hperm := List.mergeSort_perm ss (fun x y => decide (x ≤ y))
    obtain ⟨h1, h2⟩ := sorted_strs h (ss.mergeSort fun x y => decide (x ≤ y)) hperm.length_eq n os
    refine ⟨rfl, _, hperm, ?_, h1, h2⟩
    have hsrt := List.pairwise_mergeSort (le := fun x y : List UInt8 => decide (x ≤ y)) (fun a b c h1 h2 => by
      simp only [decide_eq_true_eq] at *
      exact List.le_trans h1 h2) (fun a b => by
      simp only [Bool.or_eq_true, decide_eq_true_eq]
      exact List.le_total a b) ss
    refine hsrt.imp fun {a b} hab => ?_
    simp only [decide_eq_true_eq] at hab
    exact fun hlt => hab hlt

theorem holds_compact {w : World} {g off m c : Nat} {ss : List (List UInt8)} (h : RowO w 9 1 (some ⟨g, off, none⟩) m c (ss.map strV)) (n : Nat) (ts : List (List UInt8)) (ht : ts.length = ss.length) :
    RowO (putRow encStr (Sort.ahead w n) g off ts.toArray) 9 1 (some ⟨g, off, none⟩) m c (ts.map strV) ∧ Only (inA (some ⟨g, off, none⟩)) w (putRow encStr (Sort.ahead w n) g off ts.toArray) := by
  have hx := sorted_strs h ts ht n #[]
  have e : ∀ X : World, grow X #[] = X := fun X => by cases X; simp [grow]
  rw [e] at hx
  exact hx
theorem compact_le (zs : List (List UInt8)) : (Lib.compact zs).length ≤ zs.length := by
  unfold Lib.compact Lib.compactUpTo
  rw [List.length_map]
  exact Nat.le_trans (List.length_filter_le _ _) (by simp)
theorem compact_any {w : World} {A : Option Addr} {c : Nat} {ss : List (List UInt8)} (h : RowO w 9 1 A ss.length c (ss.map strV)) (hl : ss.length ≤ 1000000) :
    Calls Try.prog 61 #[.slice A ss.length c] w fun e w' => e = .returned (.slice A (Lib.compact ss).length c) ∧ RowO w' 9 1 A (Lib.compact ss).length c ((Lib.compact ss).map strV) ∧ Only (inA A) w w' := by
  by_cases h0 : ss = []
  · subst h0
    have hs := Go.Proofs.Any.slices_Compact_string_empty Try.layCompact A c w
    change Calls Try.prog 61 _ _ _ at hs
    refine hs.mono ?_
    rintro e w' ⟨rfl, rfl⟩
    exact ⟨rfl, h, Only.refl _ _⟩
  · cases A with
    | none =>
      rcases h.2 with ⟨_, h1, _⟩ | ⟨_, _, _, h1, _⟩
      · exact absurd (List.eq_nil_of_length_eq_zero h1) h0
      · cases h1
    | some ad =>
      obtain ⟨g, off, e⟩ := h.flat ad rfl
      subst e
      have hs := Go.Proofs.Any.slices_Compact_string Try.layCompact g off c ss w (holds_strs h) (by omega) h.le
      change Calls Try.prog 61 _ _ _ at hs
      refine hs.mono ?_
      rintro e w' ⟨rfl, n, rfl⟩
      have hle := compact_le ss
      obtain ⟨h1, h2⟩ := holds_compact h n (Lib.compact ss ++ List.replicate (ss.length - (Lib.compact ss).length) []) (by simp; omega)
      refine ⟨rfl, h1.sub hle (by rw [List.length_map, Nat.mul_one]) (fun j u hu => ?_), h2⟩
      rw [List.map_append, List.getElem?_append_left (List.getElem?_eq_some_iff.1 hu).1]
      exact hu
set_option maxRecDepth 100000 in
set_option maxHeartbeats 2000000 in
theorem words_any {w : World} (A : Option Addr) (c : Nat) (l : List (List UInt8)) (hA : Rd w A (l.map strV)) (h0 : A = none → c = 0) (hl : l.length ≤ 1000000) :
    Calls Try.prog 29 #[.slice A l.length c] w fun e w' => ∃ A' c', e = .returned (.slice A' (wordsT l).length c') ∧ NewO w w' 9 1 A' (wordsT l).length c' ((wordsT l).map strV) := by
  have hnil0 : A = none → l.length = 0 := fun e => by
    rcases l with _ | ⟨a, r⟩
    · rfl
    · obtain ⟨ad, e2, _⟩ := hA 0 _ rfl
      rw [e] at e2
      cases e2
  have hnil : A = none → l.length = 0 ∧ c = 0 := fun e => ⟨hnil0 e, h0 e⟩
  have HC := Lib.hid (clone_strs A l.length c (l.map strV) (by simp) hA hnil (strVs_one _) hl)
  have HW : Hid (∀ ts : List (List UInt8), ts.Perm l → ts.Pairwise (fun a b => ¬ b < a) → Lib.compact ts = wordsT l) := Lib.hid (fun ts hp hs => compact_words hs fun x => hp.mem_iff)
  generalize wordsT l = R at *
  have Hl := Lib.hid hl
  clear hA h0 hnil hnil0 hl
  go_enter Try.func29, Try.ntmps29
  go_wp2_with fail
  refine HC.out.mono ?_
  rintro e w1 ⟨A1, c1, rfl, hN1⟩
  have HS := Lib.hid (sortstrs_any hN1.row Hl.out)
  have HN1 := Lib.hid hN1
  clear hN1 HC
  go_wp2_with fail
  refine HS.out.mono ?_
  rintro e w2 ⟨rfl, ts, hp, hs, hr2, ho2⟩
  have hle := hp.length_eq
  rw [← hle] at hr2
  have HK := Lib.hid (compact_any hr2 (by rw [hle]; exact Hl.out))
  rw [hle, HW.out ts hp hs] at HK
  have HN2 : Hid (Below w.heap.size w w2) := Lib.hid (HN1.out.bel.trans (ho2.below (fun i hi => HN1.out.2.2 i hi) HN1.out.bel.size))
  clear hp hs hr2 ho2 hle HS HW
  go_wp2_with fail
  refine HK.out.mono ?_
  rintro e w3 ⟨rfl, hr3, ho3⟩
  have HN3 : Hid (NewO w w3 9 1 A1 R.length c1 (R.map strV)) := Lib.hid ⟨hr3, HN2.out.trans (ho3.below (fun i hi => HN1.out.2.2 i hi) HN2.out.size), HN1.out.2.2⟩
  clear hr3 ho3 HK
  go_wp2
  go_ret
  exact ⟨A1, c1, rfl, HN3.out⟩
end Go.Proofs.Ythceajadgjnnmaa
