/-
  Texts of this claim, joined (part 17): contracts and lemmas that the last text goes by. No statement of the seat is proved here.
-/
import Derived.Test.YtpjgkacekelkdaaGreatDoorAll10
import Derived.Test.YtpjgkacekelkdaaGreatDoorAll13
import Derived.Test.YtpjgkacekelkdaaGreatDoorAll14
import Derived.Test.YtpjgkacekelkdaaGreatDoorAll16
import Derived.Test.YtpjgkacekelkdaaGreatDoorAll5
import Derived.Deep.RegionHeld3
set_option linter.unusedVariables false
set_option linter.unusedSimpArgs false
/-
  A segment as bytes (reference). No statement of the seat is proved here.
-/
namespace Go.Proofs.YtpjgkacekelkdaaGreatDoor
open Go Go.RowKit
set_option maxRecDepth 100000

/-- three rows that grow, two of numbers, apart from each other -/
structure R3 (w wr : World) (n n2 m : Nat) (A : Option Addr) (a : Nat) (xs : List Value) (B : Option Addr) (b : Nat) (ys : List Value) (C : Option Addr) (c : Nat) (zs : List Value) : Prop where
  ra : NewO w wr 3 1 A n a xs
  rb : NewO w wr 3 1 B n2 b ys
  rc : NewO w wr 9 1 C m c zs
  ab : ∀ k, inA A k → ¬ inA B k
section
variable {w wr w2 w3 : World} {n m n2 n' : Nat} {A A' B C : Option Addr} {a a' b c : Nat} {xs ys zs us : List Value}
theorem R3.ext (h : R3 w wr n n2 m A a xs B b ys C c zs) (hb : Below wr.heap.size wr w2) : R3 w w2 n n2 m A a xs B b ys C c zs := ⟨h.ra.ext hb, h.rb.ext hb, h.rc.ext hb, h.ab⟩
theorem R3.growA (h : R3 w wr n n2 m A a xs B b ys C c zs) (hb : Below wr.heap.size wr w2) (hr : RowO w3 3 1 A' n' a' us) (ho : Only (inA A) w2 w3) (hA : ∀ k, inA A' k → inA A k ∨ (w2.heap.size ≤ k ∧ k < w3.heap.size)) : R3 w w3 n' n2 m A' a' us B b ys C c zs := by
  have hN := h.ra.grow hb hr ho hA
  refine ⟨hN, h.rb.apart hb ho (fun k hk hk' => h.ab k hk' hk) hN.bel, h.rc.apart hb ho (h.rc.row.ne_row h.ra.row (by decide)) hN.bel, fun k h1 h2 => ?_⟩
  rcases hA k h1 with h1 | ⟨h1, _⟩
  · exact h.ab k h1 h2
  · have := h.rb.row.lt h2
    have := hb.size
    omega
theorem R3.growB (h : R3 w wr n n2 m A a xs B b ys C c zs) (hb : Below wr.heap.size wr w2) (hr : RowO w3 3 1 A' n' a' us) (ho : Only (inA B) w2 w3) (hA : ∀ k, inA A' k → inA B k ∨ (w2.heap.size ≤ k ∧ k < w3.heap.size)) : R3 w w3 n n' m A a xs A' a' us C c zs := by
  have hN := h.rb.grow hb hr ho hA
  refine ⟨h.ra.apart hb ho (fun k hk hk' => h.ab k hk hk') hN.bel, hN, h.rc.apart hb ho (h.rc.row.ne_row h.rb.row (by decide)) hN.bel, fun k h1 h2 => ?_⟩
  rcases hA k h2 with h2 | ⟨h2, _⟩
  · exact h.ab k h1 h2
  · have := h.ra.row.lt h1
    have := hb.size
    omega
theorem R3.growC (h : R3 w wr n n2 m A a xs B b ys C c zs) (hb : Below wr.heap.size wr w2) (hr : RowO w3 9 1 A' n' a' us) (ho : Only (inA C) w2 w3) (hA : ∀ k, inA A' k → inA C k ∨ (w2.heap.size ≤ k ∧ k < w3.heap.size)) : R3 w w3 n n2 n' A a xs B b ys A' a' us := by
  have hN := h.rc.grow hb hr ho hA
  exact ⟨h.ra.apart hb ho (h.ra.row.ne_row h.rc.row (by decide)) hN.bel, h.rb.apart hb ho (h.rb.row.ne_row h.rc.row (by decide)) hN.bel, hN, h.ab⟩
end

set_option maxHeartbeats 16000000 in
theorem rencodeG_any (s : Sg) (B : Option Addr) (c : Nat) (w : World) (h : SgIn w s B c) (hs : ∀ x ∈ s.lines, ∀ v ∈ x.vars, v.length ≤ maxLen) :
    Calls Tryz.prog 7 #[sgV s B c] w fun e w' => ∃ A' c', e = .returned (.tuple #[.slice A' (ansG s).1.length c', .int .i64 (ansG s).2]) ∧ New w w' A' c' (ansG s).1 ∧ Below w.heap.size w w' := by
  obtain ⟨w1, hw1⟩ : ∃ w1, w1 = w.alloc (.cells #[.int .i64 s.first, .slice B s.lines.length c] 32) := ⟨_, rfl⟩
  have hb1 : Below w.heap.size w w1 := by rw [hw1]; exact ext_alloc (Below.refl _ _) _
  have HB1 : Hid (Blk w1 w.heap.size 32 #[.int .i64 s.first, .slice B s.lines.length c]) := Lib.hid (by rw [hw1]; exact Blk.new _ _ _)
  have HI := Lib.hid (ris18_any s B c w1 (h.ext hb1) hs)
  have Hb1 := Lib.hid hb1
  have Hw1 := Lib.hid hw1
  cases hi : isG s with
  | false =>
    have HR : Hid (ansG s = ([], 1)) := Lib.hid (by unfold ansG; rw [hi]; rfl)
    rw [hi] at HI
    have k0 := HB1.out.cell 0
    have k1 := HB1.out.cell 1
    simp only [List.getElem?_toArray, List.getElem?_cons_zero, List.getElem?_cons_succ] at k0 k1
    rw [Hw1.out] at k0 k1
    unfold sgV at HI ⊢
    clear hw1 hb1 h hs hi
    go_enter Tryz.func7, Tryz.ntmps7
    go_wp2_with fail
    rw [← Hw1.out]
    refine HI.out.mono ?_
    rintro e w2 ⟨rfl, hb2⟩
    have Hb2 := Lib.hid (ext_trans Hb1.out hb2)
    clear hb2
    go_wp2
    go_ret2
    rw [HR.out]
    exact ⟨none, 0, rfl, Own.none_ _ _ _, Hb2.out⟩
  | true =>
    obtain ⟨⟨f1, f2, f3, f4⟩, f5⟩ := (isG_iff s).1 hi
    have HR : Hid (ansG s = (encG s, 0)) := Lib.hid (by unfold ansG; rw [if_pos hi])
    have hm1 := ids_may f4 (fun x hx => ⟨(f5 x hx).1, (f5 x hx).2.1⟩)
    have hm2 := cnt_may f4 (fun x hx => (f5 x hx).2.2.1)
    have hm3 := var_may f4 (fun x hx => (f5 x hx).2.2)
    have hml := ((mayD_iff _).1 hm3)
    have hli : (s.lines.length : Int) ≤ 512 := by omega
    have HRow := Lib.hid (h.row.ext IsLn.lasts hb1)
    have HVl : Hid (∀ x ∈ s.lines, x.vars.length ≤ 64) := Lib.hid (fun x hx => (f5 x hx).2.2.1)
    have HP1 : Hid (∀ (A : Option Addr) (a : Nat) (W : World), Rd W A ((idsG s.lines).map iv) → WayC 22 A s.lines.length a (bestP (idsG s.lines)) W) := Lib.hid (fun A a W hW => by
      have h := way_of hm1 (rbest_any A a (idsG s.lines) W hW (by simp [idsG]; omega))
      rw [show (idsG s.lines).length = s.lines.length by simp [idsG]] at h
      exact h)
    have HP2 : Hid (∀ (A : Option Addr) (a : Nat) (W : World), Rd W A ((cntG s.lines).map iv) → WayC 22 A s.lines.length a (bestP (cntG s.lines)) W) := Lib.hid (fun A a W hW => by
      have h := way_of hm2 (rbest_any A a (cntG s.lines) W hW (by simp [cntG]; omega))
      rw [show (cntG s.lines).length = s.lines.length by simp [cntG]] at h
      exact h)
    have HD : Hid (∀ (A : Option Addr) (a : Nat) (W : World), Rd W A ((varG s.lines).map strV) → Calls Tryz.prog 23 #[.slice A (varG s.lines).length a] W fun e w' => ∃ A' c', e = .returned (.tuple #[.slice A' (encD (varG s.lines)).length c', .int .i64 0]) ∧ New W w' A' c' (encD (varG s.lines)) ∧ Below W.heap.size W w') := Lib.hid (fun A a W hW => by
      have h := rencodeD_any A a (varG s.lines) W hW (by have := hml.1; omega) (fun v hv => by have := hml.2 v hv; omega)
      rw [show ansD (varG s.lines) = (encD (varG s.lines), 0) by unfold ansD; rw [if_pos hm3]] at h
      exact h)
    have HL := Lib.hid (bodyG_len hi)
    have HE : Hid (encG s = sealB (numsB [s.first] ++ rowsB [bestP (idsG s.lines), bestP (cntG s.lines), encD (varG s.lines)])) := Lib.hid rfl
    have HN1 : Hid ((numsB [s.first]).length ≤ 9) := Lib.hid (dig_nine _)
    have HLr : Hid ((rowsB [bestP (idsG s.lines), bestP (cntG s.lines), encD (varG s.lines)]).length ≤ 300000000) := Lib.hid (by have := HL.out; unfold bodyG at this; rw [List.length_append] at this; omega)
    have Hfi : Hid (isInt s.first) := Lib.hid h.int
    have HB1' := HB1
    have k0 := HB1.out.cell 0
    have k1 := HB1.out.cell 1
    simp only [List.getElem?_toArray, List.getElem?_cons_zero, List.getElem?_cons_succ] at k0 k1
    rw [Hw1.out] at k0 k1
    rw [hi] at HI
    unfold sgV at HI ⊢
    unfold WayC at HP1 HP2
    rw [HR.out, HE.out]
    clear hw1 hb1 h hs hi HR HE HL hm1 hm2 hm3 hml f5 HB1'
    obtain ⟨f, ls⟩ := s
    dsimp only at hli HB1 HI HP1 HP2 HD HN1 HLr Hfi HRow HVl Hw1 k0 k1 f1 f2 f3 f4 ⊢
    obtain ⟨n, hn⟩ : ∃ n, ls.length = n := ⟨_, rfl⟩
    rw [hn] at hli HB1 HI HP1 HP2 f3 f4 k1 ⊢
    have Hn := Lib.hid hn
    rw [hn] at Hw1
    clear hn
    generalize bestP (idsG ls) = b1 at *
    generalize bestP (cntG ls) = b2 at *
    generalize encD (varG ls) = b3 at *
    obtain ⟨Nb, hN⟩ : ∃ N, numsB [f] = N := ⟨_, rfl⟩
    have hNd : dig (clamp f) = Nb := by rw [← hN, numsB_one]
    rw [hN] at HN1 ⊢
    have HRn := Lib.hid (fun W => refnum_any f W Hfi.out)
    rw [hNd] at HRn
    clear hN hNd
    have HY := Lib.hid (fun (A : Option Addr) (c : Nat) (b : List UInt8) (W : World) (hW : Rd W A (b.map bv)) (hb : b.length ≤ 300000000) => refbytes_any A b.length c b (dig b.length ++ b) W rfl rfl hW (by omega))
    have hrb : rowsB [b1, b2, b3] = (dig b1.length ++ b1) ++ ((dig b2.length ++ b2) ++ (dig b3.length ++ b3)) := by simp [rowsB]
    have hL := HLr.out
    rw [hrb] at hL
    simp only [List.length_append] at hL
    have HY1 := Lib.hid (fun A c W hW => HY.out A c b1 W hW (by omega))
    have HY2 := Lib.hid (fun A c W hW => HY.out A c b2 W hW (by omega))
    have HY3 := Lib.hid (fun A c W hW => HY.out A c b3 W hW (by omega))
    rw [hrb]
    obtain ⟨Y1, hY1⟩ : ∃ Y, dig b1.length ++ b1 = Y := ⟨_, rfl⟩
    obtain ⟨Y2, hY2⟩ : ∃ Y, dig b2.length ++ b2 = Y := ⟨_, rfl⟩
    obtain ⟨Y3, hY3⟩ : ∃ Y, dig b3.length ++ b3 = Y := ⟨_, rfl⟩
    rw [hY1] at HY1 ⊢
    rw [hY2] at HY2 ⊢
    rw [hY3] at HY3 ⊢
    have z1 : Y1.length ≤ 300000000 := by rw [← hY1, List.length_append]; omega
    have z2 : Y2.length ≤ 300000000 := by rw [← hY2, List.length_append]; omega
    have z3 : Y3.length ≤ 300000000 := by rw [← hY3, List.length_append]; omega
    have hN9 := HN1.out
    have hl1 : Nb.length + Y1.length ≤ maxLen := by unfold maxLen; omega
    have hl1b : (Nb.length + Y1.length) * 1 ≤ 140737488355328 := by omega
    have hl2 : (Nb ++ Y1).length + Y2.length ≤ maxLen := by rw [List.length_append]; unfold maxLen; omega
    have hl2b : ((Nb ++ Y1).length + Y2.length) * 1 ≤ 140737488355328 := by rw [List.length_append]; omega
    have hl3 : (Nb ++ Y1 ++ Y2).length + Y3.length ≤ maxLen := by rw [List.length_append, List.length_append]; unfold maxLen; omega
    have hl3b : ((Nb ++ Y1 ++ Y2).length + Y3.length) * 1 ≤ 140737488355328 := by rw [List.length_append, List.length_append]; omega
    have hl5 : (Nb ++ Y1 ++ Y2 ++ Y3).length ≤ 1000000000 := by simp only [List.length_append]; omega
    have hl4 : (Nb ++ Y1 ++ Y2 ++ Y3).length + 4 ≤ maxLen := by unfold maxLen; omega
    have hl4b : ((Nb ++ Y1 ++ Y2 ++ Y3).length + 4) * 1 ≤ 140737488355328 := by omega
    have HE2 : Hid (sealB (Nb ++ (Y1 ++ (Y2 ++ Y3))) = Nb ++ Y1 ++ Y2 ++ Y3 ++ lowB 4 (sumOf (Nb ++ Y1 ++ Y2 ++ Y3))) := Lib.hid (by unfold sealB; simp only [List.append_assoc])
    rw [HE2.out]
    obtain ⟨Z1, hZ1⟩ : ∃ Z, Nb ++ Y1 = Z := ⟨_, rfl⟩
    rw [hZ1] at hl2 hl2b hl3 hl3b hl4 hl4b hl5 ⊢
    obtain ⟨Z2, hZ2⟩ : ∃ Z, Z1 ++ Y2 = Z := ⟨_, rfl⟩
    rw [hZ2] at hl3 hl3b hl4 hl4b hl5 ⊢
    obtain ⟨Z3, hZ3⟩ : ∃ Z, Z2 ++ Y3 = Z := ⟨_, rfl⟩
    rw [hZ3] at hl4 hl4b hl5 ⊢
    have e1 := congrArg List.length hZ1
    have e2 := congrArg List.length hZ2
    have e3 := congrArg List.length hZ3
    rw [List.length_append] at e1 e2 e3
    have HZ1 := Lib.hid hZ1
    have HZ2 := Lib.hid hZ2
    have HZ3 := Lib.hid hZ3
    have He1 := Lib.hid e1
    have He2 := Lib.hid e2
    have He3 := Lib.hid e3
    have HSm := Lib.hid (sumOf_lt Z3)
    have HL1 := Lib.hid (And.intro hl1 hl1b)
    have HL2 := Lib.hid (And.intro hl2 hl2b)
    have HL3 := Lib.hid (And.intro hl3 hl3b)
    have HL4 := Lib.hid (And.intro hl4 hl4b)
    have HL5 := Lib.hid hl5
    clear hrb hL hY1 hY2 hY3 z1 z2 z3 HY HLr HE2 hZ1 hZ2 hZ3 e1 e2 e3 hN9 HN1 hl1 hl1b hl2 hl2b hl3 hl3b hl4 hl4b hl5
    go_enter Tryz.func7, Tryz.ntmps7
    go_wp2_with fail
    rw [← Hw1.out]
    refine HI.out.mono ?_
    rintro e w2 ⟨rfl, hb2⟩
    have HB2 := Lib.hid (HB1.out.ext hb2)
    have Hb2 := Lib.hid (ext_trans Hb1.out hb2)
    have HRow2 := Lib.hid (HRow.out.ext IsLn.lasts hb2)
    clear hb2 k0 k1 HI HB1 HRow
    go_wp2_with fail
    go_loopw [4, 5, 6, 7] (fun p q r i wr => ∃ (k n1 n2 m : Nat) (A : Option Addr) (a : Nat) (B : Option Addr) (b : Nat) (C : Option Addr) (c : Nat), k ≤ n ∧ i = .int .i64 (k : Int) ∧ p = .slice A n1 a ∧ q = .slice B n2 b ∧ r = .slice C m c ∧ Hid (n1 = k ∧ n2 = k ∧ m = (varG (ls.take k)).length) ∧
      Hid (R3 w2 wr n1 n2 m A a ((idsG (ls.take k)).map iv) B b ((cntG (ls.take k)).map iv) C c ((varG (ls.take k)).map strV))) (fun _ _ _ i _ => n - (intOf i).toNat)
    case atStart => exact ⟨0, 0, 0, 0, none, 0, none, 0, none, 0, Nat.zero_le _, rfl, rfl, rfl, rfl, Lib.hid ⟨rfl, rfl, rfl⟩, Lib.hid ⟨NewO.start _ _ _, NewO.start _ _ _, NewO.start _ _ _, fun k hk => absurd hk (inA_none k)⟩⟩
    case round =>
      obtain ⟨k, n1, n2, m, A, a, B2, b, C, c2, hk, rfl, rfl, rfl, rfl, Hm, H3⟩ := hrel
      have hB := HB2.out.ext H3.out.ra.bel
      have y0 := hB.cell 0
      have y1 := hB.cell 1
      simp only [List.getElem?_toArray, List.getElem?_cons_zero, List.getElem?_cons_succ] at y0 y1
      have HBr := Lib.hid hB
      clear hB
      by_cases hlt : k < n
      · have hki : (k : Int) < (n : Int) := by omega
        have hkl : k < ls.length := by have := Hn.out; omega
        obtain ⟨gB, oB, A1, c1, rfl, v0, v1, hln⟩ := row_ln (HRow2.out.ext IsLn.lasts H3.out.ra.bel) hkl
        obtain ⟨gB2, oB2, A12, c12, e1, v02, v12, hln2⟩ := row_ln HRow2.out hkl
        have hAA : A1 = A12 := by
          injection e1 with e1
          injection e1 with e1 e2
          subst e1 e2
          have := cell_only v12 (Only.of_ext (S := fun _ => False) H3.out.ra.bel) (fun h => h)
          rw [v1] at this
          injection this with this
          injection this
        have HRv : Hid (Rd w2 A1 (ls[k].vars.map strV)) := Lib.hid (by rw [hAA]; exact hln2.rd)
        have hvl := HVl.out _ (List.getElem_mem hkl)
        have HNl := Lib.hid hln.nil
        have HLc := Lib.hid hln.le
        have hml := varG_len (ls.take k) (fun x hx => HVl.out x (List.mem_of_mem_take hx))
        have hmk : m ≤ 64 * 512 := by rw [Hm.out.2.2]; refine Nat.le_trans hml ?_; rw [List.length_take]; omega
        have HT1 : Hid (idsG (ls.take (k + 1)) = idsG (ls.take k) ++ [ls[k].id]) := Lib.hid (by unfold idsG; rw [List.take_succ_eq_append_getElem hkl, List.map_append]; rfl)
        have HT2 : Hid (cntG (ls.take (k + 1)) = cntG (ls.take k) ++ [(ls[k].vars.length : Int)]) := Lib.hid (by unfold cntG; rw [List.take_succ_eq_append_getElem hkl, List.map_append]; rfl)
        have HT3 : Hid (varG (ls.take (k + 1)) = varG (ls.take k) ++ ls[k].vars) := Lib.hid (by unfold varG; rw [List.take_succ_eq_append_getElem hkl, List.flatMap_append]; simp)
        generalize ls[k].id = id_ at *
        generalize ls[k].vars = vs at *
        generalize idsG (ls.take k) = xa at *
        generalize cntG (ls.take k) = xb at *
        generalize varG (ls.take k) = xc at *
        obtain ⟨vl, hvle⟩ : ∃ vl, vs.length = vl := ⟨_, rfl⟩
        rw [hvle] at v1 hvl HT2
        have Hvl := Lib.hid hvle
        have HNl0 : Hid (A1 = none → vl = 0) := Lib.hid (fun h => by have h1 := HNl.out h; have h2 := HLc.out; have h3 := Hvl.out; omega)
        have hp1 : n1 + 1 ≤ maxLen := by have := Hm.out.1; unfold maxLen; omega
        have hp2 : (n1 + 1) * 8 ≤ 140737488355328 := by have := Hm.out.1; omega
        have hp3 : n2 + 1 ≤ maxLen := by have := Hm.out.2.1; unfold maxLen; omega
        have hp4 : (n2 + 1) * 8 ≤ 140737488355328 := by have := Hm.out.2.1; omega
        have hp5 : m + vl ≤ maxLen := by unfold maxLen; omega
        have hp6 : (m + vl) * 16 ≤ 140737488355328 := by omega
        obtain ⟨wx, hwx⟩ : ∃ wx, wx = wr.alloc (.cells #[.int .i64 id_, .slice A1 vl c1] 47) := ⟨_, rfl⟩
        have hbx : Below wr.heap.size wr wx := by rw [hwx]; exact ext_alloc (Below.refl _ _) _
        have HX : Hid (Blk wx wr.heap.size 47 #[.int .i64 id_, .slice A1 vl c1]) := Lib.hid (by rw [hwx]; exact Blk.new _ _ _)
        have H3x := Lib.hid (H3.out.ext hbx)
        have HgA : Hid (¬ inA A wr.heap.size) := Lib.hid (fun h => by have := H3.out.ra.row.lt h; omega)
        have HgB : Hid (¬ inA B2 wr.heap.size) := Lib.hid (fun h => by have := H3.out.rb.row.lt h; omega)
        have HgC : Hid (¬ inA C wr.heap.size) := Lib.hid (fun h => by have := H3.out.rc.row.lt h; omega)
        have HzA : Hid (∀ q, inA A q → q < wx.heap.size) := Lib.hid (fun q hq => by have := H3.out.ra.row.lt hq; have := hbx.size; omega)
        have Hwx := Lib.hid hwx
        clear hbx hwx hln hln2 hvle e1 v02 v12 hAA HNl HLc hml hmk
        go_wp2_with fail
        rw [← Hwx.out]
        clear v0 v1 y0 y1
        refine wp_region_held_drew (S := fun W => W.cell? ⟨wr.heap.size, 0, none⟩ = some (.int .i64 id_) ∧ W.cell? ⟨wr.heap.size, 1, none⟩ = some (.slice A1 vl c1)) (by kernel_rfl) ?_ (fun hHeld => ?_)
        · first | exact ⟨(HX6.out.ext (by repeat (first | exact Below.refl _ _ | apply ext_drew | apply ext_drewN | apply ext_alloc))).cell 0, (HX6.out.ext (by repeat (first | exact Below.refl _ _ | apply ext_drew | apply ext_drewN | apply ext_alloc))).cell 1⟩ | exact ⟨(HX5.out.ext (by repeat (first | exact Below.refl _ _ | apply ext_drew | apply ext_drewN | apply ext_alloc))).cell 0, (HX5.out.ext (by repeat (first | exact Below.refl _ _ | apply ext_drew | apply ext_drewN | apply ext_alloc))).cell 1⟩ | exact ⟨(HX4.out.ext (by repeat (first | exact Below.refl _ _ | apply ext_drew | apply ext_drewN | apply ext_alloc))).cell 0, (HX4.out.ext (by repeat (first | exact Below.refl _ _ | apply ext_drew | apply ext_drewN | apply ext_alloc))).cell 1⟩ | exact ⟨(HX.out.ext (by repeat (first | exact Below.refl _ _ | apply ext_drew | apply ext_drewN | apply ext_alloc))).cell 0, (HX.out.ext (by repeat (first | exact Below.refl _ _ | apply ext_drew | apply ext_drewN | apply ext_alloc))).cell 1⟩
        refine wpAnyH_take (i := 0) (v := ?_) (take_list rfl) (by kernel_rfl) (by kernel_rfl) (by kernel_rfl) (fun _ _ _ h => h) (Or.inl ⟨by rfl, ?_⟩) (by assumption) ?_
        rotate_left
        · intro w hSw
          try dsimp only at hSw
          first | (go_simp; done) | (go_simp; with_reducible rfl)
        try simp only [Act.put, List.setIfInBounds_toArray, List.set_cons_zero, List.set_cons_succ]
        refine wpAnyH_take (i := 1) (v := ?_) (take_list rfl) (by kernel_rfl) (by kernel_rfl) (by kernel_rfl) (fun _ _ _ h => h) (Or.inl ⟨by rfl, ?_⟩) (by assumption) ?_
        rotate_left
        · intro w hSw
          try dsimp only at hSw
          first | (go_simp; done) | (go_simp; with_reducible rfl)
        try simp only [Act.put, List.setIfInBounds_toArray, List.set_cons_zero, List.set_cons_succ]
        refine wpAnyH_take (i := 2) (v := ?_) (take_list rfl) (by kernel_rfl) (by kernel_rfl) (by kernel_rfl) (fun _ _ _ h => h) (Or.inl ⟨by rfl, ?_⟩) (by assumption) ?_
        rotate_left
        · intro w hSw
          try dsimp only at hSw
          first | (go_simp; done) | (go_simp; with_reducible rfl)
        try simp only [Act.put, List.setIfInBounds_toArray, List.set_cons_zero, List.set_cons_succ]
        refine wpAnyH_take (i := 5) (v := ?_) (take_list rfl) (by kernel_rfl) (by kernel_rfl) (by kernel_rfl) (fun _ _ _ h => h) (Or.inl ⟨by rfl, ?_⟩) (by assumption) ?_
        rotate_left
        · intro w hSw
          try dsimp only at hSw
          first | (go_simp; done) | (go_simp; with_reducible rfl)
        try simp only [Act.put, List.setIfInBounds_toArray, List.set_cons_zero, List.set_cons_succ]
        refine wpAnyH_take (i := 6) (v := ?_) (take_list rfl) (by kernel_rfl) (by kernel_rfl) (by kernel_rfl) (fun _ _ _ h => h) (Or.inl ⟨by rfl, ?_⟩) (by assumption) ?_
        rotate_left
        · intro w hSw
          try dsimp only at hSw
          first | (go_simp; done) | (go_simp; with_reducible rfl)
        try simp only [Act.put, List.setIfInBounds_toArray, List.set_cons_zero, List.set_cons_succ]
        refine wpAnyH_take (i := 7) (v := ?_) (take_list rfl) (by kernel_rfl) (by kernel_rfl) (by kernel_rfl) (fun _ _ _ h => h) (Or.inl ⟨by rfl, ?_⟩) (by assumption) ?_
        rotate_left
        · intro w hSw
          try dsimp only at hSw
          first | (go_simp; done) | (go_simp; with_reducible rfl)
        try simp only [Act.put, List.setIfInBounds_toArray, List.set_cons_zero, List.set_cons_succ]
        refine wpAnyH_take (i := 8) (v := ?_) (take_list rfl) (by kernel_rfl) (by kernel_rfl) (by kernel_rfl) (fun _ _ _ h => h) (Or.inl ⟨by rfl, ?_⟩) (by assumption) ?_
        rotate_left
        · intro w hSw
          try dsimp only at hSw
          first | (go_simp; done) | (go_simp; with_reducible rfl)
        try simp only [Act.put, List.setIfInBounds_toArray, List.set_cons_zero, List.set_cons_succ]
        refine wpAnyH_take (i := 11) (v := ?_) (take_list rfl) (by kernel_rfl) (by kernel_rfl) (by kernel_rfl) (fun _ _ _ h => h) (Or.inl ⟨by rfl, ?_⟩) (by assumption) ?_
        rotate_left
        · intro w hSw
          try dsimp only at hSw
          first | (go_simp; done) | (go_simp; with_reducible rfl)
        try simp only [Act.put, List.setIfInBounds_toArray, List.set_cons_zero, List.set_cons_succ]
        refine wpAnyH_take (i := 12) (v := ?_) (take_list rfl) (by kernel_rfl) (by kernel_rfl) (by kernel_rfl) (fun _ _ _ h => h) (Or.inl ⟨by rfl, ?_⟩) (by assumption) ?_
        rotate_left
        · intro w hSw
          try dsimp only at hSw
          first | (go_simp; done) | (go_simp; with_reducible rfl)
        try simp only [Act.put, List.setIfInBounds_toArray, List.set_cons_zero, List.set_cons_succ]
        refine wpAnyH_take (i := 13) (v := ?_) (take_list rfl) (by kernel_rfl) (by kernel_rfl) (by kernel_rfl) (fun _ _ _ h => h) (Or.inl ⟨by rfl, ?_⟩) (by assumption) ?_
        rotate_left
        · intro w hSw
          try dsimp only at hSw
          first | (go_simp; done) | (go_simp; with_reducible rfl)
        try simp only [Act.put, List.setIfInBounds_toArray, List.set_cons_zero, List.set_cons_succ]
        refine wpAnyH_ready (rs := [3, 9]) (by kernel_rfl) (by simp) ?_
        refine AllReadyH.cons (take_list rfl) (fun K hK => ?_) ?_
        · skip
          go_simp
          refine hK.out _ _ ?_ (fun hHeld => ?_)
          · try dsimp only
            first | exact ⟨(HX6.out.ext (by repeat (first | exact Below.refl _ _ | apply ext_drew | apply ext_drewN | apply ext_alloc))).cell 0, (HX6.out.ext (by repeat (first | exact Below.refl _ _ | apply ext_drew | apply ext_drewN | apply ext_alloc))).cell 1⟩ | exact ⟨(HX5.out.ext (by repeat (first | exact Below.refl _ _ | apply ext_drew | apply ext_drewN | apply ext_alloc))).cell 0, (HX5.out.ext (by repeat (first | exact Below.refl _ _ | apply ext_drew | apply ext_drewN | apply ext_alloc))).cell 1⟩ | exact ⟨(HX4.out.ext (by repeat (first | exact Below.refl _ _ | apply ext_drew | apply ext_drewN | apply ext_alloc))).cell 0, (HX4.out.ext (by repeat (first | exact Below.refl _ _ | apply ext_drew | apply ext_drewN | apply ext_alloc))).cell 1⟩ | exact ⟨(HX.out.ext (by repeat (first | exact Below.refl _ _ | apply ext_drew | apply ext_drewN | apply ext_alloc))).cell 0, (HX.out.ext (by repeat (first | exact Below.refl _ _ | apply ext_drew | apply ext_drewN | apply ext_alloc))).cell 1⟩
          clear hK K
          refine wpAnyH_ready (rs := [4, 9]) (by kernel_rfl) (by simp) ?_
          refine AllReadyH.cons (take_list rfl) (fun K hK => ?_) ?_
          · skip
            refine step_appO _ rfl (.tmp 31) (.tmp 34) _ rfl 3 _ 1 8 Tryz.underlying48 info_gint rfl A n1 a (xa.map iv) rfl (H3x.out.ra.row.ext (by repeat (first | exact Below.refl _ _ | apply ext_drew | apply ext_drewN | apply ext_alloc))) (some ⟨_, 0, none⟩) 1 1 [.int .i64 id_] rfl rfl (by repeat (first | exact Rd.lit_at _ #[.int .i64 id_] _ (by first | rfl | (simp [World.size_alloc]; done)) | apply Rd.drew | apply Rd.alloc)) (by intro u hu; simp at hu; subst hu; rfl) (by intro h; cases h) hp1 hp2 ?_
            intro A4 c4 x4 hr4 ho4 hA4
            have H34 := Lib.hid (H3x.out.growA (by repeat (first | exact Below.refl _ _ | apply ext_drew | apply ext_drewN | apply ext_alloc)) hr4 ho4 hA4)
            have HX4 := Lib.hid ((HX.out.ext (by repeat (first | exact Below.refl _ _ | apply ext_drew | apply ext_drewN | apply ext_alloc))).only ho4 HgA.out)
            clear hr4 ho4 hA4
            refine hK.out _ _ ?_ (fun hHeld => ?_)
            · try dsimp only
              first | exact ⟨(HX6.out.ext (by repeat (first | exact Below.refl _ _ | apply ext_drew | apply ext_drewN | apply ext_alloc))).cell 0, (HX6.out.ext (by repeat (first | exact Below.refl _ _ | apply ext_drew | apply ext_drewN | apply ext_alloc))).cell 1⟩ | exact ⟨(HX5.out.ext (by repeat (first | exact Below.refl _ _ | apply ext_drew | apply ext_drewN | apply ext_alloc))).cell 0, (HX5.out.ext (by repeat (first | exact Below.refl _ _ | apply ext_drew | apply ext_drewN | apply ext_alloc))).cell 1⟩ | exact ⟨(HX4.out.ext (by repeat (first | exact Below.refl _ _ | apply ext_drew | apply ext_drewN | apply ext_alloc))).cell 0, (HX4.out.ext (by repeat (first | exact Below.refl _ _ | apply ext_drew | apply ext_drewN | apply ext_alloc))).cell 1⟩ | exact ⟨(HX.out.ext (by repeat (first | exact Below.refl _ _ | apply ext_drew | apply ext_drewN | apply ext_alloc))).cell 0, (HX.out.ext (by repeat (first | exact Below.refl _ _ | apply ext_drew | apply ext_drewN | apply ext_alloc))).cell 1⟩
            clear hK K
            refine wpAnyH_ready (rs := [9]) (by kernel_rfl) (by simp) ?_
            refine AllReadyH.cons (take_list rfl) (fun K hK => ?_) ?_
            · skip
              go_simp
              refine hK.out _ _ ?_ (fun hHeld => ?_)
              · try dsimp only
                first | exact ⟨(HX6.out.ext (by repeat (first | exact Below.refl _ _ | apply ext_drew | apply ext_drewN | apply ext_alloc))).cell 0, (HX6.out.ext (by repeat (first | exact Below.refl _ _ | apply ext_drew | apply ext_drewN | apply ext_alloc))).cell 1⟩ | exact ⟨(HX5.out.ext (by repeat (first | exact Below.refl _ _ | apply ext_drew | apply ext_drewN | apply ext_alloc))).cell 0, (HX5.out.ext (by repeat (first | exact Below.refl _ _ | apply ext_drew | apply ext_drewN | apply ext_alloc))).cell 1⟩ | exact ⟨(HX4.out.ext (by repeat (first | exact Below.refl _ _ | apply ext_drew | apply ext_drewN | apply ext_alloc))).cell 0, (HX4.out.ext (by repeat (first | exact Below.refl _ _ | apply ext_drew | apply ext_drewN | apply ext_alloc))).cell 1⟩ | exact ⟨(HX.out.ext (by repeat (first | exact Below.refl _ _ | apply ext_drew | apply ext_drewN | apply ext_alloc))).cell 0, (HX.out.ext (by repeat (first | exact Below.refl _ _ | apply ext_drew | apply ext_drewN | apply ext_alloc))).cell 1⟩
              clear hK K
              refine wpAnyH_ready (rs := [10]) (by kernel_rfl) (by simp) ?_
              refine AllReadyH.cons (take_list rfl) (fun K hK => ?_) ?_
              · skip
                refine step_appO _ rfl (.tmp 36) (.tmp 40) _ rfl 3 _ 1 8 Tryz.underlying48 info_gint rfl B2 n2 b (xb.map iv) rfl (H34.out.rb.row.ext (by repeat (first | exact Below.refl _ _ | apply ext_drew | apply ext_drewN | apply ext_alloc))) (some ⟨_, 0, none⟩) 1 1 [.int .i64 (vl : Int)] rfl rfl (by repeat (first | exact Rd.lit_at _ #[.int .i64 (vl : Int)] _ (by first | rfl | (simp [World.size_alloc]; done)) | apply Rd.drew | apply Rd.alloc)) (by intro u hu; simp at hu; subst hu; rfl) (by intro h; cases h) hp3 hp4 ?_
                intro A5 c5 x5 hr5 ho5 hA5
                have H35 := Lib.hid (H34.out.growB (by repeat (first | exact Below.refl _ _ | apply ext_drew | apply ext_drewN | apply ext_alloc)) hr5 ho5 hA5)
                have HX5 := Lib.hid ((HX4.out.ext (by repeat (first | exact Below.refl _ _ | apply ext_drew | apply ext_drewN | apply ext_alloc))).only ho5 HgB.out)
                clear hr5 ho5 hA5
                refine hK.out _ _ ?_ (fun hHeld => ?_)
                · try dsimp only
                  first | exact ⟨(HX6.out.ext (by repeat (first | exact Below.refl _ _ | apply ext_drew | apply ext_drewN | apply ext_alloc))).cell 0, (HX6.out.ext (by repeat (first | exact Below.refl _ _ | apply ext_drew | apply ext_drewN | apply ext_alloc))).cell 1⟩ | exact ⟨(HX5.out.ext (by repeat (first | exact Below.refl _ _ | apply ext_drew | apply ext_drewN | apply ext_alloc))).cell 0, (HX5.out.ext (by repeat (first | exact Below.refl _ _ | apply ext_drew | apply ext_drewN | apply ext_alloc))).cell 1⟩ | exact ⟨(HX4.out.ext (by repeat (first | exact Below.refl _ _ | apply ext_drew | apply ext_drewN | apply ext_alloc))).cell 0, (HX4.out.ext (by repeat (first | exact Below.refl _ _ | apply ext_drew | apply ext_drewN | apply ext_alloc))).cell 1⟩ | exact ⟨(HX.out.ext (by repeat (first | exact Below.refl _ _ | apply ext_drew | apply ext_drewN | apply ext_alloc))).cell 0, (HX.out.ext (by repeat (first | exact Below.refl _ _ | apply ext_drew | apply ext_drewN | apply ext_alloc))).cell 1⟩
                clear hK K
                refine wpAnyH_ready (rs := [14]) (by kernel_rfl) (by simp) ?_
                refine AllReadyH.cons (take_list rfl) (fun K hK => ?_) ?_
                · skip
                  refine step_appO _ rfl (.tmp 42) (.tmp 44) _ rfl 9 _ 1 16 Tryz.underlying45 info_gstr rfl C m c2 (xc.map strV) rfl H35.out.rc.row A1 vl c1 (vs.map strV) rfl (by rw [List.length_map, Nat.mul_one]; exact Hvl.out) (HRv.out.ext H35.out.ra.bel) (strV_one vs) HNl0.out hp5 hp6 ?_
                  intro A6 c6 x6 hr6 ho6 hA6
                  have H36 := Lib.hid (H35.out.growC (Below.refl _ _) hr6 ho6 hA6)
                  have HX6 := Lib.hid (HX5.out.only ho6 HgC.out)
                  clear hr6 ho6 hA6
                  refine hK.out _ _ ?_ (fun hHeld => ?_)
                  · try dsimp only
                    first | exact ⟨(HX6.out.ext (by repeat (first | exact Below.refl _ _ | apply ext_drew | apply ext_drewN | apply ext_alloc))).cell 0, (HX6.out.ext (by repeat (first | exact Below.refl _ _ | apply ext_drew | apply ext_drewN | apply ext_alloc))).cell 1⟩ | exact ⟨(HX5.out.ext (by repeat (first | exact Below.refl _ _ | apply ext_drew | apply ext_drewN | apply ext_alloc))).cell 0, (HX5.out.ext (by repeat (first | exact Below.refl _ _ | apply ext_drew | apply ext_drewN | apply ext_alloc))).cell 1⟩ | exact ⟨(HX4.out.ext (by repeat (first | exact Below.refl _ _ | apply ext_drew | apply ext_drewN | apply ext_alloc))).cell 0, (HX4.out.ext (by repeat (first | exact Below.refl _ _ | apply ext_drew | apply ext_drewN | apply ext_alloc))).cell 1⟩ | exact ⟨(HX.out.ext (by repeat (first | exact Below.refl _ _ | apply ext_drew | apply ext_drewN | apply ext_alloc))).cell 0, (HX.out.ext (by repeat (first | exact Below.refl _ _ | apply ext_drew | apply ext_drewN | apply ext_alloc))).cell 1⟩
                  clear hK K
                  refine wpAnyH_take (i := 15) (v := ?_) (take_list rfl) (by kernel_rfl) (by kernel_rfl) (by kernel_rfl) (fun _ _ _ h => h) (Or.inl ⟨by rfl, ?_⟩) (by assumption) ?_
                  rotate_left
                  · intro w hSw
                    try dsimp only at hSw
                    first | (go_simp; done) | (go_simp; with_reducible rfl)
                  try simp only [Act.put, List.setIfInBounds_toArray, List.set_cons_zero, List.set_cons_succ]
                  refine wpAnyH_take (i := 16) (v := ?_) (take_list rfl) (by kernel_rfl) (by kernel_rfl) (by kernel_rfl) (fun _ _ _ h => h) (Or.inl ⟨by rfl, ?_⟩) (by assumption) ?_
                  rotate_left
                  · intro w hSw
                    try dsimp only at hSw
                    first | (go_simp; done) | (go_simp; with_reducible rfl)
                  try simp only [Act.put, List.setIfInBounds_toArray, List.set_cons_zero, List.set_cons_succ]
                  refine wpAnyH_take (i := 17) (v := ?_) (take_list rfl) (by kernel_rfl) (by kernel_rfl) (by kernel_rfl) (fun _ _ _ h => h) (Or.inl ⟨by rfl, ?_⟩) (by assumption) ?_
                  rotate_left
                  · intro w hSw
                    try dsimp only at hSw
                    first | (go_simp; done) | (go_simp; with_reducible rfl)
                  try simp only [Act.put, List.setIfInBounds_toArray, List.set_cons_zero, List.set_cons_succ]
                  refine wpAnyH_done (by kernel_rfl) ?_ _
                  go_wp2
                  go_roundw
                  case rel => exact ⟨k + 1, n1 + 1, n2 + 1, m + vl, A4, c4, A5, c5, A6, c6, by omega, by go_num, rfl, rfl, rfl, Lib.hid ⟨by rw [Hm.out.1], by rw [Hm.out.2.1], by rw [HT3.out, List.length_append, Hvl.out, Hm.out.2.2]⟩, Lib.hid (by rw [HT1.out, HT2.out, HT3.out, List.map_append, List.map_append, List.map_append]; exact H36.out)⟩
                  case measure => simp [intOf]; omega
                exact AllReadyH.nil
              exact AllReadyH.nil
            exact AllReadyH.nil
          refine AllReadyH.cons (take_list rfl) (fun K hK => ?_) ?_
          · skip
            go_simp
            refine hK.out _ _ ?_ (fun hHeld => ?_)
            · try dsimp only
              first | exact ⟨(HX6.out.ext (by repeat (first | exact Below.refl _ _ | apply ext_drew | apply ext_drewN | apply ext_alloc))).cell 0, (HX6.out.ext (by repeat (first | exact Below.refl _ _ | apply ext_drew | apply ext_drewN | apply ext_alloc))).cell 1⟩ | exact ⟨(HX5.out.ext (by repeat (first | exact Below.refl _ _ | apply ext_drew | apply ext_drewN | apply ext_alloc))).cell 0, (HX5.out.ext (by repeat (first | exact Below.refl _ _ | apply ext_drew | apply ext_drewN | apply ext_alloc))).cell 1⟩ | exact ⟨(HX4.out.ext (by repeat (first | exact Below.refl _ _ | apply ext_drew | apply ext_drewN | apply ext_alloc))).cell 0, (HX4.out.ext (by repeat (first | exact Below.refl _ _ | apply ext_drew | apply ext_drewN | apply ext_alloc))).cell 1⟩ | exact ⟨(HX.out.ext (by repeat (first | exact Below.refl _ _ | apply ext_drew | apply ext_drewN | apply ext_alloc))).cell 0, (HX.out.ext (by repeat (first | exact Below.refl _ _ | apply ext_drew | apply ext_drewN | apply ext_alloc))).cell 1⟩
            clear hK K
            refine wpAnyH_ready (rs := [4]) (by kernel_rfl) (by simp) ?_
            refine AllReadyH.cons (take_list rfl) (fun K hK => ?_) ?_
            · skip
              refine step_appO _ rfl (.tmp 31) (.tmp 34) _ rfl 3 _ 1 8 Tryz.underlying48 info_gint rfl A n1 a (xa.map iv) rfl (H3x.out.ra.row.ext (by repeat (first | exact Below.refl _ _ | apply ext_drew | apply ext_drewN | apply ext_alloc))) (some ⟨_, 0, none⟩) 1 1 [.int .i64 id_] rfl rfl (by repeat (first | exact Rd.lit_at _ #[.int .i64 id_] _ (by first | rfl | (simp [World.size_alloc]; done)) | apply Rd.drew | apply Rd.alloc)) (by intro u hu; simp at hu; subst hu; rfl) (by intro h; cases h) hp1 hp2 ?_
              intro A4 c4 x4 hr4 ho4 hA4
              have H34 := Lib.hid (H3x.out.growA (by repeat (first | exact Below.refl _ _ | apply ext_drew | apply ext_drewN | apply ext_alloc)) hr4 ho4 hA4)
              have HX4 := Lib.hid ((HX.out.ext (by repeat (first | exact Below.refl _ _ | apply ext_drew | apply ext_drewN | apply ext_alloc))).only ho4 HgA.out)
              have HlB : Hid (Rd x4 (some ⟨wx.heap.size + 1, 0, none⟩) [.int .i64 (vl : Int)]) := Lib.hid (Rd.only (by repeat (first | exact Rd.lit_at _ #[.int .i64 (vl : Int)] _ (by first | rfl | (simp [World.size_alloc]; done)) | apply Rd.drew | apply Rd.alloc)) ho4 (fun ad e _ hq => by injection e with e; subst e; have := HzA.out _ hq; dsimp only at this; omega))
              clear hr4 ho4 hA4
              refine hK.out _ _ ?_ (fun hHeld => ?_)
              · try dsimp only
                first | exact ⟨(HX6.out.ext (by repeat (first | exact Below.refl _ _ | apply ext_drew | apply ext_drewN | apply ext_alloc))).cell 0, (HX6.out.ext (by repeat (first | exact Below.refl _ _ | apply ext_drew | apply ext_drewN | apply ext_alloc))).cell 1⟩ | exact ⟨(HX5.out.ext (by repeat (first | exact Below.refl _ _ | apply ext_drew | apply ext_drewN | apply ext_alloc))).cell 0, (HX5.out.ext (by repeat (first | exact Below.refl _ _ | apply ext_drew | apply ext_drewN | apply ext_alloc))).cell 1⟩ | exact ⟨(HX4.out.ext (by repeat (first | exact Below.refl _ _ | apply ext_drew | apply ext_drewN | apply ext_alloc))).cell 0, (HX4.out.ext (by repeat (first | exact Below.refl _ _ | apply ext_drew | apply ext_drewN | apply ext_alloc))).cell 1⟩ | exact ⟨(HX.out.ext (by repeat (first | exact Below.refl _ _ | apply ext_drew | apply ext_drewN | apply ext_alloc))).cell 0, (HX.out.ext (by repeat (first | exact Below.refl _ _ | apply ext_drew | apply ext_drewN | apply ext_alloc))).cell 1⟩
              clear hK K
              refine wpAnyH_ready (rs := [10]) (by kernel_rfl) (by simp) ?_
              refine AllReadyH.cons (take_list rfl) (fun K hK => ?_) ?_
              · skip
                refine step_appO _ rfl (.tmp 36) (.tmp 40) _ rfl 3 _ 1 8 Tryz.underlying48 info_gint rfl B2 n2 b (xb.map iv) rfl (H34.out.rb.row.ext (by repeat (first | exact Below.refl _ _ | apply ext_drew | apply ext_drewN | apply ext_alloc))) (some ⟨_, 0, none⟩) 1 1 [.int .i64 (vl : Int)] rfl rfl (by repeat (first | exact HlB.out | apply Rd.drew)) (by intro u hu; simp at hu; subst hu; rfl) (by intro h; cases h) hp3 hp4 ?_
                intro A5 c5 x5 hr5 ho5 hA5
                have H35 := Lib.hid (H34.out.growB (by repeat (first | exact Below.refl _ _ | apply ext_drew | apply ext_drewN | apply ext_alloc)) hr5 ho5 hA5)
                have HX5 := Lib.hid ((HX4.out.ext (by repeat (first | exact Below.refl _ _ | apply ext_drew | apply ext_drewN | apply ext_alloc))).only ho5 HgB.out)
                clear hr5 ho5 hA5
                refine hK.out _ _ ?_ (fun hHeld => ?_)
                · try dsimp only
                  first | exact ⟨(HX6.out.ext (by repeat (first | exact Below.refl _ _ | apply ext_drew | apply ext_drewN | apply ext_alloc))).cell 0, (HX6.out.ext (by repeat (first | exact Below.refl _ _ | apply ext_drew | apply ext_drewN | apply ext_alloc))).cell 1⟩ | exact ⟨(HX5.out.ext (by repeat (first | exact Below.refl _ _ | apply ext_drew | apply ext_drewN | apply ext_alloc))).cell 0, (HX5.out.ext (by repeat (first | exact Below.refl _ _ | apply ext_drew | apply ext_drewN | apply ext_alloc))).cell 1⟩ | exact ⟨(HX4.out.ext (by repeat (first | exact Below.refl _ _ | apply ext_drew | apply ext_drewN | apply ext_alloc))).cell 0, (HX4.out.ext (by repeat (first | exact Below.refl _ _ | apply ext_drew | apply ext_drewN | apply ext_alloc))).cell 1⟩ | exact ⟨(HX.out.ext (by repeat (first | exact Below.refl _ _ | apply ext_drew | apply ext_drewN | apply ext_alloc))).cell 0, (HX.out.ext (by repeat (first | exact Below.refl _ _ | apply ext_drew | apply ext_drewN | apply ext_alloc))).cell 1⟩
                clear hK K
                refine wpAnyH_ready (rs := [14]) (by kernel_rfl) (by simp) ?_
                refine AllReadyH.cons (take_list rfl) (fun K hK => ?_) ?_
                · skip
                  refine step_appO _ rfl (.tmp 42) (.tmp 44) _ rfl 9 _ 1 16 Tryz.underlying45 info_gstr rfl C m c2 (xc.map strV) rfl H35.out.rc.row A1 vl c1 (vs.map strV) rfl (by rw [List.length_map, Nat.mul_one]; exact Hvl.out) (HRv.out.ext H35.out.ra.bel) (strV_one vs) HNl0.out hp5 hp6 ?_
                  intro A6 c6 x6 hr6 ho6 hA6
                  have H36 := Lib.hid (H35.out.growC (Below.refl _ _) hr6 ho6 hA6)
                  have HX6 := Lib.hid (HX5.out.only ho6 HgC.out)
                  clear hr6 ho6 hA6
                  refine hK.out _ _ ?_ (fun hHeld => ?_)
                  · try dsimp only
                    first | exact ⟨(HX6.out.ext (by repeat (first | exact Below.refl _ _ | apply ext_drew | apply ext_drewN | apply ext_alloc))).cell 0, (HX6.out.ext (by repeat (first | exact Below.refl _ _ | apply ext_drew | apply ext_drewN | apply ext_alloc))).cell 1⟩ | exact ⟨(HX5.out.ext (by repeat (first | exact Below.refl _ _ | apply ext_drew | apply ext_drewN | apply ext_alloc))).cell 0, (HX5.out.ext (by repeat (first | exact Below.refl _ _ | apply ext_drew | apply ext_drewN | apply ext_alloc))).cell 1⟩ | exact ⟨(HX4.out.ext (by repeat (first | exact Below.refl _ _ | apply ext_drew | apply ext_drewN | apply ext_alloc))).cell 0, (HX4.out.ext (by repeat (first | exact Below.refl _ _ | apply ext_drew | apply ext_drewN | apply ext_alloc))).cell 1⟩ | exact ⟨(HX.out.ext (by repeat (first | exact Below.refl _ _ | apply ext_drew | apply ext_drewN | apply ext_alloc))).cell 0, (HX.out.ext (by repeat (first | exact Below.refl _ _ | apply ext_drew | apply ext_drewN | apply ext_alloc))).cell 1⟩
                  clear hK K
                  refine wpAnyH_take (i := 15) (v := ?_) (take_list rfl) (by kernel_rfl) (by kernel_rfl) (by kernel_rfl) (fun _ _ _ h => h) (Or.inl ⟨by rfl, ?_⟩) (by assumption) ?_
                  rotate_left
                  · intro w hSw
                    try dsimp only at hSw
                    first | (go_simp; done) | (go_simp; with_reducible rfl)
                  try simp only [Act.put, List.setIfInBounds_toArray, List.set_cons_zero, List.set_cons_succ]
                  refine wpAnyH_take (i := 16) (v := ?_) (take_list rfl) (by kernel_rfl) (by kernel_rfl) (by kernel_rfl) (fun _ _ _ h => h) (Or.inl ⟨by rfl, ?_⟩) (by assumption) ?_
                  rotate_left
                  · intro w hSw
                    try dsimp only at hSw
                    first | (go_simp; done) | (go_simp; with_reducible rfl)
                  try simp only [Act.put, List.setIfInBounds_toArray, List.set_cons_zero, List.set_cons_succ]
                  refine wpAnyH_take (i := 17) (v := ?_) (take_list rfl) (by kernel_rfl) (by kernel_rfl) (by kernel_rfl) (fun _ _ _ h => h) (Or.inl ⟨by rfl, ?_⟩) (by assumption) ?_
                  rotate_left
                  · intro w hSw
                    try dsimp only at hSw
                    first | (go_simp; done) | (go_simp; with_reducible rfl)
                  try simp only [Act.put, List.setIfInBounds_toArray, List.set_cons_zero, List.set_cons_succ]
                  refine wpAnyH_done (by kernel_rfl) ?_ _
                  go_wp2
                  go_roundw
                  case rel => exact ⟨k + 1, n1 + 1, n2 + 1, m + vl, A4, c4, A5, c5, A6, c6, by omega, by go_num, rfl, rfl, rfl, Lib.hid ⟨by rw [Hm.out.1], by rw [Hm.out.2.1], by rw [HT3.out, List.length_append, Hvl.out, Hm.out.2.2]⟩, Lib.hid (by rw [HT1.out, HT2.out, HT3.out, List.map_append, List.map_append, List.map_append]; exact H36.out)⟩
                  case measure => simp [intOf]; omega
                exact AllReadyH.nil
              exact AllReadyH.nil
            exact AllReadyH.nil
          exact AllReadyH.nil
        refine AllReadyH.cons (take_list rfl) (fun K hK => ?_) ?_
        · skip
          go_simp
          refine hK.out _ _ ?_ (fun hHeld => ?_)
          · try dsimp only
            first | exact ⟨(HX6.out.ext (by repeat (first | exact Below.refl _ _ | apply ext_drew | apply ext_drewN | apply ext_alloc))).cell 0, (HX6.out.ext (by repeat (first | exact Below.refl _ _ | apply ext_drew | apply ext_drewN | apply ext_alloc))).cell 1⟩ | exact ⟨(HX5.out.ext (by repeat (first | exact Below.refl _ _ | apply ext_drew | apply ext_drewN | apply ext_alloc))).cell 0, (HX5.out.ext (by repeat (first | exact Below.refl _ _ | apply ext_drew | apply ext_drewN | apply ext_alloc))).cell 1⟩ | exact ⟨(HX4.out.ext (by repeat (first | exact Below.refl _ _ | apply ext_drew | apply ext_drewN | apply ext_alloc))).cell 0, (HX4.out.ext (by repeat (first | exact Below.refl _ _ | apply ext_drew | apply ext_drewN | apply ext_alloc))).cell 1⟩ | exact ⟨(HX.out.ext (by repeat (first | exact Below.refl _ _ | apply ext_drew | apply ext_drewN | apply ext_alloc))).cell 0, (HX.out.ext (by repeat (first | exact Below.refl _ _ | apply ext_drew | apply ext_drewN | apply ext_alloc))).cell 1⟩
          clear hK K
          refine wpAnyH_ready (rs := [3]) (by kernel_rfl) (by simp) ?_
          refine AllReadyH.cons (take_list rfl) (fun K hK => ?_) ?_
          · skip
            go_simp
            refine hK.out _ _ ?_ (fun hHeld => ?_)
            · try dsimp only
              first | exact ⟨(HX6.out.ext (by repeat (first | exact Below.refl _ _ | apply ext_drew | apply ext_drewN | apply ext_alloc))).cell 0, (HX6.out.ext (by repeat (first | exact Below.refl _ _ | apply ext_drew | apply ext_drewN | apply ext_alloc))).cell 1⟩ | exact ⟨(HX5.out.ext (by repeat (first | exact Below.refl _ _ | apply ext_drew | apply ext_drewN | apply ext_alloc))).cell 0, (HX5.out.ext (by repeat (first | exact Below.refl _ _ | apply ext_drew | apply ext_drewN | apply ext_alloc))).cell 1⟩ | exact ⟨(HX4.out.ext (by repeat (first | exact Below.refl _ _ | apply ext_drew | apply ext_drewN | apply ext_alloc))).cell 0, (HX4.out.ext (by repeat (first | exact Below.refl _ _ | apply ext_drew | apply ext_drewN | apply ext_alloc))).cell 1⟩ | exact ⟨(HX.out.ext (by repeat (first | exact Below.refl _ _ | apply ext_drew | apply ext_drewN | apply ext_alloc))).cell 0, (HX.out.ext (by repeat (first | exact Below.refl _ _ | apply ext_drew | apply ext_drewN | apply ext_alloc))).cell 1⟩
            clear hK K
            refine wpAnyH_ready (rs := [4]) (by kernel_rfl) (by simp) ?_
            refine AllReadyH.cons (take_list rfl) (fun K hK => ?_) ?_
            · skip
              refine step_appO _ rfl (.tmp 31) (.tmp 34) _ rfl 3 _ 1 8 Tryz.underlying48 info_gint rfl A n1 a (xa.map iv) rfl (H3x.out.ra.row.ext (by repeat (first | exact Below.refl _ _ | apply ext_drew | apply ext_drewN | apply ext_alloc))) (some ⟨_, 0, none⟩) 1 1 [.int .i64 id_] rfl rfl (by repeat (first | exact Rd.lit_at _ #[.int .i64 id_] _ (by first | rfl | (simp [World.size_alloc]; done)) | apply Rd.drew | apply Rd.alloc)) (by intro u hu; simp at hu; subst hu; rfl) (by intro h; cases h) hp1 hp2 ?_
              intro A4 c4 x4 hr4 ho4 hA4
              have H34 := Lib.hid (H3x.out.growA (by repeat (first | exact Below.refl _ _ | apply ext_drew | apply ext_drewN | apply ext_alloc)) hr4 ho4 hA4)
              have HX4 := Lib.hid ((HX.out.ext (by repeat (first | exact Below.refl _ _ | apply ext_drew | apply ext_drewN | apply ext_alloc))).only ho4 HgA.out)
              have HlB : Hid (Rd x4 (some ⟨wx.heap.size, 0, none⟩) [.int .i64 (vl : Int)]) := Lib.hid (Rd.only (by repeat (first | exact Rd.lit_at _ #[.int .i64 (vl : Int)] _ (by first | rfl | (simp [World.size_alloc]; done)) | apply Rd.drew | apply Rd.alloc)) ho4 (fun ad e _ hq => by injection e with e; subst e; have := HzA.out _ hq; dsimp only at this; omega))
              clear hr4 ho4 hA4
              refine hK.out _ _ ?_ (fun hHeld => ?_)
              · try dsimp only
                first | exact ⟨(HX6.out.ext (by repeat (first | exact Below.refl _ _ | apply ext_drew | apply ext_drewN | apply ext_alloc))).cell 0, (HX6.out.ext (by repeat (first | exact Below.refl _ _ | apply ext_drew | apply ext_drewN | apply ext_alloc))).cell 1⟩ | exact ⟨(HX5.out.ext (by repeat (first | exact Below.refl _ _ | apply ext_drew | apply ext_drewN | apply ext_alloc))).cell 0, (HX5.out.ext (by repeat (first | exact Below.refl _ _ | apply ext_drew | apply ext_drewN | apply ext_alloc))).cell 1⟩ | exact ⟨(HX4.out.ext (by repeat (first | exact Below.refl _ _ | apply ext_drew | apply ext_drewN | apply ext_alloc))).cell 0, (HX4.out.ext (by repeat (first | exact Below.refl _ _ | apply ext_drew | apply ext_drewN | apply ext_alloc))).cell 1⟩ | exact ⟨(HX.out.ext (by repeat (first | exact Below.refl _ _ | apply ext_drew | apply ext_drewN | apply ext_alloc))).cell 0, (HX.out.ext (by repeat (first | exact Below.refl _ _ | apply ext_drew | apply ext_drewN | apply ext_alloc))).cell 1⟩
              clear hK K
              refine wpAnyH_ready (rs := [10]) (by kernel_rfl) (by simp) ?_
              refine AllReadyH.cons (take_list rfl) (fun K hK => ?_) ?_
              · skip
                refine step_appO _ rfl (.tmp 36) (.tmp 40) _ rfl 3 _ 1 8 Tryz.underlying48 info_gint rfl B2 n2 b (xb.map iv) rfl (H34.out.rb.row.ext (by repeat (first | exact Below.refl _ _ | apply ext_drew | apply ext_drewN | apply ext_alloc))) (some ⟨_, 0, none⟩) 1 1 [.int .i64 (vl : Int)] rfl rfl (by repeat (first | exact HlB.out | apply Rd.drew)) (by intro u hu; simp at hu; subst hu; rfl) (by intro h; cases h) hp3 hp4 ?_
                intro A5 c5 x5 hr5 ho5 hA5
                have H35 := Lib.hid (H34.out.growB (by repeat (first | exact Below.refl _ _ | apply ext_drew | apply ext_drewN | apply ext_alloc)) hr5 ho5 hA5)
                have HX5 := Lib.hid ((HX4.out.ext (by repeat (first | exact Below.refl _ _ | apply ext_drew | apply ext_drewN | apply ext_alloc))).only ho5 HgB.out)
                clear hr5 ho5 hA5
                refine hK.out _ _ ?_ (fun hHeld => ?_)
                · try dsimp only
                  first | exact ⟨(HX6.out.ext (by repeat (first | exact Below.refl _ _ | apply ext_drew | apply ext_drewN | apply ext_alloc))).cell 0, (HX6.out.ext (by repeat (first | exact Below.refl _ _ | apply ext_drew | apply ext_drewN | apply ext_alloc))).cell 1⟩ | exact ⟨(HX5.out.ext (by repeat (first | exact Below.refl _ _ | apply ext_drew | apply ext_drewN | apply ext_alloc))).cell 0, (HX5.out.ext (by repeat (first | exact Below.refl _ _ | apply ext_drew | apply ext_drewN | apply ext_alloc))).cell 1⟩ | exact ⟨(HX4.out.ext (by repeat (first | exact Below.refl _ _ | apply ext_drew | apply ext_drewN | apply ext_alloc))).cell 0, (HX4.out.ext (by repeat (first | exact Below.refl _ _ | apply ext_drew | apply ext_drewN | apply ext_alloc))).cell 1⟩ | exact ⟨(HX.out.ext (by repeat (first | exact Below.refl _ _ | apply ext_drew | apply ext_drewN | apply ext_alloc))).cell 0, (HX.out.ext (by repeat (first | exact Below.refl _ _ | apply ext_drew | apply ext_drewN | apply ext_alloc))).cell 1⟩
                clear hK K
                refine wpAnyH_ready (rs := [14]) (by kernel_rfl) (by simp) ?_
                refine AllReadyH.cons (take_list rfl) (fun K hK => ?_) ?_
                · skip
                  refine step_appO _ rfl (.tmp 42) (.tmp 44) _ rfl 9 _ 1 16 Tryz.underlying45 info_gstr rfl C m c2 (xc.map strV) rfl H35.out.rc.row A1 vl c1 (vs.map strV) rfl (by rw [List.length_map, Nat.mul_one]; exact Hvl.out) (HRv.out.ext H35.out.ra.bel) (strV_one vs) HNl0.out hp5 hp6 ?_
                  intro A6 c6 x6 hr6 ho6 hA6
                  have H36 := Lib.hid (H35.out.growC (Below.refl _ _) hr6 ho6 hA6)
                  have HX6 := Lib.hid (HX5.out.only ho6 HgC.out)
                  clear hr6 ho6 hA6
                  refine hK.out _ _ ?_ (fun hHeld => ?_)
                  · try dsimp only
                    first | exact ⟨(HX6.out.ext (by repeat (first | exact Below.refl _ _ | apply ext_drew | apply ext_drewN | apply ext_alloc))).cell 0, (HX6.out.ext (by repeat (first | exact Below.refl _ _ | apply ext_drew | apply ext_drewN | apply ext_alloc))).cell 1⟩ | exact ⟨(HX5.out.ext (by repeat (first | exact Below.refl _ _ | apply ext_drew | apply ext_drewN | apply ext_alloc))).cell 0, (HX5.out.ext (by repeat (first | exact Below.refl _ _ | apply ext_drew | apply ext_drewN | apply ext_alloc))).cell 1⟩ | exact ⟨(HX4.out.ext (by repeat (first | exact Below.refl _ _ | apply ext_drew | apply ext_drewN | apply ext_alloc))).cell 0, (HX4.out.ext (by repeat (first | exact Below.refl _ _ | apply ext_drew | apply ext_drewN | apply ext_alloc))).cell 1⟩ | exact ⟨(HX.out.ext (by repeat (first | exact Below.refl _ _ | apply ext_drew | apply ext_drewN | apply ext_alloc))).cell 0, (HX.out.ext (by repeat (first | exact Below.refl _ _ | apply ext_drew | apply ext_drewN | apply ext_alloc))).cell 1⟩
                  clear hK K
                  refine wpAnyH_take (i := 15) (v := ?_) (take_list rfl) (by kernel_rfl) (by kernel_rfl) (by kernel_rfl) (fun _ _ _ h => h) (Or.inl ⟨by rfl, ?_⟩) (by assumption) ?_
                  rotate_left
                  · intro w hSw
                    try dsimp only at hSw
                    first | (go_simp; done) | (go_simp; with_reducible rfl)
                  try simp only [Act.put, List.setIfInBounds_toArray, List.set_cons_zero, List.set_cons_succ]
                  refine wpAnyH_take (i := 16) (v := ?_) (take_list rfl) (by kernel_rfl) (by kernel_rfl) (by kernel_rfl) (fun _ _ _ h => h) (Or.inl ⟨by rfl, ?_⟩) (by assumption) ?_
                  rotate_left
                  · intro w hSw
                    try dsimp only at hSw
                    first | (go_simp; done) | (go_simp; with_reducible rfl)
                  try simp only [Act.put, List.setIfInBounds_toArray, List.set_cons_zero, List.set_cons_succ]
                  refine wpAnyH_take (i := 17) (v := ?_) (take_list rfl) (by kernel_rfl) (by kernel_rfl) (by kernel_rfl) (fun _ _ _ h => h) (Or.inl ⟨by rfl, ?_⟩) (by assumption) ?_
                  rotate_left
                  · intro w hSw
                    try dsimp only at hSw
                    first | (go_simp; done) | (go_simp; with_reducible rfl)
                  try simp only [Act.put, List.setIfInBounds_toArray, List.set_cons_zero, List.set_cons_succ]
                  refine wpAnyH_done (by kernel_rfl) ?_ _
                  go_wp2
                  go_roundw
                  case rel => exact ⟨k + 1, n1 + 1, n2 + 1, m + vl, A4, c4, A5, c5, A6, c6, by omega, by go_num, rfl, rfl, rfl, Lib.hid ⟨by rw [Hm.out.1], by rw [Hm.out.2.1], by rw [HT3.out, List.length_append, Hvl.out, Hm.out.2.2]⟩, Lib.hid (by rw [HT1.out, HT2.out, HT3.out, List.map_append, List.map_append, List.map_append]; exact H36.out)⟩
                  case measure => simp [intOf]; omega
                exact AllReadyH.nil
              exact AllReadyH.nil
            exact AllReadyH.nil
          exact AllReadyH.nil
        exact AllReadyH.nil
      · obtain rfl : k = n := by omega
        have hTk : ls.take k = ls := List.take_of_length_le (by have := Hn.out; omega)
        rw [hTk] at Hm H3
        obtain rfl : n1 = k := Hm.out.1
        obtain rfl : n2 = n1 := Hm.out.2.1
        obtain rfl : m = (varG ls).length := Hm.out.2.2
        have HX1 := Lib.hid (HP1.out A a wr H3.out.ra.rd)
        have HrB := Lib.hid H3.out.rb.rd
        have HrC := Lib.hid H3.out.rc.rd
        have Hbr := Lib.hid H3.out.ra.bel
        have hl1 := HL1.out.1
        have hl1b := HL1.out.2
        have hl2 := HL2.out.1
        have hl2b := HL2.out.2
        have hl3 := HL3.out.1
        have hl3b := HL3.out.2
        have hl4 := HL4.out.1
        have hl4b := HL4.out.2
        have hl5 := HL5.out
        clear hTk H3 Hm HP1
        go_wp2_with fail
        refine HX1.out.mono ?_
        rintro e w3 ⟨B3, d3, rfl, hr3, hc3, hb3⟩
        have Hr3 := Lib.hid hr3
        have Hb3 := Lib.hid hb3
        have HX2 := Lib.hid (HP2.out B2 b w3 (HrB.out.ext hb3))
        clear hr3 hc3 hb3 HX1 HP2
        go_wp2_with fail
        refine HX2.out.mono ?_
        rintro e w4 ⟨B4, d4, rfl, hr4, hc4, hb4⟩
        have Hr4 := Lib.hid hr4
        have Hb4 := Lib.hid (ext_trans Hb3.out hb4)
        have Hr34 := Lib.hid (Hr3.out.ext hb4)
        have HX3 := Lib.hid (HD.out C c2 w4 (HrC.out.ext (ext_trans Hb3.out hb4)))
        clear hr4 hc4 hb4 HX2 HD HrC HrB Hr3 Hb3
        go_wp2_with fail
        refine HX3.out.mono ?_
        rintro e w5 ⟨B5, d5, rfl, hn5, hb5⟩
        have Hr5 := Lib.hid hn5.rd
        have Hr45 := Lib.hid (Hr4.out.ext hb5)
        have Hr35 := Lib.hid (Hr34.out.ext hb5)
        have hbw := ext_trans (ext_trans Hbr.out Hb4.out) hb5
        have q0 := (HB2.out.ext hbw).cell 0
        simp only [List.getElem?_toArray, List.getElem?_cons_zero, List.getElem?_cons_succ] at q0
        have Hb5 := Lib.hid (ext_trans Hb2.out hbw)
        clear hn5 hb5 hbw HX3 Hr4 Hr34 Hb4 Hbr y0
        go_wp2_with fail
        refine (HRn.out w5).mono ?_
        rintro e w6 ⟨B6, d6, rfl, hn6, hb6⟩
        have Hn6 := Lib.hid hn6
        have Hb6 := Lib.hid hb6
        have HC1 := Lib.hid (HY1.out B3 d3 w6 (Hr35.out.ext hb6))
        clear hn6 hb6 q0 HY1 HRn
        go_wp2_with fail
        refine HC1.out.mono ?_
        rintro e w7 ⟨B7, d7, rfl, hn7, hb7⟩
        have Hb7 := Lib.hid (ext_trans Hb6.out hb7)
        have Hn67 := Lib.hid (Hn6.out.ext hb7)
        have Hn7 := Lib.hid hn7
        clear hn7 hb7 HC1
        go_wp2_with (at_builtin
                     refine wpList_app _ rfl (.tmp 63) (.tmp 65) _ rfl _ _ 1 Tryz.underlying26 info_u8 rfl B6 Nb.length d6 (Nb.map bv) rfl (by rw [List.length_map]) Hn67.out B7 Y1.length d7 (Y1.map bv) rfl (by rw [List.length_map]) Hn7.out.rd (bvs_one _) hl1 hl1b ?_
                     intro A8 c8 w8 hown8 honly8
                     obtain ⟨g1, g2⟩ := New.grow Hb7.out hown8 honly8
                     rw [HZ1.out] at g1
                     have Hn8 := Lib.hid g1
                     have Hb8 := Lib.hid g2
                     have HC2 := Lib.hid (HY2.out B4 d4 w8 (Hr45.out.ext g2))
                     simp only [He1.out]
                     clear hown8 honly8 g1 g2)
        refine HC2.out.mono ?_
        rintro e w9 ⟨B9, d9, rfl, hn9, hb9⟩
        have Hb9 := Lib.hid (ext_trans Hb8.out hb9)
        have Hn89 := Lib.hid (Hn8.out.ext hb9)
        have Hn9 := Lib.hid hn9
        clear hn9 hb9 HC2
        go_wp2_with (at_builtin
                     refine wpList_app _ rfl (.tmp 67) (.tmp 69) _ rfl _ _ 1 Tryz.underlying26 info_u8 rfl A8 Z1.length c8 (Z1.map bv) rfl (by rw [List.length_map]) Hn89.out B9 Y2.length d9 (Y2.map bv) rfl (by rw [List.length_map]) Hn9.out.rd (bvs_one _) hl2 hl2b ?_
                     intro A10 c10 w10 hown8 honly8
                     obtain ⟨g1, g2⟩ := New.grow Hb9.out hown8 honly8
                     rw [HZ2.out] at g1
                     have Hn10 := Lib.hid g1
                     have Hb10 := Lib.hid g2
                     have HC3 := Lib.hid (HY3.out B5 d5 w10 (Hr5.out.ext g2))
                     simp only [He2.out]
                     clear hown8 honly8 g1 g2)
        refine HC3.out.mono ?_
        rintro e w11 ⟨B11, d11, rfl, hn11, hb11⟩
        have Hb11 := Lib.hid (ext_trans Hb10.out hb11)
        have Hn1011 := Lib.hid (Hn10.out.ext hb11)
        have Hn11 := Lib.hid hn11
        clear hn11 hb11 HC3
        go_wp2_with (at_builtin
                     refine wpList_app _ rfl (.tmp 70) (.tmp 72) _ rfl _ _ 1 Tryz.underlying26 info_u8 rfl A10 Z2.length c10 (Z2.map bv) rfl (by rw [List.length_map]) Hn1011.out B11 Y3.length d11 (Y3.map bv) rfl (by rw [List.length_map]) Hn11.out.rd (bvs_one _) hl3 hl3b ?_
                     intro A12 c12 w12 hown8 honly8
                     obtain ⟨g1, g2⟩ := New.grow Hb11.out hown8 honly8
                     rw [HZ3.out] at g1
                     have Hn12 := Lib.hid g1
                     have Hb12 := Lib.hid g2
                     have HC4 := Lib.hid (refsum_any A12 Z3.length c12 Z3 w12 rfl g1.rd (by omega))
                     simp only [He3.out]
                     clear hown8 honly8 g1 g2)
        refine HC4.out.mono ?_
        rintro e w13 ⟨rfl, rfl⟩
        have HC5 := Lib.hid (four_any (sumOf Z3) w12 (by have := HSm.out; omega))
        clear HC4
        go_wp2_with fail
        refine HC5.out.mono ?_
        rintro e w14 ⟨B14, d14, rfl, hn14, hb14⟩
        have Hb14 := Lib.hid (ext_trans Hb12.out hb14)
        have Hn1214 := Lib.hid (Hn12.out.ext hb14)
        have Hn14 := Lib.hid hn14
        clear hn14 hb14 HC5
        go_wp2_with (at_builtin
                     refine wpList_app _ rfl (.tmp 74) (.tmp 77) _ rfl _ _ 1 Tryz.underlying26 info_u8 rfl A12 Z3.length c12 (Z3.map bv) rfl (by rw [List.length_map]) Hn1214.out B14 4 d14 ((lowB 4 (sumOf Z3)).map bv) rfl (by rw [List.length_map, lowB_length]) Hn14.out.rd (bvs_one _) hl4 hl4b ?_
                     intro A15 c15 w15 hown8 honly8
                     obtain ⟨g1, g2⟩ := New.grow Hb14.out hown8 honly8
                     have Hn15 := Lib.hid g1
                     have Hb15 := Lib.hid g2
                     clear hown8 honly8 g1 g2)
        go_ret2
        refine ⟨A15, c15, ?_, ?_, ext_trans Hb5.out Hb15.out⟩
        · simp [List.length_append, lowB_length]
        · exact Hn15.out.back Hb5.out.size
end Go.Proofs.YtpjgkacekelkdaaGreatDoor
