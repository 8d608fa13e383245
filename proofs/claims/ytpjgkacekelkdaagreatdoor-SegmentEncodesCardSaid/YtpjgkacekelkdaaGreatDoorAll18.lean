/-
  Texts of this claim, joined (part 18): contracts and lemmas that the last text goes by. No statement of the seat is proved here.
-/
import Derived.Test.YtpjgkacekelkdaaGreatDoorAll13
import Derived.Deep.RegionHeld3
set_option linter.unusedVariables false
set_option linter.unusedSimpArgs false
/-
  Are two segments one (program). No statement of the seat is proved here.
-/
namespace Go.Proofs.YtpjgkacekelkdaaGreatDoor
open Go Go.RowKit
set_option maxRecDepth 100000

set_option maxHeartbeats 4000000 in
theorem equalS_any (A B : Option Addr) (c d : Nat) (l m : List (List UInt8)) (w : World) (hA : Rd w A (l.map strV)) (hB : Rd w B (m.map strV)) (hl : l.length ≤ maxLen) (hm : m.length ≤ maxLen) :
    Calls Tryz.prog 62 #[.slice A l.length c, .slice B m.length d] w fun e w' => ∃ r, e = .returned (.bool r) ∧ (r = true ↔ l = m) ∧ Below w.heap.size w w' := by
  unfold maxLen at hl hm
  have hli1 : (l.length : Int) ≤ 9223372036854775807 := by omega
  have hli2 : (m.length : Int) ≤ 9223372036854775807 := by omega
  have HA := Lib.hid hA
  have HB := Lib.hid hB
  by_cases h2 : l.length = m.length
  · have H2 := Lib.hid h2
    rw [← h2]
    have hN : Hid (∀ k (hk : k < l.length) (hk2 : k < m.length), l[k] ≠ m[k] → l ≠ m) := Lib.hid (fun k hk hk2 hne e => hne (by simp only [e]))
    have hV : Hid (l.take l.length = m.take l.length → l = m) := Lib.hid (fun h => by
      rw [List.take_length, h2, List.take_length] at h
      exact h)
    clear h2 hA hB hl hm hli2
    go_enter Tryz.func62, Tryz.ntmps62
    go_wp2
    go_loopw [13] (fun i wr => ∃ k : Nat, k ≤ l.length ∧ i = .int .i64 (k : Int) ∧ Hid (l.take k = m.take k) ∧ Hid (Below w.heap.size w wr)) (fun i _ => l.length - (intOf i).toNat)
    case atStart => exact ⟨0, Nat.zero_le _, rfl, Lib.hid (by simp), Lib.hid (Below.refl _ _)⟩
    case round =>
      obtain ⟨k, hk, rfl, Heq, Hbw⟩ := hrel
      by_cases hlt : k < l.length
      · have hlt2 : k < m.length := by have := H2.out; omega
        have hki : (k : Int) < (l.length : Int) := by omega
        obtain ⟨ad, rfl, q1⟩ := rd_str (HA.out.ext Hbw.out) hlt
        obtain ⟨ad2, rfl, q2⟩ := rd_str (HB.out.ext Hbw.out) hlt2
        obtain ⟨Y, Z, e1, e2, hc⟩ := str_cases l[k] m[k]
        rw [e1] at q1
        rw [e2] at q2
        clear e1 e2
        rcases hc with ⟨he, rfl⟩ | ⟨hne, hf⟩
        · have He := Lib.hid he
          clear he
          go_wp2_with fail
          go_quiet (fail)
          go_wp2
          go_roundw
          case rel => exact ⟨k + 1, by omega, by go_num, Lib.hid (by rw [List.take_succ_eq_append_getElem hlt, List.take_succ_eq_append_getElem hlt2, Heq.out, He.out]), Lib.hid (ext_drewN Hbw.out _)⟩
          case measure => simp [intOf]; omega
        · have Hd := Lib.hid (hN.out k hlt hlt2 hne)
          clear hne
          go_wp2_with fail
          go_quiet (fail)
          go_wp2
          go_ret
          exact ⟨false, rfl, by simp [Hd.out], ext_drewN Hbw.out _⟩
      · obtain rfl : k = l.length := by omega
        have Hd := Lib.hid (hV.out Heq.out)
        clear hV
        go_wp2
        go_ret
        exact ⟨true, rfl, by simp [Hd.out], Hbw.out⟩
  · have Hne := Lib.hid (show l ≠ m from fun e => h2 (by rw [e]))
    have hli : ¬ (l.length : Int) = (m.length : Int) := by omega
    generalize l.length = n at *
    generalize m.length = q at *
    clear h2 hA hB hl hm HA HB
    go_enter Tryz.func62, Tryz.ntmps62
    go_wp2
    go_ret
    exact ⟨false, rfl, by simp [Hne.out], Below.refl _ _⟩

set_option maxHeartbeats 4000000 in
theorem sline_any (a b : Ln) (A B : Option Addr) (c d : Nat) (w : World) (ha : LnIn w a A c) (hb : LnIn w b B d) :
    Calls Tryz.prog 31 #[lnV a A c, lnV b B d] w fun e w' => ∃ r, e = .returned (.bool r) ∧ (r = true ↔ a = b) ∧ Below w.heap.size w w' := by
  obtain ⟨w0, hw0⟩ : ∃ w0, w0 = (w.alloc (.cells #[.int .i64 a.id, .slice A a.vars.length c] 47)).alloc (.cells #[.int .i64 b.id, .slice B b.vars.length d] 47) := ⟨_, rfl⟩
  have hb0 : Below w.heap.size w w0 := by rw [hw0]; exact ext2 _ _ _
  have HX : Hid (Blk w0 w.heap.size 47 #[.int .i64 a.id, .slice A a.vars.length c]) := Lib.hid (by rw [hw0]; exact (Blk.new _ _ _).alloc _)
  have HY : Hid (Blk w0 (w.heap.size + 1) 47 #[.int .i64 b.id, .slice B b.vars.length d]) := Lib.hid (by rw [hw0, ← World.size_alloc w (.cells #[.int .i64 a.id, .slice A a.vars.length c] 47)]; exact Blk.new _ _ _)
  have HE := Lib.hid (equalS_any A B c d a.vars b.vars w0 (ha.rd.ext hb0) (hb.rd.ext hb0) (Nat.le_trans ha.le ha.cap) (Nat.le_trans hb.le hb.cap))
  have Hw0 := Lib.hid hw0
  have Hb0 := Lib.hid hb0
  have x0 := HX.out.cell 0
  have x1 := HX.out.cell 1
  have y0 := HY.out.cell 0
  have y1 := HY.out.cell 1
  simp only [List.getElem?_toArray, List.getElem?_cons_zero, List.getElem?_cons_succ] at x0 x1 y0 y1
  rw [hw0] at x0 x1 y0 y1
  obtain ⟨ai, av⟩ := a
  obtain ⟨bi, bv_⟩ := b
  unfold lnV
  dsimp only at x0 x1 y0 y1 HE Hw0 ⊢
  have HS : Hid (ai = bi → av = bv_ → (⟨ai, av⟩ : Ln) = ⟨bi, bv_⟩) := Lib.hid (fun h1 h2 => by rw [h1, h2])
  have HT : Hid ((⟨ai, av⟩ : Ln) = ⟨bi, bv_⟩ → ai = bi ∧ av = bv_) := Lib.hid (fun h => by injection h with h1 h2; exact ⟨h1, h2⟩)
  generalize av.length = n at *
  generalize bv_.length = m at *
  clear ha hb hw0 hb0 HX HY
  by_cases h1 : ai = bi
  · subst h1
    have hdd : (ai == ai) = true := by simp
    go_enter Tryz.func31, Tryz.ntmps31
    go_wp2_with fail
    rw [← Hw0.out]
    refine HE.out.mono ?_
    rintro e w' ⟨r, rfl, hr, hbr⟩
    have Hbr := Lib.hid (ext_trans Hb0.out hbr)
    have Hr := Lib.hid hr
    clear hbr hr
    go_wp2
    go_ret
    exact ⟨r, rfl, ⟨fun h => HS.out (by first | rfl | trivial) (Hr.out.1 h), fun h => Hr.out.2 (HT.out h).2⟩, Hbr.out⟩
  · have hdd : (ai == bi) = false := beq_eq_false_iff_ne.2 h1
    have Hne : Hid (¬ (⟨ai, av⟩ : Ln) = ⟨bi, bv_⟩) := Lib.hid (fun h => h1 (HT.out h).1)
    clear HE
    go_enter Tryz.func31, Tryz.ntmps31
    go_wp2
    go_ret
    exact ⟨false, rfl, by simp [Hne.out], by first | exact ext2 _ _ _ | (rw [← Hw0.out]; exact Hb0.out)⟩

set_option maxHeartbeats 4000000 in
theorem equalL_any (A B : Option Addr) (c d : Nat) (l m : List Ln) (w : World) (hA : RowR IsLn 2 w A l) (hB : RowR IsLn 2 w B m) (hl : l.length ≤ maxLen) (hm : m.length ≤ maxLen) :
    Calls Tryz.prog 30 #[.slice A l.length c, .slice B m.length d, .func (.func 31) #[] #[]] w fun e w' => ∃ r, e = .returned (.bool r) ∧ (r = true ↔ l = m) ∧ Below w.heap.size w w' := by
  unfold maxLen at hl hm
  have hli1 : (l.length : Int) ≤ 9223372036854775807 := by omega
  have hli2 : (m.length : Int) ≤ 9223372036854775807 := by omega
  have HA := Lib.hid hA
  have HB := Lib.hid hB
  by_cases h2 : l.length = m.length
  · have H2 := Lib.hid h2
    rw [← h2]
    have hN : Hid (∀ k (hk : k < l.length) (hk2 : k < m.length), l[k] ≠ m[k] → l ≠ m) := Lib.hid (fun k hk hk2 hne e => hne (by simp only [e]))
    have hV : Hid (l.take l.length = m.take l.length → l = m) := Lib.hid (fun h => by
      rw [List.take_length, h2, List.take_length] at h
      exact h)
    clear h2 hA hB hl hm hli2
    go_enter Tryz.func30, Tryz.ntmps30
    go_wp2
    go_loopw [17] (fun i wr => ∃ k : Nat, k ≤ l.length ∧ i = .int .i64 (k : Int) ∧ Hid (l.take k = m.take k) ∧ Hid (Below w.heap.size w wr)) (fun i _ => l.length - (intOf i).toNat)
    case atStart => exact ⟨0, Nat.zero_le _, rfl, Lib.hid (by simp), Lib.hid (Below.refl _ _)⟩
    case round =>
      obtain ⟨k, hk, rfl, Heq, Hbw⟩ := hrel
      by_cases hlt : k < l.length
      · have hlt2 : k < m.length := by have := H2.out; omega
        have hki : (k : Int) < (l.length : Int) := by omega
        obtain ⟨gA, oA, A1, c1, rfl, u0, u1, hin1⟩ := row_ln (HA.out.ext IsLn.lasts Hbw.out) hlt
        obtain ⟨gB, oB, B1, d1, rfl, v0, v1, hin2⟩ := row_ln (HB.out.ext IsLn.lasts Hbw.out) hlt2
        obtain ⟨w1, hw1⟩ : ∃ w1, w1 = (wr.alloc (.cells #[.int .i64 l[k].id, .slice A1 l[k].vars.length c1] 47)).alloc (.cells #[.int .i64 m[k].id, .slice B1 m[k].vars.length d1] 47) := ⟨_, rfl⟩
        have hb1 : Below wr.heap.size wr w1 := by rw [hw1]; exact ext2 _ _ _
        have HX : Hid (Blk w1 wr.heap.size 47 #[.int .i64 l[k].id, .slice A1 l[k].vars.length c1]) := Lib.hid (by rw [hw1]; exact (Blk.new _ _ _).alloc _)
        have HY : Hid (Blk w1 (wr.heap.size + 1) 47 #[.int .i64 m[k].id, .slice B1 m[k].vars.length d1]) := Lib.hid (by rw [hw1, ← World.size_alloc wr (.cells #[.int .i64 l[k].id, .slice A1 l[k].vars.length c1] 47)]; exact Blk.new _ _ _)
        have HL := Lib.hid (sline_any l[k] m[k] A1 B1 c1 d1 w1 (hin1.ext hb1) (hin2.ext hb1))
        have HTk : Hid (l[k] = m[k] → l.take (k + 1) = m.take (k + 1)) := Lib.hid (fun h => by rw [List.take_succ_eq_append_getElem hlt, List.take_succ_eq_append_getElem hlt2, Heq.out, h])
        have HF := Lib.hid (hN.out k hlt hlt2)
        have Hb1 := Lib.hid (ext_trans Hbw.out hb1)
        have Hw1 := Lib.hid hw1
        have x0 := HX.out.cell 0
        have x1 := HX.out.cell 1
        have y0 := HY.out.cell 0
        have y1 := HY.out.cell 1
        simp only [List.getElem?_toArray, List.getElem?_cons_zero, List.getElem?_cons_succ] at x0 x1 y0 y1
        rw [hw1] at x0 x1 y0 y1
        have v0' := cell_only v0 (Only.of_ext (S := fun _ => False) (ext_alloc (Below.refl wr.heap.size wr) (.cells #[.int .i64 l[k].id, .slice A1 l[k].vars.length c1] 47))) (fun h => h)
        have v1' := cell_only v1 (Only.of_ext (S := fun _ => False) (ext_alloc (Below.refl wr.heap.size wr) (.cells #[.int .i64 l[k].id, .slice A1 l[k].vars.length c1] 47))) (fun h => h)
        unfold lnV at HL
        generalize l[k] = la at *
        generalize m[k] = lb at *
        obtain ⟨li, lv⟩ := la
        obtain ⟨mi, mv⟩ := lb
        dsimp only at HL x0 x1 y0 y1 u0 u1 v0 v1 v0' v1' Hw1
        generalize lv.length = nl at *
        generalize mv.length = ml at *
        clear hin1 hin2 hN hV hb1 hw1 HX HY
        go_wp2_with fail
        rw [← Hw1.out]
        clear u0 u1 v0 v1 v0' v1' x0 x1 y0 y1
        refine HL.out.mono ?_
        rintro e w' ⟨r, rfl, hr, hbr⟩
        have Hbr := Lib.hid (ext_trans Hb1.out hbr)
        cases r with
        | true =>
          have He := Lib.hid (HTk.out (hr.1 rfl))
          clear hr hbr HL
          go_wp2
          go_roundw
          case rel => exact ⟨k + 1, by omega, by go_num, He, Hbr⟩
          case measure => simp [intOf]; omega
        | false =>
          have Hd := Lib.hid (HF.out (fun h => by have := hr.2 h; cases this))
          clear hr hbr HL
          go_wp2
          go_ret
          exact ⟨false, rfl, by simp [Hd.out], Hbr.out⟩
      · obtain rfl : k = l.length := by omega
        have Hd := Lib.hid (hV.out Heq.out)
        clear hV
        go_wp2
        go_ret
        exact ⟨true, rfl, by simp [Hd.out], Hbw.out⟩
  · have Hne := Lib.hid (show l ≠ m from fun e => h2 (by rw [e]))
    have hli : ¬ (l.length : Int) = (m.length : Int) := by omega
    generalize l.length = n at *
    generalize m.length = q at *
    clear h2 hA hB hl hm HA HB
    go_enter Tryz.func30, Tryz.ntmps30
    go_wp2
    go_ret
    exact ⟨false, rfl, by simp [Hne.out], Below.refl _ _⟩

set_option maxHeartbeats 4000000 in
theorem same_any (a b : Sg) (A B : Option Addr) (c d : Nat) (w : World) (ha : SgIn w a A c) (hb : SgIn w b B d) :
    Calls Tryz.prog 11 #[sgV a A c, sgV b B d] w fun e w' => ∃ r, e = .returned (.bool r) ∧ (r = true ↔ a = b) ∧ Below w.heap.size w w' := by
  obtain ⟨w0, hw0⟩ : ∃ w0, w0 = (w.alloc (.cells #[.int .i64 a.first, .slice A a.lines.length c] 24)).alloc (.cells #[.int .i64 b.first, .slice B b.lines.length d] 24) := ⟨_, rfl⟩
  have hb0 : Below w.heap.size w w0 := by rw [hw0]; exact ext2 _ _ _
  have HX : Hid (Blk w0 w.heap.size 24 #[.int .i64 a.first, .slice A a.lines.length c]) := Lib.hid (by rw [hw0]; exact (Blk.new _ _ _).alloc _)
  have HY : Hid (Blk w0 (w.heap.size + 1) 24 #[.int .i64 b.first, .slice B b.lines.length d]) := Lib.hid (by rw [hw0, ← World.size_alloc w (.cells #[.int .i64 a.first, .slice A a.lines.length c] 24)]; exact Blk.new _ _ _)
  have HE := Lib.hid (equalL_any A B c d a.lines b.lines w0 (ha.row.ext IsLn.lasts hb0) (hb.row.ext IsLn.lasts hb0) (Nat.le_trans ha.le ha.cap) (Nat.le_trans hb.le hb.cap))
  have Hw0 := Lib.hid hw0
  have Hb0 := Lib.hid hb0
  have x0 := HX.out.cell 0
  have x1 := HX.out.cell 1
  have y0 := HY.out.cell 0
  have y1 := HY.out.cell 1
  simp only [List.getElem?_toArray, List.getElem?_cons_zero, List.getElem?_cons_succ] at x0 x1 y0 y1
  rw [hw0] at x0 x1 y0 y1
  obtain ⟨ai, av⟩ := a
  obtain ⟨bi, bv_⟩ := b
  unfold sgV
  dsimp only at x0 x1 y0 y1 HE Hw0 ⊢
  have HS : Hid (ai = bi → av = bv_ → (⟨ai, av⟩ : Sg) = ⟨bi, bv_⟩) := Lib.hid (fun h1 h2 => by rw [h1, h2])
  have HT : Hid ((⟨ai, av⟩ : Sg) = ⟨bi, bv_⟩ → ai = bi ∧ av = bv_) := Lib.hid (fun h => by injection h with h1 h2; exact ⟨h1, h2⟩)
  generalize av.length = n at *
  generalize bv_.length = m at *
  clear ha hb hw0 hb0 HX HY
  by_cases h1 : ai = bi
  · subst h1
    have hdd : (ai == ai) = true := by simp
    go_enter Tryz.func11, Tryz.ntmps11
    go_wp2_with fail
    rw [← Hw0.out]
    refine HE.out.mono ?_
    rintro e w' ⟨r, rfl, hr, hbr⟩
    have Hbr := Lib.hid (ext_trans Hb0.out hbr)
    have Hr := Lib.hid hr
    clear hbr hr
    go_wp2
    go_ret
    exact ⟨r, rfl, ⟨fun h => HS.out (by first | rfl | trivial) (Hr.out.1 h), fun h => Hr.out.2 (HT.out h).2⟩, Hbr.out⟩
  · have hdd : (ai == bi) = false := beq_eq_false_iff_ne.2 h1
    have Hne : Hid (¬ (⟨ai, av⟩ : Sg) = ⟨bi, bv_⟩) := Lib.hid (fun h => h1 (HT.out h).1)
    clear HE
    go_enter Tryz.func11, Tryz.ntmps11
    go_wp2
    go_ret
    exact ⟨false, rfl, by simp [Hne.out], by first | exact ext2 _ _ _ | (rw [← Hw0.out]; exact Hb0.out)⟩
end Go.Proofs.YtpjgkacekelkdaaGreatDoor

/-
  The law's long: how much is looked at; what it says is left open (its sum may turn over). No statement of the seat is proved here.
-/
namespace Go.Proofs.YtpjgkacekelkdaaGreatDoor
open Go Go.RowKit
set_option maxRecDepth 100000

/-- a segment of a row, as the walk reads it -/
theorem row_sg {w : World} {A : Option Addr} {l : List Sg} (h : RowR IsSg 2 w A l) {k : Nat} (hk : k < l.length) : ∃ g o B c, A = some ⟨g, o, none⟩ ∧ w.cell? ⟨g, o + k * 2, none⟩ = some (.int .i64 l[k].first) ∧ w.cell? ⟨g, o + k * 2 + 1, none⟩ = some (.slice B l[k].lines.length c) ∧ SgIn w l[k] B c := by
  obtain ⟨g, o, cs, e, _, hc, B, c, rfl, hr⟩ := h k hk
  exact ⟨g, o, B, c, e, by have := hc 0 _ rfl; simpa using this, hc 1 _ rfl, hr⟩

set_option maxHeartbeats 8000000 in
theorem longG_any (A : Option Addr) (c : Nat) (l : List Sg) (w : World) (h : RowR IsSg 2 w A l) (hl : l.length ≤ maxLen) :
    Calls Tryz.prog 5 #[.slice A l.length c] w fun e w' => ∃ r : Bool, e = .returned (.bool r) ∧ w = w' := by
  unfold maxLen at hl
  have hli : (l.length : Int) ≤ 9223372036854775807 := by omega
  have H := Lib.hid h
  clear hl h
  go_enter Tryz.func5, Tryz.ntmps5
  go_wp2
  go_loop [3, 4] (fun n i => ∃ (z : Int) (k : Nat), k ≤ l.length ∧ i = .int .i64 (k : Int) ∧ n = .int .i64 z) (fun _ i => l.length - (intOf i).toNat)
  case atStart => exact ⟨0, 0, Nat.zero_le _, rfl, rfl⟩
  case round =>
    obtain ⟨z, k, hk, rfl, rfl⟩ := hrel
    by_cases hlt : k < l.length
    · have hki : (k : Int) < (l.length : Int) := by omega
      obtain ⟨g, o, B, cb, rfl, u0, u1, hin⟩ := row_sg H.out hlt
      have hml := Nat.le_trans hin.le hin.cap
      unfold maxLen at hml
      have hmi : (l[k].lines.length : Int) ≤ 9223372036854775807 := by omega
      have HR := Lib.hid hin.row
      clear hml hin u0
      generalize l[k].lines = ls at *
      go_wp2
      go_loop [3, 5] (fun n i => ∃ (z : Int) (k : Nat), k ≤ ls.length ∧ i = .int .i64 (k : Int) ∧ n = .int .i64 z) (fun _ i => ls.length - (intOf i).toNat)
      case atStart => exact ⟨z, 0, Nat.zero_le _, rfl, rfl⟩
      case round =>
        obtain ⟨z2, j, hj, rfl, rfl⟩ := hrel
        by_cases hjl : j < ls.length
        · have hji : (j : Int) < (ls.length : Int) := by omega
          obtain ⟨gA, oA, A1, c1, rfl, v0, v1, hin⟩ := row_ln HR.out hjl
          have hml := Nat.le_trans hin.le hin.cap
          unfold maxLen at hml
          have hvi : (ls[j].vars.length : Int) ≤ 9223372036854775807 := by omega
          have HV := Lib.hid hin.rd
          clear hml hin v0
          generalize ls[j].vars = vs at *
          go_wp2
          go_loop [3, 6] (fun n i => ∃ (z : Int) (k : Nat), k ≤ vs.length ∧ i = .int .i64 (k : Int) ∧ n = .int .i64 z) (fun _ i => vs.length - (intOf i).toNat)
          case atStart => exact ⟨_, 0, Nat.zero_le _, rfl, rfl⟩
          case round =>
            obtain ⟨z3, q, hq, rfl, rfl⟩ := hrel
            by_cases hql : q < vs.length
            · have hqi : (q : Int) < (vs.length : Int) := by omega
              obtain ⟨ad, rfl, hcell⟩ := rd_str HV.out hql
              unfold strV at hcell
              obtain ⟨Z, hZ⟩ : ∃ Z : ByteArray, (⟨vs[q].toArray⟩ : ByteArray) = Z := ⟨_, rfl⟩
              rw [hZ] at hcell
              clear hZ
              go_wp2
              go_round
              case rel => exact ⟨_, q + 1, by omega, by go_num, rfl⟩
              case measure => simp [intOf]; omega
            · obtain rfl : q = vs.length := by omega
              by_cases hz : 6000 < z3
              · go_wp2
                go_ret
                exact ⟨.inr rfl, rfl⟩
              · go_wp2
                go_round
                case rel => exact ⟨z3, j + 1, by omega, by go_num, rfl⟩
                case measure => simp [intOf]; omega
        · obtain rfl : j = ls.length := by omega
          go_wp2
          go_round
          case rel => exact ⟨z2, k + 1, by omega, by go_num, rfl⟩
          case measure => simp [intOf]; omega
    · obtain rfl : k = l.length := by omega
      go_wp2
      go_ret
      exact ⟨.inl rfl, rfl⟩
end Go.Proofs.YtpjgkacekelkdaaGreatDoor

/-
  The law's known: two lines. No statement of the seat is proved here.
-/
namespace Go.Proofs.YtpjgkacekelkdaaGreatDoor
open Go Go.RowKit
set_option maxRecDepth 100000

def knownS : Sg := ⟨5, [⟨1, [[51]]⟩, ⟨1, [[52]]⟩]⟩
theorem knownS_is : isG knownS = true := by decide
/-- encoded, read back: one contract of each, at a segment that may be -/
theorem encode_good (s : Sg) (hi : isG s = true) (B : Option Addr) (c : Nat) (w : World) (ht : Tab w) (h : SgIn w s B c) :
    Calls Tryz.prog 6 #[sgV s B c] w fun e w' => ∃ A' c', e = .returned (.tuple #[.slice A' (encG s).length c', .int .i64 0]) ∧ New w w' A' c' (encG s) ∧ Below w.heap.size w w' := by
  have h5 := ((isG_iff s).1 hi).2
  have h := encodeG_any s B c w ht h (fun x hx v hv => by have := (h5 x hx).2.2.2 v hv; unfold maxLen; omega)
  rw [show ansG s = (encG s, 0) by unfold ansG; rw [if_pos hi]] at h
  exact h
theorem decode_good (s : Sg) (hi : isG s = true) (A : Option Addr) (c : Nat) (w : World) (ht : Tab w) (hA : Rd w A ((encG s).map bv)) (hc : (encG s).length ≤ c) :
    Calls Tryz.prog 14 #[.slice A (encG s).length c] w fun e w' => ∃ B' c', e = .returned (.tuple #[sgV s B' c', .int .i64 0]) ∧ SgIn w' s B' c' ∧ Below w.heap.size w w' := by
  have h := decodeG_any (encG s) A c w ht hA hc (by have := encG_len hi; omega)
  rw [decG_enc hi] at h
  exact h
theorem same_good (s : Sg) (A B : Option Addr) (c d : Nat) (w : World) (ha : SgIn w s A c) (hb : SgIn w s B d) :
    Calls Tryz.prog 12 #[sgV s A c, sgV s B d] w fun e w' => e = .returned (.bool true) ∧ Below w.heap.size w w' := by
  refine (rsame_any s s A B c d w ha hb).mono ?_
  rintro e w' ⟨r, rfl, hr, hb⟩
  rw [hr.2 rfl]
  exact ⟨rfl, hb⟩

theorem ln_lit {W : World} {g : Nat} {b : UInt8} (hb : Blk W g 9 #[.string ⟨#[b]⟩]) : LnIn W ⟨1, [[b]]⟩ (some ⟨g, 0, none⟩) 1 := by
  refine ⟨⟨by simp, by simp⟩, by simp, by unfold maxLen; omega, (fun h => by cases h), ?_⟩
  exact Rd.blk hb
theorem two_cells {W : World} {g o : Nat} {u v : Value} (h0 : W.cell? ⟨g, o, none⟩ = some u) (h1 : W.cell? ⟨g, o + 1, none⟩ = some v) : ∀ (j : Nat) (z : Value), [u, v][j]? = some z → W.cell? ⟨g, o + j, none⟩ = some z := by
  intro j z hz
  match j, hz with
  | 0, hz => simp at hz; subst hz; exact h0
  | 1, hz => simp at hz; subst hz; exact h1
theorem known_in {W : World} {g0 g1 g2 : Nat} (hB0 : Blk W g0 9 #[.string ⟨#[51]⟩]) (hB1 : Blk W g1 9 #[.string ⟨#[52]⟩])
    (hB2 : Blk W g2 47 #[.int .i64 1, .slice (some ⟨g0, 0, none⟩) 1 1, .int .i64 1, .slice (some ⟨g1, 0, none⟩) 1 1]) : SgIn W knownS (some ⟨g2, 0, none⟩) 2 := by
  refine ⟨⟨by show (-9223372036854775808 : Int) ≤ 5; omega, by show (5 : Int) ≤ 9223372036854775807; omega⟩, by simp [knownS], by unfold maxLen; omega, (fun h => by cases h), fun k hk => ?_⟩
  match k, hk with
  | 0, _ => exact ⟨g2, 0, _, rfl, rfl, two_cells (hB2.cell 0) (hB2.cell 1), some ⟨g0, 0, none⟩, 1, rfl, ln_lit hB0⟩
  | 1, _ => exact ⟨g2, 0, _, rfl, rfl, two_cells (o := 0 + 1 * 2) (hB2.cell 2) (hB2.cell 3), some ⟨g1, 0, none⟩, 1, rfl, ln_lit hB1⟩

set_option maxHeartbeats 16000000 in
theorem known18_any (w : World) (ht : Tab w) : Calls Tryz.prog 13 #[] w fun e w' => e = .returned (.bool true) ∧ Below w.heap.size w w' := by
  obtain ⟨W0, hW0⟩ : ∃ W0, W0 = (((w.alloc (.cells #[.string ⟨#[51]⟩] 9)).alloc (.cells #[.string ⟨#[52]⟩] 9)).alloc (.cells #[.int .i64 1, .slice (some ⟨w.heap.size, 0, none⟩) 1 1, .int .i64 1, .slice (some ⟨w.heap.size + 1, 0, none⟩) 1 1] 47)).alloc (.cells #[.int .i64 5, .slice (some ⟨w.heap.size + 2, 0, none⟩) 2 2] 24) := ⟨_, rfl⟩
  have hb0 : Below w.heap.size w W0 := by rw [hW0]; exact ext_alloc (ext_alloc (ext2 _ _ _) _) _
  have hB0 : Blk W0 w.heap.size 9 #[.string ⟨#[51]⟩] := by rw [hW0]; exact (((Blk.new _ _ _).alloc _).alloc _).alloc _
  have hB1 : Blk W0 (w.heap.size + 1) 9 #[.string ⟨#[52]⟩] := by
    rw [hW0]
    have h := Blk.new (w.alloc (.cells #[.string ⟨#[51]⟩] 9)) 9 #[.string ⟨#[52]⟩]
    rw [World.size_alloc] at h
    exact (h.alloc _).alloc _
  have hB2 : Blk W0 (w.heap.size + 2) 47 #[.int .i64 1, .slice (some ⟨w.heap.size, 0, none⟩) 1 1, .int .i64 1, .slice (some ⟨w.heap.size + 1, 0, none⟩) 1 1] := by
    rw [hW0]
    have h := Blk.new ((w.alloc (.cells #[.string ⟨#[51]⟩] 9)).alloc (.cells #[.string ⟨#[52]⟩] 9)) 47 #[.int .i64 1, .slice (some ⟨w.heap.size, 0, none⟩) 1 1, .int .i64 1, .slice (some ⟨w.heap.size + 1, 0, none⟩) 1 1]
    rw [World.size_alloc, World.size_alloc] at h
    exact h.alloc _
  have HB3 : Hid (Blk W0 (w.heap.size + 3) 24 #[.int .i64 5, .slice (some ⟨w.heap.size + 2, 0, none⟩) 2 2]) := Lib.hid (by
    rw [hW0]
    have h := Blk.new (((w.alloc (.cells #[.string ⟨#[51]⟩] 9)).alloc (.cells #[.string ⟨#[52]⟩] 9)).alloc (.cells #[.int .i64 1, .slice (some ⟨w.heap.size, 0, none⟩) 1 1, .int .i64 1, .slice (some ⟨w.heap.size + 1, 0, none⟩) 1 1] 47)) 24 #[.int .i64 5, .slice (some ⟨w.heap.size + 2, 0, none⟩) 2 2]
    rw [World.size_alloc, World.size_alloc, World.size_alloc] at h
    exact h)
  have HI : Hid (SgIn W0 knownS (some ⟨w.heap.size + 2, 0, none⟩) 2) := Lib.hid (known_in hB0 hB1 hB2)
  have Ht := Lib.hid ht
  have Hb0 := Lib.hid hb0
  have HW0 := Lib.hid hW0
  have HE := Lib.hid (encode_good knownS knownS_is (some ⟨w.heap.size + 2, 0, none⟩) 2 W0 (ht.ext hb0) HI.out)
  have HD := Lib.hid (fun A c W => decode_good knownS knownS_is A c W)
  have HSm := Lib.hid (fun A B c d W => same_good knownS A B c d W)
  have HO := Lib.hid (fun B c W => own_any knownS B c W)
  have e1 : knownS.first = 5 := rfl
  have e2 : knownS.lines.length = 2 := rfl
  unfold sgV at HE HD HSm HO
  rw [e1, e2] at HE
  simp only [e1, e2] at HD HSm HO
  generalize encG knownS = q at *
  clear ht hb0 hW0 hB0 hB1 hB2 e1 e2
  go_enter Tryz.func13, Tryz.ntmps13
  go_wp2_with fail
  rw [← HW0.out]
  refine HE.out.mono ?_
  rintro e w1 ⟨A1, c1, rfl, hn1, hb1⟩
  have hc1 : q.length ≤ c1 := by have := Own.cap hn1; simpa using this
  have HX := Lib.hid (HD.out A1 c1 w1 (Ht.out.ext (ext_trans Hb0.out hb1)) hn1.rd hc1)
  have Hb1 := Lib.hid hb1
  clear hn1 hc1 hb1 HE HD
  go_wp2_with fail
  refine HX.out.mono ?_
  rintro e w3 ⟨B', c', rfl, hin, hb3⟩
  obtain ⟨w4, hw4⟩ : ∃ w4, w4 = w3.alloc (.cells #[.int .i64 5, .slice B' 2 c'] 24) := ⟨_, rfl⟩
  have hb4 : Below w3.heap.size w3 w4 := by rw [hw4]; exact ext_alloc (Below.refl _ _) _
  have hB4 : Blk w4 w3.heap.size 24 #[.int .i64 5, .slice B' 2 c'] := by rw [hw4]; exact Blk.new _ _ _
  have hb04 : Below W0.heap.size W0 w4 := ext_trans (ext_trans Hb1.out hb3) hb4
  have HK : Hid (∀ W, Below w4.heap.size w4 W → W.cell? ⟨w.heap.size + 3, 0, none⟩ = some (.int .i64 5) ∧ W.cell? ⟨w.heap.size + 3, 1, none⟩ = some (.slice (some ⟨w.heap.size + 2, 0, none⟩) 2 2) ∧ W.cell? ⟨w3.heap.size, 0, none⟩ = some (.int .i64 5) ∧ W.cell? ⟨w3.heap.size, 1, none⟩ = some (.slice B' 2 c')) := Lib.hid (fun W hW =>
    ⟨((HB3.out.ext hb04).ext hW).cell 0, ((HB3.out.ext hb04).ext hW).cell 1, (hB4.ext hW).cell 0, (hB4.ext hW).cell 1⟩)
  have Hin := Lib.hid (hin.ext hb4)
  have Hin0 := Lib.hid (HI.out.ext hb04)
  have Hb04 := Lib.hid (ext_trans Hb0.out hb04)
  have Hw4 := Lib.hid hw4
  clear hin hb3 hw4 hb4 hB4 hb04 HX
  go_wp2_with fail
  rw [← Hw4.out]
  refine wp_region_held_drew (S := fun W => W.cell? ⟨w.heap.size + 3, 0, none⟩ = some (.int .i64 5) ∧ W.cell? ⟨w.heap.size + 3, 1, none⟩ = some (.slice (some ⟨w.heap.size + 2, 0, none⟩) 2 2) ∧ W.cell? ⟨w3.heap.size, 0, none⟩ = some (.int .i64 5) ∧ W.cell? ⟨w3.heap.size, 1, none⟩ = some (.slice B' 2 c')) (by kernel_rfl) ?_ (fun hHeld => ?_)
  · exact HK.out _ (by repeat (first | exact Below.refl _ _ | exact HE4.out | exact HE3.out | exact HE2.out | apply ext_drew | apply ext_drewN | apply ext_alloc))
  refine wpAnyH_take (i := 0) (v := ?_) (take_list rfl) (by kernel_rfl) (by kernel_rfl) (by kernel_rfl) (fun _ _ _ h => h) (Or.inl ⟨by rfl, ?_⟩) (by assumption) ?_
  rotate_left
  · intro w hSw
    try dsimp only at hSw
    first | (go_simp; done) | (go_simp; with_reducible rfl)
  try simp only [Act.put, List.setIfInBounds_toArray, List.set_cons_zero, List.set_cons_succ]
  refine wpAnyH_take (i := 1) (v := ?_) (take_list rfl) (by kernel_rfl) (by kernel_rfl) (by kernel_rfl) (fun _ _ _ h => h) (Or.inl ⟨by rfl, ?_⟩) (by assumption) ?_
  rotate_left
  · intro w hSw
    try dsimp only at hSw
    first | (go_simp; done) | (go_simp; with_reducible rfl)
  try simp only [Act.put, List.setIfInBounds_toArray, List.set_cons_zero, List.set_cons_succ]
  refine wpAnyH_take (i := 2) (v := ?_) (take_list rfl) (by kernel_rfl) (by kernel_rfl) (by kernel_rfl) (fun _ _ _ h => h) (Or.inl ⟨by rfl, ?_⟩) (by assumption) ?_
  rotate_left
  · intro w hSw
    try dsimp only at hSw
    first | (go_simp; done) | (go_simp; with_reducible rfl)
  try simp only [Act.put, List.setIfInBounds_toArray, List.set_cons_zero, List.set_cons_succ]
  refine wpAnyH_take (i := 3) (v := ?_) (take_list rfl) (by kernel_rfl) (by kernel_rfl) (by kernel_rfl) (fun _ _ _ h => h) (Or.inl ⟨by rfl, ?_⟩) (by assumption) ?_
  rotate_left
  · intro w hSw
    try dsimp only at hSw
    first | (go_simp; done) | (go_simp; with_reducible rfl)
  try simp only [Act.put, List.setIfInBounds_toArray, List.set_cons_zero, List.set_cons_succ]
  refine wpAnyH_take (i := 4) (v := ?_) (take_list rfl) (by kernel_rfl) (by kernel_rfl) (by kernel_rfl) (fun _ _ _ h => h) (Or.inl ⟨by rfl, ?_⟩) (by assumption) ?_
  rotate_left
  · intro w hSw
    try dsimp only at hSw
    first | (go_simp; done) | (go_simp; with_reducible rfl)
  try simp only [Act.put, List.setIfInBounds_toArray, List.set_cons_zero, List.set_cons_succ]
  refine wpAnyH_take (i := 5) (v := ?_) (take_list rfl) (by kernel_rfl) (by kernel_rfl) (by kernel_rfl) (fun _ _ _ h => h) (Or.inl ⟨by rfl, ?_⟩) (by assumption) ?_
  rotate_left
  · intro w hSw
    try dsimp only at hSw
    first | (go_simp; done) | (go_simp; with_reducible rfl)
  try simp only [Act.put, List.setIfInBounds_toArray, List.set_cons_zero, List.set_cons_succ]
  refine wpAnyH_take (i := 6) (v := ?_) (take_list rfl) (by kernel_rfl) (by kernel_rfl) (by kernel_rfl) (fun _ _ _ h => h) (Or.inl ⟨by rfl, ?_⟩) (by assumption) ?_
  rotate_left
  · intro w hSw
    try dsimp only at hSw
    first | (go_simp; done) | (go_simp; with_reducible rfl)
  try simp only [Act.put, List.setIfInBounds_toArray, List.set_cons_zero, List.set_cons_succ]
  refine wpAnyH_take (i := 7) (v := ?_) (take_list rfl) (by kernel_rfl) (by kernel_rfl) (by kernel_rfl) (fun _ _ _ h => h) (Or.inl ⟨by rfl, ?_⟩) (by assumption) ?_
  rotate_left
  · intro w hSw
    try dsimp only at hSw
    first | (go_simp; done) | (go_simp; with_reducible rfl)
  try simp only [Act.put, List.setIfInBounds_toArray, List.set_cons_zero, List.set_cons_succ]
  refine wpAnyH_take (i := 9) (v := ?_) (take_list rfl) (by kernel_rfl) (by kernel_rfl) (by kernel_rfl) (fun _ _ _ h => h) (Or.inl ⟨by rfl, ?_⟩) (by assumption) ?_
  rotate_left
  · intro w hSw
    try dsimp only at hSw
    first | (go_simp; done) | (go_simp; with_reducible rfl)
  try simp only [Act.put, List.setIfInBounds_toArray, List.set_cons_zero, List.set_cons_succ]
  refine wpAnyH_ready (rs := [8]) (by kernel_rfl) (by simp) ?_
  refine AllReadyH.cons (take_list rfl) (fun K hK => ?_) ?_
  · skip
    go_simp
    refine (HO.out B' c' _).mono ?_
    rintro e x1 ⟨rfl, hbx⟩
    dsimp only
    have HE2 : Hid (Below w4.heap.size w4 x1) := Lib.hid (ext_trans (by repeat (first | exact Below.refl _ _ | exact HE4.out | exact HE3.out | exact HE2.out | apply ext_drew | apply ext_drewN | apply ext_alloc)) hbx)
    clear hbx
    refine hK.out _ _ ?_ (fun hHeld => ?_)
    · try dsimp only
      exact HK.out _ (by repeat (first | exact Below.refl _ _ | exact HE4.out | exact HE3.out | exact HE2.out | apply ext_drew | apply ext_drewN | apply ext_alloc))
    clear hK K
    refine wpAnyH_ready (rs := [10]) (by kernel_rfl) (by simp) ?_
    refine AllReadyH.cons (take_list rfl) (fun K hK => ?_) ?_
    · skip
      go_simp
      refine (HO.out (some ⟨w.heap.size + 2, 0, none⟩) 2 _).mono ?_
      rintro e x2 ⟨rfl, hbx⟩
      dsimp only
      have HE3 : Hid (Below w4.heap.size w4 x2) := Lib.hid (ext_trans (by repeat (first | exact Below.refl _ _ | exact HE4.out | exact HE3.out | exact HE2.out | apply ext_drew | apply ext_drewN | apply ext_alloc)) hbx)
      clear hbx
      refine hK.out _ _ ?_ (fun hHeld => ?_)
      · try dsimp only
        exact HK.out _ (by repeat (first | exact Below.refl _ _ | exact HE4.out | exact HE3.out | exact HE2.out | apply ext_drew | apply ext_drewN | apply ext_alloc))
      clear hK K
      refine wpAnyH_ready (rs := [11]) (by kernel_rfl) (by simp) ?_
      refine AllReadyH.cons (take_list rfl) (fun K hK => ?_) ?_
      · skip
        go_simp
        refine (HSm.out B' (some ⟨w.heap.size + 2, 0, none⟩) c' 2 _ (Hin.out.ext (by repeat (first | exact Below.refl _ _ | exact HE4.out | exact HE3.out | exact HE2.out | apply ext_drew | apply ext_drewN | apply ext_alloc))) (Hin0.out.ext (by repeat (first | exact Below.refl _ _ | exact HE4.out | exact HE3.out | exact HE2.out | apply ext_drew | apply ext_drewN | apply ext_alloc)))).mono ?_
        rintro e x3 ⟨rfl, hbx⟩
        dsimp only
        have HE4 : Hid (Below w4.heap.size w4 x3) := Lib.hid (ext_trans (by repeat (first | exact Below.refl _ _ | exact HE4.out | exact HE3.out | exact HE2.out | apply ext_drew | apply ext_drewN | apply ext_alloc)) hbx)
        clear hbx
        refine hK.out _ _ ?_ (fun hHeld => ?_)
        · try dsimp only
          exact HK.out _ (by repeat (first | exact Below.refl _ _ | exact HE4.out | exact HE3.out | exact HE2.out | apply ext_drew | apply ext_drewN | apply ext_alloc))
        clear hK K
        refine wpAnyH_take (i := 12) (v := ?_) (take_list rfl) (by kernel_rfl) (by kernel_rfl) (by kernel_rfl) (fun _ _ _ h => h) (Or.inl ⟨by rfl, ?_⟩) (by assumption) ?_
        rotate_left
        · intro w hSw
          try dsimp only at hSw
          first | (go_simp; done) | (go_simp; with_reducible rfl)
        try simp only [Act.put, List.setIfInBounds_toArray, List.set_cons_zero, List.set_cons_succ]
        refine wpAnyH_take (i := 13) (v := ?_) (take_list rfl) (by kernel_rfl) (by kernel_rfl) (by kernel_rfl) (fun _ _ _ h => h) (Or.inl ⟨by rfl, ?_⟩) (by assumption) ?_
        rotate_left
        · intro w hSw
          try dsimp only at hSw
          first | (go_simp; done) | (go_simp; with_reducible rfl)
        try simp only [Act.put, List.setIfInBounds_toArray, List.set_cons_zero, List.set_cons_succ]
        refine wpAnyH_done (by kernel_rfl) ?_ _
        go_wp2
        go_ret
        exact ⟨rfl, ext_trans Hb04.out HE4.out⟩
      exact AllReadyH.nil
    exact AllReadyH.nil
  exact AllReadyH.nil
end Go.Proofs.YtpjgkacekelkdaaGreatDoor
