/-
  Texts of this claim, joined (part 3): contracts and lemmas that the last text goes by. No statement of the seat is proved here.
-/
import Derived.Test.YtlddmjhpemihgaaDoorAll0
import Derived.Test.YtlddmjhpemihgaaDoorAll1
import Derived.Test.YtlddmjhpemihgaaDoorAll2
import Derived.WalkLawsBesides
import Derived.IntWalk
import Derived.Deep.AppendSrc
import Derived.Deep.MidRow
set_option linter.unusedVariables false
set_option linter.unusedSimpArgs false
/-
  Contracts of the reference's Nodes, Weight, nest. No statement of the seat is proved here.
-/
namespace Go.Proofs.YtlddmjhpemihgaaDoor
open Go Go.RowKit
set_option maxRecDepth 100000
set_option maxHeartbeats 1000000 in
theorem rnodes_any (S : Nat → Prop) (t : Ex) : ∀ (cs : List Value) (w : World), ReR S w t cs → nodesE t ≤ 1000000 →
    Calls Tryd.prog 11 #[reV cs] w fun e w' => e = .returned (.int .i64 (nodesE t : Int)) ∧ Below w.heap.size w w' := by
  refine ex_induct (p := fun t => ∀ (cs : List Value) (w : World), ReR S w t cs → nodesE t ≤ 1000000 → Calls Tryd.prog 11 #[reV cs] w fun e w' => e = .returned (.int .i64 (nodesE t : Int)) ∧ Below w.heap.size w w') (fun k s ks lo hi ih cs w h hn => ?_) t
  rw [reR_iff] at h
  obtain ⟨h0, A, c, rfl, h1, h2, h3⟩ := h
  have hln := length_nodesL ks
  have hno : nodesE (.mk k s ks lo hi) = 1 + nodesL ks := by simp [nodesE]
  rw [hno] at hn ⊢
  clear hno h0
  have hli : (ks.length : Int) ≤ 1000000 := by omega
  unfold maxLen at h2
  have Hih := Lib.hid ih
  have H3 := Lib.hid h3
  clear ih h3
  unfold reV reCells
  have hB := Blk.new w 27 #[.int .i64 k, .int .u64 (wordB s 0 : Int), .int .u64 (wordB s 1 : Int), .int .u64 (wordB s 2 : Int), .int .u64 (wordB s 3 : Int), .slice A ks.length c, .int .i64 lo, .int .i64 hi]
  go_enter Tryd.func11, Tryd.ntmps11
  go_wp2
  go_loopw [3, 4] (fun n i wr => ∃ j : Nat, j ≤ ks.length ∧ i = .int .i64 (j : Int) ∧ n = .int .i64 ((1 + nodesL (ks.take j) : Nat) : Int) ∧ Blk wr w.heap.size 27 #[.int .i64 k, .int .u64 (wordB s 0 : Int), .int .u64 (wordB s 1 : Int), .int .u64 (wordB s 2 : Int), .int .u64 (wordB s 3 : Int), .slice A ks.length c, .int .i64 lo, .int .i64 hi] ∧ Below w.heap.size w wr) (fun _ i _ => ks.length - (intOf i).toNat)
  case atStart => exact ⟨0, Nat.zero_le _, rfl, by simp [nodesL], hB, (Below.refl _ _).alloc (Nat.le_refl _) _⟩
  case round =>
    obtain ⟨j, hj, rfl, rfl, hB, hb⟩ := hrel
    have c5 := hB.cell 5
    by_cases hlt : j < ks.length
    · have hji : (j : Int) < (ks.length : Int) := by omega
      obtain ⟨g, o, u0, u1, u2, u3, u4, u5, u6, u7, rfl, hr, x0, x1, x2, x3, x4, x5, x6, x7, -⟩ := (H3.out.ext hb).kid hlt
      have hsum := nodesL_take ks j hlt
      have hle := nodesL_take_le ks (j + 1)
      have hcall : ∀ W, Below wr.heap.size wr W → Calls Tryd.prog 11 #[.agg #[u0, u1, u2, u3, u4, u5, u6, u7]] W fun e w' => e = .returned (.int .i64 (nodesE ks[j] : Int)) ∧ Below W.heap.size W w' := fun W hW =>
        Hih.out _ (List.getElem_mem hlt) _ W (hr.ext hW) (by omega)
      have Hc := Lib.hid hcall
      have HB := Lib.hid hB
      obtain ⟨p, hp⟩ : ∃ p, nodesL (ks.take j) = p := ⟨_, rfl⟩
      obtain ⟨q, hq⟩ : ∃ q, nodesE ks[j] = q := ⟨_, rfl⟩
      rw [hp] at hsum ⊢
      rw [hq] at hsum Hc
      rw [hsum] at hle
      have Hs := Lib.hid hsum
      clear hsum hcall hB hr hp hq
      go_wp2_with fail
      refine (Hc.out _ (Below.refl _ _)).mono ?_
      rintro e w2 ⟨rfl, hb2⟩
      go_wp2
      go_roundw
      case rel => exact ⟨j + 1, by omega, by go_num, by rw [Hs.out]; go_num, HB.out.ext hb2, ext_trans hb hb2⟩
      case measure => simp [intOf]; omega
    · obtain rfl : j = ks.length := by omega
      rw [List.take_length]
      go_wp2
      go_ret
      exact ⟨rfl, hb⟩

set_option maxHeartbeats 1000000 in
theorem rweight_any (S : Nat → Prop) (t : Ex) : ∀ (cs : List Value) (w : World), ReR S w t cs → nodesE t ≤ 1000000 →
    Calls Tryd.prog 9 #[reV cs] w fun e w' => e = .returned (.int .i64 (weightE t : Int)) ∧ Below w.heap.size w w' := by
  refine ex_induct (p := fun t => ∀ (cs : List Value) (w : World), ReR S w t cs → nodesE t ≤ 1000000 → Calls Tryd.prog 9 #[reV cs] w fun e w' => e = .returned (.int .i64 (weightE t : Int)) ∧ Below w.heap.size w w') (fun k s ks lo hi ih cs w h hn => ?_) t
  rw [reR_iff] at h
  obtain ⟨h0, A, c, rfl, h1, h2, h3⟩ := h
  have hln := length_nodesL ks
  have hno : nodesE (.mk k s ks lo hi) = 1 + nodesL ks := by simp [nodesE]
  rw [hno] at hn
  clear hno
  have hli : (ks.length : Int) ≤ 1000000 := by omega
  unfold maxLen at h2
  have Hih := Lib.hid ih
  have H3 := Lib.hid h3
  clear ih h3
  have hwe : weightE (.mk k s ks lo hi) = (if k = 4 then min 5000 (weightL 0 ks * oftenE lo hi) else weightL 0 ks) + 1 := by simp [weightE]
  obtain ⟨res, hres⟩ : ∃ r, weightE (.mk k s ks lo hi) = r := ⟨_, rfl⟩
  rw [hres]
  rw [hwe] at hres
  have Hres := Lib.hid hres
  clear hwe hres
  obtain ⟨-, -, hlo, hhi⟩ := h0
  unfold isInt at hlo hhi
  unfold reV reCells
  have hB := Blk.new w 27 #[.int .i64 k, .int .u64 (wordB s 0 : Int), .int .u64 (wordB s 1 : Int), .int .u64 (wordB s 2 : Int), .int .u64 (wordB s 3 : Int), .slice A ks.length c, .int .i64 lo, .int .i64 hi]
  go_enter Tryd.func9, Tryd.ntmps9
  go_wp2
  go_loopw [3, 4] (fun n i wr => ∃ j : Nat, j ≤ ks.length ∧ i = .int .i64 (j : Int) ∧ n = .int .i64 ((weightL 0 (ks.take j) : Nat) : Int) ∧ Blk wr w.heap.size 27 #[.int .i64 k, .int .u64 (wordB s 0 : Int), .int .u64 (wordB s 1 : Int), .int .u64 (wordB s 2 : Int), .int .u64 (wordB s 3 : Int), .slice A ks.length c, .int .i64 lo, .int .i64 hi] ∧ Below w.heap.size w wr) (fun _ i _ => ks.length - (intOf i).toNat)
  case atStart => exact ⟨0, Nat.zero_le _, rfl, by simp [weightL], hB, (Below.refl _ _).alloc (Nat.le_refl _) _⟩
  case round =>
    obtain ⟨j, hj, rfl, rfl, hB, hb⟩ := hrel
    have c5 := hB.cell 5
    by_cases hlt : j < ks.length
    · have hji : (j : Int) < (ks.length : Int) := by omega
      obtain ⟨g, o, u0, u1, u2, u3, u4, u5, u6, u7, rfl, hr, x0, x1, x2, x3, x4, x5, x6, x7, -⟩ := (H3.out.ext hb).kid hlt
      have hsum := weightL_take 0 ks j hlt
      have hmem := nodesL_mem (List.getElem_mem hlt)
      have hcall : ∀ W, Below wr.heap.size wr W → Calls Tryd.prog 9 #[.agg #[u0, u1, u2, u3, u4, u5, u6, u7]] W fun e w' => e = .returned (.int .i64 (weightE ks[j] : Int)) ∧ Below W.heap.size W w' := fun W hW =>
        Hih.out _ (List.getElem_mem hlt) _ W (hr.ext hW) (by omega)
      have hb1 := weightL_le 0 (ks.take j) (by omega)
      have hb2 := weightE_le ks[j]
      have Hc := Lib.hid hcall
      have HB := Lib.hid hB
      obtain ⟨p, hp⟩ : ∃ p, weightL 0 (ks.take j) = p := ⟨_, rfl⟩
      obtain ⟨q, hq⟩ : ∃ q, weightE ks[j] = q := ⟨_, rfl⟩
      rw [hp] at hsum hb1 ⊢
      rw [hq] at hsum Hc hb2
      have HP := Lib.hid hr
      clear hcall hB hr hp hq c5
      have c5 := HB.out.cell 5
      rcases Nat.lt_or_ge (p + q) 5000 with hm | hm
      · rw [Nat.min_eq_right (by omega)] at hsum
        have Hs := Lib.hid hsum
        have hmi : (p : Int) + (q : Int) < 5000 := by omega
        clear hsum
        go_wp2_with fail
        refine (Hc.out _ (Below.refl _ _)).mono ?_
        rintro e w2 ⟨rfl, hbb⟩
        go_wp2
        go_roundw
        case rel => exact ⟨j + 1, by omega, by go_num, by (rw [Hs.out]; exact int_eq (by omega)), HB.out.ext hbb, ext_trans hb hbb⟩
        case measure => simp [intOf]; omega
      · rw [Nat.min_eq_left hm] at hsum
        have Hs := Lib.hid hsum
        have hmi : (5000 : Int) ≤ (p : Int) + (q : Int) := by omega
        clear hsum
        go_wp2_with fail
        refine (Hc.out _ (Below.refl _ _)).mono ?_
        rintro e w2 ⟨rfl, hbb⟩
        go_wp2
        go_roundw
        case rel => exact ⟨j + 1, by omega, by go_num, by (rw [Hs.out]; rfl), HB.out.ext hbb, ext_trans hb hbb⟩
        case measure => simp [intOf]; omega
    · obtain rfl : j = ks.length := by omega
      rw [List.take_length]
      have hbw := weightL_le 0 ks (by omega)
      have c0 := hB.cell 0
      have c6 := hB.cell 6
      have c7 := hB.cell 7
      by_cases hk4 : k = 4
      · subst hk4
        obtain ⟨M1, hM1⟩ : ∃ M, (if lo < hi then hi else lo) = M := ⟨_, rfl⟩
        obtain ⟨M2, hM2⟩ : ∃ M, (if M1 < 1 then 1 else M1) = M := ⟨_, rfl⟩
        have hM3 : (if M2 < 100 then M2 else 100) = (oftenE lo hi : Int) := by
          unfold oftenE
          rw [← hM2, ← hM1]
          split <;> split <;> split <;> omega
        have hol := often_le lo hi
        obtain ⟨O, hO⟩ : ∃ O, oftenE lo hi = O := ⟨_, rfl⟩
        obtain ⟨q, hq⟩ : ∃ q, weightL 0 ks = q := ⟨_, rfl⟩
        have H' := Hres.out
        rw [hO] at hM3 hol H'
        rw [hq] at hbw H' ⊢
        clear Hres hO hq
        have hpl : q * O ≤ 5000 * 100 := Nat.mul_le_mul hbw hol
        obtain ⟨x, hx⟩ : ∃ x, q * O = x := ⟨_, rfl⟩
        have hxi : (q : Int) * (O : Int) = (x : Int) := by rw [← hx]; simp
        rw [hx] at hpl H'
        have Hres := Lib.hid H'
        clear H' hx hol
        rcases Nat.lt_or_ge x 5000 with hm | hm
        · have hmi : (x : Int) < 5000 := by omega
          go_wp2
          go_ret
          exact ⟨ret_eq (by rw [← Hres.out, if_pos trivial, Nat.min_eq_right (by omega)]; simp), hb⟩
        · have hmi : (5000 : Int) ≤ (x : Int) := by omega
          go_wp2
          go_ret
          exact ⟨ret_eq (by rw [← Hres.out, if_pos trivial, Nat.min_eq_left hm]; rfl), hb⟩
      · go_wp2
        go_ret
        exact ⟨ret_eq (by rw [← Hres.out, if_neg hk4]; simp), hb⟩

set_option maxHeartbeats 1000000 in
theorem rnest_any (S : Nat → Prop) (t : Ex) : ∀ (cs : List Value) (w : World), ReR S w t cs → nodesE t ≤ 1000000 →
    Calls Tryd.prog 12 #[reV cs] w fun e w' => e = .returned (.int .i64 (nestE t : Int)) ∧ Below w.heap.size w w' := by
  refine ex_induct (p := fun t => ∀ (cs : List Value) (w : World), ReR S w t cs → nodesE t ≤ 1000000 → Calls Tryd.prog 12 #[reV cs] w fun e w' => e = .returned (.int .i64 (nestE t : Int)) ∧ Below w.heap.size w w') (fun k s ks lo hi ih cs w h hn => ?_) t
  rw [reR_iff] at h
  obtain ⟨h0, A, c, rfl, h1, h2, h3⟩ := h
  have hln := length_nodesL ks
  have hno : nodesE (.mk k s ks lo hi) = 1 + nodesL ks := by simp [nodesE]
  rw [hno] at hn
  clear hno
  have hli : (ks.length : Int) ≤ 1000000 := by omega
  unfold maxLen at h2
  have Hih := Lib.hid ih
  have H3 := Lib.hid h3
  clear ih h3
  have hwe : nestE (.mk k s ks lo hi) = nestL 0 ks + (if k = 4 then 1 else 0) := by simp [nestE]
  obtain ⟨res, hres⟩ : ∃ r, nestE (.mk k s ks lo hi) = r := ⟨_, rfl⟩
  rw [hres]
  rw [hwe] at hres
  have Hres := Lib.hid hres
  clear hwe h0 hres
  unfold reV reCells
  have hB := Blk.new w 27 #[.int .i64 k, .int .u64 (wordB s 0 : Int), .int .u64 (wordB s 1 : Int), .int .u64 (wordB s 2 : Int), .int .u64 (wordB s 3 : Int), .slice A ks.length c, .int .i64 lo, .int .i64 hi]
  go_enter Tryd.func12, Tryd.ntmps12
  go_wp2
  go_loopw [3, 4] (fun n i wr => ∃ j : Nat, j ≤ ks.length ∧ i = .int .i64 (j : Int) ∧ n = .int .i64 ((nestL 0 (ks.take j) : Nat) : Int) ∧ Blk wr w.heap.size 27 #[.int .i64 k, .int .u64 (wordB s 0 : Int), .int .u64 (wordB s 1 : Int), .int .u64 (wordB s 2 : Int), .int .u64 (wordB s 3 : Int), .slice A ks.length c, .int .i64 lo, .int .i64 hi] ∧ Below w.heap.size w wr) (fun _ i _ => ks.length - (intOf i).toNat)
  case atStart => exact ⟨0, Nat.zero_le _, rfl, by simp [nestL], hB, (Below.refl _ _).alloc (Nat.le_refl _) _⟩
  case round =>
    obtain ⟨j, hj, rfl, rfl, hB, hb⟩ := hrel
    have c5 := hB.cell 5
    by_cases hlt : j < ks.length
    · have hji : (j : Int) < (ks.length : Int) := by omega
      obtain ⟨g, o, u0, u1, u2, u3, u4, u5, u6, u7, rfl, hr, x0, x1, x2, x3, x4, x5, x6, x7, -⟩ := (H3.out.ext hb).kid hlt
      have hsum := nestL_take 0 ks j hlt
      have hmem := nodesL_mem (List.getElem_mem hlt)
      have hcall : ∀ W, Below wr.heap.size wr W → Calls Tryd.prog 12 #[.agg #[u0, u1, u2, u3, u4, u5, u6, u7]] W fun e w' => e = .returned (.int .i64 (nestE ks[j] : Int)) ∧ Below W.heap.size W w' := fun W hW =>
        Hih.out _ (List.getElem_mem hlt) _ W (hr.ext hW) (by omega)
      have hb1 : nestL 0 (ks.take j) ≤ 1000000 := by
        have := nestL_le (ks.take j) 0 (fun x _ => nestE_le x)
        have := nodesL_take_le ks j
        omega
      have hb2 : nestE ks[j] ≤ 1000000 := by
        have := nestE_le ks[j]
        omega
      have Hc := Lib.hid hcall
      have HB := Lib.hid hB
      obtain ⟨p, hp⟩ : ∃ p, nestL 0 (ks.take j) = p := ⟨_, rfl⟩
      obtain ⟨q, hq⟩ : ∃ q, nestE ks[j] = q := ⟨_, rfl⟩
      rw [hp] at hsum hb1 ⊢
      rw [hq] at hsum Hc hb2
      have Hs := Lib.hid hsum
      clear hsum hcall hB hr hp hq c5
      have c5 := HB.out.cell 5
      go_wp2_with fail
      refine (Hc.out _ (Below.refl _ _)).mono ?_
      rintro e w2 ⟨rfl, hbb⟩
      go_wp2
      all_goals
        go_roundw
        case rel => exact ⟨j + 1, by omega, by go_num, by (rw [Hs.out]; exact int_eq (by omega)), HB.out.ext hbb, ext_trans hb hbb⟩
        case measure => simp [intOf]; omega
    · obtain rfl : j = ks.length := by omega
      rw [List.take_length]
      have hbw : nestL 0 ks ≤ 1000000 := by
        have := nestL_le ks 0 (fun x _ => nestE_le x)
        omega
      have c0 := hB.cell 0
      by_cases hk4 : k = 4
      · subst hk4
        go_wp2
        go_ret
        exact ⟨ret_eq (by rw [← Hres.out]; simp), hb⟩
      · go_wp2
        go_ret
        exact ⟨ret_eq (by rw [← Hres.out, if_neg hk4]; simp), hb⟩
end Go.Proofs.YtlddmjhpemihgaaDoor

/-
  Contracts of the reference's Is, Print. No statement of the seat is proved here.
-/
namespace Go.Proofs.YtlddmjhpemihgaaDoor
open Go Go.RowKit
set_option maxRecDepth 100000
/-- an expression's fields told -/
theorem ReR.fields {S : Nat → Prop} {w : World} {t : Ex} {cs : List Value} (h : ReR S w t cs) :
    ∃ k p0 p1 p2 p3 ks A c lo hi, t = .mk k [p0, p1, p2, p3] ks lo hi ∧ cs = [.int .i64 k, .int .u64 ((p0 : Nat) : Int), .int .u64 ((p1 : Nat) : Int), .int .u64 ((p2 : Nat) : Int), .int .u64 ((p3 : Nat) : Int), .slice A ks.length c, .int .i64 lo, .int .i64 hi] ∧ ks.length ≤ c ∧ c ≤ maxLen ∧ isInt k ∧ isInt lo ∧ isInt hi ∧ SetOk [p0, p1, p2, p3] ∧ Kids S w A ks := by
  cases t with
  | mk k s ks lo hi =>
    rw [reR_iff] at h
    obtain ⟨⟨h0, hs, h6, h7⟩, A, c, rfl, h1, h2, h3⟩ := h
    obtain ⟨p0, p1, p2, p3, rfl⟩ := four_words hs
    exact ⟨k, p0, p1, p2, p3, ks, A, c, lo, hi, rfl, rfl, h1, h2, h0, h6, h7, hs, h3⟩

set_option maxHeartbeats 2000000 in
theorem ris_any (S : Nat → Prop) (t : Ex) (cs : List Value) (w : World) (h : ReR S w t cs) (hn : nodesE t ≤ 1000000) :
    Calls Tryd.prog 5 #[reV cs] w fun e w' => e = .returned (.bool (isE t)) ∧ Below w.heap.size w w' := by
  have hO : ∀ W, Below w.heap.size w W → Calls Tryd.prog 10 #[reV cs, .int .i64 ((1 : Nat) : Int)] W fun e w' => e = .returned (.bool (oneE 1 t)) ∧ Below W.heap.size W w' := fun W hW => rone_any S t cs W 1 (h.ext hW) hn (by omega)
  have hN : ∀ W, Below w.heap.size w W → Calls Tryd.prog 11 #[reV cs] W fun e w' => e = .returned (.int .i64 (nodesE t : Int)) ∧ Below W.heap.size W w' := fun W hW => rnodes_any S t cs W (h.ext hW) hn
  have hG : ∀ W, Below w.heap.size w W → Calls Tryd.prog 9 #[reV cs] W fun e w' => e = .returned (.int .i64 (weightE t : Int)) ∧ Below W.heap.size W w' := fun W hW => rweight_any S t cs W (h.ext hW) hn
  have hE : ∀ W, Below w.heap.size w W → Calls Tryd.prog 12 #[reV cs] W fun e w' => e = .returned (.int .i64 (nestE t : Int)) ∧ Below W.heap.size W w' := fun W hW => rnest_any S t cs W (h.ext hW) hn
  have hT : oneE 1 t = true → ∀ W, Below w.heap.size w W → Calls Tryd.prog 13 #[reV cs] W fun e w' => e = .returned (.string (bsN (textE t))) ∧ Below W.heap.size W w' := fun ho W hW => rtext_any S t cs W 1 (h.ext hW) hn ho
  have hl := textE_len t
  have hw := weightE_le t
  have hne := nestE_le t
  have hsz := bsN_size (textE t)
  obtain ⟨r, hr⟩ : ∃ r, isE t = r := ⟨_, rfl⟩
  rw [hr]
  unfold isE at hr
  obtain ⟨k, p0, p1, p2, p3, ks, A, c, lo, hi, rfl, rfl, h1, h2, hk, hlo, hhi, hs, h3⟩ := h.fields
  generalize Ex.mk k [p0, p1, p2, p3] ks lo hi = t at *
  clear h hk hlo hhi hs h3 
  obtain ⟨a, ha⟩ : ∃ a, nodesE t = a := ⟨_, rfl⟩
  obtain ⟨b, hb⟩ : ∃ b, weightE t = b := ⟨_, rfl⟩
  obtain ⟨d, hd⟩ : ∃ d, nestE t = d := ⟨_, rfl⟩
  obtain ⟨q, hq⟩ : ∃ q, (textE t).length = q := ⟨_, rfl⟩
  obtain ⟨ob, hob⟩ : ∃ o, oneE 1 t = o := ⟨_, rfl⟩
  generalize bsN (textE t) = Z at hT hsz
  rw [ha, hb, hd, hq, hob] at hr
  rw [ha] at hn hN hne hl
  rw [hb] at hG hw
  rw [hd] at hE hne
  rw [hq] at hl hsz
  rw [hob] at hO hT
  clear ha hb hd hq hob
  have HO := Lib.hid hO
  have HN := Lib.hid hN
  have HG := Lib.hid hG
  have HE := Lib.hid hE
  have HT := Lib.hid hT
  have Hr := Lib.hid hr
  have Hsz := Lib.hid hsz
  have hB := Blk.new w 27 #[.int .i64 k, .int .u64 (p0 : Int), .int .u64 (p1 : Int), .int .u64 (p2 : Int), .int .u64 (p3 : Int), .slice A ks.length c, .int .i64 lo, .int .i64 hi]
  have hba : Below w.heap.size w (w.alloc (Obj.cells #[.int .i64 k, .int .u64 (p0 : Int), .int .u64 (p1 : Int), .int .u64 (p2 : Int), .int .u64 (p3 : Int), .slice A ks.length c, .int .i64 lo, .int .i64 hi] 27)) := (Below.refl _ _).alloc (Nat.le_refl _) _
  have HB := Lib.hid hB
  have Hba := Lib.hid hba
  clear hO hN hG hE hT hr hsz hB hba
  unfold maxLen at h2
  have hzi : Z.size ≤ 2420000000 := by rw [Hsz.out]; omega
  show Calls Tryd.prog 5 #[.agg #[.int .i64 k, .int .u64 (p0 : Int), .int .u64 (p1 : Int), .int .u64 (p2 : Int), .int .u64 (p3 : Int), .slice A ks.length c, .int .i64 lo, .int .i64 hi]] w _
  unfold reV at HO HN HG HE HT
  simp only [List.toArray] at HO
  go_enter Tryd.func5, Tryd.ntmps5
  go_wp2_with fail
  refine (HO.out _ Hba.out).mono ?_
  rintro e w2 ⟨rfl, hb2⟩
  have HB2 := Lib.hid (HB.out.ext hb2)
  have Hb2 := Lib.hid (ext_trans Hba.out hb2)
  clear hb2
  cases ob with
  | false =>
    go_wp2
    go_ret
    exact ⟨ret_bool (by rw [← Hr.out]; simp), Hb2.out⟩
  | true =>
  have c0 := HB2.out.cell 0
  have c1 := HB2.out.cell 1
  have c2 := HB2.out.cell 2
  have c3 := HB2.out.cell 3
  have c4 := HB2.out.cell 4
  have c5 := HB2.out.cell 5
  have c6 := HB2.out.cell 6
  have c7 := HB2.out.cell 7
  go_wp2_with fail
  refine (HN.out _ Hb2.out).mono ?_
  rintro e w3 ⟨rfl, hb3⟩
  have HB3 := Lib.hid (HB2.out.ext hb3)
  have Hb3 := Lib.hid (ext_trans Hb2.out hb3)
  clear hb3 c0 c1 c2 c3 c4 c5 c6 c7
  rcases Nat.lt_or_ge 128 a with hx | hx
  · have hxi : (128 : Int) < (a : Int) := by omega
    go_wp2
    go_ret
    exact ⟨ret_bool (by rw [← Hr.out]; simp; omega), Hb3.out⟩
  have hxi2 : (a : Int) ≤ 128 := by omega
  have c0 := HB3.out.cell 0
  have c1 := HB3.out.cell 1
  have c2 := HB3.out.cell 2
  have c3 := HB3.out.cell 3
  have c4 := HB3.out.cell 4
  have c5 := HB3.out.cell 5
  have c6 := HB3.out.cell 6
  have c7 := HB3.out.cell 7
  go_wp2_with fail
  refine (HG.out _ Hb3.out).mono ?_
  rintro e w4 ⟨rfl, hb4⟩
  have HB4 := Lib.hid (HB3.out.ext hb4)
  have Hb4 := Lib.hid (ext_trans Hb3.out hb4)
  clear hb4 c0 c1 c2 c3 c4 c5 c6 c7
  rcases Nat.lt_or_ge 1024 b with hx | hx
  · have hxi : (1024 : Int) < (b : Int) := by omega
    go_wp2
    go_ret
    exact ⟨ret_bool (by rw [← Hr.out]; simp; omega), Hb4.out⟩
  have hxi3 : (b : Int) ≤ 1024 := by omega
  have c0 := HB4.out.cell 0
  have c1 := HB4.out.cell 1
  have c2 := HB4.out.cell 2
  have c3 := HB4.out.cell 3
  have c4 := HB4.out.cell 4
  have c5 := HB4.out.cell 5
  have c6 := HB4.out.cell 6
  have c7 := HB4.out.cell 7
  go_wp2_with fail
  refine (HE.out _ Hb4.out).mono ?_
  rintro e w5 ⟨rfl, hb5⟩
  have HB5 := Lib.hid (HB4.out.ext hb5)
  have Hb5 := Lib.hid (ext_trans Hb4.out hb5)
  clear hb5 c0 c1 c2 c3 c4 c5 c6 c7
  rcases Nat.lt_or_ge 4 d with hx | hx
  · have hxi : (4 : Int) < (d : Int) := by omega
    go_wp2
    go_ret
    exact ⟨ret_bool (by rw [← Hr.out]; simp; omega), Hb5.out⟩
  have hxi4 : (d : Int) ≤ 4 := by omega
  have c0 := HB5.out.cell 0
  have c1 := HB5.out.cell 1
  have c2 := HB5.out.cell 2
  have c3 := HB5.out.cell 3
  have c4 := HB5.out.cell 4
  have c5 := HB5.out.cell 5
  have c6 := HB5.out.cell 6
  have c7 := HB5.out.cell 7
  go_wp2_with fail
  refine (HT.out (by trivial) _ Hb5.out).mono ?_
  rintro e w6 ⟨rfl, hb6⟩
  have HB6 := Lib.hid (HB5.out.ext hb6)
  have Hb6 := Lib.hid (ext_trans Hb5.out hb6)
  clear hb6 c0 c1 c2 c3 c4 c5 c6 c7
  have hsz := Hsz.out
  rcases Nat.lt_or_ge 1024 q with hx | hx
  · have hxi : 1024 < Z.size := by omega
    clear hsz
    go_wp2
    go_ret
    exact ⟨ret_bool (by rw [← Hr.out]; have hsz := Hsz.out; rw [Bool.eq_iff_iff]; simp only [Bool.and_eq_true, Bool.true_and, decide_eq_true_eq]; omega), Hb6.out⟩
  have hxi5 : Z.size ≤ 1024 := by omega
  clear hsz
  go_wp2
  go_ret
  exact ⟨ret_bool (by rw [← Hr.out]; have hsz := Hsz.out; rw [Bool.eq_iff_iff]; simp only [Bool.and_eq_true, Bool.true_and, decide_eq_true_eq]; omega), Hb6.out⟩
end Go.Proofs.YtlddmjhpemihgaaDoor

/-
  Contracts of the reference's Class, Seq, Alt, Text. No statement of the seat is proved here.
-/
namespace Go.Proofs.YtlddmjhpemihgaaDoor
open Go Go.RowKit
set_option maxRecDepth 100000
/-- cells that are an expression, which holds no rows -/
theorem reR_leaf {S : Nat → Prop} (w : World) {k : Int} {p0 p1 p2 p3 : Nat} (hk : isInt k) (hs : SetOk [p0, p1, p2, p3]) : ReR S w (.mk k [p0, p1, p2, p3] [] 0 0) [.int .i64 k, .int .u64 (p0 : Int), .int .u64 (p1 : Int), .int .u64 (p2 : Int), .int .u64 (p3 : Int), .slice none 0 0, .int .i64 0, .int .i64 0] := by
  rw [reR_iff]
  exact ⟨⟨hk, hs, by unfold isInt; omega, by unfold isInt; omega⟩, none, 0, rfl, by simp, by simp [maxLen], fun k hk => absurd hk (by simp)⟩
theorem reR_row {S : Nat → Prop} {w : World} {k : Int} {A : Option Addr} {l : List Ex} {c : Nat} (hk : isInt k) (h1 : l.length ≤ c) (h2 : c ≤ maxLen) (h : Kids S w A l) :
    ReR S w (.mk k zeroB l 0 0) [.int .i64 k, .int .u64 0, .int .u64 0, .int .u64 0, .int .u64 0, .slice A l.length c, .int .i64 0, .int .i64 0] := by
  rw [reR_iff]
  exact ⟨⟨hk, zero_ok, by unfold isInt; omega, by unfold isInt; omega⟩, A, c, rfl, h1, h2, h⟩

set_option maxHeartbeats 1000000 in
theorem rclass_any (ws : List Nat) (hs : SetOk ws) (w : World) : Calls Tryd.prog 21 #[setV ws] w fun e w' => ∃ cs, e = .returned (reV cs) ∧ (∀ S W, ReR S W (classE ws) cs) ∧ Below w.heap.size w w' := by
  obtain ⟨p0, p1, p2, p3, rfl⟩ := four_words hs
  have h : ∀ S W, ReR S W (classE [p0, p1, p2, p3]) [.int .i64 1, .int .u64 (p0 : Int), .int .u64 (p1 : Int), .int .u64 (p2 : Int), .int .u64 (p3 : Int), .slice none 0 0, .int .i64 0, .int .i64 0] := fun S W => reR_leaf W (by unfold isInt; omega) hs
  have H := Lib.hid h
  clear h hs
  show Calls Tryd.prog 21 #[.agg #[.int .u64 (p0 : Int), .int .u64 (p1 : Int), .int .u64 (p2 : Int), .int .u64 (p3 : Int)]] w _
  go_enter Tryd.func21, Tryd.ntmps21
  go_wp2
  refine bodyPost_ret (v := .agg #[.int .i64 1, .int .u64 (p0 : Int), .int .u64 (p1 : Int), .int .u64 (p2 : Int), .int .u64 (p3 : Int), .slice none 0 0, .int .i64 0, .int .i64 0]) (by simp [results, Tryd.results21, go_sem]) rfl ⟨_, rfl, H.out, ext2 w _ _⟩

set_option maxHeartbeats 1000000 in
theorem rseq_any (S : Nat → Prop) (A : Option Addr) (n c : Nat) (l : List Ex) (w : World) (hn : n = l.length) (h1 : l.length ≤ c) (h2 : c ≤ maxLen) (h : Kids S w A l) :
    Calls Tryd.prog 23 #[.slice A n c] w fun e w' => ∃ cs, e = .returned (reV cs) ∧ ReR S w' (seqE l) cs ∧ Below w.heap.size w w' := by
  subst hn
  have h3 := h2
  unfold maxLen at h3
  match l, h1, h with
  | [], h1, h =>
    have hw : ∀ W, ReR S W (seqE []) [.int .i64 0, .int .u64 0, .int .u64 0, .int .u64 0, .int .u64 0, .slice none 0 0, .int .i64 0, .int .i64 0] := fun W => reR_leaf W (by unfold isInt; omega) zero_ok
    have H := Lib.hid hw
    clear hw h
    go_enter Tryd.func23, Tryd.ntmps23
    go_wp2
    refine bodyPost_ret (v := .agg #[.int .i64 0, .int .u64 0, .int .u64 0, .int .u64 0, .int .u64 0, .slice none 0 0, .int .i64 0, .int .i64 0]) (by simp [results, Tryd.results23, go_sem]) rfl ⟨_, rfl, H.out _, (Below.refl _ _).alloc (Nat.le_refl _) _⟩
  | [x], h1, h =>
    obtain ⟨g, o, k', q0, q1, q2, q3, ks', A', c', lo', hi', rfl, hx, hr, x0, x1, x2, x3, x4, x5, x6, x7, -⟩ := h.kidX (k := 0) (by simp)
    rw [Nat.zero_mul, Nat.add_zero] at x0 x1 x2 x3 x4 x5 x6 x7
    have hr' : ReR S w (seqE [x]) _ := hr
    have H := Lib.hid hr'
    have hba : Below w.heap.size w (w.alloc (Obj.cells #[.int .i64 0, .int .u64 0, .int .u64 0, .int .u64 0, .int .u64 0, .slice none 0 0, .int .i64 0, .int .i64 0] 27)) := (Below.refl _ _).alloc (Nat.le_refl _) _
    have f := fun (ad : Addr) (v : Value) (h : w.cell? ad = some v) => (World.cell?_of_block (a := ad) (hba.block _ (World.block_lt_of_cell? w ad h))).trans h
    have y0 := f _ _ x0
    have y1 := f _ _ x1
    have y2 := f _ _ x2
    have y3 := f _ _ x3
    have y4 := f _ _ x4
    have y5 := f _ _ x5
    have y6 := f _ _ x6
    have y7 := f _ _ x7
    clear hx hr hr' h f hba x0 x1 x2 x3 x4 x5 x6 x7
    go_enter Tryd.func23, Tryd.ntmps23
    go_wp2
    refine bodyPost_ret (v := .agg #[.int .i64 k', .int .u64 (q0 : Int), .int .u64 (q1 : Int), .int .u64 (q2 : Int), .int .u64 (q3 : Int), .slice A' ks'.length c', .int .i64 lo', .int .i64 hi']) (by simp [results, Tryd.results23, go_sem]) rfl ⟨_, rfl, H.out.ext ((Below.refl _ _).alloc (Nat.le_refl _) _), (Below.refl _ _).alloc (Nat.le_refl _) _⟩
  | x :: y :: r, h1, h =>
    have hw : ∀ W, Below w.heap.size w W → ReR S W (seqE (x :: y :: r)) [.int .i64 2, .int .u64 0, .int .u64 0, .int .u64 0, .int .u64 0, .slice A (x :: y :: r).length c, .int .i64 0, .int .i64 0] := fun W hW => reR_row (by unfold isInt; omega) h1 h2 (h.ext hW)
    have H := Lib.hid hw
    have hl : (x :: y :: r).length = r.length + 2 := rfl
    rw [hl] at h1 ⊢ H
    have b0 : ((r.length + 2 : Nat) : Int) = (r.length : Int) + 2 := by omega
    have b1 : (((r.length + 2 : Nat) : Int) == 0) = false := by rw [beq_eq_false_iff_ne]; omega
    have b2 : (((r.length + 2 : Nat) : Int) == 1) = false := by rw [beq_eq_false_iff_ne]; omega
    generalize r.length + 2 = q at b0 b1 b2 h1 H ⊢
    clear hw h hl b0
    go_enter Tryd.func23, Tryd.ntmps23
    go_wp2
    refine bodyPost_ret (v := .agg #[.int .i64 2, .int .u64 0, .int .u64 0, .int .u64 0, .int .u64 0, .slice A q c, .int .i64 0, .int .i64 0]) (by simp [results, Tryd.results23, go_sem]) rfl ⟨_, rfl, H.out _ ((Below.refl _ _).alloc (Nat.le_refl _) _), (Below.refl _ _).alloc (Nat.le_refl _) _⟩

/-- the bytes of a string, as numbers -/
def natsOf (s : ByteArray) : List Nat := s.data.toList.map (·.toNat)
theorem natsOf_len (s : ByteArray) : (natsOf s).length = s.size := by unfold natsOf; rw [List.length_map, Array.length_toList]; rfl
theorem natsOf_at (s : ByteArray) (k : Nat) (h : k < s.size) : (natsOf s)[k]'(by rw [natsOf_len]; exact h) = (s[k]'h).toNat := by
  simp only [natsOf, List.getElem_map]
  rfl
theorem eight_cells {α : Type} {l : List α} (h : l.length = 8) : ∃ a b c d e f g i, l = [a, b, c, d, e, f, g, i] := by
  match l, h with
  | [a, b, c, d, e, f, g, i], _ => exact ⟨a, b, c, d, e, f, g, i, rfl⟩

set_option maxHeartbeats 2000000 in
theorem rtextx_any (s : ByteArray) (w : World) (hs : s.size ≤ 1000000) :
    Calls Tryd.prog 14 #[.string s] w fun e w' => ∃ cs, e = .returned (reV cs) ∧ ReR (fun g => w.heap.size ≤ g) w' (textX (natsOf s)) cs ∧ Below w.heap.size w w' := by
  have hsi : (s.size : Int) ≤ 1000000 := by omega
  have hln := natsOf_len s
  go_enter Tryd.func14, Tryd.ntmps14
  go_wp2
  go_loopw [3, 4] (fun v i wr => ∃ (k : Nat) (A : Option Addr) (c : Nat), k ≤ s.size ∧ i = .int .i64 (k : Int) ∧ v = .slice A k c ∧ Hid (RowE (fun g => w.heap.size < g) wr A k c (((natsOf s).take k).map byteE)) ∧ Hid (∀ g, inA A g → w.heap.size < g) ∧ Blk wr w.heap.size 27 #[.int .i64 0, .int .u64 0, .int .u64 0, .int .u64 0, .int .u64 0, .slice none 0 0, .int .i64 0, .int .i64 0] ∧ Below w.heap.size w wr) (fun _ i _ => s.size - (intOf i).toNat)
  case atStart => exact ⟨0, none, 0, Nat.zero_le _, rfl, rfl, Lib.hid (RowE.none_ _ _), Lib.hid (fun g hg => absurd hg (inA_none g)), Blk.new _ _ _, (Below.refl _ _).alloc (Nat.le_refl _) _⟩
  case round =>
    obtain ⟨k, A, c, hk, rfl, rfl, hrow, hA, hB, hb⟩ := hrel
    by_cases hlt : k < s.size
    · have hki : (k : Int) < (s.size : Int) := by omega
      have hkl : k < (natsOf s).length := by omega
      have hbk := natsOf_at s k hlt
      have hb256 : (s[k]'hlt).toNat < 256 := (s[k]'hlt).toNat_lt
      have htk : ((natsOf s).take (k + 1)).map byteE = ((natsOf s).take k).map byteE ++ [byteE (s[k]'hlt).toNat] := by
        rw [List.take_succ_eq_append_getElem hkl, List.map_append, hbk]; rfl
      have Htk := Lib.hid htk
      have HB := Lib.hid hB
      have hm1 : k + 1 ≤ maxLen := by unfold maxLen; omega
      have hm2 : (k + 1) * 80 ≤ 140737488355328 := by omega
      obtain ⟨b, hbe⟩ : ∃ b, (s[k]'hlt).toNat = b := ⟨_, rfl⟩
      rw [hbe] at hb256 Htk
      have hbi : ((s[k]'hlt).toNat : Int) = (b : Int) := by rw [hbe]
      have hOf : Calls Tryd.prog 22 #[.slice (some ⟨wr.heap.size, 0, none⟩) 1 1] (wr.alloc (Obj.cells #[.int .u8 (b : Int)] 5)) fun e w' => e = .returned (setV (ofB [b])) ∧ Below (wr.alloc (Obj.cells #[.int .u8 (b : Int)] 5)).heap.size (wr.alloc (Obj.cells #[.int .u8 (b : Int)] 5)) w' :=
        rof_any _ 1 1 [b] _ rfl (by simpa using hb256) (by simp) (Rd.lit wr #[.int .u8 (b : Int)] 5)
      have hCl := fun W => rclass_any (ofB [b]) (ofB_ok _) W
      have HOf := Lib.hid hOf
      have HCl := Lib.hid hCl
      have Hm1 := Lib.hid hm1
      have Hm2 := Lib.hid hm2
      have hba : Below wr.heap.size wr (wr.alloc (Obj.cells #[.int .u8 (b : Int)] 5)) := (Below.refl _ _).alloc (Nat.le_refl _) _
      have Hba := Lib.hid hba
      clear hOf hCl hm1 hm2 htk hbk hbe hkl hB hba
      go_wp2_with fail
      refine HOf.out.mono ?_
      rintro e w2 ⟨rfl, hb2⟩
      go_wp2_with fail
      refine (HCl.out _).mono ?_
      rintro e w3 ⟨cs, rfl, hcs, hb3⟩
      have h8 := (hcs (fun _ => True) w3).size
      obtain ⟨u0, u1, u2, u3, u4, u5, u6, u7, rfl⟩ := eight_cells h8
      have Hcs := Lib.hid hcs
      have hb13 := ext_trans (ext_trans Hba.out hb2) hb3
      have hrow3 := hrow.out.ext hb13
      obtain ⟨xs, hxs, hxl, hxp⟩ := hrow3.ext ((Below.refl w3.heap.size w3).alloc (Nat.le_refl _) (Obj.cells #[u0, u1, u2, u3, u4, u5, u6, u7] 27))
      have Hxs := Lib.hid hxs
      have Hxp := Lib.hid hxp
      have Hxl := Lib.hid hxl
      have H13 := Lib.hid hb13
      clear hcs h8 hrow3 hxs hxp hxl hb13 hb2 hb3
      unfold reV
      go_wp2_with (refine wpList_appO _ rfl (.tmp 11) (.tmp 18) _ rfl _ _ 8 80 Tryd.underlying25 info_re rfl A k c xs rfl Hxs.out (some ⟨w3.heap.size, 0, none⟩) 1 1 [u0, u1, u2, u3, u4, u5, u6, u7] rfl rfl (Rd.lit w3 #[u0, u1, u2, u3, u4, u5, u6, u7] 27) (Hcs.out (fun _ => True) w3).one (by intro h; cases h) Hm1.out Hm2.out ?_; intro A' c' w4 hrow4 honly hA')
      have hN := RowE.grow (x := byteE b) (Hcs.out _ _) Hxs.out Hxl.out Hxp.out hrow4 honly hA'
      have hb4 : Below w.heap.size w w4 := (ext_trans hb H13.out |>.alloc (by have := (ext_trans hb H13.out).size; omega) _).trans (honly.below (fun g hg => Nat.le_of_lt (hA.out g hg)) (by have := (ext_trans hb H13.out).size; simp; omega))
      have HN := Lib.hid hN
      have Hb4 := Lib.hid hb4
      have hA4 : ∀ g, inA A' g → w.heap.size < g := fun g hg => (hA' g hg).elim (hA.out g) (fun h => by have := HB.out.lt; have := H13.out.size; have := h.1; simp at this; omega)
      have hB4 := ((HB.out.ext H13.out).alloc (Obj.cells #[u0, u1, u2, u3, u4, u5, u6, u7] 27)).only honly (fun h => Nat.lt_irrefl _ (hA.out _ h))
      have HA4 := Lib.hid hA4
      have HB4 := Lib.hid hB4
      clear hN hb4 hA4 hB4 hrow4 honly hA'
      go_wp2
      go_roundw
      case rel => exact ⟨k + 1, A', c', by omega, by go_num, rfl, Lib.hid (by rw [Htk.out]; exact HN.out), HA4, HB4.out, Hb4.out⟩
      case measure => simp [intOf]; omega
    · obtain rfl : k = s.size := by omega
      have hrow' := hrow.out
      rw [List.take_of_length_le (by omega)] at hrow'
      have hl := hrow'.len
      have hS := fun W (hW : Below wr.heap.size wr W) => rseq_any (fun g => w.heap.size < g) A s.size c ((natsOf s).map byteE) W (by simp [hln]) (by rw [hl]; exact hrow'.le) hrow'.cap ((hrow'.ext hW).kids fun g hg hl => hg.elim id (fun h => hA.out g h))
      have HS := Lib.hid hS
      have HB := Lib.hid hB
      clear hS hl hrow' hB
      go_wp2_with fail
      refine (HS.out _ (Below.refl _ _)).mono ?_
      rintro e w2 ⟨cs, rfl, hcs, hb2⟩
      have h8 := hcs.size
      obtain ⟨k', q0, q1, q2, q3, ks', A', c', lo', hi', hte, rfl, -⟩ := hcs.fields
      have Hcs := Lib.hid hcs
      have HB2 := HB.out.ext hb2
      have hone : (#[.int .i64 k', .int .u64 (q0 : Int), .int .u64 (q1 : Int), .int .u64 (q2 : Int), .int .u64 (q3 : Int), .slice A' ks'.length c', .int .i64 lo', .int .i64 hi'] : Array Value).all (·.oneCell') = true := by simp [Value.oneCell']
      clear hcs h8 hte
      unfold reV
      go_wp2_with (refine wpList_store_re rfl _ _ rfl w.heap.size rfl rfl rfl rfl hone HB2 ?_; intro w3 hB3 ho3)
      refine bodyPost_ret (results_re rfl _ _ w.heap.size _ _ rfl hB3 rfl) rfl ⟨_, rfl, ?_, ?_⟩
      · exact ReR.mono (Hcs.out.only ho3 fun g hg h => by omega) fun g hg _ => Nat.le_of_lt hg
      · exact (ext_trans hb hb2).trans (ho3.below (fun i hi => by omega) (by have := (ext_trans hb hb2).size; omega))
end Go.Proofs.YtlddmjhpemihgaaDoor

/-
  Words and mathematics shared by the two parsers. No statement of the seat is proved here.
-/
namespace Go.Proofs.YtlddmjhpemihgaaDoor
open Go Go.RowKit
set_option maxRecDepth 100000
theorem take_list {α : Type} {l r : List α} {i : Nat} {x : α} (h : l.drop i = x :: r) : (l.toArray)[i]? = some x := by
  have := congrArg List.head? h
  rw [List.head?_drop] at this
  simpa using this
theorem reR_arr {S : Nat → Prop} {w : World} {x : Ex} {cs : List Value} (h : ReR S w x cs) : cs.toArray.size = 8 ∧ cs.toArray.all (·.oneCell') = true :=
  ⟨by simp [h.size], by rw [List.all_toArray, List.all_eq_true]; exact h.one⟩
theorem arr_eight {cs : Array Value} (h : cs.size = 8) : ∃ u0 u1 u2 u3 u4 u5 u6 u7, cs = #[u0, u1, u2, u3, u4, u5, u6, u7] := by
  obtain ⟨a, b, c, d, e, f, g, i, h2⟩ := eight_cells (l := cs.toList) (by simpa using h)
  exact ⟨a, b, c, d, e, f, g, i, by rw [← h2]⟩
end Go.Proofs.YtlddmjhpemihgaaDoor

/-
  Words for a row of bytes that calls append onto; contract of the program's appendByte. No statement of the seat is proved here.
-/
namespace Go.Proofs.YtlddmjhpemihgaaDoor
open Go Go.RowKit
set_option maxRecDepth 100000
/-- from row 'A' of world 'w' on, by appends alone, to the row 'zs' of world 'w'' -/
structure AppT (w : World) (A : Option Addr) (w' : World) (A' : Option Addr) (m c' : Nat) (zs : List Value) : Prop where
  row : RowO w' 5 1 A' m c' zs
  only : Only (inA A) w w'
  new : ∀ k, inA A' k → inA A k ∨ (w.heap.size ≤ k ∧ k < w'.heap.size)
section
variable {w w1 w2 w3 : World} {A A1 A2 : Option Addr} {n m m2 c c1 c2 : Nat} {xs zs ys : List Value}
theorem AppT.refl (h : RowO w 5 1 A n c xs) : AppT w A w A n c xs := ⟨h, Only.refl _ _, fun _ hk => .inl hk⟩
theorem AppT.ext (h : AppT w A w1 A1 m c1 zs) (hb : Below w1.heap.size w1 w2) : AppT w A w2 A1 m c1 zs :=
  ⟨h.row.ext hb, h.only.trans (Only.of_ext (S := inA A) hb) (fun _ _ h => h), fun k hk => (h.new k hk).imp id fun ⟨a, b⟩ => ⟨a, Nat.lt_of_lt_of_le b hb.size⟩⟩
theorem AppT.trans (h : AppT w A w1 A1 m c1 zs) (k : AppT w1 A1 w2 A2 m2 c2 ys) : AppT w A w2 A2 m2 c2 ys := by
  have hs := h.only.size
  refine ⟨k.row, h.only.trans k.only (fun i hi hk => ?_), fun i hi => ?_⟩
  · rcases h.new i hk with h1 | h1
    · exact h1
    · omega
  · rcases k.new i hi with h1 | h1
    · rcases h.new i h1 with h2 | h2
      · exact .inl h2
      · exact .inr ⟨h2.1, Nat.lt_of_lt_of_le h2.2 k.only.size⟩
    · exact .inr ⟨by omega, h1.2⟩
theorem AppT.from_ (hb : Below w.heap.size w w1) (h : AppT w1 A w2 A2 m2 c2 ys) (hA : ∀ k, inA A k → k < w.heap.size) : AppT w A w2 A2 m2 c2 ys := by
  have hs := hb.size
  refine ⟨h.row, (Only.of_ext (S := inA A) hb).trans h.only (fun _ _ h => h), fun i hi => ?_⟩
  rcases h.new i hi with h1 | h1
  · exact .inl h1
  · exact .inr ⟨by omega, h1.2⟩
/-- an append, behind what was made -/
theorem AppT.step (h : AppT w A w1 A1 m c1 zs) (hb : Below w1.heap.size w1 w2) (hr : RowO w3 5 1 A2 m2 c2 ys) (ho : Only (inA A1) w2 w3) (hA : ∀ k, inA A2 k → inA A1 k ∨ (w2.heap.size ≤ k ∧ k < w3.heap.size)) : AppT w A w3 A2 m2 c2 ys :=
  (h.ext hb).trans ⟨hr, ho, hA⟩
theorem AppT.cast (h : AppT w A w1 A1 m c1 zs) (e : m = m2) (e2 : zs = ys) : AppT w A w1 A1 m2 c1 ys := by subst e e2; exact h
end
/-- these bytes were appended -/
def Appd (w : World) (A : Option Addr) (n : Nat) (xs : List Value) (T : List Nat) (e : Ending) (w' : World) : Prop :=
  ∃ A' c', e = .returned (.slice A' (n + T.length) c') ∧ AppT w A w' A' (n + T.length) c' (xs ++ T.map nb)
theorem Appd.mk_ {w w' : World} {A A' : Option Addr} {n m c' : Nat} {xs zs : List Value} {T : List Nat} (h : AppT w A w' A' m c' zs) (e : m = n + T.length) (e2 : zs = xs ++ T.map nb) : Appd w A n xs T (.returned (.slice A' m c')) w' := by
  subst e e2; exact ⟨A', c', rfl, h⟩

def hexS : ByteArray := ⟨#[48, 49, 50, 51, 52, 53, 54, 55, 56, 57, 97, 98, 99, 100, 101, 102]⟩
theorem hexS_size : hexS.size = 16 := rfl
theorem hexS_at : ∀ a : Fin 16, (hexS[a.val]'(by rw [hexS_size]; exact a.isLt)).toNat = hexD a.val := by decide +kernel

set_option maxHeartbeats 4000000 in
theorem abyte_any (b : Nat) (hb : b < 256) (A : Option Addr) (n c : Nat) (xs : List Value) (w : World) (h : RowO w 5 1 A n c xs) (hn : n ≤ 1000000000000) :
    Calls Tryd.prog 58 #[.slice A n c, .int .u8 (b : Int)] w (Appd w A n xs (signB b)) := by
  have hm1 : n + 4 ≤ maxLen := by unfold maxLen; omega
  have hm2 : (n + 4) * 1 ≤ 140737488355328 := by omega
  have H := Lib.hid h
  have Hm1 : Hid (n + 1 ≤ maxLen) := Lib.hid (by omega)
  have Hm4 := Lib.hid hm1
  clear h hm1
  by_cases hp : plainB b = true
  · have hs : signB b = [b] := by unfold signB; rw [if_pos hp]
    rw [hs]
    rw [plain_iff] at hp
    have hp' : ((48 : Int) ≤ (b : Int) ∧ (b : Int) ≤ 57) ∨ ((57 : Int) < (b : Int) ∧ (65 : Int) ≤ (b : Int) ∧ (b : Int) ≤ 90) ∨ ((90 : Int) < (b : Int) ∧ (97 : Int) ≤ (b : Int) ∧ (b : Int) ≤ 122) := by omega
    rcases hp' with ⟨q1, q2⟩ | ⟨q0, q1, q2⟩ | ⟨q0, q1, q2⟩
    all_goals
      go_enter Tryd.func58, Tryd.ntmps58
      go_wp2_with (refine wpList_appO _ rfl (.tmp 27) (.tmp 29) _ rfl _ _ 1 1 Tryd.underlying46 info_u8 rfl A n c xs rfl (H.out.alloc _) (some ⟨w.heap.size, 0, none⟩) 1 1 [nb b] rfl rfl (Rd.lit w #[.int .u8 (b : Int)] 5) (by intro u hu; simp at hu; subst hu; rfl) (by intro h; cases h) Hm1.out (by omega) ?_; intro A2 c2 w2 hr2 ho2 hA2)
      go_ret
      exact Appd.mk_ ((AppT.refl H.out).step ((Below.refl _ _).alloc (Nat.le_refl _) _) hr2 ho2 hA2) rfl rfl
  · have hs : signB b = [92, 120, hexD (b / 16), hexD (b % 16)] := by unfold signB; rw [if_neg hp]
    rw [hs]
    rw [plain_iff] at hp
    have hp' : (b : Int) < 48 ∨ ((57 : Int) < (b : Int) ∧ (b : Int) < 65) ∨ ((90 : Int) < (b : Int) ∧ (b : Int) < 97) ∨ (122 : Int) < (b : Int) := by omega
    have hs16 := shr4 b hb
    have h15 : bits BinOp.and IntKind.u8 (b : Int) 15 = ((b % 16 : Nat) : Int) := and15i ⟨b, hb⟩
    have ha16 : b / 16 < 16 := by omega
    have hb16 : b % 16 < 16 := by omega
    have ea := hexS_at ⟨b / 16, ha16⟩
    have eb := hexS_at ⟨b % 16, hb16⟩
    simp only at ea eb
    generalize hq1 : b / 16 = a1 at hs16 ha16 ea ⊢
    generalize hq2 : b % 16 = a2 at h15 hb16 eb ⊢
    generalize hexD a1 = x1 at ea ⊢
    generalize hexD a2 = x2 at eb ⊢
    unfold hexS at ea eb
    have l1 : (a1 : Int) < 16 := by omega
    have l2 : (a2 : Int) < 16 := by omega
    have e1i : (((⟨#[48, 49, 50, 51, 52, 53, 54, 55, 56, 57, 97, 98, 99, 100, 101, 102]⟩ : ByteArray)[a1]'(by show a1 < 16; exact ha16)).toNat : Int) = (x1 : Int) := by rw [ea]
    have e2i : (((⟨#[48, 49, 50, 51, 52, 53, 54, 55, 56, 57, 97, 98, 99, 100, 101, 102]⟩ : ByteArray)[a2]'(by show a2 < 16; exact hb16)).toNat : Int) = (x2 : Int) := by rw [eb]
    have hone : ∀ u ∈ [nb 92, nb 120, nb x1, nb x2], u.oneCell' = true := by intro u hu; simp at hu; rcases hu with rfl | rfl | rfl | rfl <;> rfl
    clear hp hs hq1 hq2 ea eb
    rcases hp' with q1 | ⟨q1, q2⟩ | ⟨q1, q2⟩ | q1
    all_goals
      go_enter Tryd.func58, Tryd.ntmps58
      go_wp2
      go_region_held3 (fun w' => True)
        (first | trivial)
        (first | (refine step_appO _ rfl (.tmp 31) (.tmp 38) _ rfl _ _ 1 1 Tryd.underlying46 info_u8 rfl A n c xs rfl (H.out.ext (by repeat (first | apply ext_alloc | apply ext_drew | exact Below.refl _ _))) (some ⟨w.heap.size, 0, none⟩) 4 4 [nb 92, nb 120, nb x1, nb x2] rfl rfl (Rd.lit_at _ _ _ rfl) hone (by intro h; cases h) Hm4.out (by omega) ?_; intro A2 c2 w2 hr2 ho2 hA2))
      all_goals
        go_wp2
        go_ret
        exact Appd.mk_ ((AppT.refl H.out).step (by repeat (first | apply ext_alloc | apply ext_drew | exact Below.refl _ _)) hr2 ho2 hA2) rfl rfl

end Go.Proofs.YtlddmjhpemihgaaDoor

/-
  Contract of strconv.AppendInt, for small numbers. No statement of the seat is proved here.
-/
namespace Go.Proofs.YtlddmjhpemihgaaDoor
open Go Go.RowKit
set_option maxRecDepth 100000
section
variable {P : Program} (w : World)
/-- append of a string's bytes -/
theorem run_appS (t tx ty e : TypeId) (z : Value) (bytes : Nat) (ht : P.underlying t = some (.slice e)) (htx : P.underlying tx = some .string) (hi : (P.info? e).map (fun i => (i.zero, i.size, i.bytes)) = some (some z, 1, bytes)) (hzs : z.cells.size = 1)
    (A : Option Addr) (n c : Nat) (xs : List Value) (hown : RowO w e 1 A n c xs) (s : ByteArray) (h0 : 0 < s.size)
    (h63 : n + s.size ≤ maxLen) (hbytes : (n + s.size) * bytes ≤ 140737488355328) :
    ∃ A' c' w', (Builtin.append_ #[t, tx] ty #[.slice A n c, .string s]).run P w = .ok (.slice A' (n + s.size) c') w' ∧ RowO w' e 1 A' (n + s.size) c' (xs ++ byteCells s) ∧ Only (inA A) w w' ∧ (∀ k, inA A' k → inA A k ∨ (w.heap.size ≤ k ∧ k < w'.heap.size)) := by
  obtain ⟨i, hinf, hz, hsz, hby⟩ := info_parts hi
  clear hi
  have src0 := Src.ofString (P := P) w htx s
  have hm : (byteCells s).length = s.size * 1 := by rw [byteCells_length]; omega
  rw [← hsz] at hm
  have hzs' : z.cells.size = i.size := by rw [hsz]; exact hzs
  have hown' : RowO w e i.size A n c xs := by rw [hsz]; exact hown
  have src : Src P i.size tx (.string s) s.size (byteCells s) w := by rw [hsz]; exact src0
  subst hby
  suffices H : ∃ A' c' w', (Builtin.append_ #[t, tx] ty #[.slice A n c, .string s]).run P w = .ok (.slice A' (n + s.size) c') w' ∧ RowO w' e i.size A' (n + s.size) c' (xs ++ byteCells s) ∧ Only (inA A) w w' ∧ (∀ k, inA A' k → inA A k ∨ (w.heap.size ≤ k ∧ k < w'.heap.size)) by
    rw [hsz] at H; exact H
  clear hzs hown src0
  have hsmall : n + s.size ≤ 9223372036854775807 := by simp only [maxLen] at h63; omega
  have hlen : (xs ++ byteCells s).length = (n + s.size) * i.size := by rw [List.length_append, hown'.1, hm, Nat.add_mul]
  by_cases hroom : n + s.size ≤ c
  · rcases hown'.2 with ⟨rfl, rfl, rfl⟩ | ⟨g, off, cs, rfl, hnc, hcm, hb, hsize, hcell⟩
    · omega
    · have hfit : off + n * i.size + (byteCells s).length ≤ cs.size := by
        have h2 : (n + s.size) * i.size ≤ c * i.size := Nat.mul_le_mul_right _ hroom
        rw [Nat.add_mul] at h2
        omega
      have hcs : ∀ j, j < (byteCells s).length → (w.cell? ⟨g, off + n * i.size + j, none⟩).isSome = true := fun j hj => by
        rw [hb.cell]; simp; omega
      have hfr : ∀ j, j < (byteCells s).length → w.frozen? ⟨g, off + n * i.size + j, none⟩ = false := fun j _ => hb.free _
      have hrun := run_append_room_src (P := P) w t tx ty e i ht hinf g off n c (.string s) s.size (byteCells s) src hroom hcs hfr
      obtain ⟨cs', hb', hs', hin, hout⟩ := Blk.setCells (byteCells s) (off + n * i.size) hb hfit
      refine ⟨_, _, _, hrun, ⟨hlen, .inr ⟨g, off, cs', rfl, hroom, hcm, hb', by omega, fun j u hu => ?_⟩⟩, (Only.refl _ w).setCells (.inl ((inA_some _ _ _ _).2 rfl)) _ _, fun k hk => .inl hk⟩
      rw [List.getElem?_append] at hu
      split at hu
      · rename_i hj
        rw [hown'.1] at hj
        rw [hout (off + j) (.inl (by omega))]
        exact hcell j u hu
      · rename_i hj
        have := hin _ u hu
        rw [hown'.1] at hj this
        rwa [show off + n * i.size + (j - n * i.size) = off + j by omega] at this
  · have hold : (Builtin.firstCells i.size n (.slice A n c)).run P w.drew = .ok xs.toArray w.drew := by
      rcases hown'.2 with ⟨rfl, rfl, rfl⟩ | ⟨g, off, cs, rfl, hnc, hcm, hb, hsize, hcell⟩
      · have hnil : xs = [] := List.eq_nil_of_length_eq_zero (by simpa using hown'.1)
        subst hnil
        exact run_firstCells_none w.drew i.size 0 0 0
      · refine run_firstCells_some w.drew i.size n ⟨g, off, none⟩ n c xs hown'.1 (fun j u hu => ?_)
        rw [Addr.add_mid, (Blk.drew hb).cell]
        exact hcell j u hu
    have hrun := run_append_grow_src (P := P) w t tx ty e i z ht hinf hz A n c xs hold (.string s) s.size (byteCells s) src (by omega) (by omega) (growslice_fits (by omega) hbytes)
    have hge := grownCap_ge w (n + s.size) c e
    have hcm : grownCap w (n + s.size) c e ≤ maxLen := grownCap_le_maxLen w (n + s.size) c e h63
    refine ⟨_, _, _, hrun, ⟨hlen, .inr ⟨w.heap.size, 0, _, rfl, hge, hcm, heap_alloc_new w.drew _, ?_, fun j u hu => ?_⟩⟩, ((Only.refl _ w).drew).alloc _, fun k hk => .inr ?_⟩
    · simp only [Array.size_append, List.size_toArray, size_zeroCells, hzs', hlen, ← Nat.add_mul]
      rw [Nat.zero_add]
      exact Nat.le_of_eq (congrArg (· * i.size) (by omega))
    · have hj := (List.getElem?_eq_some_iff.1 hu).1
      rw [Nat.zero_add, Array.getElem?_append_left (by simpa using hj)]
      simpa using hu
    · rw [inA_some] at hk
      subst hk
      simp
theorem wpList_appS {ops : Array Oper} {rest : List Oper} {o : Oper} {a : Act} {Q : Exit → Act → World → Prop} (hgd : o.guard = none) (s x : Operand) (t tx : TypeId)
    (ho : o.op = .call { callee := .builtin .append, args := #[s, x], argTypes := #[t, tx] })
    (e : TypeId) (z : Value) (bytes : Nat) (ht : P.underlying t = some (.slice e)) (htx : P.underlying tx = some .string) (hi : (P.info? e).map (fun i => (i.zero, i.size, i.bytes)) = some (some z, 1, bytes)) (hzs : z.cells.size = 1)
    (A : Option Addr) (n c : Nat) (xs : List Value) (hs : a.eval s = .slice A n c) (hown : RowO w e 1 A n c xs)
    (Z : ByteArray) (hx : a.eval x = .string Z) (h0 : 0 < Z.size)
    (h63 : n + Z.size ≤ maxLen) (hbytes : (n + Z.size) * bytes ≤ 140737488355328)
    (h : ∀ A' c' w', RowO w' e 1 A' (n + Z.size) c' (xs ++ byteCells Z) → Only (inA A) w w' → (∀ k, inA A' k → inA A k ∨ (w.heap.size ≤ k ∧ k < w'.heap.size)) → wpList P ops Q rest (a.put o.dst (.slice A' (n + Z.size) c')) w') : wpList P ops Q (o :: rest) a w :=
  wpList_plain hgd fun K hK => by
    obtain ⟨A', c', w', hrun, h2, h3, h4⟩ := run_appS (P := P) w t tx o.type e z bytes ht htx hi hzs A n c xs hown Z h0 h63 hbytes
    unfold Oper.wp execOp
    simp only [ho, resolve, invoke, builtin, Sem.run_bind, Sem.run_pure, Result.andThen_ok, List.map_toArray, List.map_cons, List.map_nil, hs, hx, hrun]
    exact hK _ _ (h A' c' w' h2 h3 h4)
end
theorem byteCells_bsN {l : List Nat} (h : ∀ b ∈ l, b < 256) : byteCells (bsN l) = l.map nb := by
  unfold byteCells bsN
  simp only [List.map_map]
  refine List.map_congr_left fun b hb => ?_
  have := h b hb
  simp only [Function.comp, nb, Nat.toUInt8, UInt8.toNat_ofNat', Value.int.injEq, true_and]
  congr 1
  omega

theorem small_any (n : Nat) (hn : n ≤ 32) (w : World) : Calls Tryd.prog 65 #[.int .i64 (n : Int)] w fun e w' => e = .returned (.string (bsN (twoB n))) ∧ w' = w := by
  have h : n = 0 ∨ n = 1 ∨ n = 2 ∨ n = 3 ∨ n = 4 ∨ n = 5 ∨ n = 6 ∨ n = 7 ∨ n = 8 ∨ n = 9 ∨ n = 10 ∨ n = 11 ∨ n = 12 ∨ n = 13 ∨ n = 14 ∨ n = 15 ∨ n = 16 ∨ n = 17 ∨ n = 18 ∨ n = 19 ∨ n = 20 ∨ n = 21 ∨ n = 22 ∨ n = 23 ∨ n = 24 ∨ n = 25 ∨ n = 26 ∨ n = 27 ∨ n = 28 ∨ n = 29 ∨ n = 30 ∨ n = 31 ∨ n = 32 := by omega
  rcases h with rfl | rfl | rfl | rfl | rfl | rfl | rfl | rfl | rfl | rfl | rfl | rfl | rfl | rfl | rfl | rfl | rfl | rfl | rfl | rfl | rfl | rfl | rfl | rfl | rfl | rfl | rfl | rfl | rfl | rfl | rfl | rfl | rfl
  all_goals
    go_enter Tryd.func65, Tryd.ntmps65
    go_wp2
    go_ret
    exact ⟨rfl, rfl⟩
theorem twoB_pos (n : Nat) : 0 < (twoB n).length := by unfold twoB; split <;> simp
theorem twoB_lt {n : Nat} (h : n < 100) : ∀ b ∈ twoB n, b < 256 := by
  unfold twoB
  split <;> (intro b hb; simp at hb; omega)

set_option maxHeartbeats 1000000 in
theorem auint_any (v : Nat) (hv : v ≤ 32) (A : Option Addr) (n c : Nat) (xs : List Value) (w : World) (h : RowO w 5 1 A n c xs) (hn : n ≤ 1000000000000) :
    Calls Tryd.prog 64 #[.slice A n c, .int .u64 (v : Int), .int .i64 10] w (Appd w A n xs (twoB v)) := by
  have hvi : (v : Int) ≤ 32 := by omega
  have hvi2 : (v : Int) < 100 := by omega
  have Hs := Lib.hid fun W => small_any v hv W
  have hz0 : 0 < (bsN (twoB v)).size := by rw [bsN_size]; exact twoB_pos v
  have hz1 : (bsN (twoB v)).size ≤ 2 := by rw [bsN_size]; exact twoB_len v
  have hcb := byteCells_bsN (twoB_lt (n := v) (by omega))
  have hsz := bsN_size (twoB v)
  obtain ⟨Z, hZ⟩ : ∃ Z, bsN (twoB v) = Z := ⟨_, rfl⟩
  rw [hZ] at Hs hz0 hz1 hcb hsz
  have Hcb := Lib.hid hcb
  have Hsz := Lib.hid hsz
  have Hz0 := Lib.hid hz0
  have Hm : Hid (n + Z.size ≤ maxLen) := Lib.hid (by unfold maxLen; omega)
  have Hm2 : Hid ((n + Z.size) * 1 ≤ 140737488355328) := Lib.hid (by omega)
  have H := Lib.hid h
  clear h hZ hcb hsz hz0 hz1
  go_enter Tryd.func64, Tryd.ntmps64
  go_wp2_with (first | (go_at_call 65; (with_reducible refine (Hs.out _).mono ?_); rintro e w' ⟨rfl, rfl⟩) | (refine wpList_appS _ rfl (.tmp 13) (.tmp 16) _ _ rfl _ _ 1 Tryd.underlying46 Tryd.underlying9 info_u8 rfl A n c xs rfl H.out Z rfl Hz0.out Hm.out Hm2.out ?_; intro A2 c2 w2 hr2 ho2 hA2))
  go_ret
  exact Appd.mk_ ((AppT.refl H.out).step (Below.refl _ _) hr2 ho2 hA2) (by rw [Hsz.out]) (by rw [Hcb.out])
set_option maxHeartbeats 1000000 in
theorem aint_any (v : Nat) (hv : v ≤ 32) (A : Option Addr) (n c : Nat) (xs : List Value) (w : World) (h : RowO w 5 1 A n c xs) (hn : n ≤ 1000000000000) :
    Calls Tryd.prog 62 #[.slice A n c, .int .i64 (v : Int), .int .i64 10] w (Appd w A n xs (twoB v)) := by
  have hvi : (v : Int) ≤ 32 := by omega
  have hv0 : (0 : Int) ≤ (v : Int) := by omega
  have hw : IntKind.u64.wrap (v : Int) = (v : Int) := by rw [IntKind.wrap_u64]; omega
  have Hu := Lib.hid (auint_any v hv A n c xs w h hn)
  go_enter Tryd.func62, Tryd.ntmps62
  go_wp2_with fail
  refine Hu.out.mono ?_
  rintro e w2 ⟨A2, c2, rfl, hT⟩
  have HT := Lib.hid hT
  clear hT
  go_wp2
  go_ret
  exact ⟨A2, c2, rfl, HT.out⟩
set_option maxHeartbeats 1000000 in
theorem anum_any (v : Nat) (hv : v ≤ 32) (A : Option Addr) (n c : Nat) (xs : List Value) (w : World) (h : RowO w 5 1 A n c xs) (hn : n ≤ 1000000000000) :
    Calls Tryd.prog 59 #[.slice A n c, .int .i64 (v : Int), .int .i64 10] w (Appd w A n xs (twoB v)) := by
  have Hu := Lib.hid (aint_any v hv A n c xs w h hn)
  go_enter Tryd.func59, Tryd.ntmps59
  go_wp2_with fail
  refine Hu.out.mono ?_
  rintro e w2 ⟨A2, c2, rfl, hT⟩
  have HT := Lib.hid hT
  clear hT
  go_wp2
  go_ret
  exact ⟨A2, c2, rfl, HT.out⟩
end Go.Proofs.YtlddmjhpemihgaaDoor

/-
  Contract of the program's appendTimes. No statement of the seat is proved here.
-/
namespace Go.Proofs.YtlddmjhpemihgaaDoor
open Go Go.RowKit
set_option maxRecDepth 100000
set_option maxHeartbeats 4000000 in
theorem atimes_any (lo hi : Int) (hrep : repB lo hi = true) (A : Option Addr) (n c : Nat) (xs : List Value) (w : World) (h : RowO w 5 1 A n c xs) (hn : n ≤ 100000000000) :
    Calls Tryd.prog 52 #[.slice A n c, .int .i64 lo, .int .i64 hi] w (Appd w A n xs (timesT lo hi)) := by
  rw [rep_iff] at hrep
  obtain ⟨l, rfl⟩ : ∃ l : Nat, lo = (l : Int) := ⟨lo.toNat, by omega⟩
  obtain ⟨h1, h2, h3⟩ := hrep
  have T0 := AppT.refl h
  have hl32 : l ≤ 32 := by omega
  obtain ⟨T, hT⟩ : ∃ T, timesT (l : Int) hi = T := ⟨_, rfl⟩
  rw [hT]
  unfold timesT at hT
  have hc : (l = 0 ∧ hi = -1) ∨ (l = 1 ∧ hi = -1) ∨ (l = 0 ∧ hi = 1) ∨ (l = 1 ∧ hi = 1) ∨ (2 ≤ l ∧ hi = (l : Int)) ∨ (2 ≤ l ∧ hi = -1) ∨ ∃ m : Nat, hi = (m : Int) ∧ l < m ∧ 2 ≤ m ∧ m ≤ 32 := by
    rcases h3 with h3 | h3
    · omega
    · obtain ⟨m, rfl⟩ : ∃ m : Nat, hi = (m : Int) := ⟨hi.toNat, by omega⟩
      by_cases hm : l < m ∧ 2 ≤ m
      · exact .inr (.inr (.inr (.inr (.inr (.inr ⟨m, rfl, hm.1, hm.2, by omega⟩)))))
      · omega
  clear h h1 h2 h3
  rcases hc with ⟨rfl, rfl⟩ | ⟨rfl, rfl⟩ | ⟨rfl, rfl⟩ | ⟨rfl, rfl⟩ | ⟨hl2, rfl⟩ | ⟨hl2, rfl⟩ | ⟨m, rfl, hlm, hm2, hm32⟩
  · obtain rfl : [42] = T := hT
    go_enter Tryd.func52, Tryd.ntmps52
    go_wp2_with (refine wpList_appO _ rfl (.tmp 14) (.tmp 15) _ rfl _ _ 1 1 Tryd.underlying46 info_u8 rfl A n c xs rfl (T0.row.ext (by repeat (first | exact Below.refl _ _ | apply ext_alloc))) (some ⟨_, 0, none⟩) 1 1 [nb 42] rfl rfl (Rd.lit_at _ _ _ (by first | rfl | simp)) (by intro u hu; simp at hu; subst hu; rfl) (by intro h; cases h) (by unfold maxLen; omega) (by omega) ?_; intro A1 c1 w1 hr1 ho1 hA1; have T1 := T0.step (by repeat (first | exact Below.refl _ _ | apply ext_alloc)) hr1 ho1 hA1; clear hr1 ho1 hA1)
    go_ret
    exact Appd.mk_ T1 rfl rfl
  · obtain rfl : [43] = T := hT
    go_enter Tryd.func52, Tryd.ntmps52
    go_wp2_with (refine wpList_appO _ rfl (.tmp 24) (.tmp 25) _ rfl _ _ 1 1 Tryd.underlying46 info_u8 rfl A n c xs rfl (T0.row.ext (by repeat (first | exact Below.refl _ _ | apply ext_alloc))) (some ⟨_, 0, none⟩) 1 1 [nb 43] rfl rfl (Rd.lit_at _ _ _ (by first | rfl | simp)) (by intro u hu; simp at hu; subst hu; rfl) (by intro h; cases h) (by unfold maxLen; omega) (by omega) ?_; intro A1 c1 w1 hr1 ho1 hA1; have T1 := T0.step (by repeat (first | exact Below.refl _ _ | apply ext_alloc)) hr1 ho1 hA1; clear hr1 ho1 hA1)
    go_ret
    exact Appd.mk_ T1 rfl rfl
  · obtain rfl : [63] = T := hT
    go_enter Tryd.func52, Tryd.ntmps52
    go_wp2_with (refine wpList_appO _ rfl (.tmp 34) (.tmp 35) _ rfl _ _ 1 1 Tryd.underlying46 info_u8 rfl A n c xs rfl (T0.row.ext (by repeat (first | exact Below.refl _ _ | apply ext_alloc))) (some ⟨_, 0, none⟩) 1 1 [nb 63] rfl rfl (Rd.lit_at _ _ _ (by first | rfl | simp)) (by intro u hu; simp at hu; subst hu; rfl) (by intro h; cases h) (by unfold maxLen; omega) (by omega) ?_; intro A1 c1 w1 hr1 ho1 hA1; have T1 := T0.step (by repeat (first | exact Below.refl _ _ | apply ext_alloc)) hr1 ho1 hA1; clear hr1 ho1 hA1)
    go_ret
    exact Appd.mk_ T1 rfl rfl
  · skip
    obtain rfl : 123 :: (twoB 1 ++ [125]) = T := by rw [← hT]; rfl
    clear hT
    go_enter Tryd.func52, Tryd.ntmps52
    go_wp2_with (refine wpList_appO _ rfl (.tmp 37) (.tmp 38) _ rfl _ _ 1 1 Tryd.underlying46 info_u8 rfl A n c xs rfl (T0.row.ext (by repeat (first | exact Below.refl _ _ | apply ext_alloc))) (some ⟨_, 0, none⟩) 1 1 [nb 123] rfl rfl (Rd.lit_at _ _ _ (by first | rfl | simp)) (by intro u hu; simp at hu; subst hu; rfl) (by intro h; cases h) (by unfold maxLen; omega) (by omega) ?_; intro A1 c1 w1 hr1 ho1 hA1; have T1 := T0.step (by repeat (first | exact Below.refl _ _ | apply ext_alloc)) hr1 ho1 hA1; clear hr1 ho1 hA1)
    refine (anum_any 1 (by omega) A1 (n + 1) c1 _ w1 T1.row (by omega)).mono ?_
    rintro e w2 ⟨A2, c2, rfl, hT2⟩
    have T2 := T1.trans hT2
    clear hT2
    have hl0 := twoB_len 1
    obtain ⟨q, hq⟩ : ∃ q, (twoB 1).length = q := ⟨_, rfl⟩
    rw [hq] at T2 hl0 ⊢
    have Hq := Lib.hid hq
    clear hq
    go_wp2_with (refine wpList_appO _ rfl (.tmp 54) (.tmp 55) _ rfl _ _ 1 1 Tryd.underlying46 info_u8 rfl A2 (n + 1 + q) c2 _ rfl (T2.row.ext (by repeat (first | exact Below.refl _ _ | apply ext_alloc))) (some ⟨_, 0, none⟩) 1 1 [nb 125] rfl rfl (Rd.lit_at _ _ _ (by first | rfl | simp)) (by intro u hu; simp at hu; subst hu; rfl) (by intro h; cases h) (by unfold maxLen; omega) (by omega) ?_; intro A3 c3 w3 hr3 ho3 hA3; have T3 := T2.step (by repeat (first | exact Below.refl _ _ | apply ext_alloc)) hr3 ho3 hA3; clear hr3 ho3 hA3)
    go_ret
    exact Appd.mk_ T3 (by simp [Hq.out]; omega) (by simp)
  · have hli : (2 : Int) ≤ (l : Int) := by omega
    have hl0' : ((l : Int) == 0) = false := by rw [beq_eq_false_iff_ne]; omega
    have hl1' : ((l : Int) == 1) = false := by rw [beq_eq_false_iff_ne]; omega
    have hlm1 : ((l : Int) == -1) = false := by rw [beq_eq_false_iff_ne]; omega
    have hlm2 : ((l : Int) != -1) = true := by rw [bne_iff_ne]; omega
    obtain rfl : 123 :: (twoB l ++ [125]) = T := by rw [← hT]; rw [if_neg (by omega), if_neg (by omega), if_neg (by omega), if_pos rfl]; rfl
    clear hT
    go_enter Tryd.func52, Tryd.ntmps52
    go_wp2_with (refine wpList_appO _ rfl (.tmp 37) (.tmp 38) _ rfl _ _ 1 1 Tryd.underlying46 info_u8 rfl A n c xs rfl (T0.row.ext (by repeat (first | exact Below.refl _ _ | apply ext_alloc))) (some ⟨_, 0, none⟩) 1 1 [nb 123] rfl rfl (Rd.lit_at _ _ _ (by first | rfl | simp)) (by intro u hu; simp at hu; subst hu; rfl) (by intro h; cases h) (by unfold maxLen; omega) (by omega) ?_; intro A1 c1 w1 hr1 ho1 hA1; have T1 := T0.step (by repeat (first | exact Below.refl _ _ | apply ext_alloc)) hr1 ho1 hA1; clear hr1 ho1 hA1)
    refine (anum_any l (by omega) A1 (n + 1) c1 _ w1 T1.row (by omega)).mono ?_
    rintro e w2 ⟨A2, c2, rfl, hT2⟩
    have T2 := T1.trans hT2
    clear hT2
    have hl0 := twoB_len l
    obtain ⟨q, hq⟩ : ∃ q, (twoB l).length = q := ⟨_, rfl⟩
    rw [hq] at T2 hl0 ⊢
    have Hq := Lib.hid hq
    clear hq
    go_wp2_with (refine wpList_appO _ rfl (.tmp 54) (.tmp 55) _ rfl _ _ 1 1 Tryd.underlying46 info_u8 rfl A2 (n + 1 + q) c2 _ rfl (T2.row.ext (by repeat (first | exact Below.refl _ _ | apply ext_alloc))) (some ⟨_, 0, none⟩) 1 1 [nb 125] rfl rfl (Rd.lit_at _ _ _ (by first | rfl | simp)) (by intro u hu; simp at hu; subst hu; rfl) (by intro h; cases h) (by unfold maxLen; omega) (by omega) ?_; intro A3 c3 w3 hr3 ho3 hA3; have T3 := T2.step (by repeat (first | exact Below.refl _ _ | apply ext_alloc)) hr3 ho3 hA3; clear hr3 ho3 hA3)
    go_ret
    exact Appd.mk_ T3 (by simp [Hq.out]; omega) (by simp)
  · have hli : (2 : Int) ≤ (l : Int) := by omega
    have hl0' : ((l : Int) == 0) = false := by rw [beq_eq_false_iff_ne]; omega
    have hl1' : ((l : Int) == 1) = false := by rw [beq_eq_false_iff_ne]; omega
    have hlm1 : ((l : Int) == -1) = false := by rw [beq_eq_false_iff_ne]; omega
    have hlm2 : ((l : Int) != -1) = true := by rw [bne_iff_ne]; omega
    obtain rfl : 123 :: (twoB l ++ [44, 125]) = T := by rw [← hT]; rw [if_neg (by omega), if_neg (by omega), if_neg (by omega), if_neg (by omega), if_pos rfl]; rfl
    clear hT
    go_enter Tryd.func52, Tryd.ntmps52
    go_wp2_with (refine wpList_appO _ rfl (.tmp 37) (.tmp 38) _ rfl _ _ 1 1 Tryd.underlying46 info_u8 rfl A n c xs rfl (T0.row.ext (by repeat (first | exact Below.refl _ _ | apply ext_alloc))) (some ⟨_, 0, none⟩) 1 1 [nb 123] rfl rfl (Rd.lit_at _ _ _ (by first | rfl | simp)) (by intro u hu; simp at hu; subst hu; rfl) (by intro h; cases h) (by unfold maxLen; omega) (by omega) ?_; intro A1 c1 w1 hr1 ho1 hA1; have T1 := T0.step (by repeat (first | exact Below.refl _ _ | apply ext_alloc)) hr1 ho1 hA1; clear hr1 ho1 hA1)
    refine (anum_any l (by omega) A1 (n + 1) c1 _ w1 T1.row (by omega)).mono ?_
    rintro e w2 ⟨A2, c2, rfl, hT2⟩
    have T2 := T1.trans hT2
    clear hT2
    have hl0 := twoB_len l
    obtain ⟨q, hq⟩ : ∃ q, (twoB l).length = q := ⟨_, rfl⟩
    rw [hq] at T2 hl0 ⊢
    have Hq := Lib.hid hq
    clear hq
    go_wp2_with (first | (refine wpList_appO _ rfl (.tmp 46) (.tmp 47) _ rfl _ _ 1 1 Tryd.underlying46 info_u8 rfl A2 (n + 1 + q) c2 _ rfl (T2.row.ext (by repeat (first | exact Below.refl _ _ | apply ext_alloc))) (some ⟨_, 0, none⟩) 1 1 [nb 44] rfl rfl (Rd.lit_at _ _ _ (by first | rfl | simp)) (by intro u hu; simp at hu; subst hu; rfl) (by intro h; cases h) (by unfold maxLen; omega) (by omega) ?_; intro A3 c3 w3 hr3 ho3 hA3; have T3 := T2.step (by repeat (first | exact Below.refl _ _ | apply ext_alloc)) hr3 ho3 hA3; clear hr3 ho3 hA3) | (refine wpList_appO _ rfl (.tmp 54) (.tmp 55) _ rfl _ _ 1 1 Tryd.underlying46 info_u8 rfl A3 (n + 1 + q + 1) c3 _ rfl (T3.row.ext (by repeat (first | exact Below.refl _ _ | apply ext_alloc))) (some ⟨_, 0, none⟩) 1 1 [nb 125] rfl rfl (Rd.lit_at _ _ _ (by first | rfl | simp)) (by intro u hu; simp at hu; subst hu; rfl) (by intro h; cases h) (by unfold maxLen; omega) (by omega) ?_; intro A4 c4 w4 hr4 ho4 hA4; have T4 := T3.step (by repeat (first | exact Below.refl _ _ | apply ext_alloc)) hr4 ho4 hA4; clear hr4 ho4 hA4))
    go_ret
    exact Appd.mk_ T4 (by simp [Hq.out]; omega) (by simp)
  · have hli : (l : Int) < (m : Int) := by omega
    have hmi : (2 : Int) ≤ (m : Int) := by omega
    have hm0' : ((m : Int) == -1) = false := by rw [beq_eq_false_iff_ne]; omega
    have hm1' : ((m : Int) == 1) = false := by rw [beq_eq_false_iff_ne]; omega
    have hmn : ((m : Int) != -1) = true := by rw [bne_iff_ne]; omega
    have hlmn : ((l : Int) != (m : Int)) = true := by rw [bne_iff_ne]; omega
    have hl01 : l = 0 ∨ l = 1 ∨ 2 ≤ l := by omega
    obtain rfl : 123 :: (twoB l ++ (44 :: (twoB m ++ [125]))) = T := by rw [← hT]; rw [if_neg (by omega), if_neg (by omega), if_neg (by omega), if_neg (by omega), if_neg (by omega)]; rfl
    clear hT
    have hb0 : ∃ b, ((l : Int) == 0) = b := ⟨_, rfl⟩
    have hb1 : ∃ b, ((l : Int) == 1) = b := ⟨_, rfl⟩
    obtain ⟨b0, hb0⟩ := hb0
    obtain ⟨b1, hb1⟩ := hb1
    clear hl01
    cases b0 <;> cases b1
    all_goals
      go_enter Tryd.func52, Tryd.ntmps52
      go_wp2_with (refine wpList_appO _ rfl (.tmp 37) (.tmp 38) _ rfl _ _ 1 1 Tryd.underlying46 info_u8 rfl A n c xs rfl (T0.row.ext (by repeat (first | exact Below.refl _ _ | apply ext_alloc))) (some ⟨_, 0, none⟩) 1 1 [nb 123] rfl rfl (Rd.lit_at _ _ _ (by first | rfl | simp)) (by intro u hu; simp at hu; subst hu; rfl) (by intro h; cases h) (by unfold maxLen; omega) (by omega) ?_; intro A1 c1 w1 hr1 ho1 hA1; have T1 := T0.step (by repeat (first | exact Below.refl _ _ | apply ext_alloc)) hr1 ho1 hA1; clear hr1 ho1 hA1)
      refine (anum_any l (by omega) A1 (n + 1) c1 _ w1 T1.row (by omega)).mono ?_
      rintro e w2 ⟨A2, c2, rfl, hT2⟩
      have T2 := T1.trans hT2
      clear hT2
      have hl0 := twoB_len l
      obtain ⟨q, hq⟩ : ∃ q, (twoB l).length = q := ⟨_, rfl⟩
      rw [hq] at T2 hl0 ⊢
      have Hq := Lib.hid hq
      clear hq
      go_wp2_with (refine wpList_appO _ rfl (.tmp 46) (.tmp 47) _ rfl _ _ 1 1 Tryd.underlying46 info_u8 rfl A2 (n + 1 + q) c2 _ rfl (T2.row.ext (by repeat (first | exact Below.refl _ _ | apply ext_alloc))) (some ⟨_, 0, none⟩) 1 1 [nb 44] rfl rfl (Rd.lit_at _ _ _ (by first | rfl | simp)) (by intro u hu; simp at hu; subst hu; rfl) (by intro h; cases h) (by unfold maxLen; omega) (by omega) ?_; intro A3 c3 w3 hr3 ho3 hA3; have T3 := T2.step (by repeat (first | exact Below.refl _ _ | apply ext_alloc)) hr3 ho3 hA3; clear hr3 ho3 hA3)
      refine (anum_any m (by omega) A3 (n + 1 + q + 1) c3 _ w3 T3.row (by omega)).mono ?_
      rintro e w4 ⟨A4, c4, rfl, hT4⟩
      have T4 := T3.trans hT4
      clear hT4
      have hl1 := twoB_len m
      obtain ⟨r, hr⟩ : ∃ r, (twoB m).length = r := ⟨_, rfl⟩
      rw [hr] at T4 hl1 ⊢
      have Hr := Lib.hid hr
      clear hr
      go_wp2_with (refine wpList_appO _ rfl (.tmp 54) (.tmp 55) _ rfl _ _ 1 1 Tryd.underlying46 info_u8 rfl A4 (n + 1 + q + 1 + r) c4 _ rfl (T4.row.ext (by repeat (first | exact Below.refl _ _ | apply ext_alloc))) (some ⟨_, 0, none⟩) 1 1 [nb 125] rfl rfl (Rd.lit_at _ _ _ (by first | rfl | simp)) (by intro u hu; simp at hu; subst hu; rfl) (by intro h; cases h) (by unfold maxLen; omega) (by omega) ?_; intro A5 c5 w5 hr5 ho5 hA5; have T5 := T4.step (by repeat (first | exact Below.refl _ _ | apply ext_alloc)) hr5 ho5 hA5; clear hr5 ho5 hA5)
      go_ret
      exact Appd.mk_ T5 (by simp [Hq.out, Hr.out]; omega) (by simp)
end Go.Proofs.YtlddmjhpemihgaaDoor

/-
  Contract of the program's appendSet. No statement of the seat is proved here.
-/
namespace Go.Proofs.YtlddmjhpemihgaaDoor
open Go Go.RowKit
set_option maxRecDepth 100000
theorem rowsB_pair : ∀ (n : Nat) (l : List Nat), l.length = n → ∀ p ∈ rowsB l, p.1 ≤ p.2
  | 0, l, hl, p, hp => by
    rw [List.eq_nil_of_length_eq_zero hl] at hp
    cases hp
  | n + 1, l, hl, p, hp => by
    rcases nil_or_snoc l with rfl | ⟨m, b, rfl⟩
    · cases hl
    · have ih := rowsB_pair n m (by simpa using hl)
      rw [rowsB_snoc] at hp
      rcases nil_or_snoc (rowsB m) with h | ⟨r, ⟨lo, h'⟩, h⟩
      · rw [h, stepR_nil] at hp
        simp at hp; subst hp; exact Nat.le_refl _
      · rw [h] at hp ih
        have hlast := ih (lo, h') (by simp)
        by_cases e : h' + 1 = b
        · rw [stepR_join r lo h' b e] at hp
          rcases List.mem_append.1 hp with hp | hp
          · exact ih p (by simp [hp])
          · simp at hp; subst hp; simp only at hlast ⊢; omega
        · rw [stepR_new r lo h' b e] at hp
          rcases List.mem_append.1 hp with hp | hp
          · exact ih p hp
          · simp at hp; subst hp; exact Nat.le_refl _

/-- behind appends, still a row that was made since 'w0' -/
theorem AppT.new_ {w0 w w' : World} {A A' : Option Addr} {n c m c' : Nat} {xs zs : List Value} (h : NewO w0 w 5 1 A n c xs) (k : AppT w A w' A' m c' zs) : NewO w0 w' 5 1 A' m c' zs := by
  have h1 := h.2.1.size
  refine ⟨k.row, h.2.1.trans (k.only.below (fun i hi => h.2.2 i hi) h1), fun i hi => ?_⟩
  rcases k.new i hi with h2 | h2
  · exact h.2.2 i h2
  · omega

set_option maxHeartbeats 4000000 in
theorem aset_any (ws : List Nat) (hs : SetOk ws) (w0 : World) (ht : Tab w0) (A : Option Addr) (n c : Nat) (xs : List Value) (w : World) (h : NewO w0 w 5 1 A n c xs) (hn : n ≤ 10000000000) :
    Calls Tryd.prog 50 #[.slice A n c, setV ws] w (Appd w A n xs (setT ws)) := by
  obtain ⟨p0, p1, p2, p3, rfl⟩ := four_words hs
  have ht1 := ht.ext h.bel
  have hR : ∀ W, Below w.heap.size w W → Calls Tryd.prog 56 #[.agg #[.int .u64 (p0 : Int), .int .u64 (p1 : Int), .int .u64 (p2 : Int), .int .u64 (p3 : Int)]] W fun e w' => ∃ A' c', e = .returned (.slice A' (rowsB (listB [p0, p1, p2, p3])).length c') ∧ Rd w' A' (cellsR (rowsB (listB [p0, p1, p2, p3]))) ∧ Flat A' ∧ Below W.heap.size W w' ∧ ∀ ad, A' = some ad → W.heap.size ≤ ad.block := fun W hW =>
    (ranges_any _ hs W (ht1.ext hW)).mono fun e w' ⟨A', c', e1, h1⟩ => ⟨A', c', e1, h1.rd, h1.row.flat, h1.bel, fun ad e2 => h1.2.2 ad.block (by rw [e2]; obtain ⟨g, o, rfl⟩ := h1.row.flat ad e2; exact (inA_some _ _ _ _).2 rfl)⟩
  have hC : ∀ W, Calls Tryd.prog 57 #[.agg #[.int .u64 (p0 : Int), .int .u64 (p1 : Int), .int .u64 (p2 : Int), .int .u64 (p3 : Int)]] W fun e w' => e = .returned (.int .i64 ((listB [p0, p1, p2, p3]).length : Int)) ∧ Below W.heap.size W w' := fun W => count_any _ hs W
  have hLl := listB_len [p0, p1, p2, p3]
  have hLlt : ∀ b ∈ listB [p0, p1, p2, p3], b < 256 := fun b hb => listB_lt hb
  have hRl := rowsB_len hLlt
  have hRlt := rowsB_lt hLlt
  have hRle := rowsB_pair _ (listB [p0, p1, p2, p3]) rfl
  have hT : setT [p0, p1, p2, p3] = (if (listB [p0, p1, p2, p3]).length = 1 then signB ((listB [p0, p1, p2, p3]).getD 0 0) else if (listB [p0, p1, p2, p3]).length = 256 then [46] else 91 :: (rowsT (rowsB (listB [p0, p1, p2, p3])) ++ [93])) := rfl
  have hsl := setT_len [p0, p1, p2, p3]
  rw [hT] at hsl ⊢
  have hB := Blk.new w 24 #[.int .u64 (p0 : Int), .int .u64 (p1 : Int), .int .u64 (p2 : Int), .int .u64 (p3 : Int)]
  show Calls Tryd.prog 50 #[.slice A n c, .agg #[.int .u64 (p0 : Int), .int .u64 (p1 : Int), .int .u64 (p2 : Int), .int .u64 (p3 : Int)]] w _
  obtain ⟨L, hLe⟩ : ∃ L, listB [p0, p1, p2, p3] = L := ⟨_, rfl⟩
  rw [hLe] at hR hC hLl hLlt hRl hRlt hRle hsl ⊢
  obtain ⟨R, hRe⟩ : ∃ R, rowsB L = R := ⟨_, rfl⟩
  rw [hRe] at hR hRl hRlt hRle hsl ⊢
  obtain ⟨TT, hTT⟩ : ∃ TT, (if L.length = 1 then signB (L.getD 0 0) else if L.length = 256 then [46] else 91 :: (rowsT R ++ [93])) = TT := ⟨_, rfl⟩
  rw [hTT] at hsl ⊢
  have HTT := Lib.hid hTT
  have HRe := Lib.hid hRe
  have T0 := AppT.refl h.row
  have hlt : ∀ k, inA A k → k < w.heap.size := fun k hk => h.row.lt hk
  have Hlt := Lib.hid hlt
  clear hT hLe hRe hs ht ht1 h hlt hTT
  have HC := Lib.hid hC
  have HR := Lib.hid hR
  have HB := Lib.hid hB
  have HLlt := Lib.hid hLlt
  have HRlt := Lib.hid hRlt
  have HRle := Lib.hid hRle
  have Hsl := Lib.hid hsl
  have hLi : (L.length : Int) ≤ 256 := by omega
  have hRi : (R.length : Int) ≤ 256 := by omega
  clear hC hR hB hLlt hRlt hRle hsl
  go_enter Tryd.func50, Tryd.ntmps50
  go_wp2_with fail
  refine (HR.out _ ((Below.refl _ _).alloc (Nat.le_refl _) _)).mono ?_
  rintro e w1 ⟨Ar, cr, rfl, hrd, hflat, hb1, hnew⟩
  have HB1 := Lib.hid (HB.out.ext hb1)
  have c0 := HB1.out.cell 0
  have c1 := HB1.out.cell 1
  have c2 := HB1.out.cell 2
  have c3 := HB1.out.cell 3
  go_wp2_with fail
  refine (HC.out _).mono ?_
  rintro e w3 ⟨rfl, hb3⟩
  have hb03 : Below w.heap.size w w3 := ext_trans (ext_trans ((Below.refl _ _).alloc (Nat.le_refl _) (Obj.cells #[.int .u64 (p0 : Int), .int .u64 (p1 : Int), .int .u64 (p2 : Int), .int .u64 (p3 : Int)] 24)) hb1) hb3
  have Hrd := Lib.hid (hrd.ext hb3)
  have Hflat := Lib.hid hflat
  have hsep : ∀ ad, Ar = some ad → cellsR R ≠ [] → ¬ inA A ad.block := fun ad e _ hk => by
    have h1 := hnew ad e
    have h2 := Hlt.out _ hk
    simp at h1
    omega
  have Hsep := Lib.hid hsep
  have T3 := AppT.refl (T0.row.ext hb03)
  have Hb03 := Lib.hid hb03
  clear hrd hflat hnew hb1 hb3 hsep c0 c1 c2 c3 hb03 T0
  by_cases h1 : L.length = 1
  · obtain ⟨b, rfl⟩ : ∃ b, L = [b] := List.length_eq_one_iff.1 h1
    obtain rfl : signB b = TT := HTT.out
    have hb := HLlt.out b (by simp)
    have hRb : R = [(b, b)] := HRe.out.symm
    subst hRb
    obtain ⟨g, o, rfl, x0, -⟩ := cellR_of Hrd.out Hflat.out (k := 0) (by simp)
    simp only [Nat.zero_mul, Nat.add_zero, List.getElem_cons_zero] at x0
    clear h1
    go_wp2_with fail
    refine (abyte_any b hb A n c xs w3 T3.row (by omega)).mono ?_
    rintro e w4 ⟨A4, c4, rfl, hT4⟩
    have T4 := AppT.from_ Hb03.out (T3.trans hT4) Hlt.out
    clear hT4
    go_wp2
    go_ret
    exact ⟨A4, c4, rfl, T4⟩
  have hTT := HTT.out
  rw [if_neg h1] at hTT
  have h1' : ((L.length : Int) == 1) = false := by rw [beq_eq_false_iff_ne]; omega
  by_cases h2 : L.length = 256
  · rw [if_pos h2] at hTT
    subst hTT
    have h2' : ((L.length : Int) == 256) = true := by rw [beq_iff_eq]; omega
    clear h1 h2
    go_wp2_with (refine wpList_appO _ rfl (.tmp 22) (.tmp 23) _ rfl _ _ 1 1 Tryd.underlying46 info_u8 rfl A n c xs rfl (T3.row.ext (by repeat (first | exact Below.refl _ _ | apply ext_alloc))) (some ⟨_, 0, none⟩) 1 1 [nb 46] rfl rfl (Rd.lit_at _ _ _ (by first | rfl | simp)) (by intro u hu; simp at hu; subst hu; rfl) (by intro h; cases h) (by unfold maxLen; omega) (by omega) ?_; intro A4 c4 w4 hr4 ho4 hA4; have T4 := T3.step (by repeat (first | exact Below.refl _ _ | apply ext_alloc)) hr4 ho4 hA4; clear hr4 ho4 hA4)
    go_ret
    exact Appd.mk_ (AppT.from_ Hb03.out T4 Hlt.out) rfl rfl
  rw [if_neg h2] at hTT
  subst hTT
  have h2' : ((L.length : Int) == 256) = false := by rw [beq_eq_false_iff_ne]; omega
  clear h1 h2
  have hfin := Hsl.out
  simp only [List.length_cons, List.length_append, List.length_nil] at hfin
  have Hfin := Lib.hid hfin
  clear hfin Hsl
  go_wp2_with (refine wpList_appO _ rfl (.tmp 25) (.tmp 26) _ rfl _ _ 1 1 Tryd.underlying46 info_u8 rfl A n c xs rfl (T3.row.ext (by repeat (first | exact Below.refl _ _ | apply ext_alloc))) (some ⟨_, 0, none⟩) 1 1 [nb 91] rfl rfl (Rd.lit_at _ _ _ (by first | rfl | simp)) (by intro u hu; simp at hu; subst hu; rfl) (by intro h; cases h) (by unfold maxLen; omega) (by omega) ?_; intro A4 c4 w4 hr4 ho4 hA4; have T4 := T3.step (by repeat (first | exact Below.refl _ _ | apply ext_alloc)) hr4 ho4 hA4; clear hr4 ho4 hA4)
  have HT4 := Lib.hid T4
  clear T4 T3
  go_loopw [0, 30] (fun bv i wr => ∃ (k q : Nat) (Aw : Option Addr) (cw : Nat), k ≤ R.length ∧ i = .int .i64 (k : Int) ∧ bv = .slice Aw (n + 1 + q) cw ∧ Hid (q = (rowsT (R.take k)).length) ∧ Hid (AppT w3 A wr Aw (n + 1 + q) cw (xs ++ [nb 91] ++ (rowsT (R.take k)).map nb))) (fun _ i _ => R.length - (intOf i).toNat)
  case atStart => exact ⟨0, 0, _, _, Nat.zero_le _, rfl, rfl, Lib.hid (by simp [rowsT]), Lib.hid (by simpa [rowsT] using HT4.out)⟩
  case round =>
    clear HT4
    obtain ⟨k, q, Aw, cw, hk, rfl, rfl, hq, hT⟩ := hrel
    have hqb : q ≤ 2400 := by
      rw [hq.out]
      have h1 := rowsT_append (R.take k) (R.drop k)
      rw [List.take_append_drop] at h1
      have h2 := congrArg List.length h1
      rw [List.length_append] at h2
      have := Hfin.out
      omega
    by_cases hlt : k < R.length
    · have hki : (k : Int) < (R.length : Int) := by omega
      obtain ⟨g, o, rfl, x0, x1⟩ := cellR_of (Hrd.out.only hT.out.only Hsep.out) Hflat.out hlt
      obtain ⟨v1, hv1⟩ : ∃ v, R[k].1 = v := ⟨_, rfl⟩
      obtain ⟨v2, hv2⟩ : ∃ v, R[k].2 = v := ⟨_, rfl⟩
      have hvlt := HRlt.out _ (List.getElem_mem hlt)
      have hvle := HRle.out _ (List.getElem_mem hlt)
      have hstep := rowsT_take R k hlt
      have hrow : rowT R[k] = signB v1 ++ (if v1 < v2 then 45 :: signB v2 else []) := by rw [← hv1, ← hv2]; rfl
      rw [hv1, hv2] at hvlt hvle
      rw [hv1] at x0
      rw [hv2] at x1
      rw [hrow] at hstep
      have Hstep := Lib.hid hstep
      have hvl1 := hvlt.1
      have hvl2 := hvlt.2
      have hsl1 := signB_len v1
      have hsl2 := signB_len v2
      obtain ⟨q1, hq1⟩ : ∃ q, (signB v1).length = q := ⟨_, rfl⟩
      obtain ⟨q2, hq2⟩ : ∃ q, (signB v2).length = q := ⟨_, rfl⟩
      rw [hq1] at hsl1
      rw [hq2] at hsl2
      have Hq1 := Lib.hid hq1
      have Hq2 := Lib.hid hq2
      clear hrow hstep hvlt hq1 hq2 hv1 hv2
      go_wp2_with fail
      refine (abyte_any v1 hvl1 Aw (n + 1 + q) cw _ _ (hT.out.row.ext (by repeat (first | exact Below.refl _ _ | apply ext_alloc))) (by omega)).mono ?_
      rintro e w5 ⟨A5, c5, rfl, hT5⟩
      have hB5 := (Blk.new wr 54 #[.int .u8 (v1 : Int), .int .u8 (v2 : Int)]).only hT5.only (fun hk => Nat.lt_irrefl _ (hT.out.row.lt hk))
      have T5 := (hT.out.ext ((Below.refl _ _).alloc (Nat.le_refl _) _)).trans hT5
      rw [Hq1.out] at T5 ⊢
      have y0 := hB5.cell 0
      have y1 := hB5.cell 1
      have HT5 := Lib.hid T5
      have HB5 := Lib.hid hB5
      clear hT5 hB5 T5
      rcases Nat.lt_or_ge v1 v2 with hvv | hvv
      · have hne : ((v1 : Int) != (v2 : Int)) = true := by rw [bne_iff_ne]; omega
        rw [if_pos hvv] at Hstep
        clear hvv
        have T5 := HT5.out
        go_wp2_with (refine wpList_appO _ rfl (.tmp 43) (.tmp 44) _ rfl _ _ 1 1 Tryd.underlying46 info_u8 rfl A5 (n + 1 + q + q1) c5 _ rfl (T5.row.ext (by repeat (first | exact Below.refl _ _ | apply ext_alloc))) (some ⟨_, 0, none⟩) 1 1 [nb 45] rfl rfl (Rd.lit_at _ _ _ (by first | rfl | simp)) (by intro u hu; simp at hu; subst hu; rfl) (by intro h; cases h) (by unfold maxLen; omega) (by omega) ?_; intro A6 c6 w6 hr6 ho6 hA6; have T6 := T5.step (by repeat (first | exact Below.refl _ _ | apply ext_alloc)) hr6 ho6 hA6; have hB6 := (HB5.out.ext (by repeat (first | exact Below.refl _ _ | apply ext_alloc))).only ho6 (fun hk => (T5.row.ne_blk HB5.out (by decide)) hk); have z1 := hB6.cell 1; clear y0 y1; clear hr6 ho6 hA6)
        clear hB6
        refine (abyte_any v2 hvl2 A6 (n + 1 + q + q1 + 1) c6 _ _ T6.row (by omega)).mono ?_
        rintro e w7 ⟨A7, c7, rfl, hT7⟩
        have T7 := T6.trans hT7
        rw [Hq2.out] at T7 ⊢
        have HT7 := Lib.hid T7
        clear hT7 T7 T6 T5 z1
        go_wp2
        go_roundw
        case rel => exact ⟨k + 1, q + q1 + 1 + q2, _, _, by omega, by go_num, by congr 1; omega, Lib.hid (by rw [Hstep.out]; simp only [List.length_append, List.length_cons, Hq1.out, Hq2.out, ← hq.out]; omega), Lib.hid (by rw [Hstep.out]; exact HT7.out.cast (by omega) (by simp))⟩
        case measure => simp [intOf]; omega
      · have hee : v1 = v2 := by omega
        subst hee
        rw [if_neg (Nat.lt_irrefl _)] at Hstep
        clear hvv hvle
        go_wp2
        go_roundw
        case rel => exact ⟨k + 1, q + q1, _, _, by omega, by go_num, by congr 1; omega, Lib.hid (by rw [Hstep.out]; simp only [List.length_append, Hq1.out, ← hq.out, List.append_nil]), Lib.hid (by rw [Hstep.out]; exact HT5.out.cast (by omega) (by simp))⟩
        case measure => simp [intOf]; omega
    · obtain rfl : k = R.length := by omega
      rw [List.take_length] at hT hq
      have T6 := hT.out
      go_wp2_with (refine wpList_appO _ rfl (.tmp 51) (.tmp 52) _ rfl _ _ 1 1 Tryd.underlying46 info_u8 rfl Aw (n + 1 + q) cw _ rfl (T6.row.ext (by repeat (first | exact Below.refl _ _ | apply ext_alloc))) (some ⟨_, 0, none⟩) 1 1 [nb 93] rfl rfl (Rd.lit_at _ _ _ (by first | rfl | simp)) (by intro u hu; simp at hu; subst hu; rfl) (by intro h; cases h) (by unfold maxLen; omega) (by omega) ?_; intro A7 c7 w7 hr7 ho7 hA7; have T7 := T6.step (by repeat (first | exact Below.refl _ _ | apply ext_alloc)) hr7 ho7 hA7; clear hr7 ho7 hA7)
      go_ret
      exact Appd.mk_ (AppT.from_ Hb03.out T7 Hlt.out) (by simp [hq.out]; omega) (by simp)
end Go.Proofs.YtlddmjhpemihgaaDoor

/-
  Contract of the program's weigh. No statement of the seat is proved here.
-/
namespace Go.Proofs.YtlddmjhpemihgaaDoor
open Go Go.RowKit
set_option maxRecDepth 100000
theorem Kids.only {S T : Nat → Prop} {w w' : World} {A : Option Addr} {l : List Ex} (h : Kids S w A l) (ho : Only T w w') (hn : ∀ g, S g → ¬ T g) : Kids S w' A l := fun k hk => by
  obtain ⟨g, o, cs, e, hs, hc, hr⟩ := h k hk
  exact ⟨g, o, cs, e, hs, fun j u hu => (World.cell?_of_block (a := ⟨g, o + k * 8 + j, none⟩) (ho.block g (World.block_lt_of_cell? w ⟨g, o + k * 8 + j, none⟩ (hc j u hu)) (hn g hs))).trans (hc j u hu), hr.only ho hn⟩
/-- what weigh answers -/
def wOf : Option (Nat × Nat) → Value
  | none => .tuple #[.int .i64 0, .bool false]
  | some p => .tuple #[.int .i64 ((p.1 : Nat) : Int), .bool true]
def Weighed (w : World) (g : Nat) (res : Option (Nat × Nat)) (e : Ending) (w' : World) : Prop :=
  e = .returned (wOf res) ∧ Only (fun b => b = g) w w' ∧ ∃ m : Int, Blk w' g 76 #[.int .i64 m] ∧ ∀ p, res = some p → m = ((p.2 : Nat) : Int)

set_option maxHeartbeats 8000000 in
theorem weigh_any (S : Nat → Prop) (g : Nat) (hg : ∀ b, S b → b ≠ g) (t : Ex) : ∀ (cs : List Value) (w : World) (deep within n : Nat), ReR S w t cs → Blk w g 76 #[.int .i64 (n : Int)] → deep ≤ 17 → within ≤ 4 → n ≤ 128 →
    Calls Tryd.prog 44 #[.pointer (some ⟨g, 0, none⟩), reV cs, .int .i64 (deep : Int), .int .i64 (within : Int)] w (Weighed w g (weighE deep within n t)) := by
  refine ex_induct (p := fun t => ∀ (cs : List Value) (w : World) (deep within n : Nat), ReR S w t cs → Blk w g 76 #[.int .i64 (n : Int)] → deep ≤ 17 → within ≤ 4 → n ≤ 128 → Calls Tryd.prog 44 #[.pointer (some ⟨g, 0, none⟩), reV cs, .int .i64 (deep : Int), .int .i64 (within : Int)] w (Weighed w g (weighE deep within n t))) (fun k s ks lo hi ih cs w deep within n h hG hd hw hn => ?_) t
  have hform := fun W (hW : ReR S W (.mk k s ks lo hi) cs) => formed_any S (.mk k s ks lo hi) cs W hW
  have h' := h
  rw [reR_iff] at h
  obtain ⟨⟨hk, hs, hlo, hhi⟩, A, c, rfl, h1, h2, h3⟩ := h
  obtain ⟨p0, p1, p2, p3, rfl⟩ := four_words hs
  have hlt := hG.lt
  have hgx := (hG.alloc (Obj.cells #[.int .i64 k, .int .u64 (p0 : Int), .int .u64 (p1 : Int), .int .u64 (p2 : Int), .int .u64 (p3 : Int), .slice A ks.length c, .int .i64 lo, .int .i64 hi] 27)).cell 0
  have hgf := (hG.alloc (Obj.cells #[.int .i64 k, .int .u64 (p0 : Int), .int .u64 (p1 : Int), .int .u64 (p2 : Int), .int .u64 (p3 : Int), .slice A ks.length c, .int .i64 lo, .int .i64 hi] 27)).free 0
  have hG2 := (hG.put 0 (.int .i64 ((n : Int) + 1))).alloc (Obj.cells #[.int .i64 k, .int .u64 (p0 : Int), .int .u64 (p1 : Int), .int .u64 (p2 : Int), .int .u64 (p3 : Int), .slice A ks.length c, .int .i64 lo, .int .i64 hi] 27)
  have hgx2 := hG2.cell 0
  have hB2 := Blk.new (w.setCell ⟨g, 0, none⟩ (.int .i64 ((n : Int) + 1))) 27 #[.int .i64 k, .int .u64 (p0 : Int), .int .u64 (p1 : Int), .int .u64 (p2 : Int), .int .u64 (p3 : Int), .slice A ks.length c, .int .i64 lo, .int .i64 hi]
  rw [show (w.setCell ⟨g, 0, none⟩ (.int .i64 ((n : Int) + 1))).heap.size = w.heap.size by simp [World.setCell]] at hB2
  have hO2 : Only (fun b => b = g) w ((w.setCell ⟨g, 0, none⟩ (.int .i64 ((n : Int) + 1))).alloc (Obj.cells #[.int .i64 k, .int .u64 (p0 : Int), .int .u64 (p1 : Int), .int .u64 (p2 : Int), .int .u64 (p3 : Int), .slice A ks.length c, .int .i64 lo, .int .i64 hi] 27)) := ((Only.refl (fun b => b = g) w).setCell (p := ⟨g, 0, none⟩) (.inl rfl) _).alloc _
  obtain ⟨W2, hW2⟩ : ∃ W2, W2 = (w.setCell ⟨g, 0, none⟩ (.int .i64 ((n : Int) + 1))).alloc (Obj.cells #[.int .i64 k, .int .u64 (p0 : Int), .int .u64 (p1 : Int), .int .u64 (p2 : Int), .int .u64 (p3 : Int), .slice A ks.length c, .int .i64 lo, .int .i64 hi] 27) := ⟨_, rfl⟩
  rw [← hW2] at hG2 hgx2 hB2 hO2
  have HO2 := Lib.hid hO2
  have hd' : (deep : Int) ≤ 17 := by omega
  have hw' : (within : Int) ≤ 4 := by omega
  have hn' : (n : Int) ≤ 128 := by omega
  unfold isInt at hlo hhi
  unfold maxLen at h2
  have H := Lib.hid h'
  have Hih := Lib.hid ih
  have HB2 := Lib.hid hB2
  have HG2 := Lib.hid hG2
  have H3 := Lib.hid h3
  have Hform := Lib.hid hform
  clear h' ih hB2 hG2 hG h3 hform hk hs hO2
  unfold reV reCells
  obtain ⟨F, hF⟩ : ∃ F, formE (.mk k [p0, p1, p2, p3] ks lo hi) = F := ⟨_, rfl⟩
  rw [hF] at Hform
  have HF := Lib.hid hF
  obtain ⟨R, hR⟩ : ∃ R, weighE deep within n (.mk k [p0, p1, p2, p3] ks lo hi) = R := ⟨_, rfl⟩
  rw [hR]
  simp only [weighE, hF] at hR
  clear hF
  have HR := Lib.hid hR
  clear hR
  show Calls Tryd.prog 44 #[.pointer (some ⟨g, 0, none⟩), .agg #[.int .i64 k, .int .u64 (p0 : Int), .int .u64 (p1 : Int), .int .u64 (p2 : Int), .int .u64 (p3 : Int), .slice A ks.length c, .int .i64 lo, .int .i64 hi], .int .i64 (deep : Int), .int .i64 (within : Int)] w (Weighed w g R)
  by_cases hk4 : k = 4
  · subst hk4
    skip
    by_cases hbad : 128 < n + 1 ∨ 16 < deep ∨ 4 < within + 1
    · have hbi : (128 : Int) < (n : Int) + 1 ∨ ((n : Int) + 1 ≤ 128 ∧ (16 : Int) < (deep : Int)) ∨ ((n : Int) + 1 ≤ 128 ∧ (deep : Int) ≤ 16 ∧ (4 : Int) < (within : Int) + 1) := by omega
      rcases hbi with hb1 | ⟨hb1, hb2⟩ | ⟨hb1, hb2, hb3⟩
      skip
      all_goals
        go_enter Tryd.func44, Tryd.ntmps44
        rw [hW2] at hgx2
        go_wp2
        go_ret2
        rw [hW2] at HO2 HG2
        exact ⟨by rw [← HR.out, if_pos (by simp; omega)]; rfl, HO2.out, _, HG2.out, fun p hp => by rw [← HR.out, if_pos (by simp; omega)] at hp; cases hp⟩
    · have hb1 : (n : Int) + 1 ≤ 128 := by omega
      have hb2 : (deep : Int) ≤ 16 := by omega
      have hb3 : (within : Int) + 1 ≤ 4 := by omega
      have hn1 : n + 1 ≤ 128 := by omega
      have hd1 : deep + 1 ≤ 17 := by omega
      have hw1 : within + 1 ≤ 4 := by omega
      clear hbad
      go_enter Tryd.func44, Tryd.ntmps44
      rw [hW2] at hgx2
      go_wp2_with fail
      rw [← hW2]
      have c0 := HB2.out.cell 0
      have c1 := HB2.out.cell 1
      have c2 := HB2.out.cell 2
      have c3 := HB2.out.cell 3
      have c4 := HB2.out.cell 4
      have c5 := HB2.out.cell 5
      have c6 := HB2.out.cell 6
      have c7 := HB2.out.cell 7
      have hgx3 := HG2.out.cell 0
      clear hgx2
      go_wp2_with fail
      refine (Hform.out W2 (H.out.only HO2.out hg)).mono ?_
      rintro e w3 ⟨rfl, hb3'⟩
      have HG3 := Lib.hid (HG2.out.ext hb3')
      have HB3 := Lib.hid (HB2.out.ext hb3')
      have HO3 : Hid (Only (fun b => b = g) w w3) := Lib.hid (HO2.out.trans (Only.of_ext (S := fun b => b = g) hb3') (fun _ _ h => h))
      clear hb3' c0 c1 c2 c3 c4 c5 c6 c7 hgx3 hgx hgf hW2
      cases F with
      | false =>
        go_wp2
        go_ret2
        exact ⟨by rw [← HR.out, if_pos (by simp)]; rfl, HO3.out, _, HG3.out, fun p hp => by rw [← HR.out, if_pos (by simp)] at hp; cases hp⟩
      | true =>
        have hR' : (match weighL (deep + 1) (within + 1) 0 (n + 1) ks with
          | none => none
          | some p => some (1 + p.1 * timesW lo hi, p.2)) = R := by
          have := HR.out
          rw [if_neg (by simp; omega)] at this
          rw [← this]
          simp only [if_true]
          cases weighL (deep + 1) (within + 1) 0 (n + 1) ks <;> rfl
        clear HR
        have HR := Lib.hid hR'
        clear hR'
        have c5 := HB3.out.cell 5
        go_wp2
        go_loopw [10, 48] (fun x i wr => ∃ j X m : Nat, j ≤ ks.length ∧ i = .int .i64 (j : Int) ∧ x = .int .i64 (X : Int) ∧ Hid (weighL (deep + 1) (within + 1) 0 (n + 1) (ks.take j) = some (X, m)) ∧ Blk wr g 76 #[.int .i64 (m : Int)] ∧ Blk wr w.heap.size 27 #[.int .i64 4, .int .u64 (p0 : Int), .int .u64 (p1 : Int), .int .u64 (p2 : Int), .int .u64 (p3 : Int), .slice A ks.length c, .int .i64 lo, .int .i64 hi] ∧ Only (fun b => b = g) w wr) (fun _ i _ => ks.length - (intOf i).toNat)
        case atStart => exact ⟨0, 0, n + 1, Nat.zero_le _, rfl, rfl, Lib.hid rfl, HG3.out, HB3.out, HO3.out⟩
        case round =>
          clear c5
          obtain ⟨j, X, m, hj, rfl, rfl, hL, hGr, hBr, hOr⟩ := hrel
          have hsm := weighL_small hw1 _ hn1 hL.out
          have hm1 : m ≤ 128 := hsm.1
          have hXb : X ≤ 134217728 := by
            have h1 := hsm.2.2
            have h2 : (m - (n + 1)) * 1048576 ≤ 128 * 1048576 := Nat.mul_le_mul_right _ (by omega)
            omega
          have hXi : (X : Int) ≤ 134217728 := by omega
          clear hsm
          have HGr := Lib.hid hGr
          have HBr := Lib.hid hBr
          have HOr := Lib.hid hOr
          clear hGr hBr hOr
          by_cases hlt2 : j < ks.length
          · have hji : (j : Int) < (ks.length : Int) := by omega
            obtain ⟨g', o, k', q0, q1, q2, q3, ks', A', c', lo', hi', rfl, hx, hr, x0, x1, x2, x3, x4, x5, x6, x7, hsg⟩ := (H3.out.only HOr.out hg).kidX hlt2
            have hcall : ∀ W, Only (fun b => b = g) w W → Blk W g 76 #[.int .i64 (m : Int)] → Below wr.heap.size wr W → Calls Tryd.prog 44 #[.pointer (some ⟨g, 0, none⟩), .agg #[.int .i64 k', .int .u64 (q0 : Int), .int .u64 (q1 : Int), .int .u64 (q2 : Int), .int .u64 (q3 : Int), .slice A' ks'.length c', .int .i64 lo', .int .i64 hi'], .int .i64 ((deep : Int) + 1), .int .i64 ((within : Int) + 1)] W (Weighed W g (weighE (deep + 1) (within + 1) m ks[j])) := fun W hW1 hW2 hW3 => by
              have := Hih.out _ (List.getElem_mem hlt2) _ W (deep + 1) (within + 1) m (hr.ext hW3) hW2 hd1 hw1 hm1
              simpa [reV] using this
            have hstep := weighL_take (deep + 1) (within + 1) ks j hlt2 0 (n + 1)
            rw [hL.out] at hstep
            simp only at hstep
            obtain ⟨res, hres⟩ : ∃ res, weighE (deep + 1) (within + 1) m ks[j] = res := ⟨_, rfl⟩
            rw [hres] at hcall hstep
            have hvb : ∀ p, res = some p → p.1 ≤ 134217728 := fun p hp => by
              rw [hp] at hres
              have h1 := weighE_small (v := p.1) (m := p.2) hw1 hm1 hres
              have h2 : (p.2 - m) * 1048576 ≤ 128 * 1048576 := Nat.mul_le_mul_right _ (by omega)
              omega
            have Hvb := Lib.hid hvb
            have Hstep := Lib.hid hstep
            have Hcall := Lib.hid hcall
            have hlt3 := HGr.out.lt
            clear hvb hstep hcall hr hx hres
            go_wp2_with fail
            refine (Hcall.out _ (HOr.out.alloc _) (HGr.out.alloc _) ((Below.refl _ _).alloc (Nat.le_refl _) _)).mono ?_
            rintro e w4 ⟨he, ho4, m4, hG4, hm4⟩
            have HO4 : Hid (Only (fun b => b = g) w w4) := Lib.hid ((HOr.out.alloc _).trans ho4 (fun _ _ h => h))
            have HB4 := Lib.hid ((HBr.out.alloc _).only ho4 (by omega))
            have HG4 := Lib.hid hG4
            have Hm4 := Lib.hid hm4
            clear ho4 hG4 hm4
            cases res with
            | none =>
              have he' : e = .returned (.tuple #[.int .i64 0, .bool false]) := he
              subst he'
              clear he
              have hnone : weighL (deep + 1) (within + 1) 0 (n + 1) ks = none := weighL_none Hstep.out
              go_wp2
              go_ret2
              have hR0 : R = none := by rw [← HR.out, hnone]
              exact ⟨by rw [hR0]; rfl, HO4.out, _, HG4.out, fun p hp => by rw [hR0] at hp; cases hp⟩
            | some q =>
              obtain ⟨v, m'⟩ := q
              have he' : e = .returned (.tuple #[.int .i64 (v : Int), .bool true]) := he
              subst he'
              clear he
              have hvi : (v : Int) ≤ 134217728 := by have := Hvb.out _ rfl; simp only at this; omega
              obtain rfl : m4 = (m' : Int) := Hm4.out _ rfl
              go_wp2
              go_roundw
              case rel => exact ⟨j + 1, X + v, m', by omega, by go_num, by go_num, Lib.hid Hstep.out, HG4.out, HB4.out, HO4.out⟩
              case measure => simp [intOf]; omega
          · obtain rfl : j = ks.length := by omega
            have hL' := hL.out
            rw [List.take_length] at hL'

            have c0 := HBr.out.cell 0
            have c6 := HBr.out.cell 6
            have c7 := HBr.out.cell 7
            have HL' := Lib.hid hL'
            clear hL'
            have hrep : repB lo hi = true := by
              have := HF.out
              simp only [formE] at this
              simp at this
              exact this.1.2
            have ht := timesW_le hrep
            obtain ⟨M1, hM1⟩ : ∃ M, (if lo < hi then hi else lo) = M := ⟨_, rfl⟩
            obtain ⟨T, hT⟩ : ∃ T, timesW lo hi = T := ⟨_, rfl⟩
            have hM2 : (if M1 < 1 then 1 else M1) = (T : Int) := by
              rw [← hT, ← hM1]
              unfold timesW
              split <;> split <;> omega
            rw [hT] at ht
            have HT := Lib.hid hT
            have hxx : X * T ≤ 134217728 * 32 := Nat.mul_le_mul hXb ht.1
            obtain ⟨x, hx⟩ : ∃ x, X * T = x := ⟨_, rfl⟩
            have hxi : (X : Int) * (T : Int) = (x : Int) := by rw [← hx]; simp
            rw [hx] at hxx
            have Hx := Lib.hid hx
            have hxb : (x : Int) ≤ 4294967296 := by omega
            clear hT hx ht hrep hxx
            go_wp2
            go_ret2
            have hR0 : R = some (1 + x, m) := by rw [← HR.out, HL'.out]; simp only; rw [HT.out, Hx.out]
            exact ⟨by rw [hR0]; simp only [wOf]; first | rfl | (congr 1; congr 1), HOr.out, _, HGr.out, fun p hp => by rw [hR0] at hp; injection hp with hp; rw [← hp]⟩
  · have hk4b : (k == 4) = false := by simpa using hk4
    by_cases hbad : 128 < n + 1 ∨ 16 < deep ∨ 4 < within
    · have hbi : (128 : Int) < (n : Int) + 1 ∨ ((n : Int) + 1 ≤ 128 ∧ (16 : Int) < (deep : Int)) ∨ ((n : Int) + 1 ≤ 128 ∧ (deep : Int) ≤ 16 ∧ (4 : Int) < (within : Int)) := by omega
      rcases hbi with hb1 | ⟨hb1, hb2⟩ | ⟨hb1, hb2, hb3⟩
      case inr.inr => omega
      all_goals
        go_enter Tryd.func44, Tryd.ntmps44
        rw [hW2] at hgx2
        go_wp2
        go_ret2
        rw [hW2] at HO2 HG2
        exact ⟨by rw [← HR.out, if_pos (by simp [hk4]; omega)]; rfl, HO2.out, _, HG2.out, fun p hp => by rw [← HR.out, if_pos (by simp [hk4]; omega)] at hp; cases hp⟩
    · have hb1 : (n : Int) + 1 ≤ 128 := by omega
      have hb2 : (deep : Int) ≤ 16 := by omega
      have hb3 : (within : Int) ≤ 4 := by omega
      have hn1 : n + 1 ≤ 128 := by omega
      have hd1 : deep + 1 ≤ 17 := by omega
      have hw1 : within ≤ 4 := by omega
      clear hbad
      go_enter Tryd.func44, Tryd.ntmps44
      rw [hW2] at hgx2
      go_wp2_with fail
      rw [← hW2]
      have c0 := HB2.out.cell 0
      have c1 := HB2.out.cell 1
      have c2 := HB2.out.cell 2
      have c3 := HB2.out.cell 3
      have c4 := HB2.out.cell 4
      have c5 := HB2.out.cell 5
      have c6 := HB2.out.cell 6
      have c7 := HB2.out.cell 7
      have hgx3 := HG2.out.cell 0
      clear hgx2
      go_wp2_with fail
      refine (Hform.out W2 (H.out.only HO2.out hg)).mono ?_
      rintro e w3 ⟨rfl, hb3'⟩
      have HG3 := Lib.hid (HG2.out.ext hb3')
      have HB3 := Lib.hid (HB2.out.ext hb3')
      have HO3 : Hid (Only (fun b => b = g) w w3) := Lib.hid (HO2.out.trans (Only.of_ext (S := fun b => b = g) hb3') (fun _ _ h => h))
      clear hb3' c0 c1 c2 c3 c4 c5 c6 c7 hgx3 hgx hgf hW2
      cases F with
      | false =>
        go_wp2
        go_ret2
        exact ⟨by rw [← HR.out, if_pos (by simp)]; rfl, HO3.out, _, HG3.out, fun p hp => by rw [← HR.out, if_pos (by simp)] at hp; cases hp⟩
      | true =>
        have hR' : (match weighL (deep + 1) (within) 0 (n + 1) ks with
          | none => none
          | some p => some (1 + p.1, p.2)) = R := by
          have := HR.out
          rw [if_neg (by simp [hk4]; omega)] at this
          rw [← this]
          simp only [if_neg hk4]
          cases weighL (deep + 1) (within) 0 (n + 1) ks <;> rfl
        clear HR
        have HR := Lib.hid hR'
        clear hR'
        have c5 := HB3.out.cell 5
        go_wp2
        go_loopw [10, 48] (fun x i wr => ∃ j X m : Nat, j ≤ ks.length ∧ i = .int .i64 (j : Int) ∧ x = .int .i64 (X : Int) ∧ Hid (weighL (deep + 1) (within) 0 (n + 1) (ks.take j) = some (X, m)) ∧ Blk wr g 76 #[.int .i64 (m : Int)] ∧ Blk wr w.heap.size 27 #[.int .i64 k, .int .u64 (p0 : Int), .int .u64 (p1 : Int), .int .u64 (p2 : Int), .int .u64 (p3 : Int), .slice A ks.length c, .int .i64 lo, .int .i64 hi] ∧ Only (fun b => b = g) w wr) (fun _ i _ => ks.length - (intOf i).toNat)
        case atStart => exact ⟨0, 0, n + 1, Nat.zero_le _, rfl, rfl, Lib.hid rfl, HG3.out, HB3.out, HO3.out⟩
        case round =>
          clear c5
          obtain ⟨j, X, m, hj, rfl, rfl, hL, hGr, hBr, hOr⟩ := hrel
          have hsm := weighL_small hw1 _ hn1 hL.out
          have hm1 : m ≤ 128 := hsm.1
          have hXb : X ≤ 134217728 := by
            have h1 := hsm.2.2
            have h2 : (m - (n + 1)) * 1048576 ≤ 128 * 1048576 := Nat.mul_le_mul_right _ (by omega)
            omega
          have hXi : (X : Int) ≤ 134217728 := by omega
          clear hsm
          have HGr := Lib.hid hGr
          have HBr := Lib.hid hBr
          have HOr := Lib.hid hOr
          clear hGr hBr hOr
          by_cases hlt2 : j < ks.length
          · have hji : (j : Int) < (ks.length : Int) := by omega
            obtain ⟨g', o, k', q0, q1, q2, q3, ks', A', c', lo', hi', rfl, hx, hr, x0, x1, x2, x3, x4, x5, x6, x7, hsg⟩ := (H3.out.only HOr.out hg).kidX hlt2
            have hcall : ∀ W, Only (fun b => b = g) w W → Blk W g 76 #[.int .i64 (m : Int)] → Below wr.heap.size wr W → Calls Tryd.prog 44 #[.pointer (some ⟨g, 0, none⟩), .agg #[.int .i64 k', .int .u64 (q0 : Int), .int .u64 (q1 : Int), .int .u64 (q2 : Int), .int .u64 (q3 : Int), .slice A' ks'.length c', .int .i64 lo', .int .i64 hi'], .int .i64 ((deep : Int) + 1), .int .i64 ((within : Int))] W (Weighed W g (weighE (deep + 1) (within) m ks[j])) := fun W hW1 hW2 hW3 => by
              have := Hih.out _ (List.getElem_mem hlt2) _ W (deep + 1) (within) m (hr.ext hW3) hW2 hd1 hw1 hm1
              simpa [reV] using this
            have hstep := weighL_take (deep + 1) (within) ks j hlt2 0 (n + 1)
            rw [hL.out] at hstep
            simp only at hstep
            obtain ⟨res, hres⟩ : ∃ res, weighE (deep + 1) (within) m ks[j] = res := ⟨_, rfl⟩
            rw [hres] at hcall hstep
            have hvb : ∀ p, res = some p → p.1 ≤ 134217728 := fun p hp => by
              rw [hp] at hres
              have h1 := weighE_small (v := p.1) (m := p.2) hw1 hm1 hres
              have h2 : (p.2 - m) * 1048576 ≤ 128 * 1048576 := Nat.mul_le_mul_right _ (by omega)
              omega
            have Hvb := Lib.hid hvb
            have Hstep := Lib.hid hstep
            have Hcall := Lib.hid hcall
            have hlt3 := HGr.out.lt
            clear hvb hstep hcall hr hx hres
            go_wp2_with fail
            refine (Hcall.out _ (HOr.out.alloc _) (HGr.out.alloc _) ((Below.refl _ _).alloc (Nat.le_refl _) _)).mono ?_
            rintro e w4 ⟨he, ho4, m4, hG4, hm4⟩
            have HO4 : Hid (Only (fun b => b = g) w w4) := Lib.hid ((HOr.out.alloc _).trans ho4 (fun _ _ h => h))
            have HB4 := Lib.hid ((HBr.out.alloc _).only ho4 (by omega))
            have HG4 := Lib.hid hG4
            have Hm4 := Lib.hid hm4
            clear ho4 hG4 hm4
            cases res with
            | none =>
              have he' : e = .returned (.tuple #[.int .i64 0, .bool false]) := he
              subst he'
              clear he
              have hnone : weighL (deep + 1) (within) 0 (n + 1) ks = none := weighL_none Hstep.out
              go_wp2
              go_ret2
              have hR0 : R = none := by rw [← HR.out, hnone]
              exact ⟨by rw [hR0]; rfl, HO4.out, _, HG4.out, fun p hp => by rw [hR0] at hp; cases hp⟩
            | some q =>
              obtain ⟨v, m'⟩ := q
              have he' : e = .returned (.tuple #[.int .i64 (v : Int), .bool true]) := he
              subst he'
              clear he
              have hvi : (v : Int) ≤ 134217728 := by have := Hvb.out _ rfl; simp only at this; omega
              obtain rfl : m4 = (m' : Int) := Hm4.out _ rfl
              go_wp2
              go_roundw
              case rel => exact ⟨j + 1, X + v, m', by omega, by go_num, by go_num, Lib.hid Hstep.out, HG4.out, HB4.out, HO4.out⟩
              case measure => simp [intOf]; omega
          · obtain rfl : j = ks.length := by omega
            have hL' := hL.out
            rw [List.take_length] at hL'

            have c0 := HBr.out.cell 0
            have HL' := Lib.hid hL'
            clear hL'
            go_wp2
            go_ret2
            have hR0 : R = some (1 + X, m) := by rw [← HR.out, HL'.out]
            exact ⟨by rw [hR0]; simp only [wOf]; first | rfl | (congr 1; congr 1), HOr.out, _, HGr.out, fun p hp => by rw [hR0] at hp; injection hp with hp; rw [← hp]⟩
end Go.Proofs.YtlddmjhpemihgaaDoor
