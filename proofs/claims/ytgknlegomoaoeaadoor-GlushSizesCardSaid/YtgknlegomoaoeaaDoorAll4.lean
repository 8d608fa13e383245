/-
  Texts of this claim, joined (part 4): contracts and lemmas that the last text goes by. No statement of the seat is proved here.
-/
import Derived.Test.YtgknlegomoaoeaaDoorAll1
import Derived.Test.YtgknlegomoaoeaaDoorAll2
import Derived.WalkLawsBesides
import Derived.IntWalk
import Derived.Deep.AppendSrc
import Derived.Deep.MidRow
import Derived.Deep.RegionHeldLaw
set_option linter.unusedVariables false
set_option linter.unusedSimpArgs false
/-
  Contracts of the reference's Nodes, Weight, nest. No statement of the seat is proved here.
-/
namespace Go.Proofs.YtgknlegomoaoeaaDoor
open Go Go.RowKit
set_option maxRecDepth 100000


set_option maxHeartbeats 1000000 in
theorem rnodes_any (S : Nat → Prop) (t : Ex) : ∀ (cs : List Value) (w : World), ReR S w t cs → nodesE t ≤ 1000000 →
    Calls Tryd.prog 42 #[reV cs] w fun e w' => e = .returned (.int .i64 (nodesE t : Int)) ∧ Below w.heap.size w w' := by
  refine ex_induct (p := fun t => ∀ (cs : List Value) (w : World), ReR S w t cs → nodesE t ≤ 1000000 → Calls Tryd.prog 42 #[reV cs] w fun e w' => e = .returned (.int .i64 (nodesE t : Int)) ∧ Below w.heap.size w w') (fun k s ks lo hi ih cs w h hn => ?_) t
  rw [reR_iff] at h
  obtain ⟨h0, A, c, rfl, h1, h2, h3⟩ := h
  have hln := length_nodesL ks
  have hno : nodesE (.mk k s ks lo hi) = 1 + nodesL ks := by simp [nodesE]
  rw [hno] at hn ⊢
  clear hno h0
  have hli : (ks.length : Int) ≤ 1000000 := by omega
  unfold maxLen at h2
  have Hih := Lib.hid ih
  have H3 := Lib.hid h3
  clear ih h3
  unfold reV reCells
  have hB := Blk.new w 27 #[.int .i64 k, .int .u64 (wordB s 0 : Int), .int .u64 (wordB s 1 : Int), .int .u64 (wordB s 2 : Int), .int .u64 (wordB s 3 : Int), .slice A ks.length c, .int .i64 lo, .int .i64 hi]
  go_enter Tryd.func42, Tryd.ntmps42
  go_wp2
  go_loopw [3, 4] (fun n i wr => ∃ j : Nat, j ≤ ks.length ∧ i = .int .i64 (j : Int) ∧ n = .int .i64 ((1 + nodesL (ks.take j) : Nat) : Int) ∧ Blk wr w.heap.size 27 #[.int .i64 k, .int .u64 (wordB s 0 : Int), .int .u64 (wordB s 1 : Int), .int .u64 (wordB s 2 : Int), .int .u64 (wordB s 3 : Int), .slice A ks.length c, .int .i64 lo, .int .i64 hi] ∧ Below w.heap.size w wr) (fun _ i _ => ks.length - (intOf i).toNat)
  case atStart => exact ⟨0, Nat.zero_le _, rfl, by simp [nodesL], hB, (Below.refl _ _).alloc (Nat.le_refl _) _⟩
  case round =>
    obtain ⟨j, hj, rfl, rfl, hB, hb⟩ := hrel
    have c5 := hB.cell 5
    by_cases hlt : j < ks.length
    · have hji : (j : Int) < (ks.length : Int) := by omega
      obtain ⟨g, o, u0, u1, u2, u3, u4, u5, u6, u7, rfl, hr, x0, x1, x2, x3, x4, x5, x6, x7, -⟩ := (H3.out.ext hb).kid hlt
      have hsum := nodesL_take ks j hlt
      have hle := nodesL_take_le ks (j + 1)
      have hcall : ∀ W, Below wr.heap.size wr W → Calls Tryd.prog 42 #[.agg #[u0, u1, u2, u3, u4, u5, u6, u7]] W fun e w' => e = .returned (.int .i64 (nodesE ks[j] : Int)) ∧ Below W.heap.size W w' := fun W hW =>
        Hih.out _ (List.getElem_mem hlt) _ W (hr.ext hW) (by omega)
      have Hc := Lib.hid hcall
      have HB := Lib.hid hB
      obtain ⟨p, hp⟩ : ∃ p, nodesL (ks.take j) = p := ⟨_, rfl⟩
      obtain ⟨q, hq⟩ : ∃ q, nodesE ks[j] = q := ⟨_, rfl⟩
      rw [hp] at hsum ⊢
      rw [hq] at hsum Hc
      rw [hsum] at hle
      have Hs := Lib.hid hsum
      clear hsum hcall hB hr hp hq
      go_wp2_with fail
      refine (Hc.out _ (Below.refl _ _)).mono ?_
      rintro e w2 ⟨rfl, hb2⟩
      go_wp2
      go_roundw
      case rel => exact ⟨j + 1, by omega, by go_num, by rw [Hs.out]; go_num, HB.out.ext hb2, ext_trans hb hb2⟩
      case measure => simp [intOf]; omega
    · obtain rfl : j = ks.length := by omega
      rw [List.take_length]
      go_wp2
      go_ret
      exact ⟨rfl, hb⟩

set_option maxHeartbeats 1000000 in
theorem rweight_any (S : Nat → Prop) (t : Ex) : ∀ (cs : List Value) (w : World), ReR S w t cs → nodesE t ≤ 1000000 →
    Calls Tryd.prog 36 #[reV cs] w fun e w' => e = .returned (.int .i64 (weightE t : Int)) ∧ Below w.heap.size w w' := by
  refine ex_induct (p := fun t => ∀ (cs : List Value) (w : World), ReR S w t cs → nodesE t ≤ 1000000 → Calls Tryd.prog 36 #[reV cs] w fun e w' => e = .returned (.int .i64 (weightE t : Int)) ∧ Below w.heap.size w w') (fun k s ks lo hi ih cs w h hn => ?_) t
  rw [reR_iff] at h
  obtain ⟨h0, A, c, rfl, h1, h2, h3⟩ := h
  have hln := length_nodesL ks
  have hno : nodesE (.mk k s ks lo hi) = 1 + nodesL ks := by simp [nodesE]
  rw [hno] at hn
  clear hno
  have hli : (ks.length : Int) ≤ 1000000 := by omega
  unfold maxLen at h2
  have Hih := Lib.hid ih
  have H3 := Lib.hid h3
  clear ih h3
  have hwe : weightE (.mk k s ks lo hi) = (if k = 4 then min 5000 (weightL 0 ks * oftenE lo hi) else weightL 0 ks) + 1 := by simp [weightE]
  obtain ⟨res, hres⟩ : ∃ r, weightE (.mk k s ks lo hi) = r := ⟨_, rfl⟩
  rw [hres]
  rw [hwe] at hres
  have Hres := Lib.hid hres
  clear hwe hres
  obtain ⟨-, -, hlo, hhi⟩ := h0
  unfold isInt at hlo hhi
  unfold reV reCells
  have hB := Blk.new w 27 #[.int .i64 k, .int .u64 (wordB s 0 : Int), .int .u64 (wordB s 1 : Int), .int .u64 (wordB s 2 : Int), .int .u64 (wordB s 3 : Int), .slice A ks.length c, .int .i64 lo, .int .i64 hi]
  go_enter Tryd.func36, Tryd.ntmps36
  go_wp2
  go_loopw [3, 4] (fun n i wr => ∃ j : Nat, j ≤ ks.length ∧ i = .int .i64 (j : Int) ∧ n = .int .i64 ((weightL 0 (ks.take j) : Nat) : Int) ∧ Blk wr w.heap.size 27 #[.int .i64 k, .int .u64 (wordB s 0 : Int), .int .u64 (wordB s 1 : Int), .int .u64 (wordB s 2 : Int), .int .u64 (wordB s 3 : Int), .slice A ks.length c, .int .i64 lo, .int .i64 hi] ∧ Below w.heap.size w wr) (fun _ i _ => ks.length - (intOf i).toNat)
  case atStart => exact ⟨0, Nat.zero_le _, rfl, by simp [weightL], hB, (Below.refl _ _).alloc (Nat.le_refl _) _⟩
  case round =>
    obtain ⟨j, hj, rfl, rfl, hB, hb⟩ := hrel
    have c5 := hB.cell 5
    by_cases hlt : j < ks.length
    · have hji : (j : Int) < (ks.length : Int) := by omega
      obtain ⟨g, o, u0, u1, u2, u3, u4, u5, u6, u7, rfl, hr, x0, x1, x2, x3, x4, x5, x6, x7, -⟩ := (H3.out.ext hb).kid hlt
      have hsum := weightL_take 0 ks j hlt
      have hmem := nodesL_mem (List.getElem_mem hlt)
      have hcall : ∀ W, Below wr.heap.size wr W → Calls Tryd.prog 36 #[.agg #[u0, u1, u2, u3, u4, u5, u6, u7]] W fun e w' => e = .returned (.int .i64 (weightE ks[j] : Int)) ∧ Below W.heap.size W w' := fun W hW =>
        Hih.out _ (List.getElem_mem hlt) _ W (hr.ext hW) (by omega)
      have hb1 := weightL_le 0 (ks.take j) (by omega)
      have hb2 := weightE_le ks[j]
      have Hc := Lib.hid hcall
      have HB := Lib.hid hB
      obtain ⟨p, hp⟩ : ∃ p, weightL 0 (ks.take j) = p := ⟨_, rfl⟩
      obtain ⟨q, hq⟩ : ∃ q, weightE ks[j] = q := ⟨_, rfl⟩
      rw [hp] at hsum hb1 ⊢
      rw [hq] at hsum Hc hb2
      have HP := Lib.hid hr
      clear hcall hB hr hp hq c5
      have c5 := HB.out.cell 5
      rcases Nat.lt_or_ge (p + q) 5000 with hm | hm
      · rw [Nat.min_eq_right (by omega)] at hsum
        have Hs := Lib.hid hsum
        have hmi : (p : Int) + (q : Int) < 5000 := by omega
        clear hsum
        go_wp2_with fail
        refine (Hc.out _ (Below.refl _ _)).mono ?_
        rintro e w2 ⟨rfl, hbb⟩
        go_wp2
        go_roundw
        case rel => exact ⟨j + 1, by omega, by go_num, by (rw [Hs.out]; exact int_eq (by omega)), HB.out.ext hbb, ext_trans hb hbb⟩
        case measure => simp [intOf]; omega
      · rw [Nat.min_eq_left hm] at hsum
        have Hs := Lib.hid hsum
        have hmi : (5000 : Int) ≤ (p : Int) + (q : Int) := by omega
        clear hsum
        go_wp2_with fail
        refine (Hc.out _ (Below.refl _ _)).mono ?_
        rintro e w2 ⟨rfl, hbb⟩
        go_wp2
        go_roundw
        case rel => exact ⟨j + 1, by omega, by go_num, by (rw [Hs.out]; rfl), HB.out.ext hbb, ext_trans hb hbb⟩
        case measure => simp [intOf]; omega
    · obtain rfl : j = ks.length := by omega
      rw [List.take_length]
      have hbw := weightL_le 0 ks (by omega)
      have c0 := hB.cell 0
      have c6 := hB.cell 6
      have c7 := hB.cell 7
      by_cases hk4 : k = 4
      · subst hk4
        obtain ⟨M1, hM1⟩ : ∃ M, (if lo < hi then hi else lo) = M := ⟨_, rfl⟩
        obtain ⟨M2, hM2⟩ : ∃ M, (if M1 < 1 then 1 else M1) = M := ⟨_, rfl⟩
        have hM3 : (if M2 < 100 then M2 else 100) = (oftenE lo hi : Int) := by
          unfold oftenE
          rw [← hM2, ← hM1]
          split <;> split <;> split <;> omega
        have hol := often_le lo hi
        obtain ⟨O, hO⟩ : ∃ O, oftenE lo hi = O := ⟨_, rfl⟩
        obtain ⟨q, hq⟩ : ∃ q, weightL 0 ks = q := ⟨_, rfl⟩
        have H' := Hres.out
        rw [hO] at hM3 hol H'
        rw [hq] at hbw H' ⊢
        clear Hres hO hq
        have hpl : q * O ≤ 5000 * 100 := Nat.mul_le_mul hbw hol
        obtain ⟨x, hx⟩ : ∃ x, q * O = x := ⟨_, rfl⟩
        have hxi : (q : Int) * (O : Int) = (x : Int) := by rw [← hx]; simp
        rw [hx] at hpl H'
        have Hres := Lib.hid H'
        clear H' hx hol
        rcases Nat.lt_or_ge x 5000 with hm | hm
        · have hmi : (x : Int) < 5000 := by omega
          go_wp2
          go_ret
          exact ⟨ret_eq (by rw [← Hres.out, if_pos trivial, Nat.min_eq_right (by omega)]; simp), hb⟩
        · have hmi : (5000 : Int) ≤ (x : Int) := by omega
          go_wp2
          go_ret
          exact ⟨ret_eq (by rw [← Hres.out, if_pos trivial, Nat.min_eq_left hm]; rfl), hb⟩
      · go_wp2
        go_ret
        exact ⟨ret_eq (by rw [← Hres.out, if_neg hk4]; simp), hb⟩

set_option maxHeartbeats 1000000 in
theorem rnest_any (S : Nat → Prop) (t : Ex) : ∀ (cs : List Value) (w : World), ReR S w t cs → nodesE t ≤ 1000000 →
    Calls Tryd.prog 43 #[reV cs] w fun e w' => e = .returned (.int .i64 (nestE t : Int)) ∧ Below w.heap.size w w' := by
  refine ex_induct (p := fun t => ∀ (cs : List Value) (w : World), ReR S w t cs → nodesE t ≤ 1000000 → Calls Tryd.prog 43 #[reV cs] w fun e w' => e = .returned (.int .i64 (nestE t : Int)) ∧ Below w.heap.size w w') (fun k s ks lo hi ih cs w h hn => ?_) t
  rw [reR_iff] at h
  obtain ⟨h0, A, c, rfl, h1, h2, h3⟩ := h
  have hln := length_nodesL ks
  have hno : nodesE (.mk k s ks lo hi) = 1 + nodesL ks := by simp [nodesE]
  rw [hno] at hn
  clear hno
  have hli : (ks.length : Int) ≤ 1000000 := by omega
  unfold maxLen at h2
  have Hih := Lib.hid ih
  have H3 := Lib.hid h3
  clear ih h3
  have hwe : nestE (.mk k s ks lo hi) = nestL 0 ks + (if k = 4 then 1 else 0) := by simp [nestE]
  obtain ⟨res, hres⟩ : ∃ r, nestE (.mk k s ks lo hi) = r := ⟨_, rfl⟩
  rw [hres]
  rw [hwe] at hres
  have Hres := Lib.hid hres
  clear hwe h0 hres
  unfold reV reCells
  have hB := Blk.new w 27 #[.int .i64 k, .int .u64 (wordB s 0 : Int), .int .u64 (wordB s 1 : Int), .int .u64 (wordB s 2 : Int), .int .u64 (wordB s 3 : Int), .slice A ks.length c, .int .i64 lo, .int .i64 hi]
  go_enter Tryd.func43, Tryd.ntmps43
  go_wp2
  go_loopw [3, 4] (fun n i wr => ∃ j : Nat, j ≤ ks.length ∧ i = .int .i64 (j : Int) ∧ n = .int .i64 ((nestL 0 (ks.take j) : Nat) : Int) ∧ Blk wr w.heap.size 27 #[.int .i64 k, .int .u64 (wordB s 0 : Int), .int .u64 (wordB s 1 : Int), .int .u64 (wordB s 2 : Int), .int .u64 (wordB s 3 : Int), .slice A ks.length c, .int .i64 lo, .int .i64 hi] ∧ Below w.heap.size w wr) (fun _ i _ => ks.length - (intOf i).toNat)
  case atStart => exact ⟨0, Nat.zero_le _, rfl, by simp [nestL], hB, (Below.refl _ _).alloc (Nat.le_refl _) _⟩
  case round =>
    obtain ⟨j, hj, rfl, rfl, hB, hb⟩ := hrel
    have c5 := hB.cell 5
    by_cases hlt : j < ks.length
    · have hji : (j : Int) < (ks.length : Int) := by omega
      obtain ⟨g, o, u0, u1, u2, u3, u4, u5, u6, u7, rfl, hr, x0, x1, x2, x3, x4, x5, x6, x7, -⟩ := (H3.out.ext hb).kid hlt
      have hsum := nestL_take 0 ks j hlt
      have hmem := nodesL_mem (List.getElem_mem hlt)
      have hcall : ∀ W, Below wr.heap.size wr W → Calls Tryd.prog 43 #[.agg #[u0, u1, u2, u3, u4, u5, u6, u7]] W fun e w' => e = .returned (.int .i64 (nestE ks[j] : Int)) ∧ Below W.heap.size W w' := fun W hW =>
        Hih.out _ (List.getElem_mem hlt) _ W (hr.ext hW) (by omega)
      have hb1 : nestL 0 (ks.take j) ≤ 1000000 := by
        have := nestL_le (ks.take j) 0 (fun x _ => nestE_le x)
        have := nodesL_take_le ks j
        omega
      have hb2 : nestE ks[j] ≤ 1000000 := by
        have := nestE_le ks[j]
        omega
      have Hc := Lib.hid hcall
      have HB := Lib.hid hB
      obtain ⟨p, hp⟩ : ∃ p, nestL 0 (ks.take j) = p := ⟨_, rfl⟩
      obtain ⟨q, hq⟩ : ∃ q, nestE ks[j] = q := ⟨_, rfl⟩
      rw [hp] at hsum hb1 ⊢
      rw [hq] at hsum Hc hb2
      have Hs := Lib.hid hsum
      clear hsum hcall hB hr hp hq c5
      have c5 := HB.out.cell 5
      go_wp2_with fail
      refine (Hc.out _ (Below.refl _ _)).mono ?_
      rintro e w2 ⟨rfl, hbb⟩
      go_wp2
      all_goals
        go_roundw
        case rel => exact ⟨j + 1, by omega, by go_num, by (rw [Hs.out]; exact int_eq (by omega)), HB.out.ext hbb, ext_trans hb hbb⟩
        case measure => simp [intOf]; omega
    · obtain rfl : j = ks.length := by omega
      rw [List.take_length]
      have hbw : nestL 0 ks ≤ 1000000 := by
        have := nestL_le ks 0 (fun x _ => nestE_le x)
        omega
      have c0 := hB.cell 0
      by_cases hk4 : k = 4
      · subst hk4
        go_wp2
        go_ret
        exact ⟨ret_eq (by rw [← Hres.out]; simp), hb⟩
      · go_wp2
        go_ret
        exact ⟨ret_eq (by rw [← Hres.out, if_neg hk4]; simp), hb⟩
end Go.Proofs.YtgknlegomoaoeaaDoor

/-
  Contracts of the reference's Is, Print. No statement of the seat is proved here.
-/
namespace Go.Proofs.YtgknlegomoaoeaaDoor
open Go Go.RowKit
set_option maxRecDepth 100000


/-- an expression's fields told -/
theorem ReR.fields {S : Nat → Prop} {w : World} {t : Ex} {cs : List Value} (h : ReR S w t cs) :
    ∃ k p0 p1 p2 p3 ks A c lo hi, t = .mk k [p0, p1, p2, p3] ks lo hi ∧ cs = [.int .i64 k, .int .u64 ((p0 : Nat) : Int), .int .u64 ((p1 : Nat) : Int), .int .u64 ((p2 : Nat) : Int), .int .u64 ((p3 : Nat) : Int), .slice A ks.length c, .int .i64 lo, .int .i64 hi] ∧ ks.length ≤ c ∧ c ≤ maxLen ∧ isInt k ∧ isInt lo ∧ isInt hi ∧ SetOk [p0, p1, p2, p3] ∧ Kids S w A ks := by
  cases t with
  | mk k s ks lo hi =>
    rw [reR_iff] at h
    obtain ⟨⟨h0, hs, h6, h7⟩, A, c, rfl, h1, h2, h3⟩ := h
    obtain ⟨p0, p1, p2, p3, rfl⟩ := four_words hs
    exact ⟨k, p0, p1, p2, p3, ks, A, c, lo, hi, rfl, rfl, h1, h2, h0, h6, h7, hs, h3⟩

set_option maxHeartbeats 2000000 in
theorem ris_any (S : Nat → Prop) (t : Ex) (cs : List Value) (w : World) (h : ReR S w t cs) (hn : nodesE t ≤ 1000000) :
    Calls Tryd.prog 15 #[reV cs] w fun e w' => e = .returned (.bool (isE t)) ∧ Below w.heap.size w w' := by
  have hO : ∀ W, Below w.heap.size w W → Calls Tryd.prog 41 #[reV cs, .int .i64 ((1 : Nat) : Int)] W fun e w' => e = .returned (.bool (oneE 1 t)) ∧ Below W.heap.size W w' := fun W hW => rone_any S t cs W 1 (h.ext hW) hn (by omega)
  have hN : ∀ W, Below w.heap.size w W → Calls Tryd.prog 42 #[reV cs] W fun e w' => e = .returned (.int .i64 (nodesE t : Int)) ∧ Below W.heap.size W w' := fun W hW => rnodes_any S t cs W (h.ext hW) hn
  have hG : ∀ W, Below w.heap.size w W → Calls Tryd.prog 36 #[reV cs] W fun e w' => e = .returned (.int .i64 (weightE t : Int)) ∧ Below W.heap.size W w' := fun W hW => rweight_any S t cs W (h.ext hW) hn
  have hE : ∀ W, Below w.heap.size w W → Calls Tryd.prog 43 #[reV cs] W fun e w' => e = .returned (.int .i64 (nestE t : Int)) ∧ Below W.heap.size W w' := fun W hW => rnest_any S t cs W (h.ext hW) hn
  have hT : oneE 1 t = true → ∀ W, Below w.heap.size w W → Calls Tryd.prog 44 #[reV cs] W fun e w' => e = .returned (.string (bsN (textE t))) ∧ Below W.heap.size W w' := fun ho W hW => rtext_any S t cs W 1 (h.ext hW) hn ho
  have hl := textE_len t
  have hw := weightE_le t
  have hne := nestE_le t
  have hsz := bsN_size (textE t)
  obtain ⟨r, hr⟩ : ∃ r, isE t = r := ⟨_, rfl⟩
  rw [hr]
  unfold isE at hr
  obtain ⟨k, p0, p1, p2, p3, ks, A, c, lo, hi, rfl, rfl, h1, h2, hk, hlo, hhi, hs, h3⟩ := h.fields
  generalize Ex.mk k [p0, p1, p2, p3] ks lo hi = t at *
  clear h hk hlo hhi hs h3 
  obtain ⟨a, ha⟩ : ∃ a, nodesE t = a := ⟨_, rfl⟩
  obtain ⟨b, hb⟩ : ∃ b, weightE t = b := ⟨_, rfl⟩
  obtain ⟨d, hd⟩ : ∃ d, nestE t = d := ⟨_, rfl⟩
  obtain ⟨q, hq⟩ : ∃ q, (textE t).length = q := ⟨_, rfl⟩
  obtain ⟨ob, hob⟩ : ∃ o, oneE 1 t = o := ⟨_, rfl⟩
  generalize bsN (textE t) = Z at hT hsz
  rw [ha, hb, hd, hq, hob] at hr
  rw [ha] at hn hN hne hl
  rw [hb] at hG hw
  rw [hd] at hE hne
  rw [hq] at hl hsz
  rw [hob] at hO hT
  clear ha hb hd hq hob
  have HO := Lib.hid hO
  have HN := Lib.hid hN
  have HG := Lib.hid hG
  have HE := Lib.hid hE
  have HT := Lib.hid hT
  have Hr := Lib.hid hr
  have Hsz := Lib.hid hsz
  have hB := Blk.new w 27 #[.int .i64 k, .int .u64 (p0 : Int), .int .u64 (p1 : Int), .int .u64 (p2 : Int), .int .u64 (p3 : Int), .slice A ks.length c, .int .i64 lo, .int .i64 hi]
  have hba : Below w.heap.size w (w.alloc (Obj.cells #[.int .i64 k, .int .u64 (p0 : Int), .int .u64 (p1 : Int), .int .u64 (p2 : Int), .int .u64 (p3 : Int), .slice A ks.length c, .int .i64 lo, .int .i64 hi] 27)) := (Below.refl _ _).alloc (Nat.le_refl _) _
  have HB := Lib.hid hB
  have Hba := Lib.hid hba
  clear hO hN hG hE hT hr hsz hB hba
  unfold maxLen at h2
  have hzi : Z.size ≤ 2420000000 := by rw [Hsz.out]; omega
  show Calls Tryd.prog 15 #[.agg #[.int .i64 k, .int .u64 (p0 : Int), .int .u64 (p1 : Int), .int .u64 (p2 : Int), .int .u64 (p3 : Int), .slice A ks.length c, .int .i64 lo, .int .i64 hi]] w _
  unfold reV at HO HN HG HE HT
  simp only [List.toArray] at HO
  go_enter Tryd.func15, Tryd.ntmps15
  go_wp2_with fail
  refine (HO.out _ Hba.out).mono ?_
  rintro e w2 ⟨rfl, hb2⟩
  have HB2 := Lib.hid (HB.out.ext hb2)
  have Hb2 := Lib.hid (ext_trans Hba.out hb2)
  clear hb2
  cases ob with
  | false =>
    go_wp2
    go_ret
    exact ⟨ret_bool (by rw [← Hr.out]; simp), Hb2.out⟩
  | true =>
  have c0 := HB2.out.cell 0
  have c1 := HB2.out.cell 1
  have c2 := HB2.out.cell 2
  have c3 := HB2.out.cell 3
  have c4 := HB2.out.cell 4
  have c5 := HB2.out.cell 5
  have c6 := HB2.out.cell 6
  have c7 := HB2.out.cell 7
  go_wp2_with fail
  refine (HN.out _ Hb2.out).mono ?_
  rintro e w3 ⟨rfl, hb3⟩
  have HB3 := Lib.hid (HB2.out.ext hb3)
  have Hb3 := Lib.hid (ext_trans Hb2.out hb3)
  clear hb3 c0 c1 c2 c3 c4 c5 c6 c7
  rcases Nat.lt_or_ge 128 a with hx | hx
  · have hxi : (128 : Int) < (a : Int) := by omega
    go_wp2
    go_ret
    exact ⟨ret_bool (by rw [← Hr.out]; simp; omega), Hb3.out⟩
  have hxi2 : (a : Int) ≤ 128 := by omega
  have c0 := HB3.out.cell 0
  have c1 := HB3.out.cell 1
  have c2 := HB3.out.cell 2
  have c3 := HB3.out.cell 3
  have c4 := HB3.out.cell 4
  have c5 := HB3.out.cell 5
  have c6 := HB3.out.cell 6
  have c7 := HB3.out.cell 7
  go_wp2_with fail
  refine (HG.out _ Hb3.out).mono ?_
  rintro e w4 ⟨rfl, hb4⟩
  have HB4 := Lib.hid (HB3.out.ext hb4)
  have Hb4 := Lib.hid (ext_trans Hb3.out hb4)
  clear hb4 c0 c1 c2 c3 c4 c5 c6 c7
  rcases Nat.lt_or_ge 1024 b with hx | hx
  · have hxi : (1024 : Int) < (b : Int) := by omega
    go_wp2
    go_ret
    exact ⟨ret_bool (by rw [← Hr.out]; simp; omega), Hb4.out⟩
  have hxi3 : (b : Int) ≤ 1024 := by omega
  have c0 := HB4.out.cell 0
  have c1 := HB4.out.cell 1
  have c2 := HB4.out.cell 2
  have c3 := HB4.out.cell 3
  have c4 := HB4.out.cell 4
  have c5 := HB4.out.cell 5
  have c6 := HB4.out.cell 6
  have c7 := HB4.out.cell 7
  go_wp2_with fail
  refine (HE.out _ Hb4.out).mono ?_
  rintro e w5 ⟨rfl, hb5⟩
  have HB5 := Lib.hid (HB4.out.ext hb5)
  have Hb5 := Lib.hid (ext_trans Hb4.out hb5)
  clear hb5 c0 c1 c2 c3 c4 c5 c6 c7
  rcases Nat.lt_or_ge 4 d with hx | hx
  · have hxi : (4 : Int) < (d : Int) := by omega
    go_wp2
    go_ret
    exact ⟨ret_bool (by rw [← Hr.out]; simp; omega), Hb5.out⟩
  have hxi4 : (d : Int) ≤ 4 := by omega
  have c0 := HB5.out.cell 0
  have c1 := HB5.out.cell 1
  have c2 := HB5.out.cell 2
  have c3 := HB5.out.cell 3
  have c4 := HB5.out.cell 4
  have c5 := HB5.out.cell 5
  have c6 := HB5.out.cell 6
  have c7 := HB5.out.cell 7
  go_wp2_with fail
  refine (HT.out (by trivial) _ Hb5.out).mono ?_
  rintro e w6 ⟨rfl, hb6⟩
  have HB6 := Lib.hid (HB5.out.ext hb6)
  have Hb6 := Lib.hid (ext_trans Hb5.out hb6)
  clear hb6 c0 c1 c2 c3 c4 c5 c6 c7
  have hsz := Hsz.out
  rcases Nat.lt_or_ge 1024 q with hx | hx
  · have hxi : 1024 < Z.size := by omega
    clear hsz
    go_wp2
    go_ret
    exact ⟨ret_bool (by rw [← Hr.out]; have hsz := Hsz.out; rw [Bool.eq_iff_iff]; simp only [Bool.and_eq_true, Bool.true_and, decide_eq_true_eq]; omega), Hb6.out⟩
  have hxi5 : Z.size ≤ 1024 := by omega
  clear hsz
  go_wp2
  go_ret
  exact ⟨ret_bool (by rw [← Hr.out]; have hsz := Hsz.out; rw [Bool.eq_iff_iff]; simp only [Bool.and_eq_true, Bool.true_and, decide_eq_true_eq]; omega), Hb6.out⟩
end Go.Proofs.YtgknlegomoaoeaaDoor

/-
  Contracts of the reference's Class, Seq, Alt, Text. No statement of the seat is proved here.
-/
namespace Go.Proofs.YtgknlegomoaoeaaDoor
open Go Go.RowKit
set_option maxRecDepth 100000


/-- cells that are an expression, which holds no rows -/
theorem reR_leaf {S : Nat → Prop} (w : World) {k : Int} {p0 p1 p2 p3 : Nat} (hk : isInt k) (hs : SetOk [p0, p1, p2, p3]) : ReR S w (.mk k [p0, p1, p2, p3] [] 0 0) [.int .i64 k, .int .u64 (p0 : Int), .int .u64 (p1 : Int), .int .u64 (p2 : Int), .int .u64 (p3 : Int), .slice none 0 0, .int .i64 0, .int .i64 0] := by
  rw [reR_iff]
  exact ⟨⟨hk, hs, by unfold isInt; omega, by unfold isInt; omega⟩, none, 0, rfl, by simp, by simp [maxLen], fun k hk => absurd hk (by simp)⟩
theorem reR_row {S : Nat → Prop} {w : World} {k : Int} {A : Option Addr} {l : List Ex} {c : Nat} (hk : isInt k) (h1 : l.length ≤ c) (h2 : c ≤ maxLen) (h : Kids S w A l) :
    ReR S w (.mk k zeroB l 0 0) [.int .i64 k, .int .u64 0, .int .u64 0, .int .u64 0, .int .u64 0, .slice A l.length c, .int .i64 0, .int .i64 0] := by
  rw [reR_iff]
  exact ⟨⟨hk, zero_ok, by unfold isInt; omega, by unfold isInt; omega⟩, A, c, rfl, h1, h2, h⟩

set_option maxHeartbeats 1000000 in
theorem rclass_any (ws : List Nat) (hs : SetOk ws) (w : World) : Calls Tryd.prog 34 #[setV ws] w fun e w' => ∃ cs, e = .returned (reV cs) ∧ (∀ S W, ReR S W (classE ws) cs) ∧ Below w.heap.size w w' := by
  obtain ⟨p0, p1, p2, p3, rfl⟩ := four_words hs
  have h : ∀ S W, ReR S W (classE [p0, p1, p2, p3]) [.int .i64 1, .int .u64 (p0 : Int), .int .u64 (p1 : Int), .int .u64 (p2 : Int), .int .u64 (p3 : Int), .slice none 0 0, .int .i64 0, .int .i64 0] := fun S W => reR_leaf W (by unfold isInt; omega) hs
  have H := Lib.hid h
  clear h hs
  show Calls Tryd.prog 34 #[.agg #[.int .u64 (p0 : Int), .int .u64 (p1 : Int), .int .u64 (p2 : Int), .int .u64 (p3 : Int)]] w _
  go_enter Tryd.func34, Tryd.ntmps34
  go_wp2
  refine bodyPost_ret (v := .agg #[.int .i64 1, .int .u64 (p0 : Int), .int .u64 (p1 : Int), .int .u64 (p2 : Int), .int .u64 (p3 : Int), .slice none 0 0, .int .i64 0, .int .i64 0]) (by simp [results, Tryd.results34, go_sem]) rfl ⟨_, rfl, H.out, ext2 w _ _⟩

set_option maxHeartbeats 1000000 in
theorem rseq_any (S : Nat → Prop) (A : Option Addr) (n c : Nat) (l : List Ex) (w : World) (hn : n = l.length) (h1 : l.length ≤ c) (h2 : c ≤ maxLen) (h : Kids S w A l) :
    Calls Tryd.prog 57 #[.slice A n c] w fun e w' => ∃ cs, e = .returned (reV cs) ∧ ReR S w' (seqE l) cs ∧ Below w.heap.size w w' := by
  subst hn
  have h3 := h2
  unfold maxLen at h3
  match l, h1, h with
  | [], h1, h =>
    have hw : ∀ W, ReR S W (seqE []) [.int .i64 0, .int .u64 0, .int .u64 0, .int .u64 0, .int .u64 0, .slice none 0 0, .int .i64 0, .int .i64 0] := fun W => reR_leaf W (by unfold isInt; omega) zero_ok
    have H := Lib.hid hw
    clear hw h
    go_enter Tryd.func57, Tryd.ntmps57
    go_wp2
    refine bodyPost_ret (v := .agg #[.int .i64 0, .int .u64 0, .int .u64 0, .int .u64 0, .int .u64 0, .slice none 0 0, .int .i64 0, .int .i64 0]) (by simp [results, Tryd.results57, go_sem]) rfl ⟨_, rfl, H.out _, (Below.refl _ _).alloc (Nat.le_refl _) _⟩
  | [x], h1, h =>
    obtain ⟨g, o, k', q0, q1, q2, q3, ks', A', c', lo', hi', rfl, hx, hr, x0, x1, x2, x3, x4, x5, x6, x7, -⟩ := h.kidX (k := 0) (by simp)
    rw [Nat.zero_mul, Nat.add_zero] at x0 x1 x2 x3 x4 x5 x6 x7
    have hr' : ReR S w (seqE [x]) _ := hr
    have H := Lib.hid hr'
    have hba : Below w.heap.size w (w.alloc (Obj.cells #[.int .i64 0, .int .u64 0, .int .u64 0, .int .u64 0, .int .u64 0, .slice none 0 0, .int .i64 0, .int .i64 0] 27)) := (Below.refl _ _).alloc (Nat.le_refl _) _
    have f := fun (ad : Addr) (v : Value) (h : w.cell? ad = some v) => (World.cell?_of_block (a := ad) (hba.block _ (World.block_lt_of_cell? w ad h))).trans h
    have y0 := f _ _ x0
    have y1 := f _ _ x1
    have y2 := f _ _ x2
    have y3 := f _ _ x3
    have y4 := f _ _ x4
    have y5 := f _ _ x5
    have y6 := f _ _ x6
    have y7 := f _ _ x7
    clear hx hr hr' h f hba x0 x1 x2 x3 x4 x5 x6 x7
    go_enter Tryd.func57, Tryd.ntmps57
    go_wp2
    refine bodyPost_ret (v := .agg #[.int .i64 k', .int .u64 (q0 : Int), .int .u64 (q1 : Int), .int .u64 (q2 : Int), .int .u64 (q3 : Int), .slice A' ks'.length c', .int .i64 lo', .int .i64 hi']) (by simp [results, Tryd.results57, go_sem]) rfl ⟨_, rfl, H.out.ext ((Below.refl _ _).alloc (Nat.le_refl _) _), (Below.refl _ _).alloc (Nat.le_refl _) _⟩
  | x :: y :: r, h1, h =>
    have hw : ∀ W, Below w.heap.size w W → ReR S W (seqE (x :: y :: r)) [.int .i64 2, .int .u64 0, .int .u64 0, .int .u64 0, .int .u64 0, .slice A (x :: y :: r).length c, .int .i64 0, .int .i64 0] := fun W hW => reR_row (by unfold isInt; omega) h1 h2 (h.ext hW)
    have H := Lib.hid hw
    have hl : (x :: y :: r).length = r.length + 2 := rfl
    rw [hl] at h1 ⊢ H
    have b0 : ((r.length + 2 : Nat) : Int) = (r.length : Int) + 2 := by omega
    have b1 : (((r.length + 2 : Nat) : Int) == 0) = false := by rw [beq_eq_false_iff_ne]; omega
    have b2 : (((r.length + 2 : Nat) : Int) == 1) = false := by rw [beq_eq_false_iff_ne]; omega
    generalize r.length + 2 = q at b0 b1 b2 h1 H ⊢
    clear hw h hl b0
    go_enter Tryd.func57, Tryd.ntmps57
    go_wp2
    refine bodyPost_ret (v := .agg #[.int .i64 2, .int .u64 0, .int .u64 0, .int .u64 0, .int .u64 0, .slice A q c, .int .i64 0, .int .i64 0]) (by simp [results, Tryd.results57, go_sem]) rfl ⟨_, rfl, H.out _ ((Below.refl _ _).alloc (Nat.le_refl _) _), (Below.refl _ _).alloc (Nat.le_refl _) _⟩

set_option maxHeartbeats 1000000 in
theorem ralt_any (S : Nat → Prop) (A : Option Addr) (n c : Nat) (l : List Ex) (w : World) (hn : n = l.length) (h1 : l.length ≤ c) (h2 : c ≤ maxLen) (h : Kids S w A l) :
    Calls Tryd.prog 76 #[.slice A n c] w fun e w' => ∃ cs, e = .returned (reV cs) ∧ ReR S w' (altE l) cs ∧ Below w.heap.size w w' := by
  subst hn
  have h3 := h2
  unfold maxLen at h3
  match l, h1, h with
  | [], h1, h =>
    have hw : ∀ W, ReR S W (altE []) [.int .i64 0, .int .u64 0, .int .u64 0, .int .u64 0, .int .u64 0, .slice none 0 0, .int .i64 0, .int .i64 0] := fun W => reR_leaf W (by unfold isInt; omega) zero_ok
    have H := Lib.hid hw
    clear hw h
    go_enter Tryd.func76, Tryd.ntmps76
    go_wp2
    refine bodyPost_ret (v := .agg #[.int .i64 0, .int .u64 0, .int .u64 0, .int .u64 0, .int .u64 0, .slice none 0 0, .int .i64 0, .int .i64 0]) (by simp [results, Tryd.results76, go_sem]) rfl ⟨_, rfl, H.out _, (Below.refl _ _).alloc (Nat.le_refl _) _⟩
  | [x], h1, h =>
    obtain ⟨g, o, k', q0, q1, q2, q3, ks', A', c', lo', hi', rfl, hx, hr, x0, x1, x2, x3, x4, x5, x6, x7, -⟩ := h.kidX (k := 0) (by simp)
    rw [Nat.zero_mul, Nat.add_zero] at x0 x1 x2 x3 x4 x5 x6 x7
    have hr' : ReR S w (altE [x]) _ := hr
    have H := Lib.hid hr'
    have hba : Below w.heap.size w (w.alloc (Obj.cells #[.int .i64 0, .int .u64 0, .int .u64 0, .int .u64 0, .int .u64 0, .slice none 0 0, .int .i64 0, .int .i64 0] 27)) := (Below.refl _ _).alloc (Nat.le_refl _) _
    have f := fun (ad : Addr) (v : Value) (h : w.cell? ad = some v) => (World.cell?_of_block (a := ad) (hba.block _ (World.block_lt_of_cell? w ad h))).trans h
    have y0 := f _ _ x0
    have y1 := f _ _ x1
    have y2 := f _ _ x2
    have y3 := f _ _ x3
    have y4 := f _ _ x4
    have y5 := f _ _ x5
    have y6 := f _ _ x6
    have y7 := f _ _ x7
    clear hx hr hr' h f hba x0 x1 x2 x3 x4 x5 x6 x7
    go_enter Tryd.func76, Tryd.ntmps76
    go_wp2
    refine bodyPost_ret (v := .agg #[.int .i64 k', .int .u64 (q0 : Int), .int .u64 (q1 : Int), .int .u64 (q2 : Int), .int .u64 (q3 : Int), .slice A' ks'.length c', .int .i64 lo', .int .i64 hi']) (by simp [results, Tryd.results76, go_sem]) rfl ⟨_, rfl, H.out.ext ((Below.refl _ _).alloc (Nat.le_refl _) _), (Below.refl _ _).alloc (Nat.le_refl _) _⟩
  | x :: y :: r, h1, h =>
    have hw : ∀ W, Below w.heap.size w W → ReR S W (altE (x :: y :: r)) [.int .i64 3, .int .u64 0, .int .u64 0, .int .u64 0, .int .u64 0, .slice A (x :: y :: r).length c, .int .i64 0, .int .i64 0] := fun W hW => reR_row (by unfold isInt; omega) h1 h2 (h.ext hW)
    have H := Lib.hid hw
    have hl : (x :: y :: r).length = r.length + 2 := rfl
    rw [hl] at h1 ⊢ H
    have b0 : ((r.length + 2 : Nat) : Int) = (r.length : Int) + 2 := by omega
    have b1 : (((r.length + 2 : Nat) : Int) == 0) = false := by rw [beq_eq_false_iff_ne]; omega
    have b2 : (((r.length + 2 : Nat) : Int) == 1) = false := by rw [beq_eq_false_iff_ne]; omega
    generalize r.length + 2 = q at b0 b1 b2 h1 H ⊢
    clear hw h hl b0
    go_enter Tryd.func76, Tryd.ntmps76
    go_wp2
    refine bodyPost_ret (v := .agg #[.int .i64 3, .int .u64 0, .int .u64 0, .int .u64 0, .int .u64 0, .slice A q c, .int .i64 0, .int .i64 0]) (by simp [results, Tryd.results76, go_sem]) rfl ⟨_, rfl, H.out _ ((Below.refl _ _).alloc (Nat.le_refl _) _), (Below.refl _ _).alloc (Nat.le_refl _) _⟩

/-- the bytes of a string, as numbers -/
def natsOf (s : ByteArray) : List Nat := s.data.toList.map (·.toNat)
theorem natsOf_len (s : ByteArray) : (natsOf s).length = s.size := by unfold natsOf; rw [List.length_map, Array.length_toList]; rfl
theorem natsOf_at (s : ByteArray) (k : Nat) (h : k < s.size) : (natsOf s)[k]'(by rw [natsOf_len]; exact h) = (s[k]'h).toNat := by
  simp only [natsOf, List.getElem_map]
  rfl
theorem natsOf_lt (s : ByteArray) : ∀ b ∈ natsOf s, b < 256 := by
  intro b hb
  obtain ⟨u, _, rfl⟩ := List.mem_map.1 hb
  exact u.toNat_lt
theorem eight_cells {α : Type} {l : List α} (h : l.length = 8) : ∃ a b c d e f g i, l = [a, b, c, d, e, f, g, i] := by
  match l, h with
  | [a, b, c, d, e, f, g, i], _ => exact ⟨a, b, c, d, e, f, g, i, rfl⟩

set_option maxHeartbeats 2000000 in
theorem rtextx_any (s : ByteArray) (w : World) (hs : s.size ≤ 1000000) :
    Calls Tryd.prog 32 #[.string s] w fun e w' => ∃ cs, e = .returned (reV cs) ∧ ReR (fun g => w.heap.size ≤ g) w' (textX (natsOf s)) cs ∧ Below w.heap.size w w' := by
  have hsi : (s.size : Int) ≤ 1000000 := by omega
  have hln := natsOf_len s
  go_enter Tryd.func32, Tryd.ntmps32
  go_wp2
  go_loopw [3, 4] (fun v i wr => ∃ (k : Nat) (A : Option Addr) (c : Nat), k ≤ s.size ∧ i = .int .i64 (k : Int) ∧ v = .slice A k c ∧ Hid (RowE (fun g => w.heap.size < g) wr A k c (((natsOf s).take k).map byteE)) ∧ Hid (∀ g, inA A g → w.heap.size < g) ∧ Blk wr w.heap.size 27 #[.int .i64 0, .int .u64 0, .int .u64 0, .int .u64 0, .int .u64 0, .slice none 0 0, .int .i64 0, .int .i64 0] ∧ Below w.heap.size w wr) (fun _ i _ => s.size - (intOf i).toNat)
  case atStart => exact ⟨0, none, 0, Nat.zero_le _, rfl, rfl, Lib.hid (RowE.none_ _ _), Lib.hid (fun g hg => absurd hg (inA_none g)), Blk.new _ _ _, (Below.refl _ _).alloc (Nat.le_refl _) _⟩
  case round =>
    obtain ⟨k, A, c, hk, rfl, rfl, hrow, hA, hB, hb⟩ := hrel
    by_cases hlt : k < s.size
    · have hki : (k : Int) < (s.size : Int) := by omega
      have hkl : k < (natsOf s).length := by omega
      have hbk := natsOf_at s k hlt
      have hb256 : (s[k]'hlt).toNat < 256 := (s[k]'hlt).toNat_lt
      have htk : ((natsOf s).take (k + 1)).map byteE = ((natsOf s).take k).map byteE ++ [byteE (s[k]'hlt).toNat] := by
        rw [List.take_succ_eq_append_getElem hkl, List.map_append, hbk]; rfl
      have Htk := Lib.hid htk
      have HB := Lib.hid hB
      have hm1 : k + 1 ≤ maxLen := by unfold maxLen; omega
      have hm2 : (k + 1) * 80 ≤ 140737488355328 := by omega
      obtain ⟨b, hbe⟩ : ∃ b, (s[k]'hlt).toNat = b := ⟨_, rfl⟩
      rw [hbe] at hb256 Htk
      have hbi : ((s[k]'hlt).toNat : Int) = (b : Int) := by rw [hbe]
      have hOf : Calls Tryd.prog 56 #[.slice (some ⟨wr.heap.size, 0, none⟩) 1 1] (wr.alloc (Obj.cells #[.int .u8 (b : Int)] 5)) fun e w' => e = .returned (setV (ofB [b])) ∧ Below (wr.alloc (Obj.cells #[.int .u8 (b : Int)] 5)).heap.size (wr.alloc (Obj.cells #[.int .u8 (b : Int)] 5)) w' :=
        rof_any _ 1 1 [b] _ rfl (by simpa using hb256) (by simp) (Rd.lit wr #[.int .u8 (b : Int)] 5)
      have hCl := fun W => rclass_any (ofB [b]) (ofB_ok _) W
      have HOf := Lib.hid hOf
      have HCl := Lib.hid hCl
      have Hm1 := Lib.hid hm1
      have Hm2 := Lib.hid hm2
      have hba : Below wr.heap.size wr (wr.alloc (Obj.cells #[.int .u8 (b : Int)] 5)) := (Below.refl _ _).alloc (Nat.le_refl _) _
      have Hba := Lib.hid hba
      clear hOf hCl hm1 hm2 htk hbk hbe hkl hB hba
      go_wp2_with fail
      refine HOf.out.mono ?_
      rintro e w2 ⟨rfl, hb2⟩
      go_wp2_with fail
      refine (HCl.out _).mono ?_
      rintro e w3 ⟨cs, rfl, hcs, hb3⟩
      have h8 := (hcs (fun _ => True) w3).size
      obtain ⟨u0, u1, u2, u3, u4, u5, u6, u7, rfl⟩ := eight_cells h8
      have Hcs := Lib.hid hcs
      have hb13 := ext_trans (ext_trans Hba.out hb2) hb3
      have hrow3 := hrow.out.ext hb13
      obtain ⟨xs, hxs, hxl, hxp⟩ := hrow3.ext ((Below.refl w3.heap.size w3).alloc (Nat.le_refl _) (Obj.cells #[u0, u1, u2, u3, u4, u5, u6, u7] 27))
      have Hxs := Lib.hid hxs
      have Hxp := Lib.hid hxp
      have Hxl := Lib.hid hxl
      have H13 := Lib.hid hb13
      clear hcs h8 hrow3 hxs hxp hxl hb13 hb2 hb3
      unfold reV
      go_wp2_with (refine wpList_appO _ rfl (.tmp 11) (.tmp 18) _ rfl _ _ 8 80 Tryd.underlying25 info_re rfl A k c xs rfl Hxs.out (some ⟨w3.heap.size, 0, none⟩) 1 1 [u0, u1, u2, u3, u4, u5, u6, u7] rfl rfl (Rd.lit w3 #[u0, u1, u2, u3, u4, u5, u6, u7] 27) (Hcs.out (fun _ => True) w3).one (by intro h; cases h) Hm1.out Hm2.out ?_; intro A' c' w4 hrow4 honly hA')
      have hN := RowE.grow (x := byteE b) (Hcs.out _ _) Hxs.out Hxl.out Hxp.out hrow4 honly hA'
      have hb4 : Below w.heap.size w w4 := (ext_trans hb H13.out |>.alloc (by have := (ext_trans hb H13.out).size; omega) _).trans (honly.below (fun g hg => Nat.le_of_lt (hA.out g hg)) (by have := (ext_trans hb H13.out).size; simp; omega))
      have HN := Lib.hid hN
      have Hb4 := Lib.hid hb4
      have hA4 : ∀ g, inA A' g → w.heap.size < g := fun g hg => (hA' g hg).elim (hA.out g) (fun h => by have := HB.out.lt; have := H13.out.size; have := h.1; simp at this; omega)
      have hB4 := ((HB.out.ext H13.out).alloc (Obj.cells #[u0, u1, u2, u3, u4, u5, u6, u7] 27)).only honly (fun h => Nat.lt_irrefl _ (hA.out _ h))
      have HA4 := Lib.hid hA4
      have HB4 := Lib.hid hB4
      clear hN hb4 hA4 hB4 hrow4 honly hA'
      go_wp2
      go_roundw
      case rel => exact ⟨k + 1, A', c', by omega, by go_num, rfl, Lib.hid (by rw [Htk.out]; exact HN.out), HA4, HB4.out, Hb4.out⟩
      case measure => simp [intOf]; omega
    · obtain rfl : k = s.size := by omega
      have hrow' := hrow.out
      rw [List.take_of_length_le (by omega)] at hrow'
      have hl := hrow'.len
      have hS := fun W (hW : Below wr.heap.size wr W) => rseq_any (fun g => w.heap.size < g) A s.size c ((natsOf s).map byteE) W (by simp [hln]) (by rw [hl]; exact hrow'.le) hrow'.cap ((hrow'.ext hW).kids fun g hg hl => hg.elim id (fun h => hA.out g h))
      have HS := Lib.hid hS
      have HB := Lib.hid hB
      clear hS hl hrow' hB
      go_wp2_with fail
      refine (HS.out _ (Below.refl _ _)).mono ?_
      rintro e w2 ⟨cs, rfl, hcs, hb2⟩
      have h8 := hcs.size
      obtain ⟨k', q0, q1, q2, q3, ks', A', c', lo', hi', hte, rfl, -⟩ := hcs.fields
      have Hcs := Lib.hid hcs
      have HB2 := HB.out.ext hb2
      have hone : (#[.int .i64 k', .int .u64 (q0 : Int), .int .u64 (q1 : Int), .int .u64 (q2 : Int), .int .u64 (q3 : Int), .slice A' ks'.length c', .int .i64 lo', .int .i64 hi'] : Array Value).all (·.oneCell') = true := by simp [Value.oneCell']
      clear hcs h8 hte
      unfold reV
      go_wp2_with (refine wpList_store_re rfl _ _ rfl w.heap.size rfl rfl rfl rfl hone HB2 ?_; intro w3 hB3 ho3)
      refine bodyPost_ret (results_re rfl _ _ w.heap.size _ _ rfl hB3 rfl) rfl ⟨_, rfl, ?_, ?_⟩
      · exact ReR.mono (Hcs.out.only ho3 fun g hg h => by omega) fun g hg _ => Nat.le_of_lt hg
      · exact (ext_trans hb hb2).trans (ho3.below (fun i hi => by omega) (by have := (ext_trans hb hb2).size; omega))
end Go.Proofs.YtgknlegomoaoeaaDoor

/-
  Words and mathematics shared by the two parsers. No statement of the seat is proved here.
-/
namespace Go.Proofs.YtgknlegomoaoeaaDoor
open Go Go.RowKit
set_option maxRecDepth 100000
/-- the byte that is next is this one -/
def isNext (c : Nat) (l : List Nat) : Bool := l.head? == some c
theorem take_list {α : Type} {l r : List α} {i : Nat} {x : α} (h : l.drop i = x :: r) : (l.toArray)[i]? = some x := by
  have := congrArg List.head? h
  rw [List.head?_drop] at this
  simpa using this
theorem only_store {w w' : World} {g : Nat} (hfar : ∀ k, k ≠ g → w'.heap[k]? = w.heap[k]?) (hbel : ∀ B, B ≤ g → Below B w w') : Only (fun k => k = g) w w' :=
  ⟨(hbel 0 (Nat.zero_le _)).os, (hbel 0 (Nat.zero_le _)).tape, (hbel 0 (Nat.zero_le _)).output, (hbel 0 (Nat.zero_le _)).size, fun k _ hn => hfar k hn⟩
theorem step_store_set {ops : Array Oper} {o : Oper} {a : Act} {w : World} {K : Act → World → Prop} {Q : Exit → Act → World → Prop} {E : Prop} (hgd : o.guard = none) (x y : Operand) (ho : o.op = .store 24 x y)
    (g : Nat) (hx : a.eval x = .pointer (some ⟨g, 0, none⟩)) {t : TypeId} {ws us : List Nat} (hy : a.eval y = .agg (cellsU ws)) (hs : SetOk ws) (hu : SetOk us) (hB : Blk w g t (cellsU us))
    (h : ∀ w', Blk w' g t (cellsU ws) → Only (fun k => k = g) w w' → K (a.put o.dst undef) w') : if Region.wanted o (yielded ops a.tmps) = true then Oper.wp Tryd.prog o a w K Q else E := by
  have hw : Region.wanted o (yielded ops a.tmps) = true := by simp [Region.wanted, hgd]
  rw [if_pos hw]
  have hsz := cellsU_size hs
  have hsu := cellsU_size hu
  refine wp_store_mid 24 x y ho g 0 (cellsU ws) hx hy (hB.there 0 _ (by omega)) (size_set hs) (cellsU_one ws) (h _ ?_ ?_)
  · have := hB.whole (cellsU ws).toList (by simp [hsz, hsu])
    simpa using this
  · exact (Only.refl (fun k => k = g) w).setCells (.inl rfl) (cellsU ws).toList 0
theorem step_store_re {ops : Array Oper} {o : Oper} {a : Act} {w : World} {K : Act → World → Prop} {Q : Exit → Act → World → Prop} {E : Prop} (hgd : o.guard = none) (x y : Operand) (ho : o.op = .store 27 x y)
    (g : Nat) (hx : a.eval x = .pointer (some ⟨g, 0, none⟩)) {t : TypeId} {cs ds : Array Value} (hy : a.eval y = .agg ds) (hd : ds.size = 8) (hc : cs.size = 8) (h1 : ds.all (·.oneCell') = true) (hB : Blk w g t cs)
    (h : ∀ w', Blk w' g t ds → Only (fun k => k = g) w w' → K (a.put o.dst undef) w') : if Region.wanted o (yielded ops a.tmps) = true then Oper.wp Tryd.prog o a w K Q else E := by
  have hw : Region.wanted o (yielded ops a.tmps) = true := by simp [Region.wanted, hgd]
  rw [if_pos hw]
  refine wp_store_mid 27 x y ho g 0 ds hx hy (hB.there 0 _ (by omega)) (size_re hd) h1 (h _ ?_ ?_)
  · have := hB.whole ds.toList (by simp [hc, hd])
    simpa using this
  · exact (Only.refl (fun k => k = g) w).setCells (.inl rfl) ds.toList 0
theorem joinB_ok2 {a b : List Nat} (ha : SetOk a) (hb : SetOk b) : SetOk (joinB [a, b]) := join_ok fun x hx => by
  simp at hx
  rcases hx with rfl | rfl
  · exact ha
  · exact hb
/-- in brackets: by what was taken, and what is left -/
theorem classP_eq (l : List Nat) (t : Bool) (l0 : List Nat) (ht : isNext 94 l = t) (hl : l0 = if t = true then l.tail else l) :
    classP l = (rangesP (l0.length + 1) true zeroB l0).bind fun s l1 => if (if t = true then notB s else s) = zeroB then .bad l1.length else .ok (classE (if t = true then notB s else s)) l1.tail := by
  have e : (l.head? = some 94) ↔ t = true := by rw [← ht, isNext]; simp
  unfold classP
  subst hl
  cases t with
  | true => simp only [e, if_true]
  | false => simp only [e, Bool.false_eq_true, if_false]
theorem reR_arr {S : Nat → Prop} {w : World} {x : Ex} {cs : List Value} (h : ReR S w x cs) : cs.toArray.size = 8 ∧ cs.toArray.all (·.oneCell') = true :=
  ⟨by simp [h.size], by rw [List.all_toArray, List.all_eq_true]; exact h.one⟩
theorem arr_eight {cs : Array Value} (h : cs.size = 8) : ∃ u0 u1 u2 u3 u4 u5 u6 u7, cs = #[u0, u1, u2, u3, u4, u5, u6, u7] := by
  obtain ⟨a, b, c, d, e, f, g, i, h2⟩ := eight_cells (l := cs.toList) (by simpa using h)
  exact ⟨a, b, c, d, e, f, g, i, by rw [← h2]⟩
theorem zeroA_one : (#[.int .i64 0, .int .u64 0, .int .u64 0, .int .u64 0, .int .u64 0, .slice none 0 0, .int .i64 0, .int .i64 0] : Array Value).all (·.oneCell') = true := by simp [Value.oneCell']
/-- three results, the first of which lies in a cell -/
theorem results_re3 {fn : Func} {t u v : Tmp} (h : fn.results = #[.cell t 27, .tmp u, .tmp v]) (tmps : Array Value) (w : World) (g : Nat) (e : TypeId) (cs : Array Value) (hc : cs.size = 8)
    (ht : tmps.getD t undef = .pointer (some ⟨g, 0, none⟩)) (hb : Blk w g e cs) : (results fn tmps).run Tryd.prog w = .ok (.tuple #[.agg cs, tmps.getD u undef, tmps.getD v undef]) w := by
  have hl := run_loadVar_row (P := Tryd.prog) w g e 27 cs (0, 0) _ hb Tryd.underlying27 rfl (size_re hc)
  rw [Array.getD_eq_getD_getElem?] at ht
  simp [results, h, ht, asAddr, hl]
/-- what Parse answers -/
def ParseAns (H : Nat) (r : Ex × Nat × Nat) (e : Ending) (w : World) : Prop :=
  ∃ cs, e = .returned (.tuple #[reV cs, .int .i64 ((r.2.1 : Nat) : Int), .int .i64 ((r.2.2 : Nat) : Int)]) ∧ ReR (fun b => H ≤ b) w r.1 cs
theorem empty_re (S : Nat → Prop) (W : World) : ReR S W emptyE [.int .i64 0, .int .u64 0, .int .u64 0, .int .u64 0, .int .u64 0, .slice none 0 0, .int .i64 0, .int .i64 0] := reR_leaf W (by unfold isInt; omega) zero_ok
theorem RowE.mono {S T : Nat → Prop} {w : World} {A : Option Addr} {m c : Nat} {l : List Ex} (h : RowE S w A m c l) (hs : ∀ b, S b → b < w.heap.size → T b) : RowE T w A m c l := by
  obtain ⟨xs, h1, h2, h3⟩ := h
  exact ⟨xs, h1, h2, fun k hk => (h3 k hk).mono (fun b hb hl => ⟨hs b hb.1 hl, hb.2⟩)⟩
end Go.Proofs.YtgknlegomoaoeaaDoor

/-
  The contract of place. No statement of the seat is proved here.
-/
namespace Go.Proofs.YtgknlegomoaoeaaDoor
open Go Go.RowKit
set_option maxRecDepth 100000

theorem pow_bit (n : Nat) (h : n < 64) : IntKind.u64.wrap ((2 : Int) ^ n) = ((2 ^ n : Nat) : Int) := by
  have h1 : 2 ^ n < 2 ^ 64 := Nat.pow_lt_pow_right (by omega) h
  have h2 : ((2 : Int) ^ n) = ((2 ^ n : Nat) : Int) := by simp
  rw [h2, IntKind.wrap_u64]
  generalize 2 ^ n = m at h1 ⊢
  have : (2 : Nat) ^ 64 = 18446744073709551616 := by decide
  omega
theorem uv_one (s : List Nat) : ∀ u ∈ s.map uv, u.oneCell' = true := by
  intro u hu
  simp only [List.mem_map] at hu
  obtain ⟨x, _, rfl⟩ := hu
  rfl
theorem set_len (s : List Nat) (h : SetOk s) : (Tryd.prog.info? 24).map (·.size) = some (s.map uv).length := by rw [List.length_map, h.len]; kernel_rfl
theorem place_fin {S : Nat → Prop} {w W7 w8 : World} {g n c4 d6 : Nat} {A4 D6 : Option Addr} {L : GLy} {s : List Nat} (hn : L.sets.length = n) (gB : Blk W7 g 69 #[.slice A4 (n + 1) c4, .slice D6 (n + 1) d6])
    (r : RowO W7 24 4 A4 (n + 1) c4 (cellsG L.sets ++ s.map uv)) (q : RowO W7 22 1 D6 (n + 1) d6 (L.follow.map uv ++ [.int .u64 0]))
    (hA : ∀ k, inA A4 k → S k ∨ w.heap.size + 2 ≤ k) (hD : ∀ k, inA D6 k → S k ∨ w.heap.size + 2 ≤ k) (o7 : Only S w W7) (o8 : Only (fun k => k = w.heap.size + 1) W7 w8) (hg : S g) (hbd : ∀ k, S k → k < w.heap.size) :
    LayS (Gr S w w8) w8 g ⟨L.sets ++ [s], L.follow ++ [0]⟩ ∧ Only S w w8 := by
  have h1 := o7.size
  have h2 := o8.size
  have hgl := hbd g hg
  have nA : ∀ k, inA A4 k → ¬ k = w.heap.size + 1 := fun k hk he => by
    rcases hA k hk with h | h
    · have := hbd k h; omega
    · omega
  have nD : ∀ k, inA D6 k → ¬ k = w.heap.size + 1 := fun k hk he => by
    rcases hD k hk with h | h
    · have := hbd k h; omega
    · omega
  have e1 : (L.sets ++ [s]).length = n + 1 := by rw [List.length_append, hn]; rfl
  refine ⟨⟨A4, c4, D6, d6, ?_, ⟨?_, ?_, ?_, ?_⟩, .inl hg, ?_⟩, o7.trans o8 fun i hi he => by omega⟩
  · dsimp only
    rw [e1]
    exact gB.only o8 (by omega)
  · dsimp only
    rw [e1, cellsG_snoc]
    exact r.only o8 nA
  · dsimp only
    rw [e1, List.map_append]
    exact q.only o8 nD
  · intro k hk
    have := r.lt hk
    rcases hA k hk with h | h
    · exact .inl h
    · exact .inr ⟨by omega, by omega⟩
  · intro k hk
    have := q.lt hk
    rcases hD k hk with h | h
    · exact .inl h
    · exact .inr ⟨by omega, by omega⟩
  · intro k hk
    rcases hk with h | h
    · have := hbd k h; omega
    · exact h.2
set_option maxHeartbeats 4000000 in
theorem gplace_any (S : Nat → Prop) (g : Nat) (L : GLy) (s : List Nat) (w : World) (hS : LayS S w g L) (hL : GOk L) (hn : L.sets.length < 64) (hs : SetOk s) :
    Calls Tryd.prog 61 #[.pointer (some ⟨g, 0, none⟩), .agg (cellsU s)] w (GPost S w g (placeG s L)) := by
  obtain ⟨A, c, D, d, hB, hR, hg, hbd⟩ := hS
  obtain ⟨n, hnn⟩ : ∃ n, L.sets.length = n := ⟨_, rfl⟩
  have hfl : L.follow.length = n := hL.len.trans hnn
  have hgl := hB.lt
  have hun := Tryd.underlying24
  have hpb := pow_bit n (by omega)
  rw [hnn] at hB hR hn
  obtain ⟨x0, x1, x2, x3, rfl⟩ : ∃ x0 x1 x2 x3, s = [x0, x1, x2, x3] := by
    have h4 := hs.len
    match s, h4 with
    | [x0, x1, x2, x3], _ => exact ⟨x0, x1, x2, x3, rfl⟩
  have e2 := ext2 w (.cells #[.int .u64 (x0 : Int), .int .u64 (x1 : Int), .int .u64 (x2 : Int), .int .u64 (x3 : Int)] 24) (.cells #[.bool false, .int .u64 0, .int .u64 0] 71)
  have c0 := (hB.ext e2).cell 0
  have hln : (Tryd.prog.info? 24).map (·.size) = some [Value.int .u64 (x0 : Int), .int .u64 (x1 : Int), .int .u64 (x2 : Int), .int .u64 (x3 : Int)].length := set_len [x0, x1, x2, x3] hs
  unfold cellsU
  simp only [List.map_cons, List.map_nil, uv]
  go_enter Tryd.func61, Tryd.ntmps61
  go_wp2_with fail
  have b1 : Blk ((w.alloc (.cells #[.int .u64 (x0 : Int), .int .u64 (x1 : Int), .int .u64 (x2 : Int), .int .u64 (x3 : Int)] 24)).alloc (.cells #[.bool false, .int .u64 0, .int .u64 0] 71)) w.heap.size 24 #[.int .u64 (x0 : Int), .int .u64 (x1 : Int), .int .u64 (x2 : Int), .int .u64 (x3 : Int)] := (blk_at w _ _ rfl).alloc _
  have b2 : Blk ((w.alloc (.cells #[.int .u64 (x0 : Int), .int .u64 (x1 : Int), .int .u64 (x2 : Int), .int .u64 (x3 : Int)] 24)).alloc (.cells #[.bool false, .int .u64 0, .int .u64 0] 71)) (w.heap.size + 1) 71 #[.bool false, .int .u64 0, .int .u64 0] := blk_at _ _ _ (by simp)
  have hsz : ((w.alloc (.cells #[.int .u64 (x0 : Int), .int .u64 (x1 : Int), .int .u64 (x2 : Int), .int .u64 (x3 : Int)] 24)).alloc (.cells #[.bool false, .int .u64 0, .int .u64 0] 71)).heap.size = w.heap.size + 2 := by simp
  clear c0
  generalize (w.alloc (.cells #[.int .u64 (x0 : Int), .int .u64 (x1 : Int), .int .u64 (x2 : Int), .int .u64 (x3 : Int)] 24)).alloc (.cells #[.bool false, .int .u64 0, .int .u64 0] 71) = W at *
  have HB := hB.ext e2
  have c0 : W.cell? ⟨g, 0, none⟩ = some (.slice A n c) := HB.cell 0
  have d0 : ∀ O, (W.alloc O).cell? ⟨g, 0, none⟩ = some (.slice A n c) := fun O => (HB.alloc O).cell 0
  have hm1 : n + 1 ≤ maxLen := by unfold maxLen; omega
  have hm2 : (n + 1) * 32 ≤ 140737488355328 := by omega
  have hg0 : w.heap.size ≠ g := by omega
  have hrA : RowO W 24 4 A n c (cellsG L.sets) := hR.sets.ext e2
  have hrD : RowO W 22 1 D n d (L.follow.map uv) := hR.follow.ext e2
  have hA0 : ∀ k, inA A k → k < w.heap.size := fun k hk => hR.sets.lt hk
  have hdS : ∀ k, inA D k → S k := fun k hk => hR.bd k hk
  have hD0 : ∀ k, inA D k → k < w.heap.size := fun k hk => hR.follow.lt hk
  have hone : ∀ u ∈ [Value.int .u64 (x0 : Int), .int .u64 (x1 : Int), .int .u64 (x2 : Int), .int .u64 (x3 : Int)], u.oneCell' = true := uv_one [x0, x1, x2, x3]
  refine wp_region_held_drew (S := fun w' => w'.rangeAt w.heap.size 0 [.int .u64 (x0 : Int), .int .u64 (x1 : Int), .int .u64 (x2 : Int), .int .u64 (x3 : Int)]) (by kernel_rfl) ?_ (fun hHeld => ?_)
  · first | exact rangeAt_set (ws := [x0, x1, x2, x3]) b1 | exact rangeAt_set (ws := [x0, x1, x2, x3]) (b1.alloc _) | exact rangeAt_set (ws := [x0, x1, x2, x3]) h4b | exact rangeAt_set (ws := [x0, x1, x2, x3]) (h4b.far (p := ⟨g, 0, none⟩) hg0 _)
  refine wpAnyH_take (i := 0) (v := ?_) (take_list rfl) (by kernel_rfl) (by kernel_rfl) (by kernel_rfl) (fun _ _ _ h => h) (Or.inl ⟨by rfl, ?_⟩) (by assumption) ?_
  rotate_left
  · intro w hSw
    try dsimp only at hSw
    first | (go_simp; done) | (go_simp; with_reducible rfl)
  try simp only [Act.put, List.setIfInBounds_toArray, List.set_cons_zero, List.set_cons_succ]
  refine wpAnyH_take (i := 1) (v := ?_) (take_list rfl) (by kernel_rfl) (by kernel_rfl) (by kernel_rfl) (fun _ _ _ h => h) (Or.inl ⟨by rfl, ?_⟩) (by assumption) ?_
  rotate_left
  · intro w hSw
    try dsimp only at hSw
    first | (go_simp; done) | (go_simp; with_reducible rfl)
  try simp only [Act.put, List.setIfInBounds_toArray, List.set_cons_zero, List.set_cons_succ]
  refine wpAnyH_take (i := 2) (v := ?_) (take_list rfl) (by kernel_rfl) (by kernel_rfl) (by kernel_rfl) (fun _ _ _ h => h) (Or.inl ⟨by rfl, ?_⟩) (by assumption) ?_
  rotate_left
  · intro w hSw
    try dsimp only at hSw
    first | (go_simp; done) | (go_simp; with_reducible rfl)
  try simp only [Act.put, List.setIfInBounds_toArray, List.set_cons_zero, List.set_cons_succ]
  refine wpAnyH_take (i := 3) (v := ?_) (take_list rfl) (by kernel_rfl) (by kernel_rfl) (by kernel_rfl) (fun _ _ _ h => h) (Or.inl ⟨by rfl, ?_⟩) (by assumption) ?_
  rotate_left
  · intro w hSw
    try dsimp only at hSw
    first | (go_simp; done) | (go_simp; with_reducible rfl)
  try simp only [Act.put, List.setIfInBounds_toArray, List.set_cons_zero, List.set_cons_succ]
  refine' wpAnyH_take (i := 5) (v := _) (take_list rfl) (by kernel_rfl) (by kernel_rfl) (by kernel_rfl) (fun _ _ _ h => h) (yieldsIf_load_mid (by rfl) _ _ rfl _ _ rfl _ _ ?hS5 ?hu5 ?hd5 ?hi5) (by assumption) ?rest5
  case hS5 => intro w hSw; (try dsimp only at hSw); go_split_ands; assumption
  case hu5 => assumption
  case hd5 => rfl
  case hi5 => assumption
  try simp only [Act.put, List.setIfInBounds_toArray, List.set_cons_zero, List.set_cons_succ]
  refine wpAnyH_ready (rs := [4, 6]) (by kernel_rfl) (by simp) ?_
  refine AllReadyH.cons (take_list rfl) (fun K hK => ?_) ?_
  · skip
    go_simp
    refine hK.out _ _ ?_ (fun hHeld => ?_)
    · try dsimp only
      first | exact rangeAt_set (ws := [x0, x1, x2, x3]) b1 | exact rangeAt_set (ws := [x0, x1, x2, x3]) (b1.alloc _) | exact rangeAt_set (ws := [x0, x1, x2, x3]) h4b | exact rangeAt_set (ws := [x0, x1, x2, x3]) (h4b.far (p := ⟨g, 0, none⟩) hg0 _)
    clear hK K
    refine wpAnyH_ready (rs := [6]) (by kernel_rfl) (by simp) ?_
    refine AllReadyH.cons (take_list rfl) (fun K hK => ?_) ?_
    · skip
      go_simp
      refine hK.out _ _ ?_ (fun hHeld => ?_)
      · try dsimp only
        first | exact rangeAt_set (ws := [x0, x1, x2, x3]) b1 | exact rangeAt_set (ws := [x0, x1, x2, x3]) (b1.alloc _) | exact rangeAt_set (ws := [x0, x1, x2, x3]) h4b | exact rangeAt_set (ws := [x0, x1, x2, x3]) (h4b.far (p := ⟨g, 0, none⟩) hg0 _)
      clear hK K
      refine wpAnyH_ready (rs := [7]) (by kernel_rfl) (by simp) ?_
      refine AllReadyH.cons (take_list rfl) (fun K hK => ?_) ?_
      · skip
        refine step_appO _ rfl (.tmp 16) (.tmp 18) 29 rfl 24 _ 4 32 Tryd.underlying29 info_set rfl A n c (cellsG L.sets) rfl ((hrA.alloc _).drew) (some ⟨w.heap.size + 2, 0, none⟩) 1 1 [.int .u64 (x0 : Int), .int .u64 (x1 : Int), .int .u64 (x2 : Int), .int .u64 (x3 : Int)] rfl rfl (Rd.lit_at _ #[.int .u64 (x0 : Int), .int .u64 (x1 : Int), .int .u64 (x2 : Int), .int .u64 (x3 : Int)] 24 hsz.symm).drew hone (by intro h; cases h) hm1 hm2 ?_
        intro A4 c4 w4 r4 o4' a4
        have o4 : Only (inA A) (W.alloc (.cells #[.int .u64 (x0 : Int), .int .u64 (x1 : Int), .int .u64 (x2 : Int), .int .u64 (x3 : Int)] 24)) w4 := ⟨o4'.os, o4'.tape, o4'.output, o4'.size, o4'.block⟩
        clear o4'
        have g4 : Blk w4 g 69 #[.slice A n c, .slice D n d] := Blk.only (HB.alloc _) o4 (hrA.ne_blk HB (by decide))
        have h4b : Blk w4 w.heap.size 24 #[.int .u64 (x0 : Int), .int .u64 (x1 : Int), .int .u64 (x2 : Int), .int .u64 (x3 : Int)] := Blk.only (b1.alloc _) o4 (fun h => by have := hA0 _ h; omega)
        have p4 : w4.cell? ⟨g, 0, none⟩ = some (.slice A n c) := g4.cell 0
        have p5 : w4.frozen? ⟨g, 0, none⟩ = false := g4.free 0
        refine hK.out _ _ ?_ (fun hHeld => ?_)
        · try dsimp only
          first | exact rangeAt_set (ws := [x0, x1, x2, x3]) b1 | exact rangeAt_set (ws := [x0, x1, x2, x3]) (b1.alloc _) | exact rangeAt_set (ws := [x0, x1, x2, x3]) h4b | exact rangeAt_set (ws := [x0, x1, x2, x3]) (h4b.far (p := ⟨g, 0, none⟩) hg0 _)
        clear hK K
        refine wpAnyH_take (i := 8) (v := ?_) (take_list rfl) (by kernel_rfl) (by kernel_rfl) (by kernel_rfl) (fun _ _ _ h => h) (Or.inl ⟨by rfl, ?_⟩) (by assumption) ?_
        rotate_left
        · intro w hSw
          try dsimp only at hSw
          first | (go_simp; done) | (go_simp; with_reducible rfl)
        try simp only [Act.put, List.setIfInBounds_toArray, List.set_cons_zero, List.set_cons_succ]
        refine wpAnyH_take (i := 9) (v := ?_) (take_list rfl) (by kernel_rfl) (by kernel_rfl) (by kernel_rfl) (fun _ _ _ h => h) (Or.inl ⟨by rfl, ?_⟩) (by assumption) ?_
        rotate_left
        · intro w hSw
          try dsimp only at hSw
          first | (go_simp; done) | (go_simp; with_reducible rfl)
        try simp only [Act.put, List.setIfInBounds_toArray, List.set_cons_zero, List.set_cons_succ]
        refine wpAnyH_ready (rs := [10]) (by kernel_rfl) (by simp) ?_
        refine AllReadyH.cons (take_list rfl) (fun K hK => ?_) ?_
        · skip
          go_simp
          refine hK.out _ _ ?_ (fun hHeld => ?_)
          · try dsimp only
            first | exact rangeAt_set (ws := [x0, x1, x2, x3]) b1 | exact rangeAt_set (ws := [x0, x1, x2, x3]) (b1.alloc _) | exact rangeAt_set (ws := [x0, x1, x2, x3]) h4b | exact rangeAt_set (ws := [x0, x1, x2, x3]) (h4b.far (p := ⟨g, 0, none⟩) hg0 _)
          clear hK K
          refine wpAnyH_done (by kernel_rfl) ?_ _
          have o5 : Only S w (w4.setCell ⟨g, 0, none⟩ (.slice A4 (n + 1) c4)) := Only.setCell (Only.trans (Only.of_ext (ext_alloc e2 _)) o4 (fun k _ hk => hR.ba k hk)) (.inl hg) _
          have g5 : Blk (w4.setCell ⟨g, 0, none⟩ (.slice A4 (n + 1) c4)) g 69 #[.slice A4 (n + 1) c4, .slice D n d] := g4.put 0 _
          have r5 : RowO (w4.setCell ⟨g, 0, none⟩ (.slice A4 (n + 1) c4)) 24 4 A4 (n + 1) c4 (cellsG L.sets ++ [.int .u64 (x0 : Int), .int .u64 (x1 : Int), .int .u64 (x2 : Int), .int .u64 (x3 : Int)]) := r4.keep fun k hk => Below.heap_setCell w4 ⟨g, 0, none⟩ _ k (fun e => r4.ne_blk g4 (by decide) (by rw [show k = g from e] at hk; exact hk))
          have q5 : RowO (w4.setCell ⟨g, 0, none⟩ (.slice A4 (n + 1) c4)) 22 1 D n d (L.follow.map uv) := ((hrD.alloc _).only o4 (fun k hk ha => rows_apart hrA hrD (by decide) k ha hk)).keep fun k hk => Below.heap_setCell w4 ⟨g, 0, none⟩ _ k (fun e => hrD.ne_blk HB (by decide) (by rw [show k = g from e] at hk; exact hk))
          have p5 : Blk (w4.setCell ⟨g, 0, none⟩ (.slice A4 (n + 1) c4)) (w.heap.size + 1) 71 #[.bool false, .int .u64 0, .int .u64 0] := (Blk.only (b2.alloc _) o4 (fun h => by have := hA0 _ h; omega)).far (p := ⟨g, 0, none⟩) (by show w.heap.size + 1 ≠ g; omega) _
          have a5 : ∀ k, inA A4 k → S k ∨ w.heap.size + 2 ≤ k := fun k hk => (a4 k hk).imp (hR.ba k) (fun h => by have h1 := h.1; simp at h1; omega)
          have s5 : w.heap.size + 2 ≤ (w4.setCell ⟨g, 0, none⟩ (.slice A4 (n + 1) c4)).heap.size := by
            have h1 := p5.lt
            omega
          have f5 := g5.free 1
          have c5 : (w4.setCell ⟨g, 0, none⟩ (.slice A4 (n + 1) c4)).cell? ⟨g, 1, none⟩ = some (.slice D n d) := g5.cell 1
          clear g4 r4 o4 a4 p4 h4b hHeld
          generalize w4.setCell ⟨g, 0, none⟩ (.slice A4 (n + 1) c4) = W5 at *
          have hm3 : (n + 1) * 8 ≤ 140737488355328 := by omega
          have hz : ∀ u ∈ [Value.int .u64 0], u.oneCell' = true := by intro u hu; simp at hu; subst hu; rfl
          clear hHeld b1 b2 hrA hrD HB c0 d0 hR
          go_wp2_with (first
            | (at_builtin; refine wpList_appO _ rfl (.tmp 26) (.tmp 27) 30 rfl 22 _ 1 8 Tryd.underlying30 info_u64 rfl D n d _ rfl (q5.alloc _) (some ⟨W5.heap.size, 0, none⟩) 1 1 [.int .u64 0] rfl rfl (Rd.lit _ #[.int .u64 0] _) hz (by intro h; cases h) hm1 hm3 ?_; intro D6 d6 w6 r6 o6 a6; have g6 : Blk w6 g 69 #[.slice A4 (n + 1) c4, .slice D n d] := Blk.only (g5.alloc _) o6 (q5.ne_blk g5 (by decide)); have c6 : w6.cell? ⟨g, 1, none⟩ = some (.slice D n d) := g6.cell 1; have f6 : w6.frozen? ⟨g, 1, none⟩ = false := g6.free 1; have hB7 : Blk (w6.setCell ⟨g, 1, none⟩ (.slice D6 (n + 1) d6)) (w.heap.size + 1) 71 #[.bool false, .int .u64 0, .int .u64 0] := (Blk.only (p5.alloc _) o6 (fun h => by have := hD0 _ h; omega)).far (p := ⟨g, 1, none⟩) (by show w.heap.size + 1 ≠ g; omega) _)
            | (refine wpList_store_piece rfl (.tmp 4) (.tmp 33) rfl (w.heap.size + 1) rfl rfl (by simp [Value.oneCell']) hB7 rfl ?_; intro w8 h8 o8))
          have g7 : Blk (w6.setCell ⟨g, 1, none⟩ (.slice D6 (n + 1) d6)) g 69 #[.slice A4 (n + 1) c4, .slice D6 (n + 1) d6] := g6.put 1 _
          have r7 := ((r5.alloc (.cells #[.int .u64 0] 22)).only o6 (rows_apart r5 q5 (by decide))).keep (w' := w6.setCell ⟨g, 1, none⟩ (.slice D6 (n + 1) d6)) fun k hk => Below.heap_setCell w6 ⟨g, 1, none⟩ _ k (fun e => r5.ne_blk g5 (by decide) (by rw [show k = g from e] at hk; exact hk))
          have q7 := r6.keep (w' := w6.setCell ⟨g, 1, none⟩ (.slice D6 (n + 1) d6)) fun k hk => Below.heap_setCell w6 ⟨g, 1, none⟩ _ k (fun e => r6.ne_blk g6 (by decide) (by rw [show k = g from e] at hk; exact hk))
          have o7 : Only S w (w6.setCell ⟨g, 1, none⟩ (.slice D6 (n + 1) d6)) := Only.setCell (Only.trans (o5.alloc _) o6 (fun k hk hd => hdS k hd)) (.inl hg) _
          have a7 : ∀ k, inA D6 k → S k ∨ w.heap.size + 2 ≤ k := fun k hk => (a6 k hk).imp (hdS k) (fun h => by have h1 := h.1; simp at h1; omega)
          have hfin := place_fin (s := [x0, x1, x2, x3]) hnn g7 r7 q7 a5 a7 o7 o8 hg hbd
          refine bodyPost_ret (v := .agg #[_, _, _]) (results_piece rfl _ _ (w.heap.size + 1) _ #[_, _, _] rfl rfl h8) rfl ⟨?_, hfin⟩
          unfold placeG pieceV
          dsimp only
          rw [hnn]
          simp
        exact AllReadyH.nil
      exact AllReadyH.nil
    exact AllReadyH.nil
  refine AllReadyH.cons (take_list rfl) (fun K hK => ?_) ?_
  · skip
    go_simp
    refine hK.out _ _ ?_ (fun hHeld => ?_)
    · try dsimp only
      first | exact rangeAt_set (ws := [x0, x1, x2, x3]) b1 | exact rangeAt_set (ws := [x0, x1, x2, x3]) (b1.alloc _) | exact rangeAt_set (ws := [x0, x1, x2, x3]) h4b | exact rangeAt_set (ws := [x0, x1, x2, x3]) (h4b.far (p := ⟨g, 0, none⟩) hg0 _)
    clear hK K
    refine wpAnyH_ready (rs := [4]) (by kernel_rfl) (by simp) ?_
    refine AllReadyH.cons (take_list rfl) (fun K hK => ?_) ?_
    · skip
      go_simp
      refine hK.out _ _ ?_ (fun hHeld => ?_)
      · try dsimp only
        first | exact rangeAt_set (ws := [x0, x1, x2, x3]) b1 | exact rangeAt_set (ws := [x0, x1, x2, x3]) (b1.alloc _) | exact rangeAt_set (ws := [x0, x1, x2, x3]) h4b | exact rangeAt_set (ws := [x0, x1, x2, x3]) (h4b.far (p := ⟨g, 0, none⟩) hg0 _)
      clear hK K
      refine wpAnyH_ready (rs := [7]) (by kernel_rfl) (by simp) ?_
      refine AllReadyH.cons (take_list rfl) (fun K hK => ?_) ?_
      · skip
        refine step_appO _ rfl (.tmp 16) (.tmp 18) 29 rfl 24 _ 4 32 Tryd.underlying29 info_set rfl A n c (cellsG L.sets) rfl ((hrA.alloc _).drew) (some ⟨w.heap.size + 2, 0, none⟩) 1 1 [.int .u64 (x0 : Int), .int .u64 (x1 : Int), .int .u64 (x2 : Int), .int .u64 (x3 : Int)] rfl rfl (Rd.lit_at _ #[.int .u64 (x0 : Int), .int .u64 (x1 : Int), .int .u64 (x2 : Int), .int .u64 (x3 : Int)] 24 hsz.symm).drew hone (by intro h; cases h) hm1 hm2 ?_
        intro A4 c4 w4 r4 o4' a4
        have o4 : Only (inA A) (W.alloc (.cells #[.int .u64 (x0 : Int), .int .u64 (x1 : Int), .int .u64 (x2 : Int), .int .u64 (x3 : Int)] 24)) w4 := ⟨o4'.os, o4'.tape, o4'.output, o4'.size, o4'.block⟩
        clear o4'
        have g4 : Blk w4 g 69 #[.slice A n c, .slice D n d] := Blk.only (HB.alloc _) o4 (hrA.ne_blk HB (by decide))
        have h4b : Blk w4 w.heap.size 24 #[.int .u64 (x0 : Int), .int .u64 (x1 : Int), .int .u64 (x2 : Int), .int .u64 (x3 : Int)] := Blk.only (b1.alloc _) o4 (fun h => by have := hA0 _ h; omega)
        have p4 : w4.cell? ⟨g, 0, none⟩ = some (.slice A n c) := g4.cell 0
        have p5 : w4.frozen? ⟨g, 0, none⟩ = false := g4.free 0
        refine hK.out _ _ ?_ (fun hHeld => ?_)
        · try dsimp only
          first | exact rangeAt_set (ws := [x0, x1, x2, x3]) b1 | exact rangeAt_set (ws := [x0, x1, x2, x3]) (b1.alloc _) | exact rangeAt_set (ws := [x0, x1, x2, x3]) h4b | exact rangeAt_set (ws := [x0, x1, x2, x3]) (h4b.far (p := ⟨g, 0, none⟩) hg0 _)
        clear hK K
        refine wpAnyH_take (i := 8) (v := ?_) (take_list rfl) (by kernel_rfl) (by kernel_rfl) (by kernel_rfl) (fun _ _ _ h => h) (Or.inl ⟨by rfl, ?_⟩) (by assumption) ?_
        rotate_left
        · intro w hSw
          try dsimp only at hSw
          first | (go_simp; done) | (go_simp; with_reducible rfl)
        try simp only [Act.put, List.setIfInBounds_toArray, List.set_cons_zero, List.set_cons_succ]
        refine wpAnyH_take (i := 9) (v := ?_) (take_list rfl) (by kernel_rfl) (by kernel_rfl) (by kernel_rfl) (fun _ _ _ h => h) (Or.inl ⟨by rfl, ?_⟩) (by assumption) ?_
        rotate_left
        · intro w hSw
          try dsimp only at hSw
          first | (go_simp; done) | (go_simp; with_reducible rfl)
        try simp only [Act.put, List.setIfInBounds_toArray, List.set_cons_zero, List.set_cons_succ]
        refine wpAnyH_ready (rs := [10]) (by kernel_rfl) (by simp) ?_
        refine AllReadyH.cons (take_list rfl) (fun K hK => ?_) ?_
        · skip
          go_simp
          refine hK.out _ _ ?_ (fun hHeld => ?_)
          · try dsimp only
            first | exact rangeAt_set (ws := [x0, x1, x2, x3]) b1 | exact rangeAt_set (ws := [x0, x1, x2, x3]) (b1.alloc _) | exact rangeAt_set (ws := [x0, x1, x2, x3]) h4b | exact rangeAt_set (ws := [x0, x1, x2, x3]) (h4b.far (p := ⟨g, 0, none⟩) hg0 _)
          clear hK K
          refine wpAnyH_done (by kernel_rfl) ?_ _
          have o5 : Only S w (w4.setCell ⟨g, 0, none⟩ (.slice A4 (n + 1) c4)) := Only.setCell (Only.trans (Only.of_ext (ext_alloc e2 _)) o4 (fun k _ hk => hR.ba k hk)) (.inl hg) _
          have g5 : Blk (w4.setCell ⟨g, 0, none⟩ (.slice A4 (n + 1) c4)) g 69 #[.slice A4 (n + 1) c4, .slice D n d] := g4.put 0 _
          have r5 : RowO (w4.setCell ⟨g, 0, none⟩ (.slice A4 (n + 1) c4)) 24 4 A4 (n + 1) c4 (cellsG L.sets ++ [.int .u64 (x0 : Int), .int .u64 (x1 : Int), .int .u64 (x2 : Int), .int .u64 (x3 : Int)]) := r4.keep fun k hk => Below.heap_setCell w4 ⟨g, 0, none⟩ _ k (fun e => r4.ne_blk g4 (by decide) (by rw [show k = g from e] at hk; exact hk))
          have q5 : RowO (w4.setCell ⟨g, 0, none⟩ (.slice A4 (n + 1) c4)) 22 1 D n d (L.follow.map uv) := ((hrD.alloc _).only o4 (fun k hk ha => rows_apart hrA hrD (by decide) k ha hk)).keep fun k hk => Below.heap_setCell w4 ⟨g, 0, none⟩ _ k (fun e => hrD.ne_blk HB (by decide) (by rw [show k = g from e] at hk; exact hk))
          have p5 : Blk (w4.setCell ⟨g, 0, none⟩ (.slice A4 (n + 1) c4)) (w.heap.size + 1) 71 #[.bool false, .int .u64 0, .int .u64 0] := (Blk.only (b2.alloc _) o4 (fun h => by have := hA0 _ h; omega)).far (p := ⟨g, 0, none⟩) (by show w.heap.size + 1 ≠ g; omega) _
          have a5 : ∀ k, inA A4 k → S k ∨ w.heap.size + 2 ≤ k := fun k hk => (a4 k hk).imp (hR.ba k) (fun h => by have h1 := h.1; simp at h1; omega)
          have s5 : w.heap.size + 2 ≤ (w4.setCell ⟨g, 0, none⟩ (.slice A4 (n + 1) c4)).heap.size := by
            have h1 := p5.lt
            omega
          have f5 := g5.free 1
          have c5 : (w4.setCell ⟨g, 0, none⟩ (.slice A4 (n + 1) c4)).cell? ⟨g, 1, none⟩ = some (.slice D n d) := g5.cell 1
          clear g4 r4 o4 a4 p4 h4b hHeld
          generalize w4.setCell ⟨g, 0, none⟩ (.slice A4 (n + 1) c4) = W5 at *
          have hm3 : (n + 1) * 8 ≤ 140737488355328 := by omega
          have hz : ∀ u ∈ [Value.int .u64 0], u.oneCell' = true := by intro u hu; simp at hu; subst hu; rfl
          clear hHeld b1 b2 hrA hrD HB c0 d0 hR
          go_wp2_with (first
            | (at_builtin; refine wpList_appO _ rfl (.tmp 26) (.tmp 27) 30 rfl 22 _ 1 8 Tryd.underlying30 info_u64 rfl D n d _ rfl (q5.alloc _) (some ⟨W5.heap.size, 0, none⟩) 1 1 [.int .u64 0] rfl rfl (Rd.lit _ #[.int .u64 0] _) hz (by intro h; cases h) hm1 hm3 ?_; intro D6 d6 w6 r6 o6 a6; have g6 : Blk w6 g 69 #[.slice A4 (n + 1) c4, .slice D n d] := Blk.only (g5.alloc _) o6 (q5.ne_blk g5 (by decide)); have c6 : w6.cell? ⟨g, 1, none⟩ = some (.slice D n d) := g6.cell 1; have f6 : w6.frozen? ⟨g, 1, none⟩ = false := g6.free 1; have hB7 : Blk (w6.setCell ⟨g, 1, none⟩ (.slice D6 (n + 1) d6)) (w.heap.size + 1) 71 #[.bool false, .int .u64 0, .int .u64 0] := (Blk.only (p5.alloc _) o6 (fun h => by have := hD0 _ h; omega)).far (p := ⟨g, 1, none⟩) (by show w.heap.size + 1 ≠ g; omega) _)
            | (refine wpList_store_piece rfl (.tmp 4) (.tmp 33) rfl (w.heap.size + 1) rfl rfl (by simp [Value.oneCell']) hB7 rfl ?_; intro w8 h8 o8))
          have g7 : Blk (w6.setCell ⟨g, 1, none⟩ (.slice D6 (n + 1) d6)) g 69 #[.slice A4 (n + 1) c4, .slice D6 (n + 1) d6] := g6.put 1 _
          have r7 := ((r5.alloc (.cells #[.int .u64 0] 22)).only o6 (rows_apart r5 q5 (by decide))).keep (w' := w6.setCell ⟨g, 1, none⟩ (.slice D6 (n + 1) d6)) fun k hk => Below.heap_setCell w6 ⟨g, 1, none⟩ _ k (fun e => r5.ne_blk g5 (by decide) (by rw [show k = g from e] at hk; exact hk))
          have q7 := r6.keep (w' := w6.setCell ⟨g, 1, none⟩ (.slice D6 (n + 1) d6)) fun k hk => Below.heap_setCell w6 ⟨g, 1, none⟩ _ k (fun e => r6.ne_blk g6 (by decide) (by rw [show k = g from e] at hk; exact hk))
          have o7 : Only S w (w6.setCell ⟨g, 1, none⟩ (.slice D6 (n + 1) d6)) := Only.setCell (Only.trans (o5.alloc _) o6 (fun k hk hd => hdS k hd)) (.inl hg) _
          have a7 : ∀ k, inA D6 k → S k ∨ w.heap.size + 2 ≤ k := fun k hk => (a6 k hk).imp (hdS k) (fun h => by have h1 := h.1; simp at h1; omega)
          have hfin := place_fin (s := [x0, x1, x2, x3]) hnn g7 r7 q7 a5 a7 o7 o8 hg hbd
          refine bodyPost_ret (v := .agg #[_, _, _]) (results_piece rfl _ _ (w.heap.size + 1) _ #[_, _, _] rfl rfl h8) rfl ⟨?_, hfin⟩
          unfold placeG pieceV
          dsimp only
          rw [hnn]
          simp
        exact AllReadyH.nil
      exact AllReadyH.nil
    exact AllReadyH.nil
  exact AllReadyH.nil
end Go.Proofs.YtgknlegomoaoeaaDoor

/-
  Contract of the program's weigh. No statement of the seat is proved here.
-/
namespace Go.Proofs.YtgknlegomoaoeaaDoor
open Go Go.RowKit
set_option maxRecDepth 100000

theorem Kids.only {S T : Nat → Prop} {w w' : World} {A : Option Addr} {l : List Ex} (h : Kids S w A l) (ho : Only T w w') (hn : ∀ g, S g → ¬ T g) : Kids S w' A l := fun k hk => by
  obtain ⟨g, o, cs, e, hs, hc, hr⟩ := h k hk
  exact ⟨g, o, cs, e, hs, fun j u hu => (World.cell?_of_block (a := ⟨g, o + k * 8 + j, none⟩) (ho.block g (World.block_lt_of_cell? w ⟨g, o + k * 8 + j, none⟩ (hc j u hu)) (hn g hs))).trans (hc j u hu), hr.only ho hn⟩
/-- what weigh answers -/
def wOf : Option (Nat × Nat) → Value
  | none => .tuple #[.int .i64 0, .bool false]
  | some p => .tuple #[.int .i64 ((p.1 : Nat) : Int), .bool true]
def Weighed (w : World) (g : Nat) (res : Option (Nat × Nat)) (e : Ending) (w' : World) : Prop :=
  e = .returned (wOf res) ∧ Only (fun b => b = g) w w' ∧ ∃ m : Int, Blk w' g 116 #[.int .i64 m] ∧ ∀ p, res = some p → m = ((p.2 : Nat) : Int)

set_option maxHeartbeats 8000000 in
theorem weigh_any (S : Nat → Prop) (g : Nat) (hg : ∀ b, S b → b ≠ g) (t : Ex) : ∀ (cs : List Value) (w : World) (deep within n : Nat), ReR S w t cs → Blk w g 116 #[.int .i64 (n : Int)] → deep ≤ 17 → within ≤ 4 → n ≤ 128 →
    Calls Tryd.prog 77 #[.pointer (some ⟨g, 0, none⟩), reV cs, .int .i64 (deep : Int), .int .i64 (within : Int)] w (Weighed w g (weighE deep within n t)) := by
  refine ex_induct (p := fun t => ∀ (cs : List Value) (w : World) (deep within n : Nat), ReR S w t cs → Blk w g 116 #[.int .i64 (n : Int)] → deep ≤ 17 → within ≤ 4 → n ≤ 128 → Calls Tryd.prog 77 #[.pointer (some ⟨g, 0, none⟩), reV cs, .int .i64 (deep : Int), .int .i64 (within : Int)] w (Weighed w g (weighE deep within n t))) (fun k s ks lo hi ih cs w deep within n h hG hd hw hn => ?_) t
  have hform := fun W (hW : ReR S W (.mk k s ks lo hi) cs) => formed_any S (.mk k s ks lo hi) cs W hW
  have h' := h
  rw [reR_iff] at h
  obtain ⟨⟨hk, hs, hlo, hhi⟩, A, c, rfl, h1, h2, h3⟩ := h
  obtain ⟨p0, p1, p2, p3, rfl⟩ := four_words hs
  have hlt := hG.lt
  have hgx := (hG.alloc (Obj.cells #[.int .i64 k, .int .u64 (p0 : Int), .int .u64 (p1 : Int), .int .u64 (p2 : Int), .int .u64 (p3 : Int), .slice A ks.length c, .int .i64 lo, .int .i64 hi] 27)).cell 0
  have hgf := (hG.alloc (Obj.cells #[.int .i64 k, .int .u64 (p0 : Int), .int .u64 (p1 : Int), .int .u64 (p2 : Int), .int .u64 (p3 : Int), .slice A ks.length c, .int .i64 lo, .int .i64 hi] 27)).free 0
  have hG2 := (hG.put 0 (.int .i64 ((n : Int) + 1))).alloc (Obj.cells #[.int .i64 k, .int .u64 (p0 : Int), .int .u64 (p1 : Int), .int .u64 (p2 : Int), .int .u64 (p3 : Int), .slice A ks.length c, .int .i64 lo, .int .i64 hi] 27)
  have hgx2 := hG2.cell 0
  have hB2 := Blk.new (w.setCell ⟨g, 0, none⟩ (.int .i64 ((n : Int) + 1))) 27 #[.int .i64 k, .int .u64 (p0 : Int), .int .u64 (p1 : Int), .int .u64 (p2 : Int), .int .u64 (p3 : Int), .slice A ks.length c, .int .i64 lo, .int .i64 hi]
  rw [show (w.setCell ⟨g, 0, none⟩ (.int .i64 ((n : Int) + 1))).heap.size = w.heap.size by simp [World.setCell]] at hB2
  have hO2 : Only (fun b => b = g) w ((w.setCell ⟨g, 0, none⟩ (.int .i64 ((n : Int) + 1))).alloc (Obj.cells #[.int .i64 k, .int .u64 (p0 : Int), .int .u64 (p1 : Int), .int .u64 (p2 : Int), .int .u64 (p3 : Int), .slice A ks.length c, .int .i64 lo, .int .i64 hi] 27)) := ((Only.refl (fun b => b = g) w).setCell (p := ⟨g, 0, none⟩) (.inl rfl) _).alloc _
  obtain ⟨W2, hW2⟩ : ∃ W2, W2 = (w.setCell ⟨g, 0, none⟩ (.int .i64 ((n : Int) + 1))).alloc (Obj.cells #[.int .i64 k, .int .u64 (p0 : Int), .int .u64 (p1 : Int), .int .u64 (p2 : Int), .int .u64 (p3 : Int), .slice A ks.length c, .int .i64 lo, .int .i64 hi] 27) := ⟨_, rfl⟩
  rw [← hW2] at hG2 hgx2 hB2 hO2
  have HO2 := Lib.hid hO2
  have hd' : (deep : Int) ≤ 17 := by omega
  have hw' : (within : Int) ≤ 4 := by omega
  have hn' : (n : Int) ≤ 128 := by omega
  unfold isInt at hlo hhi
  unfold maxLen at h2
  have H := Lib.hid h'
  have Hih := Lib.hid ih
  have HB2 := Lib.hid hB2
  have HG2 := Lib.hid hG2
  have H3 := Lib.hid h3
  have Hform := Lib.hid hform
  clear h' ih hB2 hG2 hG h3 hform hk hs hO2
  unfold reV reCells
  obtain ⟨F, hF⟩ : ∃ F, formE (.mk k [p0, p1, p2, p3] ks lo hi) = F := ⟨_, rfl⟩
  rw [hF] at Hform
  have HF := Lib.hid hF
  obtain ⟨R, hR⟩ : ∃ R, weighE deep within n (.mk k [p0, p1, p2, p3] ks lo hi) = R := ⟨_, rfl⟩
  rw [hR]
  simp only [weighE, hF] at hR
  clear hF
  have HR := Lib.hid hR
  clear hR
  show Calls Tryd.prog 77 #[.pointer (some ⟨g, 0, none⟩), .agg #[.int .i64 k, .int .u64 (p0 : Int), .int .u64 (p1 : Int), .int .u64 (p2 : Int), .int .u64 (p3 : Int), .slice A ks.length c, .int .i64 lo, .int .i64 hi], .int .i64 (deep : Int), .int .i64 (within : Int)] w (Weighed w g R)
  by_cases hk4 : k = 4
  · subst hk4
    skip
    by_cases hbad : 128 < n + 1 ∨ 16 < deep ∨ 4 < within + 1
    · have hbi : (128 : Int) < (n : Int) + 1 ∨ ((n : Int) + 1 ≤ 128 ∧ (16 : Int) < (deep : Int)) ∨ ((n : Int) + 1 ≤ 128 ∧ (deep : Int) ≤ 16 ∧ (4 : Int) < (within : Int) + 1) := by omega
      rcases hbi with hb1 | ⟨hb1, hb2⟩ | ⟨hb1, hb2, hb3⟩
      skip
      all_goals
        go_enter Tryd.func77, Tryd.ntmps77
        rw [hW2] at hgx2
        go_wp2
        go_ret2
        rw [hW2] at HO2 HG2
        exact ⟨by rw [← HR.out, if_pos (by simp; omega)]; rfl, HO2.out, _, HG2.out, fun p hp => by rw [← HR.out, if_pos (by simp; omega)] at hp; cases hp⟩
    · have hb1 : (n : Int) + 1 ≤ 128 := by omega
      have hb2 : (deep : Int) ≤ 16 := by omega
      have hb3 : (within : Int) + 1 ≤ 4 := by omega
      have hn1 : n + 1 ≤ 128 := by omega
      have hd1 : deep + 1 ≤ 17 := by omega
      have hw1 : within + 1 ≤ 4 := by omega
      clear hbad
      go_enter Tryd.func77, Tryd.ntmps77
      rw [hW2] at hgx2
      go_wp2_with fail
      rw [← hW2]
      have c0 := HB2.out.cell 0
      have c1 := HB2.out.cell 1
      have c2 := HB2.out.cell 2
      have c3 := HB2.out.cell 3
      have c4 := HB2.out.cell 4
      have c5 := HB2.out.cell 5
      have c6 := HB2.out.cell 6
      have c7 := HB2.out.cell 7
      have hgx3 := HG2.out.cell 0
      clear hgx2
      go_wp2_with fail
      refine (Hform.out W2 (H.out.only HO2.out hg)).mono ?_
      rintro e w3 ⟨rfl, hb3'⟩
      have HG3 := Lib.hid (HG2.out.ext hb3')
      have HB3 := Lib.hid (HB2.out.ext hb3')
      have HO3 : Hid (Only (fun b => b = g) w w3) := Lib.hid (HO2.out.trans (Only.of_ext (S := fun b => b = g) hb3') (fun _ _ h => h))
      clear hb3' c0 c1 c2 c3 c4 c5 c6 c7 hgx3 hgx hgf hW2
      cases F with
      | false =>
        go_wp2
        go_ret2
        exact ⟨by rw [← HR.out, if_pos (by simp)]; rfl, HO3.out, _, HG3.out, fun p hp => by rw [← HR.out, if_pos (by simp)] at hp; cases hp⟩
      | true =>
        have hR' : (match weighL (deep + 1) (within + 1) 0 (n + 1) ks with
          | none => none
          | some p => some (1 + p.1 * timesW lo hi, p.2)) = R := by
          have := HR.out
          rw [if_neg (by simp; omega)] at this
          rw [← this]
          simp only [if_true]
          cases weighL (deep + 1) (within + 1) 0 (n + 1) ks <;> rfl
        clear HR
        have HR := Lib.hid hR'
        clear hR'
        have c5 := HB3.out.cell 5
        go_wp2
        go_loopw [10, 48] (fun x i wr => ∃ j X m : Nat, j ≤ ks.length ∧ i = .int .i64 (j : Int) ∧ x = .int .i64 (X : Int) ∧ Hid (weighL (deep + 1) (within + 1) 0 (n + 1) (ks.take j) = some (X, m)) ∧ Blk wr g 116 #[.int .i64 (m : Int)] ∧ Blk wr w.heap.size 27 #[.int .i64 4, .int .u64 (p0 : Int), .int .u64 (p1 : Int), .int .u64 (p2 : Int), .int .u64 (p3 : Int), .slice A ks.length c, .int .i64 lo, .int .i64 hi] ∧ Only (fun b => b = g) w wr) (fun _ i _ => ks.length - (intOf i).toNat)
        case atStart => exact ⟨0, 0, n + 1, Nat.zero_le _, rfl, rfl, Lib.hid rfl, HG3.out, HB3.out, HO3.out⟩
        case round =>
          clear c5
          obtain ⟨j, X, m, hj, rfl, rfl, hL, hGr, hBr, hOr⟩ := hrel
          have hsm := weighL_small hw1 _ hn1 hL.out
          have hm1 : m ≤ 128 := hsm.1
          have hXb : X ≤ 134217728 := by
            have h1 := hsm.2.2
            have h2 : (m - (n + 1)) * 1048576 ≤ 128 * 1048576 := Nat.mul_le_mul_right _ (by omega)
            omega
          have hXi : (X : Int) ≤ 134217728 := by omega
          clear hsm
          have HGr := Lib.hid hGr
          have HBr := Lib.hid hBr
          have HOr := Lib.hid hOr
          clear hGr hBr hOr
          by_cases hlt2 : j < ks.length
          · have hji : (j : Int) < (ks.length : Int) := by omega
            obtain ⟨g', o, k', q0, q1, q2, q3, ks', A', c', lo', hi', rfl, hx, hr, x0, x1, x2, x3, x4, x5, x6, x7, hsg⟩ := (H3.out.only HOr.out hg).kidX hlt2
            have hcall : ∀ W, Only (fun b => b = g) w W → Blk W g 116 #[.int .i64 (m : Int)] → Below wr.heap.size wr W → Calls Tryd.prog 77 #[.pointer (some ⟨g, 0, none⟩), .agg #[.int .i64 k', .int .u64 (q0 : Int), .int .u64 (q1 : Int), .int .u64 (q2 : Int), .int .u64 (q3 : Int), .slice A' ks'.length c', .int .i64 lo', .int .i64 hi'], .int .i64 ((deep : Int) + 1), .int .i64 ((within : Int) + 1)] W (Weighed W g (weighE (deep + 1) (within + 1) m ks[j])) := fun W hW1 hW2 hW3 => by
              have := Hih.out _ (List.getElem_mem hlt2) _ W (deep + 1) (within + 1) m (hr.ext hW3) hW2 hd1 hw1 hm1
              simpa [reV] using this
            have hstep := weighL_take (deep + 1) (within + 1) ks j hlt2 0 (n + 1)
            rw [hL.out] at hstep
            simp only at hstep
            obtain ⟨res, hres⟩ : ∃ res, weighE (deep + 1) (within + 1) m ks[j] = res := ⟨_, rfl⟩
            rw [hres] at hcall hstep
            have hvb : ∀ p, res = some p → p.1 ≤ 134217728 := fun p hp => by
              rw [hp] at hres
              have h1 := weighE_small (v := p.1) (m := p.2) hw1 hm1 hres
              have h2 : (p.2 - m) * 1048576 ≤ 128 * 1048576 := Nat.mul_le_mul_right _ (by omega)
              omega
            have Hvb := Lib.hid hvb
            have Hstep := Lib.hid hstep
            have Hcall := Lib.hid hcall
            have hlt3 := HGr.out.lt
            clear hvb hstep hcall hr hx hres
            go_wp2_with fail
            refine (Hcall.out _ (HOr.out.alloc _) (HGr.out.alloc _) ((Below.refl _ _).alloc (Nat.le_refl _) _)).mono ?_
            rintro e w4 ⟨he, ho4, m4, hG4, hm4⟩
            have HO4 : Hid (Only (fun b => b = g) w w4) := Lib.hid ((HOr.out.alloc _).trans ho4 (fun _ _ h => h))
            have HB4 := Lib.hid ((HBr.out.alloc _).only ho4 (by omega))
            have HG4 := Lib.hid hG4
            have Hm4 := Lib.hid hm4
            clear ho4 hG4 hm4
            cases res with
            | none =>
              have he' : e = .returned (.tuple #[.int .i64 0, .bool false]) := he
              subst he'
              clear he
              have hnone : weighL (deep + 1) (within + 1) 0 (n + 1) ks = none := weighL_none Hstep.out
              go_wp2
              go_ret2
              have hR0 : R = none := by rw [← HR.out, hnone]
              exact ⟨by rw [hR0]; rfl, HO4.out, _, HG4.out, fun p hp => by rw [hR0] at hp; cases hp⟩
            | some q =>
              obtain ⟨v, m'⟩ := q
              have he' : e = .returned (.tuple #[.int .i64 (v : Int), .bool true]) := he
              subst he'
              clear he
              have hvi : (v : Int) ≤ 134217728 := by have := Hvb.out _ rfl; simp only at this; omega
              obtain rfl : m4 = (m' : Int) := Hm4.out _ rfl
              go_wp2
              go_roundw
              case rel => exact ⟨j + 1, X + v, m', by omega, by go_num, by go_num, Lib.hid Hstep.out, HG4.out, HB4.out, HO4.out⟩
              case measure => simp [intOf]; omega
          · obtain rfl : j = ks.length := by omega
            have hL' := hL.out
            rw [List.take_length] at hL'

            have c0 := HBr.out.cell 0
            have c6 := HBr.out.cell 6
            have c7 := HBr.out.cell 7
            have HL' := Lib.hid hL'
            clear hL'
            have hrep : repB lo hi = true := by
              have := HF.out
              simp only [formE] at this
              simp at this
              exact this.1.2
            have ht := timesW_le hrep
            obtain ⟨M1, hM1⟩ : ∃ M, (if lo < hi then hi else lo) = M := ⟨_, rfl⟩
            obtain ⟨T, hT⟩ : ∃ T, timesW lo hi = T := ⟨_, rfl⟩
            have hM2 : (if M1 < 1 then 1 else M1) = (T : Int) := by
              rw [← hT, ← hM1]
              unfold timesW
              split <;> split <;> omega
            rw [hT] at ht
            have HT := Lib.hid hT
            have hxx : X * T ≤ 134217728 * 32 := Nat.mul_le_mul hXb ht.1
            obtain ⟨x, hx⟩ : ∃ x, X * T = x := ⟨_, rfl⟩
            have hxi : (X : Int) * (T : Int) = (x : Int) := by rw [← hx]; simp
            rw [hx] at hxx
            have Hx := Lib.hid hx
            have hxb : (x : Int) ≤ 4294967296 := by omega
            clear hT hx ht hrep hxx
            go_wp2
            go_ret2
            have hR0 : R = some (1 + x, m) := by rw [← HR.out, HL'.out]; simp only; rw [HT.out, Hx.out]
            exact ⟨by rw [hR0]; simp only [wOf]; first | rfl | (congr 1; congr 1), HOr.out, _, HGr.out, fun p hp => by rw [hR0] at hp; injection hp with hp; rw [← hp]⟩
  · have hk4b : (k == 4) = false := by simpa using hk4
    by_cases hbad : 128 < n + 1 ∨ 16 < deep ∨ 4 < within
    · have hbi : (128 : Int) < (n : Int) + 1 ∨ ((n : Int) + 1 ≤ 128 ∧ (16 : Int) < (deep : Int)) ∨ ((n : Int) + 1 ≤ 128 ∧ (deep : Int) ≤ 16 ∧ (4 : Int) < (within : Int)) := by omega
      rcases hbi with hb1 | ⟨hb1, hb2⟩ | ⟨hb1, hb2, hb3⟩
      case inr.inr => omega
      all_goals
        go_enter Tryd.func77, Tryd.ntmps77
        rw [hW2] at hgx2
        go_wp2
        go_ret2
        rw [hW2] at HO2 HG2
        exact ⟨by rw [← HR.out, if_pos (by simp [hk4]; omega)]; rfl, HO2.out, _, HG2.out, fun p hp => by rw [← HR.out, if_pos (by simp [hk4]; omega)] at hp; cases hp⟩
    · have hb1 : (n : Int) + 1 ≤ 128 := by omega
      have hb2 : (deep : Int) ≤ 16 := by omega
      have hb3 : (within : Int) ≤ 4 := by omega
      have hn1 : n + 1 ≤ 128 := by omega
      have hd1 : deep + 1 ≤ 17 := by omega
      have hw1 : within ≤ 4 := by omega
      clear hbad
      go_enter Tryd.func77, Tryd.ntmps77
      rw [hW2] at hgx2
      go_wp2_with fail
      rw [← hW2]
      have c0 := HB2.out.cell 0
      have c1 := HB2.out.cell 1
      have c2 := HB2.out.cell 2
      have c3 := HB2.out.cell 3
      have c4 := HB2.out.cell 4
      have c5 := HB2.out.cell 5
      have c6 := HB2.out.cell 6
      have c7 := HB2.out.cell 7
      have hgx3 := HG2.out.cell 0
      clear hgx2
      go_wp2_with fail
      refine (Hform.out W2 (H.out.only HO2.out hg)).mono ?_
      rintro e w3 ⟨rfl, hb3'⟩
      have HG3 := Lib.hid (HG2.out.ext hb3')
      have HB3 := Lib.hid (HB2.out.ext hb3')
      have HO3 : Hid (Only (fun b => b = g) w w3) := Lib.hid (HO2.out.trans (Only.of_ext (S := fun b => b = g) hb3') (fun _ _ h => h))
      clear hb3' c0 c1 c2 c3 c4 c5 c6 c7 hgx3 hgx hgf hW2
      cases F with
      | false =>
        go_wp2
        go_ret2
        exact ⟨by rw [← HR.out, if_pos (by simp)]; rfl, HO3.out, _, HG3.out, fun p hp => by rw [← HR.out, if_pos (by simp)] at hp; cases hp⟩
      | true =>
        have hR' : (match weighL (deep + 1) (within) 0 (n + 1) ks with
          | none => none
          | some p => some (1 + p.1, p.2)) = R := by
          have := HR.out
          rw [if_neg (by simp [hk4]; omega)] at this
          rw [← this]
          simp only [if_neg hk4]
          cases weighL (deep + 1) (within) 0 (n + 1) ks <;> rfl
        clear HR
        have HR := Lib.hid hR'
        clear hR'
        have c5 := HB3.out.cell 5
        go_wp2
        go_loopw [10, 48] (fun x i wr => ∃ j X m : Nat, j ≤ ks.length ∧ i = .int .i64 (j : Int) ∧ x = .int .i64 (X : Int) ∧ Hid (weighL (deep + 1) (within) 0 (n + 1) (ks.take j) = some (X, m)) ∧ Blk wr g 116 #[.int .i64 (m : Int)] ∧ Blk wr w.heap.size 27 #[.int .i64 k, .int .u64 (p0 : Int), .int .u64 (p1 : Int), .int .u64 (p2 : Int), .int .u64 (p3 : Int), .slice A ks.length c, .int .i64 lo, .int .i64 hi] ∧ Only (fun b => b = g) w wr) (fun _ i _ => ks.length - (intOf i).toNat)
        case atStart => exact ⟨0, 0, n + 1, Nat.zero_le _, rfl, rfl, Lib.hid rfl, HG3.out, HB3.out, HO3.out⟩
        case round =>
          clear c5
          obtain ⟨j, X, m, hj, rfl, rfl, hL, hGr, hBr, hOr⟩ := hrel
          have hsm := weighL_small hw1 _ hn1 hL.out
          have hm1 : m ≤ 128 := hsm.1
          have hXb : X ≤ 134217728 := by
            have h1 := hsm.2.2
            have h2 : (m - (n + 1)) * 1048576 ≤ 128 * 1048576 := Nat.mul_le_mul_right _ (by omega)
            omega
          have hXi : (X : Int) ≤ 134217728 := by omega
          clear hsm
          have HGr := Lib.hid hGr
          have HBr := Lib.hid hBr
          have HOr := Lib.hid hOr
          clear hGr hBr hOr
          by_cases hlt2 : j < ks.length
          · have hji : (j : Int) < (ks.length : Int) := by omega
            obtain ⟨g', o, k', q0, q1, q2, q3, ks', A', c', lo', hi', rfl, hx, hr, x0, x1, x2, x3, x4, x5, x6, x7, hsg⟩ := (H3.out.only HOr.out hg).kidX hlt2
            have hcall : ∀ W, Only (fun b => b = g) w W → Blk W g 116 #[.int .i64 (m : Int)] → Below wr.heap.size wr W → Calls Tryd.prog 77 #[.pointer (some ⟨g, 0, none⟩), .agg #[.int .i64 k', .int .u64 (q0 : Int), .int .u64 (q1 : Int), .int .u64 (q2 : Int), .int .u64 (q3 : Int), .slice A' ks'.length c', .int .i64 lo', .int .i64 hi'], .int .i64 ((deep : Int) + 1), .int .i64 ((within : Int))] W (Weighed W g (weighE (deep + 1) (within) m ks[j])) := fun W hW1 hW2 hW3 => by
              have := Hih.out _ (List.getElem_mem hlt2) _ W (deep + 1) (within) m (hr.ext hW3) hW2 hd1 hw1 hm1
              simpa [reV] using this
            have hstep := weighL_take (deep + 1) (within) ks j hlt2 0 (n + 1)
            rw [hL.out] at hstep
            simp only at hstep
            obtain ⟨res, hres⟩ : ∃ res, weighE (deep + 1) (within) m ks[j] = res := ⟨_, rfl⟩
            rw [hres] at hcall hstep
            have hvb : ∀ p, res = some p → p.1 ≤ 134217728 := fun p hp => by
              rw [hp] at hres
              have h1 := weighE_small (v := p.1) (m := p.2) hw1 hm1 hres
              have h2 : (p.2 - m) * 1048576 ≤ 128 * 1048576 := Nat.mul_le_mul_right _ (by omega)
              omega
            have Hvb := Lib.hid hvb
            have Hstep := Lib.hid hstep
            have Hcall := Lib.hid hcall
            have hlt3 := HGr.out.lt
            clear hvb hstep hcall hr hx hres
            go_wp2_with fail
            refine (Hcall.out _ (HOr.out.alloc _) (HGr.out.alloc _) ((Below.refl _ _).alloc (Nat.le_refl _) _)).mono ?_
            rintro e w4 ⟨he, ho4, m4, hG4, hm4⟩
            have HO4 : Hid (Only (fun b => b = g) w w4) := Lib.hid ((HOr.out.alloc _).trans ho4 (fun _ _ h => h))
            have HB4 := Lib.hid ((HBr.out.alloc _).only ho4 (by omega))
            have HG4 := Lib.hid hG4
            have Hm4 := Lib.hid hm4
            clear ho4 hG4 hm4
            cases res with
            | none =>
              have he' : e = .returned (.tuple #[.int .i64 0, .bool false]) := he
              subst he'
              clear he
              have hnone : weighL (deep + 1) (within) 0 (n + 1) ks = none := weighL_none Hstep.out
              go_wp2
              go_ret2
              have hR0 : R = none := by rw [← HR.out, hnone]
              exact ⟨by rw [hR0]; rfl, HO4.out, _, HG4.out, fun p hp => by rw [hR0] at hp; cases hp⟩
            | some q =>
              obtain ⟨v, m'⟩ := q
              have he' : e = .returned (.tuple #[.int .i64 (v : Int), .bool true]) := he
              subst he'
              clear he
              have hvi : (v : Int) ≤ 134217728 := by have := Hvb.out _ rfl; simp only at this; omega
              obtain rfl : m4 = (m' : Int) := Hm4.out _ rfl
              go_wp2
              go_roundw
              case rel => exact ⟨j + 1, X + v, m', by omega, by go_num, by go_num, Lib.hid Hstep.out, HG4.out, HB4.out, HO4.out⟩
              case measure => simp [intOf]; omega
          · obtain rfl : j = ks.length := by omega
            have hL' := hL.out
            rw [List.take_length] at hL'

            have c0 := HBr.out.cell 0
            have HL' := Lib.hid hL'
            clear hL'
            go_wp2
            go_ret2
            have hR0 : R = some (1 + X, m) := by rw [← HR.out, HL'.out]
            exact ⟨by rw [hR0]; simp only [wOf]; first | rfl | (congr 1; congr 1), HOr.out, _, HGr.out, fun p hp => by rw [hR0] at hp; injection hp with hp; rw [← hp]⟩
end Go.Proofs.YtgknlegomoaoeaaDoor

/-
  The contract of count. No statement of the seat is proved here.
-/
namespace Go.Proofs.YtgknlegomoaoeaaDoor
open Go Go.RowKit
set_option maxRecDepth 100000

theorem timesW_pos (lo hi : Int) : 1 ≤ timesW lo hi := by unfold timesW; omega
theorem cnt_kids {k : Int} {s : List Nat} {ks : List Ex} {lo hi : Int} (h1 : k ≠ 1) {m : Nat} (h : cntE (.mk k s ks lo hi) ≤ m) : cntL ks ≤ m := by
  simp only [cntE, if_neg h1] at h
  split at h
  · exact Nat.le_trans (Nat.le_mul_of_pos_right _ (timesW_pos lo hi)) h
  · exact h
theorem cnt_kid {ks : List Ex} {m : Nat} (h : cntL ks ≤ m) {j : Nat} (hj : j < ks.length) : cntL (ks.take j) + cntE ks[j] ≤ m := by
  rw [← cntL_take ks j hj]; exact Nat.le_trans (cntL_le _ _) h
set_option maxHeartbeats 8000000 in
theorem gcount_any (S : Nat → Prop) (t : Ex) : ∀ (cs : List Value) (w : World), ReR S w t cs → cntE t ≤ 134217728 →
    Calls Tryd.prog 38 #[reV cs] w fun e w' => e = .returned (.int .i64 (cntE t : Int)) ∧ Below w.heap.size w w' := by
  refine ex_induct (p := fun t => ∀ (cs : List Value) (w : World), ReR S w t cs → cntE t ≤ 134217728 → Calls Tryd.prog 38 #[reV cs] w fun e w' => e = .returned (.int .i64 (cntE t : Int)) ∧ Below w.heap.size w w') (fun k s ks lo hi ih cs w h hc => ?_) t
  rw [reR_iff] at h
  obtain ⟨⟨hk, hs, hlo, hhi⟩, A, c, rfl, h1, h2, h3⟩ := h
  obtain ⟨p0, p1, p2, p3, rfl⟩ := four_words hs
  unfold isInt at hlo hhi
  unfold maxLen at h2
  have Hih := Lib.hid ih
  have H3 := Lib.hid h3
  have Hc := Lib.hid hc
  clear ih h3 hk hs hc
  obtain ⟨C, hC⟩ : ∃ C, cntE (.mk k [p0, p1, p2, p3] ks lo hi) = C := ⟨_, rfl⟩
  have HC := Lib.hid hC
  rw [hC]
  clear hC
  unfold reV reCells
  show Calls Tryd.prog 38 #[.agg #[.int .i64 k, .int .u64 (p0 : Int), .int .u64 (p1 : Int), .int .u64 (p2 : Int), .int .u64 (p3 : Int), .slice A ks.length c, .int .i64 lo, .int .i64 hi]] w _
  by_cases hk1 : k = 1
  · subst hk1
    go_enter Tryd.func38, Tryd.ntmps38
    go_wp2
    go_ret
    have h1 := HC.out
    simp only [cntE, if_true] at h1
    exact ⟨by rw [← h1]; rfl, ext_alloc (Below.refl _ _) _⟩
  · have hkk : (k == 1) = false := by simpa using hk1
    have hck := cnt_kids hk1 Hc.out
    have Hck := Lib.hid hck
    clear hck
    obtain ⟨W2, hW2⟩ : ∃ W2, W2 = w.alloc (Obj.cells #[.int .i64 k, .int .u64 (p0 : Int), .int .u64 (p1 : Int), .int .u64 (p2 : Int), .int .u64 (p3 : Int), .slice A ks.length c, .int .i64 lo, .int .i64 hi] 27) := ⟨_, rfl⟩
    have hB2 : Blk W2 w.heap.size 27 #[.int .i64 k, .int .u64 (p0 : Int), .int .u64 (p1 : Int), .int .u64 (p2 : Int), .int .u64 (p3 : Int), .slice A ks.length c, .int .i64 lo, .int .i64 hi] := by rw [hW2]; exact Blk.new w _ _
    have hb2 : Below w.heap.size w W2 := by rw [hW2]; exact ext_alloc (Below.refl _ _) _
    go_enter Tryd.func38, Tryd.ntmps38
    go_wp2_with fail
    rw [← hW2]
    have HB2 := Lib.hid hB2
    have Hb2 := Lib.hid hb2
    clear hB2 hb2 hW2
    go_loopw [3, 12] (fun x i wr => ∃ j X : Nat, j ≤ ks.length ∧ i = .int .i64 (j : Int) ∧ x = .int .i64 (X : Int) ∧ Hid (cntL (ks.take j) = X) ∧ Hid (Blk wr w.heap.size 27 #[.int .i64 k, .int .u64 (p0 : Int), .int .u64 (p1 : Int), .int .u64 (p2 : Int), .int .u64 (p3 : Int), .slice A ks.length c, .int .i64 lo, .int .i64 hi]) ∧ Hid (Below w.heap.size w wr)) (fun _ i _ => ks.length - (intOf i).toNat)
    case atStart => exact ⟨0, 0, Nat.zero_le _, rfl, rfl, Lib.hid rfl, HB2, Hb2⟩
    case round =>
      obtain ⟨j, X, hj, rfl, rfl, HX, HBr, Hbr⟩ := hrel
      have hXb : X ≤ 134217728 := by rw [← HX.out]; exact Nat.le_trans (cntL_le _ _) Hck.out
      by_cases hlt2 : j < ks.length
      · have hji : (j : Int) < (ks.length : Int) := by omega
        obtain ⟨g', o, k', q0, q1, q2, q3, ks', A', c', lo', hi', rfl, hx, hr, x0, x1, x2, x3, x4, x5, x6, x7, hsg⟩ := (H3.out.ext Hbr.out).kidX hlt2
        have hsum := cnt_kid Hck.out hlt2
        rw [HX.out] at hsum
        obtain ⟨Y, hY⟩ : ∃ Y, cntE ks[j] = Y := ⟨_, rfl⟩
        have hcall : ∀ W, Below wr.heap.size wr W → Calls Tryd.prog 38 #[.agg #[.int .i64 k', .int .u64 (q0 : Int), .int .u64 (q1 : Int), .int .u64 (q2 : Int), .int .u64 (q3 : Int), .slice A' ks'.length c', .int .i64 lo', .int .i64 hi']] W fun e w' => e = .returned (.int .i64 (Y : Int)) ∧ Below W.heap.size W w' := fun W hW => by
          have := Hih.out _ (List.getElem_mem hlt2) _ W (hr.ext hW) (by omega)
          rw [hY] at this
          simpa [reV] using this
        rw [hY] at hsum
        have hnx : cntL (ks.take (j + 1)) = X + Y := by rw [cntL_take ks j hlt2, HX.out, hY]
        have Hnx := Lib.hid hnx
        have Hcall := Lib.hid hcall
        clear hcall hr hx hnx hY
        have hYi : (X : Int) + (Y : Int) ≤ 134217728 := by omega
        go_wp2_with fail
        refine (Hcall.out _ ((Below.refl _ _).alloc (Nat.le_refl _) _)).mono ?_
        rintro e w4 ⟨rfl, hb4⟩
        have HB4 := Lib.hid ((HBr.out.alloc (.cells #[.int .i64 k', .int .u64 (q0 : Int), .int .u64 (q1 : Int), .int .u64 (q2 : Int), .int .u64 (q3 : Int), .slice A' ks'.length c', .int .i64 lo', .int .i64 hi'] 27)).ext hb4)
        have Hb4 := Lib.hid (ext_trans (ext_alloc Hbr.out (.cells #[.int .i64 k', .int .u64 (q0 : Int), .int .u64 (q1 : Int), .int .u64 (q2 : Int), .int .u64 (q3 : Int), .slice A' ks'.length c', .int .i64 lo', .int .i64 hi'] 27)) hb4)
        clear hb4
        go_wp2
        go_roundw
        case rel => exact ⟨j + 1, X + Y, by omega, by go_num, by go_num, Hnx, HB4, Hb4⟩
        case measure => simp [intOf]; omega
      · obtain rfl : j = ks.length := by omega
        have hL' : cntL ks = X := by have := HX.out; rwa [List.take_length] at this
        have c0 := HBr.out.cell 0
        have c6 := HBr.out.cell 6
        have c7 := HBr.out.cell 7
        have HL' := Lib.hid hL'
        clear hL'
        by_cases hk4 : k = 4
        · subst hk4
          have hcc : X * timesW lo hi ≤ 134217728 ∧ cntE (.mk 4 [p0, p1, p2, p3] ks lo hi) = X * timesW lo hi := by
            have := Hc.out
            simp only [cntE] at this ⊢
            rw [HL'.out] at this ⊢
            exact ⟨by simpa using this, by simp⟩
          rw [HC.out] at hcc
          obtain ⟨hcc1, hcc⟩ := hcc
          obtain ⟨T, hT⟩ : ∃ T, timesW lo hi = T := ⟨_, rfl⟩
          rw [hT] at hcc hcc1
          have hTp : 1 ≤ T := by rw [← hT]; exact timesW_pos lo hi
          obtain ⟨M1, hM1⟩ : ∃ M, (if lo < hi then hi else lo) = M := ⟨_, rfl⟩
          have hM2 : (if M1 < 1 then 1 else M1) = (T : Int) := by
            rw [← hT, ← hM1]
            unfold timesW
            split <;> split <;> omega
          obtain ⟨x, hx⟩ : ∃ x, X * T = x := ⟨_, rfl⟩
          have hxi : (X : Int) * (T : Int) = (x : Int) := by rw [← hx]; simp
          rw [hx] at hcc hcc1
          subst hcc
          have hxb : (C : Int) ≤ 134217728 := by omega
          have Hbr' := Hbr
          clear hT hx
          go_wp2
          go_ret
          exact ⟨rfl, Hbr.out⟩
        · have hkk4 : (k == 4) = false := by simpa using hk4
          have hcc : cntE (.mk k [p0, p1, p2, p3] ks lo hi) = X := by
            simp only [cntE, if_neg hk1, if_neg hk4]
            exact HL'.out
          rw [HC.out] at hcc
          subst hcc
          go_wp2
          go_ret
          exact ⟨rfl, Hbr.out⟩
end Go.Proofs.YtgknlegomoaoeaaDoor
