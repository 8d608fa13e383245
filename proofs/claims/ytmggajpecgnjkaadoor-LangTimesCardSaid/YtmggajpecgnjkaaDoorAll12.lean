/-
  Texts of this claim, joined (part 12): contracts and lemmas that the last text goes by. No statement of the seat is proved here.
-/
import Derived.Test.YtmggajpecgnjkaaDoorAll11
set_option linter.unusedVariables false
set_option linter.unusedSimpArgs false
/-
  LangTimes, its walk: so and so often, or some more. No statement of the seat is proved here (LangTimes closes it).
-/
namespace Go.Proofs.YtmggajpecgnjkaaDoor
open Go Go.ChangeShapes Go.WideShapes Go.ChangeAt Go.RowKit
set_option maxRecDepth 100000

def optE (x : Ex) : Ex := .mk 4 zeroB [x] 0 1
def timesE (x : Ex) (m n : Nat) : Ex := .mk 4 zeroB [x] m ((m : Int) + (n : Int))
theorem inSeq_one (x : Ex) (u : List Nat) : inSeq [x] u ↔ inE x u := by
  simp only [inSeq]
  constructor
  · rintro ⟨a, b, rfl, h, rfl⟩; rwa [List.append_nil]
  · intro h; exact ⟨u, [], by rw [List.append_nil], h, rfl⟩
theorem inE_seqE (l : List Ex) (u : List Nat) : inE (seqE l) u ↔ inSeq l u := by
  match l with
  | [] =>
    show inE (.mk 0 zeroB [] 0 0) u ↔ _
    simp only [inE, inSeq]
    rw [if_pos trivial]
  | [x] => exact (inSeq_one x u).symm
  | x :: y :: r =>
    show inE (.mk 2 zeroB (x :: y :: r) 0 0) u ↔ _
    simp only [inE]
    rw [if_neg (by decide), if_neg (by decide), if_pos trivial]
theorem inSeq_app : ∀ (l r : List Ex) (u : List Nat), inSeq (l ++ r) u ↔ ∃ a b, u = a ++ b ∧ inSeq l a ∧ inSeq r b
  | [], r, u => by
    simp only [List.nil_append, inSeq]
    constructor
    · intro h; exact ⟨[], u, rfl, rfl, h⟩
    · rintro ⟨a, b, rfl, rfl, h⟩; exact h
  | x :: l, r, u => by
    simp only [List.cons_append, inSeq]
    constructor
    · rintro ⟨a, b, rfl, ha, hb⟩
      obtain ⟨c, e, rfl, hc, he⟩ := (inSeq_app l r b).1 hb
      exact ⟨a ++ c, e, by rw [List.append_assoc], ⟨a, c, rfl, ha, hc⟩, he⟩
    · rintro ⟨a, b, rfl, ⟨c, e, rfl, hc, he⟩, hb⟩
      exact ⟨c, e ++ b, by rw [List.append_assoc], hc, (inSeq_app l r _).2 ⟨e, b, rfl, he, hb⟩⟩
theorem inSeq_rep (x : Ex) : ∀ (m : Nat) (u : List Nat), inSeq (List.replicate m x) u ↔ powL (inE x) m u
  | 0, u => by simp only [List.replicate_zero, inSeq, powL]
  | m + 1, u => by
    rw [List.replicate_succ]
    simp only [inSeq, powL]
    constructor
    · rintro ⟨a, b, rfl, ha, hb⟩; exact ⟨a, b, rfl, ha, (inSeq_rep x m b).1 hb⟩
    · rintro ⟨a, b, rfl, ha, hb⟩; exact ⟨a, b, rfl, ha, (inSeq_rep x m b).2 hb⟩
theorem inE_opt (x : Ex) (u : List Nat) : inE (optE x) u ↔ u = [] ∨ inE x u := by
  unfold optE
  simp only [inE, inRep]
  rw [if_neg (by decide), if_neg (by decide), if_neg (by decide), if_neg (by decide)]
  constructor
  · rintro ⟨j, -, h2, h3⟩
    rcases (by omega : j = 0 ∨ j = 1) with rfl | rfl
    · exact .inl h3
    · exact .inr ((powL_one _ _).1 h3)
  · rintro (rfl | h)
    · exact ⟨0, by omega, .inr (by omega), rfl⟩
    · exact ⟨1, by omega, .inr (by omega), (powL_one _ _).2 h⟩
theorem inSeq_opts (x : Ex) : ∀ (n : Nat) (u : List Nat), inSeq (List.replicate n (optE x)) u ↔ ∃ j, j ≤ n ∧ powL (inE x) j u
  | 0, u => by
    simp only [List.replicate_zero, inSeq]
    constructor
    · rintro rfl; exact ⟨0, Nat.le_refl _, rfl⟩
    · rintro ⟨j, h, hp⟩
      obtain rfl : j = 0 := by omega
      exact hp
  | n + 1, u => by
    rw [List.replicate_succ]
    simp only [inSeq]
    constructor
    · rintro ⟨a, b, rfl, ha, hb⟩
      obtain ⟨j, hj, hp⟩ := (inSeq_opts x n b).1 hb
      rcases (inE_opt x a).1 ha with rfl | ha
      · exact ⟨j, by omega, hp⟩
      · exact ⟨j + 1, by omega, a, b, rfl, ha, hp⟩
    · rintro ⟨j, hj, hp⟩
      by_cases hjn : j ≤ n
      · exact ⟨[], u, rfl, (inE_opt x _).2 (.inl rfl), (inSeq_opts x n u).2 ⟨j, hjn, hp⟩⟩
      · obtain rfl : j = n + 1 := by omega
        obtain ⟨a, b, rfl, ha, hb⟩ := hp
        exact ⟨a, b, rfl, (inE_opt x a).2 (.inr ha), (inSeq_opts x n b).2 ⟨n, Nat.le_refl _, hb⟩⟩
def rowE (x : Ex) (m n : Nat) : List Ex := List.replicate m x ++ List.replicate n (optE x)
theorem inE_times (x : Ex) (m n : Nat) (u : List Nat) : inE (timesE x m n) u ↔ inE (seqE (rowE x m n)) u := by
  rw [inE_seqE, rowE, inSeq_app]
  unfold timesE
  simp only [inE, inRep]
  rw [if_neg (by decide), if_neg (by decide), if_neg (by decide), if_neg (by decide)]
  constructor
  · rintro ⟨j, h1, h2, h3⟩
    obtain ⟨i, rfl⟩ : ∃ i, j = m + i := ⟨j - m, by omega⟩
    obtain ⟨a, b, rfl, ha, hb⟩ := (powL_add _ m i u).1 h3
    exact ⟨a, b, rfl, (inSeq_rep x m a).2 ha, (inSeq_opts x n b).2 ⟨i, by omega, hb⟩⟩
  · rintro ⟨a, b, rfl, ha, hb⟩
    obtain ⟨i, hi, hp⟩ := (inSeq_opts x n b).1 hb
    exact ⟨m + i, by omega, .inr (by omega), (powL_add _ m i _).2 ⟨a, b, rfl, (inSeq_rep x m a).1 ha, hp⟩⟩
theorem match_times (x : Ex) (m n : Nat) (h1 : isE (timesE x m n) = true) (h2 : isE (seqE (rowE x m n)) = true) (u : List Nat) : matchE (timesE x m n) u = matchE (seqE (rowE x m n)) u := by
  rw [Bool.eq_iff_iff, matchE_iff, matchE_iff, inE_times]
  exact ⟨fun h => ⟨h2, h.2⟩, fun h => ⟨h1, h.2⟩⟩
theorem nodesL_app (l r : List Ex) : nodesL (l ++ r) = nodesL l + nodesL r := by
  induction l with
  | nil => simp [nodesL]
  | cons x l ih => simp only [List.cons_append, nodesL, ih]; omega
theorem nodesL_rep (x : Ex) (m : Nat) : nodesL (List.replicate m x) = m * nodesE x := by
  induction m with
  | zero => simp [nodesL]
  | succ m ih => rw [List.replicate_succ]; simp only [nodesL, ih]; rw [Nat.add_mul]; omega
theorem nodes_times {x : Ex} (hx : nodesE x ≤ 150) (m n : Nat) : nodesE (timesE x m n) ≤ 1000000 := by
  unfold timesE
  simp only [nodesE, nodesL]
  omega
theorem nodes_rowE {x : Ex} (hx : nodesE x ≤ 150) {m n : Nat} (hm : m ≤ 5) (hn : n ≤ 5) : nodesE (seqE (rowE x m n)) ≤ 1000000 := by
  have h1 : nodesL (rowE x m n) ≤ 1505 := by
    rw [rowE, nodesL_app, nodesL_rep, nodesL_rep]
    have h2 : nodesE (optE x) ≤ 151 := by unfold optE; simp only [nodesE, nodesL]; omega
    have := Nat.mul_le_mul hm hx
    have := Nat.mul_le_mul hn h2
    omega
  generalize rowE x m n = l at h1
  match l, h1 with
  | [], _ => decide
  | [y], h => simp only [nodesL] at h; show nodesE y ≤ _; omega
  | y :: z :: r, h => simp only [seqE, nodesE]; omega

set_option maxHeartbeats 8000000 in
theorem times7_any (x : Ex) (cs : List Value) (mi ni : Int) (s : ByteArray) (w : World) (ht : Tab w) (hr : ReR (fun _ => True) w x cs) (him : isInt mi) (hin : isInt ni) (hs : s.size ≤ maxLen) :
    Calls Tryd.prog 12 #[reV cs, .int .i64 mi, .int .i64 ni, .string s] w fun e w' => e = .returned (.bool true) ∧ Below w.heap.size w w' := by
  obtain ⟨k, q0, q1, q2, q3, ks, B, d, lo, hi, -, rfl, h1, h2, -, -, -, -, -⟩ := hr.fields
  unfold maxLen at h2 hs
  obtain ⟨w1, hw1⟩ : ∃ w1, w1 = w.alloc (Obj.cells #[.int .i64 k, .int .u64 (q0 : Int), .int .u64 (q1 : Int), .int .u64 (q2 : Int), .int .u64 (q3 : Int), .slice B ks.length d, .int .i64 lo, .int .i64 hi] 27) := ⟨_, rfl⟩
  have hb1 : Below w.heap.size w w1 := by rw [hw1]; exact (Below.refl _ _).alloc (Nat.le_refl _) _
  have hB1 : Blk w1 w.heap.size 27 #[.int .i64 k, .int .u64 (q0 : Int), .int .u64 (q1 : Int), .int .u64 (q2 : Int), .int .u64 (q3 : Int), .slice B ks.length d, .int .i64 lo, .int .i64 hi] := by rw [hw1]; exact Blk.new w _ _
  have hr0 : ReR (fun b => b < w.heap.size) w x [.int .i64 k, .int .u64 (q0 : Int), .int .u64 (q1 : Int), .int .u64 (q2 : Int), .int .u64 (q3 : Int), .slice B ks.length d, .int .i64 lo, .int .i64 hi] := hr.mono (fun g _ h => h)
  have hr1 := hr0.ext hb1
  have HH := Lib.hid (heavy7_any _ x _ w1 hr1)
  have hnod : heavyE x = false → nodesE x ≤ 150 := heavyE_nodes
  obtain ⟨t, hte⟩ : ∃ t, heavyE x = t := ⟨_, rfl⟩
  rw [hte] at HH hnod
  have Hnod := Lib.hid hnod
  have Hb1 := Lib.hid hb1
  have HB1 := Lib.hid hB1
  have Hr1 := Lib.hid hr1
  have Ht := Lib.hid ht
  have Hw1 := Lib.hid hw1
  have hlw : w.heap.size < w1.heap.size := by rw [hw1, World.size_alloc]; omega
  clear hb1 hB1 hr0 hr1 ht hw1 hr hte hnod
  show Calls Tryd.prog 12 #[.agg #[.int .i64 k, .int .u64 (q0 : Int), .int .u64 (q1 : Int), .int .u64 (q2 : Int), .int .u64 (q3 : Int), .slice B ks.length d, .int .i64 lo, .int .i64 hi], .int .i64 mi, .int .i64 ni, .string s] w _
  go_enter Tryd.func12, Tryd.ntmps12
  go_wp2_with fail
  rw [← Hw1.out]
  refine HH.out.mono ?_
  rintro e w3 ⟨rfl, hb3⟩
  have Hb3 := Lib.hid (ext_trans Hb1.out hb3)
  have HB3 := Lib.hid (HB1.out.ext hb3)
  have Hr3 := Lib.hid (Hr1.out.ext hb3)
  have hs3 := hb3.size
  clear hb3 HH HB1 Hr1 Hb1
  cases t with
  | true =>
    go_wp2
    go_ret
    exact ⟨rfl, Hb3.out⟩
  | false =>
  by_cases g1 : (30 : Int) < (s.size : Int)
  · go_wp2
    go_ret
    exact ⟨rfl, Hb3.out⟩
  by_cases g2 : mi < 0
  · go_wp2
    go_ret
    exact ⟨rfl, Hb3.out⟩
  by_cases g3 : (5 : Int) < mi
  · go_wp2
    go_ret
    exact ⟨rfl, Hb3.out⟩
  by_cases g4 : ni < 1
  · go_wp2
    go_ret
    exact ⟨rfl, Hb3.out⟩
  by_cases g5 : (5 : Int) < ni
  · go_wp2
    go_ret
    exact ⟨rfl, Hb3.out⟩
  obtain ⟨m, rfl⟩ : ∃ m : Nat, mi = (m : Int) := ⟨mi.toNat, by omega⟩
  obtain ⟨n, rfl⟩ : ∃ n : Nat, ni = (n : Int) := ⟨ni.toNat, by omega⟩
  have hm5 : m ≤ 5 := by omega
  have hn5 : n ≤ 5 := by omega
  have hm5i : (m : Int) ≤ 5 := by omega
  have hn5i : (n : Int) ≤ 5 := by omega
  have hn1 : (1 : Int) ≤ (n : Int) := by omega
  have hss : (s.size : Int) ≤ 30 := by omega
  clear g1 g2 g3 g4 g5
  have c0 := HB3.out.cell 0
  have c1 := HB3.out.cell 1
  have c2 := HB3.out.cell 2
  have c3 := HB3.out.cell 3
  have c4 := HB3.out.cell 4
  have c5 := HB3.out.cell 5
  have c6 := HB3.out.cell 6
  have c7 := HB3.out.cell 7
  obtain ⟨W4, hW4⟩ : ∃ W4, W4 = (w3.alloc (Obj.cells #[.int .i64 k, .int .u64 (q0 : Int), .int .u64 (q1 : Int), .int .u64 (q2 : Int), .int .u64 (q3 : Int), .slice B ks.length d, .int .i64 lo, .int .i64 hi] 27)).alloc (Obj.cells #[.int .i64 4, .int .u64 0, .int .u64 0, .int .u64 0, .int .u64 0, .slice (some ⟨w3.heap.size, 0, none⟩) 1 1, .int .i64 (m : Int), .int .i64 ((m : Int) + (n : Int))] 27) := ⟨_, rfl⟩
  have hb34 : Below w3.heap.size w3 W4 := by rw [hW4]; exact ext2 w3 _ _
  have hX4 : Blk W4 (w3.heap.size + 1) 27 #[.int .i64 4, .int .u64 0, .int .u64 0, .int .u64 0, .int .u64 0, .slice (some ⟨w3.heap.size, 0, none⟩) 1 1, .int .i64 (m : Int), .int .i64 ((m : Int) + (n : Int))] := by
    rw [hW4]
    have := Blk.new (w3.alloc (Obj.cells #[.int .i64 k, .int .u64 (q0 : Int), .int .u64 (q1 : Int), .int .u64 (q2 : Int), .int .u64 (q3 : Int), .slice B ks.length d, .int .i64 lo, .int .i64 hi] 27)) 27 #[.int .i64 4, .int .u64 0, .int .u64 0, .int .u64 0, .int .u64 0, .slice (some ⟨w3.heap.size, 0, none⟩) 1 1, .int .i64 (m : Int), .int .i64 ((m : Int) + (n : Int))]
    rwa [World.size_alloc] at this
  have hR4 : ReR (fun _ => True) W4 (timesE x m n) (Array.toList #[.int .i64 4, .int .u64 0, .int .u64 0, .int .u64 0, .int .u64 0, .slice (some ⟨w3.heap.size, 0, none⟩) 1 1, .int .i64 (m : Int), .int .i64 ((m : Int) + (n : Int))]) := by
    unfold timesE
    rw [reR_iff]
    refine ⟨⟨by unfold isInt; omega, zero_ok, by unfold isInt; omega, by unfold isInt; omega⟩, some ⟨w3.heap.size, 0, none⟩, 1, rfl, Nat.le_refl _, by simp [maxLen], ?_⟩
    have h9 := (RowE.one w3 Hr3.out).kids (T := fun _ => True) (fun _ _ _ => trivial)
    rw [hW4]
    exact h9.ext ((Below.refl _ _).alloc (Nat.le_refl _) _)
  have hs4 : W4.heap.size = w3.heap.size + 2 := by rw [hW4, World.size_alloc, World.size_alloc]
  have Hb4 := Lib.hid (ext_trans Hb3.out hb34)
  have HB4 := Lib.hid (HB3.out.ext hb34)
  have HX4 := Lib.hid hX4
  have HR4 := Lib.hid hR4
  have Hx4 := Lib.hid (Hr3.out.ext hb34)
  have Hs4 := Lib.hid hs4
  go_upto_region 4 with (fail)
  rw [← hW4]
  clear hb34 hX4 hR4 hs4 hW4 Hr3 HB3 Hb3
  clear c0 c1 c2 c3 c4 c5 c6 c7
  have hlw4 : w.heap.size ≤ W4.heap.size := by have := Hs4.out; omega
  go_wp2
  go_loopw [10, 11] (fun rv iv wr => ∃ (A : Option Addr) (c j : Nat), j ≤ m ∧ iv = .int .i64 (j : Int) ∧ rv = .slice A j c ∧ Hid (RowE (fun _ => True) wr A j c (List.replicate j x)) ∧ Hid (∀ b, inA A b → W4.heap.size ≤ b) ∧ Below W4.heap.size W4 wr) (fun _ iv _ => m - (intOf iv).toNat)
  case atStart => exact ⟨none, 0, 0, Nat.zero_le _, rfl, rfl, Lib.hid (RowE.none_ _ _), Lib.hid (fun b h => absurd h (inA_none b)), Below.refl _ _⟩
  case round =>
    obtain ⟨A, c, j, hj, rfl, rfl, Hrow, HA, hbr⟩ := hrel
    have hcc := Hrow.out.cap
    unfold maxLen at hcc
    by_cases hlt : j < m
    · have hji : (j : Int) < (m : Int) := by omega
      have hB := HB4.out.ext hbr
      have z0 := hB.cell 0
      have z1 := hB.cell 1
      have z2 := hB.cell 2
      have z3 := hB.cell 3
      have z4 := hB.cell 4
      have z5 := hB.cell 5
      have z6 := hB.cell 6
      have z7 := hB.cell 7
      obtain ⟨xs, hxs, hxl, hxp⟩ := Hrow.out.ext ((Below.refl wr.heap.size wr).alloc (Nat.le_refl _) (Obj.cells #[.int .i64 k, .int .u64 (q0 : Int), .int .u64 (q1 : Int), .int .u64 (q2 : Int), .int .u64 (q3 : Int), .slice B ks.length d, .int .i64 lo, .int .i64 hi] 27))
      have Hm1 : Hid (j + 1 ≤ maxLen) := Lib.hid (by unfold maxLen; omega)
      have Hm2 : Hid ((j + 1) * 80 ≤ 140737488355328) := Lib.hid (by omega)
      have Hones : Hid (∀ u ∈ ([.int .i64 k, .int .u64 (q0 : Int), .int .u64 (q1 : Int), .int .u64 (q2 : Int), .int .u64 (q3 : Int), .slice B ks.length d, .int .i64 lo, .int .i64 hi] : List Value), u.oneCell' = true) := Lib.hid (by intro u hu; simp only [List.mem_cons, List.not_mem_nil, or_false] at hu; rcases hu with rfl | rfl | rfl | rfl | rfl | rfl | rfl | rfl <;> rfl)
      have hxa := ((Hx4.out.ext hbr).ext ((Below.refl wr.heap.size wr).alloc (Nat.le_refl _) (Obj.cells #[.int .i64 k, .int .u64 (q0 : Int), .int .u64 (q1 : Int), .int .u64 (q2 : Int), .int .u64 (q3 : Int), .slice B ks.length d, .int .i64 lo, .int .i64 hi] 27))).mono (T := fun b => True ∧ ¬ inA A b) (fun b hb _ => ⟨trivial, fun hin => by have := HA.out b hin; omega⟩)
      have Hxa := Lib.hid hxa
      have Hbr := Lib.hid hbr
      clear hB hxa hbr
      go_wp2_with (refine wpList_appO _ rfl (.tmp 49) (.tmp 51) _ rfl _ _ 8 80 Tryd.underlying25 info_re rfl A j c xs rfl hxs (some ⟨wr.heap.size, 0, none⟩) 1 1 [.int .i64 k, .int .u64 (q0 : Int), .int .u64 (q1 : Int), .int .u64 (q2 : Int), .int .u64 (q3 : Int), .slice B ks.length d, .int .i64 lo, .int .i64 hi] rfl rfl (Rd.lit wr #[.int .i64 k, .int .u64 (q0 : Int), .int .u64 (q1 : Int), .int .u64 (q2 : Int), .int .u64 (q3 : Int), .slice B ks.length d, .int .i64 lo, .int .i64 hi] 27) Hones.out (by intro h; cases h) Hm1.out Hm2.out ?_; intro A7 c7 w7 hrow7 honly7 hA7)
      have hN := RowE.grow (S := fun _ => True) (x := x) Hxa.out hxs hxl hxp hrow7 honly7 hA7
      rw [← List.replicate_succ'] at hN
      have HN := Lib.hid hN
      have HA7 : Hid (∀ b, inA A7 b → W4.heap.size ≤ b) := Lib.hid (fun b hb => (hA7 b hb).elim (HA.out b) (fun h => by have := h.1; simp at this; have := Hbr.out.size; omega))
      have hb7 : Below W4.heap.size W4 w7 := (Hbr.out.alloc Hbr.out.size _).trans (honly7.below (fun b hb => HA.out b hb) (by simp; have := Hbr.out.size; omega))
      clear hN hrow7 honly7 hA7 hxs hxl hxp z0 z1 z2 z3 z4 z5 z6 z7
      go_wp2
      go_roundw
      case rel => exact ⟨A7, c7, j + 1, by omega, by go_num, rfl, HN, HA7, hb7⟩
      case measure => simp [intOf]; omega
    · obtain rfl : j = m := by omega
      clear hlt
      go_wp2
      go_loopw [10, 12] (fun rv iv wr => ∃ (A : Option Addr) (c i : Nat), i ≤ n ∧ iv = .int .i64 (i : Int) ∧ rv = .slice A (j + i) c ∧ Hid (RowE (fun _ => True) wr A (j + i) c (List.replicate j x ++ List.replicate i (optE x))) ∧ Hid (∀ b, inA A b → W4.heap.size ≤ b) ∧ Below W4.heap.size W4 wr) (fun _ iv _ => n - (intOf iv).toNat)
      case atStart => exact ⟨A, c, 0, Nat.zero_le _, rfl, rfl, Lib.hid (by rw [List.replicate_zero, List.append_nil, Nat.add_zero]; exact Hrow.out), HA, hbr⟩
      case round =>
        clear Hrow HA hbr hcc
        obtain ⟨A, c, i, hil, rfl, rfl, Hrow, HA, hbr⟩ := hrel
        have hcc := Hrow.out.cap
        unfold maxLen at hcc
        by_cases hlt : i < n
        · have hii : (i : Int) < (n : Int) := by omega
          have hB := HB4.out.ext hbr
          have z0 := hB.cell 0
          have z1 := hB.cell 1
          have z2 := hB.cell 2
          have z3 := hB.cell 3
          have z4 := hB.cell 4
          have z5 := hB.cell 5
          have z6 := hB.cell 6
          have z7 := hB.cell 7
          have hba : Below wr.heap.size wr ((wr.alloc (Obj.cells #[.int .i64 k, .int .u64 (q0 : Int), .int .u64 (q1 : Int), .int .u64 (q2 : Int), .int .u64 (q3 : Int), .slice B ks.length d, .int .i64 lo, .int .i64 hi] 27)).alloc (Obj.cells #[.int .i64 4, .int .u64 0, .int .u64 0, .int .u64 0, .int .u64 0, .slice (some ⟨wr.heap.size, 0, none⟩) 1 1, .int .i64 0, .int .i64 1] 27)) := ext2 wr _ _
          obtain ⟨xs, hxs, hxl, hxp⟩ := Hrow.out.ext hba
          have Hm1 : Hid (j + i + 1 ≤ maxLen) := Lib.hid (by unfold maxLen; omega)
          have Hm2 : Hid ((j + i + 1) * 80 ≤ 140737488355328) := Lib.hid (by omega)
          have Hones : Hid (∀ u ∈ ([.int .i64 4, .int .u64 0, .int .u64 0, .int .u64 0, .int .u64 0, .slice (some ⟨wr.heap.size, 0, none⟩) 1 1, .int .i64 0, .int .i64 1] : List Value), u.oneCell' = true) := Lib.hid (by intro u hu; simp only [List.mem_cons, List.not_mem_nil, or_false] at hu; rcases hu with rfl | rfl | rfl | rfl | rfl | rfl | rfl | rfl <;> rfl)
          have hxa : ReR (fun b => True ∧ ¬ inA A b) ((wr.alloc (Obj.cells #[.int .i64 k, .int .u64 (q0 : Int), .int .u64 (q1 : Int), .int .u64 (q2 : Int), .int .u64 (q3 : Int), .slice B ks.length d, .int .i64 lo, .int .i64 hi] 27)).alloc (Obj.cells #[.int .i64 4, .int .u64 0, .int .u64 0, .int .u64 0, .int .u64 0, .slice (some ⟨wr.heap.size, 0, none⟩) 1 1, .int .i64 0, .int .i64 1] 27)) (optE x) [.int .i64 4, .int .u64 0, .int .u64 0, .int .u64 0, .int .u64 0, .slice (some ⟨wr.heap.size, 0, none⟩) 1 1, .int .i64 0, .int .i64 1] := by
            unfold optE
            rw [reR_iff]
            refine ⟨⟨by unfold isInt; omega, zero_ok, by unfold isInt; omega, by unfold isInt; omega⟩, some ⟨wr.heap.size, 0, none⟩, 1, rfl, Nat.le_refl _, by simp [maxLen], ?_⟩
            have h9 := (RowE.one wr (Hx4.out.ext hbr)).kids (T := fun b => True ∧ ¬ inA A b) (fun g hg hl => ⟨trivial, fun hin => hg.elim (fun h => by have := HA.out g hin; omega) (fun h => by have := (inA_some _ _ _ _).1 h; have := Hrow.out.lt hin; omega)⟩)
            exact h9.ext ((Below.refl _ _).alloc (Nat.le_refl _) _)
          have Hxa := Lib.hid hxa
          have Hbr := Lib.hid hbr
          have hrd : Rd ((wr.alloc (Obj.cells #[.int .i64 k, .int .u64 (q0 : Int), .int .u64 (q1 : Int), .int .u64 (q2 : Int), .int .u64 (q3 : Int), .slice B ks.length d, .int .i64 lo, .int .i64 hi] 27)).alloc (Obj.cells #[.int .i64 4, .int .u64 0, .int .u64 0, .int .u64 0, .int .u64 0, .slice (some ⟨wr.heap.size, 0, none⟩) 1 1, .int .i64 0, .int .i64 1] 27)) (some ⟨wr.heap.size + 1, 0, none⟩) [.int .i64 4, .int .u64 0, .int .u64 0, .int .u64 0, .int .u64 0, .slice (some ⟨wr.heap.size, 0, none⟩) 1 1, .int .i64 0, .int .i64 1] := by
            have := Rd.lit (wr.alloc (Obj.cells #[.int .i64 k, .int .u64 (q0 : Int), .int .u64 (q1 : Int), .int .u64 (q2 : Int), .int .u64 (q3 : Int), .slice B ks.length d, .int .i64 lo, .int .i64 hi] 27)) #[.int .i64 4, .int .u64 0, .int .u64 0, .int .u64 0, .int .u64 0, .slice (some ⟨wr.heap.size, 0, none⟩) 1 1, .int .i64 0, .int .i64 1] 27
            rwa [World.size_alloc] at this
          have Hrd := Lib.hid hrd
          clear hB hxa hbr hba hrd
          go_wp2_with (refine wpList_appO _ rfl (.tmp 58) (.tmp 62) _ rfl _ _ 8 80 Tryd.underlying25 info_re rfl A (j + i) c xs rfl hxs (some ⟨wr.heap.size + 1, 0, none⟩) 1 1 [.int .i64 4, .int .u64 0, .int .u64 0, .int .u64 0, .int .u64 0, .slice (some ⟨wr.heap.size, 0, none⟩) 1 1, .int .i64 0, .int .i64 1] rfl rfl Hrd.out Hones.out (by intro h; cases h) Hm1.out Hm2.out ?_; intro A7 c7 w7 hrow7 honly7 hA7)
          have hN := RowE.grow (S := fun _ => True) (x := optE x) Hxa.out hxs hxl hxp hrow7 honly7 hA7
          rw [List.append_assoc, ← List.replicate_succ'] at hN
          have HN := Lib.hid hN
          have HA7 : Hid (∀ b, inA A7 b → W4.heap.size ≤ b) := Lib.hid (fun b hb => (hA7 b hb).elim (HA.out b) (fun h => by have := h.1; simp at this; have := Hbr.out.size; omega))
          have hb7 : Below W4.heap.size W4 w7 := ((Hbr.out.alloc Hbr.out.size _).alloc (by simp; have := Hbr.out.size; omega) _).trans (honly7.below (fun b hb => HA.out b hb) (by simp; have := Hbr.out.size; omega))
          clear hN hrow7 honly7 hA7 hxs hxl hxp z0 z1 z2 z3 z4 z5 z6 z7
          go_wp2
          go_roundw
          case rel => exact ⟨A7, c7, i + 1, by omega, by go_num, rfl, HN, HA7, hb7⟩
          case measure => simp [intOf]; omega
        · obtain rfl : i = n := by omega
          clear hlt
          have hrow' : RowE (fun _ => True) wr A (j + i) c (rowE x j i) := Hrow.out
          have hlen := hrow'.len
          have hSq := rseq_any (fun _ => True) A (j + i) c (rowE x j i) wr hlen.symm (by rw [hlen]; exact hrow'.le) hrow'.cap (hrow'.kids (T := fun _ => True) (fun _ _ _ => trivial))
          have HSq := Lib.hid hSq
          have hnx := Hnod.out (by trivial)
          have Hsame : Hid (isE (timesE x j i) = true → isE (seqE (rowE x j i)) = true → ∀ u, matchE (timesE x j i) u = matchE (seqE (rowE x j i)) u) := Lib.hid (match_times x j i)
          have Hn1 := Lib.hid (nodes_times hnx j i)
          have Hn2 := Lib.hid (nodes_rowE hnx hm5 hn5)
          have HXr := Lib.hid (HX4.out.ext hbr)
          have HRr := Lib.hid (HR4.out.ext hbr)
          have Hbr := Lib.hid (ext_trans Hb4.out hbr)
          clear hSq hlen hrow' Hrow HA hbr hnx HB4 HX4 HR4 Hx4
          generalize rowE x j i = ll at *
          go_wp2_with fail
          refine HSq.out.mono ?_
          rintro e w6 ⟨cs2, he, hr6, hb6⟩
          obtain ⟨k', p0, p1, p2, p3, ks', B', d', lo', hi', -, rfl, y1, y2, -, -, -, -, -⟩ := hr6.fields
          have he' : e = .returned (.agg #[.int .i64 k', .int .u64 (p0 : Int), .int .u64 (p1 : Int), .int .u64 (p2 : Int), .int .u64 (p3 : Int), .slice B' ks'.length d', .int .i64 lo', .int .i64 hi']) := he
          subst he'
          have hone : (#[.int .i64 k', .int .u64 (p0 : Int), .int .u64 (p1 : Int), .int .u64 (p2 : Int), .int .u64 (p3 : Int), .slice B' ks'.length d', .int .i64 lo', .int .i64 hi'] : Array Value).all (·.oneCell') = true := by simp [Value.oneCell']
          have Hr6 := Lib.hid hr6
          have HX6 := Lib.hid (HXr.out.ext hb6)
          have HR6 := Lib.hid (HRr.out.ext hb6)
          have Hb6 := Lib.hid (ext_trans Hbr.out hb6)
          clear he hr6 hb6 HSq HXr HRr Hbr
          go_wp2_with (have hh := hone; clear hone; refine wpList_store_re rfl _ _ rfl w6.heap.size rfl rfl rfl rfl hh (Blk.new _ _ _) ?_; intro w7 hB7 ho7; have hb67 : Below w6.heap.size w6 w7 := ((Below.refl _ _).alloc (Nat.le_refl _) _).trans (ho7.below (fun i hi => Nat.le_of_eq hi.symm) (by simp)); have hX7 := HX6.out.ext hb67; have d0 := hX7.cell 0; have d1 := hX7.cell 1; have d2 := hX7.cell 2; have d3 := hX7.cell 3; have d4 := hX7.cell 4; have d5 := hX7.cell 5; have d6 := hX7.cell 6; have d7 := hX7.cell 7)
          have HX7 := Lib.hid hX7
          have HB7 := Lib.hid hB7
          have HR7 := Lib.hid (HR6.out.ext hb67)
          have Hr7 := Lib.hid (Hr6.out.ext hb67)
          have Hb7 := Lib.hid (ext_trans Hb6.out hb67)
          clear hX7 hB7 hb67 ho7 hh HX6 HR6 Hr6 Hb6
          refine (ris_any _ _ _ w7 HR7.out Hn1.out).mono ?_
          rintro e w8 ⟨rfl, hb8⟩
          have HX8 := Lib.hid (HX7.out.ext hb8)
          have HB8 := Lib.hid (HB7.out.ext hb8)
          have HR8 := Lib.hid (HR7.out.ext hb8)
          have Hr8 := Lib.hid (Hr7.out.ext hb8)
          have Hb8 := Lib.hid (ext_trans Hb7.out hb8)
          clear hb8 HX7 HB7 HR7 Hr7 Hb7 d0 d1 d2 d3 d4 d5 d6 d7
          cases hi1 : isE (timesE x j i) with
          | false =>
            clear hi1
            go_wp2_with fail
            refine (known7_any w8 (Ht.out.ext Hb8.out)).mono ?_
            rintro e w9 ⟨rfl, hb9⟩
            go_wp2
            go_ret
            exact ⟨rfl, ext_trans Hb8.out hb9⟩
          | true =>
          have Hi1 := Lib.hid hi1
          clear hi1
          have d0 := HB8.out.cell 0
          have d1 := HB8.out.cell 1
          have d2 := HB8.out.cell 2
          have d3 := HB8.out.cell 3
          have d4 := HB8.out.cell 4
          have d5 := HB8.out.cell 5
          have d6 := HB8.out.cell 6
          have d7 := HB8.out.cell 7
          go_wp2_with fail
          refine (ris_any _ _ _ w8 Hr8.out Hn2.out).mono ?_
          rintro e w9 ⟨rfl, hb9⟩
          have HX9 := Lib.hid (HX8.out.ext hb9)
          have HB9 := Lib.hid (HB8.out.ext hb9)
          have HR9 := Lib.hid (HR8.out.ext hb9)
          have Hr9 := Lib.hid (Hr8.out.ext hb9)
          have Hb9 := Lib.hid (ext_trans Hb8.out hb9)
          clear hb9 HX8 HB8 HR8 Hr8 Hb8 d0 d1 d2 d3 d4 d5 d6 d7
          cases hi2 : isE (seqE ll) with
          | false =>
            clear hi2
            go_wp2_with fail
            refine (known7_any w9 (Ht.out.ext Hb9.out)).mono ?_
            rintro e w10 ⟨rfl, hb10⟩
            go_wp2
            go_ret
            exact ⟨rfl, ext_trans Hb9.out hb10⟩
          | true =>
          have hmt := Hsame.out Hi1.out hi2 (natsOf s)
          clear hi2
          have hM1 : ∀ W, Below w9.heap.size w9 W → Calls Tryd.prog 35 #[.agg #[.int .i64 4, .int .u64 0, .int .u64 0, .int .u64 0, .int .u64 0, .slice (some ⟨w3.heap.size, 0, none⟩) 1 1, .int .i64 (j : Int), .int .i64 ((j : Int) + (i : Int))], .string s] W fun e W' => e = .returned (.bool (matchE (seqE ll) (natsOf s))) ∧ Below W.heap.size W W' := fun W hW => by
            have := match_any _ _ s W (Ht.out.ext (ext_trans Hb9.out hW)) (HR9.out.ext hW) (by omega)
            rw [hmt] at this
            exact this
          have hM2 : ∀ W, Below w9.heap.size w9 W → Calls Tryd.prog 35 #[.agg #[.int .i64 k', .int .u64 (p0 : Int), .int .u64 (p1 : Int), .int .u64 (p2 : Int), .int .u64 (p3 : Int), .slice B' ks'.length d', .int .i64 lo', .int .i64 hi'], .string s] W fun e W' => e = .returned (.bool (matchE (seqE ll) (natsOf s))) ∧ Below W.heap.size W W' := fun W hW => match_any _ _ s W (Ht.out.ext (ext_trans Hb9.out hW)) (Hr9.out.ext hW) (by omega)
          have HTab : Hid (∀ W, Below w9.heap.size w9 W → Tab W) := Lib.hid fun W hW => Ht.out.ext (ext_trans Hb9.out hW)
          have HS : Hid (∀ W, Below w9.heap.size w9 W → W.cell? ⟨w3.heap.size + 1, 0, none⟩ = some (.int .i64 4) ∧ W.cell? ⟨w3.heap.size + 1, 1, none⟩ = some (.int .u64 0) ∧ W.cell? ⟨w3.heap.size + 1, 2, none⟩ = some (.int .u64 0) ∧ W.cell? ⟨w3.heap.size + 1, 3, none⟩ = some (.int .u64 0) ∧ W.cell? ⟨w3.heap.size + 1, 4, none⟩ = some (.int .u64 0) ∧ W.cell? ⟨w3.heap.size + 1, 5, none⟩ = some (.slice (some ⟨w3.heap.size, 0, none⟩) 1 1) ∧ W.cell? ⟨w3.heap.size + 1, 6, none⟩ = some (.int .i64 (j : Int)) ∧ W.cell? ⟨w3.heap.size + 1, 7, none⟩ = some (.int .i64 ((j : Int) + (i : Int))) ∧ W.cell? ⟨w6.heap.size, 0, none⟩ = some (.int .i64 k') ∧ W.cell? ⟨w6.heap.size, 1, none⟩ = some (.int .u64 (p0 : Int)) ∧ W.cell? ⟨w6.heap.size, 2, none⟩ = some (.int .u64 (p1 : Int)) ∧ W.cell? ⟨w6.heap.size, 3, none⟩ = some (.int .u64 (p2 : Int)) ∧ W.cell? ⟨w6.heap.size, 4, none⟩ = some (.int .u64 (p3 : Int)) ∧ W.cell? ⟨w6.heap.size, 5, none⟩ = some (.slice B' ks'.length d') ∧ W.cell? ⟨w6.heap.size, 6, none⟩ = some (.int .i64 lo') ∧ W.cell? ⟨w6.heap.size, 7, none⟩ = some (.int .i64 hi')) := Lib.hid fun W hW =>
            have kX := HX9.out.ext hW
            have kB := HB9.out.ext hW
            ⟨kX.cell 0, kX.cell 1, kX.cell 2, kX.cell 3, kX.cell 4, kX.cell 5, kX.cell 6, kX.cell 7, kB.cell 0, kB.cell 1, kB.cell 2, kB.cell 3, kB.cell 4, kB.cell 5, kB.cell 6, kB.cell 7⟩
          obtain ⟨q, hq⟩ : ∃ q, matchE (seqE ll) (natsOf s) = q := ⟨_, rfl⟩
          rw [hq] at hM1 hM2
          have HM1 := Lib.hid hM1
          have HM2 := Lib.hid hM2
          clear hM1 hM2 hmt hq HX9 HB9 HR9 Hr9
          cases q
          all_goals
            go_wp2
            go_region_held3 (fun W => W.cell? ⟨w3.heap.size + 1, 0, none⟩ = some (.int .i64 4) ∧ W.cell? ⟨w3.heap.size + 1, 1, none⟩ = some (.int .u64 0) ∧ W.cell? ⟨w3.heap.size + 1, 2, none⟩ = some (.int .u64 0) ∧ W.cell? ⟨w3.heap.size + 1, 3, none⟩ = some (.int .u64 0) ∧ W.cell? ⟨w3.heap.size + 1, 4, none⟩ = some (.int .u64 0) ∧ W.cell? ⟨w3.heap.size + 1, 5, none⟩ = some (.slice (some ⟨w3.heap.size, 0, none⟩) 1 1) ∧ W.cell? ⟨w3.heap.size + 1, 6, none⟩ = some (.int .i64 (j : Int)) ∧ W.cell? ⟨w3.heap.size + 1, 7, none⟩ = some (.int .i64 ((j : Int) + (i : Int))) ∧ W.cell? ⟨w6.heap.size, 0, none⟩ = some (.int .i64 k') ∧ W.cell? ⟨w6.heap.size, 1, none⟩ = some (.int .u64 (p0 : Int)) ∧ W.cell? ⟨w6.heap.size, 2, none⟩ = some (.int .u64 (p1 : Int)) ∧ W.cell? ⟨w6.heap.size, 3, none⟩ = some (.int .u64 (p2 : Int)) ∧ W.cell? ⟨w6.heap.size, 4, none⟩ = some (.int .u64 (p3 : Int)) ∧ W.cell? ⟨w6.heap.size, 5, none⟩ = some (.slice B' ks'.length d') ∧ W.cell? ⟨w6.heap.size, 6, none⟩ = some (.int .i64 lo') ∧ W.cell? ⟨w6.heap.size, 7, none⟩ = some (.int .i64 hi'))
              (first | exact HS.out _ (by repeat (first | exact hbx | apply ext_drew | exact Below.refl _ _)))
              (first
              | (go_at_call 35; ((with_reducible refine (HM1.out _ ?_).mono ?_)); (repeat (first | exact hbx | apply ext_drew | exact Below.refl _ _)); rintro e x1 ⟨rfl, hbx'⟩; have hbx : Below w9.heap.size w9 x1 := ext_trans (by repeat (first | exact hbx | apply ext_drew | exact Below.refl _ _)) hbx')
              | (go_at_call 35; ((with_reducible refine (HM2.out _ ?_).mono ?_)); (repeat (first | exact hbx | apply ext_drew | exact Below.refl _ _)); rintro e x2 ⟨rfl, hbx'⟩; have hbx : Below w9.heap.size w9 x2 := ext_trans (by repeat (first | exact hbx | apply ext_drew | exact Below.refl _ _)) hbx')
              | (go_at_call 34; ((with_reducible refine (known7_any _ (HTab.out _ ?_)).mono ?_)); (repeat (first | exact hbx | apply ext_drew | exact Below.refl _ _)); rintro e x3 ⟨rfl, hbx'⟩; have hbx : Below w9.heap.size w9 x3 := ext_trans (by repeat (first | exact hbx | apply ext_drew | exact Below.refl _ _)) hbx'))
            all_goals
              go_wp2
              go_ret
              exact ⟨rfl, ext_trans Hb9.out (by repeat (first | exact hbx | apply ext_drew))⟩
end Go.Proofs.YtmggajpecgnjkaaDoor
