/-
  Texts of this claim, joined (part 6): contracts and lemmas that the last text goes by. No statement of the seat is proved here.
-/
import Derived.Test.YtgknlegomoaoeaaDoorAll5
import Derived.Test.YtgknlegomoaoeaaDoorAll4
import Derived.Test.YtgknlegomoaoeaaDoorAll2
import Derived.Deep.AppendSrc
set_option linter.unusedVariables false
set_option linter.unusedSimpArgs false
/-
  The contract of repeat, any number of times. No statement of the seat is proved here.
-/
namespace Go.Proofs.YtgknlegomoaoeaaDoor
open Go Go.RowKit
set_option maxRecDepth 100000

set_option maxHeartbeats 8000000 in
theorem repeat_many (x : Ex) (hK : LayK x) (hF : GFn (cntE x) (fun L => layG x L)) (T S : Nat → Prop) (g : Nat) (L : GLy) (s : List Nat) (lo hi : Int) (cs : List Value) (w : World) (hr : ReR T w (.mk 4 s [x] lo hi) cs) (hrep : repB lo hi = true) (hT : ∀ k, T k → k < w.heap.size ∧ ¬ S k) (ht : TabB S w) (hS : LayS S w g L) (hL : GOk L) (hl : L.sets.length + cntE x * timesW lo hi ≤ 64) (hh : hi = -1) :
    Calls Tryd.prog 64 #[.pointer (some ⟨g, 0, none⟩), reV cs] w (GPost S w g (repG (fun L => layG x L) lo hi L)) := by
  rw [reR_iff] at hr
  obtain ⟨⟨hk, hs, hlo, hhi⟩, A, c, rfl, h1, h2, h3⟩ := hr
  obtain ⟨p0, p1, p2, p3, rfl⟩ := four_words hs
  obtain ⟨g', o, k', q0, q1, q2, q3, ks', A', c', lo', hi', rfl, hx, hrx, x0, x1, x2, x3, x4, x5, x6, x7, hsg⟩ := h3.kidX (k := 0) (by simp)
  obtain ⟨kl, hkl⟩ : ∃ kl, ks'.length = kl := ⟨_, rfl⟩
  rw [hkl] at hrx x5
  replace hrx : ReR T w x [.int .i64 k', .int .u64 (q0 : Int), .int .u64 (q1 : Int), .int .u64 (q2 : Int), .int .u64 (q3 : Int), .slice A' kl c', .int .i64 lo', .int .i64 hi'] := hrx
  have hrange : 0 ≤ lo ∧ lo ≤ 32 ∧ (hi = -1 ∨ (1 ≤ hi ∧ hi ≤ 32 ∧ lo ≤ hi)) := by simpa [repB, and_assoc] using hrep
  unfold isInt at hlo hhi
  unfold maxLen at h2
  obtain ⟨W2, hW2⟩ : ∃ W2, W2 = (w.alloc (.cells #[.int .i64 4, .int .u64 (p0 : Int), .int .u64 (p1 : Int), .int .u64 (p2 : Int), .int .u64 (p3 : Int), .slice (some ⟨g', o, none⟩) 1 c, .int .i64 lo, .int .i64 hi] 27)).alloc (.cells #[.bool false, .int .u64 0, .int .u64 0] 71) := ⟨_, rfl⟩
  have e2 : Below w.heap.size w W2 := by rw [hW2]; exact ext2 w _ _
  have mk : ∀ {i : Nat} {v : Value}, w.cell? ⟨g', i, none⟩ = some v → W2.cell? ⟨g', i, none⟩ = some v := fun {i v} h => (World.cell?_of_block (a := ⟨g', i, none⟩) (e2.block _ (World.block_lt_of_cell? w ⟨g', i, none⟩ h))).trans h
  simp only [Nat.zero_mul, Nat.add_zero] at x0 x1 x2 x3 x4 x5 x6 x7
  replace x0 := mk x0
  replace x1 := mk x1
  replace x2 := mk x2
  replace x3 := mk x3
  replace x4 := mk x4
  replace x5 := mk x5
  replace x6 := mk x6
  replace x7 := mk x7
  obtain ⟨W3, hW3⟩ : ∃ W3, W3 = W2.alloc (.cells #[.int .i64 k', .int .u64 (q0 : Int), .int .u64 (q1 : Int), .int .u64 (q2 : Int), .int .u64 (q3 : Int), .slice A' kl c', .int .i64 lo', .int .i64 hi'] 27) := ⟨_, rfl⟩
  have e3 : Below w.heap.size w W3 := by rw [hW3]; exact ext_alloc e2 _
  have hz2 : W2.heap.size = w.heap.size + 2 := by rw [hW2]; simp
  have hz3 : W3.heap.size = w.heap.size + 3 := by rw [hW3, World.size_alloc, hz2]
  have b33 : Blk W3 w.heap.size 27 #[.int .i64 4, .int .u64 (p0 : Int), .int .u64 (p1 : Int), .int .u64 (p2 : Int), .int .u64 (p3 : Int), .slice (some ⟨g', o, none⟩) 1 c, .int .i64 lo, .int .i64 hi] := by rw [hW3, hW2]; exact ((blk_at w _ _ rfl).alloc _).alloc _
  have b43 : Blk W3 (w.heap.size + 1) 71 #[.bool false, .int .u64 0, .int .u64 0] := by rw [hW3, hW2]; exact (blk_at _ _ _ (by simp)).alloc _
  have b53 : Blk W3 (w.heap.size + 1 + 1) 27 #[.int .i64 k', .int .u64 (q0 : Int), .int .u64 (q1 : Int), .int .u64 (q2 : Int), .int .u64 (q3 : Int), .slice A' kl c', .int .i64 lo', .int .i64 hi'] := by rw [hW3]; exact blk_at _ _ _ hz2.symm
  have HS3 := Lib.hid (RowS.start (b := w.heap.size + 3) ht hS e3 hz3.symm)
  have Hr3 := Lib.hid (hrx.ext e3)
  have HT3 := Lib.hid (HS3.out.apart hT)
  obtain ⟨hlo0, hlo32, -⟩ := hrange
  subst hh
  rw [timesW_any hrep rfl, Nat.mul_add, Nat.mul_comm (cntE x), Nat.mul_one] at hl
  have hf1 : GRes L ((lo - 1).toNat * cntE x) (copiesG (fun L => layG x L) (lo - 1).toNat L) := gfn_copies hF (lo - 1).toNat L hL (by omega)
  have hout : repG (fun L => layG x L) lo (-1) L = thenG (copiesG (fun L => layG x L) (lo - 1).toNat L).1 (againG (fun L => layG x L) (decide (lo = 0)) (copiesG (fun L => layG x L) (lo - 1).toNat L).2).1 (againG (fun L => layG x L) (decide (lo = 0)) (copiesG (fun L => layG x L) (lo - 1).toNat L).2).2 := by unfold repG; rw [if_pos rfl]
  have hc1 := gcopies_any x hK hF T (Gr2 S (w.heap.size + 3) W3) g L [.int .i64 k', .int .u64 (q0 : Int), .int .u64 (q1 : Int), .int .u64 (q2 : Int), .int .u64 (q3 : Int), .slice A' kl c', .int .i64 lo', .int .i64 hi'] W3 (lo - 1) (by omega) (by omega) Hr3.out HT3.out HS3.out.table HS3.out.lay hL (by omega)
  obtain ⟨a, M, hqM⟩ : ∃ a M, copiesG (fun L => layG x L) (lo - 1).toNat L = (a, M) := ⟨_, _, rfl⟩
  rw [hqM] at hf1 hout hc1
  have hML := hf1.len
  dsimp only at hML hout
  have hf2 : GRes M (cntE x) (layG x M) := hF M hf1.ok (by omega)
  obtain ⟨q, N, hqN⟩ : ∃ q N, layG x M = (q, N) := ⟨_, _, rfl⟩
  unfold againG at hout
  dsimp only at hout
  rw [hqN] at hf2 hout
  dsimp only at hout
  have hsm := gres_of hf1 hf2 (by omega)
  have hql : q.last < 2 ^ N.sets.length := by have h1 := hf2.len; have h2 := hf2.last; dsimp only at h1 h2; rw [h1]; exact h2
  rw [hout]
  have hc2 : ∀ (P : Nat → Prop) (W : World), ReR T W x [.int .i64 k', .int .u64 (q0 : Int), .int .u64 (q1 : Int), .int .u64 (q2 : Int), .int .u64 (q3 : Int), .slice A' kl c', .int .i64 lo', .int .i64 hi'] → (∀ k, T k → k < W.heap.size ∧ ¬ P k) → TabB P W → LayS P W g M → Calls Tryd.prog 39 #[.pointer (some ⟨g, 0, none⟩), .agg #[.int .i64 k', .int .u64 (q0 : Int), .int .u64 (q1 : Int), .int .u64 (q2 : Int), .int .u64 (q3 : Int), .slice A' kl c', .int .i64 lo', .int .i64 hi']] W (GPost P W g (q, N)) := fun P W h1 h2 h3 h4 => by
    have := hK T P g M [.int .i64 k', .int .u64 (q0 : Int), .int .u64 (q1 : Int), .int .u64 (q2 : Int), .int .u64 (q3 : Int), .slice A' kl c', .int .i64 lo', .int .i64 hi'] W h1 h2 h3 h4 hf1.ok (by omega)
    rw [hqN] at this
    simpa [reV] using this
  have hc1' : Calls Tryd.prog 80 #[.pointer (some ⟨g, 0, none⟩), .agg #[.int .i64 k', .int .u64 (q0 : Int), .int .u64 (q1 : Int), .int .u64 (q2 : Int), .int .u64 (q3 : Int), .slice A' kl c', .int .i64 lo', .int .i64 hi'], .int .i64 (lo - 1)] W3 (GPost (Gr2 S (w.heap.size + 3) W3) W3 g (a, M)) := by simpa [reV] using hc1
  have Hc1 := Lib.hid hc1'
  have Hc2 := Lib.hid hc2
  have Hsm := Lib.hid hsm
  have Hql := Lib.hid hql
  have HNok := Lib.hid hf2.ok
  have HKok := Lib.hid (hf2.ok.link (a := q.last) hsm.2.2.2.2 hsm.2.1)
  have HT := Lib.hid hT
  have B33 := Lib.hid b33
  have B43 := Lib.hid b43
  have B53 := Lib.hid b53
  clear hc1 hc1' hc2 hsm hf1 hf2 hout hqM hqN hML hK hF hrx hsg hx h3 hrep hl ht hS hL hT b33 b43 b53 e2 e3 mk hk hs hql
  obtain ⟨an, af, al⟩ := a
  obtain ⟨qn, qf, ql⟩ := q
  unfold reV reCells
  show Calls Tryd.prog 64 #[.pointer (some ⟨g, 0, none⟩), .agg #[.int .i64 4, .int .u64 (p0 : Int), .int .u64 (p1 : Int), .int .u64 (p2 : Int), .int .u64 (p3 : Int), .slice (some ⟨g', o, none⟩) 1 c, .int .i64 lo, .int .i64 (-1)]] w _
  go_enter Tryd.func64, Tryd.ntmps64
  rw [hW2] at x0 x1 x2 x3 x4 x5 x6 x7
  go_wp2_with fail
  rw [← hW2, ← hW3]
  refine Hc1.out.mono ?_
  rintro e w6 hp6
  obtain ⟨rfl, hS6, ho6⟩ := HS3.out.call hp6 (by omega)
  have HS6 := Lib.hid hS6
  have b36 := B33.out.only ho6 (HS3.out.out (Nat.le_refl _) (by omega))
  have b46 := B43.out.only ho6 (HS3.out.out (by omega) (by omega))
  have b56 := B53.out.only ho6 (HS3.out.out (by omega) (by omega))
  have hs6 : w.heap.size + 3 ≤ w6.heap.size := by have := ho6.size; omega
  have HR6 := Lib.hid (Hr3.out.only ho6 fun k hk => (HT3.out k hk).2)
  have HT6 := Lib.hid (hS6.apart HT.out)
  have e7 : Below w6.heap.size w6 (w6.alloc (.cells #[.bool an, .int .u64 (af : Int), .int .u64 (al : Int)] 71)) := ext_alloc (Below.refl _ _) _
  have b57 := (b56.ext e7)
  have y0 := b57.cell 0
  have y1 := b57.cell 1
  have y2 := b57.cell 2
  have y3 := b57.cell 3
  have y4 := b57.cell 4
  have y5 := b57.cell 5
  have y6 := b57.cell 6
  have y7 := b57.cell 7
  have B36 := Lib.hid b36
  have B46 := Lib.hid b46
  clear hp6 hS6 ho6 hW2 hW3 b36 b46 b56 b57 hz2 hz3 HS3 B33 B43 B53 x0 x1 x2 x3 x4 x5 x6 x7 Hr3 HT3 Hc1
  unfold pieceV
  dsimp only
  go_wp2_with fail
  have hn3 : ¬ Gr2 S (w.heap.size + 3) w6 w.heap.size := HS6.out.out (Nat.le_refl _) (by omega)
  have hn4 : ¬ Gr2 S (w.heap.size + 3) w6 (w.heap.size + 1) := HS6.out.out (by omega) (by omega)
  have HS7 : Hid (RowS (Gr2 S (w.heap.size + 3) w6) w6 (w6.heap.size + 1) (w6.alloc (.cells #[.bool an, .int .u64 (af : Int), .int .u64 (al : Int)] 71)) g M) := Lib.hid (HS6.out.again e7 (by simp))
  refine (Hc2.out _ _ (HR6.out.ext e7) (HS7.out.apart HT6.out) HS7.out.table HS7.out.lay).mono ?_
  rintro e w9 hp9
  obtain ⟨rfl, hS9, ho9⟩ := HS7.out.call hp9 (by simp)
  have HS9 := Lib.hid hS9
  have b39 := (B36.out.ext e7).only ho9 (fun hk => hk.elim hn3 (fun h => by omega))
  have b49 := (B46.out.ext e7).only ho9 (fun hk => hk.elim hn4 (fun h => by omega))
  have b79 : Blk w9 w6.heap.size 71 #[.bool an, .int .u64 (af : Int), .int .u64 (al : Int)] := (blk_at w6 71 #[.bool an, .int .u64 (af : Int), .int .u64 (al : Int)] rfl).only ho9 (HS7.out.out (Nat.le_refl _) (by omega))
  have hs9 : w6.heap.size + 1 ≤ w9.heap.size := by have := b79.lt; omega
  have B39 := Lib.hid b39
  have B49 := Lib.hid b49
  have B79 := Lib.hid b79
  clear hp9 hS9 ho9 b39 b49 b79 y0 y1 y2 y3 y4 y5 y6 y7 HS7 e7 B36 B46
  unfold pieceV
  dsimp only
  go_wp2_with fail
  have e10 : Below w9.heap.size w9 (w9.alloc (.cells #[.bool qn, .int .u64 (qf : Int), .int .u64 (ql : Int)] 71)) := ext_alloc (Below.refl _ _) _
  have HS10 : Hid (RowS _ w9 (w9.heap.size + 1) (w9.alloc (.cells #[.bool qn, .int .u64 (qf : Int), .int .u64 (ql : Int)] 71)) g N) := Lib.hid (HS9.out.again e10 (by simp))
  have m3 : ¬ Gr2 (Gr2 S (w.heap.size + 3) w6) (w6.heap.size + 1) w9 w.heap.size := fun hk => hk.elim hn3 (fun h => by omega)
  have m4 : ¬ Gr2 (Gr2 S (w.heap.size + 3) w6) (w6.heap.size + 1) w9 (w.heap.size + 1) := fun hk => hk.elim hn4 (fun h => by omega)
  have m7 : ¬ Gr2 (Gr2 S (w.heap.size + 3) w6) (w6.heap.size + 1) w9 w6.heap.size := HS9.out.out (Nat.le_refl _) (by omega)
  have hqf : qf < 18446744073709551616 := Nat.lt_of_lt_of_le Hsm.out.2.1 (pow_le64 Hsm.out.2.2.2.2)
  refine (glink_any _ g N ql qf _ HS10.out.table HS10.out.lay HNok.out Hsm.out.2.2.2.2 Hql.out hqf).mono ?_
  rintro e w11 ⟨rfl, hl11, ho11⟩
  have HS11 := Lib.hid (HS10.out.same hl11 ho11)
  have b3 := (B39.out.ext e10).only ho11 (fun hk => hk.elim m3 (fun h => by omega))
  have b4 := (B49.out.ext e10).only ho11 (fun hk => hk.elim m4 (fun h => by omega))
  have b7 := (B79.out.ext e10).only ho11 (fun hk => hk.elim m7 (fun h => by omega))
  have b8 : Blk w11 w9.heap.size 71 #[.bool qn, .int .u64 (qf : Int), .int .u64 (ql : Int)] := (blk_at w9 71 #[.bool qn, .int .u64 (qf : Int), .int .u64 (ql : Int)] rfl).only ho11 (HS10.out.out (Nat.le_refl _) (by omega))
  clear hl11 ho11 HS10 B39 B49 B79
  have c80 : w11.cell? ⟨w9.heap.size, 0, none⟩ = some (.bool qn) := b8.cell 0
  have f80 := b8.free 0
  have c36 : w11.cell? ⟨w.heap.size, 6, none⟩ = some (.int .i64 lo) := b3.cell 6
  have d : ∀ v, (w11.setCell ⟨w9.heap.size, 0, none⟩ v).cell? ⟨w9.heap.size, 0, none⟩ = some v := fun v => (b8.put 0 v).cell 0
  have d81 : ∀ v, (w11.setCell ⟨w9.heap.size, 0, none⟩ v).cell? ⟨w9.heap.size, 1, none⟩ = some (.int .u64 (qf : Int)) := fun v => (b8.put 0 v).cell 1
  have d82 : ∀ v, (w11.setCell ⟨w9.heap.size, 0, none⟩ v).cell? ⟨w9.heap.size, 2, none⟩ = some (.int .u64 (ql : Int)) := fun v => (b8.put 0 v).cell 2
  have r7 := fun v => b7.far (p := ⟨w9.heap.size, 0, none⟩) (by show w6.heap.size ≠ w9.heap.size; omega) v
  have d70 : ∀ v, (w11.setCell ⟨w9.heap.size, 0, none⟩ v).cell? ⟨w6.heap.size, 0, none⟩ = some (.bool an) := fun v => (r7 v).cell 0
  have d71 : ∀ v, (w11.setCell ⟨w9.heap.size, 0, none⟩ v).cell? ⟨w6.heap.size, 1, none⟩ = some (.int .u64 (af : Int)) := fun v => (r7 v).cell 1
  have d72 : ∀ v, (w11.setCell ⟨w9.heap.size, 0, none⟩ v).cell? ⟨w6.heap.size, 2, none⟩ = some (.int .u64 (al : Int)) := fun v => (r7 v).cell 2
  have hS12 : ∀ v, RowS _ w9 (w9.heap.size + 1) (w11.setCell ⟨w9.heap.size, 0, none⟩ v) g ⟨N.sets, linkG N.follow ql qf⟩ := fun v => HS11.out.tail ((Only.refl (fun k => k = w9.heap.size) w11).setCell (p := ⟨w9.heap.size, 0, none⟩) (.inl rfl) v) fun k hk => by omega
  have HS12 := Lib.hid hS12
  have B42 := Lib.hid fun v => b4.far (p := ⟨w9.heap.size, 0, none⟩) (by show w.heap.size + 1 ≠ w9.heap.size; omega) v
  have B8 := Lib.hid b8
  clear b3 b4 b7 b8 r7 hS12 HS11
  have hfin : ∀ z, z = (qn || decide (lo = 0)) → Calls Tryd.prog 79 #[.pointer (some ⟨g, 0, none⟩), .agg #[.bool an, .int .u64 (af : Int), .int .u64 (al : Int)], .agg #[.bool z, .int .u64 (qf : Int), .int .u64 (ql : Int)]] (w11.setCell ⟨w9.heap.size, 0, none⟩ (.bool z)) fun e w13 => e = .returned (pieceV (joinG ⟨an, af, al⟩ ⟨qn || decide (lo = 0), qf, ql⟩)) ∧ Blk w13 (w.heap.size + 1) 71 #[.bool false, .int .u64 0, .int .u64 0] ∧ RowS S w (w.heap.size + 3) w13 g ⟨N.sets, linkG (linkG N.follow ql qf) al qf⟩ := fun z hz => by
    subst hz
    refine (gjoin_any _ g ⟨N.sets, linkG N.follow ql qf⟩ ⟨an, af, al⟩ ⟨qn || decide (lo = 0), qf, ql⟩ _ (HS12.out _).table (HS12.out _).lay HKok.out Hsm.out.2.2.2.2 Hsm.out.1 Hsm.out.2.1 Hsm.out.2.2.1 Hsm.out.2.2.2.1).mono ?_
    rintro e w13 ⟨rfl, hl13, ho13⟩
    exact ⟨rfl, (B42.out _).only ho13 (fun hk => hk.elim m4 (fun h => by omega)), HS6.out.nest (by omega) (HS9.out.nest (by omega) ((HS12.out _).same hl13 ho13))⟩
  have Hfin := Lib.hid hfin
  clear hfin
  have hcases : (qn = true) ∨ (qn = false ∧ lo = 0) ∨ (qn = false ∧ lo ≠ 0) := by cases qn <;> by_cases lo = 0 <;> simp_all
  rcases hcases with rfl | ⟨rfl, rfl⟩ | ⟨rfl, hl0⟩
  · have HF := Lib.hid (Hfin.out true (by simp))
    clear Hfin
    go_wp2_with (first | ((with_reducible refine HF.out.mono ?_); rintro e w13 ⟨rfl, b413, hS13⟩; unfold pieceV; dsimp only) | (refine wpList_store_piece rfl (.tmp 4) (.tmp 58) rfl (w.heap.size + 1) rfl rfl (by simp [Value.oneCell']) b413 rfl ?_; intro w14 h14 o14))
    have hS14 := hS13.tail o14 fun k hk => by omega
    exact bodyPost_ret (v := .agg #[_, _, _]) (results_piece rfl _ _ (w.heap.size + 1) _ #[_, _, _] rfl rfl h14) rfl ⟨rfl, hS14.done, hS14.only⟩
  · have HF := Lib.hid (Hfin.out true (by simp))
    clear Hfin
    go_wp2_with (first | ((with_reducible refine HF.out.mono ?_); rintro e w13 ⟨rfl, b413, hS13⟩; unfold pieceV; dsimp only) | (refine wpList_store_piece rfl (.tmp 4) (.tmp 58) rfl (w.heap.size + 1) rfl rfl (by simp [Value.oneCell']) b413 rfl ?_; intro w14 h14 o14))
    have hS14 := hS13.tail o14 fun k hk => by omega
    exact bodyPost_ret (v := .agg #[_, _, _]) (results_piece rfl _ _ (w.heap.size + 1) _ #[_, _, _] rfl rfl h14) rfl ⟨rfl, hS14.done, hS14.only⟩
  · have hl0b : (lo == 0) = false := by simpa using hl0
    have HF := Lib.hid (Hfin.out false (by simp [hl0]))
    clear Hfin
    go_wp2_with (first | ((with_reducible refine HF.out.mono ?_); rintro e w13 ⟨rfl, b413, hS13⟩; unfold pieceV; dsimp only) | (refine wpList_store_piece rfl (.tmp 4) (.tmp 58) rfl (w.heap.size + 1) rfl rfl (by simp [Value.oneCell']) b413 rfl ?_; intro w14 h14 o14))
    have hS14 := hS13.tail o14 fun k hk => by omega
    exact bodyPost_ret (v := .agg #[_, _, _]) (results_piece rfl _ _ (w.heap.size + 1) _ #[_, _, _] rfl rfl h14) rfl ⟨rfl, hS14.done, hS14.only⟩
end Go.Proofs.YtgknlegomoaoeaaDoor

/-
  The contract of lay. No statement of the seat is proved here.
-/
namespace Go.Proofs.YtgknlegomoaoeaaDoor
open Go Go.RowKit
set_option maxRecDepth 100000

theorem reR_sets {T : Nat → Prop} {w : World} (t : Ex) : ∀ cs, ReR T w t cs → setsG t := by
  refine ex_induct (p := fun t => ∀ cs, ReR T w t cs → setsG t) (fun k s ks lo hi ih cs h => ?_) t
  rw [reR_iff] at h
  obtain ⟨⟨hk, hs, hlo, hhi⟩, A, c, rfl, h1, h2, h3⟩ := h
  simp only [setsG]
  refine ⟨hs, ?_⟩
  have h4 : ∀ x ∈ ks, setsG x := fun x hx => by
    obtain ⟨j, hj, rfl⟩ := List.getElem_of_mem hx
    obtain ⟨g, o, cs', -, -, -, hr⟩ := h3 j hj
    exact ih _ (List.getElem_mem hj) cs' hr
  clear ih h3 h1 h2
  induction ks with
  | nil => simp [setsGL]
  | cons x r ih => exact ⟨h4 x (by simp), ih (fun y hy => h4 y (by simp [hy]))⟩
set_option maxHeartbeats 8000000 in
theorem glay_any (t : Ex) : ∀ deep, oneE deep t = true → LayK t := by
  refine ex_induct (p := fun t => ∀ deep, oneE deep t = true → LayK t) (fun k s ks lo hi ih deep h1 => ?_) t
  intro T S g L cs w hr hT ht hS hL hl
  have hr0 := hr
  have hset := reR_sets _ _ hr
  simp only [setsG] at hset
  rw [form_one] at h1
  simp only [Bool.and_eq_true, oneL_all, List.all_eq_true] at h1
  obtain ⟨⟨hdp, hf⟩, hkids⟩ := h1
  have hKK : ∀ x ∈ ks, LayK x := fun x hx => ih x hx (deep + 1) (hkids x hx)
  have hGG : ∀ x ∈ ks, GFn (cntE x) (fun L => layG x L) := fun x hx => gfn_lay x (deep + 1) (hkids x hx) (setsGL_mem hset.2 x hx)
  rw [reR_iff] at hr
  obtain ⟨⟨hk, hs, hlo, hhi⟩, A, c, rfl, h1, h2, h3⟩ := hr
  obtain ⟨p0, p1, p2, p3, rfl⟩ := four_words hs
  obtain ⟨W2, hW2⟩ : ∃ W2, W2 = (w.alloc (.cells #[.int .i64 k, .int .u64 (p0 : Int), .int .u64 (p1 : Int), .int .u64 (p2 : Int), .int .u64 (p3 : Int), .slice A ks.length c, .int .i64 lo, .int .i64 hi] 27)).alloc (.cells #[.bool false, .int .u64 0, .int .u64 0] 71) := ⟨_, rfl⟩
  have e2 : Below w.heap.size w W2 := by rw [hW2]; exact ext2 w _ _
  have hz2 : W2.heap.size = w.heap.size + 2 := by rw [hW2]; simp
  have b42 : Blk W2 (w.heap.size + 1) 71 #[.bool false, .int .u64 0, .int .u64 0] := by rw [hW2]; exact blk_at _ _ _ (by simp)
  have HS2 := Lib.hid (RowS.start (b := w.heap.size + 2) ht hS e2 hz2.symm)
  have HT2 := Lib.hid (HS2.out.apart hT)
  have hend : ∀ (W6 : World) (r : GPc × GLy), RowS S w (w.heap.size + 2) W6 g r.2 → ∀ w8, Only (fun k => k = w.heap.size + 1) W6 w8 → LayS (Gr S w w8) w8 g r.2 ∧ Only S w w8 := fun W6 r h6 w8 o8 => by
    have h8 := h6.tail o8 fun k hk => by omega
    exact ⟨h8.done, h8.only⟩
  have Hend := Lib.hid hend
  have B42 := Lib.hid b42
  simp only [cntE] at hl
  unfold reV reCells
  have hk5 : k = 0 ∨ k = 1 ∨ k = 2 ∨ k = 3 ∨ k = 4 := by
    simp only [formE] at hf
    by_cases a0 : k = 0
    · exact .inl a0
    · by_cases a1 : k = 1
      · exact .inr (.inl a1)
      · by_cases a2 : k = 2
        · exact .inr (.inr (.inl a2))
        · by_cases a3 : k = 3
          · exact .inr (.inr (.inr (.inl a3)))
          · by_cases a4 : k = 4
            · exact .inr (.inr (.inr (.inr a4)))
            · simp [a0, a1, a2, a3, a4] at hf
  rcases hk5 with rfl | rfl | rfl | rfl | rfl
  · have hlay : layG (.mk 0 [p0, p1, p2, p3] ks lo hi) L = (gE0, L) := by simp [layG]
    rw [hlay]
    have HS3 := Lib.hid (RowS.start (b := w.heap.size + 2) ht hS (ext2 w (.cells #[.int .i64 0, .int .u64 (p0 : Int), .int .u64 (p1 : Int), .int .u64 (p2 : Int), .int .u64 (p3 : Int), .slice A ks.length c, .int .i64 lo, .int .i64 hi] 27) (.cells #[.bool true, .int .u64 0, .int .u64 0] 71)) (by simp))
    clear ih hr0 hkids hKK hGG h3
    show Calls Tryd.prog 39 #[.pointer (some ⟨g, 0, none⟩), .agg #[.int .i64 0, .int .u64 (p0 : Int), .int .u64 (p1 : Int), .int .u64 (p2 : Int), .int .u64 (p3 : Int), .slice A ks.length c, .int .i64 lo, .int .i64 hi]] w _
    go_enter Tryd.func39, Tryd.ntmps39
    go_wp2
    exact bodyPost_ret (v := pieceV gE0) (results_piece rfl _ _ (w.heap.size + 1) 71 (pcs gE0) rfl rfl (blk_at _ _ _ (by simp))) rfl ⟨rfl, HS3.out.done, HS3.out.only⟩
  · have hlay : layG (.mk 1 [p0, p1, p2, p3] ks lo hi) L = placeG [p0, p1, p2, p3] L := by simp [layG]
    rw [hlay]
    simp only [if_true] at hl
    have hc : Calls Tryd.prog 61 #[.pointer (some ⟨g, 0, none⟩), .agg #[.int .u64 (p0 : Int), .int .u64 (p1 : Int), .int .u64 (p2 : Int), .int .u64 (p3 : Int)]] W2 (GPost (Gr2 S (w.heap.size + 2) W2) W2 g (placeG [p0, p1, p2, p3] L)) := by simpa [cellsU, uv] using gplace_any (Gr2 S (w.heap.size + 2) W2) g L [p0, p1, p2, p3] W2 HS2.out.lay hL (by omega) hs
    have HC := Lib.hid hc
    clear ih hr0 hkids hKK hGG h3 hc
    show Calls Tryd.prog 39 #[.pointer (some ⟨g, 0, none⟩), .agg #[.int .i64 1, .int .u64 (p0 : Int), .int .u64 (p1 : Int), .int .u64 (p2 : Int), .int .u64 (p3 : Int), .slice A ks.length c, .int .i64 lo, .int .i64 hi]] w _
    go_enter Tryd.func39, Tryd.ntmps39
    go_wp2_with fail
    rw [← hW2]
    refine HC.out.mono ?_
    rintro e w6 hp6
    obtain ⟨rfl, hS6, ho6⟩ := HS2.out.call hp6 (by omega)
    have b46 := B42.out.only ho6 (HS2.out.out (by omega) (by omega))
    unfold pieceV
    dsimp only
    go_wp2_with (refine wpList_store_piece rfl (.tmp 4) (.tmp 12) rfl (w.heap.size + 1) rfl rfl (by simp [Value.oneCell']) b46 rfl ?_; intro w8 h8 o8)
    exact bodyPost_ret (v := .agg #[_, _, _]) (results_piece rfl _ _ (w.heap.size + 1) _ #[_, _, _] rfl rfl h8) rfl ⟨rfl, Hend.out _ _ hS6 _ o8⟩
  · have hlay : layG (.mk 2 [p0, p1, p2, p3] ks lo hi) L = rowG ks gE0 L := by simp [layG]
    rw [hlay]
    rw [if_neg (by decide), if_neg (by decide)] at hl
    have hc := grow_any ks hKK hGG T (Gr2 S (w.heap.size + 2) W2) g L A c W2 ⟨h1, h2⟩ (h3.ext e2) HT2.out HS2.out.table HS2.out.lay hL hl
    have HC := Lib.hid hc
    clear ih hr0 hkids hKK hGG h3 hc
    show Calls Tryd.prog 39 #[.pointer (some ⟨g, 0, none⟩), .agg #[.int .i64 2, .int .u64 (p0 : Int), .int .u64 (p1 : Int), .int .u64 (p2 : Int), .int .u64 (p3 : Int), .slice A ks.length c, .int .i64 lo, .int .i64 hi]] w _
    go_enter Tryd.func39, Tryd.ntmps39
    go_wp2_with fail
    rw [← hW2]
    refine HC.out.mono ?_
    rintro e w6 hp6
    obtain ⟨rfl, hS6, ho6⟩ := HS2.out.call hp6 (by omega)
    have b46 := B42.out.only ho6 (HS2.out.out (by omega) (by omega))
    unfold pieceV
    dsimp only
    go_wp2_with (refine wpList_store_piece rfl (.tmp 4) (.tmp 18) rfl (w.heap.size + 1) rfl rfl (by simp [Value.oneCell']) b46 rfl ?_; intro w8 h8 o8)
    exact bodyPost_ret (v := .agg #[_, _, _]) (results_piece rfl _ _ (w.heap.size + 1) _ #[_, _, _] rfl rfl h8) rfl ⟨rfl, Hend.out _ _ hS6 _ o8⟩
  · have hlay : layG (.mk 3 [p0, p1, p2, p3] ks lo hi) L = altsG ks ⟨false, 0, 0⟩ L := by simp [layG]
    rw [hlay]
    rw [if_neg (by decide), if_neg (by decide)] at hl
    have hc := geither_any ks hKK hGG T (Gr2 S (w.heap.size + 2) W2) g L A c W2 ⟨h1, h2⟩ (h3.ext e2) HT2.out HS2.out.table HS2.out.lay hL hl
    have HC := Lib.hid hc
    clear ih hr0 hkids hKK hGG h3 hc
    show Calls Tryd.prog 39 #[.pointer (some ⟨g, 0, none⟩), .agg #[.int .i64 3, .int .u64 (p0 : Int), .int .u64 (p1 : Int), .int .u64 (p2 : Int), .int .u64 (p3 : Int), .slice A ks.length c, .int .i64 lo, .int .i64 hi]] w _
    go_enter Tryd.func39, Tryd.ntmps39
    go_wp2_with fail
    rw [← hW2]
    refine HC.out.mono ?_
    rintro e w6 hp6
    obtain ⟨rfl, hS6, ho6⟩ := HS2.out.call hp6 (by omega)
    have b46 := B42.out.only ho6 (HS2.out.out (by omega) (by omega))
    unfold pieceV
    dsimp only
    go_wp2_with (refine wpList_store_piece rfl (.tmp 4) (.tmp 24) rfl (w.heap.size + 1) rfl rfl (by simp [Value.oneCell']) b46 rfl ?_; intro w8 h8 o8)
    exact bodyPost_ret (v := .agg #[_, _, _]) (results_piece rfl _ _ (w.heap.size + 1) _ #[_, _, _] rfl rfl h8) rfl ⟨rfl, Hend.out _ _ hS6 _ o8⟩
  · have hfx : repB lo hi = true ∧ ks.length = 1 := by
      simp only [formE] at hf
      simp at hf
      exact ⟨hf.1.2, hf.2⟩
    obtain ⟨x, rfl⟩ : ∃ x, ks = [x] := List.length_eq_one_iff.1 hfx.2
    have hlay : layG (.mk 4 [p0, p1, p2, p3] [x] lo hi) L = repG (fun L => layG x L) lo hi L := by simp [layG, kidG]
    rw [hlay]
    rw [if_neg (by decide), if_pos rfl] at hl
    simp only [cntL, Nat.add_zero] at hl
    simp only [List.length_singleton] at hW2
    have hc : Calls Tryd.prog 64 #[.pointer (some ⟨g, 0, none⟩), .agg #[.int .i64 4, .int .u64 (p0 : Int), .int .u64 (p1 : Int), .int .u64 (p2 : Int), .int .u64 (p3 : Int), .slice A 1 c, .int .i64 lo, .int .i64 hi]] W2 (GPost (Gr2 S (w.heap.size + 2) W2) W2 g (repG (fun L => layG x L) lo hi L)) := by
      by_cases hh : hi = -1
      · have := repeat_many x (hKK x (by simp)) (hGG x (by simp)) T (Gr2 S (w.heap.size + 2) W2) g L [p0, p1, p2, p3] lo hi _ W2 (hr0.ext e2) hfx.1 HT2.out HS2.out.table HS2.out.lay hL hl hh
        exact this
      · have := repeat_hi x (hKK x (by simp)) (hGG x (by simp)) T (Gr2 S (w.heap.size + 2) W2) g L [p0, p1, p2, p3] lo hi _ W2 (hr0.ext e2) hfx.1 HT2.out HS2.out.table HS2.out.lay hL hl hh
        exact this
    have HC := Lib.hid hc
    clear ih hr0 hkids hKK hGG h3 hc
    show Calls Tryd.prog 39 #[.pointer (some ⟨g, 0, none⟩), .agg #[.int .i64 4, .int .u64 (p0 : Int), .int .u64 (p1 : Int), .int .u64 (p2 : Int), .int .u64 (p3 : Int), .slice A 1 c, .int .i64 lo, .int .i64 hi]] w _
    go_enter Tryd.func39, Tryd.ntmps39
    go_wp2_with fail
    rw [← hW2]
    refine HC.out.mono ?_
    rintro e w6 hp6
    obtain ⟨rfl, hS6, ho6⟩ := HS2.out.call hp6 (by omega)
    have b46 := B42.out.only ho6 (HS2.out.out (by omega) (by omega))
    unfold pieceV
    dsimp only
    go_wp2_with (refine wpList_store_piece rfl (.tmp 4) (.tmp 29) rfl (w.heap.size + 1) rfl rfl (by simp [Value.oneCell']) b46 rfl ?_; intro w8 h8 o8)
    exact bodyPost_ret (v := .agg #[_, _, _]) (results_piece rfl _ _ (w.heap.size + 1) _ #[_, _, _] rfl rfl h8) rfl ⟨rfl, Hend.out _ _ hS6 _ o8⟩
end Go.Proofs.YtgknlegomoaoeaaDoor

/-
  Words for a row of bytes that calls append onto; contract of the program's appendByte. No statement of the seat is proved here.
-/
namespace Go.Proofs.YtgknlegomoaoeaaDoor
open Go Go.RowKit
set_option maxRecDepth 100000

/-- from row 'A' of world 'w' on, by appends alone, to the row 'zs' of world 'w'' -/
structure AppT (w : World) (A : Option Addr) (w' : World) (A' : Option Addr) (m c' : Nat) (zs : List Value) : Prop where
  row : RowO w' 5 1 A' m c' zs
  only : Only (inA A) w w'
  new : ∀ k, inA A' k → inA A k ∨ (w.heap.size ≤ k ∧ k < w'.heap.size)
section
variable {w w1 w2 w3 : World} {A A1 A2 : Option Addr} {n m m2 c c1 c2 : Nat} {xs zs ys : List Value}
theorem AppT.refl (h : RowO w 5 1 A n c xs) : AppT w A w A n c xs := ⟨h, Only.refl _ _, fun _ hk => .inl hk⟩
theorem AppT.ext (h : AppT w A w1 A1 m c1 zs) (hb : Below w1.heap.size w1 w2) : AppT w A w2 A1 m c1 zs :=
  ⟨h.row.ext hb, h.only.trans (Only.of_ext (S := inA A) hb) (fun _ _ h => h), fun k hk => (h.new k hk).imp id fun ⟨a, b⟩ => ⟨a, Nat.lt_of_lt_of_le b hb.size⟩⟩
theorem AppT.trans (h : AppT w A w1 A1 m c1 zs) (k : AppT w1 A1 w2 A2 m2 c2 ys) : AppT w A w2 A2 m2 c2 ys := by
  have hs := h.only.size
  refine ⟨k.row, h.only.trans k.only (fun i hi hk => ?_), fun i hi => ?_⟩
  · rcases h.new i hk with h1 | h1
    · exact h1
    · omega
  · rcases k.new i hi with h1 | h1
    · rcases h.new i h1 with h2 | h2
      · exact .inl h2
      · exact .inr ⟨h2.1, Nat.lt_of_lt_of_le h2.2 k.only.size⟩
    · exact .inr ⟨by omega, h1.2⟩
theorem AppT.from_ (hb : Below w.heap.size w w1) (h : AppT w1 A w2 A2 m2 c2 ys) (hA : ∀ k, inA A k → k < w.heap.size) : AppT w A w2 A2 m2 c2 ys := by
  have hs := hb.size
  refine ⟨h.row, (Only.of_ext (S := inA A) hb).trans h.only (fun _ _ h => h), fun i hi => ?_⟩
  rcases h.new i hi with h1 | h1
  · exact .inl h1
  · exact .inr ⟨by omega, h1.2⟩
/-- an append, behind what was made -/
theorem AppT.step (h : AppT w A w1 A1 m c1 zs) (hb : Below w1.heap.size w1 w2) (hr : RowO w3 5 1 A2 m2 c2 ys) (ho : Only (inA A1) w2 w3) (hA : ∀ k, inA A2 k → inA A1 k ∨ (w2.heap.size ≤ k ∧ k < w3.heap.size)) : AppT w A w3 A2 m2 c2 ys :=
  (h.ext hb).trans ⟨hr, ho, hA⟩
theorem AppT.cast (h : AppT w A w1 A1 m c1 zs) (e : m = m2) (e2 : zs = ys) : AppT w A w1 A1 m2 c1 ys := by subst e e2; exact h
end
/-- these bytes were appended -/
def Appd (w : World) (A : Option Addr) (n : Nat) (xs : List Value) (T : List Nat) (e : Ending) (w' : World) : Prop :=
  ∃ A' c', e = .returned (.slice A' (n + T.length) c') ∧ AppT w A w' A' (n + T.length) c' (xs ++ T.map nb)
theorem Appd.mk_ {w w' : World} {A A' : Option Addr} {n m c' : Nat} {xs zs : List Value} {T : List Nat} (h : AppT w A w' A' m c' zs) (e : m = n + T.length) (e2 : zs = xs ++ T.map nb) : Appd w A n xs T (.returned (.slice A' m c')) w' := by
  subst e e2; exact ⟨A', c', rfl, h⟩

def hexS : ByteArray := ⟨#[48, 49, 50, 51, 52, 53, 54, 55, 56, 57, 97, 98, 99, 100, 101, 102]⟩
theorem hexS_size : hexS.size = 16 := rfl
theorem hexS_at : ∀ a : Fin 16, (hexS[a.val]'(by rw [hexS_size]; exact a.isLt)).toNat = hexD a.val := by decide +kernel

set_option maxHeartbeats 4000000 in
theorem abyte_any (b : Nat) (hb : b < 256) (A : Option Addr) (n c : Nat) (xs : List Value) (w : World) (h : RowO w 5 1 A n c xs) (hn : n ≤ 1000000000000) :
    Calls Tryd.prog 109 #[.slice A n c, .int .u8 (b : Int)] w (Appd w A n xs (signB b)) := by
  have hm1 : n + 4 ≤ maxLen := by unfold maxLen; omega
  have hm2 : (n + 4) * 1 ≤ 140737488355328 := by omega
  have H := Lib.hid h
  have Hm1 : Hid (n + 1 ≤ maxLen) := Lib.hid (by omega)
  have Hm4 := Lib.hid hm1
  clear h hm1
  by_cases hp : plainB b = true
  · have hs : signB b = [b] := by unfold signB; rw [if_pos hp]
    rw [hs]
    rw [plain_iff] at hp
    have hp' : ((48 : Int) ≤ (b : Int) ∧ (b : Int) ≤ 57) ∨ ((57 : Int) < (b : Int) ∧ (65 : Int) ≤ (b : Int) ∧ (b : Int) ≤ 90) ∨ ((90 : Int) < (b : Int) ∧ (97 : Int) ≤ (b : Int) ∧ (b : Int) ≤ 122) := by omega
    rcases hp' with ⟨q1, q2⟩ | ⟨q0, q1, q2⟩ | ⟨q0, q1, q2⟩
    all_goals
      go_enter Tryd.func109, Tryd.ntmps109
      go_wp2_with (refine wpList_appO _ rfl (.tmp 27) (.tmp 29) _ rfl _ _ 1 1 Tryd.underlying94 info_u8 rfl A n c xs rfl (H.out.alloc _) (some ⟨w.heap.size, 0, none⟩) 1 1 [nb b] rfl rfl (Rd.lit w #[.int .u8 (b : Int)] 5) (by intro u hu; simp at hu; subst hu; rfl) (by intro h; cases h) Hm1.out (by omega) ?_; intro A2 c2 w2 hr2 ho2 hA2)
      go_ret
      exact Appd.mk_ ((AppT.refl H.out).step ((Below.refl _ _).alloc (Nat.le_refl _) _) hr2 ho2 hA2) rfl rfl
  · have hs : signB b = [92, 120, hexD (b / 16), hexD (b % 16)] := by unfold signB; rw [if_neg hp]
    rw [hs]
    rw [plain_iff] at hp
    have hp' : (b : Int) < 48 ∨ ((57 : Int) < (b : Int) ∧ (b : Int) < 65) ∨ ((90 : Int) < (b : Int) ∧ (b : Int) < 97) ∨ (122 : Int) < (b : Int) := by omega
    have hs16 := shr4 b hb
    have h15 : bits BinOp.and IntKind.u8 (b : Int) 15 = ((b % 16 : Nat) : Int) := and15i ⟨b, hb⟩
    have ha16 : b / 16 < 16 := by omega
    have hb16 : b % 16 < 16 := by omega
    have ea := hexS_at ⟨b / 16, ha16⟩
    have eb := hexS_at ⟨b % 16, hb16⟩
    simp only at ea eb
    generalize hq1 : b / 16 = a1 at hs16 ha16 ea ⊢
    generalize hq2 : b % 16 = a2 at h15 hb16 eb ⊢
    generalize hexD a1 = x1 at ea ⊢
    generalize hexD a2 = x2 at eb ⊢
    unfold hexS at ea eb
    have l1 : (a1 : Int) < 16 := by omega
    have l2 : (a2 : Int) < 16 := by omega
    have e1i : (((⟨#[48, 49, 50, 51, 52, 53, 54, 55, 56, 57, 97, 98, 99, 100, 101, 102]⟩ : ByteArray)[a1]'(by show a1 < 16; exact ha16)).toNat : Int) = (x1 : Int) := by rw [ea]
    have e2i : (((⟨#[48, 49, 50, 51, 52, 53, 54, 55, 56, 57, 97, 98, 99, 100, 101, 102]⟩ : ByteArray)[a2]'(by show a2 < 16; exact hb16)).toNat : Int) = (x2 : Int) := by rw [eb]
    have hone : ∀ u ∈ [nb 92, nb 120, nb x1, nb x2], u.oneCell' = true := by intro u hu; simp at hu; rcases hu with rfl | rfl | rfl | rfl <;> rfl
    clear hp hs hq1 hq2 ea eb
    rcases hp' with q1 | ⟨q1, q2⟩ | ⟨q1, q2⟩ | q1
    all_goals
      go_enter Tryd.func109, Tryd.ntmps109
      go_wp2
      go_region_held3 (fun w' => True)
        (first | trivial)
        (first | (refine step_appO _ rfl (.tmp 31) (.tmp 38) _ rfl _ _ 1 1 Tryd.underlying94 info_u8 rfl A n c xs rfl (H.out.ext (by repeat (first | apply ext_alloc | apply ext_drew | exact Below.refl _ _))) (some ⟨w.heap.size, 0, none⟩) 4 4 [nb 92, nb 120, nb x1, nb x2] rfl rfl (Rd.lit_at _ _ _ rfl) hone (by intro h; cases h) Hm4.out (by omega) ?_; intro A2 c2 w2 hr2 ho2 hA2))
      all_goals
        go_wp2
        go_ret
        exact Appd.mk_ ((AppT.refl H.out).step (by repeat (first | apply ext_alloc | apply ext_drew | exact Below.refl _ _)) hr2 ho2 hA2) rfl rfl

end Go.Proofs.YtgknlegomoaoeaaDoor

/-
  Contract of strconv.AppendInt, for small numbers. No statement of the seat is proved here.
-/
namespace Go.Proofs.YtgknlegomoaoeaaDoor
open Go Go.RowKit
set_option maxRecDepth 100000

section
variable {P : Program} (w : World)
/-- append of a string's bytes -/
theorem run_appS (t tx ty e : TypeId) (z : Value) (bytes : Nat) (ht : P.underlying t = some (.slice e)) (htx : P.underlying tx = some .string) (hi : (P.info? e).map (fun i => (i.zero, i.size, i.bytes)) = some (some z, 1, bytes)) (hzs : z.cells.size = 1)
    (A : Option Addr) (n c : Nat) (xs : List Value) (hown : RowO w e 1 A n c xs) (s : ByteArray) (h0 : 0 < s.size)
    (h63 : n + s.size ≤ maxLen) (hbytes : (n + s.size) * bytes ≤ 140737488355328) :
    ∃ A' c' w', (Builtin.append_ #[t, tx] ty #[.slice A n c, .string s]).run P w = .ok (.slice A' (n + s.size) c') w' ∧ RowO w' e 1 A' (n + s.size) c' (xs ++ byteCells s) ∧ Only (inA A) w w' ∧ (∀ k, inA A' k → inA A k ∨ (w.heap.size ≤ k ∧ k < w'.heap.size)) := by
  obtain ⟨i, hinf, hz, hsz, hby⟩ := info_parts hi
  clear hi
  have src0 := Src.ofString (P := P) w htx s
  have hm : (byteCells s).length = s.size * 1 := by rw [byteCells_length]; omega
  rw [← hsz] at hm
  have hzs' : z.cells.size = i.size := by rw [hsz]; exact hzs
  have hown' : RowO w e i.size A n c xs := by rw [hsz]; exact hown
  have src : Src P i.size tx (.string s) s.size (byteCells s) w := by rw [hsz]; exact src0
  subst hby
  suffices H : ∃ A' c' w', (Builtin.append_ #[t, tx] ty #[.slice A n c, .string s]).run P w = .ok (.slice A' (n + s.size) c') w' ∧ RowO w' e i.size A' (n + s.size) c' (xs ++ byteCells s) ∧ Only (inA A) w w' ∧ (∀ k, inA A' k → inA A k ∨ (w.heap.size ≤ k ∧ k < w'.heap.size)) by
    rw [hsz] at H; exact H
  clear hzs hown src0
  have hsmall : n + s.size ≤ 9223372036854775807 := by simp only [maxLen] at h63; omega
  have hlen : (xs ++ byteCells s).length = (n + s.size) * i.size := by rw [List.length_append, hown'.1, hm, Nat.add_mul]
  by_cases hroom : n + s.size ≤ c
  · rcases hown'.2 with ⟨rfl, rfl, rfl⟩ | ⟨g, off, cs, rfl, hnc, hcm, hb, hsize, hcell⟩
    · omega
    · have hfit : off + n * i.size + (byteCells s).length ≤ cs.size := by
        have h2 : (n + s.size) * i.size ≤ c * i.size := Nat.mul_le_mul_right _ hroom
        rw [Nat.add_mul] at h2
        omega
      have hcs : ∀ j, j < (byteCells s).length → (w.cell? ⟨g, off + n * i.size + j, none⟩).isSome = true := fun j hj => by
        rw [hb.cell]; simp; omega
      have hfr : ∀ j, j < (byteCells s).length → w.frozen? ⟨g, off + n * i.size + j, none⟩ = false := fun j _ => hb.free _
      have hrun := run_append_room_src (P := P) w t tx ty e i ht hinf g off n c (.string s) s.size (byteCells s) src hroom hcs hfr
      obtain ⟨cs', hb', hs', hin, hout⟩ := Blk.setCells (byteCells s) (off + n * i.size) hb hfit
      refine ⟨_, _, _, hrun, ⟨hlen, .inr ⟨g, off, cs', rfl, hroom, hcm, hb', by omega, fun j u hu => ?_⟩⟩, (Only.refl _ w).setCells (.inl ((inA_some _ _ _ _).2 rfl)) _ _, fun k hk => .inl hk⟩
      rw [List.getElem?_append] at hu
      split at hu
      · rename_i hj
        rw [hown'.1] at hj
        rw [hout (off + j) (.inl (by omega))]
        exact hcell j u hu
      · rename_i hj
        have := hin _ u hu
        rw [hown'.1] at hj this
        rwa [show off + n * i.size + (j - n * i.size) = off + j by omega] at this
  · have hold : (Builtin.firstCells i.size n (.slice A n c)).run P w.drew = .ok xs.toArray w.drew := by
      rcases hown'.2 with ⟨rfl, rfl, rfl⟩ | ⟨g, off, cs, rfl, hnc, hcm, hb, hsize, hcell⟩
      · have hnil : xs = [] := List.eq_nil_of_length_eq_zero (by simpa using hown'.1)
        subst hnil
        exact run_firstCells_none w.drew i.size 0 0 0
      · refine run_firstCells_some w.drew i.size n ⟨g, off, none⟩ n c xs hown'.1 (fun j u hu => ?_)
        rw [Addr.add_mid, (Blk.drew hb).cell]
        exact hcell j u hu
    have hrun := run_append_grow_src (P := P) w t tx ty e i z ht hinf hz A n c xs hold (.string s) s.size (byteCells s) src (by omega) (by omega) (growslice_fits (by omega) hbytes)
    have hge := grownCap_ge w (n + s.size) c e
    have hcm : grownCap w (n + s.size) c e ≤ maxLen := grownCap_le_maxLen w (n + s.size) c e h63
    refine ⟨_, _, _, hrun, ⟨hlen, .inr ⟨w.heap.size, 0, _, rfl, hge, hcm, heap_alloc_new w.drew _, ?_, fun j u hu => ?_⟩⟩, ((Only.refl _ w).drew).alloc _, fun k hk => .inr ?_⟩
    · simp only [Array.size_append, List.size_toArray, size_zeroCells, hzs', hlen, ← Nat.add_mul]
      rw [Nat.zero_add]
      exact Nat.le_of_eq (congrArg (· * i.size) (by omega))
    · have hj := (List.getElem?_eq_some_iff.1 hu).1
      rw [Nat.zero_add, Array.getElem?_append_left (by simpa using hj)]
      simpa using hu
    · rw [inA_some] at hk
      subst hk
      simp
theorem wpList_appS {ops : Array Oper} {rest : List Oper} {o : Oper} {a : Act} {Q : Exit → Act → World → Prop} (hgd : o.guard = none) (s x : Operand) (t tx : TypeId)
    (ho : o.op = .call { callee := .builtin .append, args := #[s, x], argTypes := #[t, tx] })
    (e : TypeId) (z : Value) (bytes : Nat) (ht : P.underlying t = some (.slice e)) (htx : P.underlying tx = some .string) (hi : (P.info? e).map (fun i => (i.zero, i.size, i.bytes)) = some (some z, 1, bytes)) (hzs : z.cells.size = 1)
    (A : Option Addr) (n c : Nat) (xs : List Value) (hs : a.eval s = .slice A n c) (hown : RowO w e 1 A n c xs)
    (Z : ByteArray) (hx : a.eval x = .string Z) (h0 : 0 < Z.size)
    (h63 : n + Z.size ≤ maxLen) (hbytes : (n + Z.size) * bytes ≤ 140737488355328)
    (h : ∀ A' c' w', RowO w' e 1 A' (n + Z.size) c' (xs ++ byteCells Z) → Only (inA A) w w' → (∀ k, inA A' k → inA A k ∨ (w.heap.size ≤ k ∧ k < w'.heap.size)) → wpList P ops Q rest (a.put o.dst (.slice A' (n + Z.size) c')) w') : wpList P ops Q (o :: rest) a w :=
  wpList_plain hgd fun K hK => by
    obtain ⟨A', c', w', hrun, h2, h3, h4⟩ := run_appS (P := P) w t tx o.type e z bytes ht htx hi hzs A n c xs hown Z h0 h63 hbytes
    unfold Oper.wp execOp
    simp only [ho, resolve, invoke, builtin, Sem.run_bind, Sem.run_pure, Result.andThen_ok, List.map_toArray, List.map_cons, List.map_nil, hs, hx, hrun]
    exact hK _ _ (h A' c' w' h2 h3 h4)
end
theorem byteCells_bsN {l : List Nat} (h : ∀ b ∈ l, b < 256) : byteCells (bsN l) = l.map nb := by
  unfold byteCells bsN
  simp only [List.map_map]
  refine List.map_congr_left fun b hb => ?_
  have := h b hb
  simp only [Function.comp, nb, Nat.toUInt8, UInt8.toNat_ofNat', Value.int.injEq, true_and]
  congr 1
  omega

theorem small_any (n : Nat) (hn : n ≤ 32) (w : World) : Calls Tryd.prog 121 #[.int .i64 (n : Int)] w fun e w' => e = .returned (.string (bsN (twoB n))) ∧ w' = w := by
  have h : n = 0 ∨ n = 1 ∨ n = 2 ∨ n = 3 ∨ n = 4 ∨ n = 5 ∨ n = 6 ∨ n = 7 ∨ n = 8 ∨ n = 9 ∨ n = 10 ∨ n = 11 ∨ n = 12 ∨ n = 13 ∨ n = 14 ∨ n = 15 ∨ n = 16 ∨ n = 17 ∨ n = 18 ∨ n = 19 ∨ n = 20 ∨ n = 21 ∨ n = 22 ∨ n = 23 ∨ n = 24 ∨ n = 25 ∨ n = 26 ∨ n = 27 ∨ n = 28 ∨ n = 29 ∨ n = 30 ∨ n = 31 ∨ n = 32 := by omega
  rcases h with rfl | rfl | rfl | rfl | rfl | rfl | rfl | rfl | rfl | rfl | rfl | rfl | rfl | rfl | rfl | rfl | rfl | rfl | rfl | rfl | rfl | rfl | rfl | rfl | rfl | rfl | rfl | rfl | rfl | rfl | rfl | rfl | rfl
  all_goals
    go_enter Tryd.func121, Tryd.ntmps121
    go_wp2
    go_ret
    exact ⟨rfl, rfl⟩
theorem twoB_pos (n : Nat) : 0 < (twoB n).length := by unfold twoB; split <;> simp
theorem twoB_lt {n : Nat} (h : n < 100) : ∀ b ∈ twoB n, b < 256 := by
  unfold twoB
  split <;> (intro b hb; simp at hb; omega)

set_option maxHeartbeats 1000000 in
theorem auint_any (v : Nat) (hv : v ≤ 32) (A : Option Addr) (n c : Nat) (xs : List Value) (w : World) (h : RowO w 5 1 A n c xs) (hn : n ≤ 1000000000000) :
    Calls Tryd.prog 120 #[.slice A n c, .int .u64 (v : Int), .int .i64 10] w (Appd w A n xs (twoB v)) := by
  have hvi : (v : Int) ≤ 32 := by omega
  have hvi2 : (v : Int) < 100 := by omega
  have Hs := Lib.hid fun W => small_any v hv W
  have hz0 : 0 < (bsN (twoB v)).size := by rw [bsN_size]; exact twoB_pos v
  have hz1 : (bsN (twoB v)).size ≤ 2 := by rw [bsN_size]; exact twoB_len v
  have hcb := byteCells_bsN (twoB_lt (n := v) (by omega))
  have hsz := bsN_size (twoB v)
  obtain ⟨Z, hZ⟩ : ∃ Z, bsN (twoB v) = Z := ⟨_, rfl⟩
  rw [hZ] at Hs hz0 hz1 hcb hsz
  have Hcb := Lib.hid hcb
  have Hsz := Lib.hid hsz
  have Hz0 := Lib.hid hz0
  have Hm : Hid (n + Z.size ≤ maxLen) := Lib.hid (by unfold maxLen; omega)
  have Hm2 : Hid ((n + Z.size) * 1 ≤ 140737488355328) := Lib.hid (by omega)
  have H := Lib.hid h
  clear h hZ hcb hsz hz0 hz1
  go_enter Tryd.func120, Tryd.ntmps120
  go_wp2_with (first | (go_at_call 121; (with_reducible refine (Hs.out _).mono ?_); rintro e w' ⟨rfl, rfl⟩) | (refine wpList_appS _ rfl (.tmp 13) (.tmp 16) _ _ rfl _ _ 1 Tryd.underlying94 Tryd.underlying9 info_u8 rfl A n c xs rfl H.out Z rfl Hz0.out Hm.out Hm2.out ?_; intro A2 c2 w2 hr2 ho2 hA2))
  go_ret
  exact Appd.mk_ ((AppT.refl H.out).step (Below.refl _ _) hr2 ho2 hA2) (by rw [Hsz.out]) (by rw [Hcb.out])
set_option maxHeartbeats 1000000 in
theorem aint_any (v : Nat) (hv : v ≤ 32) (A : Option Addr) (n c : Nat) (xs : List Value) (w : World) (h : RowO w 5 1 A n c xs) (hn : n ≤ 1000000000000) :
    Calls Tryd.prog 118 #[.slice A n c, .int .i64 (v : Int), .int .i64 10] w (Appd w A n xs (twoB v)) := by
  have hvi : (v : Int) ≤ 32 := by omega
  have hv0 : (0 : Int) ≤ (v : Int) := by omega
  have hw : IntKind.u64.wrap (v : Int) = (v : Int) := by rw [IntKind.wrap_u64]; omega
  have Hu := Lib.hid (auint_any v hv A n c xs w h hn)
  go_enter Tryd.func118, Tryd.ntmps118
  go_wp2_with fail
  refine Hu.out.mono ?_
  rintro e w2 ⟨A2, c2, rfl, hT⟩
  have HT := Lib.hid hT
  clear hT
  go_wp2
  go_ret
  exact ⟨A2, c2, rfl, HT.out⟩
set_option maxHeartbeats 1000000 in
theorem anum_any (v : Nat) (hv : v ≤ 32) (A : Option Addr) (n c : Nat) (xs : List Value) (w : World) (h : RowO w 5 1 A n c xs) (hn : n ≤ 1000000000000) :
    Calls Tryd.prog 110 #[.slice A n c, .int .i64 (v : Int), .int .i64 10] w (Appd w A n xs (twoB v)) := by
  have Hu := Lib.hid (aint_any v hv A n c xs w h hn)
  go_enter Tryd.func110, Tryd.ntmps110
  go_wp2_with fail
  refine Hu.out.mono ?_
  rintro e w2 ⟨A2, c2, rfl, hT⟩
  have HT := Lib.hid hT
  clear hT
  go_wp2
  go_ret
  exact ⟨A2, c2, rfl, HT.out⟩
end Go.Proofs.YtgknlegomoaoeaaDoor

/-
  Contract of the program's appendTimes. No statement of the seat is proved here.
-/
namespace Go.Proofs.YtgknlegomoaoeaaDoor
open Go Go.RowKit
set_option maxRecDepth 100000

set_option maxHeartbeats 4000000 in
theorem atimes_any (lo hi : Int) (hrep : repB lo hi = true) (A : Option Addr) (n c : Nat) (xs : List Value) (w : World) (h : RowO w 5 1 A n c xs) (hn : n ≤ 100000000000) :
    Calls Tryd.prog 96 #[.slice A n c, .int .i64 lo, .int .i64 hi] w (Appd w A n xs (timesT lo hi)) := by
  rw [rep_iff] at hrep
  obtain ⟨l, rfl⟩ : ∃ l : Nat, lo = (l : Int) := ⟨lo.toNat, by omega⟩
  obtain ⟨h1, h2, h3⟩ := hrep
  have T0 := AppT.refl h
  have hl32 : l ≤ 32 := by omega
  obtain ⟨T, hT⟩ : ∃ T, timesT (l : Int) hi = T := ⟨_, rfl⟩
  rw [hT]
  unfold timesT at hT
  have hc : (l = 0 ∧ hi = -1) ∨ (l = 1 ∧ hi = -1) ∨ (l = 0 ∧ hi = 1) ∨ (l = 1 ∧ hi = 1) ∨ (2 ≤ l ∧ hi = (l : Int)) ∨ (2 ≤ l ∧ hi = -1) ∨ ∃ m : Nat, hi = (m : Int) ∧ l < m ∧ 2 ≤ m ∧ m ≤ 32 := by
    rcases h3 with h3 | h3
    · omega
    · obtain ⟨m, rfl⟩ : ∃ m : Nat, hi = (m : Int) := ⟨hi.toNat, by omega⟩
      by_cases hm : l < m ∧ 2 ≤ m
      · exact .inr (.inr (.inr (.inr (.inr (.inr ⟨m, rfl, hm.1, hm.2, by omega⟩)))))
      · omega
  clear h h1 h2 h3
  rcases hc with ⟨rfl, rfl⟩ | ⟨rfl, rfl⟩ | ⟨rfl, rfl⟩ | ⟨rfl, rfl⟩ | ⟨hl2, rfl⟩ | ⟨hl2, rfl⟩ | ⟨m, rfl, hlm, hm2, hm32⟩
  · obtain rfl : [42] = T := hT
    go_enter Tryd.func96, Tryd.ntmps96
    go_wp2_with (refine wpList_appO _ rfl (.tmp 14) (.tmp 15) _ rfl _ _ 1 1 Tryd.underlying94 info_u8 rfl A n c xs rfl (T0.row.ext (by repeat (first | exact Below.refl _ _ | apply ext_alloc))) (some ⟨_, 0, none⟩) 1 1 [nb 42] rfl rfl (Rd.lit_at _ _ _ (by first | rfl | simp)) (by intro u hu; simp at hu; subst hu; rfl) (by intro h; cases h) (by unfold maxLen; omega) (by omega) ?_; intro A1 c1 w1 hr1 ho1 hA1; have T1 := T0.step (by repeat (first | exact Below.refl _ _ | apply ext_alloc)) hr1 ho1 hA1; clear hr1 ho1 hA1)
    go_ret
    exact Appd.mk_ T1 rfl rfl
  · obtain rfl : [43] = T := hT
    go_enter Tryd.func96, Tryd.ntmps96
    go_wp2_with (refine wpList_appO _ rfl (.tmp 24) (.tmp 25) _ rfl _ _ 1 1 Tryd.underlying94 info_u8 rfl A n c xs rfl (T0.row.ext (by repeat (first | exact Below.refl _ _ | apply ext_alloc))) (some ⟨_, 0, none⟩) 1 1 [nb 43] rfl rfl (Rd.lit_at _ _ _ (by first | rfl | simp)) (by intro u hu; simp at hu; subst hu; rfl) (by intro h; cases h) (by unfold maxLen; omega) (by omega) ?_; intro A1 c1 w1 hr1 ho1 hA1; have T1 := T0.step (by repeat (first | exact Below.refl _ _ | apply ext_alloc)) hr1 ho1 hA1; clear hr1 ho1 hA1)
    go_ret
    exact Appd.mk_ T1 rfl rfl
  · obtain rfl : [63] = T := hT
    go_enter Tryd.func96, Tryd.ntmps96
    go_wp2_with (refine wpList_appO _ rfl (.tmp 34) (.tmp 35) _ rfl _ _ 1 1 Tryd.underlying94 info_u8 rfl A n c xs rfl (T0.row.ext (by repeat (first | exact Below.refl _ _ | apply ext_alloc))) (some ⟨_, 0, none⟩) 1 1 [nb 63] rfl rfl (Rd.lit_at _ _ _ (by first | rfl | simp)) (by intro u hu; simp at hu; subst hu; rfl) (by intro h; cases h) (by unfold maxLen; omega) (by omega) ?_; intro A1 c1 w1 hr1 ho1 hA1; have T1 := T0.step (by repeat (first | exact Below.refl _ _ | apply ext_alloc)) hr1 ho1 hA1; clear hr1 ho1 hA1)
    go_ret
    exact Appd.mk_ T1 rfl rfl
  · skip
    obtain rfl : 123 :: (twoB 1 ++ [125]) = T := by rw [← hT]; rfl
    clear hT
    go_enter Tryd.func96, Tryd.ntmps96
    go_wp2_with (refine wpList_appO _ rfl (.tmp 37) (.tmp 38) _ rfl _ _ 1 1 Tryd.underlying94 info_u8 rfl A n c xs rfl (T0.row.ext (by repeat (first | exact Below.refl _ _ | apply ext_alloc))) (some ⟨_, 0, none⟩) 1 1 [nb 123] rfl rfl (Rd.lit_at _ _ _ (by first | rfl | simp)) (by intro u hu; simp at hu; subst hu; rfl) (by intro h; cases h) (by unfold maxLen; omega) (by omega) ?_; intro A1 c1 w1 hr1 ho1 hA1; have T1 := T0.step (by repeat (first | exact Below.refl _ _ | apply ext_alloc)) hr1 ho1 hA1; clear hr1 ho1 hA1)
    refine (anum_any 1 (by omega) A1 (n + 1) c1 _ w1 T1.row (by omega)).mono ?_
    rintro e w2 ⟨A2, c2, rfl, hT2⟩
    have T2 := T1.trans hT2
    clear hT2
    have hl0 := twoB_len 1
    obtain ⟨q, hq⟩ : ∃ q, (twoB 1).length = q := ⟨_, rfl⟩
    rw [hq] at T2 hl0 ⊢
    have Hq := Lib.hid hq
    clear hq
    go_wp2_with (refine wpList_appO _ rfl (.tmp 54) (.tmp 55) _ rfl _ _ 1 1 Tryd.underlying94 info_u8 rfl A2 (n + 1 + q) c2 _ rfl (T2.row.ext (by repeat (first | exact Below.refl _ _ | apply ext_alloc))) (some ⟨_, 0, none⟩) 1 1 [nb 125] rfl rfl (Rd.lit_at _ _ _ (by first | rfl | simp)) (by intro u hu; simp at hu; subst hu; rfl) (by intro h; cases h) (by unfold maxLen; omega) (by omega) ?_; intro A3 c3 w3 hr3 ho3 hA3; have T3 := T2.step (by repeat (first | exact Below.refl _ _ | apply ext_alloc)) hr3 ho3 hA3; clear hr3 ho3 hA3)
    go_ret
    exact Appd.mk_ T3 (by simp [Hq.out]; omega) (by simp)
  · have hli : (2 : Int) ≤ (l : Int) := by omega
    have hl0' : ((l : Int) == 0) = false := by rw [beq_eq_false_iff_ne]; omega
    have hl1' : ((l : Int) == 1) = false := by rw [beq_eq_false_iff_ne]; omega
    have hlm1 : ((l : Int) == -1) = false := by rw [beq_eq_false_iff_ne]; omega
    have hlm2 : ((l : Int) != -1) = true := by rw [bne_iff_ne]; omega
    obtain rfl : 123 :: (twoB l ++ [125]) = T := by rw [← hT]; rw [if_neg (by omega), if_neg (by omega), if_neg (by omega), if_pos rfl]; rfl
    clear hT
    go_enter Tryd.func96, Tryd.ntmps96
    go_wp2_with (refine wpList_appO _ rfl (.tmp 37) (.tmp 38) _ rfl _ _ 1 1 Tryd.underlying94 info_u8 rfl A n c xs rfl (T0.row.ext (by repeat (first | exact Below.refl _ _ | apply ext_alloc))) (some ⟨_, 0, none⟩) 1 1 [nb 123] rfl rfl (Rd.lit_at _ _ _ (by first | rfl | simp)) (by intro u hu; simp at hu; subst hu; rfl) (by intro h; cases h) (by unfold maxLen; omega) (by omega) ?_; intro A1 c1 w1 hr1 ho1 hA1; have T1 := T0.step (by repeat (first | exact Below.refl _ _ | apply ext_alloc)) hr1 ho1 hA1; clear hr1 ho1 hA1)
    refine (anum_any l (by omega) A1 (n + 1) c1 _ w1 T1.row (by omega)).mono ?_
    rintro e w2 ⟨A2, c2, rfl, hT2⟩
    have T2 := T1.trans hT2
    clear hT2
    have hl0 := twoB_len l
    obtain ⟨q, hq⟩ : ∃ q, (twoB l).length = q := ⟨_, rfl⟩
    rw [hq] at T2 hl0 ⊢
    have Hq := Lib.hid hq
    clear hq
    go_wp2_with (refine wpList_appO _ rfl (.tmp 54) (.tmp 55) _ rfl _ _ 1 1 Tryd.underlying94 info_u8 rfl A2 (n + 1 + q) c2 _ rfl (T2.row.ext (by repeat (first | exact Below.refl _ _ | apply ext_alloc))) (some ⟨_, 0, none⟩) 1 1 [nb 125] rfl rfl (Rd.lit_at _ _ _ (by first | rfl | simp)) (by intro u hu; simp at hu; subst hu; rfl) (by intro h; cases h) (by unfold maxLen; omega) (by omega) ?_; intro A3 c3 w3 hr3 ho3 hA3; have T3 := T2.step (by repeat (first | exact Below.refl _ _ | apply ext_alloc)) hr3 ho3 hA3; clear hr3 ho3 hA3)
    go_ret
    exact Appd.mk_ T3 (by simp [Hq.out]; omega) (by simp)
  · have hli : (2 : Int) ≤ (l : Int) := by omega
    have hl0' : ((l : Int) == 0) = false := by rw [beq_eq_false_iff_ne]; omega
    have hl1' : ((l : Int) == 1) = false := by rw [beq_eq_false_iff_ne]; omega
    have hlm1 : ((l : Int) == -1) = false := by rw [beq_eq_false_iff_ne]; omega
    have hlm2 : ((l : Int) != -1) = true := by rw [bne_iff_ne]; omega
    obtain rfl : 123 :: (twoB l ++ [44, 125]) = T := by rw [← hT]; rw [if_neg (by omega), if_neg (by omega), if_neg (by omega), if_neg (by omega), if_pos rfl]; rfl
    clear hT
    go_enter Tryd.func96, Tryd.ntmps96
    go_wp2_with (refine wpList_appO _ rfl (.tmp 37) (.tmp 38) _ rfl _ _ 1 1 Tryd.underlying94 info_u8 rfl A n c xs rfl (T0.row.ext (by repeat (first | exact Below.refl _ _ | apply ext_alloc))) (some ⟨_, 0, none⟩) 1 1 [nb 123] rfl rfl (Rd.lit_at _ _ _ (by first | rfl | simp)) (by intro u hu; simp at hu; subst hu; rfl) (by intro h; cases h) (by unfold maxLen; omega) (by omega) ?_; intro A1 c1 w1 hr1 ho1 hA1; have T1 := T0.step (by repeat (first | exact Below.refl _ _ | apply ext_alloc)) hr1 ho1 hA1; clear hr1 ho1 hA1)
    refine (anum_any l (by omega) A1 (n + 1) c1 _ w1 T1.row (by omega)).mono ?_
    rintro e w2 ⟨A2, c2, rfl, hT2⟩
    have T2 := T1.trans hT2
    clear hT2
    have hl0 := twoB_len l
    obtain ⟨q, hq⟩ : ∃ q, (twoB l).length = q := ⟨_, rfl⟩
    rw [hq] at T2 hl0 ⊢
    have Hq := Lib.hid hq
    clear hq
    go_wp2_with (first | (refine wpList_appO _ rfl (.tmp 46) (.tmp 47) _ rfl _ _ 1 1 Tryd.underlying94 info_u8 rfl A2 (n + 1 + q) c2 _ rfl (T2.row.ext (by repeat (first | exact Below.refl _ _ | apply ext_alloc))) (some ⟨_, 0, none⟩) 1 1 [nb 44] rfl rfl (Rd.lit_at _ _ _ (by first | rfl | simp)) (by intro u hu; simp at hu; subst hu; rfl) (by intro h; cases h) (by unfold maxLen; omega) (by omega) ?_; intro A3 c3 w3 hr3 ho3 hA3; have T3 := T2.step (by repeat (first | exact Below.refl _ _ | apply ext_alloc)) hr3 ho3 hA3; clear hr3 ho3 hA3) | (refine wpList_appO _ rfl (.tmp 54) (.tmp 55) _ rfl _ _ 1 1 Tryd.underlying94 info_u8 rfl A3 (n + 1 + q + 1) c3 _ rfl (T3.row.ext (by repeat (first | exact Below.refl _ _ | apply ext_alloc))) (some ⟨_, 0, none⟩) 1 1 [nb 125] rfl rfl (Rd.lit_at _ _ _ (by first | rfl | simp)) (by intro u hu; simp at hu; subst hu; rfl) (by intro h; cases h) (by unfold maxLen; omega) (by omega) ?_; intro A4 c4 w4 hr4 ho4 hA4; have T4 := T3.step (by repeat (first | exact Below.refl _ _ | apply ext_alloc)) hr4 ho4 hA4; clear hr4 ho4 hA4))
    go_ret
    exact Appd.mk_ T4 (by simp [Hq.out]; omega) (by simp)
  · have hli : (l : Int) < (m : Int) := by omega
    have hmi : (2 : Int) ≤ (m : Int) := by omega
    have hm0' : ((m : Int) == -1) = false := by rw [beq_eq_false_iff_ne]; omega
    have hm1' : ((m : Int) == 1) = false := by rw [beq_eq_false_iff_ne]; omega
    have hmn : ((m : Int) != -1) = true := by rw [bne_iff_ne]; omega
    have hlmn : ((l : Int) != (m : Int)) = true := by rw [bne_iff_ne]; omega
    have hl01 : l = 0 ∨ l = 1 ∨ 2 ≤ l := by omega
    obtain rfl : 123 :: (twoB l ++ (44 :: (twoB m ++ [125]))) = T := by rw [← hT]; rw [if_neg (by omega), if_neg (by omega), if_neg (by omega), if_neg (by omega), if_neg (by omega)]; rfl
    clear hT
    have hb0 : ∃ b, ((l : Int) == 0) = b := ⟨_, rfl⟩
    have hb1 : ∃ b, ((l : Int) == 1) = b := ⟨_, rfl⟩
    obtain ⟨b0, hb0⟩ := hb0
    obtain ⟨b1, hb1⟩ := hb1
    clear hl01
    cases b0 <;> cases b1
    all_goals
      go_enter Tryd.func96, Tryd.ntmps96
      go_wp2_with (refine wpList_appO _ rfl (.tmp 37) (.tmp 38) _ rfl _ _ 1 1 Tryd.underlying94 info_u8 rfl A n c xs rfl (T0.row.ext (by repeat (first | exact Below.refl _ _ | apply ext_alloc))) (some ⟨_, 0, none⟩) 1 1 [nb 123] rfl rfl (Rd.lit_at _ _ _ (by first | rfl | simp)) (by intro u hu; simp at hu; subst hu; rfl) (by intro h; cases h) (by unfold maxLen; omega) (by omega) ?_; intro A1 c1 w1 hr1 ho1 hA1; have T1 := T0.step (by repeat (first | exact Below.refl _ _ | apply ext_alloc)) hr1 ho1 hA1; clear hr1 ho1 hA1)
      refine (anum_any l (by omega) A1 (n + 1) c1 _ w1 T1.row (by omega)).mono ?_
      rintro e w2 ⟨A2, c2, rfl, hT2⟩
      have T2 := T1.trans hT2
      clear hT2
      have hl0 := twoB_len l
      obtain ⟨q, hq⟩ : ∃ q, (twoB l).length = q := ⟨_, rfl⟩
      rw [hq] at T2 hl0 ⊢
      have Hq := Lib.hid hq
      clear hq
      go_wp2_with (refine wpList_appO _ rfl (.tmp 46) (.tmp 47) _ rfl _ _ 1 1 Tryd.underlying94 info_u8 rfl A2 (n + 1 + q) c2 _ rfl (T2.row.ext (by repeat (first | exact Below.refl _ _ | apply ext_alloc))) (some ⟨_, 0, none⟩) 1 1 [nb 44] rfl rfl (Rd.lit_at _ _ _ (by first | rfl | simp)) (by intro u hu; simp at hu; subst hu; rfl) (by intro h; cases h) (by unfold maxLen; omega) (by omega) ?_; intro A3 c3 w3 hr3 ho3 hA3; have T3 := T2.step (by repeat (first | exact Below.refl _ _ | apply ext_alloc)) hr3 ho3 hA3; clear hr3 ho3 hA3)
      refine (anum_any m (by omega) A3 (n + 1 + q + 1) c3 _ w3 T3.row (by omega)).mono ?_
      rintro e w4 ⟨A4, c4, rfl, hT4⟩
      have T4 := T3.trans hT4
      clear hT4
      have hl1 := twoB_len m
      obtain ⟨r, hr⟩ : ∃ r, (twoB m).length = r := ⟨_, rfl⟩
      rw [hr] at T4 hl1 ⊢
      have Hr := Lib.hid hr
      clear hr
      go_wp2_with (refine wpList_appO _ rfl (.tmp 54) (.tmp 55) _ rfl _ _ 1 1 Tryd.underlying94 info_u8 rfl A4 (n + 1 + q + 1 + r) c4 _ rfl (T4.row.ext (by repeat (first | exact Below.refl _ _ | apply ext_alloc))) (some ⟨_, 0, none⟩) 1 1 [nb 125] rfl rfl (Rd.lit_at _ _ _ (by first | rfl | simp)) (by intro u hu; simp at hu; subst hu; rfl) (by intro h; cases h) (by unfold maxLen; omega) (by omega) ?_; intro A5 c5 w5 hr5 ho5 hA5; have T5 := T4.step (by repeat (first | exact Below.refl _ _ | apply ext_alloc)) hr5 ho5 hA5; clear hr5 ho5 hA5)
      go_ret
      exact Appd.mk_ T5 (by simp [Hq.out, Hr.out]; omega) (by simp)
end Go.Proofs.YtgknlegomoaoeaaDoor

/-
  Contract of the program's appendSet. No statement of the seat is proved here.
-/
namespace Go.Proofs.YtgknlegomoaoeaaDoor
open Go Go.RowKit
set_option maxRecDepth 100000

theorem rowsB_pair : ∀ (n : Nat) (l : List Nat), l.length = n → ∀ p ∈ rowsB l, p.1 ≤ p.2
  | 0, l, hl, p, hp => by
    rw [List.eq_nil_of_length_eq_zero hl] at hp
    cases hp
  | n + 1, l, hl, p, hp => by
    rcases nil_or_snoc l with rfl | ⟨m, b, rfl⟩
    · cases hl
    · have ih := rowsB_pair n m (by simpa using hl)
      rw [rowsB_snoc] at hp
      rcases nil_or_snoc (rowsB m) with h | ⟨r, ⟨lo, h'⟩, h⟩
      · rw [h, stepR_nil] at hp
        simp at hp; subst hp; exact Nat.le_refl _
      · rw [h] at hp ih
        have hlast := ih (lo, h') (by simp)
        by_cases e : h' + 1 = b
        · rw [stepR_join r lo h' b e] at hp
          rcases List.mem_append.1 hp with hp | hp
          · exact ih p (by simp [hp])
          · simp at hp; subst hp; simp only at hlast ⊢; omega
        · rw [stepR_new r lo h' b e] at hp
          rcases List.mem_append.1 hp with hp | hp
          · exact ih p hp
          · simp at hp; subst hp; exact Nat.le_refl _

/-- behind appends, still a row that was made since 'w0' -/
theorem AppT.new_ {w0 w w' : World} {A A' : Option Addr} {n c m c' : Nat} {xs zs : List Value} (h : NewO w0 w 5 1 A n c xs) (k : AppT w A w' A' m c' zs) : NewO w0 w' 5 1 A' m c' zs := by
  have h1 := h.2.1.size
  refine ⟨k.row, h.2.1.trans (k.only.below (fun i hi => h.2.2 i hi) h1), fun i hi => ?_⟩
  rcases k.new i hi with h2 | h2
  · exact h.2.2 i h2
  · omega

set_option maxHeartbeats 4000000 in
theorem aset_any (ws : List Nat) (hs : SetOk ws) (w0 : World) (ht : Tab w0) (A : Option Addr) (n c : Nat) (xs : List Value) (w : World) (h : NewO w0 w 5 1 A n c xs) (hn : n ≤ 10000000000) :
    Calls Tryd.prog 94 #[.slice A n c, setV ws] w (Appd w A n xs (setT ws)) := by
  obtain ⟨p0, p1, p2, p3, rfl⟩ := four_words hs
  have ht1 := ht.ext h.bel
  have hR : ∀ W, Below w.heap.size w W → Calls Tryd.prog 107 #[.agg #[.int .u64 (p0 : Int), .int .u64 (p1 : Int), .int .u64 (p2 : Int), .int .u64 (p3 : Int)]] W fun e w' => ∃ A' c', e = .returned (.slice A' (rowsB (listB [p0, p1, p2, p3])).length c') ∧ Rd w' A' (cellsR (rowsB (listB [p0, p1, p2, p3]))) ∧ Flat A' ∧ Below W.heap.size W w' ∧ ∀ ad, A' = some ad → W.heap.size ≤ ad.block := fun W hW =>
    (ranges_any _ hs W (ht1.ext hW)).mono fun e w' ⟨A', c', e1, h1⟩ => ⟨A', c', e1, h1.rd, h1.row.flat, h1.bel, fun ad e2 => h1.2.2 ad.block (by rw [e2]; obtain ⟨g, o, rfl⟩ := h1.row.flat ad e2; exact (inA_some _ _ _ _).2 rfl)⟩
  have hC : ∀ W, Calls Tryd.prog 108 #[.agg #[.int .u64 (p0 : Int), .int .u64 (p1 : Int), .int .u64 (p2 : Int), .int .u64 (p3 : Int)]] W fun e w' => e = .returned (.int .i64 ((listB [p0, p1, p2, p3]).length : Int)) ∧ Below W.heap.size W w' := fun W => count_any _ hs W
  have hLl := listB_len [p0, p1, p2, p3]
  have hLlt : ∀ b ∈ listB [p0, p1, p2, p3], b < 256 := fun b hb => listB_lt hb
  have hRl := rowsB_len hLlt
  have hRlt := rowsB_lt hLlt
  have hRle := rowsB_pair _ (listB [p0, p1, p2, p3]) rfl
  have hT : setT [p0, p1, p2, p3] = (if (listB [p0, p1, p2, p3]).length = 1 then signB ((listB [p0, p1, p2, p3]).getD 0 0) else if (listB [p0, p1, p2, p3]).length = 256 then [46] else 91 :: (rowsT (rowsB (listB [p0, p1, p2, p3])) ++ [93])) := rfl
  have hsl := setT_len [p0, p1, p2, p3]
  rw [hT] at hsl ⊢
  have hB := Blk.new w 24 #[.int .u64 (p0 : Int), .int .u64 (p1 : Int), .int .u64 (p2 : Int), .int .u64 (p3 : Int)]
  show Calls Tryd.prog 94 #[.slice A n c, .agg #[.int .u64 (p0 : Int), .int .u64 (p1 : Int), .int .u64 (p2 : Int), .int .u64 (p3 : Int)]] w _
  obtain ⟨L, hLe⟩ : ∃ L, listB [p0, p1, p2, p3] = L := ⟨_, rfl⟩
  rw [hLe] at hR hC hLl hLlt hRl hRlt hRle hsl ⊢
  obtain ⟨R, hRe⟩ : ∃ R, rowsB L = R := ⟨_, rfl⟩
  rw [hRe] at hR hRl hRlt hRle hsl ⊢
  obtain ⟨TT, hTT⟩ : ∃ TT, (if L.length = 1 then signB (L.getD 0 0) else if L.length = 256 then [46] else 91 :: (rowsT R ++ [93])) = TT := ⟨_, rfl⟩
  rw [hTT] at hsl ⊢
  have HTT := Lib.hid hTT
  have HRe := Lib.hid hRe
  have T0 := AppT.refl h.row
  have hlt : ∀ k, inA A k → k < w.heap.size := fun k hk => h.row.lt hk
  have Hlt := Lib.hid hlt
  clear hT hLe hRe hs ht ht1 h hlt hTT
  have HC := Lib.hid hC
  have HR := Lib.hid hR
  have HB := Lib.hid hB
  have HLlt := Lib.hid hLlt
  have HRlt := Lib.hid hRlt
  have HRle := Lib.hid hRle
  have Hsl := Lib.hid hsl
  have hLi : (L.length : Int) ≤ 256 := by omega
  have hRi : (R.length : Int) ≤ 256 := by omega
  clear hC hR hB hLlt hRlt hRle hsl
  go_enter Tryd.func94, Tryd.ntmps94
  go_wp2_with fail
  refine (HR.out _ ((Below.refl _ _).alloc (Nat.le_refl _) _)).mono ?_
  rintro e w1 ⟨Ar, cr, rfl, hrd, hflat, hb1, hnew⟩
  have HB1 := Lib.hid (HB.out.ext hb1)
  have c0 := HB1.out.cell 0
  have c1 := HB1.out.cell 1
  have c2 := HB1.out.cell 2
  have c3 := HB1.out.cell 3
  go_wp2_with fail
  refine (HC.out _).mono ?_
  rintro e w3 ⟨rfl, hb3⟩
  have hb03 : Below w.heap.size w w3 := ext_trans (ext_trans ((Below.refl _ _).alloc (Nat.le_refl _) (Obj.cells #[.int .u64 (p0 : Int), .int .u64 (p1 : Int), .int .u64 (p2 : Int), .int .u64 (p3 : Int)] 24)) hb1) hb3
  have Hrd := Lib.hid (hrd.ext hb3)
  have Hflat := Lib.hid hflat
  have hsep : ∀ ad, Ar = some ad → cellsR R ≠ [] → ¬ inA A ad.block := fun ad e _ hk => by
    have h1 := hnew ad e
    have h2 := Hlt.out _ hk
    simp at h1
    omega
  have Hsep := Lib.hid hsep
  have T3 := AppT.refl (T0.row.ext hb03)
  have Hb03 := Lib.hid hb03
  clear hrd hflat hnew hb1 hb3 hsep c0 c1 c2 c3 hb03 T0
  by_cases h1 : L.length = 1
  · obtain ⟨b, rfl⟩ : ∃ b, L = [b] := List.length_eq_one_iff.1 h1
    obtain rfl : signB b = TT := HTT.out
    have hb := HLlt.out b (by simp)
    have hRb : R = [(b, b)] := HRe.out.symm
    subst hRb
    obtain ⟨g, o, rfl, x0, -⟩ := cellR_of Hrd.out Hflat.out (k := 0) (by simp)
    simp only [Nat.zero_mul, Nat.add_zero, List.getElem_cons_zero] at x0
    clear h1
    go_wp2_with fail
    refine (abyte_any b hb A n c xs w3 T3.row (by omega)).mono ?_
    rintro e w4 ⟨A4, c4, rfl, hT4⟩
    have T4 := AppT.from_ Hb03.out (T3.trans hT4) Hlt.out
    clear hT4
    go_wp2
    go_ret
    exact ⟨A4, c4, rfl, T4⟩
  have hTT := HTT.out
  rw [if_neg h1] at hTT
  have h1' : ((L.length : Int) == 1) = false := by rw [beq_eq_false_iff_ne]; omega
  by_cases h2 : L.length = 256
  · rw [if_pos h2] at hTT
    subst hTT
    have h2' : ((L.length : Int) == 256) = true := by rw [beq_iff_eq]; omega
    clear h1 h2
    go_wp2_with (refine wpList_appO _ rfl (.tmp 22) (.tmp 23) _ rfl _ _ 1 1 Tryd.underlying94 info_u8 rfl A n c xs rfl (T3.row.ext (by repeat (first | exact Below.refl _ _ | apply ext_alloc))) (some ⟨_, 0, none⟩) 1 1 [nb 46] rfl rfl (Rd.lit_at _ _ _ (by first | rfl | simp)) (by intro u hu; simp at hu; subst hu; rfl) (by intro h; cases h) (by unfold maxLen; omega) (by omega) ?_; intro A4 c4 w4 hr4 ho4 hA4; have T4 := T3.step (by repeat (first | exact Below.refl _ _ | apply ext_alloc)) hr4 ho4 hA4; clear hr4 ho4 hA4)
    go_ret
    exact Appd.mk_ (AppT.from_ Hb03.out T4 Hlt.out) rfl rfl
  rw [if_neg h2] at hTT
  subst hTT
  have h2' : ((L.length : Int) == 256) = false := by rw [beq_eq_false_iff_ne]; omega
  clear h1 h2
  have hfin := Hsl.out
  simp only [List.length_cons, List.length_append, List.length_nil] at hfin
  have Hfin := Lib.hid hfin
  clear hfin Hsl
  go_wp2_with (refine wpList_appO _ rfl (.tmp 25) (.tmp 26) _ rfl _ _ 1 1 Tryd.underlying94 info_u8 rfl A n c xs rfl (T3.row.ext (by repeat (first | exact Below.refl _ _ | apply ext_alloc))) (some ⟨_, 0, none⟩) 1 1 [nb 91] rfl rfl (Rd.lit_at _ _ _ (by first | rfl | simp)) (by intro u hu; simp at hu; subst hu; rfl) (by intro h; cases h) (by unfold maxLen; omega) (by omega) ?_; intro A4 c4 w4 hr4 ho4 hA4; have T4 := T3.step (by repeat (first | exact Below.refl _ _ | apply ext_alloc)) hr4 ho4 hA4; clear hr4 ho4 hA4)
  have HT4 := Lib.hid T4
  clear T4 T3
  go_loopw [0, 30] (fun bv i wr => ∃ (k q : Nat) (Aw : Option Addr) (cw : Nat), k ≤ R.length ∧ i = .int .i64 (k : Int) ∧ bv = .slice Aw (n + 1 + q) cw ∧ Hid (q = (rowsT (R.take k)).length) ∧ Hid (AppT w3 A wr Aw (n + 1 + q) cw (xs ++ [nb 91] ++ (rowsT (R.take k)).map nb))) (fun _ i _ => R.length - (intOf i).toNat)
  case atStart => exact ⟨0, 0, _, _, Nat.zero_le _, rfl, rfl, Lib.hid (by simp [rowsT]), Lib.hid (by simpa [rowsT] using HT4.out)⟩
  case round =>
    clear HT4
    obtain ⟨k, q, Aw, cw, hk, rfl, rfl, hq, hT⟩ := hrel
    have hqb : q ≤ 2400 := by
      rw [hq.out]
      have h1 := rowsT_append (R.take k) (R.drop k)
      rw [List.take_append_drop] at h1
      have h2 := congrArg List.length h1
      rw [List.length_append] at h2
      have := Hfin.out
      omega
    by_cases hlt : k < R.length
    · have hki : (k : Int) < (R.length : Int) := by omega
      obtain ⟨g, o, rfl, x0, x1⟩ := cellR_of (Hrd.out.only hT.out.only Hsep.out) Hflat.out hlt
      obtain ⟨v1, hv1⟩ : ∃ v, R[k].1 = v := ⟨_, rfl⟩
      obtain ⟨v2, hv2⟩ : ∃ v, R[k].2 = v := ⟨_, rfl⟩
      have hvlt := HRlt.out _ (List.getElem_mem hlt)
      have hvle := HRle.out _ (List.getElem_mem hlt)
      have hstep := rowsT_take R k hlt
      have hrow : rowT R[k] = signB v1 ++ (if v1 < v2 then 45 :: signB v2 else []) := by rw [← hv1, ← hv2]; rfl
      rw [hv1, hv2] at hvlt hvle
      rw [hv1] at x0
      rw [hv2] at x1
      rw [hrow] at hstep
      have Hstep := Lib.hid hstep
      have hvl1 := hvlt.1
      have hvl2 := hvlt.2
      have hsl1 := signB_len v1
      have hsl2 := signB_len v2
      obtain ⟨q1, hq1⟩ : ∃ q, (signB v1).length = q := ⟨_, rfl⟩
      obtain ⟨q2, hq2⟩ : ∃ q, (signB v2).length = q := ⟨_, rfl⟩
      rw [hq1] at hsl1
      rw [hq2] at hsl2
      have Hq1 := Lib.hid hq1
      have Hq2 := Lib.hid hq2
      clear hrow hstep hvlt hq1 hq2 hv1 hv2
      go_wp2_with fail
      refine (abyte_any v1 hvl1 Aw (n + 1 + q) cw _ _ (hT.out.row.ext (by repeat (first | exact Below.refl _ _ | apply ext_alloc))) (by omega)).mono ?_
      rintro e w5 ⟨A5, c5, rfl, hT5⟩
      have hB5 := (Blk.new wr 127 #[.int .u8 (v1 : Int), .int .u8 (v2 : Int)]).only hT5.only (fun hk => Nat.lt_irrefl _ (hT.out.row.lt hk))
      have T5 := (hT.out.ext ((Below.refl _ _).alloc (Nat.le_refl _) _)).trans hT5
      rw [Hq1.out] at T5 ⊢
      have y0 := hB5.cell 0
      have y1 := hB5.cell 1
      have HT5 := Lib.hid T5
      have HB5 := Lib.hid hB5
      clear hT5 hB5 T5
      rcases Nat.lt_or_ge v1 v2 with hvv | hvv
      · have hne : ((v1 : Int) != (v2 : Int)) = true := by rw [bne_iff_ne]; omega
        rw [if_pos hvv] at Hstep
        clear hvv
        have T5 := HT5.out
        go_wp2_with (refine wpList_appO _ rfl (.tmp 43) (.tmp 44) _ rfl _ _ 1 1 Tryd.underlying94 info_u8 rfl A5 (n + 1 + q + q1) c5 _ rfl (T5.row.ext (by repeat (first | exact Below.refl _ _ | apply ext_alloc))) (some ⟨_, 0, none⟩) 1 1 [nb 45] rfl rfl (Rd.lit_at _ _ _ (by first | rfl | simp)) (by intro u hu; simp at hu; subst hu; rfl) (by intro h; cases h) (by unfold maxLen; omega) (by omega) ?_; intro A6 c6 w6 hr6 ho6 hA6; have T6 := T5.step (by repeat (first | exact Below.refl _ _ | apply ext_alloc)) hr6 ho6 hA6; have hB6 := (HB5.out.ext (by repeat (first | exact Below.refl _ _ | apply ext_alloc))).only ho6 (fun hk => (T5.row.ne_blk HB5.out (by decide)) hk); have z1 := hB6.cell 1; clear y0 y1; clear hr6 ho6 hA6)
        clear hB6
        refine (abyte_any v2 hvl2 A6 (n + 1 + q + q1 + 1) c6 _ _ T6.row (by omega)).mono ?_
        rintro e w7 ⟨A7, c7, rfl, hT7⟩
        have T7 := T6.trans hT7
        rw [Hq2.out] at T7 ⊢
        have HT7 := Lib.hid T7
        clear hT7 T7 T6 T5 z1
        go_wp2
        go_roundw
        case rel => exact ⟨k + 1, q + q1 + 1 + q2, _, _, by omega, by go_num, by congr 1; omega, Lib.hid (by rw [Hstep.out]; simp only [List.length_append, List.length_cons, Hq1.out, Hq2.out, ← hq.out]; omega), Lib.hid (by rw [Hstep.out]; exact HT7.out.cast (by omega) (by simp))⟩
        case measure => simp [intOf]; omega
      · have hee : v1 = v2 := by omega
        subst hee
        rw [if_neg (Nat.lt_irrefl _)] at Hstep
        clear hvv hvle
        go_wp2
        go_roundw
        case rel => exact ⟨k + 1, q + q1, _, _, by omega, by go_num, by congr 1; omega, Lib.hid (by rw [Hstep.out]; simp only [List.length_append, Hq1.out, ← hq.out, List.append_nil]), Lib.hid (by rw [Hstep.out]; exact HT5.out.cast (by omega) (by simp))⟩
        case measure => simp [intOf]; omega
    · obtain rfl : k = R.length := by omega
      rw [List.take_length] at hT hq
      have T6 := hT.out
      go_wp2_with (refine wpList_appO _ rfl (.tmp 51) (.tmp 52) _ rfl _ _ 1 1 Tryd.underlying94 info_u8 rfl Aw (n + 1 + q) cw _ rfl (T6.row.ext (by repeat (first | exact Below.refl _ _ | apply ext_alloc))) (some ⟨_, 0, none⟩) 1 1 [nb 93] rfl rfl (Rd.lit_at _ _ _ (by first | rfl | simp)) (by intro u hu; simp at hu; subst hu; rfl) (by intro h; cases h) (by unfold maxLen; omega) (by omega) ?_; intro A7 c7 w7 hr7 ho7 hA7; have T7 := T6.step (by repeat (first | exact Below.refl _ _ | apply ext_alloc)) hr7 ho7 hA7; clear hr7 ho7 hA7)
      go_ret
      exact Appd.mk_ (AppT.from_ Hb03.out T7 Hlt.out) (by simp [hq.out]; omega) (by simp)
end Go.Proofs.YtgknlegomoaoeaaDoor

/-
  Contracts of the program's appendKid, appendRe. No statement of the seat is proved here.
-/
namespace Go.Proofs.YtgknlegomoaoeaaDoor
open Go Go.RowKit
set_option maxRecDepth 100000

set_option maxHeartbeats 1000000 in
theorem akid_of (T : List Nat) (k' : Int) (q0 q1 q2 q3 : Nat) (A' : Option Addr) (ks' : List Ex) (c' : Nat) (lo' hi' : Int) (gb : Bool) (w : World) (A : Option Addr) (n c : Nat) (xs : List Value)
    (h : RowO w 5 1 A n c xs) (hn : n + T.length ≤ 10000000000)
    (hre : ∀ (W : World) (A1 : Option Addr) (n1 c1 : Nat) (zs : List Value), AppT w A W A1 n1 c1 zs → n1 ≤ n + 1 → Calls Tryd.prog 78 #[.slice A1 n1 c1, .agg #[.int .i64 k', .int .u64 (q0 : Int), .int .u64 (q1 : Int), .int .u64 (q2 : Int), .int .u64 (q3 : Int), .slice A' ks'.length c', .int .i64 lo', .int .i64 hi']] W (Appd W A1 n1 zs T)) :
    Calls Tryd.prog 95 #[.slice A n c, .agg #[.int .i64 k', .int .u64 (q0 : Int), .int .u64 (q1 : Int), .int .u64 (q2 : Int), .int .u64 (q3 : Int), .slice A' ks'.length c', .int .i64 lo', .int .i64 hi'], .bool gb] w (Appd w A n xs (if gb = true then 40 :: (T ++ [41]) else T)) := by
  have hB := Blk.new w 27 #[.int .i64 k', .int .u64 (q0 : Int), .int .u64 (q1 : Int), .int .u64 (q2 : Int), .int .u64 (q3 : Int), .slice A' ks'.length c', .int .i64 lo', .int .i64 hi']
  have T0 := AppT.refl h
  have hlt : ∀ k, inA A k → k < w.heap.size := fun k hk => h.lt hk
  have Hlt := Lib.hid hlt
  have HB := Lib.hid hB
  have Hre := Lib.hid hre
  clear hre hB h hlt
  cases gb with
  | false =>
    rw [if_neg (by simp)]
    have y0 := HB.out.cell 0
    have y1 := HB.out.cell 1
    have y2 := HB.out.cell 2
    have y3 := HB.out.cell 3
    have y4 := HB.out.cell 4
    have y5 := HB.out.cell 5
    have y6 := HB.out.cell 6
    have y7 := HB.out.cell 7
    go_enter Tryd.func95, Tryd.ntmps95
    go_wp2_with fail
    refine (Hre.out _ A n c xs (T0.ext ((Below.refl _ _).alloc (Nat.le_refl _) _)) (by omega)).mono ?_
    rintro e w2 ⟨A2, c2, rfl, hT2⟩
    have T2 := (T0.ext ((Below.refl _ _).alloc (Nat.le_refl _) _)).trans hT2
    clear hT2
    go_wp2
    go_ret
    exact ⟨A2, c2, rfl, T2⟩
  | true =>
    rw [if_pos rfl]
    obtain ⟨q, hq⟩ : ∃ q, T.length = q := ⟨_, rfl⟩
    rw [hq] at hn
    have Hq := Lib.hid hq
    clear hq
    go_enter Tryd.func95, Tryd.ntmps95
    go_wp2_with (refine wpList_appO _ rfl (.tmp 12) (.tmp 13) _ rfl _ _ 1 1 Tryd.underlying94 info_u8 rfl A n c xs rfl (T0.row.ext (by repeat (first | exact Below.refl _ _ | apply ext_alloc))) (some ⟨_, 0, none⟩) 1 1 [nb 40] rfl rfl (Rd.lit_at _ _ _ (by first | rfl | simp)) (by intro u hu; simp at hu; subst hu; rfl) (by intro h; cases h) (by unfold maxLen; omega) (by omega) ?_; intro A1 c1 w1 hr1 ho1 hA1; have T1 := T0.step (by repeat (first | exact Below.refl _ _ | apply ext_alloc)) hr1 ho1 hA1; have HB1 := (HB.out.ext (by repeat (first | exact Below.refl _ _ | apply ext_alloc))).only ho1 (fun hk => absurd (Hlt.out _ hk) (Nat.lt_irrefl _)); have y0 := HB1.cell 0; have y1 := HB1.cell 1; have y2 := HB1.cell 2; have y3 := HB1.cell 3; have y4 := HB1.cell 4; have y5 := HB1.cell 5; have y6 := HB1.cell 6; have y7 := HB1.cell 7; clear hr1 ho1 hA1)
    refine (Hre.out _ A1 (n + 1) c1 _ T1 (by omega)).mono ?_
    rintro e w2 ⟨A2, c2, rfl, hT2⟩
    have T2 := T1.trans hT2
    rw [Hq.out] at T2 ⊢
    clear hT2
    go_wp2_with (refine wpList_appO _ rfl (.tmp 18) (.tmp 19) _ rfl _ _ 1 1 Tryd.underlying94 info_u8 rfl A2 (n + 1 + q) c2 _ rfl (T2.row.ext (by repeat (first | exact Below.refl _ _ | apply ext_alloc))) (some ⟨_, 0, none⟩) 1 1 [nb 41] rfl rfl (Rd.lit_at _ _ _ (by first | rfl | simp)) (by intro u hu; simp at hu; subst hu; rfl) (by intro h; cases h) (by unfold maxLen; omega) (by omega) ?_; intro A3 c3 w3 hr3 ho3 hA3; have T3 := T2.step (by repeat (first | exact Below.refl _ _ | apply ext_alloc)) hr3 ho3 hA3; clear hr3 ho3 hA3)
    go_ret
    exact Appd.mk_ T3 (by simp [Hq.out]; omega) (by simp)

theorem akid_U (U T : List Nat) (k' : Int) (q0 q1 q2 q3 : Nat) (A' : Option Addr) (ks' : List Ex) (c' : Nat) (lo' hi' : Int) (gb : Bool) (w : World) (A : Option Addr) (n c : Nat) (xs : List Value)
    (hU : (if gb = true then 40 :: (T ++ [41]) else T) = U) (h : RowO w 5 1 A n c xs) (hn : n + T.length ≤ 10000000000)
    (hre : ∀ (W : World) (A1 : Option Addr) (n1 c1 : Nat) (zs : List Value), AppT w A W A1 n1 c1 zs → n1 ≤ n + 1 → Calls Tryd.prog 78 #[.slice A1 n1 c1, .agg #[.int .i64 k', .int .u64 (q0 : Int), .int .u64 (q1 : Int), .int .u64 (q2 : Int), .int .u64 (q3 : Int), .slice A' ks'.length c', .int .i64 lo', .int .i64 hi']] W (Appd W A1 n1 zs T)) :
    Calls Tryd.prog 95 #[.slice A n c, .agg #[.int .i64 k', .int .u64 (q0 : Int), .int .u64 (q1 : Int), .int .u64 (q2 : Int), .int .u64 (q3 : Int), .slice A' ks'.length c', .int .i64 lo', .int .i64 hi'], .bool gb] w (Appd w A n xs U) := by
  rw [← hU]
  exact akid_of T k' q0 q1 q2 q3 A' ks' c' lo' hi' gb w A n c xs h hn hre

/-- what is asked of an expression of which appendRe is known -/
def Appends (S : Nat → Prop) (w0 : World) (t : Ex) : Prop := ∀ (cs : List Value) (w : World) (A : Option Addr) (n c : Nat) (xs : List Value) (deep : Nat), ReR S w t cs → NewO w0 w 5 1 A n c xs → oneE deep t = true → n + 2420 * nodesE t ≤ 5000000000 →
    Calls Tryd.prog 78 #[.slice A n c, reV cs] w (Appd w A n xs (textE t))

set_option maxHeartbeats 8000000 in
theorem are_any (S : Nat → Prop) (w0 : World) (ht : Tab w0) (hS : ∀ b, S b → b < w0.heap.size) (t : Ex) : Appends S w0 t := by
  refine ex_induct (p := Appends S w0) (fun k s ks lo hi ih cs w A n c xs deep h hN hone hn => ?_) t
  rw [reR_iff] at h
  obtain ⟨⟨hk, hs, hlo, hhi⟩, B, d, rfl, h1, h2, h3⟩ := h
  obtain ⟨o1, o2, o3⟩ := one_kids hone
  have hlen := textE_len (.mk k s ks lo hi)
  have hno : nodesE (.mk k s ks lo hi) = 1 + nodesL ks := by simp [nodesE]
  rw [hno] at hn hlen
  have hln := length_nodesL ks
  have hli : (ks.length : Int) ≤ 5000000 := by omega
  unfold maxLen at h2
  have hT : textE (.mk k s ks lo hi) = if k = 1 then setT s else if k = 4 then textR lo hi ks else textL k true ks := by simp [textE]
  rw [hT] at hlen ⊢
  have hsep : ∀ b, S b → ¬ inA A b := fun b hb hk => by have := hS b hb; have := hN.2.2 b hk; omega
  have hrow := hN.row
  have HSet := Lib.hid fun (A1 : Option Addr) (n1 c1 : Nat) (zs : List Value) (W : World) (hW : NewO w0 W 5 1 A1 n1 c1 zs) (hb : n1 ≤ 10000000000) => aset_any s hs w0 ht A1 n1 c1 zs W hW hb
  have hkid : ∀ j (hj : j < ks.length), ∀ (wr : World) (Aw : Option Addr) (m cw : Nat) (ys : List Value) (cs : List Value), AppT w A wr Aw m cw ys → ReR S wr ks[j] cs →
      ∀ (W : World) (A1 : Option Addr) (n1 c1 : Nat) (zs : List Value), AppT w A W A1 n1 c1 zs → n1 + 2420 * nodesE ks[j] ≤ 5000000000 → Calls Tryd.prog 78 #[.slice A1 n1 c1, reV cs] W (Appd W A1 n1 zs (textE ks[j])) := fun j hj wr Aw m cw ys cs hT hr W A1 n1 c1 zs hT2 hb => by
    have hNr := AppT.new_ hN hT
    have hNW := AppT.new_ hN hT2
    exact ih _ (List.getElem_mem hj) cs W A1 n1 c1 zs (deep + 1) (ReR.keep (fun b hb _ => (hNW.bel.block b (hS b hb)).trans (hNr.bel.block b (hS b hb)).symm) (fun _ h _ => h) _ hr) hNW (o1 _ (List.getElem_mem hj)) hb
  have Hkid := Lib.hid hkid
  have Hsep := Lib.hid hsep
  have H3 := Lib.hid h3
  have HN := Lib.hid hN
  obtain ⟨p0, p1, p2, p3, rfl⟩ := four_words hs
  have hB := Blk.new w 27 #[.int .i64 k, .int .u64 (p0 : Int), .int .u64 (p1 : Int), .int .u64 (p2 : Int), .int .u64 (p3 : Int), .slice B ks.length d, .int .i64 lo, .int .i64 hi]
  have T0 := (AppT.refl hrow).ext ((Below.refl _ _).alloc (Nat.le_refl _) (Obj.cells #[.int .i64 k, .int .u64 (p0 : Int), .int .u64 (p1 : Int), .int .u64 (p2 : Int), .int .u64 (p3 : Int), .slice B ks.length d, .int .i64 lo, .int .i64 hi] 27))
  have HlA := Lib.hid fun k hk => hrow.lt (k := k) hk
  have Hone := Lib.hid hone
  have O2 := Lib.hid o2
  have O3 := Lib.hid o3
  obtain ⟨w1, hw1⟩ : ∃ w1, w1 = w.alloc (Obj.cells #[.int .i64 k, .int .u64 (p0 : Int), .int .u64 (p1 : Int), .int .u64 (p2 : Int), .int .u64 (p3 : Int), .slice B ks.length d, .int .i64 lo, .int .i64 hi] 27) := ⟨_, rfl⟩
  rw [← hw1] at hB T0
  have HB := Lib.hid hB
  have HT0 := Lib.hid T0
  have Hw1 := Lib.hid hw1
  clear ih h3 hno hone o1 o2 o3 hkid hsep hN hB T0 hrow hT hlo hhi hs ht hk hw1
  have y0 := HB.out.cell 0
  have y1 := HB.out.cell 1
  have y2 := HB.out.cell 2
  have y3 := HB.out.cell 3
  have y4 := HB.out.cell 4
  have y5 := HB.out.cell 5
  have y6 := HB.out.cell 6
  have y7 := HB.out.cell 7
  show Calls Tryd.prog 78 #[.slice A n c, .agg #[.int .i64 k, .int .u64 (p0 : Int), .int .u64 (p1 : Int), .int .u64 (p2 : Int), .int .u64 (p3 : Int), .slice B ks.length d, .int .i64 lo, .int .i64 hi]] w _
  rcases (show k = 0 ∨ k = 1 ∨ k = 2 ∨ k = 3 ∨ k = 4 from O3.out) with rfl | rfl | rfl | rfl | rfl
  · have hks : ks = [] := by have := Hone.out; simp [oneE] at this; exact this.2
    subst hks
    rw [if_neg (by omega), if_neg (by omega)] at hlen ⊢
    rw [Hw1.out] at HT0 HB
    clear y0 y1 y2 y3 y4 y5 y6 y7
    go_enter Tryd.func78, Tryd.ntmps78
    go_wp2
    go_ret
    exact Appd.mk_ HT0.out rfl (by simp [textL])
  · rw [if_pos rfl] at hlen ⊢
    rw [Hw1.out] at y0 y1 y2 y3 y4 HT0
    go_enter Tryd.func78, Tryd.ntmps78
    go_wp2_with fail
    refine (HSet.out A n c xs _ (AppT.new_ HN.out HT0.out) (by omega)).mono ?_
    rintro e w2 ⟨A2, c2, rfl, hT2⟩
    have T2 := HT0.out.trans hT2
    clear hT2 y0 y1 y2 y3 y4
    go_wp2
    go_ret
    exact ⟨A2, c2, rfl, T2⟩
  · rw [if_neg (by omega), if_neg (by omega)] at hlen ⊢
    have hnl : ∀ j, (textL 2 true (ks.take j)).length ≤ 2420 * nodesL (ks.take j) := fun j => textL_len 2 _ true (fun x _ => textE_len x)
    have Hnl := Lib.hid hnl
    rw [Hw1.out] at y0 y5
    clear hnl y1 y2 y3 y4 y6 y7
    go_enter Tryd.func78, Tryd.ntmps78
    go_wp2
    rw [← Hw1.out]
    rw [← Hw1.out] at y0 y5
    go_loopw [0, 23] (fun bv i wr => ∃ (j q : Nat) (Aw : Option Addr) (cw : Nat), j ≤ ks.length ∧ i = .int .i64 (j : Int) ∧ bv = .slice Aw (n + q) cw ∧ Hid (q = (textL 2 true (ks.take j)).length) ∧ Hid (AppT w A wr Aw (n + q) cw (xs ++ (textL 2 true (ks.take j)).map nb))) (fun _ i _ => ks.length - (intOf i).toNat)
    case atStart => exact ⟨0, 0, A, c, Nat.zero_le _, rfl, rfl, Lib.hid (by simp [textL]), Lib.hid (by simpa [textL] using HT0.out)⟩
    case round =>
      clear y0 y5
      obtain ⟨j, q, Aw, cw, hj, rfl, rfl, hq, hT⟩ := hrel
      have hqb : q ≤ 2420 * nodesL (ks.take j) := by rw [hq.out]; exact Hnl.out j
      by_cases hlt : j < ks.length
      · have hji : (j : Int) < (ks.length : Int) := by omega
        have hsum := nodesL_take ks j hlt
        have hle := nodesL_take_le ks (j + 1)
        have hqt := nodesL_take_le ks j
        have hkl := textE_len ks[j]
        have hstep := textL_take 2 ks j hlt
        have hKw := H3.out.only (hT.out.only) (fun b hb => Hsep.out b hb)
        obtain ⟨g', o, k', q0, q1, q2, q3, ks', A', c', lo', hi', rfl, hx, hr, x0, x1, x2, x3, x4, x5, x6, x7, hsg⟩ := hKw.kidX hlt
        have hxk : ks[j].kind = k' := by rw [hx]; rfl
        rw [hxk] at hstep
        have hcall := Hkid.out j hlt wr Aw (n + q) cw _ _ hT.out hr
        have Hcall := Lib.hid hcall
        have Hstep := Lib.hid hstep
        clear hcall hstep hr hKw hx hxk
        obtain ⟨gb, hgb⟩ : ∃ gb, inB 2 k' = gb := ⟨_, rfl⟩
        have Hgb := Lib.hid hgb
        clear hgb
        obtain ⟨U, hU⟩ : ∃ U, (if gb = true then 40 :: (textE ks[j] ++ [41]) else textE ks[j]) = U := ⟨_, rfl⟩
        have HU := Lib.hid hU
        have hUl : U.length ≤ (textE ks[j]).length + 2 := by rw [← hU]; split <;> simp
        have hstep := Hstep.out
        rw [Hgb.out, hU] at hstep
        clear Hstep hU
        have Hstep := Lib.hid hstep
        clear hstep
        rcases (show k' = 2 ∨ k' = 3 ∨ k' = 0 ∨ (k' ≠ 2 ∧ k' ≠ 3 ∧ k' ≠ 0) by omega) with hk' | hk' | hk' | ⟨hk2, hk3, hk0⟩
        case inr.inr.inr =>
          have e2 : (k' == 2) = false := by simpa using hk2
          have e3 : (k' == 3) = false := by simpa using hk3
          have e0 : (k' == 0) = false := by simpa using hk0
          obtain rfl : gb = false := by rw [← Hgb.out]; simp [inB, hk2, hk3, hk0]
          clear hk2 hk3 hk0
          go_wp2_with fail
          refine (akid_U U (textE ks[j]) _ q0 q1 q2 q3 A' ks' c' lo' hi' false _ Aw (n + q) cw _ HU.out (hT.out.row.ext (by repeat (first | exact Below.refl _ _ | apply ext_alloc))) (by omega) (fun W A1 n1 c1 zs hT2 hn1 => Hcall.out W A1 n1 c1 zs ((hT.out.ext (by repeat (first | exact Below.refl _ _ | apply ext_alloc))).trans hT2) (by omega))).mono ?_
          rintro e w5 ⟨A5, c5, rfl, hT5⟩
          have T5 := (hT.out.ext ((Below.refl _ _).alloc (Nat.le_refl _) _)).trans hT5
          have HT5 := Lib.hid T5
          clear hT5 T5
          go_wp2
          go_roundw
          case rel => exact ⟨j + 1, q + U.length, _, _, by omega, by go_num, by congr 1; omega, Lib.hid (by rw [Hstep.out]; simp [← hq.out]), Lib.hid (by rw [Hstep.out]; exact HT5.out.cast (by omega) (by simp))⟩
          case measure => simp [intOf]; omega
        all_goals
          subst hk'
          obtain rfl : gb = true := by rw [← Hgb.out]; simp [inB]
          go_wp2_with fail
          refine (akid_U U (textE ks[j]) _ q0 q1 q2 q3 A' ks' c' lo' hi' true _ Aw (n + q) cw _ HU.out (hT.out.row.ext (by repeat (first | exact Below.refl _ _ | apply ext_alloc))) (by omega) (fun W A1 n1 c1 zs hT2 hn1 => Hcall.out W A1 n1 c1 zs ((hT.out.ext (by repeat (first | exact Below.refl _ _ | apply ext_alloc))).trans hT2) (by omega))).mono ?_
          rintro e w5 ⟨A5, c5, rfl, hT5⟩
          have T5 := (hT.out.ext ((Below.refl _ _).alloc (Nat.le_refl _) _)).trans hT5
          have HT5 := Lib.hid T5
          clear hT5 T5
          go_wp2
          go_roundw
          case rel => exact ⟨j + 1, q + U.length, _, _, by omega, by go_num, by congr 1; omega, Lib.hid (by rw [Hstep.out]; simp [← hq.out]), Lib.hid (by rw [Hstep.out]; exact HT5.out.cast (by omega) (by simp))⟩
          case measure => simp [intOf]; omega

      · obtain rfl : j = ks.length := by omega
        rw [List.take_length] at hT hq
        go_wp2
        go_ret
        exact Appd.mk_ hT.out (by rw [hq.out]) rfl
  · rw [if_neg (by omega), if_neg (by omega)] at hlen ⊢
    have hnl : ∀ j, (textL 3 true (ks.take j)).length ≤ 2420 * nodesL (ks.take j) := fun j => textL_len 3 _ true (fun x _ => textE_len x)
    have Hnl := Lib.hid hnl
    rw [Hw1.out] at y0 y5
    clear hnl y1 y2 y3 y4 y6 y7
    go_enter Tryd.func78, Tryd.ntmps78
    go_wp2
    rw [← Hw1.out]
    rw [← Hw1.out] at y0 y5
    go_loopw [0, 49] (fun bv i wr => ∃ (j q : Nat) (Aw : Option Addr) (cw : Nat), j ≤ ks.length ∧ i = .int .i64 (j : Int) ∧ bv = .slice Aw (n + q) cw ∧ Hid (q = (textL 3 true (ks.take j)).length) ∧ Hid (AppT w A wr Aw (n + q) cw (xs ++ (textL 3 true (ks.take j)).map nb))) (fun _ i _ => ks.length - (intOf i).toNat)
    case atStart => exact ⟨0, 0, A, c, Nat.zero_le _, rfl, rfl, Lib.hid (by simp [textL]), Lib.hid (by simpa [textL] using HT0.out)⟩
    case round =>
      clear y0 y5
      obtain ⟨j, q, Aw, cw, hj, rfl, rfl, hq, hT⟩ := hrel
      have hqb : q ≤ 2420 * nodesL (ks.take j) := by rw [hq.out]; exact Hnl.out j
      by_cases hlt : j < ks.length
      · have hji : (j : Int) < (ks.length : Int) := by omega
        have hsum := nodesL_take ks j hlt
        have hle := nodesL_take_le ks (j + 1)
        have hqt := nodesL_take_le ks j
        have hkl := textE_len ks[j]
        have hstep := textL_take 3 ks j hlt
        have hKw := H3.out.only (hT.out.only) (fun b hb => Hsep.out b hb)
        obtain ⟨g', o, k', q0, q1, q2, q3, ks', A', c', lo', hi', rfl, hx, hr, x0, x1, x2, x3, x4, x5, x6, x7, hsg⟩ := hKw.kidX hlt
        have hxk : ks[j].kind = k' := by rw [hx]; rfl
        rw [hxk] at hstep
        have hcall := Hkid.out j hlt wr Aw (n + q) cw _ _ hT.out hr
        have Hcall := Lib.hid hcall
        have Hstep := Lib.hid hstep
        clear hcall hstep hr hKw hx hxk
        obtain ⟨gb, hgb⟩ : ∃ gb, inB 3 k' = gb := ⟨_, rfl⟩
        have Hgb := Lib.hid hgb
        have hgv : (k' == 3) = gb := by rw [← hgb, Bool.eq_iff_iff]; simp [inB]
        clear hgb
        obtain ⟨U, hU⟩ : ∃ U, (if gb = true then 40 :: (textE ks[j] ++ [41]) else textE ks[j]) = U := ⟨_, rfl⟩
        have HU := Lib.hid hU
        have hUl : U.length ≤ (textE ks[j]).length + 2 := by rw [← hU]; split <;> simp
        have hstep := Hstep.out
        rw [Hgb.out, hU] at hstep
        clear Hstep hU
        have Hstep := Lib.hid hstep
        clear hstep
        rcases Nat.eq_zero_or_pos j with hj0 | hj0
        · have hjd : decide ((0 : Int) < (j : Int)) = false := by simp; omega
          have hjd2 : (j : Int) ≤ 0 := by omega
          have hst := Hstep.out
          rw [if_neg (by omega)] at hst
          have Hj0 := Lib.hid hj0
          clear hj0
          go_wp2_with fail
          refine (akid_U U (textE ks[j]) _ q0 q1 q2 q3 A' ks' c' lo' hi' gb _ Aw (n + q) cw _ HU.out (hT.out.row.ext (by repeat (first | exact Below.refl _ _ | apply ext_alloc))) (by omega) (fun W A1 n1 c1 zs hT2 hn1 => Hcall.out W A1 n1 c1 zs ((hT.out.ext (by repeat (first | exact Below.refl _ _ | apply ext_alloc))).trans hT2) (by omega))).mono ?_
          rintro e w5 ⟨A5, c5, rfl, hT5⟩
          have T5 := (hT.out.ext ((Below.refl _ _).alloc (Nat.le_refl _) _)).trans hT5
          have HT5 := Lib.hid T5
          have Hst := Lib.hid hst
          clear hT5 T5 hst
          go_wp2
          go_roundw
          case rel => exact ⟨j + 1, q + U.length, _, _, by omega, by go_num, by congr 1; omega, Lib.hid (by rw [Hst.out]; simp [← hq.out]), Lib.hid (by rw [Hst.out]; exact HT5.out.cast (by omega) (by simp))⟩
          case measure => simp [intOf]; omega
        · have hjd2 : (0 : Int) < (j : Int) := by omega
          have hst := Hstep.out
          rw [if_pos ⟨rfl, hj0⟩] at hst
          have Hst := Lib.hid hst
          have TT := hT.out
          have HK := Lib.hid (Blk.new wr 27 #[.int .i64 k', .int .u64 (q0 : Int), .int .u64 (q1 : Int), .int .u64 (q2 : Int), .int .u64 (q3 : Int), .slice A' ks'.length c', .int .i64 lo', .int .i64 hi'])
          clear hst
          go_wp2_with (refine wpList_appO _ rfl (.tmp 56) (.tmp 57) _ rfl _ _ 1 1 Tryd.underlying94 info_u8 rfl Aw (n + q) cw _ rfl (TT.row.ext (by repeat (first | exact Below.refl _ _ | apply ext_alloc))) (some ⟨_, 0, none⟩) 1 1 [nb 124] rfl rfl (Rd.lit_at _ _ _ (by first | rfl | simp)) (by intro u hu; simp at hu; subst hu; rfl) (by intro h; cases h) (by unfold maxLen; omega) (by omega) ?_; intro A4 c4 w4 hr4 ho4 hA4; have T4 := TT.step (by repeat (first | exact Below.refl _ _ | apply ext_alloc)) hr4 ho4 hA4; have HK4 := (HK.out.ext (by repeat (first | exact Below.refl _ _ | apply ext_alloc))).only ho4 (fun hk => absurd (hT.out.row.lt hk) (Nat.lt_irrefl _)); have z0 := HK4.cell 0; have z1 := HK4.cell 1; have z2 := HK4.cell 2; have z3 := HK4.cell 3; have z4 := HK4.cell 4; have z5 := HK4.cell 5; have z6 := HK4.cell 6; have z7 := HK4.cell 7; clear HK4; clear hr4 ho4 hA4)
          refine (akid_U U (textE ks[j]) _ q0 q1 q2 q3 A' ks' c' lo' hi' gb _ A4 (n + q + 1) c4 _ HU.out T4.row (by omega) (fun W A1 n1 c1 zs hT2 hn1 => Hcall.out W A1 n1 c1 zs (T4.trans hT2) (by omega))).mono ?_
          rintro e w5 ⟨A5, c5, rfl, hT5⟩
          have T5 := T4.trans hT5
          have HT5 := Lib.hid T5
          clear hT5 T5 T4 z0 z1 z2 z3 z4 z5 z6 z7
          go_wp2
          go_roundw
          case rel => exact ⟨j + 1, q + 1 + U.length, _, _, by omega, by go_num, by congr 1; omega, Lib.hid (by rw [Hst.out]; simp [← hq.out]; omega), Lib.hid (by rw [Hst.out]; exact HT5.out.cast (by omega) (by simp))⟩
          case measure => simp [intOf]; omega

      · obtain rfl : j = ks.length := by omega
        rw [List.take_length] at hT hq
        go_wp2
        go_ret
        exact Appd.mk_ hT.out (by rw [hq.out]) rfl
  · rw [if_neg (by omega), if_pos rfl] at hlen ⊢
    obtain ⟨hl1, hrep⟩ := O2.out rfl
    obtain ⟨x, rfl⟩ := List.length_eq_one_iff.1 hl1
    obtain ⟨g', o, k', q0, q1, q2, q3, ks', A', c', lo', hi', rfl, hx, hr, x0, x1, x2, x3, x4, x5, x6, x7, hsg⟩ := (H3.out.only HT0.out.only (fun b hb => Hsep.out b hb)).kidX (k := 0) (by simp)
    rw [Nat.zero_mul, Nat.add_zero] at x0 x1 x2 x3 x4 x5 x6 x7
    simp only [List.getElem_cons_zero] at hx hr
    have hxk : x.kind = k' := by rw [hx]; rfl
    have hRr : textR lo hi [x] = (if k' = 1 then textE x else 40 :: (textE x ++ [41])) ++ timesT lo hi := by simp [textR, hxk]
    have hkl := textE_len x
    have hkn : nodesL [x] = nodesE x := by simp [nodesL]
    rw [hkn] at hn
    have hcall := Hkid.out 0 (by simp) w1 A n c _ _ HT0.out hr
    simp only [List.getElem_cons_zero] at hcall
    have Hcall := Lib.hid hcall
    have htl := timesT_len lo hi
    obtain ⟨gb, hgb⟩ : ∃ gb, (k' != 1) = gb := ⟨_, rfl⟩
    have hTx : (if k' = 1 then textE x else 40 :: (textE x ++ [41])) = (if gb = true then 40 :: (textE x ++ [41]) else textE x) := by
      rw [← hgb]
      by_cases h : k' = 1 <;> simp [h]
    rw [hRr, hTx]
    obtain ⟨U, hU⟩ : ∃ U, (if gb = true then 40 :: (textE x ++ [41]) else textE x) = U := ⟨_, rfl⟩
    rw [hU]
    have hUl : U.length ≤ (textE x).length + 2 := by rw [← hU]; split <;> simp
    have HU := Lib.hid hU
    have HB1 := Lib.hid (HB.out.alloc (Obj.cells #[.int .i64 k', .int .u64 (q0 : Int), .int .u64 (q1 : Int), .int .u64 (q2 : Int), .int .u64 (q3 : Int), .slice A' ks'.length c', .int .i64 lo', .int .i64 hi'] 27))
    have HB2 := Lib.hid (Blk.new w1 27 #[.int .i64 k', .int .u64 (q0 : Int), .int .u64 (q1 : Int), .int .u64 (q2 : Int), .int .u64 (q3 : Int), .slice A' ks'.length c', .int .i64 lo', .int .i64 hi'])
    have hw1 : w1 = w.alloc (Obj.cells #[.int .i64 4, .int .u64 (p0 : Int), .int .u64 (p1 : Int), .int .u64 (p2 : Int), .int .u64 (p3 : Int), .slice (some ⟨g', o, none⟩) 1 d, .int .i64 lo, .int .i64 hi] 27) := Hw1.out
    have Hw2 := Lib.hid hw1
    rw [hw1] at y0 y5 x0 x1 x2 x3 x4 x5 x6 x7
    clear hw1
    show Calls Tryd.prog 78 #[.slice A n c, .agg #[.int .i64 4, .int .u64 (p0 : Int), .int .u64 (p1 : Int), .int .u64 (p2 : Int), .int .u64 (p3 : Int), .slice (some ⟨g', o, none⟩) 1 d, .int .i64 lo, .int .i64 hi]] w _
    clear hcall hr hx hxk hRr hTx hU hsg y1 y2 y3 y4 y6 y7
    go_enter Tryd.func78, Tryd.ntmps78
    go_wp2_with fail
    rw [← Hw2.out]
    refine (akid_U U (textE x) k' q0 q1 q2 q3 A' ks' c' lo' hi' gb _ A n c _ HU.out (HT0.out.row.ext (by repeat (first | exact Below.refl _ _ | apply ext_alloc))) (by omega) (fun W A1 n1 c1 zs hT2 hn1 => Hcall.out W A1 n1 c1 zs ((HT0.out.ext (by repeat (first | exact Below.refl _ _ | apply ext_alloc))).trans hT2) (by omega))).mono ?_
    rintro e w5 ⟨A5, c5, rfl, hT5⟩
    have HB5 := HB1.out.only hT5.only (fun hk => by have := HlA.out _ hk; have h9 := HB.out.lt; have := (Below.refl w.heap.size w).size; omega)
    have T5 := (HT0.out.ext ((Below.refl _ _).alloc (Nat.le_refl _) _)).trans hT5
    have d6 := HB5.cell 6
    have d7 := HB5.cell 7
    clear hT5 HB5 y0 y5 x0 x1 x2 x3 x4 x5 x6 x7
    obtain ⟨u, hu⟩ : ∃ u, U.length = u := ⟨_, rfl⟩
    rw [hu] at T5 hUl ⊢
    have Hu := Lib.hid hu
    clear hu
    go_wp2_with fail
    refine (atimes_any lo hi hrep A5 (n + u) _ _ w5 T5.row (by omega)).mono ?_
    rintro e w6 ⟨A6, c6, rfl, hT6⟩
    have T6 := T5.trans hT6
    clear hT6 d6 d7
    go_wp2
    go_ret
    exact Appd.mk_ T6 (by rw [List.length_append, Hu.out]; omega) (by simp)
end Go.Proofs.YtgknlegomoaoeaaDoor

/-
  Contracts of the program's textOf, Is, Print. No statement of the seat is proved here.
-/
namespace Go.Proofs.YtgknlegomoaoeaaDoor
open Go Go.RowKit
set_option maxRecDepth 100000

theorem printE_if (t : Ex) : printE t = if isE t then textE t else [] := rfl
theorem isE_one {t : Ex} (h : isE t = true) : oneE 1 t = true ∧ nodesE t ≤ 128 := by
  simp only [isE, Bool.and_eq_true, decide_eq_true_eq] at h
  exact ⟨h.1.1.1.1, h.1.1.1.2⟩

/-! ### all that is printed is bytes -/
theorem rowsT_lt {l : List (Nat × Nat)} (h : ∀ p ∈ l, p.1 < 256 ∧ p.2 < 256) : ∀ b ∈ rowsT l, b < 256 := by
  intro b hb
  obtain ⟨p, hp, hb⟩ := List.mem_flatMap.1 hb
  have hh := h p hp
  unfold rowT at hb
  rcases List.mem_append.1 hb with hb | hb
  · exact signB_lt hh.1 b hb
  · split at hb
    · rcases List.mem_cons.1 hb with rfl | hb
      · omega
      · exact signB_lt hh.2 b hb
    · cases hb
theorem setT_lt (s : List Nat) : ∀ b ∈ setT s, b < 256 := by
  intro b hb
  unfold setT at hb
  split at hb
  · rename_i h1
    obtain ⟨c, hc⟩ := List.length_eq_one_iff.1 h1
    rw [hc] at hb
    exact signB_lt (listB_lt (ws := s) (by rw [hc]; simp)) b hb
  · split at hb
    · simp at hb; omega
    · simp only [List.mem_cons, List.mem_append, List.not_mem_nil, or_false] at hb
      rcases hb with rfl | hb | rfl
      · omega
      · exact rowsT_lt (rowsB_lt (fun b hb => listB_lt hb)) b hb
      · omega
theorem timesT_lt {lo hi : Int} (h : repB lo hi = true) : ∀ b ∈ timesT lo hi, b < 256 := by
  rw [rep_iff] at h
  have h1 := twoB_lt (n := lo.toNat) (by omega)
  have h2 := twoB_lt (n := hi.toNat) (by omega)
  intro b hb
  unfold timesT at hb
  repeat' split at hb
  all_goals simp only [List.mem_cons, List.mem_append, List.not_mem_nil, or_false] at hb
  · omega
  · omega
  · omega
  · rcases hb with rfl | hb | rfl
    · omega
    · exact h1 b hb
    · omega
  · rcases hb with rfl | hb | rfl | rfl
    · omega
    · exact h1 b hb
    · omega
    · omega
  · rcases hb with rfl | hb | rfl | hb | rfl
    · omega
    · exact h1 b hb
    · omega
    · exact h2 b hb
    · omega
theorem textL_lt (k : Int) (l : List Ex) : ∀ f, (∀ x ∈ l, ∀ b ∈ textE x, b < 256) → ∀ b ∈ textL k f l, b < 256 := by
  induction l with
  | nil => intro f _ b hb; simp [textL] at hb
  | cons x r ih =>
    intro f h b hb
    simp only [textL, List.mem_append] at hb
    rcases hb with (hb | hb) | hb
    · split at hb
      · simp at hb; omega
      · cases hb
    · split at hb
      · simp only [List.mem_cons, List.mem_append, List.not_mem_nil, or_false] at hb
        rcases hb with rfl | hb | rfl
        · omega
        · exact h x (by simp) b hb
        · omega
      · exact h x (by simp) b hb
    · exact ih false (fun y hy => h y (by simp [hy])) b hb
theorem textE_lt {t : Ex} : ∀ {deep : Nat}, oneE deep t = true → ∀ b ∈ textE t, b < 256 := by
  refine ex_induct (p := fun t => ∀ {deep : Nat}, oneE deep t = true → ∀ b ∈ textE t, b < 256) (fun k s ks lo hi ih deep h b hb => ?_) t
  obtain ⟨o1, o2, o3⟩ := one_kids h
  have hx : ∀ x ∈ ks, ∀ b ∈ textE x, b < 256 := fun x hx => ih x hx (o1 x hx)
  simp only [textE] at hb
  split at hb
  · exact setT_lt s b hb
  · split at hb
    · rename_i h4
      obtain ⟨hl, hr⟩ := o2 h4
      obtain ⟨x, rfl⟩ := List.length_eq_one_iff.1 hl
      simp only [textR, List.mem_append] at hb
      rcases hb with hb | hb
      · split at hb
        · exact hx x (by simp) b hb
        · simp only [List.mem_cons, List.mem_append, List.not_mem_nil, or_false] at hb
          rcases hb with rfl | hb | rfl
          · omega
          · exact hx x (by simp) b hb
          · omega
      · exact timesT_lt hr b hb
    · exact textL_lt k ks true hx b hb

set_option maxHeartbeats 4000000 in
theorem textof_any (S : Nat → Prop) (t : Ex) (cs : List Value) (w : World) (ht : Tab w) (h : ReR S w t cs) :
    Calls Tryd.prog 60 #[reV cs] w fun e w' => e = .returned (.tuple #[.string (bsN (printE t)), .bool (isE t)]) ∧ Below w.heap.size w w' := by
  have hh : ReR (fun b => b < w.heap.size) w t cs := h.mono (fun _ _ h => h)
  obtain ⟨k, p0, p1, p2, p3, ks, A, c, lo, hi, htt, rfl, h1, h2, -, -, -, -, -⟩ := hh.fields
  clear htt h
  unfold maxLen at h2
  have hB := (Blk.new w 27 #[.int .i64 k, .int .u64 (p0 : Int), .int .u64 (p1 : Int), .int .u64 (p2 : Int), .int .u64 (p3 : Int), .slice A ks.length c, .int .i64 lo, .int .i64 hi]).alloc (Obj.cells #[.int .i64 0] 116)
  have hG := Blk.new (w.alloc (Obj.cells #[.int .i64 k, .int .u64 (p0 : Int), .int .u64 (p1 : Int), .int .u64 (p2 : Int), .int .u64 (p3 : Int), .slice A ks.length c, .int .i64 lo, .int .i64 hi] 27)) 116 #[.int .i64 0]
  rw [World.size_alloc] at hG
  have hb2 := ext2 w (Obj.cells #[.int .i64 k, .int .u64 (p0 : Int), .int .u64 (p1 : Int), .int .u64 (p2 : Int), .int .u64 (p3 : Int), .slice A ks.length c, .int .i64 lo, .int .i64 hi] 27) (Obj.cells #[.int .i64 0] 116)
  obtain ⟨w1, hw1⟩ : ∃ w1, w1 = (w.alloc (Obj.cells #[.int .i64 k, .int .u64 (p0 : Int), .int .u64 (p1 : Int), .int .u64 (p2 : Int), .int .u64 (p3 : Int), .slice A ks.length c, .int .i64 lo, .int .i64 hi] 27)).alloc (Obj.cells #[.int .i64 0] 116) := ⟨_, rfl⟩
  rw [← hw1] at hB hG hb2
  have hwe := weigh_any (fun b => b < w.heap.size) (w.heap.size + 1) (fun b hb => by omega) t _ w1 1 0 0 (hh.ext hb2) hG (by omega) (by omega) (by omega)
  have hpr : printE t = if isE t then textE t else [] := rfl
  have hise := isE_weigh t
  obtain ⟨res, hres⟩ : ∃ res, weighE 1 0 0 t = res := ⟨_, rfl⟩
  rw [hres] at hwe hise
  have hsmall : ∀ p, res = some p → p.1 ≤ 134217728 ∧ oneE 1 t = true ∧ nodesE t ≤ 128 := fun p hp => by
    rw [hp] at hres
    have h3 := weighE_small (v := p.1) (m := p.2) (by omega) (by omega) hres
    rw [weighE_eq t 1 0 0 (by omega) (by omega)] at hres
    split at hres
    case isTrue hc => exact ⟨by have : (p.2 - 0) * 1048576 ≤ 128 * 1048576 := Nat.mul_le_mul_right _ (by omega); omega, hc.1, by have := hc.2.2; omega⟩
    case isFalse => cases hres
  have happ := fun (cs : List Value) (W : World) (hW : ReR (fun b => b < w.heap.size) W t cs) (hb : Below w.heap.size w W) (h1' : oneE 1 t = true) (hn : nodesE t ≤ 128) =>
    are_any (fun b => b < w.heap.size) w ht (fun b hb => hb) t cs W none 0 0 [] 1 hW ⟨RowO.none_ _ _ _, hb, fun k hk => absurd hk (inA_none k)⟩ h1' (by omega)
  have hlen := textE_len t
  obtain ⟨I, hI⟩ : ∃ I, isE t = I := ⟨_, rfl⟩
  obtain ⟨P, hP⟩ : ∃ P, printE t = P := ⟨_, rfl⟩
  rw [hI] at hise hpr ⊢
  rw [hP] at hpr ⊢
  have Hise := Lib.hid hise
  have Hpr := Lib.hid hpr
  have Hwe := Lib.hid hwe
  have Hsmall := Lib.hid hsmall
  have Happ := Lib.hid happ
  have HB := Lib.hid hB
  have Hh := Lib.hid (hh.ext hb2)
  have Hb2 := Lib.hid hb2
  have Hw1 := Lib.hid hw1
  clear hise hpr hwe hsmall happ hB hG hb2 hI hP hres hh ht hw1
  show Calls Tryd.prog 60 #[.agg #[.int .i64 k, .int .u64 (p0 : Int), .int .u64 (p1 : Int), .int .u64 (p2 : Int), .int .u64 (p3 : Int), .slice A ks.length c, .int .i64 lo, .int .i64 hi]] w _
  have c0 := HB.out.cell 0
  have c1 := HB.out.cell 1
  have c2 := HB.out.cell 2
  have c3 := HB.out.cell 3
  have c4 := HB.out.cell 4
  have c5 := HB.out.cell 5
  have c6 := HB.out.cell 6
  have c7 := HB.out.cell 7
  rw [Hw1.out] at c0 c1 c2 c3 c4 c5 c6 c7
  go_enter Tryd.func60, Tryd.ntmps60
  go_wp2_with fail
  clear c0 c1 c2 c3 c4 c5 c6 c7
  rw [← Hw1.out]
  refine Hwe.out.mono ?_
  rintro e w3 ⟨he, ho3, -⟩
  have HB3 := Lib.hid (HB.out.only ho3 (by omega))
  have Hh3 := Lib.hid (Hh.out.only ho3 (fun b hb => by omega))
  have hb3 : Below w.heap.size w w3 := Hb2.out.trans (ho3.below (fun i hi => by omega) (by have := Hb2.out.size; omega))
  have Hb3 := Lib.hid hb3
  clear ho3 hb3 Hwe HB Hh
  cases res with
  | none =>
    have he' : e = .returned (.tuple #[.int .i64 0, .bool false]) := he
    subst he'
    obtain rfl : I = false := Hise.out
    obtain rfl : P = [] := by rw [Hpr.out]; rfl
    clear he
    go_wp2
    go_ret2
    exact ⟨rfl, Hb3.out⟩
  | some p =>
    obtain ⟨v, m⟩ := p
    have he' : e = .returned (.tuple #[.int .i64 (v : Int), .bool true]) := he
    subst he'
    obtain ⟨hv, hone, hnodes⟩ := Hsmall.out _ rfl
    simp only at hv
    have hIe : I = (decide (v ≤ 1024) && decide ((textE t).length ≤ 1024)) := Hise.out
    clear he Hise Hsmall
    have hvi : (v : Int) ≤ 134217728 := by omega
    rcases Nat.lt_or_ge 1024 v with hv2 | hv2
    · have hvi2 : (1024 : Int) < (v : Int) := by omega
      obtain rfl : I = false := by rw [hIe, show decide (v ≤ 1024) = false by simp; omega]; rfl
      obtain rfl : P = [] := by rw [Hpr.out]; rfl
      clear hIe
      go_wp2
      go_ret2
      exact ⟨rfl, Hb3.out⟩
    · have hvi2 : (v : Int) ≤ 1024 := by omega
      have hIe2 : I = decide ((textE t).length ≤ 1024) := by rw [hIe, show decide (v ≤ 1024) = true by simp; omega]; rfl
      clear hIe
      have c0 := HB3.out.cell 0
      have c1 := HB3.out.cell 1
      have c2 := HB3.out.cell 2
      have c3 := HB3.out.cell 3
      have c4 := HB3.out.cell 4
      have c5 := HB3.out.cell 5
      have c6 := HB3.out.cell 6
      have c7 := HB3.out.cell 7
      have Hone := Lib.hid hone
      have HIe2 := Lib.hid hIe2
      obtain ⟨q, hq⟩ : ∃ q, (textE t).length = q := ⟨_, rfl⟩
      rw [hq] at hlen
      have Hq := Lib.hid hq
      clear hone hIe2 hq
      go_wp2_with fail
      refine (Happ.out _ w3 Hh3.out Hb3.out Hone.out hnodes).mono ?_
      rintro e w4 ⟨A4, c4', rfl, hT4⟩
      have hrd : Rd w4 A4 ((textE t).map nb) := by have := hT4.row.rd; simpa using this
      have hb4 : Below w.heap.size w w4 := Hb3.out.trans (hT4.only.below (fun i hi => absurd hi (inA_none i)) Hb3.out.size)
      have Hb4 := Lib.hid hb4
      have hlt256 : ∀ b ∈ textE t, b < 256 := textE_lt Hone.out
      have kc := conv_nb w4 A4 q c4' (textE t) Hq.out.symm hlt256 hrd
      have Hkc := Lib.hid kc
      rw [Nat.zero_add, Hq.out]
      clear hT4 hb4 hrd kc hlt256 c0 c1 c2 c3 c4 c5 c6 c7
      have hqi : (q : Int) ≤ 309760 := by omega
      rcases Nat.lt_or_ge 1024 q with hq2 | hq2
      · have hqi2 : (1024 : Int) < (q : Int) := by omega
        obtain rfl : I = false := by rw [HIe2.out, Hq.out]; simp; omega
        obtain rfl : P = [] := by rw [Hpr.out]; rfl
        go_wp2
        go_ret2
        exact ⟨rfl, Hb4.out⟩
      · have hqi2 : (q : Int) ≤ 1024 := by omega
        obtain rfl : I = true := by rw [HIe2.out, Hq.out]; simp; omega
        obtain rfl : P = textE t := by rw [Hpr.out]; rfl
        have kc := Hkc.out
        obtain ⟨Z, hZ⟩ : ∃ Z, bsN (textE t) = Z := ⟨_, rfl⟩
        rw [hZ] at kc
        have HZ := Lib.hid hZ
        clear hZ
        go_wp2
        go_ret2
        exact ⟨by rw [HZ.out]; rfl, Hb4.out⟩

set_option maxHeartbeats 1000000 in
theorem pis_any (S : Nat → Prop) (t : Ex) (cs : List Value) (w : World) (ht : Tab w) (h : ReR S w t cs) :
    Calls Tryd.prog 37 #[reV cs] w fun e w' => e = .returned (.bool (isE t)) ∧ Below w.heap.size w w' := by
  obtain ⟨k, p0, p1, p2, p3, ks, A, c, lo, hi, htt, rfl, h1, h2, -, -, -, -, -⟩ := h.fields
  unfold maxLen at h2
  have hba : Below w.heap.size w (w.alloc (Obj.cells #[.int .i64 k, .int .u64 (p0 : Int), .int .u64 (p1 : Int), .int .u64 (p2 : Int), .int .u64 (p3 : Int), .slice A ks.length c, .int .i64 lo, .int .i64 hi] 27)) := (Below.refl _ _).alloc (Nat.le_refl _) _
  have ht' := textof_any S t _ _ (ht.ext hba) (h.ext hba)
  generalize bsN (printE t) = Z at ht'
  generalize isE t = I at ht' ⊢
  have Ht := Lib.hid ht'
  have Hba := Lib.hid hba
  clear ht' h htt ht hba
  show Calls Tryd.prog 37 #[.agg #[.int .i64 k, .int .u64 (p0 : Int), .int .u64 (p1 : Int), .int .u64 (p2 : Int), .int .u64 (p3 : Int), .slice A ks.length c, .int .i64 lo, .int .i64 hi]] w _
  go_enter Tryd.func37, Tryd.ntmps37
  go_wp2_with fail
  refine Ht.out.mono ?_
  rintro e w2 ⟨rfl, hb2⟩
  go_wp2
  go_ret
  exact ⟨rfl, ext_trans Hba.out hb2⟩
end Go.Proofs.YtgknlegomoaoeaaDoor
