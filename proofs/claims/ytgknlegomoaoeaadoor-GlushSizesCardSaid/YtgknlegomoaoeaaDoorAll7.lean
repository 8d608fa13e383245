/-
  Texts of this claim, joined (part 7): contracts and lemmas that the last text goes by. No statement of the seat is proved here.
-/
import Derived.Test.YtgknlegomoaoeaaDoorAll6
import Derived.Test.YtgknlegomoaoeaaDoorAll4
import Derived.Test.YtgknlegomoaoeaaDoorAll0
import Derived.Test.YtgknlegomoaoeaaDoorAll3
import Derived.Test.YtgknlegomoaoeaaDoorAll1
import Derived.Test.YtgknlegomoaoeaaDoorAll2
import Derived.Test.YtgknlegomoaoeaaDoorCards
import Derived.Test.YtgknlegomoaoeaaDoorTie
import Derived.Lib.LaidTab
import Derived.Stop.LaidErr
import Derived.WalkLawsBesides
import Derived.IntWalk
set_option linter.unusedVariables false
set_option linter.unusedSimpArgs false
/-
  The contracts of Size and Of. No statement of the seat is proved here.
-/
namespace Go.Proofs.YtgknlegomoaoeaaDoor
open Go Go.RowKit
set_option maxRecDepth 100000

def sizeG (t : Ex) : Nat := if isE t = true then (if cntE t ≤ 1000 then cntE t else 1000) else 0
set_option maxHeartbeats 4000000 in
theorem gsize_any (T : Nat → Prop) (t : Ex) (cs : List Value) (w : World) (ht : Tab w) (hr : ReR T w t cs) :
    Calls Tryd.prog 16 #[reV cs] w fun e w' => e = .returned (.int .i64 (sizeG t : Int)) ∧ Below w.heap.size w w' := by
  obtain ⟨k', q0, q1, q2, q3, A', kl, c', lo', hi', rfl⟩ := re_cells hr
  have e1 : Below w.heap.size w (w.alloc (.cells #[.int .i64 k', .int .u64 (q0 : Int), .int .u64 (q1 : Int), .int .u64 (q2 : Int), .int .u64 (q3 : Int), .slice A' kl c', .int .i64 lo', .int .i64 hi'] 27)) := ext_alloc (Below.refl _ _) _
  have b1 := Blk.new w 27 #[.int .i64 k', .int .u64 (q0 : Int), .int .u64 (q1 : Int), .int .u64 (q2 : Int), .int .u64 (q3 : Int), .slice A' kl c', .int .i64 lo', .int .i64 hi']
  have hp := pis_any T t _ _ (ht.ext e1) (hr.ext e1)
  obtain ⟨I, hI⟩ : ∃ I, isE t = I := ⟨_, rfl⟩
  obtain ⟨V, hV⟩ : ∃ V, sizeG t = V := ⟨_, rfl⟩
  rw [hI] at hp
  rw [hV]
  have HV := Lib.hid hV
  have HP := Lib.hid hp
  have HB1 := Lib.hid b1
  have Hr := Lib.hid hr
  have HI := Lib.hid hI
  have E1 := Lib.hid e1
  clear hp b1 hr hI hV e1 ht
  unfold reV at HP ⊢
  go_enter Tryd.func16, Tryd.ntmps16
  go_wp2_with fail
  refine HP.out.mono ?_
  rintro e w2 ⟨rfl, hb2⟩
  have b2 := HB1.out.ext hb2
  have E2 := Lib.hid (ext_trans E1.out hb2)
  have c0 := b2.cell 0
  have c1 := b2.cell 1
  have c2 := b2.cell 2
  have c3 := b2.cell 3
  have c4 := b2.cell 4
  have c5 := b2.cell 5
  have c6 := b2.cell 6
  have c7 := b2.cell 7
  clear hb2 b2 HP HB1
  cases I with
  | false =>
    go_wp2
    go_ret
    refine ⟨?_, E2.out⟩
    show Ending.returned (.int .i64 0) = _
    rw [← HV.out]
    unfold sizeG
    rw [HI.out]
    rfl
  | true =>
    have hcs := cntE_small HI.out
    obtain ⟨C, hC⟩ : ∃ C, cntE t = C := ⟨_, rfl⟩
    have hct := gcount_any T t _ w2 (Hr.out.ext E2.out) hcs
    rw [hC] at hct hcs
    have HC := Lib.hid hct
    have HCC := Lib.hid hC
    clear hct hC
    unfold reV at HC
    have hci : (C : Int) ≤ 134217728 := by omega
    go_wp2_with fail
    refine HC.out.mono ?_
    rintro e w3 ⟨rfl, hb3⟩
    have E3 := Lib.hid (ext_trans E2.out hb3)
    clear hb3 E2 c0 c1 c2 c3 c4 c5 c6 c7
    by_cases h1 : C ≤ 1000
    · have h1i : (C : Int) ≤ 1000 := by omega
      have h1j : ¬ ((1000 : Int) < (C : Int)) := by omega
      go_wp2
      go_ret
      refine ⟨?_, E3.out⟩
      show Ending.returned (.int .i64 (C : Int)) = _
      rw [← HV.out]
      unfold sizeG
      rw [HI.out, HCC.out, if_pos rfl, if_pos h1]
    · have h1i : ¬ ((C : Int) ≤ 1000) := by omega
      have h1j : (1000 : Int) < (C : Int) := by omega
      go_wp2
      go_ret
      refine ⟨?_, E3.out⟩
      show Ending.returned (.int .i64 1000) = _
      rw [← HV.out]
      unfold sizeG
      rw [HI.out, HCC.out, if_pos rfl, if_neg h1]
      rfl
theorem size_glush {ds : Array Value} (h : ds.size = 5) : (Tryd.prog.info? 32).map (·.size) = some ds.size := by rw [h]; kernel_rfl
theorem wpList_store_glush {ops : Array Oper} {rest : List Oper} {op : Oper} {a : Act} {w : World} {Q : Exit → Act → World → Prop} (hgd : op.guard = none) (x y : Operand) (ho : op.op = .store 32 x y)
    (g : Nat) (hx : a.eval x = .pointer (some ⟨g, 0, none⟩)) {t : TypeId} {cs : Array Value} {v0 v1 v2 v3 v4 : Value} (hy : a.eval y = .agg #[v0, v1, v2, v3, v4]) (h1 : #[v0, v1, v2, v3, v4].all (·.oneCell') = true) (hB : Blk w g t cs) (hc : cs.size = 5)
    (h : ∀ w', Blk w' g t #[v0, v1, v2, v3, v4] → Only (fun k => k = g) w w' → wpList Tryd.prog ops Q rest (a.put op.dst undef) w') : wpList Tryd.prog ops Q (op :: rest) a w := by
  refine wpList_store_mid hgd 32 x y ho g 0 #[v0, v1, v2, v3, v4] hx hy (hB.there 0 _ (by rw [hc]; show 0 + 5 ≤ 5; omega)) (size_glush rfl) h1 (h _ ?_ ?_)
  · have := hB.whole [v0, v1, v2, v3, v4] (by simp [hc])
    simpa using this
  · exact (Only.refl (fun k => k = g) w).setCells (.inl rfl) [v0, v1, v2, v3, v4] 0
theorem results_glush {fn : Func} {t u : Tmp} (h : fn.results = #[.cell t 32, .tmp u]) (tmps : Array Value) (w : World) (g : Nat) (e : TypeId) (cs : Array Value) (hc : cs.size = 5)
    (ht : tmps.getD t undef = .pointer (some ⟨g, 0, none⟩)) (hb : Blk w g e cs) {v : Value} (hv : tmps.getD u undef = v) : (results fn tmps).run Tryd.prog w = .ok (.tuple #[.agg cs, v]) w := by
  subst hv
  have hl := run_loadVar_row (P := Tryd.prog) w g e 32 cs (0, 0) _ hb Tryd.underlying32 rfl (size_glush hc)
  rw [Array.getD_eq_getD_getElem?] at ht
  simp [results, h, ht, asAddr, hl]
/-- what Of leaves -/
def OfSaid (w : World) (t : Ex) (e : Ending) (w' : World) : Prop :=
  Below w.heap.size w w' ∧
  (isE t = false → e = .returned (.tuple #[.agg #[.bool false, .int .u64 0, .int .u64 0, .slice none 0 0, .slice none 0 0], .int .i64 1])) ∧
  (isE t = true → 64 < cntE t → e = .returned (.tuple #[.agg #[.bool false, .int .u64 0, .int .u64 0, .slice none 0 0, .slice none 0 0], .int .i64 7])) ∧
  (isE t = true → cntE t ≤ 64 → ∃ A c D d, e = .returned (.tuple #[.agg #[.bool (layG t ⟨[], []⟩).1.null, .int .u64 ((layG t ⟨[], []⟩).1.first : Int), .int .u64 ((layG t ⟨[], []⟩).1.last : Int), .slice A (layG t ⟨[], []⟩).2.sets.length c, .slice D (layG t ⟨[], []⟩).2.sets.length d], .int .i64 0]) ∧
    LayR (fun k => w.heap.size ≤ k) w' (layG t ⟨[], []⟩).2.sets.length (layG t ⟨[], []⟩).2 A c D d)
theorem lay_start (w : World) {g : Nat} (hg : g = w.heap.size) : LayS (fun k => k = g) (w.alloc (.cells #[.slice none 0 0, .slice none 0 0] 69)) g ⟨[], []⟩ :=
  ⟨none, 0, none, 0, blk_at _ _ _ hg, ⟨RowO.none_ _ _ _, RowO.none_ _ _ _, fun k hk => absurd hk (inA_none k), fun k hk => absurd hk (inA_none k)⟩, rfl, fun k hk => by simp; omega⟩
set_option maxHeartbeats 8000000 in
theorem of_any (T : Nat → Prop) (t : Ex) (cs : List Value) (w : World) (ht : Tab w) (hr : ReR T w t cs) :
    Calls Tryd.prog 12 #[reV cs] w (OfSaid w t) := by
  have htl : 0 < w.heap.size := World.block_lt_of_cell? w _ (ht 0 (by decide))
  obtain ⟨k', q0, q1, q2, q3, A', kl, c', lo', hi', rfl⟩ := re_cells hr
  have e1 : Below w.heap.size w ((w.alloc (.cells #[.int .i64 k', .int .u64 (q0 : Int), .int .u64 (q1 : Int), .int .u64 (q2 : Int), .int .u64 (q3 : Int), .slice A' kl c', .int .i64 lo', .int .i64 hi'] 27)).alloc (.cells #[.bool false, .int .u64 0, .int .u64 0, .slice none 0 0, .slice none 0 0] 32)) := ext2 _ _ _
  have b1 : Blk ((w.alloc (.cells #[.int .i64 k', .int .u64 (q0 : Int), .int .u64 (q1 : Int), .int .u64 (q2 : Int), .int .u64 (q3 : Int), .slice A' kl c', .int .i64 lo', .int .i64 hi'] 27)).alloc (.cells #[.bool false, .int .u64 0, .int .u64 0, .slice none 0 0, .slice none 0 0] 32)) w.heap.size 27 #[.int .i64 k', .int .u64 (q0 : Int), .int .u64 (q1 : Int), .int .u64 (q2 : Int), .int .u64 (q3 : Int), .slice A' kl c', .int .i64 lo', .int .i64 hi'] := (blk_at w _ _ rfl).alloc _
  have z1 : Blk ((w.alloc (.cells #[.int .i64 k', .int .u64 (q0 : Int), .int .u64 (q1 : Int), .int .u64 (q2 : Int), .int .u64 (q3 : Int), .slice A' kl c', .int .i64 lo', .int .i64 hi'] 27)).alloc (.cells #[.bool false, .int .u64 0, .int .u64 0, .slice none 0 0, .slice none 0 0] 32)) (w.heap.size + 1) 32 #[.bool false, .int .u64 0, .int .u64 0, .slice none 0 0, .slice none 0 0] := blk_at _ _ _ (by simp)
  have hp := pis_any T t _ _ (ht.ext e1) (hr.ext e1)
  have hsaid : ∀ e w', OfSaid w t e w' ↔ OfSaid w t e w' := fun _ _ => Iff.rfl
  obtain ⟨I, hI⟩ : ∃ I, isE t = I := ⟨_, rfl⟩
  rw [hI] at hp
  have HP := Lib.hid hp
  have B1 := Lib.hid b1
  have Z1 := Lib.hid z1
  have Hr := Lib.hid hr
  have HT := Lib.hid ht
  have HI := Lib.hid hI
  have E1 := Lib.hid e1
  clear hp b1 z1 hr hI e1 ht hsaid
  unfold reV at HP ⊢
  go_enter Tryd.func12, Tryd.ntmps12
  go_wp2_with fail
  refine HP.out.mono ?_
  rintro e w2 ⟨rfl, hb2⟩
  have b2 := B1.out.ext hb2
  have Z2 := Lib.hid (Z1.out.ext hb2)
  have E2 := Lib.hid (ext_trans E1.out hb2)
  have c0 := b2.cell 0
  have c1 := b2.cell 1
  have c2 := b2.cell 2
  have c3 := b2.cell 3
  have c4 := b2.cell 4
  have c5 := b2.cell 5
  have c6 := b2.cell 6
  have c7 := b2.cell 7
  have B2 := Lib.hid b2
  clear hb2 b2 HP B1 Z1
  cases I with
  | false =>
    go_wp2_with (refine wpList_store_glush rfl (.tmp 2) (.tmp 10) rfl (w.heap.size + 1) rfl rfl (by simp [Value.oneCell']) Z2.out rfl ?_; intro w3 h3 o3)
    have hb := E2.out.trans (o3.below (B := w.heap.size) (fun i hi => by omega) E2.out.size)
    exact bodyPost_ret (v := .tuple #[.agg #[.bool false, .int .u64 0, .int .u64 0, .slice none 0 0, .slice none 0 0], .int .i64 1]) (results_glush rfl _ _ (w.heap.size + 1) _ #[.bool false, .int .u64 0, .int .u64 0, .slice none 0 0, .slice none 0 0] rfl rfl h3 rfl) rfl ⟨hb, fun _ => rfl, fun h => by rw [HI.out] at h; (cases h), fun h => by rw [HI.out] at h; (cases h)⟩
  | true =>
    have hcs := cntE_small HI.out
    obtain ⟨C, hC⟩ : ∃ C, cntE t = C := ⟨_, rfl⟩
    have hct := gcount_any T t _ w2 (Hr.out.ext E2.out) hcs
    rw [hC] at hct hcs
    have HC := Lib.hid hct
    have HCC := Lib.hid hC
    clear hct hC
    unfold reV at HC
    have hci : (C : Int) ≤ 134217728 := by omega
    go_wp2_with fail
    refine HC.out.mono ?_
    rintro e w3 ⟨rfl, hb3⟩
    have E3 := Lib.hid (ext_trans E2.out hb3)
    have b3 := B2.out.ext hb3
    have Z3 := Lib.hid (Z2.out.ext hb3)
    have hz3 := (Z2.out.ext hb3).lt
    clear hb3 c0 c1 c2 c3 c4 c5 c6 c7
    have c0 := b3.cell 0
    have c1 := b3.cell 1
    have c2 := b3.cell 2
    have c3 := b3.cell 3
    have c4 := b3.cell 4
    have c5 := b3.cell 5
    have c6 := b3.cell 6
    have c7 := b3.cell 7
    have B3 := Lib.hid b3
    clear b3 B2 Z2 HC
    by_cases h64 : 64 < C
    · have h64i : (64 : Int) < (C : Int) := by omega
      go_wp2_with (refine wpList_store_glush rfl (.tmp 2) (.tmp 15) rfl (w.heap.size + 1) rfl rfl (by simp [Value.oneCell']) Z3.out rfl ?_; intro w4 h4 o4)
      have hb := E3.out.trans (o4.below (B := w.heap.size) (fun i hi => by omega) E3.out.size)
      exact bodyPost_ret (v := .tuple #[.agg #[.bool false, .int .u64 0, .int .u64 0, .slice none 0 0, .slice none 0 0], .int .i64 7]) (results_glush rfl _ _ (w.heap.size + 1) _ #[.bool false, .int .u64 0, .int .u64 0, .slice none 0 0, .slice none 0 0] rfl rfl h4 rfl) rfl ⟨hb, fun h => by rw [HI.out] at h; (cases h), fun _ _ => rfl, fun _ h => by rw [HCC.out] at h; omega⟩
    · have h64i : ¬ (64 : Int) < (C : Int) := by omega
      have e4 : Below w3.heap.size w3 (w3.alloc (.cells #[.slice none 0 0, .slice none 0 0] 69)) := ext_alloc (Below.refl _ _) _
      have hl4 := lay_start w3 rfl
      have b34 := B3.out.alloc (.cells #[.slice none 0 0, .slice none 0 0] 69)
      have z34 := Z3.out.alloc (.cells #[.slice none 0 0, .slice none 0 0] 69)
      have hgl : w.heap.size ≤ w3.heap.size := E3.out.size
      have hc := glay_any t 1 (isE_one HI.out).1 (fun k => T k ∧ k < w.heap.size) (fun k => k = w3.heap.size) w3.heap.size ⟨[], []⟩ _ (w3.alloc (.cells #[.slice none 0 0, .slice none 0 0] 69)) ((Hr.out.mono (fun b hb hl => ⟨hb, hl⟩)).ext (ext_trans E3.out e4)) (fun k hk => by first | (simp; done) | (simp; omega) | omega) ⟨(HT.out.ext E3.out).ext e4, by omega, by first | (simp; done) | (simp; omega) | omega⟩ hl4 ⟨rfl, by simp, by simp⟩ (by rw [HCC.out]; simp; omega)
      have HL := Lib.hid hc
      have e34 := Lib.hid (ext_trans E3.out e4)
      have d0 := b34.cell 0
      have d1 := b34.cell 1
      have d2 := b34.cell 2
      have d3 := b34.cell 3
      have d4 := b34.cell 4
      have d5 := b34.cell 5
      have d6 := b34.cell 6
      have d7 := b34.cell 7
      have Z34 := Lib.hid z34
      obtain ⟨p, L, hpL⟩ : ∃ p L, layG t ⟨[], []⟩ = (p, L) := ⟨_, _, rfl⟩
      rw [hpL] at HL
      have HpL := Lib.hid hpL
      clear hc e4 hl4 b34 z34 B3 Z3 hpL c0 c1 c2 c3 c4 c5 c6 c7
      unfold reV at HL
      go_wp2_with fail
      refine HL.out.mono ?_
      rintro e w5 ⟨rfl, hS5, ho5⟩
      obtain ⟨A, c, D, d, hB5, hR5, hg5, hbd5⟩ := hS5
      have z5 := Z34.out.only ho5 (by omega)
      have ho5' : Below w.heap.size w w5 := e34.out.trans (ho5.below (fun i hi => by omega) (by simp; omega))
      obtain ⟨pn, pf, pl⟩ := p
      unfold pieceV
      dsimp only at hB5 hR5 ⊢
      have b6 := hB5.alloc (.cells #[.bool pn, .int .u64 (pf : Int), .int .u64 (pl : Int)] 71)
      have g0 := b6.cell 0
      have g1 := b6.cell 1
      have z6 := z5.alloc (.cells #[.bool pn, .int .u64 (pf : Int), .int .u64 (pl : Int)] 71)
      clear d0 d1 d2 d3 d4 d5 d6 d7
      go_wp2_with (refine wpList_store_glush rfl (.tmp 2) (.tmp 28) rfl (w.heap.size + 1) rfl rfl (by simp [Value.oneCell']) z6 rfl ?_; intro w7 h7 o7)
      have hb6 : Below w.heap.size w (w5.alloc (.cells #[.bool pn, .int .u64 (pf : Int), .int .u64 (pl : Int)] 71)) := ho5'.alloc ho5'.size _
      have hb7 := hb6.trans (o7.below (B := w.heap.size) (fun i hi => by omega) hb6.size)
      have hrow : LayR (fun k => w.heap.size ≤ k) w7 L.sets.length L A c D d := by
        have h1 : ∀ k, Gr (fun k => k = w3.heap.size) (w3.alloc (.cells #[.slice none 0 0, .slice none 0 0] 69)) w5 k → w3.heap.size ≤ k := fun k hk => hk.elim (fun h => by omega) (fun h => by have := h.1; simp at this; omega)
        have hsets := (hR5.sets.alloc (.cells #[.bool pn, .int .u64 (pf : Int), .int .u64 (pl : Int)] 71)).only o7 (fun k hk he => by have := h1 k (hR5.ba k hk); omega)
        have hfol := (hR5.follow.alloc (.cells #[.bool pn, .int .u64 (pf : Int), .int .u64 (pl : Int)] 71)).only o7 (fun k hk he => by have := h1 k (hR5.bd k hk); omega)
        exact ⟨hsets, hfol, fun k hk => by have := h1 k (hR5.ba k hk); omega, fun k hk => by have := h1 k (hR5.bd k hk); omega⟩
      refine bodyPost_ret (v := .tuple #[.agg #[_, _, _, _, _], .int .i64 0]) (results_glush rfl _ _ (w.heap.size + 1) _ #[_, _, _, _, _] rfl rfl h7 rfl) rfl ⟨hb7, fun h => by rw [HI.out] at h; (cases h), fun _ h => by rw [HCC.out] at h; omega, fun _ _ => ?_⟩
      rw [HpL.out]
      exact ⟨A, c, D, d, rfl, hrow⟩
end Go.Proofs.YtgknlegomoaoeaaDoor

/-
  The contract of the reference's Size. No statement of the seat is proved here.
-/
namespace Go.Proofs.YtgknlegomoaoeaaDoor
open Go Go.RowKit
set_option maxRecDepth 100000

def rsz (n : Nat) : Nat := if n ≤ 1000 then n else 1000
theorem rsz_le (n : Nat) : rsz n ≤ 1000 := by unfold rsz; split <;> omega
theorem rsz_add (a b : Nat) : rsz (rsz a + rsz b) = rsz (a + b) := by
  unfold rsz
  by_cases h1 : a ≤ 1000 <;> by_cases h2 : b ≤ 1000 <;> simp only [h1, h2, if_true, if_false] <;> repeat' split
  all_goals omega
theorem rsz_lt {n : Nat} (h : n < 1000) : rsz n = n := by unfold rsz; rw [if_pos (by omega)]
theorem rsz_ge {n : Nat} (h : ¬ n < 1000) : rsz n = 1000 := by unfold rsz; split <;> omega
theorem rsz_mul (c T : Nat) (hT : 1 ≤ T) : rsz (rsz c * T) = rsz (c * T) := by
  unfold rsz
  by_cases h : c ≤ 1000
  · rw [if_pos h]
  · rw [if_neg h]
    have h1 : 1000 * 1 ≤ 1000 * T := Nat.mul_le_mul_left _ hT
    have h2 : 1001 * 1 ≤ c * T := Nat.mul_le_mul (by omega) hT
    split <;> split <;> omega
set_option maxHeartbeats 8000000 in
theorem rgsize_any (S : Nat → Prop) (t : Ex) : ∀ (deep : Nat) (cs : List Value) (w : World), oneE deep t = true → ReR S w t cs →
    Calls Tryd.prog 17 #[reV cs] w fun e w' => e = .returned (.int .i64 (rsz (cntE t) : Int)) ∧ Below w.heap.size w w' := by
  refine ex_induct (p := fun t => ∀ (deep : Nat) (cs : List Value) (w : World), oneE deep t = true → ReR S w t cs → Calls Tryd.prog 17 #[reV cs] w fun e w' => e = .returned (.int .i64 (rsz (cntE t) : Int)) ∧ Below w.heap.size w w') (fun k s ks lo hi ih deep cs w ho h => ?_) t
  rw [form_one] at ho
  simp only [Bool.and_eq_true, oneL_all, List.all_eq_true] at ho
  obtain ⟨⟨hdp, hf⟩, hkids⟩ := ho
  rw [reR_iff] at h
  obtain ⟨⟨hk, hs, hlo, hhi⟩, A, c, rfl, h1, h2, h3⟩ := h
  obtain ⟨p0, p1, p2, p3, rfl⟩ := four_words hs
  unfold isInt at hlo hhi
  unfold maxLen at h2
  have Hih := Lib.hid fun (x : Ex) (hx : x ∈ ks) (cs : List Value) (w : World) (h : ReR S w x cs) => ih x hx (deep + 1) cs w (hkids x hx) h
  have H3 := Lib.hid h3
  obtain ⟨C, hC⟩ : ∃ C, cntE (.mk k [p0, p1, p2, p3] ks lo hi) = C := ⟨_, rfl⟩
  rw [hC]
  simp only [cntE] at hC
  have HF := Lib.hid hf
  clear ih h3 hs hkids hf
  unfold reV reCells
  by_cases hk1 : k = 1
  · subst hk1
    simp only [if_true] at hC
    subst hC
    show Calls Tryd.prog 17 #[.agg #[.int .i64 1, .int .u64 (p0 : Int), .int .u64 (p1 : Int), .int .u64 (p2 : Int), .int .u64 (p3 : Int), .slice A ks.length c, .int .i64 lo, .int .i64 hi]] w _
    go_enter Tryd.func17, Tryd.ntmps17
    go_wp2
    go_ret
    exact ⟨rfl, ext_alloc (Below.refl _ _) _⟩
  · simp only [if_neg hk1] at hC
    by_cases hk4 : k = 4
    · subst hk4
      simp only [if_true] at hC
      have hfx : repB lo hi = true ∧ ks.length = 1 := by
        have hf := HF.out
        simp only [formE] at hf
        simp at hf
        exact ⟨hf.1.2, hf.2⟩
      obtain ⟨x, rfl⟩ : ∃ x, ks = [x] := List.length_eq_one_iff.1 hfx.2
      have hrange : 0 ≤ lo ∧ lo ≤ 32 ∧ (hi = -1 ∨ (1 ≤ hi ∧ hi ≤ 32 ∧ lo ≤ hi)) := by simpa [repB, and_assoc] using hfx.1
      simp only [cntL, Nat.add_zero] at hC
      obtain ⟨g', o, k', q0, q1, q2, q3, ks', A', c', lo', hi', rfl, hx, hr, x0, x1, x2, x3, x4, x5, x6, x7, hsg⟩ := (H3.out.ext (ext_alloc (Below.refl w.heap.size w) (.cells #[.int .i64 4, .int .u64 (p0 : Int), .int .u64 (p1 : Int), .int .u64 (p2 : Int), .int .u64 (p3 : Int), .slice A 1 c, .int .i64 lo, .int .i64 hi] 27))).kidX (k := 0) (by simp)
      simp only [Nat.zero_mul, Nat.add_zero] at x0 x1 x2 x3 x4 x5 x6 x7
      obtain ⟨T, hT⟩ : ∃ T, timesW lo hi = T := ⟨_, rfl⟩
      have hT1 : 1 ≤ T := by rw [← hT]; exact timesW_pos lo hi
      rw [hT] at hC
      have hTT : (hi = -1 ∧ lo < 1 ∧ T = 1) ∨ (hi = -1 ∧ ¬ lo < 1 ∧ (T : Int) = lo) ∨ (hi ≠ -1 ∧ ¬ hi < 0 ∧ (T : Int) = hi) := by
        unfold timesW at hT
        rcases hrange with ⟨a, b, h | h⟩ <;> omega
      have hTb : T ≤ 32 := by unfold timesW at hT; omega
      obtain ⟨Y, hY⟩ : ∃ Y, rsz (cntE x) = Y := ⟨_, rfl⟩
      have hYb : Y ≤ 1000 := by rw [← hY]; exact rsz_le _
      have hCY : rsz C = rsz (Y * T) := by rw [← hC, ← hY, rsz_mul _ _ hT1]
      rw [hCY]
      obtain ⟨Z, hZ⟩ : ∃ Z, Y * T = Z := ⟨_, rfl⟩
      have hZi : (Y : Int) * (T : Int) = (Z : Int) := by rw [← hZ]; simp
      have hZb : Z ≤ 32000 := by rw [← hZ]; exact Nat.mul_le_mul hYb hTb
      rw [hZ]
      have hcall : ∀ W, Below (w.alloc (.cells #[.int .i64 4, .int .u64 (p0 : Int), .int .u64 (p1 : Int), .int .u64 (p2 : Int), .int .u64 (p3 : Int), .slice (some ⟨g', o, none⟩) 1 c, .int .i64 lo, .int .i64 hi] 27)).heap.size (w.alloc (.cells #[.int .i64 4, .int .u64 (p0 : Int), .int .u64 (p1 : Int), .int .u64 (p2 : Int), .int .u64 (p3 : Int), .slice (some ⟨g', o, none⟩) 1 c, .int .i64 lo, .int .i64 hi] 27)) W → Calls Tryd.prog 17 #[.agg #[.int .i64 k', .int .u64 (q0 : Int), .int .u64 (q1 : Int), .int .u64 (q2 : Int), .int .u64 (q3 : Int), .slice A' ks'.length c', .int .i64 lo', .int .i64 hi']] W fun e w' => e = .returned (.int .i64 (Y : Int)) ∧ Below W.heap.size W w' := fun W hW => by
        have := Hih.out x (by simp) _ W (hr.ext hW)
        rw [hY] at this
        simpa [reV] using this
      have Hcall := Lib.hid hcall
      have HZ := Lib.hid hZ
      have E1 : Hid (Below w.heap.size w (w.alloc (.cells #[.int .i64 4, .int .u64 (p0 : Int), .int .u64 (p1 : Int), .int .u64 (p2 : Int), .int .u64 (p3 : Int), .slice (some ⟨g', o, none⟩) 1 c, .int .i64 lo, .int .i64 hi] 27))) := Lib.hid (ext_alloc (Below.refl _ _) _)
      clear hcall hr hx hY hCY hC hT hfx HF Hih H3 hZ
      show Calls Tryd.prog 17 #[.agg #[.int .i64 4, .int .u64 (p0 : Int), .int .u64 (p1 : Int), .int .u64 (p2 : Int), .int .u64 (p3 : Int), .slice (some ⟨g', o, none⟩) 1 c, .int .i64 lo, .int .i64 hi]] w _
      have hTi : (T : Int) ≤ 32 := by omega
      have hT1i : (1 : Int) ≤ (T : Int) := by omega
      have hYi : (Y : Int) ≤ 1000 := by omega
      have hn0 : ¬ ((T : Int) < 0) := by omega
      have hn1 : ¬ (1000 : Int) < (T : Int) := by omega
      have HTT := Lib.hid hTT
      have hfin : ∀ Z' : Nat, Z' = Z → ((Z' : Int) < 1000 ∧ rsz Z = Z') ∨ (¬ (Z' : Int) < 1000 ∧ rsz Z = 1000) := fun Z' h => by
        subst h
        by_cases hz : Z' < 1000
        · exact .inl ⟨by omega, rsz_lt hz⟩
        · exact .inr ⟨by omega, rsz_ge hz⟩
      have hF2 := hfin Z rfl
      clear hfin hTT
      have hZl : (Z : Int) ≤ 32000 := by omega
      rcases HTT.out with ⟨rfl, hl1, hT⟩ | ⟨rfl, hl1, hT⟩ | ⟨hh, hl1, hT⟩
      · subst hT
        obtain rfl : Y = Z := by have := HZ.out; omega
        rcases hF2 with ⟨hz1, hz2⟩ | ⟨hz1, hz2⟩
        all_goals
          rw [hz2]
          go_enter Tryd.func17, Tryd.ntmps17
          go_wp2_with fail
          refine (Hcall.out _ (Below.refl _ _)).mono ?_
          rintro e w4 ⟨rfl, hb4⟩
          have E4 := Lib.hid (ext_trans E1.out hb4)
          clear hb4
          go_wp2
          go_ret
          exact ⟨rfl, E4.out⟩
      · subst hT
        rcases hF2 with ⟨hz1, hz2⟩ | ⟨hz1, hz2⟩
        all_goals
          rw [hz2]
          go_enter Tryd.func17, Tryd.ntmps17
          go_wp2_with fail
          refine (Hcall.out _ (Below.refl _ _)).mono ?_
          rintro e w4 ⟨rfl, hb4⟩
          have E4 := Lib.hid (ext_trans E1.out hb4)
          clear hb4
          go_wp2
          go_ret
          exact ⟨rfl, E4.out⟩
      · subst hT
        rcases hF2 with ⟨hz1, hz2⟩ | ⟨hz1, hz2⟩
        all_goals
          rw [hz2]
          go_enter Tryd.func17, Tryd.ntmps17
          go_wp2_with fail
          refine (Hcall.out _ (Below.refl _ _)).mono ?_
          rintro e w4 ⟨rfl, hb4⟩
          have E4 := Lib.hid (ext_trans E1.out hb4)
          clear hb4
          go_wp2
          go_ret
          exact ⟨rfl, E4.out⟩
    · simp only [if_neg hk4] at hC
      have hkk1 : (k == 1) = false := by simpa using hk1
      have hkk4 : (k == 4) = false := by simpa using hk4
      have HC := Lib.hid hC
      clear hC HF
      obtain ⟨W2, hW2⟩ : ∃ W2, W2 = w.alloc (.cells #[.int .i64 k, .int .u64 (p0 : Int), .int .u64 (p1 : Int), .int .u64 (p2 : Int), .int .u64 (p3 : Int), .slice A ks.length c, .int .i64 lo, .int .i64 hi] 27) := ⟨_, rfl⟩
      have hB2 : Blk W2 w.heap.size 27 #[.int .i64 k, .int .u64 (p0 : Int), .int .u64 (p1 : Int), .int .u64 (p2 : Int), .int .u64 (p3 : Int), .slice A ks.length c, .int .i64 lo, .int .i64 hi] := by rw [hW2]; exact Blk.new w _ _
      have hb2 : Below w.heap.size w W2 := by rw [hW2]; exact ext_alloc (Below.refl _ _) _
      show Calls Tryd.prog 17 #[.agg #[.int .i64 k, .int .u64 (p0 : Int), .int .u64 (p1 : Int), .int .u64 (p2 : Int), .int .u64 (p3 : Int), .slice A ks.length c, .int .i64 lo, .int .i64 hi]] w _
      go_enter Tryd.func17, Tryd.ntmps17
      go_wp2_with fail
      rw [← hW2]
      have HB2 := Lib.hid hB2
      have Hb2 := Lib.hid hb2
      clear hB2 hb2 hW2
      go_loopw [3, 5] (fun x i wr => ∃ j X : Nat, j ≤ ks.length ∧ i = .int .i64 (j : Int) ∧ x = .int .i64 (X : Int) ∧ Hid (rsz (cntL (ks.take j)) = X) ∧ Hid (Blk wr w.heap.size 27 #[.int .i64 k, .int .u64 (p0 : Int), .int .u64 (p1 : Int), .int .u64 (p2 : Int), .int .u64 (p3 : Int), .slice A ks.length c, .int .i64 lo, .int .i64 hi]) ∧ Hid (Below w.heap.size w wr)) (fun _ i _ => ks.length - (intOf i).toNat)
      case atStart => exact ⟨0, 0, Nat.zero_le _, rfl, rfl, Lib.hid (by simp [cntL, rsz]), HB2, Hb2⟩
      case round =>
        obtain ⟨j, X, hj, rfl, rfl, HX, HBr, Hbr⟩ := hrel
        have hXb : X ≤ 1000 := by rw [← HX.out]; exact rsz_le _
        have c5 : wr.cell? ⟨w.heap.size, 5, none⟩ = some (.slice A ks.length c) := HBr.out.cell 5
        by_cases hlt2 : j < ks.length
        · have hji : (j : Int) < (ks.length : Int) := by omega
          obtain ⟨g', o, k', q0, q1, q2, q3, ks', A', c', lo', hi', rfl, hx, hr, x0, x1, x2, x3, x4, x5, x6, x7, hsg⟩ := (H3.out.ext Hbr.out).kidX hlt2
          obtain ⟨Y, hY⟩ : ∃ Y, rsz (cntE ks[j]) = Y := ⟨_, rfl⟩
          have hYb : Y ≤ 1000 := by rw [← hY]; exact rsz_le _
          have hcall : Calls Tryd.prog 17 #[.agg #[.int .i64 k', .int .u64 (q0 : Int), .int .u64 (q1 : Int), .int .u64 (q2 : Int), .int .u64 (q3 : Int), .slice A' ks'.length c', .int .i64 lo', .int .i64 hi']] wr fun e w' => e = .returned (.int .i64 (Y : Int)) ∧ Below wr.heap.size wr w' := by
            have := Hih.out _ (List.getElem_mem hlt2) _ wr hr
            rw [hY] at this
            simpa [reV] using this
          have hnx : rsz (cntL (ks.take (j + 1))) = rsz (X + Y) := by rw [cntL_take ks j hlt2, ← rsz_add, HX.out, hY]
          have hF2 : ((X : Int) + (Y : Int) < 1000 ∧ rsz (X + Y) = X + Y) ∨ (¬ (X : Int) + (Y : Int) < 1000 ∧ rsz (X + Y) = 1000) := by
            by_cases hz : X + Y < 1000
            · exact .inl ⟨by omega, rsz_lt hz⟩
            · exact .inr ⟨by omega, rsz_ge hz⟩
          have Hnx := Lib.hid hnx
          have Hcall := Lib.hid hcall
          clear hcall hr hx hnx hY
          rcases hF2 with ⟨hz1, hz2⟩ | ⟨hz1, hz2⟩
          all_goals
            have Hz2 := Lib.hid hz2
            clear hz2
            go_wp2_with fail
            refine Hcall.out.mono ?_
            rintro e w4 ⟨rfl, hb4⟩
            have HB4 := Lib.hid (HBr.out.ext hb4)
            have Hb4 := Lib.hid (ext_trans Hbr.out hb4)
            clear hb4 c5
            go_wp2
            go_roundw
            case rel => exact ⟨j + 1, _, by omega, by go_num, by first | rfl | go_num, Lib.hid (Hnx.out.trans Hz2.out), HB4, Hb4⟩
            case measure => simp [intOf]; omega
        · obtain rfl : j = ks.length := by omega
          have hL' : rsz (cntL ks) = X := by have := HX.out; rwa [List.take_length] at this
          rw [HC.out] at hL'
          subst hL'
          go_wp2
          go_ret
          exact ⟨rfl, Hbr.out⟩
end Go.Proofs.YtgknlegomoaoeaaDoor

/-
  What stage 8's laws share: the table out of 'laid', weight, heavy. No statement of the seat is proved here.
-/
namespace Go.Proofs.YtgknlegomoaoeaaDoor
open Go Go.ChangeShapes Go.WideShapes Go.ChangeAt Go.RowKit
set_option maxRecDepth 100000

theorem cells_tab : Tryd.prog.cellsOf 137 = 64 := by kernel_rfl
theorem gTab : Tryd.prog.globalNamed "math/bits.deBruijn64tab" = some 0 := by kernel_rfl
theorem gTabType : (Tryd.prog.globals[0]?).map (·.type) = some 137 := by kernel_rfl
/-- the list of every row of this seat -/
def theLaid : List (String × DataW Unit) := [("math/bits.deBruijn32tab", Rows.laid_math_bits_deBruijn32tab), ("math/bits.deBruijn64tab", Rows.laid_math_bits_deBruijn64tab), ("internal/strconv.uint64pow10", Rows.laid_internal_strconv_uint64pow10)]
theorem tab_same : ∀ i : Fin 64, (([0, 1, 56, 2, 57, 49, 28, 3, 61, 58, 42, 50, 38, 29, 17, 4, 62, 47, 59, 36, 45, 43, 51, 22, 53, 39, 33, 30, 24, 18, 12, 5, 63, 55, 48, 27, 60, 41, 37, 16, 46, 35, 44, 21, 52, 32, 23, 11, 54, 26, 40, 15, 34, 20, 31, 10, 25, 14, 19, 9, 13, 8, 7, 6] : List Int).getD i.val 0) = ((Lib.deBruijn64tab.getD i.val 0 : Nat) : Int) := by decide +kernel
theorem tab_of_laid {W : World} (h : laidMetH Tryd.prog theLaid W) : Tab W := by
  have h1 : Lib.TabIs Tryd.prog W "math/bits.deBruijn64tab" .u8 [0, 1, 56, 2, 57, 49, 28, 3, 61, 58, 42, 50, 38, 29, 17, 4, 62, 47, 59, 36, 45, 43, 51, 22, 53, 39, 33, 30, 24, 18, 12, 5, 63, 55, 48, 27, 60, 41, 37, 16, 46, 35, 44, 21, 52, 32, 23, 11, 54, 26, 40, 15, 34, 20, 31, 10, 25, 14, 19, 9, 13, 8, 7, 6] :=
    Lib.tabIs_of_head (rest := [("internal/strconv.uint64pow10", Rows.laid_internal_strconv_uint64pow10)]) gTab gTabType Tryd.underlying137 Tryd.underlying5 cells_u8 cells_tab (laidMet.tail (x := ("math/bits.deBruijn32tab", Rows.laid_math_bits_deBruijn32tab)) h)
  intro i hi
  have hi' : i < 64 := hi
  have h2 := h1.cell gTab i (by simpa using hi')
  rw [h2]
  have h3 := tab_same ⟨i, hi'⟩
  exact congrArg (fun z => some (Value.int .u8 z)) h3

set_option maxHeartbeats 2000000 in
theorem weight8_any (S : Nat → Prop) (t : Ex) : ∀ (cs : List Value) (w : World) (n : Int), ReR S w t cs → 0 ≤ n → n ≤ 1000000 →
    Calls Tryd.prog 35 #[reV cs, .int .i64 n] w fun e w' => e = .returned (.int .i64 (leftE t n)) ∧ Below w.heap.size w w' := by
  refine ex_induct (p := fun t => ∀ (cs : List Value) (w : World) (n : Int), ReR S w t cs → 0 ≤ n → n ≤ 1000000 → Calls Tryd.prog 35 #[reV cs, .int .i64 n] w fun e w' => e = .returned (.int .i64 (leftE t n)) ∧ Below w.heap.size w w') (fun k s ks lo hi ih cs w n h hn0 hn => ?_) t
  rw [reR_iff] at h
  obtain ⟨h0, A, c, rfl, h1, h2, h3⟩ := h
  have hle : leftE (.mk k s ks lo hi) n = leftL ks (n - 1) := by simp [leftE]
  rw [hle]
  unfold maxLen at h2
  have Hih := Lib.hid ih
  have H3 := Lib.hid h3
  clear ih h3 h0 hle
  unfold reV reCells
  have hB := Blk.new w 27 #[.int .i64 k, .int .u64 (wordB s 0 : Int), .int .u64 (wordB s 1 : Int), .int .u64 (wordB s 2 : Int), .int .u64 (wordB s 3 : Int), .slice A ks.length c, .int .i64 lo, .int .i64 hi]
  have hkl : (ks.length : Int) ≤ 9223372036854775807 := by omega
  go_enter Tryd.func35, Tryd.ntmps35
  go_wp2
  go_loopw [1, 5] (fun nv i wr => ∃ (j : Nat) (m : Int), j ≤ ks.length ∧ i = .int .i64 (j : Int) ∧ nv = .int .i64 m ∧ m ≤ 1000000 ∧ -1 ≤ m ∧ Hid (leftL ks (n - 1) = leftL (ks.drop j) m) ∧ Blk wr w.heap.size 27 #[.int .i64 k, .int .u64 (wordB s 0 : Int), .int .u64 (wordB s 1 : Int), .int .u64 (wordB s 2 : Int), .int .u64 (wordB s 3 : Int), .slice A ks.length c, .int .i64 lo, .int .i64 hi] ∧ Below w.heap.size w wr) (fun _ i _ => ks.length - (intOf i).toNat)
  case atStart => exact ⟨0, n - 1, Nat.zero_le _, rfl, rfl, by omega, by omega, Lib.hid rfl, hB, (Below.refl _ _).alloc (Nat.le_refl _) _⟩
  case round =>
    obtain ⟨j, m, hj, rfl, rfl, hm, hm1, hL, hB, hb⟩ := hrel
    have c5 := hB.cell 5
    by_cases hlt : j < ks.length
    · have hji : (j : Int) < (ks.length : Int) := by omega
      have hd : ks.drop j = ks[j] :: ks.drop (j + 1) := List.drop_eq_getElem_cons hlt
      by_cases hm0 : 0 ≤ m
      · have hL2 := hL.out
        rw [hd] at hL2
        simp only [leftL] at hL2
        rw [if_pos hm0] at hL2
        have HL2 := Lib.hid hL2
        have hlm := (leftE_nodes ks[j] m).1
        have hlm2 := leftE_low ks[j] m hm0
        obtain ⟨g, o, u0, u1, u2, u3, u4, u5, u6, u7, rfl, hr, x0, x1, x2, x3, x4, x5, x6, x7, -⟩ := (H3.out.ext hb).kid hlt
        have Hc := Lib.hid (Hih.out _ (List.getElem_mem hlt) _ wr m hr hm0 hm)
        obtain ⟨q, hq⟩ : ∃ q, leftE ks[j] m = q := ⟨_, rfl⟩
        rw [hq] at Hc hlm hlm2 HL2
        have HB := Lib.hid hB
        clear hr hd hL hL2 hq hB
        go_wp2_with fail
        refine Hc.out.mono ?_
        rintro e w2 ⟨rfl, hb2⟩
        go_wp2
        go_roundw
        case rel => exact ⟨j + 1, q, by omega, by go_num, rfl, by omega, hlm2, HL2, HB.out.ext hb2, ext_trans hb hb2⟩
        case measure => simp [intOf]; omega
      · have hm0' : m < 0 := by omega
        have HE : Hid (leftL ks (n - 1) = m) := Lib.hid (by rw [hL.out, hd]; simp only [leftL]; rw [if_neg hm0])
        clear hd hL hm0
        go_wp2
        go_ret
        exact ⟨by rw [HE.out]; rfl, hb⟩
    · obtain rfl : j = ks.length := by omega
      have HE : Hid (leftL ks (n - 1) = m) := Lib.hid (by rw [hL.out, List.drop_length]; rfl)
      clear hL
      go_wp2
      go_ret
      exact ⟨by rw [HE.out]; rfl, hb⟩

/-- too large to be asked -/
def heavyE (x : Ex) : Bool := decide (leftE x 150 < 0) || decide (1200 < (weightE x : Int))
theorem heavyE_nodes {x : Ex} (h : heavyE x = false) : nodesE x ≤ 150 := by
  unfold heavyE at h
  rw [Bool.or_eq_false_iff] at h
  have h1 := of_decide_eq_false h.1
  have h2 := (leftE_nodes x 150).2 (by omega)
  omega
set_option maxHeartbeats 4000000 in
theorem heavy8_any (S : Nat → Prop) (x : Ex) (cs : List Value) (w : World) (hr : ReR S w x cs) :
    Calls Tryd.prog 11 #[reV cs] w fun e w' => e = .returned (.bool (heavyE x)) ∧ Below w.heap.size w w' := by
  obtain ⟨k, q0, q1, q2, q3, ks, B, d, lo, hi, -, rfl, h1, h2, -, -, -, -, -⟩ := hr.fields
  unfold maxLen at h2
  have hB := Blk.new w 27 #[.int .i64 k, .int .u64 (q0 : Int), .int .u64 (q1 : Int), .int .u64 (q2 : Int), .int .u64 (q3 : Int), .slice B ks.length d, .int .i64 lo, .int .i64 hi]
  have hb1 : Below w.heap.size w (w.alloc (Obj.cells #[.int .i64 k, .int .u64 (q0 : Int), .int .u64 (q1 : Int), .int .u64 (q2 : Int), .int .u64 (q3 : Int), .slice B ks.length d, .int .i64 lo, .int .i64 hi] 27)) := (Below.refl _ _).alloc (Nat.le_refl _) _
  have HW := Lib.hid (weight8_any S x _ _ 150 (hr.ext hb1) (by omega) (by omega))
  have Hr1 := Lib.hid (hr.ext hb1)
  have Hb1 := Lib.hid hb1
  have HB := Lib.hid hB
  have hn := leftE_nodes x 150
  have hlow := leftE_low x 150 (by omega)
  have hex : heavyE x = (decide (leftE x 150 < 0) || decide (1200 < (weightE x : Int))) := rfl
  obtain ⟨q, hq⟩ : ∃ q, leftE x 150 = q := ⟨_, rfl⟩
  rw [hq] at HW hn hlow hex
  have hq2 : q ≤ 150 := hn.1
  have Hn := Lib.hid hn.2
  obtain ⟨t, hte⟩ : ∃ t, heavyE x = t := ⟨_, rfl⟩
  rw [hte] at hex ⊢
  clear hr hb1 hB hn hq hte
  show Calls Tryd.prog 11 #[.agg #[.int .i64 k, .int .u64 (q0 : Int), .int .u64 (q1 : Int), .int .u64 (q2 : Int), .int .u64 (q3 : Int), .slice B ks.length d, .int .i64 lo, .int .i64 hi]] w _
  have Hex := Lib.hid hex
  clear hex
  go_enter Tryd.func11, Tryd.ntmps11
  go_wp2_with fail
  refine HW.out.mono ?_
  rintro e w2 ⟨rfl, hb2⟩
  by_cases h0 : q < 0
  · go_wp2
    go_ret
    exact ⟨by rw [Hex.out, decide_eq_true h0]; rfl, ext_trans Hb1.out hb2⟩
  · have hnn : nodesE x ≤ 150 := by have := Hn.out (by omega); omega
    have hwl := weightE_le x
    have HG := Lib.hid (rweight_any S x _ w2 (Hr1.out.ext hb2) (by omega))
    have HB2 := Lib.hid (HB.out.ext hb2)
    have Hb2 := Lib.hid (ext_trans Hb1.out hb2)
    obtain ⟨z, hz⟩ : ∃ z, weightE x = z := ⟨_, rfl⟩
    have Hex2 : Hid (t = decide (1200 < (z : Int))) := Lib.hid (by rw [Hex.out, decide_eq_false h0, hz]; rfl)
    rw [hz] at HG hwl
    have Hwl := Lib.hid hwl
    clear hz hb2 hwl Hex HB Hn HW
    have c0 := HB2.out.cell 0
    have c1 := HB2.out.cell 1
    have c2 := HB2.out.cell 2
    have c3 := HB2.out.cell 3
    have c4 := HB2.out.cell 4
    have c5 := HB2.out.cell 5
    have c6 := HB2.out.cell 6
    have c7 := HB2.out.cell 7
    go_wp2_with fail
    refine HG.out.mono ?_
    rintro e w3 ⟨rfl, hb3⟩
    go_wp2
    go_ret
    exact ⟨ret_bool (by rw [Hex2.out, show decide (q < 0) = false from decide_eq_false (by omega), Bool.false_or]), ext_trans Hb2.out hb3⟩
end Go.Proofs.YtgknlegomoaoeaaDoor

/-
  Contracts of the reference's reader of texts: fail, next, in, half. No statement of the seat is proved here.
-/
namespace Go.Proofs.YtgknlegomoaoeaaDoor
open Go Go.RowKit
set_option maxRecDepth 100000


/-- no expression, as cells -/
def zeroReR : Array Value := #[.int .i64 0, .int .u64 0, .int .u64 0, .int .u64 0, .int .u64 0, .slice none 0 0, .int .i64 0, .int .i64 0]
theorem zeroRe_oneR : zeroReR.all (·.oneCell') = true := by simp [zeroReR, Value.oneCell']
/-- a reader in memory -/
def RdS (w : World) (g : Nat) (s : ByteArray) (p b : Int) : Prop := Blk w g 98 #[.string s, .int .i64 p, .int .i64 b]
section
variable {S : Nat → Prop} {w w' : World} {g : Nat} {s : ByteArray} {p b : Int}
theorem RdS.blk (h : RdS w g s p b) : Blk w g 98 #[.string s, .int .i64 p, .int .i64 b] := h
theorem RdS.c0 (h : RdS w g s p b) : w.cell? ⟨g, 0, none⟩ = some (.string s) := Blk.cell h 0
theorem RdS.c1 (h : RdS w g s p b) : w.cell? ⟨g, 1, none⟩ = some (.int .i64 p) := Blk.cell h 1
theorem RdS.c2 (h : RdS w g s p b) : w.cell? ⟨g, 2, none⟩ = some (.int .i64 b) := Blk.cell h 2
theorem RdS.f1 (h : RdS w g s p b) : w.frozen? ⟨g, 1, none⟩ = false := Blk.free h 1
theorem RdS.f2 (h : RdS w g s p b) : w.frozen? ⟨g, 2, none⟩ = false := Blk.free h 2
theorem RdS.lt (h : RdS w g s p b) : g < w.heap.size := Blk.lt h
theorem RdS.alloc (h : RdS w g s p b) (o : Obj) : RdS (w.alloc o) g s p b := Blk.alloc h o
theorem RdS.ext (h : RdS w g s p b) (hb : Below w.heap.size w w') : RdS w' g s p b := Blk.ext h hb
theorem RdS.only (h : RdS w g s p b) (ho : Only S w w') (hn : ¬ S g) : RdS w' g s p b := Blk.only h ho hn
theorem RdS.set1 (h : RdS w g s p b) (q : Int) : RdS (w.setCell ⟨g, 1, none⟩ (.int .i64 q)) g s q b := Blk.put h 1 _
theorem RdS.set2 (h : RdS w g s p b) (q : Int) : RdS (w.setCell ⟨g, 2, none⟩ (.int .i64 q)) g s p q := Blk.put h 2 _
theorem RdS.far (h : RdS w g s p b) {q : Addr} (hq : g ≠ q.block) (u : Value) : RdS (w.setCell q u) g s p b := Blk.far h hq u
theorem RdS.drewN (h : RdS w g s p b) (n : Nat) : RdS (w.drewN n) g s p b := h
theorem RdS.to {q d : Int} (h : RdS w g s p b) (e : p = q) (e2 : b = d) : RdS w g s q d := by rw [← e, ← e2]; exact h
theorem RdS.drew (h : RdS w g s p b) : RdS w.drew g s p b := h
end

set_option maxHeartbeats 1000000 in
theorem rfail_ok (w : World) (g : Nat) (s : ByteArray) (p a : Int) (h : RdS w g s p (-1)) :
    Calls Tryd.prog 59 #[.pointer (some ⟨g, 0, none⟩), .int .i64 a] w fun e w' => e = .returned (.agg zeroReR) ∧ RdS w' g s p a ∧ Only (· = g) w w' := by
  have h1 := h.alloc (Obj.cells zeroReR 27)
  have hlt := h.lt
  have x2 := h1.c2
  have y2 := h1.f2
  have hB := Blk.new (w.setCell ⟨g, 2, none⟩ (.int .i64 a)) 27 zeroReR
  rw [show (w.setCell ⟨g, 2, none⟩ (.int .i64 a)).heap.size = w.heap.size by simp [World.setCell]] at hB
  have h2 := (h.set2 a).alloc (Obj.cells zeroReR 27)
  have ho : Only (fun x => x = g) w ((w.setCell ⟨g, 2, none⟩ (.int .i64 a)).alloc (Obj.cells zeroReR 27)) := ((Only.refl (fun x => x = g) w).setCell (p := ⟨g, 2, none⟩) (.inl rfl) _).alloc _
  have Hh := Lib.hid h2
  have HB := Lib.hid hB
  have Ho := Lib.hid ho
  clear h1 hB h2 ho h
  unfold zeroReR at x2 y2
  go_enter Tryd.func59, Tryd.ntmps59
  go_wp2
  refine bodyPost_ret (results_re rfl _ _ w.heap.size 27 zeroReR rfl HB.out rfl) rfl ⟨rfl, Hh.out, Ho.out⟩

set_option maxHeartbeats 1000000 in
theorem rfail_bad (w : World) (g : Nat) (s : ByteArray) (p b a : Int) (hb : 0 ≤ b) (h : RdS w g s p b) :
    Calls Tryd.prog 59 #[.pointer (some ⟨g, 0, none⟩), .int .i64 a] w fun e w' => e = .returned (.agg zeroReR) ∧ RdS w' g s p b ∧ Only (· = g) w w' := by
  have h1 := h.alloc (Obj.cells zeroReR 27)
  have hlt := h.lt
  have x2 := h1.c2
  have hB := Blk.new w 27 zeroReR
  have Hh := Lib.hid h1
  have HB := Lib.hid hB
  clear h1 hB h
  unfold zeroReR at x2
  go_enter Tryd.func59, Tryd.ntmps59
  go_wp2
  refine bodyPost_ret (results_re rfl _ _ w.heap.size 27 zeroReR rfl HB.out rfl) rfl ⟨rfl, Hh.out, (Only.refl _ w).alloc _⟩

/-! ### where a reader stands -/
theorem nats_dropR (s : ByteArray) (p : Nat) (h : p < s.size) : (natsOf s).drop p = (s[p]'h).toNat :: (natsOf s).drop (p + 1) := by
  have hl : p < (natsOf s).length := by rw [natsOf_len]; exact h
  rw [List.drop_eq_getElem_cons hl, natsOf_at s p h]
theorem nats_endR (s : ByteArray) : (natsOf s).drop s.size = [] := List.drop_of_length_le (by rw [natsOf_len]; exact Nat.le_refl _)
theorem nats_lenR (s : ByteArray) (p : Nat) : ((natsOf s).drop p).length = s.size - p := by rw [List.length_drop, natsOf_len]

/-- the byte that is next is this one -/
def isNextR (c : Nat) (l : List Nat) : Bool := l.head? == some c
set_option maxHeartbeats 1000000 in
theorem rnext_bad (w : World) (g : Nat) (s : ByteArray) (p b : Int) (c : Nat) (hb : 0 ≤ b) (h : RdS w g s p b) :
    Calls Tryd.prog 75 #[.pointer (some ⟨g, 0, none⟩), .int .u8 (c : Int)] w fun e w' => e = .returned (.bool false) ∧ ∃ n, w' = w.drewN n := by
  have x0 := h.c0
  have x1 := h.c1
  have x2 := h.c2
  have hbd : decide (b < 0) = false := by simp; omega
  clear h
  go_enter Tryd.func75, Tryd.ntmps75
  go_wp2
  go_quiet (fail)
  go_wp2
  go_ret
  exact ⟨rfl, _, rfl⟩
set_option maxHeartbeats 1000000 in
theorem rnext_end (w : World) (g : Nat) (s : ByteArray) (c : Nat) (h : RdS w g s (s.size : Int) (-1)) :
    Calls Tryd.prog 75 #[.pointer (some ⟨g, 0, none⟩), .int .u8 (c : Int)] w fun e w' => e = .returned (.bool false) ∧ ∃ n, w' = w.drewN n := by
  have x0 := h.c0
  have x1 := h.c1
  have x2 := h.c2
  clear h
  go_enter Tryd.func75, Tryd.ntmps75
  go_wp2
  go_quiet (fail)
  go_wp2
  go_ret
  exact ⟨rfl, _, rfl⟩
set_option maxHeartbeats 1000000 in
theorem rnext_at (w : World) (g : Nat) (s : ByteArray) (p c : Nat) (hs : s.size ≤ 1000000) (hp : p < s.size) (h : RdS w g s (p : Int) (-1)) :
    Calls Tryd.prog 75 #[.pointer (some ⟨g, 0, none⟩), .int .u8 (c : Int)] w fun e w' => e = .returned (.bool (decide ((s[p]'hp).toNat = c))) ∧ ∃ n, w' = w.drewN n := by
  have x0 := h.c0
  have x1 := h.c1
  have x2 := h.c2
  have hpi : (p : Int) < (s.size : Int) := by omega
  have hpd : decide ((p : Int) < (s.size : Int)) = true := by simpa using hp
  have hp0 : (0 : Int) ≤ (p : Int) := by omega
  have hsi : (s.size : Int) ≤ 1000000 := by omega
  clear h
  go_enter Tryd.func75, Tryd.ntmps75
  go_wp2
  go_quiet (fail)
  go_wp2
  go_ret
  exact ⟨ret_bool (by rw [Bool.eq_iff_iff]; simp; omega), _, rfl⟩
/-- Is the next byte this one? -/
theorem rnext_any (w : World) (g : Nat) (s : ByteArray) (p c : Nat) (hs : s.size ≤ 1000000) (hp : p ≤ s.size) (h : RdS w g s (p : Int) (-1)) :
    Calls Tryd.prog 75 #[.pointer (some ⟨g, 0, none⟩), .int .u8 (c : Int)] w fun e w' => e = .returned (.bool (isNextR c ((natsOf s).drop p))) ∧ ∃ n, w' = w.drewN n := by
  rcases Nat.lt_or_ge p s.size with hlt | hge
  · refine (rnext_at w g s p c hs hlt h).mono fun e w' ⟨h1, h2⟩ => ⟨?_, h2⟩
    rw [h1, nats_dropR s p hlt, isNextR, List.head?_cons]
    exact ret_bool (by rw [Bool.eq_iff_iff]; simp)
  · obtain rfl : p = s.size := by omega
    refine (rnext_end w g s c h).mono fun e w' ⟨h1, h2⟩ => ⟨?_, h2⟩
    rw [h1, nats_endR]
    rfl
end Go.Proofs.YtgknlegomoaoeaaDoor

/-
  Contracts of the reference's reader of texts: in, signs, half, stroke, one. No statement of the seat is proved here.
-/
namespace Go.Proofs.YtgknlegomoaoeaaDoor
open Go Go.RowKit
set_option maxRecDepth 100000


set_option maxHeartbeats 1000000 in
theorem rin_any (c : Nat) (t : ByteArray) (ht : t.size ≤ 1000000) (w : World) : Calls Tryd.prog 102 #[.int .u8 (c : Int), .string t] w fun e w' => e = .returned (.bool ((natsOf t).contains c)) ∧ w = w' := by
  have hti : (t.size : Int) ≤ 1000000 := by omega
  have hln := natsOf_len t
  go_enter Tryd.func102, Tryd.ntmps102
  go_wp2
  go_loop [5] (fun i => ∃ k : Nat, k ≤ t.size ∧ i = .int .i64 (k : Int) ∧ Hid (((natsOf t).take k).contains c = false)) (fun i => t.size - (intOf i).toNat)
  case atStart => exact ⟨0, Nat.zero_le _, rfl, Lib.hid (by simp)⟩
  case round =>
    obtain ⟨k, hk, rfl, hno⟩ := hrel
    by_cases hlt : k < t.size
    · have hki : (k : Int) < (t.size : Int) := by omega
      have hkl : k < (natsOf t).length := by omega
      have hbk := natsOf_at t k hlt
      by_cases he : (t[k]'hlt).toNat = c
      · have Hy : Hid ((natsOf t).contains c = true) := Lib.hid (by rw [List.contains_iff_mem, ← he, ← hbk]; exact List.getElem_mem hkl)
        have hei : (((t[k]'hlt).toNat : Int) == (c : Int)) = true := by rw [beq_iff_eq]; omega
        clear hbk he
        go_wp2
        all_goals
          go_ret
          exact ⟨ret_bool (by have := Hy.out; simp at this ⊢; exact this), rfl⟩
      · have Hn : Hid (((natsOf t).take (k + 1)).contains c = false) := Lib.hid (by
          rw [List.take_succ_eq_append_getElem hkl]
          simp only [List.contains_eq_mem, List.mem_append, List.mem_singleton, decide_eq_false_iff_not, not_or]
          refine ⟨by have := hno.out; simpa using this, by rw [hbk]; omega⟩)
        have hei : (((t[k]'hlt).toNat : Int) == (c : Int)) = false := by rw [beq_eq_false_iff_ne]; omega
        clear hbk he
        go_wp2
        go_round
        case rel => exact ⟨k + 1, by omega, by go_num, Hn⟩
        case measure => simp [intOf]; omega
    · obtain rfl : k = t.size := by omega
      have Hn : Hid ((natsOf t).contains c = false) := Lib.hid (by have := hno.out; rwa [List.take_of_length_le (by omega)] at this)
      go_wp2
      go_ret
      exact ⟨ret_bool (by have := Hn.out; simp at this ⊢; exact this), rfl⟩

theorem rsigns_any (w : World) : Calls Tryd.prog 115 #[] w fun e w' => e = .returned (.string (bsN signsL)) ∧ w = w' := by
  go_enter Tryd.func115, Tryd.ntmps115
  go_wp2
  go_ret
  exact ⟨rfl, rfl⟩
theorem nats_bsNR {l : List Nat} (h : ∀ b ∈ l, b < 256) : natsOf (bsN l) = l := by
  unfold natsOf bsN
  simp only [List.map_map]
  conv => rhs; rw [← List.map_id l]
  refine List.map_congr_left fun b hb => ?_
  have := h b hb
  simp only [Function.comp, Nat.toUInt8, UInt8.toNat_ofNat', id]
  omega
theorem rins_any (c : Nat) (w : World) : Calls Tryd.prog 102 #[.int .u8 (c : Int), .string (bsN signsL)] w fun e w' => e = .returned (.bool (inS c)) ∧ w = w' := by
  have := rin_any c (bsN signsL) (by rw [bsN_size]; decide) w
  rwa [nats_bsNR (by decide)] at this

/-- a digit of sixteen, or -1 -/
def halfIR (c : Nat) : Int := match halfD c with | none => -1 | some x => (x : Int)
set_option maxHeartbeats 1000000 in
theorem rhalf_any (c : Nat) (hc : c < 256) (w : World) : Calls Tryd.prog 119 #[.int .u8 (c : Int)] w fun e w' => e = .returned (.int .i64 (halfIR c)) ∧ w = w' := by
  have h : c < 48 ∨ (48 ≤ c ∧ c ≤ 57) ∨ (58 ≤ c ∧ c < 97) ∨ (97 ≤ c ∧ c ≤ 102) ∨ 103 ≤ c := by omega
  obtain ⟨r, hr⟩ : ∃ r, halfIR c = r := ⟨_, rfl⟩
  rw [hr]
  unfold halfIR halfD at hr
  rcases h with h | h | h | h | h
  · rw [if_neg (by omega), if_neg (by omega)] at hr
    have Hr := Lib.hid hr
    clear hr
    go_enter Tryd.func119, Tryd.ntmps119
    go_wp2
    all_goals (go_ret; exact ⟨ret_eq (by rw [← Hr.out]), rfl⟩)
  · rw [if_pos h] at hr
    have Hr := Lib.hid hr
    clear hr
    go_enter Tryd.func119, Tryd.ntmps119
    go_wp2
    all_goals (go_ret; exact ⟨ret_eq (by rw [← Hr.out]; show _ = ((c - 48 : Nat) : Int); omega), rfl⟩)
  · rw [if_neg (by omega), if_neg (by omega)] at hr
    have Hr := Lib.hid hr
    clear hr
    go_enter Tryd.func119, Tryd.ntmps119
    go_wp2
    all_goals (go_ret; exact ⟨ret_eq (by rw [← Hr.out]), rfl⟩)
  · rw [if_neg (by omega), if_pos h] at hr
    have Hr := Lib.hid hr
    clear hr
    go_enter Tryd.func119, Tryd.ntmps119
    go_wp2
    all_goals (go_ret; exact ⟨ret_eq (by rw [← Hr.out]; show _ = ((c - 87 : Nat) : Int); omega), rfl⟩)
  · rw [if_neg (by omega), if_neg (by omega)] at hr
    have Hr := Lib.hid hr
    clear hr
    go_enter Tryd.func119, Tryd.ntmps119
    go_wp2
    all_goals (go_ret; exact ⟨ret_eq (by rw [← Hr.out]), rfl⟩)

/-- a call that leaves every world as it was, behind draws -/
theorem calls_drawnR {P : Program} {f : FuncId} {args : Array Value} {v : Value} (h : ∀ W, Calls P f args W fun e w' => e = .returned v ∧ w' = W) (w : World) (a n : Nat) :
    Calls P f args (w.drewN (a + n)) fun e w' => e = .returned v ∧ ∃ m, w' = w.drewN (a + m) := (h _).mono fun _ _ ⟨he, hw⟩ => ⟨he, n, hw⟩

/-! ### what a method leaves -/
/-- Behind a method that was to take 'res': if it is taken, the reader stands behind it, and the answer is as 'V' says; if not, the error's place is marked, the reader stands at most 'K' behind the text, and whatever is answered is as 'U' says. -/
def TookK (K : Nat) {α : Type} (w : World) (g : Nat) (s : ByteArray) (res : PR α) (V : α → Value → World → Prop) (U : Value → World → Prop) (e : Ending) (w' : World) : Prop :=
  Only (fun x => x = g) w w' ∧ ∃ v, e = .returned v ∧ match res with
    | .ok x rest => V x v w' ∧ ∃ p : Nat, p ≤ s.size ∧ rest = (natsOf s).drop p ∧ RdS w' g s (p : Int) (-1)
    | .bad left => U v w' ∧ left ≤ s.size ∧ ∃ p : Nat, p ≤ s.size + K ∧ RdS w' g s (p : Int) ((s.size - left : Nat) : Int)
theorem TookK.ok {K : Nat} {α : Type} {w : World} {g : Nat} {s : ByteArray} {x : α} {rest : List Nat} {V : α → Value → World → Prop} {U : Value → World → Prop} {v : Value} {w' : World} {p : Nat}
    (ho : Only (fun x => x = g) w w') (hv : V x v w') (hp : p ≤ s.size) (hr : rest = (natsOf s).drop p) (h : RdS w' g s (p : Int) (-1)) : TookK K w g s (.ok x rest) V U (.returned v) w' :=
  ⟨ho, v, rfl, hv, p, hp, hr, h⟩
theorem TookK.bad {K : Nat} {α : Type} {w : World} {g : Nat} {s : ByteArray} {left : Nat} {V : α → Value → World → Prop} {U : Value → World → Prop} {v : Value} {w' : World} {p : Nat} {b : Int}
    (ho : Only (fun x => x = g) w w') (hv : U v w') (hl : left ≤ s.size) (hp : p ≤ s.size + K) (hb : b = ((s.size - left : Nat) : Int)) (h : RdS w' g s (p : Int) b) : TookK K (α := α) w g s (.bad left) V U (.returned v) w' :=
  ⟨ho, v, rfl, hv, hl, p, hp, by rw [← hb]; exact h⟩
/-- the same, eight behind at most -/
def Took {α : Type} (w : World) (g : Nat) (s : ByteArray) (res : PR α) (V : α → Value → World → Prop) (U : Value → World → Prop) (e : Ending) (w' : World) : Prop := TookK 8 w g s res V U e w'
theorem Took.ok {α : Type} {w : World} {g : Nat} {s : ByteArray} {x : α} {rest : List Nat} {V : α → Value → World → Prop} {U : Value → World → Prop} {v : Value} {w' : World} {p : Nat}
    (ho : Only (fun x => x = g) w w') (hv : V x v w') (hp : p ≤ s.size) (hr : rest = (natsOf s).drop p) (h : RdS w' g s (p : Int) (-1)) : Took w g s (.ok x rest) V U (.returned v) w' := TookK.ok ho hv hp hr h
theorem Took.bad {α : Type} {w : World} {g : Nat} {s : ByteArray} {left : Nat} {V : α → Value → World → Prop} {U : Value → World → Prop} {v : Value} {w' : World} {p : Nat} {b : Int}
    (ho : Only (fun x => x = g) w w') (hv : U v w') (hl : left ≤ s.size) (hp : p ≤ s.size + 8) (hb : b = ((s.size - left : Nat) : Int)) (h : RdS w' g s (p : Int) b) : Took (α := α) w g s (.bad left) V U (.returned v) w' := TookK.bad ho hv hl hp hb h
/-- an answer that is a byte -/
def isBR (b : Nat) (v : Value) (_ : World) : Prop := v = .int .u8 (b : Int) ∧ b < 256
def anyBR (v : Value) (_ : World) : Prop := ∃ b : Nat, v = .int .u8 (b : Int) ∧ b < 256
end Go.Proofs.YtgknlegomoaoeaaDoor

/-
  Contract of the reference's stroke. No statement of the seat is proved here.
-/
namespace Go.Proofs.YtgknlegomoaoeaaDoor
open Go Go.RowKit
set_option maxRecDepth 100000


set_option maxRecDepth 100000 in
set_option maxHeartbeats 4000000 in
theorem rstroke_end (w : World) (g : Nat) (s : ByteArray) (p : Nat) (hs : s.size ≤ 1000000) (hp : p + 1 = s.size) (h : RdS w g s (p : Int) (-1)) :
    Calls Tryd.prog 116 #[.pointer (some ⟨g, 0, none⟩)] w (TookK 2 w g s (strokeP ((natsOf s).drop (p + 1))) isBR anyBR) := by
  have x1 := h.c1
  have f1 := h.f1
  have h1 := h.set1 ((p : Int) + 1)
  have y0 := h1.c0
  have y1 := h1.c1
  have y2 := h1.c2
  have ho1 : Only (fun x => x = g) w (w.setCell ⟨g, 1, none⟩ (.int .i64 ((p : Int) + 1))) := (Only.refl (fun x => x = g) w).setCell (p := ⟨g, 1, none⟩) (.inl rfl) _
  have H1 := Lib.hid h1
  have Ho1 := Lib.hid ho1
  have hpi : (p : Int) + 1 ≤ 1000000 := by omega
  have hse : (s.size : Int) = (p : Int) + 1 := by omega
  have hqd : decide ((s.size : Int) ≤ (p : Int) + 1) = true := by simp; omega
  have he : strokeP ((natsOf s).drop (p + 1)) = .bad 0 := by rw [hp, nats_endR]; rfl
  rw [he]
  have Hp := Lib.hid hp
  clear h h1 ho1 he hp hse
  go_enter Tryd.func116, Tryd.ntmps116
  go_wp2
  go_quiet (fail)
  go_wp2_with fail
  refine (rfail_ok _ g s ((p : Int) + 1) ((p : Int) + 1) (H1.out.drewN _)).mono ?_
  rintro e w2 ⟨rfl, h2, ho2⟩
  go_wp2
  go_ret
  exact TookK.bad (K := 2) (p := p + 1) ((Ho1.out.drewN _).trans ho2 (fun _ _ h => h)) ⟨0, rfl, by omega⟩ (by omega) (by have := Hp.out; omega) (by have := Hp.out; omega) (RdS.to h2 (by omega) rfl)

/-- a letter that is told by a stroke -/
def ntrOk (c : Nat) (k : Int) : Prop := (c = 110 → k = 0) ∧ (c = 116 → k ≤ 1) ∧ (c = 114 → k ≤ 2)

/-- two digits of sixteen, so far -/
def HexAt (l : List Nat) (k : Int) (n : Nat) : Prop :=
  (k = 1 ∧ n = 0) ∨ (k = 2 ∧ ∃ a r, l = a :: r ∧ halfD a = some n) ∨ (k = 3 ∧ ∃ a b r x y, l = a :: b :: r ∧ halfD a = some x ∧ halfD b = some y ∧ n = 16 * x + y)
theorem half_ltR {a x : Nat} (h : halfD a = some x) : x < 16 := by
  unfold halfD at h
  split at h
  · injection h; omega
  · split at h
    · injection h; omega
    · cases h

set_option maxRecDepth 100000 in
set_option maxHeartbeats 8000000 in
theorem rstroke_at (w : World) (g : Nat) (s : ByteArray) (p : Nat) (hs : s.size ≤ 1000000) (hq : p + 1 < s.size) (h : RdS w g s (p : Int) (-1)) :
    Calls Tryd.prog 116 #[.pointer (some ⟨g, 0, none⟩)] w (TookK 2 w g s (strokeP ((natsOf s).drop (p + 1))) isBR anyBR) := by
  have hsi : (s.size : Int) ≤ 1000000 := by omega
  have x1 := h.c1
  have f1 := h.f1
  have hlt := h.lt
  have h1 := h.set1 ((p : Int) + 1)
  have y0 := h1.c0
  have y1 := h1.c1
  have y2 := h1.c2
  have hpi : (p : Int) < (s.size : Int) := by omega
  have ho1 : Only (fun x => x = g) w (w.setCell ⟨g, 1, none⟩ (.int .i64 ((p : Int) + 1))) := (Only.refl (fun x => x = g) w).setCell (p := ⟨g, 1, none⟩) (.inl rfl) _
  have H1 := Lib.hid h1
  have Ho1 := Lib.hid ho1
  clear h h1 ho1
  have hqi : (p : Int) + 1 < (s.size : Int) := by omega
  have hqd : decide ((s.size : Int) ≤ (p : Int) + 1) = false := by simp; omega
  obtain ⟨c, hc⟩ : ∃ c, (s[p + 1]'hq).toNat = c := ⟨_, rfl⟩
  have hc256 : c < 256 := by rw [← hc]; exact (s[p + 1]'hq).toNat_lt
  have hdr : (natsOf s).drop (p + 1) = c :: (natsOf s).drop (p + 2) := by rw [nats_dropR s (p + 1) hq, hc]
  rw [hdr]
  clear hdr
  go_enter Tryd.func116, Tryd.ntmps116
  go_wp2
  go_quiet (fail)
  go_wp2
  go_quiet (fail)
  go_wp2
  go_loopw [5] (fun i wr => ∃ k : Int, (0 ≤ k ∧ k ≤ 3) ∧ i = .int .i64 k ∧ Hid (ntrOk c k) ∧ RdS wr g s ((p : Int) + 1) (-1) ∧ Only (fun x => x = g) w wr ∧ Blk wr w.heap.size 5 #[.int .u8 10, .int .u8 9, .int .u8 13]) (fun i _ => 3 - (intOf i).toNat)
  case atStart =>
    refine ⟨0, ⟨by omega, by omega⟩, rfl, Lib.hid ⟨by omega, by omega, by omega⟩, (H1.out.drewN _).alloc _, (Ho1.out.drewN _).alloc _, ?_⟩
    have := Blk.new ((w.setCell ⟨g, 1, none⟩ (.int .i64 ((p : Int) + 1))).drewN 0) 5 #[.int .u8 10, .int .u8 9, .int .u8 13]
    rw [show ((w.setCell ⟨g, 1, none⟩ (.int .i64 ((p : Int) + 1))).drewN 0).heap.size = w.heap.size by simp [World.setCell, World.drewN]] at this
    exact this
  case round =>
    obtain ⟨k, hk, rfl, hntr, hR, ho, hB⟩ := hrel
    clear x1 f1 y0 y1 y2
    have e0 : ((⟨#[110, 116, 114]⟩ : ByteArray)[0]'(by decide)).toNat = 110 := rfl
    have e1 : ((⟨#[110, 116, 114]⟩ : ByteArray)[1]'(by decide)).toNat = 116 := rfl
    have e2 : ((⟨#[110, 116, 114]⟩ : ByteArray)[2]'(by decide)).toNat = 114 := rfl
    have x0 := hR.c0
    have x1 := hR.c1
    have f1 := hR.f1
    have z0 := hB.cell 0
    have z1 := hB.cell 1
    have z2 := hB.cell 2
    have hR1 := hR.set1 ((p : Int) + 1 + 1)
    have hw1 : Only (fun x => x = g) w (wr.setCell ⟨g, 1, none⟩ (.int .i64 ((p : Int) + 1 + 1))) := ho.setCell (p := ⟨g, 1, none⟩) (.inl rfl) _
    have hB1 := hB.far (p := ⟨g, 1, none⟩) (by simp; omega) (.int .i64 ((p : Int) + 1 + 1))
    have v0 := hB1.cell 0
    have v1 := hB1.cell 1
    have v2 := hB1.cell 2
    have HR := Lib.hid hR
    have Ho := Lib.hid ho
    have HB := Lib.hid hB
    have HR1 := Lib.hid hR1
    have HW1 := Lib.hid hw1
    clear hR ho hB hR1 hw1 hB1
    rcases (show k = 0 ∨ k = 1 ∨ k = 2 ∨ k = 3 by omega) with rfl | rfl | rfl | rfl
    · by_cases h0 : c = 110
      · subst h0
        have hsp : strokeP (110 :: (natsOf s).drop (p + 2)) = .ok 10 ((natsOf s).drop (p + 2)) := rfl
        go_wp2
        go_ret
        exact TookK.ok (K := 2) (p := p + 2) HW1.out ⟨rfl, by omega⟩ (by omega) rfl (RdS.to HR1.out (by omega) rfl)
      · have hb : ((c : Int) == 110) = false := by rw [beq_eq_false_iff_ne]; omega
        go_wp2
        go_roundw
        case rel => exact ⟨1, ⟨by omega, by omega⟩, rfl, Lib.hid ⟨by omega, by omega, by omega⟩, HR.out, Ho.out, HB.out⟩
        case measure => simp [intOf]
    · by_cases h0 : c = 116
      · subst h0
        have hsp : strokeP (116 :: (natsOf s).drop (p + 2)) = .ok 9 ((natsOf s).drop (p + 2)) := rfl
        go_wp2
        go_ret
        exact TookK.ok (K := 2) (p := p + 2) HW1.out ⟨rfl, by omega⟩ (by omega) rfl (RdS.to HR1.out (by omega) rfl)
      · have hb : ((c : Int) == 116) = false := by rw [beq_eq_false_iff_ne]; omega
        have hn := hntr.out
        go_wp2
        go_roundw
        case rel => exact ⟨2, ⟨by omega, by omega⟩, rfl, Lib.hid ⟨by have := hn.1; omega, by omega, by omega⟩, HR.out, Ho.out, HB.out⟩
        case measure => simp [intOf]
    · by_cases h0 : c = 114
      · subst h0
        have hsp : strokeP (114 :: (natsOf s).drop (p + 2)) = .ok 13 ((natsOf s).drop (p + 2)) := rfl
        go_wp2
        go_ret
        exact TookK.ok (K := 2) (p := p + 2) HW1.out ⟨rfl, by omega⟩ (by omega) rfl (RdS.to HR1.out (by omega) rfl)
      · have hb : ((c : Int) == 114) = false := by rw [beq_eq_false_iff_ne]; omega
        have hn := hntr.out
        go_wp2
        go_roundw
        case rel => exact ⟨3, ⟨by omega, by omega⟩, rfl, Lib.hid ⟨by have := hn.1; omega, by have := hn.2.1; omega, by omega⟩, HR.out, Ho.out, HB.out⟩
        case measure => simp [intOf]
    · have hn110 : c ≠ 110 := fun e => by have := hntr.out.1 e; omega
      have hn116 : c ≠ 116 := fun e => by have := hntr.out.2.1 e; omega
      have hn114 : c ≠ 114 := fun e => by have := hntr.out.2.2 e; omega
      by_cases h120 : c = 120
      · subst h120
        have hsp : strokeP (120 :: (natsOf s).drop (p + 2)) = hexP ((natsOf s).drop (p + 2)) := rfl
        have HSP := Lib.hid hsp
        clear hsp hn110 hn116 hn114 hntr z0 z1 z2 v0 v1 v2 e0 e1 e2 hk x0 x1 f1
        go_wp2
        go_loopw [6, 7] (fun nv i wq => ∃ (k : Int) (n : Nat), (1 ≤ k ∧ k ≤ 3) ∧ i = .int .i64 k ∧ nv = .int .i64 (n : Int) ∧ n ≤ 255 ∧ Hid (HexAt ((natsOf s).drop (p + 2)) k n) ∧ RdS wq g s ((p : Int) + 1) (-1) ∧ Only (fun x => x = g) w wq) (fun _ i _ => 4 - (intOf i).toNat)
        case atStart => exact ⟨1, 0, ⟨by omega, by omega⟩, rfl, rfl, by omega, Lib.hid (.inl ⟨rfl, rfl⟩), HR.out, Ho.out⟩
        case round =>
          obtain ⟨k, n, hk, rfl, rfl, hn, hhex, hR, ho⟩ := hrel
          clear HR Ho HB HR1 HW1
          have x0 := hR.c0
          have x1 := hR.c1
          have f1 := hR.f1
          have HX : Hid (∀ (W : World) (b : Int), RdS W g s ((p : Int) + 1) b → W.cell? ⟨g, 0, none⟩ = some (.string s) ∧ W.cell? ⟨g, 1, none⟩ = some (.int .i64 ((p : Int) + 1))) := Lib.hid fun W b h => ⟨h.c0, h.c1⟩
          have HR := Lib.hid hR
          have Ho := Lib.hid ho
          have hlen2 := nats_lenR s (p + 2)
          have hlen3 := nats_lenR s (p + 3)
          clear hR ho
          rcases (show k = 1 ∨ k = 2 ∨ k = 3 by omega) with rfl | rfl | rfl
          · have hn0 : n = 0 := by
              rcases hhex.out with ⟨_, h⟩ | ⟨h, _⟩ | ⟨h, _⟩
              · exact h
              · omega
              · omega
            subst hn0
            clear hhex
            rcases Nat.lt_or_ge (p + 2) s.size with hj | hj
            · have hz0 : (((0 : Nat) : Int)) = 0 := rfl
              have hj' : p + 1 + 1 < s.size := by omega
              obtain ⟨b, hb⟩ : ∃ b, (s[p + 1 + 1]'hj').toNat = b := ⟨_, rfl⟩
              have hb256 : b < 256 := by rw [← hb]; exact (s[p + 1 + 1]'hj').toNat_lt
              have hdb : (natsOf s).drop (p + 2) = b :: (natsOf s).drop (p + 3) := by rw [show p + 2 = p + 1 + 1 by omega, nats_dropR s (p + 1 + 1) hj', hb]
              have hji : (p : Int) + 1 + 1 < (s.size : Int) := by omega
              have hq2 : decide ((s.size : Int) ≤ (p : Int) + 1 + 1) = false := by simp; omega
              have hwr : IntKind.i64.wrap ((p : Int) + 1 + 1) = (p : Int) + 1 + 1 := IntWalk.i64_in _ (by omega)
              have htn : ((p : Int) + 1 + 1).toNat = p + 1 + 1 := by omega
              have hpp : (0 : Int) ≤ (p : Int) + 1 + 1 := by omega
              have Hse : Hid (p + 2 ≤ s.size) := Lib.hid (by omega)
              cases hx : halfD b with
              | none =>
                have HH : Hid (∀ W, Calls Tryd.prog 119 #[.int .u8 (b : Int)] W fun e w' => e = .returned (.int .i64 (-1)) ∧ w' = W) := Lib.hid fun W => (rhalf_any b hb256 W).mono fun e w' ⟨h1, h2⟩ => ⟨by rw [h1, halfIR, hx], h2.symm⟩
                have HSE : Hid (hexP ((natsOf s).drop (p + 2)) = .bad (s.size - (p + 2))) := Lib.hid (by
                  have hlq := nats_lenR s (p + 3)
                  rw [hdb]; simp only [hexP, hx]; congr 1; omega)
                clear hx hdb
                go_wp2
                go_quiet ((go_at_call 119; exact Calls.quiet_of_same (HH.out _)))
                go_wp2
                go_region_held3 (fun w' => w'.cell? ⟨g, 0, none⟩ = some (.string s) ∧ w'.cell? ⟨g, 1, none⟩ = some (.int .i64 ((p : Int) + 1)))
                  (first | exact ⟨x0, x1⟩ | exact HX.out _ _ h2')
                  (first | (go_at_call 59; ((with_reducible refine (rfail_ok _ g s ((p : Int) + 1) _ ?_).mono ?_)); (first | exact HR.out | exact HR.out.drewN _); rintro e w2 ⟨rfl, h2', ho2⟩))
                have Ho2 := Lib.hid ho2
                have H2 := Lib.hid h2'
                clear ho2 h2'
                go_wp2
                go_ret
                rw [HSP.out, HSE.out]
                exact TookK.bad (K := 2) (V := isBR) (U := anyBR) (p := p + 1) (by first | exact (Ho.out.drewN _).trans Ho2.out (fun _ _ h => h) | exact (Ho.out.drewN _).drew.trans Ho2.out (fun _ _ h => h)) ⟨0, rfl, by omega⟩ (by have := Hse.out; omega) (by omega) (by have := Hse.out; omega) (RdS.to H2.out (by omega) rfl)
              | some y =>
                have hy := half_ltR hx
                have HH : Hid (∀ W, Calls Tryd.prog 119 #[.int .u8 (b : Int)] W fun e w' => e = .returned (.int .i64 (y : Int)) ∧ w' = W) := Lib.hid fun W => (rhalf_any b hb256 W).mono fun e w' ⟨h1, h2⟩ => ⟨by rw [h1, halfIR, hx], h2.symm⟩
                have hyn : decide ((y : Int) < 0) = false := by simp <;> omega
                have HN : Hid (HexAt ((natsOf s).drop (p + 2)) 2 (y)) := Lib.hid (by rw [hdb]; exact .inr (.inl ⟨rfl, _, _, rfl, hx⟩))
                have hw2 : IntKind.i64.wrap (16 * (0 : Int)) = 16 * (0 : Int) := IntWalk.i64_in _ (by omega)
                have hw3 : IntKind.i64.wrap (16 * (0 : Int) + (y : Int)) = 16 * (0 : Int) + (y : Int) := IntWalk.i64_in _ (by omega)
                clear hx hdb
                go_wp2
                go_quiet ((go_at_call 119; exact Calls.quiet_of_same (HH.out _)))
                go_wp2
                go_quiet ((go_at_call 119; exact calls_drawnR HH.out _ _ _))
                go_wp2
                go_roundw
                case rel => exact ⟨2, y, ⟨by omega, by omega⟩, rfl, int_eq (by omega), by omega, HN, HR.out.drewN _, Ho.out.drewN _⟩
                case measure => simp [intOf]
            · have hse : s.size = p + 2 := by omega
              have hq2 : decide ((s.size : Int) ≤ (p : Int) + 1 + 1) = true := by simp; omega
              have hmin : ¬ (p : Int) + 1 + 1 < (s.size : Int) := by omega
              have hwr : IntKind.i64.wrap ((p : Int) + 1 + 1) = (p : Int) + 1 + 1 := IntWalk.i64_in _ (by omega)
              have HSE : Hid (hexP ((natsOf s).drop (p + 2)) = .bad 0) := Lib.hid (by rw [← hse, nats_endR]; rfl)
              have Hse := Lib.hid hse
              clear hse
              go_wp2
              go_quiet (fail)
              go_wp2
              go_region_held3 (fun w' => w'.cell? ⟨g, 0, none⟩ = some (.string s) ∧ w'.cell? ⟨g, 1, none⟩ = some (.int .i64 ((p : Int) + 1)))
                (first | exact ⟨x0, x1⟩ | exact HX.out _ _ h2')
                (first | (go_at_call 59; ((with_reducible refine (rfail_ok _ g s ((p : Int) + 1) _ ?_).mono ?_)); (first | exact HR.out | exact HR.out.drewN _); rintro e w2 ⟨rfl, h2', ho2⟩))
              have Ho2 := Lib.hid ho2
              have H2 := Lib.hid h2'
              clear ho2 h2'
              go_wp2
              go_ret
              rw [HSP.out, HSE.out]
              exact TookK.bad (K := 2) (V := isBR) (U := anyBR) (p := p + 1) (by first | exact (Ho.out.drewN _).trans Ho2.out (fun _ _ h => h) | exact (Ho.out.drewN _).drew.trans Ho2.out (fun _ _ h => h)) ⟨0, rfl, by omega⟩ (by have := Hse.out; omega) (by omega) (by have := Hse.out; omega) (RdS.to H2.out (by omega) rfl)
          · obtain ⟨a, r, hl, ha⟩ : ∃ a r, (natsOf s).drop (p + 2) = a :: r ∧ halfD a = some n := by
              rcases hhex.out with ⟨h, _⟩ | ⟨_, h⟩ | ⟨h, _⟩
              · omega
              · exact h
              · omega
            have hj2 : p + 2 < s.size := by
              rw [hl] at hlen2
              simp only [List.length_cons] at hlen2
              omega
            have hr3 : r = (natsOf s).drop (p + 3) := by
              have := congrArg List.tail hl
              rw [List.tail_drop] at this
              exact this.symm
            subst hr3
            have Hl := Lib.hid hl
            have Ha := Lib.hid ha
            have hn16 := half_ltR ha
            clear hl ha hhex
            rcases Nat.lt_or_ge (p + 3) s.size with hj | hj
            · have hj' : p + 1 + 2 < s.size := by omega
              obtain ⟨b, hb⟩ : ∃ b, (s[p + 1 + 2]'hj').toNat = b := ⟨_, rfl⟩
              have hb256 : b < 256 := by rw [← hb]; exact (s[p + 1 + 2]'hj').toNat_lt
              have hdb : (natsOf s).drop (p + 3) = b :: (natsOf s).drop (p + 4) := by rw [show p + 3 = p + 1 + 2 by omega, nats_dropR s (p + 1 + 2) hj', hb]
              have hji : (p : Int) + 1 + 2 < (s.size : Int) := by omega
              have hq2 : decide ((s.size : Int) ≤ (p : Int) + 1 + 2) = false := by simp; omega
              have hwr : IntKind.i64.wrap ((p : Int) + 1 + 2) = (p : Int) + 1 + 2 := IntWalk.i64_in _ (by omega)
              have htn : ((p : Int) + 1 + 2).toNat = p + 1 + 2 := by omega
              have hpp : (0 : Int) ≤ (p : Int) + 1 + 2 := by omega
              have Hse : Hid (p + 3 ≤ s.size) := Lib.hid (by omega)
              cases hx : halfD b with
              | none =>
                have HH : Hid (∀ W, Calls Tryd.prog 119 #[.int .u8 (b : Int)] W fun e w' => e = .returned (.int .i64 (-1)) ∧ w' = W) := Lib.hid fun W => (rhalf_any b hb256 W).mono fun e w' ⟨h1, h2⟩ => ⟨by rw [h1, halfIR, hx], h2.symm⟩
                have HSE : Hid (hexP ((natsOf s).drop (p + 2)) = .bad (s.size - (p + 3))) := Lib.hid (by
                  have hlq := nats_lenR s (p + 4)
                  rw [Hl.out, hdb]; simp only [hexP, Ha.out, hx]; congr 1; omega)
                clear hx hdb
                go_wp2
                go_quiet ((go_at_call 119; exact Calls.quiet_of_same (HH.out _)))
                go_wp2
                go_region_held3 (fun w' => w'.cell? ⟨g, 0, none⟩ = some (.string s) ∧ w'.cell? ⟨g, 1, none⟩ = some (.int .i64 ((p : Int) + 1)))
                  (first | exact ⟨x0, x1⟩ | exact HX.out _ _ h2')
                  (first | (go_at_call 59; ((with_reducible refine (rfail_ok _ g s ((p : Int) + 1) _ ?_).mono ?_)); (first | exact HR.out | exact HR.out.drewN _); rintro e w2 ⟨rfl, h2', ho2⟩))
                have Ho2 := Lib.hid ho2
                have H2 := Lib.hid h2'
                clear ho2 h2'
                go_wp2
                go_ret
                rw [HSP.out, HSE.out]
                exact TookK.bad (K := 2) (V := isBR) (U := anyBR) (p := p + 1) (by first | exact (Ho.out.drewN _).trans Ho2.out (fun _ _ h => h) | exact (Ho.out.drewN _).drew.trans Ho2.out (fun _ _ h => h)) ⟨0, rfl, by omega⟩ (by have := Hse.out; omega) (by omega) (by have := Hse.out; omega) (RdS.to H2.out (by omega) rfl)
              | some y =>
                have hy := half_ltR hx
                have HH : Hid (∀ W, Calls Tryd.prog 119 #[.int .u8 (b : Int)] W fun e w' => e = .returned (.int .i64 (y : Int)) ∧ w' = W) := Lib.hid fun W => (rhalf_any b hb256 W).mono fun e w' ⟨h1, h2⟩ => ⟨by rw [h1, halfIR, hx], h2.symm⟩
                have hyn : decide ((y : Int) < 0) = false := by simp <;> omega
                have HN : Hid (HexAt ((natsOf s).drop (p + 2)) 3 (16 * n + y)) := Lib.hid (by rw [Hl.out, hdb]; exact .inr (.inr ⟨rfl, _, _, _, _, _, rfl, Ha.out, hx, rfl⟩))
                have hw2 : IntKind.i64.wrap (16 * (n : Int)) = 16 * (n : Int) := IntWalk.i64_in _ (by omega)
                have hw3 : IntKind.i64.wrap (16 * (n : Int) + (y : Int)) = 16 * (n : Int) + (y : Int) := IntWalk.i64_in _ (by omega)
                clear hx hdb
                go_wp2
                go_quiet ((go_at_call 119; exact Calls.quiet_of_same (HH.out _)))
                go_wp2
                go_quiet ((go_at_call 119; exact calls_drawnR HH.out _ _ _))
                go_wp2
                go_roundw
                case rel => exact ⟨3, 16 * n + y, ⟨by omega, by omega⟩, rfl, int_eq (by omega), by omega, HN, HR.out.drewN _, Ho.out.drewN _⟩
                case measure => simp [intOf]
            · have hse : s.size = p + 3 := by omega
              have hq2 : decide ((s.size : Int) ≤ (p : Int) + 1 + 2) = true := by simp; omega
              have hmin : ¬ (p : Int) + 1 + 2 < (s.size : Int) := by omega
              have hwr : IntKind.i64.wrap ((p : Int) + 1 + 2) = (p : Int) + 1 + 2 := IntWalk.i64_in _ (by omega)
              have HSE : Hid (hexP ((natsOf s).drop (p + 2)) = .bad 0) := Lib.hid (by rw [Hl.out, ← hse, nats_endR]; simp only [hexP, Ha.out])
              have Hse := Lib.hid hse
              clear hse
              go_wp2
              go_quiet (fail)
              go_wp2
              go_region_held3 (fun w' => w'.cell? ⟨g, 0, none⟩ = some (.string s) ∧ w'.cell? ⟨g, 1, none⟩ = some (.int .i64 ((p : Int) + 1)))
                (first | exact ⟨x0, x1⟩ | exact HX.out _ _ h2')
                (first | (go_at_call 59; ((with_reducible refine (rfail_ok _ g s ((p : Int) + 1) _ ?_).mono ?_)); (first | exact HR.out | exact HR.out.drewN _); rintro e w2 ⟨rfl, h2', ho2⟩))
              have Ho2 := Lib.hid ho2
              have H2 := Lib.hid h2'
              clear ho2 h2'
              go_wp2
              go_ret
              rw [HSP.out, HSE.out]
              exact TookK.bad (K := 2) (V := isBR) (U := anyBR) (p := p + 1) (by first | exact (Ho.out.drewN _).trans Ho2.out (fun _ _ h => h) | exact (Ho.out.drewN _).drew.trans Ho2.out (fun _ _ h => h)) ⟨0, rfl, by omega⟩ (by have := Hse.out; omega) (by omega) (by have := Hse.out; omega) (RdS.to H2.out (by omega) rfl)
          · obtain ⟨a, b, r, x, y, hl, ha, hb, hnx⟩ : ∃ a b r x y, (natsOf s).drop (p + 2) = a :: b :: r ∧ halfD a = some x ∧ halfD b = some y ∧ n = 16 * x + y := by
              rcases hhex.out with ⟨h, _⟩ | ⟨h, _⟩ | ⟨_, h⟩
              · omega
              · omega
              · exact h
            have hj2 : p + 4 ≤ s.size := by
              rw [hl] at hlen2
              simp only [List.length_cons] at hlen2
              omega
            have hr3 : r = (natsOf s).drop (p + 4) := by
              have := congrArg (fun l => List.tail (List.tail l)) hl
              simp only [List.tail_drop, List.tail_cons] at this
              exact this.symm
            have HSE : Hid (hexP ((natsOf s).drop (p + 2)) = .ok n ((natsOf s).drop (p + 4))) := Lib.hid (by rw [hl, hnx, hr3]; simp only [hexP, ha, hb])
            have hR3 := HR.out.set1 ((p : Int) + 1 + 3)
            have HR3 := Lib.hid hR3
            have Ho3 := Lib.hid (Ho.out.setCell (p := ⟨g, 1, none⟩) (.inl rfl) (.int .i64 ((p : Int) + 1 + 3)))
            clear hl ha hb hnx hr3 hhex hR3 hlen2 hlen3
            go_wp2
            go_ret
            rw [HSP.out, HSE.out]
            exact TookK.ok (K := 2) (V := isBR) (U := anyBR) (p := p + 4) Ho3.out ⟨rfl, by omega⟩ hj2 rfl (RdS.to HR3.out (by omega) rfl)
      · have hsp : strokeP (c :: (natsOf s).drop (p + 2)) = if inS c then .ok c ((natsOf s).drop (p + 2)) else .bad (((natsOf s).drop (p + 2)).length + 1) := by
          simp only [strokeP]
          rw [if_neg hn110, if_neg hn116, if_neg hn114, if_neg h120]
        have hb : ((c : Int) == 120) = false := by rw [beq_eq_false_iff_ne]; omega
        obtain ⟨ib, hib⟩ : ∃ b, inS c = b := ⟨_, rfl⟩
        have HI := Lib.hid fun W => rins_any c W
        rw [hib] at HI hsp
        have HSP := Lib.hid hsp
        clear hsp hn110 hn116 hn114 h120 hib hntr
        cases ib with
        | true =>
          go_wp2_with (first | (go_at_call 115; (with_reducible refine (rsigns_any _).mono ?_); rintro e w' ⟨rfl, rfl⟩) | (go_at_call 102; (with_reducible refine (HI.out _).mono ?_); rintro e w' ⟨rfl, rfl⟩))
          go_ret
          rw [HSP.out, if_pos trivial]
          exact TookK.ok (K := 2) (V := isBR) (U := anyBR) (p := p + 2) HW1.out ⟨rfl, hc256⟩ (by omega) rfl (RdS.to HR1.out (by omega) rfl)
        | false =>
          go_wp2_with (first | (go_at_call 115; (with_reducible refine (rsigns_any _).mono ?_); rintro e w' ⟨rfl, rfl⟩) | (go_at_call 102; (with_reducible refine (HI.out _).mono ?_); rintro e w' ⟨rfl, rfl⟩))
          refine (rfail_ok _ g s ((p : Int) + 1) ((p : Int) + 1) HR.out).mono ?_
          rintro e w2 ⟨rfl, h2, ho2⟩
          have u1 := h2.c1
          have u2 := h2.f1
          have h3 := h2.set1 ((p : Int) + 1 + 1)
          have H3 := Lib.hid h3
          have Ho3 := Lib.hid ((Ho.out.trans ho2 (fun _ _ h => h)).setCell (p := ⟨g, 1, none⟩) (.inl rfl) (.int .i64 ((p : Int) + 1 + 1)))
          have hlen := nats_lenR s (p + 2)
          clear h2 h3 ho2
          go_wp2
          go_ret
          rw [HSP.out, if_neg (by simp)]
          exact TookK.bad (K := 2) (V := isBR) (U := anyBR) (p := p + 2) Ho3.out ⟨c, rfl, hc256⟩ (by omega) (by omega) (by omega) (RdS.to H3.out (by omega) rfl)
end Go.Proofs.YtgknlegomoaoeaaDoor

/-
  Contract of the reference's one (a byte). No statement of the seat is proved here.
-/
namespace Go.Proofs.YtgknlegomoaoeaaDoor
open Go Go.RowKit
set_option maxRecDepth 100000


theorem rstroke_any (w : World) (g : Nat) (s : ByteArray) (p : Nat) (hs : s.size ≤ 1000000) (hp : p < s.size) (h : RdS w g s (p : Int) (-1)) :
    Calls Tryd.prog 116 #[.pointer (some ⟨g, 0, none⟩)] w (TookK 2 w g s (strokeP ((natsOf s).drop (p + 1))) isBR anyBR) := by
  rcases Nat.lt_or_ge (p + 1) s.size with hq | hq
  · exact rstroke_at w g s p hs hq h
  · exact rstroke_end w g s p hs (by omega) h

set_option maxRecDepth 100000 in
set_option maxHeartbeats 2000000 in
theorem rbyte_bad (w : World) (g : Nat) (s : ByteArray) (p b : Int) (hb : 0 ≤ b) (h : RdS w g s p b) :
    Calls Tryd.prog 105 #[.pointer (some ⟨g, 0, none⟩)] w fun e w' => e = .returned (.int .u8 0) ∧ w = w' := by
  have x2 := h.c2
  clear h
  go_enter Tryd.func105, Tryd.ntmps105
  go_wp2
  go_ret
  exact ⟨rfl, rfl⟩

set_option maxRecDepth 100000 in
set_option maxHeartbeats 4000000 in
/-- a byte that stands for itself -/
theorem rbyte_plain (w : World) (g : Nat) (s : ByteArray) (p c : Nat) (hs : s.size ≤ 1000000) (hlt : p < s.size) (hc : (s[p]'hlt).toNat = c) (hc256 : c < 256) (hib : inS c = false) (h92 : ¬ c = 92) (h : RdS w g s (p : Int) (-1)) :
    Calls Tryd.prog 105 #[.pointer (some ⟨g, 0, none⟩)] w (TookK 2 w g s (.ok c ((natsOf s).drop (p + 1))) isBR anyBR) := by
  have x0 := h.c0
  have x1 := h.c1
  have x2 := h.c2
  have f1 := h.f1
  have hsi : (s.size : Int) ≤ 1000000 := by omega
  have hp0 : (0 : Int) ≤ (p : Int) := by omega
  have hq : decide (s.size ≤ p) = false := by simp; omega
  have hpi : (p : Int) < (s.size : Int) := by omega
  have HS : Hid (∀ W, Calls Tryd.prog 115 #[] W fun e w' => e = .returned (.string (bsN signsL)) ∧ w' = W) := Lib.hid fun W => (rsigns_any W).mono fun e w' ⟨h1, h2⟩ => ⟨h1, h2.symm⟩
  have HI : Hid (∀ W, Calls Tryd.prog 102 #[.int .u8 (c : Int), .string (bsN signsL)] W fun e w' => e = .returned (.bool false) ∧ w' = W) := Lib.hid fun W => (rins_any c W).mono fun e w' ⟨h1, h2⟩ => ⟨by rw [h1, hib], h2.symm⟩
  have h92n : ((c : Int) != 92) = true := by rw [bne_iff_ne]; omega
  have h92e : ((c : Int) == 92) = false := by rw [beq_eq_false_iff_ne]; omega
  clear h92
  have hR1 := h.set1 ((p : Int) + 1)
  have HR1 := Lib.hid hR1
  have Ho1 := Lib.hid ((Only.refl (fun x => x = g) w).setCell (p := ⟨g, 1, none⟩) (.inl rfl) (.int .i64 ((p : Int) + 1)))
  have Hc := Lib.hid hc256
  have H := Lib.hid h
  clear hR1 h hib hc256
  go_enter Tryd.func105, Tryd.ntmps105
  go_wp2
  go_quiet ((first | (go_at_call 115; exact Calls.quiet_of_same (HS.out _)) | (go_at_call 102; exact Calls.quiet_of_same (HI.out _))))
  go_wp2
  go_quiet (fail)
  go_wp2
  have y0 := HR1.out.c0
  have y1 := HR1.out.c1
  have hw1 : IntKind.i64.wrap ((p : Int) + 1 - 1) = (p : Int) := by rw [show (p : Int) + 1 - 1 = (p : Int) by omega]; exact IntWalk.i64_in _ (by omega)
  go_quiet (fail)
  go_wp2
  go_ret
  exact TookK.ok (K := 2) (V := isBR) (U := anyBR) (p := p + 1) ((((Only.refl (fun x => x = g) w).drewN _).setCell (p := ⟨g, 1, none⟩) (.inl rfl) _).drewN _) ⟨rfl, Hc.out⟩ (by omega) rfl (RdS.to (((H.out.drewN _).set1 _).drewN _) (by omega) rfl)

set_option maxRecDepth 100000 in
set_option maxHeartbeats 4000000 in
theorem rbyte_any (w : World) (g : Nat) (s : ByteArray) (p : Nat) (hs : s.size ≤ 1000000) (hp : p ≤ s.size) (h : RdS w g s (p : Int) (-1)) :
    Calls Tryd.prog 105 #[.pointer (some ⟨g, 0, none⟩)] w (TookK 2 w g s (byteP ((natsOf s).drop p)) isBR anyBR) := by
  have hsi : (s.size : Int) ≤ 1000000 := by omega
  have x0 := h.c0
  have x1 := h.c1
  have x2 := h.c2
  have f1 := h.f1
  have H := Lib.hid h
  have hp0 : (0 : Int) ≤ (p : Int) := by omega
  have HS : Hid (∀ W, Calls Tryd.prog 115 #[] W fun e w' => e = .returned (.string (bsN signsL)) ∧ w' = W) := Lib.hid fun W => (rsigns_any W).mono fun e w' ⟨h1, h2⟩ => ⟨h1, h2.symm⟩
  clear h
  rcases Nat.lt_or_ge p s.size with hlt | hge
  case inr =>
    have he : p = s.size := by omega
    have HP : Hid (byteP ((natsOf s).drop p) = .bad 0) := Lib.hid (by rw [he, nats_endR]; rfl)
    have hq : decide (s.size ≤ p) = true := by simp; omega
    have He := Lib.hid he
    clear he
    go_enter Tryd.func105, Tryd.ntmps105
    go_wp2
    go_quiet (fail)
    go_wp2_with fail
    refine (rfail_ok _ g s (p : Int) (p : Int) (H.out.drewN _)).mono ?_
    rintro e w2 ⟨rfl, h2, ho2⟩
    have H2 := Lib.hid h2
    have Ho2 := Lib.hid ho2
    clear h2 ho2
    go_wp2
    go_ret
    rw [HP.out]
    exact TookK.bad (K := 2) (V := isBR) (U := anyBR) (p := p) (((Only.refl (fun x => x = g) w).drewN _).trans Ho2.out (fun _ _ h => h)) ⟨0, rfl, by omega⟩ (by omega) (by omega) (by have := He.out; omega) H2.out
  obtain ⟨c, hc⟩ : ∃ c, (s[p]'hlt).toNat = c := ⟨_, rfl⟩
  have hc256 : c < 256 := by rw [← hc]; exact (s[p]'hlt).toNat_lt
  have hdr : (natsOf s).drop p = c :: (natsOf s).drop (p + 1) := by rw [nats_dropR s p hlt, hc]
  have hq : decide (s.size ≤ p) = false := by simp; omega
  have hpi : (p : Int) < (s.size : Int) := by omega
  have hlen := nats_lenR s (p + 1)
  by_cases h92 : c = 92
  · subst h92
    have HI : Hid (∀ W, Calls Tryd.prog 102 #[.int .u8 ((92 : Nat) : Int), .string (bsN signsL)] W fun e w' => e = .returned (.bool true) ∧ w' = W) := Lib.hid fun W => (rins_any 92 W).mono fun e w' ⟨h1, h2⟩ => ⟨h1, h2.symm⟩
    have HP : Hid (byteP ((natsOf s).drop p) = strokeP ((natsOf s).drop (p + 1))) := Lib.hid (by rw [hdr]; rfl)
    have HK := Lib.hid fun (W : World) (hW : RdS W g s (p : Int) (-1)) => rstroke_any W g s p hs hlt hW
    clear hdr
    go_enter Tryd.func105, Tryd.ntmps105
    go_wp2
    go_quiet ((first | (go_at_call 115; exact Calls.quiet_of_same (HS.out _)) | (go_at_call 102; exact Calls.quiet_of_same (HI.out _))))
    go_wp2
    go_quiet (fail)
    go_wp2_with fail
    refine (HK.out _ (H.out.drewN _)).mono ?_
    rintro e w2 ⟨ho2, v, rfl, hpost⟩
    have Hpost := Lib.hid hpost
    have Ho2 := Lib.hid ho2
    clear hpost ho2
    go_wp2
    go_ret
    rw [HP.out]
    exact ⟨((Only.refl (fun x => x = g) w).drewN _).trans Ho2.out (fun _ _ h => h), v, rfl, Hpost.out⟩
  have h92n : ((c : Int) != 92) = true := by rw [bne_iff_ne]; omega
  have h92e : ((c : Int) == 92) = false := by rw [beq_eq_false_iff_ne]; omega
  have hP : byteP (c :: (natsOf s).drop (p + 1)) = if inS c then .bad (((natsOf s).drop (p + 1)).length + 1) else .ok c ((natsOf s).drop (p + 1)) := by
    simp only [byteP]
    rw [if_neg h92]
  rw [← hdr] at hP
  obtain ⟨ib, hib⟩ : ∃ b, inS c = b := ⟨_, rfl⟩
  have HI : Hid (∀ W, Calls Tryd.prog 102 #[.int .u8 (c : Int), .string (bsN signsL)] W fun e w' => e = .returned (.bool ib) ∧ w' = W) := Lib.hid fun W => (rins_any c W).mono fun e w' ⟨h1, h2⟩ => ⟨by rw [h1, hib], h2.symm⟩
  rw [hib] at hP
  have HP := Lib.hid hP
  have H92 := Lib.hid h92
  have Hib := Lib.hid hib
  clear hP hib hdr h92
  cases ib with
  | true =>
    go_enter Tryd.func105, Tryd.ntmps105
    go_wp2
    go_quiet ((first | (go_at_call 115; exact Calls.quiet_of_same (HS.out _)) | (go_at_call 102; exact Calls.quiet_of_same (HI.out _))))
    go_wp2_with fail
    refine (rfail_ok _ g s (p : Int) (p : Int) (H.out.drewN _)).mono ?_
    rintro e w2 ⟨rfl, h2, ho2⟩
    have H2 := Lib.hid h2
    have Ho2 := Lib.hid ho2
    clear h2 ho2
    go_wp2
    go_ret
    rw [HP.out, if_pos trivial]
    exact TookK.bad (K := 2) (V := isBR) (U := anyBR) (p := p) (((Only.refl (fun x => x = g) w).drewN _).trans Ho2.out (fun _ _ h => h)) ⟨0, rfl, by omega⟩ (by omega) (by omega) (by omega) H2.out
  | false =>
    rw [HP.out, if_neg (by simp)]
    exact rbyte_plain w g s p c hs hlt hc hc256 Hib.out H92.out H.out
end Go.Proofs.YtgknlegomoaoeaaDoor

/-
  Contract of the reference's digits. No statement of the seat is proved here.
-/
namespace Go.Proofs.YtgknlegomoaoeaaDoor
open Go Go.RowKit
set_option maxRecDepth 100000


/-- an answer that is a number -/
def isIR (n : Int) (v : Value) (_ : World) : Prop := v = .int .i64 n
def minusI (v : Value) (_ : World) : Prop := v = .int .i64 (-1)
/-- digits, so far -/
def DigAt (p : Nat) (l : List Nat) (k n q : Int) : Prop :=
  (k = 0 ∧ n = 0 ∧ q = p) ∨ (k = 1 ∧ q = (p : Int) + 1 ∧ ∃ a r, l = a :: r ∧ digB a = true ∧ n = (a : Int) - 48) ∨
    (k = 2 ∧ q = (p : Int) + 1 + 1 ∧ ∃ a b r, l = a :: b :: r ∧ digB a = true ∧ digB b = true ∧ n = 10 * ((a : Int) - 48) + ((b : Int) - 48))
theorem dig_iffR (c : Nat) : digB c = true ↔ 48 ≤ c ∧ c ≤ 57 := by simp [digB]

set_option maxRecDepth 100000 in
set_option maxHeartbeats 16000000 in
theorem rdigits_any (w : World) (g : Nat) (s : ByteArray) (p : Nat) (hs : s.size ≤ 1000000) (hp : p ≤ s.size) (h : RdS w g s (p : Int) (-1)) :
    Calls Tryd.prog 112 #[.pointer (some ⟨g, 0, none⟩)] w (Took w g s (digitsP ((natsOf s).drop p)) isIR minusI) := by
  have hsi : (s.size : Int) ≤ 1000000 := by omega
  have H := Lib.hid h
  clear h
  go_enter Tryd.func112, Tryd.ntmps112
  go_wp2
  go_loopw [3, 4] (fun nv kv wr => ∃ (k n q : Int), kv = .int .i64 k ∧ nv = .int .i64 n ∧ Hid (DigAt p ((natsOf s).drop p) k n q) ∧ RdS wr g s q (-1) ∧ Only (fun x => x = g) w wr) (fun _ kv _ => 3 - (intOf kv).toNat)
  case atStart => exact ⟨0, 0, p, rfl, rfl, Lib.hid (.inl ⟨rfl, rfl, rfl⟩), H.out, Only.refl _ _⟩
  case round =>
    obtain ⟨k, n, q, rfl, rfl, hdig, hR, ho⟩ := hrel
    have HR := Lib.hid hR
    have Ho := Lib.hid ho
    rcases hdig.out with ⟨rfl, rfl, rfl⟩ | ⟨rfl, rfl, a, r, hl, ha, rfl⟩ | ⟨rfl, rfl, a, b, r, hl, ha, hb, rfl⟩
    · have x0 := hR.c0
      have x1 := hR.c1
      have f1 := hR.f1
      have hp0 : (0 : Int) ≤ (p : Int) := by omega
      clear hdig hR ho
      rcases Nat.lt_or_ge p s.size with hlt | hge
      · obtain ⟨a, hc⟩ : ∃ c, (s[p]'hlt).toNat = c := ⟨_, rfl⟩
        have ha256 : a < 256 := by rw [← hc]; exact (s[p]'hlt).toNat_lt
        have hdr : (natsOf s).drop p = a :: (natsOf s).drop (p + 1) := by rw [nats_dropR s p hlt, hc]
        have hq : decide (p < s.size) = true := by simpa using hlt
        have hpi : (p : Int) < (s.size : Int) := by omega
        have hlen := nats_lenR s (p + 1)
        by_cases hd : digB a = true
        · have HN : Hid (DigAt p ((natsOf s).drop p) 1 ((a : Int) - 48) ((p : Int) + 1)) := Lib.hid (.inr (.inl ⟨rfl, rfl, a, _, hdr, hd, rfl⟩))
          have hdd := (dig_iffR _).1 hd
          have g1 : decide (48 ≤ a) = true := by simp; omega
          have g2 : decide ((48 : Int) ≤ (a : Int)) = true := by simp; omega
          have g3 : (48 : Int) ≤ (a : Int) := by omega
          have g4 : decide (a ≤ 57) = true := by simp; omega
          have g5 : decide ((a : Int) ≤ 57) = true := by simp; omega
          have g6 : (a : Int) ≤ 57 := by omega
          have hw1 : IntKind.i64.wrap (a : Int) = (a : Int) := IntWalk.i64_in _ (by omega)
          have hw2 : IntKind.i64.wrap ((a : Int) - 48) = (a : Int) - 48 := IntWalk.i64_in _ (by omega)
          clear hdr hd hdd
          go_wp2
          go_quiet (fail)
          go_wp2
          go_quiet (fail)
          go_wp2
          go_roundw
          case rel => exact ⟨1, (a : Int) - 48, (p : Int) + 1, rfl, int_eq (by omega), HN, (HR.out.drewN _).set1 _, ((Ho.out.drewN _).setCell (p := ⟨g, 1, none⟩) (.inl rfl) _)⟩
          case measure => simp [intOf]
        · have hnd : a < 48 ∨ 57 < a := by rw [dig_iffR] at hd; omega
          clear hd
          rcases hnd with hnd | hnd
          · have g1 : decide (48 ≤ a) = false := by simp; omega
            have g2 : decide ((48 : Int) ≤ (a : Int)) = false := by simp; omega
            have g3 : (a : Int) < 48 := by omega
            have HP : Hid (digitsP ((natsOf s).drop p) = .bad (((natsOf s).drop (p + 1)).length + 1)) := Lib.hid (by
              rw [hdr]
              simp only [digitsP]
              rw [if_neg (by rw [dig_iffR]; omega)])
            clear hdr
            go_wp2
            go_quiet (fail)
            go_wp2_with fail
            refine (rfail_ok _ g s (p : Int) (p : Int) (HR.out.drewN _)).mono ?_
            rintro e w2 ⟨rfl, h2, ho2⟩
            have H2 := Lib.hid h2
            have Ho2 := Lib.hid ho2
            clear h2 ho2
            go_wp2
            go_ret
            rw [HP.out]
            exact Took.bad (V := isIR) (U := minusI) (p := p) ((Ho.out.drewN _).trans Ho2.out (fun _ _ h => h)) rfl (by omega) (by omega) (by omega) H2.out
          · have g1 : decide (48 ≤ a) = true := by simp; omega
            have g2 : decide ((48 : Int) ≤ (a : Int)) = true := by simp; omega
            have g3 : (48 : Int) ≤ (a : Int) := by omega
            have g4 : decide (a ≤ 57) = false := by simp; omega
            have g5 : decide ((a : Int) ≤ 57) = false := by simp; omega
            have g6 : (57 : Int) < (a : Int) := by omega
            have HP : Hid (digitsP ((natsOf s).drop p) = .bad (((natsOf s).drop (p + 1)).length + 1)) := Lib.hid (by
              rw [hdr]
              simp only [digitsP]
              rw [if_neg (by rw [dig_iffR]; omega)])
            clear hdr
            go_wp2
            go_quiet (fail)
            go_wp2_with fail
            refine (rfail_ok _ g s (p : Int) (p : Int) (HR.out.drewN _)).mono ?_
            rintro e w2 ⟨rfl, h2, ho2⟩
            have H2 := Lib.hid h2
            have Ho2 := Lib.hid ho2
            clear h2 ho2
            go_wp2
            go_ret
            rw [HP.out]
            exact Took.bad (V := isIR) (U := minusI) (p := p) ((Ho.out.drewN _).trans Ho2.out (fun _ _ h => h)) rfl (by omega) (by omega) (by omega) H2.out
      · have he : p = s.size := by omega
        have HP : Hid (digitsP ((natsOf s).drop p) = .bad 0) := Lib.hid (by rw [he, nats_endR]; rfl)
        have hq : decide (p < s.size) = false := by simp; omega
        have He := Lib.hid he
        clear he
        go_wp2
        go_quiet (fail)
        go_wp2_with fail
        refine (rfail_ok _ g s (p : Int) (p : Int) (HR.out.drewN _)).mono ?_
        rintro e w2 ⟨rfl, h2, ho2⟩
        have H2 := Lib.hid h2
        have Ho2 := Lib.hid ho2
        clear h2 ho2
        go_wp2
        go_ret
        rw [HP.out]
        exact Took.bad (V := isIR) (U := minusI) (p := p) ((Ho.out.drewN _).trans Ho2.out (fun _ _ h => h)) rfl (by omega) (by omega) (by have := He.out; omega) H2.out
    · have hlp : p < s.size := by
        have := nats_lenR s p
        rw [hl] at this
        simp only [List.length_cons] at this
        omega
      have hr1 : r = (natsOf s).drop (p + 1) := by
        have := congrArg List.tail hl
        rw [List.tail_drop] at this
        exact this.symm
      have hda := (dig_iffR _).1 ha
      have x0 := hR.c0
      have x1 := hR.c1
      have f1 := hR.f1
      have hp0 : (0 : Int) ≤ (p : Int) + 1 := by omega
      clear hdig hR ho
      rcases Nat.lt_or_ge (p + 1) s.size with hlt | hge
      · obtain ⟨b, hc⟩ : ∃ c, (s[p + 1]'hlt).toNat = c := ⟨_, rfl⟩
        have hdr : (natsOf s).drop (p + 1) = b :: (natsOf s).drop (p + 2) := by rw [nats_dropR s (p + 1) hlt, hc]
        have hq : decide ((p : Int) + 1 < (s.size : Int)) = true := by simp; omega
        have hpi : (p : Int) + 1 < (s.size : Int) := by omega
        have htn : ((p : Int) + 1).toNat = p + 1 := by omega
        by_cases hd : digB b = true
        · have HN : Hid (DigAt p ((natsOf s).drop p) 2 (10 * ((a : Int) - 48) + ((b : Int) - 48)) ((p : Int) + 1 + 1)) := Lib.hid (.inr (.inr ⟨rfl, rfl, a, b, _, by rw [hl, hr1, hdr], ha, hd, rfl⟩))
          have hdd := (dig_iffR _).1 hd
          have g1 : decide (48 ≤ b) = true := by simp; omega
          have g2 : decide ((48 : Int) ≤ (b : Int)) = true := by simp; omega
          have g3 : (48 : Int) ≤ (b : Int) := by omega
          have g4 : decide (b ≤ 57) = true := by simp; omega
          have g5 : decide ((b : Int) ≤ 57) = true := by simp; omega
          have g6 : (b : Int) ≤ 57 := by omega
          have hw1 : IntKind.i64.wrap (10 * ((a : Int) - 48)) = 10 * ((a : Int) - 48) := IntWalk.i64_in _ (by omega)
          have hw2 : IntKind.i64.wrap (10 * ((a : Int) - 48) + (b : Int)) = 10 * ((a : Int) - 48) + (b : Int) := IntWalk.i64_in _ (by omega)
          have hw3 : IntKind.i64.wrap (10 * ((a : Int) - 48) + (b : Int) - 48) = 10 * ((a : Int) - 48) + (b : Int) - 48 := IntWalk.i64_in _ (by omega)
          clear hdr hd hdd hl ha hr1
          go_wp2
          go_quiet (fail)
          go_wp2
          go_quiet (fail)
          go_wp2
          go_roundw
          case rel => exact ⟨2, 10 * ((a : Int) - 48) + ((b : Int) - 48), (p : Int) + 1 + 1, rfl, int_eq (by omega), HN, (HR.out.drewN _).set1 _, ((Ho.out.drewN _).setCell (p := ⟨g, 1, none⟩) (.inl rfl) _)⟩
          case measure => simp [intOf]
        · have hnd : b < 48 ∨ 57 < b := by rw [dig_iffR] at hd; omega
          clear hd
          rcases hnd with hnd | hnd
          · have g1 : decide (48 ≤ b) = false := by simp; omega
            have g2 : decide ((48 : Int) ≤ (b : Int)) = false := by simp; omega
            have g3 : (b : Int) < 48 := by omega
            have HP : Hid (digitsP ((natsOf s).drop p) = .ok ((a : Int) - 48) ((natsOf s).drop (p + 1))) := Lib.hid (by
              rw [hl, hr1]
              simp only [digitsP]
              rw [if_pos ha, hdr]
              simp only
              rw [if_neg (by rw [dig_iffR]; omega)])
            clear hdr hl ha hr1
            go_wp2
            go_quiet (fail)
            go_wp2
            go_ret
            rw [HP.out]
            exact Took.ok (V := isIR) (U := minusI) (p := p + 1) (Ho.out.drewN _) rfl (by omega) rfl (RdS.to (HR.out.drewN _) (by omega) rfl)
          · have g1 : decide (48 ≤ b) = true := by simp; omega
            have g2 : decide ((48 : Int) ≤ (b : Int)) = true := by simp; omega
            have g3 : (48 : Int) ≤ (b : Int) := by omega
            have g4 : decide (b ≤ 57) = false := by simp; omega
            have g5 : decide ((b : Int) ≤ 57) = false := by simp; omega
            have g6 : (57 : Int) < (b : Int) := by omega
            have HP : Hid (digitsP ((natsOf s).drop p) = .ok ((a : Int) - 48) ((natsOf s).drop (p + 1))) := Lib.hid (by
              rw [hl, hr1]
              simp only [digitsP]
              rw [if_pos ha, hdr]
              simp only
              rw [if_neg (by rw [dig_iffR]; omega)])
            clear hdr hl ha hr1
            go_wp2
            go_quiet (fail)
            go_wp2
            go_ret
            rw [HP.out]
            exact Took.ok (V := isIR) (U := minusI) (p := p + 1) (Ho.out.drewN _) rfl (by omega) rfl (RdS.to (HR.out.drewN _) (by omega) rfl)
      · have he : p + 1 = s.size := by omega
        have HP : Hid (digitsP ((natsOf s).drop p) = .ok ((a : Int) - 48) ((natsOf s).drop (p + 1))) := Lib.hid (by
          rw [hl, hr1, he, nats_endR]
          simp only [digitsP]
          rw [if_pos ha])
        have hq : decide ((p : Int) + 1 < (s.size : Int)) = false := by simp; omega
        clear he hl ha hr1
        go_wp2
        go_quiet (fail)
        go_wp2
        go_ret
        rw [HP.out]
        exact Took.ok (V := isIR) (U := minusI) (p := p + 1) (Ho.out.drewN _) rfl (by omega) rfl (RdS.to (HR.out.drewN _) (by omega) rfl)
    · have hlp : p + 1 < s.size := by
        have := nats_lenR s p
        rw [hl] at this
        simp only [List.length_cons] at this
        omega
      have hr2 : r = (natsOf s).drop (p + 2) := by
        have := congrArg (fun l => List.tail (List.tail l)) hl
        simp only [List.tail_drop, List.tail_cons] at this
        exact this.symm
      have HP : Hid (digitsP ((natsOf s).drop p) = .ok (10 * ((a : Int) - 48) + ((b : Int) - 48)) ((natsOf s).drop (p + 2))) := Lib.hid (by
        rw [hl, hr2]
        simp only [digitsP]
        rw [if_pos ha, if_pos hb])
      have x0 := hR.c0
      have x1 := hR.c1
      have f1 := hR.f1
      clear hdig hR ho hl hr2 ha hb
      go_wp2
      go_quiet (fail)
      go_wp2
      go_ret
      rw [HP.out]
      exact Took.ok (V := isIR) (U := minusI) (p := p + 2) (Ho.out.drewN _) rfl (by omega) rfl (RdS.to (HR.out.drewN _) (by omega) rfl)
end Go.Proofs.YtgknlegomoaoeaaDoor

/-
  Contract of the reference's curly. No statement of the seat is proved here.
-/
namespace Go.Proofs.YtgknlegomoaoeaaDoor
open Go Go.RowKit
set_option maxRecDepth 100000


/-- an answer that is two numbers -/
def isP (x : Int × Int) (v : Value) (_ : World) : Prop := v = .tuple #[.int .i64 x.1, .int .i64 x.2] ∧ isInt x.1 ∧ isInt x.2
def anyP (v : Value) (_ : World) : Prop := ∃ a b : Int, v = .tuple #[.int .i64 a, .int .i64 b] ∧ isInt a ∧ isInt b
theorem curlyEnd_no {l : List Nat} (lo hi : Int) (h : isNextR 125 l = false) : curlyEnd lo hi l = .bad l.length := by
  unfold curlyEnd
  split
  · simp [isNextR] at h
  · rfl
theorem isNext_at (s : ByteArray) (q c : Nat) (hq : q ≤ s.size) (h : isNextR c ((natsOf s).drop q) = true) : q < s.size ∧ (natsOf s).drop q = c :: (natsOf s).drop (q + 1) := by
  rcases Nat.lt_or_ge q s.size with hlt | hge
  · refine ⟨hlt, ?_⟩
    rw [nats_dropR s q hlt] at h ⊢
    simp only [isNextR, List.head?_cons, beq_iff_eq, Option.some.injEq] at h
    rw [h]
  · obtain rfl : q = s.size := by omega
    rw [nats_endR] at h
    simp [isNextR] at h
theorem digits_intR {l : List Nat} {n : Int} {r : List Nat} (hl : ∀ b ∈ l, b < 256) (h : digitsP l = .ok n r) : isInt n := by
  unfold digitsP at h
  unfold isInt
  rcases l with _ | ⟨a, l1⟩
  · cases h
  · have ha := hl a (by simp)
    simp only at h
    split at h
    · rcases l1 with _ | ⟨b, l2⟩
      · simp only [PR.ok.injEq] at h; omega
      · have hb := hl b (by simp)
        simp only at h
        split at h <;> (simp only [PR.ok.injEq] at h; omega)
    · cases h
theorem drop_lt (s : ByteArray) (p : Nat) : ∀ b ∈ (natsOf s).drop p, b < 256 := fun b hb => natsOf_lt s b (List.mem_of_mem_drop hb)

set_option maxRecDepth 100000 in
set_option maxHeartbeats 16000000 in
theorem rcurly_any (w : World) (g : Nat) (s : ByteArray) (p : Nat) (hs : s.size ≤ 1000000) (hp : p < s.size) (h : RdS w g s (p : Int) (-1)) :
    Calls Tryd.prog 101 #[.pointer (some ⟨g, 0, none⟩)] w (Took w g s (curlyP ((natsOf s).drop (p + 1))) isP anyP) := by
  have hsi : (s.size : Int) ≤ 1000000 := by omega
  have hpi : (p : Int) ≤ 1000000 := by omega
  have x1 := h.c1
  have f1 := h.f1
  have h1 : RdS (w.setCell ⟨g, 1, none⟩ (.int .i64 ((p : Int) + 1))) g s ((p + 1 : Nat) : Int) (-1) := RdS.to (h.set1 ((p : Int) + 1)) (by omega) rfl
  have H1 := Lib.hid h1
  have Ho1 := Lib.hid ((Only.refl (fun x => x = g) w).setCell (p := ⟨g, 1, none⟩) (.inl rfl) (.int .i64 ((p : Int) + 1)))
  clear h h1
  go_enter Tryd.func101, Tryd.ntmps101
  go_wp2_with fail
  refine (rdigits_any _ g s (p + 1) hs (by omega) H1.out).mono ?_
  rintro e w2 ⟨ho2, v, rfl, hpost⟩
  have Ho2 := Lib.hid (Ho1.out.trans ho2 (fun _ _ h => h))
  clear ho2 x1 f1
  cases hd : digitsP ((natsOf s).drop (p + 1)) with
  | bad left =>
    rw [hd] at hpost
    obtain ⟨rfl, hleft, pb, hpb, h2⟩ := hpost
    have HP : Hid (curlyP ((natsOf s).drop (p + 1)) = .bad left) := Lib.hid (by unfold curlyP; rw [hd]; rfl)
    have H2 := Lib.hid h2
    have q0 := h2.c0
    have q1 := h2.c1
    have q2 := h2.c2
    have q3 := h2.f1
    clear h2 hd
    go_wp2_with fail
    refine (rnext_bad _ g s _ _ 44 (by omega) H2.out).mono ?_
    rintro e wy ⟨rfl, ny, rfl⟩
    go_wp2_with fail
    refine (rnext_bad _ g s _ _ 125 (by omega) (H2.out.drewN _)).mono ?_
    rintro e wz ⟨rfl, nz, rfl⟩
    go_wp2_with fail
    refine (rfail_bad _ g s _ _ _ (by omega) (H2.out.drewN _)).mono ?_
    rintro e wf ⟨rfl, hf, hof⟩
    have HF := Lib.hid hf
    have HoF := Lib.hid hof
    clear hf hof
    go_wp2
    go_ret2
    rw [HP.out]
    exact Took.bad (V := isP) (U := anyP) ((Ho2.out.drewN _).trans HoF.out (fun _ _ h => h)) ⟨0, 0, rfl, by unfold isInt; omega, by unfold isInt; omega⟩ hleft hpb rfl HF.out
  | ok lo l1 =>
    rw [hd] at hpost
    obtain ⟨rfl, p1, hp1, hl1, h2⟩ := hpost
    subst hl1
    have HIlo := Lib.hid (digits_intR (drop_lt s (p + 1)) hd)
    have H2 := Lib.hid h2
    have q0 := h2.c0
    have q1 := h2.c1
    have q2 := h2.c2
    have q3 := h2.f1
    clear h2
    obtain ⟨nby, hnby⟩ : ∃ b, isNextR 44 ((natsOf s).drop p1) = b := ⟨_, rfl⟩
    have HNy : Hid (∀ W, RdS W g s ((p1 : Nat) : Int) (-1) → Calls Tryd.prog 75 #[.pointer (some ⟨g, 0, none⟩), .int .u8 44] W fun e w' => e = .returned (.bool nby) ∧ ∃ n, w' = W.drewN n) := Lib.hid fun W hW => by
      have := rnext_any W g s p1 44 hs hp1 hW
      rw [hnby] at this
      exact this
    cases nby with
    | false =>
      have HIhi := HIlo
      have HP : Hid (curlyP ((natsOf s).drop (p + 1)) = curlyEnd lo lo ((natsOf s).drop p1)) := Lib.hid (by
        unfold curlyP
        rw [hd]
        simp only [PR.bind]
        split
        · rename_i h; rw [h] at hnby; simp [isNextR] at hnby
        · rfl)
      clear hd hnby
      go_wp2_with fail
      refine (HNy.out _ H2.out).mono ?_
      rintro e wy ⟨rfl, ny, rfl⟩
      obtain ⟨nbz, hnbz⟩ : ∃ b, isNextR 125 ((natsOf s).drop p1) = b := ⟨_, rfl⟩
      have HNz : Hid (∀ W, RdS W g s ((p1 : Nat) : Int) (-1) → Calls Tryd.prog 75 #[.pointer (some ⟨g, 0, none⟩), .int .u8 125] W fun e w' => e = .returned (.bool nbz) ∧ ∃ n, w' = W.drewN n) := Lib.hid fun W hW => by
        have := rnext_any W g s p1 125 hs hp1 hW
        rw [hnbz] at this
        exact this
      cases nbz with
      | false =>
        have HE : Hid (curlyEnd lo lo ((natsOf s).drop p1) = .bad (s.size - p1)) := Lib.hid (by rw [curlyEnd_no _ _ hnbz, nats_lenR])
        clear hnbz
        go_wp2_with fail
        refine (HNz.out _ (H2.out.drewN _)).mono ?_
        rintro e wz ⟨rfl, nz, rfl⟩
        go_wp2_with fail
        refine (rfail_ok _ g s ((p1 : Nat) : Int) ((p1 : Nat) : Int) (H2.out.drewN _)).mono ?_
        rintro e wf ⟨rfl, hf, hof⟩
        have HF := Lib.hid hf
        have HoF := Lib.hid hof
        clear hf hof
        go_wp2
        go_ret2
        rw [HP.out, HE.out]
        exact Took.bad (V := isP) (U := anyP) (p := p1) ((Ho2.out.drewN _).trans HoF.out (fun _ _ h => h)) ⟨0, 0, rfl, by unfold isInt; omega, by unfold isInt; omega⟩ (by omega) (by omega) (by omega) HF.out
      | true =>
        obtain ⟨hqs, hqd⟩ := isNext_at s p1 125 hp1 hnbz
        have HE : Hid (curlyEnd lo lo ((natsOf s).drop p1) = if repB lo lo then .ok (lo, lo) ((natsOf s).drop (p1 + 1)) else .bad (((natsOf s).drop (p1 + 1)).length + 1)) := Lib.hid (by rw [hqd]; rfl)
        obtain ⟨rb, hrb⟩ : ∃ b, repB lo lo = b := ⟨_, rfl⟩
        have HRp : Hid (∀ W, Calls Tryd.prog 67 #[.int .i64 lo, .int .i64 lo] W fun e w' => e = .returned (.bool rb) ∧ W = w') := Lib.hid fun W => by
          have := rrep_any lo lo W
          rw [hrb] at this
          exact this
        have Hrb := Lib.hid hrb
        have hqlen := nats_lenR s (p1 + 1)
        clear hnbz hqd hrb
        go_wp2_with fail
        refine (HNz.out _ (H2.out.drewN _)).mono ?_
        rintro e wz ⟨rfl, nz, rfl⟩
        go_wp2_with fail
        refine (HRp.out _).mono ?_
        rintro e wz2 ⟨rfl, rfl⟩
        cases rb with
        | true =>
          go_wp2
          go_ret2
          rw [HP.out, HE.out, Hrb.out, if_pos rfl]
          exact Took.ok (V := isP) (U := anyP) (p := p1 + 1) ((Ho2.out.drewN _).setCell (p := ⟨g, 1, none⟩) (.inl rfl) _) ⟨rfl, HIlo.out, HIhi.out⟩ (by omega) rfl (RdS.to ((H2.out.drewN _).set1 _) (by omega) rfl)
        | false =>
          go_wp2_with fail
          refine (rfail_ok _ g s ((p1 : Nat) : Int) ((p1 : Nat) : Int) (H2.out.drewN _)).mono ?_
          rintro e wf ⟨rfl, hf, hof⟩
          have z1 := hf.c1
          have z2 := hf.f1
          have HF := Lib.hid hf
          have HoF := Lib.hid hof
          clear hf hof
          go_wp2
          go_ret2
          rw [HP.out, HE.out, Hrb.out, if_neg (by simp)]
          exact Took.bad (V := isP) (U := anyP) (p := p1 + 1) (((Ho2.out.drewN _).trans HoF.out (fun _ _ h => h)).setCell (p := ⟨g, 1, none⟩) (.inl rfl) _) ⟨lo, lo, rfl, HIlo.out, HIhi.out⟩ (by omega) (by omega) (by omega) (RdS.to (HF.out.set1 _) (by omega) rfl)
    | true =>
      obtain ⟨hp1s, hp1d⟩ := isNext_at s p1 44 hp1 hnby
      have hq1 : p1 + 1 ≤ s.size := by omega
      have HP0 : curlyP ((natsOf s).drop (p + 1)) = if ((natsOf s).drop (p1 + 1)).head? = some 125 then curlyEnd lo (-1) ((natsOf s).drop (p1 + 1)) else (digitsP ((natsOf s).drop (p1 + 1))).bind fun hi l3 => curlyEnd lo hi l3 := by
        unfold curlyP
        rw [hd]
        simp only [PR.bind]
        rw [hp1d]
        rfl
      have HP1 := Lib.hid HP0
      clear hd hnby hp1d HP0
      go_wp2_with fail
      refine (HNy.out _ H2.out).mono ?_
      rintro e wy ⟨rfl, ny, rfl⟩
      have H3 := Lib.hid (RdS.to ((H2.out.drewN ny).set1 ((p1 : Int) + 1)) (show (p1 : Int) + 1 = ((p1 + 1 : Nat) : Int) by omega) rfl)
      have Ho3 := Lib.hid ((Ho2.out.drewN ny).setCell (p := ⟨g, 1, none⟩) (.inl rfl) (.int .i64 ((p1 : Int) + 1)))
      have hp1i : (p1 : Int) ≤ 1000000 := by omega
      obtain ⟨nbx, hnbx⟩ : ∃ b, isNextR 125 ((natsOf s).drop (p1 + 1)) = b := ⟨_, rfl⟩
      have HNx : Hid (∀ W, RdS W g s (((p1 + 1) : Nat) : Int) (-1) → Calls Tryd.prog 75 #[.pointer (some ⟨g, 0, none⟩), .int .u8 125] W fun e w' => e = .returned (.bool nbx) ∧ ∃ n, w' = W.drewN n) := Lib.hid fun W hW => by
        have := rnext_any W g s (p1 + 1) 125 hs hq1 hW
        rw [hnbx] at this
        exact this
      go_wp2_with fail
      refine (HNx.out _ H3.out).mono ?_
      rintro e wx ⟨rfl, nx, rfl⟩
      have H4 := Lib.hid (H3.out.drewN nx)
      have Ho4 := Lib.hid (Ho3.out.drewN nx)
      cases nbx with
      | true =>
        have HIhi : Hid (isInt (-1)) := Lib.hid (by unfold isInt; omega)
        have HP : Hid (curlyP ((natsOf s).drop (p + 1)) = curlyEnd lo (-1) ((natsOf s).drop (p1 + 1))) := Lib.hid (by
          rw [HP1.out, if_pos]
          simpa [isNextR] using hnbx)
        clear hnbx
        obtain ⟨nbz, hnbz⟩ : ∃ b, isNextR 125 ((natsOf s).drop (p1 + 1)) = b := ⟨_, rfl⟩
        have HNz : Hid (∀ W, RdS W g s (((p1 + 1) : Nat) : Int) (-1) → Calls Tryd.prog 75 #[.pointer (some ⟨g, 0, none⟩), .int .u8 125] W fun e w' => e = .returned (.bool nbz) ∧ ∃ n, w' = W.drewN n) := Lib.hid fun W hW => by
          have := rnext_any W g s (p1 + 1) 125 hs hq1 hW
          rw [hnbz] at this
          exact this
        cases nbz with
        | false =>
          have HE : Hid (curlyEnd lo (-1) ((natsOf s).drop (p1 + 1)) = .bad (s.size - (p1 + 1))) := Lib.hid (by rw [curlyEnd_no _ _ hnbz, nats_lenR])
          clear hnbz
          go_wp2_with fail
          refine (HNz.out _ (H3.out.drewN _)).mono ?_
          rintro e wz ⟨rfl, nz, rfl⟩
          go_wp2_with fail
          refine (rfail_ok _ g s (((p1 + 1) : Nat) : Int) (((p1 + 1) : Nat) : Int) (H3.out.drewN _)).mono ?_
          rintro e wf ⟨rfl, hf, hof⟩
          have HF := Lib.hid hf
          have HoF := Lib.hid hof
          clear hf hof
          go_wp2
          go_ret2
          rw [HP.out, HE.out]
          exact Took.bad (V := isP) (U := anyP) (p := (p1 + 1)) ((Ho3.out.drewN _).trans HoF.out (fun _ _ h => h)) ⟨0, 0, rfl, by unfold isInt; omega, by unfold isInt; omega⟩ (by omega) (by omega) (by omega) HF.out
        | true =>
          obtain ⟨hqs, hqd⟩ := isNext_at s (p1 + 1) 125 hq1 hnbz
          have HE : Hid (curlyEnd lo (-1) ((natsOf s).drop (p1 + 1)) = if repB lo (-1) then .ok (lo, (-1)) ((natsOf s).drop ((p1 + 1) + 1)) else .bad (((natsOf s).drop ((p1 + 1) + 1)).length + 1)) := Lib.hid (by rw [hqd]; rfl)
          obtain ⟨rb, hrb⟩ : ∃ b, repB lo (-1) = b := ⟨_, rfl⟩
          have HRp : Hid (∀ W, Calls Tryd.prog 67 #[.int .i64 lo, .int .i64 (-1)] W fun e w' => e = .returned (.bool rb) ∧ W = w') := Lib.hid fun W => by
            have := rrep_any lo (-1) W
            rw [hrb] at this
            exact this
          have Hrb := Lib.hid hrb
          have hqlen := nats_lenR s ((p1 + 1) + 1)
          clear hnbz hqd hrb
          go_wp2_with fail
          refine (HNz.out _ (H3.out.drewN _)).mono ?_
          rintro e wz ⟨rfl, nz, rfl⟩
          go_wp2_with fail
          refine (HRp.out _).mono ?_
          rintro e wz2 ⟨rfl, rfl⟩
          cases rb with
          | true =>
            go_wp2
            go_ret2
            rw [HP.out, HE.out, Hrb.out, if_pos rfl]
            exact Took.ok (V := isP) (U := anyP) (p := (p1 + 1) + 1) ((Ho3.out.drewN _).setCell (p := ⟨g, 1, none⟩) (.inl rfl) _) ⟨rfl, HIlo.out, HIhi.out⟩ (by omega) rfl (RdS.to ((H3.out.drewN _).set1 _) (by omega) rfl)
          | false =>
            go_wp2_with fail
            refine (rfail_ok _ g s (((p1 + 1) : Nat) : Int) (((p1 + 1) : Nat) : Int) (H3.out.drewN _)).mono ?_
            rintro e wf ⟨rfl, hf, hof⟩
            have z1 := hf.c1
            have z2 := hf.f1
            have HF := Lib.hid hf
            have HoF := Lib.hid hof
            clear hf hof
            go_wp2
            go_ret2
            rw [HP.out, HE.out, Hrb.out, if_neg (by simp)]
            exact Took.bad (V := isP) (U := anyP) (p := (p1 + 1) + 1) (((Ho3.out.drewN _).trans HoF.out (fun _ _ h => h)).setCell (p := ⟨g, 1, none⟩) (.inl rfl) _) ⟨lo, (-1), rfl, HIlo.out, HIhi.out⟩ (by omega) (by omega) (by omega) (RdS.to (HF.out.set1 _) (by omega) rfl)
      | false =>
        have HP2 : Hid (curlyP ((natsOf s).drop (p + 1)) = (digitsP ((natsOf s).drop (p1 + 1))).bind fun hi l3 => curlyEnd lo hi l3) := Lib.hid (by
          rw [HP1.out, if_neg]
          intro h
          simp [isNextR, h] at hnbx)
        clear hnbx
        go_wp2_with fail
        refine (rdigits_any _ g s (p1 + 1) hs (by omega) H4.out).mono ?_
        rintro e w5 ⟨ho5, v5, rfl, hpost⟩
        have Ho5 := Lib.hid (Ho4.out.trans ho5 (fun _ _ h => h))
        clear ho5
        cases hd : digitsP ((natsOf s).drop (p1 + 1)) with
        | bad left =>
          rw [hd] at hpost
          obtain ⟨rfl, hleft, pb, hpb, h5⟩ := hpost
          have HP : Hid (curlyP ((natsOf s).drop (p + 1)) = .bad left) := Lib.hid (by rw [HP2.out, hd]; rfl)
          have H5 := Lib.hid h5
          clear q0 q1 q2 q3
          have q0 := h5.c0
          have q1 := h5.c1
          have q2 := h5.c2
          have q3 := h5.f1
          clear h5 hd
          go_wp2_with fail
          refine (rnext_bad _ g s _ _ 125 (by omega) H5.out).mono ?_
          rintro e wz ⟨rfl, nz, rfl⟩
          go_wp2_with fail
          refine (rfail_bad _ g s _ _ _ (by omega) (H5.out.drewN _)).mono ?_
          rintro e wf ⟨rfl, hf, hof⟩
          have HF := Lib.hid hf
          have HoF := Lib.hid hof
          clear hf hof
          go_wp2
          go_ret2
          rw [HP.out]
          exact Took.bad (V := isP) (U := anyP) ((Ho5.out.drewN _).trans HoF.out (fun _ _ h => h)) ⟨0, 0, rfl, by unfold isInt; omega, by unfold isInt; omega⟩ hleft hpb rfl HF.out
        | ok hi l3 =>
          rw [hd] at hpost
          obtain ⟨rfl, p3, hp3, hl3, h5⟩ := hpost
          subst hl3
          have HIhi := Lib.hid (digits_intR (drop_lt s (p1 + 1)) hd)
          have HP : Hid (curlyP ((natsOf s).drop (p + 1)) = curlyEnd lo hi ((natsOf s).drop p3)) := Lib.hid (by rw [HP2.out, hd]; rfl)
          have H5 := Lib.hid h5
          clear q0 q1 q2 q3
          have q0 := h5.c0
          have q1 := h5.c1
          have q2 := h5.c2
          have q3 := h5.f1
          clear h5 hd
          obtain ⟨nbz, hnbz⟩ : ∃ b, isNextR 125 ((natsOf s).drop p3) = b := ⟨_, rfl⟩
          have HNz : Hid (∀ W, RdS W g s ((p3 : Nat) : Int) (-1) → Calls Tryd.prog 75 #[.pointer (some ⟨g, 0, none⟩), .int .u8 125] W fun e w' => e = .returned (.bool nbz) ∧ ∃ n, w' = W.drewN n) := Lib.hid fun W hW => by
            have := rnext_any W g s p3 125 hs hp3 hW
            rw [hnbz] at this
            exact this
          cases nbz with
          | false =>
            have HE : Hid (curlyEnd lo hi ((natsOf s).drop p3) = .bad (s.size - p3)) := Lib.hid (by rw [curlyEnd_no _ _ hnbz, nats_lenR])
            clear hnbz
            go_wp2_with fail
            refine (HNz.out _ H5.out).mono ?_
            rintro e wz ⟨rfl, nz, rfl⟩
            go_wp2_with fail
            refine (rfail_ok _ g s ((p3 : Nat) : Int) ((p3 : Nat) : Int) (H5.out.drewN _)).mono ?_
            rintro e wf ⟨rfl, hf, hof⟩
            have HF := Lib.hid hf
            have HoF := Lib.hid hof
            clear hf hof
            go_wp2
            go_ret2
            rw [HP.out, HE.out]
            exact Took.bad (V := isP) (U := anyP) (p := p3) ((Ho5.out.drewN _).trans HoF.out (fun _ _ h => h)) ⟨0, 0, rfl, by unfold isInt; omega, by unfold isInt; omega⟩ (by omega) (by omega) (by omega) HF.out
          | true =>
            obtain ⟨hqs, hqd⟩ := isNext_at s p3 125 hp3 hnbz
            have HE : Hid (curlyEnd lo hi ((natsOf s).drop p3) = if repB lo hi then .ok (lo, hi) ((natsOf s).drop (p3 + 1)) else .bad (((natsOf s).drop (p3 + 1)).length + 1)) := Lib.hid (by rw [hqd]; rfl)
            obtain ⟨rb, hrb⟩ : ∃ b, repB lo hi = b := ⟨_, rfl⟩
            have HRp : Hid (∀ W, Calls Tryd.prog 67 #[.int .i64 lo, .int .i64 hi] W fun e w' => e = .returned (.bool rb) ∧ W = w') := Lib.hid fun W => by
              have := rrep_any lo hi W
              rw [hrb] at this
              exact this
            have Hrb := Lib.hid hrb
            have hqlen := nats_lenR s (p3 + 1)
            clear hnbz hqd hrb
            go_wp2_with fail
            refine (HNz.out _ H5.out).mono ?_
            rintro e wz ⟨rfl, nz, rfl⟩
            go_wp2_with fail
            refine (HRp.out _).mono ?_
            rintro e wz2 ⟨rfl, rfl⟩
            cases rb with
            | true =>
              go_wp2
              go_ret2
              rw [HP.out, HE.out, Hrb.out, if_pos rfl]
              exact Took.ok (V := isP) (U := anyP) (p := p3 + 1) ((Ho5.out.drewN _).setCell (p := ⟨g, 1, none⟩) (.inl rfl) _) ⟨rfl, HIlo.out, HIhi.out⟩ (by omega) rfl (RdS.to ((H5.out.drewN _).set1 _) (by omega) rfl)
            | false =>
              go_wp2_with fail
              refine (rfail_ok _ g s ((p3 : Nat) : Int) ((p3 : Nat) : Int) (H5.out.drewN _)).mono ?_
              rintro e wf ⟨rfl, hf, hof⟩
              have z1 := hf.c1
              have z2 := hf.f1
              have HF := Lib.hid hf
              have HoF := Lib.hid hof
              clear hf hof
              go_wp2
              go_ret2
              rw [HP.out, HE.out, Hrb.out, if_neg (by simp)]
              exact Took.bad (V := isP) (U := anyP) (p := p3 + 1) (((Ho5.out.drewN _).trans HoF.out (fun _ _ h => h)).setCell (p := ⟨g, 1, none⟩) (.inl rfl) _) ⟨lo, hi, rfl, HIlo.out, HIhi.out⟩ (by omega) (by omega) (by omega) (RdS.to (HF.out.set1 _) (by omega) rfl)
end Go.Proofs.YtgknlegomoaoeaaDoor
