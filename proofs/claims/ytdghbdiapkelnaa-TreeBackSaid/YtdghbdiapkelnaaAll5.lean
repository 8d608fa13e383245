/-
  Texts of this claim, joined (part 5): contracts and lemmas that the last text goes by. No statement of the seat is proved here.
-/
import Derived.Test.YtdghbdiapkelnaaAll4
set_option linter.unusedVariables false
set_option linter.unusedSimpArgs false
/-
  A leaf more. No statement of the seat is proved here.
-/
namespace Go.Proofs.Ytdghbdiapkelnaa
open Go Go.RowKit Go.Maps
set_option maxRecDepth 100000

theorem place_snoc (lv : List Lf) (x : Lf) : placeTo (lv ++ [x]) (lv.length + 1) = (placeTo lv lv.length).put (litLf x) (.lit (.int .i64 (lv.length : Int))) := by
  rw [placeTo]
  congr 1
  · exact placeTo_same _ (fun j hj => by rw [List.getD_eq_getElem?_getD, List.getElem?_append_left hj, ← List.getD_eq_getElem?_getD])
  · rw [List.getD_eq_getElem?_getD, List.getElem?_append_right (Nat.le_refl _)]
    simp
/-- 'm[k] = i' at a step of a region that draws its order -/
theorem step_placeUp {ops : Array Oper} {o : Oper} {a : Act} {w : World} {K : Act → World → Prop} {Q : Exit → Act → World → Prop} {E : Prop} (hgd : o.guard = none) (m x v : Operand) (hop : o.op = Op.mapUpdate 66 m x v)
    {b n : Nat} {D : DataW Unit} (hm : a.eval m = .map (some b)) (hown : ownsPlace w b n D) (hn : n < maxLen) {c : Nat} {a1 a2 : List UInt8} (hk : okKey c a1 a2) (hx : a.eval x = keyV c a1 a2) {i : Int} (hi : (Lit.int .i64 i).wf = true) (hv : a.eval v = .int .i64 i)
    (h : ∀ w', ownsPlace w' b (n + 1) (D.put (keyL c a1 a2) (.lit (.int .i64 i))) → w.grownBy w' (some b) → K (a.put o.dst undef) w') : if Region.wanted o (yielded ops a.tmps) = true then Oper.wp Try.prog o a w K Q else E := by
  have hw : Region.wanted o (yielded ops a.tmps) = true := by simp [Region.wanted, hgd]
  rw [if_pos hw]
  obtain ⟨w', hrun, r1, r2⟩ := World.ownsMap.update hown law_tkey Try.underlying66 hn (keyL_of hk) (plainElem_int Try.underlying3 hi)
  unfold Oper.wp
  simp [execOp, hop, hm, hx, hv, hrun, Result.andThen]
  exact h w' r1 r2
section
variable {S T : Nat → Prop} {w w3 w4 w5 : World} {g : Nat} {t : Tr} {A R R' : Option Addr} {c d d' : Nat} {xs ys : List Value} {M : Option Nat}
theorem TrAt.grown (h : TrAt S w g t A c xs R d ys M) {x : Lf} (hok : okLf x) {G : Option Addr} {e b : Nat} (hx : RowO w 3 1 G x.gr.length e (x.gr.map natV)) (hap : ∀ k, inA G k → ¬ S k) (hO3 : Only (fun k => k = g ∨ M = some k) w w3)
    (hB3 : Blk w3 g 70 #[.slice A t.ts.length c, .slice R t.lv.length d, .map (some b)]) (hM3 : ownsPlace w3 b (t.lv.length + 1) (placeTo (t.lv ++ [x]) (t.lv.length + 1)))
    (hb : Below w3.heap.size w3 w4) (hr : RowO w5 96 4 R' (t.lv.length + 1) d' (ys ++ [natV x.count, strV x.a, strV x.b, .slice G x.gr.length e])) (ho : Only (inA R) w4 w5) (hA : ∀ k, inA R' k → inA R k ∨ (w4.heap.size ≤ k ∧ k < w5.heap.size))
    (hs : ∀ k, S k → T k) (hG : ∀ k, inA G k → T k) (hN : ∀ k, w3.heap.size ≤ k → k < w5.heap.size → T k) (hbT : T b) (hl : ∀ k, T k → k < w5.heap.size) :
    TrAt T (w5.setCell ⟨g, 1, none⟩ (.slice R' (t.lv.length + 1) d')) g ⟨t.ts, t.lv ++ [x]⟩ A c xs R' d' (ys ++ [natV x.count, strV x.a, strV x.b, .slice G x.gr.length e]) (some b) := by
  have hgR : ¬ inA R g := h.rows.ne_blk h.blk (by decide)
  have hO5 : Only (fun k => k = g ∨ M = some k ∨ inA R k) w w5 := ((hO3.mono (fun i _ hi => by rcases hi with h | h; exact .inl h; exact .inr (.inl h))).trans (Only.of_ext (S := fun k => k = g ∨ M = some k ∨ inA R k) hb) (fun _ _ h => h)).trans ho (fun _ _ h => .inr (.inr h))
  have hO : Only (fun k => k = g ∨ M = some k ∨ inA R k) w (w5.setCell ⟨g, 1, none⟩ (.slice R' (t.lv.length + 1) d')) := hO5.setCell (.inl (.inl rfl)) _
  have hO35 : Only (fun k => k = g ∨ inA R k) w3 (w5.setCell ⟨g, 1, none⟩ (.slice R' (t.lv.length + 1) d')) := ((Only.of_ext (S := fun k => k = g ∨ inA R k) hb).trans ho (fun _ _ h => .inr h)).setCell (.inl (.inl rfl)) _
  have hblk5 : Blk w5 g 70 #[.slice A t.ts.length c, .slice R t.lv.length d, .map (some b)] := (hB3.ext hb).only ho hgR
  have hsz : (w5.setCell ⟨g, 1, none⟩ (.slice R' (t.lv.length + 1) d')).heap.size = w5.heap.size := by simp [World.setCell]
  have hrows3 : RowO w3 96 4 R t.lv.length d ys := h.rows.only hO3 (fun k hk hx => hx.elim (fun hx => hgR (by rw [← hx]; exact hk)) (fun hx => h.mapNeR hx h.rows hk))
  have hyl : ys.length = t.lv.length * 4 := h.rows.1
  have hLl : (t.lv ++ [x]).length = t.lv.length + 1 := by simp
  have keep : ∀ {B : Option Addr} {m c2 : Nat} {zs : List Value} {e : TypeId} {sz : Nat}, RowO w e sz B m c2 zs → e ≠ 70 → e ≠ 96 → RowO (w5.setCell ⟨g, 1, none⟩ (.slice R' (t.lv.length + 1) d')) e sz B m c2 zs := fun hr h1 h2 =>
    hr.only hO (fun k hk hx => by
      rcases hx with hx | hx | hx
      · exact hr.ne_blk h.blk h1 (by rw [← hx]; exact hk)
      · exact h.mapNeR hx hr hk
      · exact hr.ne_rowT h.rows h2 k hk hx)
  refine ⟨?_, keep h.own (by decide) (by decide), ?_, .inr ⟨b, rfl, ?_⟩, fun j hj => ?_, fun j hj => ?_, fun i j G1 G2 n n' e1 e2 hij h1 h2 => ?_, fun y hy => ?_, hs _ h.sg, fun k hk => hs _ (h.sA k hk), fun k hk => ?_, fun b' hb' => by injection hb' with hb'; rw [← hb']; exact hbT, fun k hk => by rw [hsz]; exact hl k hk⟩
  · have := hblk5.put 1 (.slice R' (t.lv.length + 1) d')
    simp only [List.setIfInBounds_toArray, List.set_cons_zero, List.set_cons_succ] at this
    show Blk _ g _ #[.slice A t.ts.length c, .slice R' (t.lv ++ [x]).length d', .map (some b)]
    rw [hLl]
    exact this
  · show RowO _ _ 4 R' (t.lv ++ [x]).length d' _
    rw [hLl]
    exact hr.keep fun k hk => Below.heap_setCell w5 _ _ k (fun e => hr.ne_blk hblk5 (by decide) (by rw [← show k = g from e]; exact hk))
  · show ownsPlace _ b (t.lv ++ [x]).length (placeTo (t.lv ++ [x]) (t.lv ++ [x]).length)
    rw [hLl]
    exact hM3.only hO35 (fun hx => hx.elim (hM3.ne_blk hB3) (hM3.ne_row hrows3))
  · obtain ⟨B, e', h1, h2, h3⟩ := h.tsAt j hj
    exact ⟨B, e', h1, keep h2 (by decide) (by decide), fun k hk => hs k (h3 k hk)⟩
  · by_cases hjn : j < t.lv.length
    · obtain ⟨G1, e', h1, h2, h3, h4, h5, h6⟩ := h.lvAt j hjn
      simp only [List.getElem_append_left hjn]
      exact ⟨G1, e', by rw [List.getElem?_append_left (by omega)]; exact h1, by rw [List.getElem?_append_left (by omega)]; exact h2, by rw [List.getElem?_append_left (by omega)]; exact h3, by rw [List.getElem?_append_left (by omega)]; exact h4, keep h5 (by decide) (by decide), fun k hk => hs k (h6 k hk)⟩
    · have hjl : j = t.lv.length := by have : j < (t.lv ++ [x]).length := hj; rw [hLl] at this; omega
      subst hjl
      simp only [List.getElem_append_right (Nat.le_refl _), Nat.sub_self, List.getElem_cons_zero]
      refine ⟨G, e, ?_, ?_, ?_, ?_, keep hx (by decide) (by decide), hG⟩
      · rw [List.getElem?_append_right (by omega), show t.lv.length * 4 - ys.length = 0 by omega]; rfl
      · rw [List.getElem?_append_right (by omega), show t.lv.length * 4 + 1 - ys.length = 1 by omega]; rfl
      · rw [List.getElem?_append_right (by omega), show t.lv.length * 4 + 2 - ys.length = 2 by omega]; rfl
      · rw [List.getElem?_append_right (by omega), show t.lv.length * 4 + 3 - ys.length = 3 by omega]; rfl
  · have hjl : j * 4 + 3 < ys.length + 4 := by have := (List.getElem?_eq_some_iff.1 h2).1; simpa using this
    rw [List.getElem?_append_left (by omega)] at h1
    by_cases hjn : j < t.lv.length
    · rw [List.getElem?_append_left (by omega)] at h2
      exact h.apart i j G1 G2 n n' e1 e2 hij h1 h2
    · rw [List.getElem?_append_right (by omega), show j * 4 + 3 - ys.length = 3 by omega] at h2
      have e3 : G = G2 := by
        have : some (Value.slice G x.gr.length e) = some (Value.slice G2 n' e2) := h2
        injection this with this
        injection this
      subst e3
      obtain ⟨G3, e4, _, _, _, h5, _, h6⟩ := h.lvAt i (by omega)
      rw [h1] at h5
      injection h5 with h5
      injection h5 with h5 _ _
      intro k hk hk'
      rw [h5] at hk
      exact hap k hk' (h6 k hk)
  · rcases List.mem_append.1 hy with hy | hy
    · exact h.okl y hy
    · rw [List.mem_singleton] at hy; rw [hy]; exact hok
  · rcases hA k hk with hx | ⟨hx, hy⟩
    · exact hs _ (h.sR k hx)
    · exact hN k (Nat.le_trans hb.size hx) hy
def lfV (x : Lf) (G : Option Addr) (e : Nat) : Value := .agg #[natV x.count, strV x.a, strV x.b, .slice G x.gr.length e]
theorem map_eql {w : World} (m : Option Nat) : (binOp .eql 66 (.map m) (.map none)).run Try.prog w = .ok (.bool m.isNone) w := by
  simp only [binOp]
  simp [run_equal_map_nil w _ _ _ m Try.underlying66]

set_option maxHeartbeats 16000000 in
theorem grow_any (h : TrAt S w g t A c xs R d ys M) (hG : t.lv.length ≤ 1000) (x : Lf) (hok : okLf x) {G : Option Addr} {e : Nat} (hx : RowO w 3 1 G x.gr.length e (x.gr.map natV)) (hap : ∀ k, inA G k → ¬ S k) :
    Calls Try.prog 56 #[.pointer (some ⟨g, 1, none⟩), lfV x G e] w fun e' w' => e' = .returned (.tuple #[]) ∧ (∃ R' d' ys' b, TrAt (fun k => grewS S w w' k ∨ inA G k) w' g ⟨t.ts, t.lv ++ [x]⟩ A c xs R' d' ys' (some b)) ∧ Only S w w' := by
  have hwf : (Lit.int .i64 (t.lv.length : Int)).wf = true := by
    have m1 : IntKind.i64.min = -9223372036854775808 := rfl
    have m2 : IntKind.i64.max = 9223372036854775807 := rfl
    simp only [Lit.wf, Bool.and_eq_true, decide_eq_true_eq]
    omega
  have hmm := @run_makeMap Try.prog
  have hmi : (t.lv.length : Int) ≤ 1000 := by omega
  have hp0 : t.lv.length < maxLen := by unfold maxLen; omega
  have hp1 : t.lv.length + 1 ≤ maxLen := by unfold maxLen; omega
  have hp2 : (t.lv.length + 1) * 64 ≤ 140737488355328 := by omega
  obtain ⟨w1, hw1⟩ : ∃ w1, w1 = w.alloc (.cells #[natV x.count, strV x.a, strV x.b, .slice G x.gr.length e] 96) := ⟨_, rfl⟩
  have hb1 : Below w.heap.size w w1 := by rw [hw1]; exact ext_alloc (Below.refl _ _) _
  have HX1 : Hid (Blk w1 w.heap.size 96 #[natV x.count, strV x.a, strV x.b, .slice G x.gr.length e]) := Lib.hid (by rw [hw1]; exact Blk.new _ _ _)
  have hsz1 : w1.heap.size = w.heap.size + 1 := by rw [hw1, World.size_alloc]
  have HB1 := Lib.hid (h.blk.ext hb1)
  have H := Lib.hid h
  have Hx := Lib.hid hx
  have Hap := Lib.hid hap
  have Hok := Lib.hid hok
  have Hb1 := Lib.hid hb1
  have Hs1 := Lib.hid hsz1
  have Hwf := Lib.hid hwf
  have Hg0 : Hid (g < w.heap.size) := Lib.hid h.blk.lt
  have HRows1 := Lib.hid (h.rows.ext hb1)
  obtain ⟨KA, hKA⟩ : ∃ K : ByteArray, strV x.a = .string K := ⟨_, rfl⟩
  obtain ⟨KB, hKB⟩ : ∃ K : ByteArray, strV x.b = .string K := ⟨_, rfl⟩
  have HKA := Lib.hid hKA
  have HKB := Lib.hid hKB
  have Hw1 := Lib.hid hw1
  unfold lfV natV at *
  rw [hKA, hKB] at HX1 Hw1 ⊢
  obtain ⟨gl, hgl⟩ : ∃ gl, x.gr.length = gl := ⟨_, rfl⟩
  have Hgl := Lib.hid hgl
  rw [hgl] at HX1 Hw1 ⊢
  have y2 := HB1.out.cell 2
  simp only [List.getElem?_toArray, List.getElem?_cons_zero, List.getElem?_cons_succ] at y2
  rw [Hw1.out] at y2
  have hme := fun W => @map_eql W M
  clear h hx hap hok hb1 hw1 hsz1 hwf hgl hKA hKB
  cases M with
  | none =>
    have HMp : Hid (t.lv = []) := Lib.hid (by rcases H.out.map with ⟨_, h0⟩ | ⟨b, h0, _⟩; exact h0; cases h0)
    obtain ⟨w2, hw2⟩ : ∃ w2, w2 = (w1.alloc (.map #[] 0)).setCell ⟨g, 2, none⟩ (.map (some (w.heap.size + 1))) := ⟨_, rfl⟩
    obtain ⟨b, hb⟩ : ∃ b, w.heap.size + 1 = b := ⟨_, rfl⟩
    have hba : Below w1.heap.size w1 (w1.alloc (.map #[] 0)) := ext_alloc (Below.refl _ _) _
    have hBa := HB1.out.ext hba
    have z2 := hBa.cell 2
    have f2 := hBa.free 2
    simp only [List.getElem?_toArray, List.getElem?_cons_zero, List.getElem?_cons_succ] at z2
    have HB2 : Hid (Blk w2 g 70 #[.slice A t.ts.length c, .slice R t.lv.length d, .map (some b)]) := Lib.hid (by rw [hw2, ← hb]; exact hBa.put 2 _)
    have HX2 : Hid (Blk w2 w.heap.size 96 #[.int .i64 (x.count : Int), .string KA, .string KB, .slice G gl e]) := Lib.hid (by rw [hw2]; exact (HX1.out.ext hba).far (p := ⟨g, 2, none⟩) (by have := Hg0.out; show w.heap.size ≠ g; omega) _)
    have HM2 : Hid (ownsPlace w2 b t.lv.length (placeTo t.lv t.lv.length)) := Lib.hid (by
      have h0 : ownsPlace (w1.alloc (.map #[] 0)) w1.heap.size 0 (.map []) := World.ownsMap_made w1 Try.prog 94 _
      rw [HMp.out, hw2, ← hb, ← Hs1.out]
      exact h0.only ((Only.refl (fun k => k = g) _).setCell (.inl rfl) _) (by have := HB1.out.lt; show w1.heap.size ≠ g; omega))
    have HO2 : Hid (Only (fun k => k = g ∨ (none : Option Nat) = some k) w w2) := Lib.hid (by
      rw [hw2]
      exact (((Only.of_ext (S := fun k => k = g ∨ (none : Option Nat) = some k) Hb1.out).trans (Only.of_ext (S := fun k => k = g ∨ (none : Option Nat) = some k) hba) (fun _ _ h => h))).setCell (.inl (.inl rfl)) _)
    have HR2 : Hid (RowO w2 96 4 R t.lv.length d ys) := Lib.hid (by rw [hw2]; exact (HRows1.out.ext hba).only ((Only.refl (fun k => k = g) _).setCell (.inl rfl) _) (fun k hk hx => H.out.rows.ne_blk H.out.blk (by decide) (by rw [← show k = g from hx]; exact hk)))
    have HS2 : Hid (w.heap.size ≤ w2.heap.size ∧ w.heap.size ≤ b ∧ b < w2.heap.size) := Lib.hid (by have h1 := Hs1.out; rw [hw2]; simp [World.setCell]; omega)
    have Hw2 := Lib.hid hw2
    have Hbn := Lib.hid hb
    rw [Hw1.out] at z2 f2
    clear hba hBa hw2 hb
    go_enter Try.func56, Try.ntmps56
    go_wp2_with fail
    rw [← Hw1.out]
    rw [← Hw2.out]
    rw [Hbn.out]
    refine wp_region_held_drew (S := fun W => W.cell? ⟨g, 2, none⟩ = some (.map (some b)) ∧ W.cell? ⟨g, 1, none⟩ = some (.slice R t.lv.length d) ∧ W.cell? ⟨w.heap.size, 0, none⟩ = some (.int .i64 (x.count : Int)) ∧ W.cell? ⟨w.heap.size, 1, none⟩ = some (.string KA) ∧ W.cell? ⟨w.heap.size, 2, none⟩ = some (.string KB)) (by kernel_rfl) ?_ (fun hHeld => ?_)
    · exact ⟨(HB2.out.ext (by repeat (first | exact Below.refl _ _ | apply ext_drew | apply ext_drewN | apply ext_alloc))).cell 2, (HB2.out.ext (by repeat (first | exact Below.refl _ _ | apply ext_drew | apply ext_drewN | apply ext_alloc))).cell 1, (HX2.out.ext (by repeat (first | exact Below.refl _ _ | apply ext_drew | apply ext_drewN | apply ext_alloc))).cell 0, (HX2.out.ext (by repeat (first | exact Below.refl _ _ | apply ext_drew | apply ext_drewN | apply ext_alloc))).cell 1, (HX2.out.ext (by repeat (first | exact Below.refl _ _ | apply ext_drew | apply ext_drewN | apply ext_alloc))).cell 2⟩
    refine wpAnyH_take (i := 0) (v := ?_) (take_list rfl) (by kernel_rfl) (by kernel_rfl) (by kernel_rfl) (fun _ _ _ h => h) (Or.inl ⟨by rfl, ?_⟩) (by assumption) ?_
    rotate_left
    · intro w hSw
      try dsimp only at hSw
      first | (go_simp; done) | (go_simp; with_reducible rfl)
    try simp only [Act.put, List.setIfInBounds_toArray, List.set_cons_zero, List.set_cons_succ]
    refine wpAnyH_take (i := 1) (v := ?_) (take_list rfl) (by kernel_rfl) (by kernel_rfl) (by kernel_rfl) (fun _ _ _ h => h) (Or.inl ⟨by rfl, ?_⟩) (by assumption) ?_
    rotate_left
    · intro w hSw
      try dsimp only at hSw
      first | (go_simp; done) | (go_simp; with_reducible rfl)
    try simp only [Act.put, List.setIfInBounds_toArray, List.set_cons_zero, List.set_cons_succ]
    refine wpAnyH_take (i := 2) (v := ?_) (take_list rfl) (by kernel_rfl) (by kernel_rfl) (by kernel_rfl) (fun _ _ _ h => h) (Or.inl ⟨by rfl, ?_⟩) (by assumption) ?_
    rotate_left
    · intro w hSw
      try dsimp only at hSw
      first | (go_simp; done) | (go_simp; with_reducible rfl)
    try simp only [Act.put, List.setIfInBounds_toArray, List.set_cons_zero, List.set_cons_succ]
    refine wpAnyH_take (i := 3) (v := ?_) (take_list rfl) (by kernel_rfl) (by kernel_rfl) (by kernel_rfl) (fun _ _ _ h => h) (Or.inl ⟨by rfl, ?_⟩) (by assumption) ?_
    rotate_left
    · intro w hSw
      try dsimp only at hSw
      first | (go_simp; done) | (go_simp; with_reducible rfl)
    try simp only [Act.put, List.setIfInBounds_toArray, List.set_cons_zero, List.set_cons_succ]
    refine wpAnyH_take (i := 4) (v := ?_) (take_list rfl) (by kernel_rfl) (by kernel_rfl) (by kernel_rfl) (fun _ _ _ h => h) (Or.inl ⟨by rfl, ?_⟩) (by assumption) ?_
    rotate_left
    · intro w hSw
      try dsimp only at hSw
      first | (go_simp; done) | (go_simp; with_reducible rfl)
    try simp only [Act.put, List.setIfInBounds_toArray, List.set_cons_zero, List.set_cons_succ]
    refine wpAnyH_take (i := 5) (v := ?_) (take_list rfl) (by kernel_rfl) (by kernel_rfl) (by kernel_rfl) (fun _ _ _ h => h) (Or.inl ⟨by rfl, ?_⟩) (by assumption) ?_
    rotate_left
    · intro w hSw
      try dsimp only at hSw
      first | (go_simp; done) | (go_simp; with_reducible rfl)
    try simp only [Act.put, List.setIfInBounds_toArray, List.set_cons_zero, List.set_cons_succ]
    refine wpAnyH_take (i := 6) (v := ?_) (take_list rfl) (by kernel_rfl) (by kernel_rfl) (by kernel_rfl) (fun _ _ _ h => h) (Or.inl ⟨by rfl, ?_⟩) (by assumption) ?_
    rotate_left
    · intro w hSw
      try dsimp only at hSw
      first | (go_simp; done) | (go_simp; with_reducible rfl)
    try simp only [Act.put, List.setIfInBounds_toArray, List.set_cons_zero, List.set_cons_succ]
    refine wpAnyH_take (i := 7) (v := ?_) (take_list rfl) (by kernel_rfl) (by kernel_rfl) (by kernel_rfl) (fun _ _ _ h => h) (Or.inl ⟨by rfl, ?_⟩) (by assumption) ?_
    rotate_left
    · intro w hSw
      try dsimp only at hSw
      first | (go_simp; done) | (go_simp; with_reducible rfl)
    try simp only [Act.put, List.setIfInBounds_toArray, List.set_cons_zero, List.set_cons_succ]
    refine wpAnyH_take (i := 8) (v := ?_) (take_list rfl) (by kernel_rfl) (by kernel_rfl) (by kernel_rfl) (fun _ _ _ h => h) (Or.inl ⟨by rfl, ?_⟩) (by assumption) ?_
    rotate_left
    · intro w hSw
      try dsimp only at hSw
      first | (go_simp; done) | (go_simp; with_reducible rfl)
    try simp only [Act.put, List.setIfInBounds_toArray, List.set_cons_zero, List.set_cons_succ]
    refine wpAnyH_take (i := 9) (v := ?_) (take_list rfl) (by kernel_rfl) (by kernel_rfl) (by kernel_rfl) (fun _ _ _ h => h) (Or.inl ⟨by rfl, ?_⟩) (by assumption) ?_
    rotate_left
    · intro w hSw
      try dsimp only at hSw
      first | (go_simp; done) | (go_simp; with_reducible rfl)
    try simp only [Act.put, List.setIfInBounds_toArray, List.set_cons_zero, List.set_cons_succ]
    refine wpAnyH_take (i := 10) (v := ?_) (take_list rfl) (by kernel_rfl) (by kernel_rfl) (by kernel_rfl) (fun _ _ _ h => h) (Or.inl ⟨by rfl, ?_⟩) (by assumption) ?_
    rotate_left
    · intro w hSw
      try dsimp only at hSw
      first | (go_simp; done) | (go_simp; with_reducible rfl)
    try simp only [Act.put, List.setIfInBounds_toArray, List.set_cons_zero, List.set_cons_succ]
    refine wpAnyH_ready (rs := [11]) (by kernel_rfl) (by simp) ?_
    refine AllReadyH.cons (take_list rfl) (fun K hK => ?_) ?_
    · skip
      refine step_placeUp rfl (.tmp 16) (.tmp 18) (.tmp 23) rfl rfl (HM2.out.ext (by repeat (first | exact Below.refl _ _ | apply ext_drew | apply ext_drewN | apply ext_alloc))) hp0 Hok.out (by show Value.agg _ = keyV x.count x.a x.b; unfold keyV; rw [HKA.out, HKB.out]) Hwf.out rfl ?_
      intro w3 hM3 hg3
      have hne : b ≠ g := HM2.out.ne_blk HB2.out
      have hO3 : Only (fun k => k = b) w2 w3 := (Only.of_ext (S := fun k => k = b) (by repeat (first | exact Below.refl _ _ | apply ext_drew | apply ext_drewN | apply ext_alloc) : Below w2.heap.size w2 w2.drew)).trans (Only.grown (Only.refl (fun k => k = b) _) hg3 (fun k hk _ => by injection hk with hk; exact hk.symm)) (fun _ _ h => h)
      have HB3 := Lib.hid (HB2.out.only hO3 (fun h => hne h.symm))
      have HX3 := Lib.hid (HX2.out.only hO3 (fun h => HM2.out.ne_blk HX2.out h.symm))
      have HR3 := Lib.hid (HR2.out.only hO3 (fun k hk hx => HM2.out.ne_row HR2.out (by rw [← show k = b from hx]; exact hk)))
      have HM3 : Hid (ownsPlace w3 b (t.lv.length + 1) (placeTo (t.lv ++ [x]) (t.lv.length + 1))) := Lib.hid (by rw [place_snoc]; exact hM3)
      have HO3 := Lib.hid (HO2.out.trans hO3 (fun k hk hx => by have := HS2.out.2.1; omega))
      have HS3 : Hid (w2.heap.size ≤ w3.heap.size) := Lib.hid hO3.size
      clear hM3 hg3 hne hO3
      refine hK.out _ _ ?_ (fun hHeld => ?_)
      · try dsimp only
        exact ⟨(HB3.out.ext (by repeat (first | exact Below.refl _ _ | apply ext_drew | apply ext_drewN | apply ext_alloc))).cell 2, (HB3.out.ext (by repeat (first | exact Below.refl _ _ | apply ext_drew | apply ext_drewN | apply ext_alloc))).cell 1, (HX3.out.ext (by repeat (first | exact Below.refl _ _ | apply ext_drew | apply ext_drewN | apply ext_alloc))).cell 0, (HX3.out.ext (by repeat (first | exact Below.refl _ _ | apply ext_drew | apply ext_drewN | apply ext_alloc))).cell 1, (HX3.out.ext (by repeat (first | exact Below.refl _ _ | apply ext_drew | apply ext_drewN | apply ext_alloc))).cell 2⟩
      clear hK K
      refine wpAnyH_done (by kernel_rfl) ?_ _
      go_wp2_with fail
      refine wp_region_held_drew (S := fun W => W.cell? ⟨w.heap.size, 0, none⟩ = some (.int .i64 (x.count : Int)) ∧ W.cell? ⟨w.heap.size, 1, none⟩ = some (.string KA) ∧ W.cell? ⟨w.heap.size, 2, none⟩ = some (.string KB) ∧ W.cell? ⟨w.heap.size, 3, none⟩ = some (.slice G gl e)) (by kernel_rfl) ?_ (fun hHeld => ?_)
      · exact ⟨(HX3.out.ext (by repeat (first | exact Below.refl _ _ | apply ext_drew | apply ext_drewN | apply ext_alloc))).cell 0, (HX3.out.ext (by repeat (first | exact Below.refl _ _ | apply ext_drew | apply ext_drewN | apply ext_alloc))).cell 1, (HX3.out.ext (by repeat (first | exact Below.refl _ _ | apply ext_drew | apply ext_drewN | apply ext_alloc))).cell 2, (HX3.out.ext (by repeat (first | exact Below.refl _ _ | apply ext_drew | apply ext_drewN | apply ext_alloc))).cell 3⟩
      refine wpAnyH_take (i := 0) (v := ?_) (take_list rfl) (by kernel_rfl) (by kernel_rfl) (by kernel_rfl) (fun _ _ _ h => h) (Or.inl ⟨by rfl, ?_⟩) (by assumption) ?_
      rotate_left
      · intro w hSw
        try dsimp only at hSw
        first | (go_simp; done) | (go_simp; with_reducible rfl)
      try simp only [Act.put, List.setIfInBounds_toArray, List.set_cons_zero, List.set_cons_succ]
      refine wpAnyH_take (i := 1) (v := ?_) (take_list rfl) (by kernel_rfl) (by kernel_rfl) (by kernel_rfl) (fun _ _ _ h => h) (Or.inl ⟨by rfl, ?_⟩) (by assumption) ?_
      rotate_left
      · intro w hSw
        try dsimp only at hSw
        first | (go_simp; done) | (go_simp; with_reducible rfl)
      try simp only [Act.put, List.setIfInBounds_toArray, List.set_cons_zero, List.set_cons_succ]
      refine wpAnyH_take (i := 2) (v := ?_) (take_list rfl) (by kernel_rfl) (by kernel_rfl) (by kernel_rfl) (fun _ _ _ h => h) (Or.inl ⟨by rfl, ?_⟩) (by assumption) ?_
      rotate_left
      · intro w hSw
        try dsimp only at hSw
        first | (go_simp; done) | (go_simp; with_reducible rfl)
      try simp only [Act.put, List.setIfInBounds_toArray, List.set_cons_zero, List.set_cons_succ]
      refine wpAnyH_take (i := 3) (v := ?_) (take_list rfl) (by kernel_rfl) (by kernel_rfl) (by kernel_rfl) (fun _ _ _ h => h) (Or.inl ⟨by rfl, ?_⟩) (by assumption) ?_
      rotate_left
      · intro w hSw
        try dsimp only at hSw
        first | (go_simp; done) | (go_simp; with_reducible rfl)
      try simp only [Act.put, List.setIfInBounds_toArray, List.set_cons_zero, List.set_cons_succ]
      refine wpAnyH_take (i := 5) (v := ?_) (take_list rfl) (by kernel_rfl) (by kernel_rfl) (by kernel_rfl) (fun _ _ _ h => h) (Or.inl ⟨by rfl, ?_⟩) (by assumption) ?_
      rotate_left
      · intro w hSw
        try dsimp only at hSw
        first | (go_simp; done) | (go_simp; with_reducible rfl)
      try simp only [Act.put, List.setIfInBounds_toArray, List.set_cons_zero, List.set_cons_succ]
      refine wpAnyH_ready (rs := [4, 6]) (by kernel_rfl) (by simp) ?_
      refine AllReadyH.cons (take_list rfl) (fun K hK => ?_) ?_
      · skip
        have ql := (HB3.out.ext (by repeat (first | exact Below.refl _ _ | apply ext_drew | apply ext_drewN | apply ext_alloc) : Below w3.heap.size w3 (w3.drew))).cell 1
        simp only [List.getElem?_toArray, List.getElem?_cons_zero, List.getElem?_cons_succ] at ql
        go_simp
        clear ql
        refine hK.out _ _ ?_ (fun hHeld => ?_)
        · try dsimp only
          exact ⟨(HX3.out.ext (by repeat (first | exact Below.refl _ _ | apply ext_drew | apply ext_drewN | apply ext_alloc))).cell 0, (HX3.out.ext (by repeat (first | exact Below.refl _ _ | apply ext_drew | apply ext_drewN | apply ext_alloc))).cell 1, (HX3.out.ext (by repeat (first | exact Below.refl _ _ | apply ext_drew | apply ext_drewN | apply ext_alloc))).cell 2, (HX3.out.ext (by repeat (first | exact Below.refl _ _ | apply ext_drew | apply ext_drewN | apply ext_alloc))).cell 3⟩
        clear hK K
        refine wpAnyH_ready (rs := [6]) (by kernel_rfl) (by simp) ?_
        refine AllReadyH.cons (take_list rfl) (fun K hK => ?_) ?_
        · skip
          go_simp
          refine hK.out _ _ ?_ (fun hHeld => ?_)
          · try dsimp only
            exact ⟨(HX3.out.ext (by repeat (first | exact Below.refl _ _ | apply ext_drew | apply ext_drewN | apply ext_alloc))).cell 0, (HX3.out.ext (by repeat (first | exact Below.refl _ _ | apply ext_drew | apply ext_drewN | apply ext_alloc))).cell 1, (HX3.out.ext (by repeat (first | exact Below.refl _ _ | apply ext_drew | apply ext_drewN | apply ext_alloc))).cell 2, (HX3.out.ext (by repeat (first | exact Below.refl _ _ | apply ext_drew | apply ext_drewN | apply ext_alloc))).cell 3⟩
          clear hK K
          refine wpAnyH_ready (rs := [7]) (by kernel_rfl) (by simp) ?_
          refine AllReadyH.cons (take_list rfl) (fun K hK => ?_) ?_
          · skip
            refine step_appO _ rfl (.tmp 28) (.tmp 30) _ rfl 96 _ 4 64 Try.underlying65 info_leaf rfl R t.lv.length d ys rfl (HR3.out.ext (by repeat (first | exact Below.refl _ _ | apply ext_drew | apply ext_drewN | apply ext_alloc))) (some ⟨_, 0, none⟩) 1 1 [.int .i64 (x.count : Int), .string KA, .string KB, .slice G gl e] rfl rfl (by repeat (first | exact Rd.lit_at _ #[.int .i64 (x.count : Int), .string KA, .string KB, .slice G gl e] _ (by first | rfl | (simp [World.size_alloc]; done)) | apply Rd.drew | apply Rd.alloc)) (by intro u hu; simp at hu; rcases hu with rfl | rfl | rfl | rfl <;> rfl) (by intro h; cases h) hp1 hp2 ?_
            intro A5 c5 w5 hr5 ho5 hA5
            have hgR : ¬ inA R g := H.out.rows.ne_blk H.out.blk (by decide)
            have hB5 := (HB3.out.ext (by repeat (first | exact Below.refl _ _ | apply ext_drew | apply ext_drewN | apply ext_alloc))).only ho5 hgR
            have hXR : ¬ inA R w.heap.size := fun hk => by have := H.out.rows.lt hk; omega
            have HX5 := Lib.hid ((HX3.out.ext (by repeat (first | exact Below.refl _ _ | apply ext_drew | apply ext_drewN | apply ext_alloc))).only ho5 hXR)
            have q1 := hB5.cell 1
            have f1 := hB5.free 1
            simp only [List.getElem?_toArray, List.getElem?_cons_zero, List.getElem?_cons_succ] at q1
            have HX6 := Lib.hid (HX5.out.far (p := ⟨g, 1, none⟩) (by have := Hg0.out; show w.heap.size ≠ g; omega) (.slice A5 (t.lv.length + 1) c5))
            have hz6 : (w5.setCell ⟨g, 1, none⟩ (.slice A5 (t.lv.length + 1) c5)).heap.size = w5.heap.size := by simp [World.setCell]
            have hs5 := ho5.size
            have hs3 := HS3.out
            have hs2 := HS2.out
            have hbw : w3.heap.size ≤ w5.heap.size := by simp only [World.size_alloc, World.drew, World.drewN] at hs5; omega
            rw [← Hgl.out, ← HKA.out, ← HKB.out] at hr5
            have HT6 := Lib.hid (H.out.grown (T := fun k => grewS S w (w5.setCell ⟨g, 1, none⟩ (.slice A5 (t.lv.length + 1) c5)) k ∨ inA G k) Hok.out Hx.out Hap.out HO3.out HB3.out HM3.out (by repeat (first | exact Below.refl _ _ | apply ext_drew | apply ext_drewN | apply ext_alloc)) hr5 ho5 hA5 (fun k hk => .inl (.inl hk)) (fun k hk => .inr hk) (fun k h1 h2 => .inl (.inr ⟨by omega, by rw [hz6]; exact h2⟩)) (.inl (.inr ⟨hs2.2.1, by rw [hz6]; omega⟩)) (fun k hk => by
              rcases hk with (hk | hk) | hk
              · have := H.out.lt k hk; omega
              · rw [hz6] at hk; exact hk.2
              · have := Hx.out.lt hk; omega))
            have HO6 : Hid (Only S w (w5.setCell ⟨g, 1, none⟩ (.slice A5 (t.lv.length + 1) c5))) := Lib.hid (((HO3.out.mono (fun k _ hk => by rcases hk with rfl | hk; exact H.out.sg; exact H.out.sM k hk)).trans ((Only.of_ext (S := S) (by repeat (first | exact Below.refl _ _ | apply ext_drew | apply ext_drewN | apply ext_alloc) : Below w3.heap.size w3 _)).trans ho5 (fun k _ hk => H.out.sR k hk)) (fun _ _ h => h)).setCell (.inl H.out.sg) _)
            clear hr5 ho5 hA5 hgR hB5 hXR hz6 hs5 hs3 hs2 hbw
            refine hK.out _ _ ?_ (fun hHeld => ?_)
            · try dsimp only
              exact ⟨(HX5.out.ext (by repeat (first | exact Below.refl _ _ | apply ext_drew | apply ext_drewN | apply ext_alloc))).cell 0, (HX5.out.ext (by repeat (first | exact Below.refl _ _ | apply ext_drew | apply ext_drewN | apply ext_alloc))).cell 1, (HX5.out.ext (by repeat (first | exact Below.refl _ _ | apply ext_drew | apply ext_drewN | apply ext_alloc))).cell 2, (HX5.out.ext (by repeat (first | exact Below.refl _ _ | apply ext_drew | apply ext_drewN | apply ext_alloc))).cell 3⟩
            clear hK K
            refine wpAnyH_take (i := 8) (v := ?_) (take_list rfl) (by kernel_rfl) (by kernel_rfl) (by kernel_rfl) (fun _ _ _ h => h) (Or.inl ⟨by rfl, ?_⟩) (by assumption) ?_
            rotate_left
            · intro w hSw
              try dsimp only at hSw
              first | (go_simp; done) | (go_simp; with_reducible rfl)
            try simp only [Act.put, List.setIfInBounds_toArray, List.set_cons_zero, List.set_cons_succ]
            refine wpAnyH_take (i := 9) (v := ?_) (take_list rfl) (by kernel_rfl) (by kernel_rfl) (by kernel_rfl) (fun _ _ _ h => h) (Or.inl ⟨by rfl, ?_⟩) (by assumption) ?_
            rotate_left
            · intro w hSw
              try dsimp only at hSw
              first | (go_simp; done) | (go_simp; with_reducible rfl)
            try simp only [Act.put, List.setIfInBounds_toArray, List.set_cons_zero, List.set_cons_succ]
            refine wpAnyH_ready (rs := [10]) (by kernel_rfl) (by simp) ?_
            refine AllReadyH.cons (take_list rfl) (fun K hK => ?_) ?_
            · skip
              go_simp
              refine hK.out _ _ ?_ (fun hHeld => ?_)
              · try dsimp only
                exact ⟨(HX6.out.ext (by repeat (first | exact Below.refl _ _ | apply ext_drew | apply ext_drewN | apply ext_alloc))).cell 0, (HX6.out.ext (by repeat (first | exact Below.refl _ _ | apply ext_drew | apply ext_drewN | apply ext_alloc))).cell 1, (HX6.out.ext (by repeat (first | exact Below.refl _ _ | apply ext_drew | apply ext_drewN | apply ext_alloc))).cell 2, (HX6.out.ext (by repeat (first | exact Below.refl _ _ | apply ext_drew | apply ext_drewN | apply ext_alloc))).cell 3⟩
              clear hK K
              refine wpAnyH_done (by kernel_rfl) ?_ _
              go_wp2
              go_end0
              exact ⟨rfl, ⟨_, _, _, _, HT6.out⟩, HO6.out⟩
            exact AllReadyH.nil
          exact AllReadyH.nil
        exact AllReadyH.nil
      refine AllReadyH.cons (take_list rfl) (fun K hK => ?_) ?_
      · skip
        go_simp
        refine hK.out _ _ ?_ (fun hHeld => ?_)
        · try dsimp only
          exact ⟨(HX3.out.ext (by repeat (first | exact Below.refl _ _ | apply ext_drew | apply ext_drewN | apply ext_alloc))).cell 0, (HX3.out.ext (by repeat (first | exact Below.refl _ _ | apply ext_drew | apply ext_drewN | apply ext_alloc))).cell 1, (HX3.out.ext (by repeat (first | exact Below.refl _ _ | apply ext_drew | apply ext_drewN | apply ext_alloc))).cell 2, (HX3.out.ext (by repeat (first | exact Below.refl _ _ | apply ext_drew | apply ext_drewN | apply ext_alloc))).cell 3⟩
        clear hK K
        refine wpAnyH_ready (rs := [4]) (by kernel_rfl) (by simp) ?_
        refine AllReadyH.cons (take_list rfl) (fun K hK => ?_) ?_
        · skip
          have ql := (HB3.out.ext (by repeat (first | exact Below.refl _ _ | apply ext_drew | apply ext_drewN | apply ext_alloc) : Below w3.heap.size w3 (w3.alloc (.cells #[.int .i64 (x.count : Int), .string KA, .string KB, .slice G gl e] 96)))).cell 1
          simp only [List.getElem?_toArray, List.getElem?_cons_zero, List.getElem?_cons_succ] at ql
          go_simp
          clear ql
          refine hK.out _ _ ?_ (fun hHeld => ?_)
          · try dsimp only
            exact ⟨(HX3.out.ext (by repeat (first | exact Below.refl _ _ | apply ext_drew | apply ext_drewN | apply ext_alloc))).cell 0, (HX3.out.ext (by repeat (first | exact Below.refl _ _ | apply ext_drew | apply ext_drewN | apply ext_alloc))).cell 1, (HX3.out.ext (by repeat (first | exact Below.refl _ _ | apply ext_drew | apply ext_drewN | apply ext_alloc))).cell 2, (HX3.out.ext (by repeat (first | exact Below.refl _ _ | apply ext_drew | apply ext_drewN | apply ext_alloc))).cell 3⟩
          clear hK K
          refine wpAnyH_ready (rs := [7]) (by kernel_rfl) (by simp) ?_
          refine AllReadyH.cons (take_list rfl) (fun K hK => ?_) ?_
          · skip
            refine step_appO _ rfl (.tmp 28) (.tmp 30) _ rfl 96 _ 4 64 Try.underlying65 info_leaf rfl R t.lv.length d ys rfl (HR3.out.ext (by repeat (first | exact Below.refl _ _ | apply ext_drew | apply ext_drewN | apply ext_alloc))) (some ⟨_, 0, none⟩) 1 1 [.int .i64 (x.count : Int), .string KA, .string KB, .slice G gl e] rfl rfl (by repeat (first | exact Rd.lit_at _ #[.int .i64 (x.count : Int), .string KA, .string KB, .slice G gl e] _ (by first | rfl | (simp [World.size_alloc]; done)) | apply Rd.drew | apply Rd.alloc)) (by intro u hu; simp at hu; rcases hu with rfl | rfl | rfl | rfl <;> rfl) (by intro h; cases h) hp1 hp2 ?_
            intro A5 c5 w5 hr5 ho5 hA5
            have hgR : ¬ inA R g := H.out.rows.ne_blk H.out.blk (by decide)
            have hB5 := (HB3.out.ext (by repeat (first | exact Below.refl _ _ | apply ext_drew | apply ext_drewN | apply ext_alloc))).only ho5 hgR
            have hXR : ¬ inA R w.heap.size := fun hk => by have := H.out.rows.lt hk; omega
            have HX5 := Lib.hid ((HX3.out.ext (by repeat (first | exact Below.refl _ _ | apply ext_drew | apply ext_drewN | apply ext_alloc))).only ho5 hXR)
            have q1 := hB5.cell 1
            have f1 := hB5.free 1
            simp only [List.getElem?_toArray, List.getElem?_cons_zero, List.getElem?_cons_succ] at q1
            have HX6 := Lib.hid (HX5.out.far (p := ⟨g, 1, none⟩) (by have := Hg0.out; show w.heap.size ≠ g; omega) (.slice A5 (t.lv.length + 1) c5))
            have hz6 : (w5.setCell ⟨g, 1, none⟩ (.slice A5 (t.lv.length + 1) c5)).heap.size = w5.heap.size := by simp [World.setCell]
            have hs5 := ho5.size
            have hs3 := HS3.out
            have hs2 := HS2.out
            have hbw : w3.heap.size ≤ w5.heap.size := by simp only [World.size_alloc, World.drew, World.drewN] at hs5; omega
            rw [← Hgl.out, ← HKA.out, ← HKB.out] at hr5
            have HT6 := Lib.hid (H.out.grown (T := fun k => grewS S w (w5.setCell ⟨g, 1, none⟩ (.slice A5 (t.lv.length + 1) c5)) k ∨ inA G k) Hok.out Hx.out Hap.out HO3.out HB3.out HM3.out (by repeat (first | exact Below.refl _ _ | apply ext_drew | apply ext_drewN | apply ext_alloc)) hr5 ho5 hA5 (fun k hk => .inl (.inl hk)) (fun k hk => .inr hk) (fun k h1 h2 => .inl (.inr ⟨by omega, by rw [hz6]; exact h2⟩)) (.inl (.inr ⟨hs2.2.1, by rw [hz6]; omega⟩)) (fun k hk => by
              rcases hk with (hk | hk) | hk
              · have := H.out.lt k hk; omega
              · rw [hz6] at hk; exact hk.2
              · have := Hx.out.lt hk; omega))
            have HO6 : Hid (Only S w (w5.setCell ⟨g, 1, none⟩ (.slice A5 (t.lv.length + 1) c5))) := Lib.hid (((HO3.out.mono (fun k _ hk => by rcases hk with rfl | hk; exact H.out.sg; exact H.out.sM k hk)).trans ((Only.of_ext (S := S) (by repeat (first | exact Below.refl _ _ | apply ext_drew | apply ext_drewN | apply ext_alloc) : Below w3.heap.size w3 _)).trans ho5 (fun k _ hk => H.out.sR k hk)) (fun _ _ h => h)).setCell (.inl H.out.sg) _)
            clear hr5 ho5 hA5 hgR hB5 hXR hz6 hs5 hs3 hs2 hbw
            refine hK.out _ _ ?_ (fun hHeld => ?_)
            · try dsimp only
              exact ⟨(HX5.out.ext (by repeat (first | exact Below.refl _ _ | apply ext_drew | apply ext_drewN | apply ext_alloc))).cell 0, (HX5.out.ext (by repeat (first | exact Below.refl _ _ | apply ext_drew | apply ext_drewN | apply ext_alloc))).cell 1, (HX5.out.ext (by repeat (first | exact Below.refl _ _ | apply ext_drew | apply ext_drewN | apply ext_alloc))).cell 2, (HX5.out.ext (by repeat (first | exact Below.refl _ _ | apply ext_drew | apply ext_drewN | apply ext_alloc))).cell 3⟩
            clear hK K
            refine wpAnyH_take (i := 8) (v := ?_) (take_list rfl) (by kernel_rfl) (by kernel_rfl) (by kernel_rfl) (fun _ _ _ h => h) (Or.inl ⟨by rfl, ?_⟩) (by assumption) ?_
            rotate_left
            · intro w hSw
              try dsimp only at hSw
              first | (go_simp; done) | (go_simp; with_reducible rfl)
            try simp only [Act.put, List.setIfInBounds_toArray, List.set_cons_zero, List.set_cons_succ]
            refine wpAnyH_take (i := 9) (v := ?_) (take_list rfl) (by kernel_rfl) (by kernel_rfl) (by kernel_rfl) (fun _ _ _ h => h) (Or.inl ⟨by rfl, ?_⟩) (by assumption) ?_
            rotate_left
            · intro w hSw
              try dsimp only at hSw
              first | (go_simp; done) | (go_simp; with_reducible rfl)
            try simp only [Act.put, List.setIfInBounds_toArray, List.set_cons_zero, List.set_cons_succ]
            refine wpAnyH_ready (rs := [10]) (by kernel_rfl) (by simp) ?_
            refine AllReadyH.cons (take_list rfl) (fun K hK => ?_) ?_
            · skip
              go_simp
              refine hK.out _ _ ?_ (fun hHeld => ?_)
              · try dsimp only
                exact ⟨(HX6.out.ext (by repeat (first | exact Below.refl _ _ | apply ext_drew | apply ext_drewN | apply ext_alloc))).cell 0, (HX6.out.ext (by repeat (first | exact Below.refl _ _ | apply ext_drew | apply ext_drewN | apply ext_alloc))).cell 1, (HX6.out.ext (by repeat (first | exact Below.refl _ _ | apply ext_drew | apply ext_drewN | apply ext_alloc))).cell 2, (HX6.out.ext (by repeat (first | exact Below.refl _ _ | apply ext_drew | apply ext_drewN | apply ext_alloc))).cell 3⟩
              clear hK K
              refine wpAnyH_done (by kernel_rfl) ?_ _
              go_wp2
              go_end0
              exact ⟨rfl, ⟨_, _, _, _, HT6.out⟩, HO6.out⟩
            exact AllReadyH.nil
          exact AllReadyH.nil
        exact AllReadyH.nil
      exact AllReadyH.nil
    exact AllReadyH.nil
  | some b =>
    have HB2 : Hid (Blk w1 g 70 #[.slice A t.ts.length c, .slice R t.lv.length d, .map (some b)]) := HB1
    have HX2 := HX1
    have HM2 : Hid (ownsPlace w1 b t.lv.length (placeTo t.lv t.lv.length)) := Lib.hid (by rcases H.out.map with ⟨h0, _⟩ | ⟨b', h0, h1⟩; cases h0; injection h0 with h0; subst h0; exact h1.ext Hb1.out)
    have HO2 : Hid (Only (fun k => k = g ∨ some b = some k) w w1) := Lib.hid (Only.of_ext Hb1.out)
    have HR2 := HRows1
    have HS2 : Hid (w.heap.size ≤ w1.heap.size ∧ (S b) ∧ b < w1.heap.size) := Lib.hid ⟨by have := Hs1.out; omega, H.out.sM b rfl, by have h1 := HM2.out.lt'; exact h1⟩
    obtain ⟨w2, hw2⟩ : ∃ w2, w1 = w2 := ⟨_, rfl⟩
    rw [hw2] at HB2 HX2 HM2 HO2 HR2 HS2
    have Hw2 := Lib.hid hw2
    clear hw2
    go_enter Try.func56, Try.ntmps56
    go_wp2_with fail
    rw [← Hw1.out]
    rw [Hw2.out]
    refine wp_region_held_drew (S := fun W => W.cell? ⟨g, 2, none⟩ = some (.map (some b)) ∧ W.cell? ⟨g, 1, none⟩ = some (.slice R t.lv.length d) ∧ W.cell? ⟨w.heap.size, 0, none⟩ = some (.int .i64 (x.count : Int)) ∧ W.cell? ⟨w.heap.size, 1, none⟩ = some (.string KA) ∧ W.cell? ⟨w.heap.size, 2, none⟩ = some (.string KB)) (by kernel_rfl) ?_ (fun hHeld => ?_)
    · exact ⟨(HB2.out.ext (by repeat (first | exact Below.refl _ _ | apply ext_drew | apply ext_drewN | apply ext_alloc))).cell 2, (HB2.out.ext (by repeat (first | exact Below.refl _ _ | apply ext_drew | apply ext_drewN | apply ext_alloc))).cell 1, (HX2.out.ext (by repeat (first | exact Below.refl _ _ | apply ext_drew | apply ext_drewN | apply ext_alloc))).cell 0, (HX2.out.ext (by repeat (first | exact Below.refl _ _ | apply ext_drew | apply ext_drewN | apply ext_alloc))).cell 1, (HX2.out.ext (by repeat (first | exact Below.refl _ _ | apply ext_drew | apply ext_drewN | apply ext_alloc))).cell 2⟩
    refine wpAnyH_take (i := 0) (v := ?_) (take_list rfl) (by kernel_rfl) (by kernel_rfl) (by kernel_rfl) (fun _ _ _ h => h) (Or.inl ⟨by rfl, ?_⟩) (by assumption) ?_
    rotate_left
    · intro w hSw
      try dsimp only at hSw
      first | (go_simp; done) | (go_simp; with_reducible rfl)
    try simp only [Act.put, List.setIfInBounds_toArray, List.set_cons_zero, List.set_cons_succ]
    refine wpAnyH_take (i := 1) (v := ?_) (take_list rfl) (by kernel_rfl) (by kernel_rfl) (by kernel_rfl) (fun _ _ _ h => h) (Or.inl ⟨by rfl, ?_⟩) (by assumption) ?_
    rotate_left
    · intro w hSw
      try dsimp only at hSw
      first | (go_simp; done) | (go_simp; with_reducible rfl)
    try simp only [Act.put, List.setIfInBounds_toArray, List.set_cons_zero, List.set_cons_succ]
    refine wpAnyH_take (i := 2) (v := ?_) (take_list rfl) (by kernel_rfl) (by kernel_rfl) (by kernel_rfl) (fun _ _ _ h => h) (Or.inl ⟨by rfl, ?_⟩) (by assumption) ?_
    rotate_left
    · intro w hSw
      try dsimp only at hSw
      first | (go_simp; done) | (go_simp; with_reducible rfl)
    try simp only [Act.put, List.setIfInBounds_toArray, List.set_cons_zero, List.set_cons_succ]
    refine wpAnyH_take (i := 3) (v := ?_) (take_list rfl) (by kernel_rfl) (by kernel_rfl) (by kernel_rfl) (fun _ _ _ h => h) (Or.inl ⟨by rfl, ?_⟩) (by assumption) ?_
    rotate_left
    · intro w hSw
      try dsimp only at hSw
      first | (go_simp; done) | (go_simp; with_reducible rfl)
    try simp only [Act.put, List.setIfInBounds_toArray, List.set_cons_zero, List.set_cons_succ]
    refine wpAnyH_take (i := 4) (v := ?_) (take_list rfl) (by kernel_rfl) (by kernel_rfl) (by kernel_rfl) (fun _ _ _ h => h) (Or.inl ⟨by rfl, ?_⟩) (by assumption) ?_
    rotate_left
    · intro w hSw
      try dsimp only at hSw
      first | (go_simp; done) | (go_simp; with_reducible rfl)
    try simp only [Act.put, List.setIfInBounds_toArray, List.set_cons_zero, List.set_cons_succ]
    refine wpAnyH_take (i := 5) (v := ?_) (take_list rfl) (by kernel_rfl) (by kernel_rfl) (by kernel_rfl) (fun _ _ _ h => h) (Or.inl ⟨by rfl, ?_⟩) (by assumption) ?_
    rotate_left
    · intro w hSw
      try dsimp only at hSw
      first | (go_simp; done) | (go_simp; with_reducible rfl)
    try simp only [Act.put, List.setIfInBounds_toArray, List.set_cons_zero, List.set_cons_succ]
    refine wpAnyH_take (i := 6) (v := ?_) (take_list rfl) (by kernel_rfl) (by kernel_rfl) (by kernel_rfl) (fun _ _ _ h => h) (Or.inl ⟨by rfl, ?_⟩) (by assumption) ?_
    rotate_left
    · intro w hSw
      try dsimp only at hSw
      first | (go_simp; done) | (go_simp; with_reducible rfl)
    try simp only [Act.put, List.setIfInBounds_toArray, List.set_cons_zero, List.set_cons_succ]
    refine wpAnyH_take (i := 7) (v := ?_) (take_list rfl) (by kernel_rfl) (by kernel_rfl) (by kernel_rfl) (fun _ _ _ h => h) (Or.inl ⟨by rfl, ?_⟩) (by assumption) ?_
    rotate_left
    · intro w hSw
      try dsimp only at hSw
      first | (go_simp; done) | (go_simp; with_reducible rfl)
    try simp only [Act.put, List.setIfInBounds_toArray, List.set_cons_zero, List.set_cons_succ]
    refine wpAnyH_take (i := 8) (v := ?_) (take_list rfl) (by kernel_rfl) (by kernel_rfl) (by kernel_rfl) (fun _ _ _ h => h) (Or.inl ⟨by rfl, ?_⟩) (by assumption) ?_
    rotate_left
    · intro w hSw
      try dsimp only at hSw
      first | (go_simp; done) | (go_simp; with_reducible rfl)
    try simp only [Act.put, List.setIfInBounds_toArray, List.set_cons_zero, List.set_cons_succ]
    refine wpAnyH_take (i := 9) (v := ?_) (take_list rfl) (by kernel_rfl) (by kernel_rfl) (by kernel_rfl) (fun _ _ _ h => h) (Or.inl ⟨by rfl, ?_⟩) (by assumption) ?_
    rotate_left
    · intro w hSw
      try dsimp only at hSw
      first | (go_simp; done) | (go_simp; with_reducible rfl)
    try simp only [Act.put, List.setIfInBounds_toArray, List.set_cons_zero, List.set_cons_succ]
    refine wpAnyH_take (i := 10) (v := ?_) (take_list rfl) (by kernel_rfl) (by kernel_rfl) (by kernel_rfl) (fun _ _ _ h => h) (Or.inl ⟨by rfl, ?_⟩) (by assumption) ?_
    rotate_left
    · intro w hSw
      try dsimp only at hSw
      first | (go_simp; done) | (go_simp; with_reducible rfl)
    try simp only [Act.put, List.setIfInBounds_toArray, List.set_cons_zero, List.set_cons_succ]
    refine wpAnyH_ready (rs := [11]) (by kernel_rfl) (by simp) ?_
    refine AllReadyH.cons (take_list rfl) (fun K hK => ?_) ?_
    · skip
      refine step_placeUp rfl (.tmp 16) (.tmp 18) (.tmp 23) rfl rfl (HM2.out.ext (by repeat (first | exact Below.refl _ _ | apply ext_drew | apply ext_drewN | apply ext_alloc))) hp0 Hok.out (by show Value.agg _ = keyV x.count x.a x.b; unfold keyV; rw [HKA.out, HKB.out]) Hwf.out rfl ?_
      intro w3 hM3 hg3
      have hne : b ≠ g := HM2.out.ne_blk HB2.out
      have hO3 : Only (fun k => k = b) w2 w3 := (Only.of_ext (S := fun k => k = b) (by repeat (first | exact Below.refl _ _ | apply ext_drew | apply ext_drewN | apply ext_alloc) : Below w2.heap.size w2 w2.drew)).trans (Only.grown (Only.refl (fun k => k = b) _) hg3 (fun k hk _ => by injection hk with hk; exact hk.symm)) (fun _ _ h => h)
      have HB3 := Lib.hid (HB2.out.only hO3 (fun h => hne h.symm))
      have HX3 := Lib.hid (HX2.out.only hO3 (fun h => HM2.out.ne_blk HX2.out h.symm))
      have HR3 := Lib.hid (HR2.out.only hO3 (fun k hk hx => HM2.out.ne_row HR2.out (by rw [← show k = b from hx]; exact hk)))
      have HM3 : Hid (ownsPlace w3 b (t.lv.length + 1) (placeTo (t.lv ++ [x]) (t.lv.length + 1))) := Lib.hid (by rw [place_snoc]; exact hM3)
      have HO3 := Lib.hid (HO2.out.trans hO3 (fun k hk hx => .inr (by rw [show k = b from hx])))
      have HS3 : Hid (w2.heap.size ≤ w3.heap.size) := Lib.hid hO3.size
      clear hM3 hg3 hne hO3
      refine hK.out _ _ ?_ (fun hHeld => ?_)
      · try dsimp only
        exact ⟨(HB3.out.ext (by repeat (first | exact Below.refl _ _ | apply ext_drew | apply ext_drewN | apply ext_alloc))).cell 2, (HB3.out.ext (by repeat (first | exact Below.refl _ _ | apply ext_drew | apply ext_drewN | apply ext_alloc))).cell 1, (HX3.out.ext (by repeat (first | exact Below.refl _ _ | apply ext_drew | apply ext_drewN | apply ext_alloc))).cell 0, (HX3.out.ext (by repeat (first | exact Below.refl _ _ | apply ext_drew | apply ext_drewN | apply ext_alloc))).cell 1, (HX3.out.ext (by repeat (first | exact Below.refl _ _ | apply ext_drew | apply ext_drewN | apply ext_alloc))).cell 2⟩
      clear hK K
      refine wpAnyH_done (by kernel_rfl) ?_ _
      go_wp2_with fail
      refine wp_region_held_drew (S := fun W => W.cell? ⟨w.heap.size, 0, none⟩ = some (.int .i64 (x.count : Int)) ∧ W.cell? ⟨w.heap.size, 1, none⟩ = some (.string KA) ∧ W.cell? ⟨w.heap.size, 2, none⟩ = some (.string KB) ∧ W.cell? ⟨w.heap.size, 3, none⟩ = some (.slice G gl e)) (by kernel_rfl) ?_ (fun hHeld => ?_)
      · exact ⟨(HX3.out.ext (by repeat (first | exact Below.refl _ _ | apply ext_drew | apply ext_drewN | apply ext_alloc))).cell 0, (HX3.out.ext (by repeat (first | exact Below.refl _ _ | apply ext_drew | apply ext_drewN | apply ext_alloc))).cell 1, (HX3.out.ext (by repeat (first | exact Below.refl _ _ | apply ext_drew | apply ext_drewN | apply ext_alloc))).cell 2, (HX3.out.ext (by repeat (first | exact Below.refl _ _ | apply ext_drew | apply ext_drewN | apply ext_alloc))).cell 3⟩
      refine wpAnyH_take (i := 0) (v := ?_) (take_list rfl) (by kernel_rfl) (by kernel_rfl) (by kernel_rfl) (fun _ _ _ h => h) (Or.inl ⟨by rfl, ?_⟩) (by assumption) ?_
      rotate_left
      · intro w hSw
        try dsimp only at hSw
        first | (go_simp; done) | (go_simp; with_reducible rfl)
      try simp only [Act.put, List.setIfInBounds_toArray, List.set_cons_zero, List.set_cons_succ]
      refine wpAnyH_take (i := 1) (v := ?_) (take_list rfl) (by kernel_rfl) (by kernel_rfl) (by kernel_rfl) (fun _ _ _ h => h) (Or.inl ⟨by rfl, ?_⟩) (by assumption) ?_
      rotate_left
      · intro w hSw
        try dsimp only at hSw
        first | (go_simp; done) | (go_simp; with_reducible rfl)
      try simp only [Act.put, List.setIfInBounds_toArray, List.set_cons_zero, List.set_cons_succ]
      refine wpAnyH_take (i := 2) (v := ?_) (take_list rfl) (by kernel_rfl) (by kernel_rfl) (by kernel_rfl) (fun _ _ _ h => h) (Or.inl ⟨by rfl, ?_⟩) (by assumption) ?_
      rotate_left
      · intro w hSw
        try dsimp only at hSw
        first | (go_simp; done) | (go_simp; with_reducible rfl)
      try simp only [Act.put, List.setIfInBounds_toArray, List.set_cons_zero, List.set_cons_succ]
      refine wpAnyH_take (i := 3) (v := ?_) (take_list rfl) (by kernel_rfl) (by kernel_rfl) (by kernel_rfl) (fun _ _ _ h => h) (Or.inl ⟨by rfl, ?_⟩) (by assumption) ?_
      rotate_left
      · intro w hSw
        try dsimp only at hSw
        first | (go_simp; done) | (go_simp; with_reducible rfl)
      try simp only [Act.put, List.setIfInBounds_toArray, List.set_cons_zero, List.set_cons_succ]
      refine wpAnyH_take (i := 5) (v := ?_) (take_list rfl) (by kernel_rfl) (by kernel_rfl) (by kernel_rfl) (fun _ _ _ h => h) (Or.inl ⟨by rfl, ?_⟩) (by assumption) ?_
      rotate_left
      · intro w hSw
        try dsimp only at hSw
        first | (go_simp; done) | (go_simp; with_reducible rfl)
      try simp only [Act.put, List.setIfInBounds_toArray, List.set_cons_zero, List.set_cons_succ]
      refine wpAnyH_ready (rs := [4, 6]) (by kernel_rfl) (by simp) ?_
      refine AllReadyH.cons (take_list rfl) (fun K hK => ?_) ?_
      · skip
        have ql := (HB3.out.ext (by repeat (first | exact Below.refl _ _ | apply ext_drew | apply ext_drewN | apply ext_alloc) : Below w3.heap.size w3 (w3.drew))).cell 1
        simp only [List.getElem?_toArray, List.getElem?_cons_zero, List.getElem?_cons_succ] at ql
        go_simp
        clear ql
        refine hK.out _ _ ?_ (fun hHeld => ?_)
        · try dsimp only
          exact ⟨(HX3.out.ext (by repeat (first | exact Below.refl _ _ | apply ext_drew | apply ext_drewN | apply ext_alloc))).cell 0, (HX3.out.ext (by repeat (first | exact Below.refl _ _ | apply ext_drew | apply ext_drewN | apply ext_alloc))).cell 1, (HX3.out.ext (by repeat (first | exact Below.refl _ _ | apply ext_drew | apply ext_drewN | apply ext_alloc))).cell 2, (HX3.out.ext (by repeat (first | exact Below.refl _ _ | apply ext_drew | apply ext_drewN | apply ext_alloc))).cell 3⟩
        clear hK K
        refine wpAnyH_ready (rs := [6]) (by kernel_rfl) (by simp) ?_
        refine AllReadyH.cons (take_list rfl) (fun K hK => ?_) ?_
        · skip
          go_simp
          refine hK.out _ _ ?_ (fun hHeld => ?_)
          · try dsimp only
            exact ⟨(HX3.out.ext (by repeat (first | exact Below.refl _ _ | apply ext_drew | apply ext_drewN | apply ext_alloc))).cell 0, (HX3.out.ext (by repeat (first | exact Below.refl _ _ | apply ext_drew | apply ext_drewN | apply ext_alloc))).cell 1, (HX3.out.ext (by repeat (first | exact Below.refl _ _ | apply ext_drew | apply ext_drewN | apply ext_alloc))).cell 2, (HX3.out.ext (by repeat (first | exact Below.refl _ _ | apply ext_drew | apply ext_drewN | apply ext_alloc))).cell 3⟩
          clear hK K
          refine wpAnyH_ready (rs := [7]) (by kernel_rfl) (by simp) ?_
          refine AllReadyH.cons (take_list rfl) (fun K hK => ?_) ?_
          · skip
            refine step_appO _ rfl (.tmp 28) (.tmp 30) _ rfl 96 _ 4 64 Try.underlying65 info_leaf rfl R t.lv.length d ys rfl (HR3.out.ext (by repeat (first | exact Below.refl _ _ | apply ext_drew | apply ext_drewN | apply ext_alloc))) (some ⟨_, 0, none⟩) 1 1 [.int .i64 (x.count : Int), .string KA, .string KB, .slice G gl e] rfl rfl (by repeat (first | exact Rd.lit_at _ #[.int .i64 (x.count : Int), .string KA, .string KB, .slice G gl e] _ (by first | rfl | (simp [World.size_alloc]; done)) | apply Rd.drew | apply Rd.alloc)) (by intro u hu; simp at hu; rcases hu with rfl | rfl | rfl | rfl <;> rfl) (by intro h; cases h) hp1 hp2 ?_
            intro A5 c5 w5 hr5 ho5 hA5
            have hgR : ¬ inA R g := H.out.rows.ne_blk H.out.blk (by decide)
            have hB5 := (HB3.out.ext (by repeat (first | exact Below.refl _ _ | apply ext_drew | apply ext_drewN | apply ext_alloc))).only ho5 hgR
            have hXR : ¬ inA R w.heap.size := fun hk => by have := H.out.rows.lt hk; omega
            have HX5 := Lib.hid ((HX3.out.ext (by repeat (first | exact Below.refl _ _ | apply ext_drew | apply ext_drewN | apply ext_alloc))).only ho5 hXR)
            have q1 := hB5.cell 1
            have f1 := hB5.free 1
            simp only [List.getElem?_toArray, List.getElem?_cons_zero, List.getElem?_cons_succ] at q1
            have HX6 := Lib.hid (HX5.out.far (p := ⟨g, 1, none⟩) (by have := Hg0.out; show w.heap.size ≠ g; omega) (.slice A5 (t.lv.length + 1) c5))
            have hz6 : (w5.setCell ⟨g, 1, none⟩ (.slice A5 (t.lv.length + 1) c5)).heap.size = w5.heap.size := by simp [World.setCell]
            have hs5 := ho5.size
            have hs3 := HS3.out
            have hs2 := HS2.out
            have hbw : w3.heap.size ≤ w5.heap.size := by simp only [World.size_alloc, World.drew, World.drewN] at hs5; omega
            rw [← Hgl.out, ← HKA.out, ← HKB.out] at hr5
            have HT6 := Lib.hid (H.out.grown (T := fun k => grewS S w (w5.setCell ⟨g, 1, none⟩ (.slice A5 (t.lv.length + 1) c5)) k ∨ inA G k) Hok.out Hx.out Hap.out HO3.out HB3.out HM3.out (by repeat (first | exact Below.refl _ _ | apply ext_drew | apply ext_drewN | apply ext_alloc)) hr5 ho5 hA5 (fun k hk => .inl (.inl hk)) (fun k hk => .inr hk) (fun k h1 h2 => .inl (.inr ⟨by omega, by rw [hz6]; exact h2⟩)) (.inl (.inl hs2.2.1)) (fun k hk => by
              rcases hk with (hk | hk) | hk
              · have := H.out.lt k hk; omega
              · rw [hz6] at hk; exact hk.2
              · have := Hx.out.lt hk; omega))
            have HO6 : Hid (Only S w (w5.setCell ⟨g, 1, none⟩ (.slice A5 (t.lv.length + 1) c5))) := Lib.hid (((HO3.out.mono (fun k _ hk => by rcases hk with rfl | hk; exact H.out.sg; exact H.out.sM k hk)).trans ((Only.of_ext (S := S) (by repeat (first | exact Below.refl _ _ | apply ext_drew | apply ext_drewN | apply ext_alloc) : Below w3.heap.size w3 _)).trans ho5 (fun k _ hk => H.out.sR k hk)) (fun _ _ h => h)).setCell (.inl H.out.sg) _)
            clear hr5 ho5 hA5 hgR hB5 hXR hz6 hs5 hs3 hs2 hbw
            refine hK.out _ _ ?_ (fun hHeld => ?_)
            · try dsimp only
              exact ⟨(HX5.out.ext (by repeat (first | exact Below.refl _ _ | apply ext_drew | apply ext_drewN | apply ext_alloc))).cell 0, (HX5.out.ext (by repeat (first | exact Below.refl _ _ | apply ext_drew | apply ext_drewN | apply ext_alloc))).cell 1, (HX5.out.ext (by repeat (first | exact Below.refl _ _ | apply ext_drew | apply ext_drewN | apply ext_alloc))).cell 2, (HX5.out.ext (by repeat (first | exact Below.refl _ _ | apply ext_drew | apply ext_drewN | apply ext_alloc))).cell 3⟩
            clear hK K
            refine wpAnyH_take (i := 8) (v := ?_) (take_list rfl) (by kernel_rfl) (by kernel_rfl) (by kernel_rfl) (fun _ _ _ h => h) (Or.inl ⟨by rfl, ?_⟩) (by assumption) ?_
            rotate_left
            · intro w hSw
              try dsimp only at hSw
              first | (go_simp; done) | (go_simp; with_reducible rfl)
            try simp only [Act.put, List.setIfInBounds_toArray, List.set_cons_zero, List.set_cons_succ]
            refine wpAnyH_take (i := 9) (v := ?_) (take_list rfl) (by kernel_rfl) (by kernel_rfl) (by kernel_rfl) (fun _ _ _ h => h) (Or.inl ⟨by rfl, ?_⟩) (by assumption) ?_
            rotate_left
            · intro w hSw
              try dsimp only at hSw
              first | (go_simp; done) | (go_simp; with_reducible rfl)
            try simp only [Act.put, List.setIfInBounds_toArray, List.set_cons_zero, List.set_cons_succ]
            refine wpAnyH_ready (rs := [10]) (by kernel_rfl) (by simp) ?_
            refine AllReadyH.cons (take_list rfl) (fun K hK => ?_) ?_
            · skip
              go_simp
              refine hK.out _ _ ?_ (fun hHeld => ?_)
              · try dsimp only
                exact ⟨(HX6.out.ext (by repeat (first | exact Below.refl _ _ | apply ext_drew | apply ext_drewN | apply ext_alloc))).cell 0, (HX6.out.ext (by repeat (first | exact Below.refl _ _ | apply ext_drew | apply ext_drewN | apply ext_alloc))).cell 1, (HX6.out.ext (by repeat (first | exact Below.refl _ _ | apply ext_drew | apply ext_drewN | apply ext_alloc))).cell 2, (HX6.out.ext (by repeat (first | exact Below.refl _ _ | apply ext_drew | apply ext_drewN | apply ext_alloc))).cell 3⟩
              clear hK K
              refine wpAnyH_done (by kernel_rfl) ?_ _
              go_wp2
              go_end0
              exact ⟨rfl, ⟨_, _, _, _, HT6.out⟩, HO6.out⟩
            exact AllReadyH.nil
          exact AllReadyH.nil
        exact AllReadyH.nil
      refine AllReadyH.cons (take_list rfl) (fun K hK => ?_) ?_
      · skip
        go_simp
        refine hK.out _ _ ?_ (fun hHeld => ?_)
        · try dsimp only
          exact ⟨(HX3.out.ext (by repeat (first | exact Below.refl _ _ | apply ext_drew | apply ext_drewN | apply ext_alloc))).cell 0, (HX3.out.ext (by repeat (first | exact Below.refl _ _ | apply ext_drew | apply ext_drewN | apply ext_alloc))).cell 1, (HX3.out.ext (by repeat (first | exact Below.refl _ _ | apply ext_drew | apply ext_drewN | apply ext_alloc))).cell 2, (HX3.out.ext (by repeat (first | exact Below.refl _ _ | apply ext_drew | apply ext_drewN | apply ext_alloc))).cell 3⟩
        clear hK K
        refine wpAnyH_ready (rs := [4]) (by kernel_rfl) (by simp) ?_
        refine AllReadyH.cons (take_list rfl) (fun K hK => ?_) ?_
        · skip
          have ql := (HB3.out.ext (by repeat (first | exact Below.refl _ _ | apply ext_drew | apply ext_drewN | apply ext_alloc) : Below w3.heap.size w3 (w3.alloc (.cells #[.int .i64 (x.count : Int), .string KA, .string KB, .slice G gl e] 96)))).cell 1
          simp only [List.getElem?_toArray, List.getElem?_cons_zero, List.getElem?_cons_succ] at ql
          go_simp
          clear ql
          refine hK.out _ _ ?_ (fun hHeld => ?_)
          · try dsimp only
            exact ⟨(HX3.out.ext (by repeat (first | exact Below.refl _ _ | apply ext_drew | apply ext_drewN | apply ext_alloc))).cell 0, (HX3.out.ext (by repeat (first | exact Below.refl _ _ | apply ext_drew | apply ext_drewN | apply ext_alloc))).cell 1, (HX3.out.ext (by repeat (first | exact Below.refl _ _ | apply ext_drew | apply ext_drewN | apply ext_alloc))).cell 2, (HX3.out.ext (by repeat (first | exact Below.refl _ _ | apply ext_drew | apply ext_drewN | apply ext_alloc))).cell 3⟩
          clear hK K
          refine wpAnyH_ready (rs := [7]) (by kernel_rfl) (by simp) ?_
          refine AllReadyH.cons (take_list rfl) (fun K hK => ?_) ?_
          · skip
            refine step_appO _ rfl (.tmp 28) (.tmp 30) _ rfl 96 _ 4 64 Try.underlying65 info_leaf rfl R t.lv.length d ys rfl (HR3.out.ext (by repeat (first | exact Below.refl _ _ | apply ext_drew | apply ext_drewN | apply ext_alloc))) (some ⟨_, 0, none⟩) 1 1 [.int .i64 (x.count : Int), .string KA, .string KB, .slice G gl e] rfl rfl (by repeat (first | exact Rd.lit_at _ #[.int .i64 (x.count : Int), .string KA, .string KB, .slice G gl e] _ (by first | rfl | (simp [World.size_alloc]; done)) | apply Rd.drew | apply Rd.alloc)) (by intro u hu; simp at hu; rcases hu with rfl | rfl | rfl | rfl <;> rfl) (by intro h; cases h) hp1 hp2 ?_
            intro A5 c5 w5 hr5 ho5 hA5
            have hgR : ¬ inA R g := H.out.rows.ne_blk H.out.blk (by decide)
            have hB5 := (HB3.out.ext (by repeat (first | exact Below.refl _ _ | apply ext_drew | apply ext_drewN | apply ext_alloc))).only ho5 hgR
            have hXR : ¬ inA R w.heap.size := fun hk => by have := H.out.rows.lt hk; omega
            have HX5 := Lib.hid ((HX3.out.ext (by repeat (first | exact Below.refl _ _ | apply ext_drew | apply ext_drewN | apply ext_alloc))).only ho5 hXR)
            have q1 := hB5.cell 1
            have f1 := hB5.free 1
            simp only [List.getElem?_toArray, List.getElem?_cons_zero, List.getElem?_cons_succ] at q1
            have HX6 := Lib.hid (HX5.out.far (p := ⟨g, 1, none⟩) (by have := Hg0.out; show w.heap.size ≠ g; omega) (.slice A5 (t.lv.length + 1) c5))
            have hz6 : (w5.setCell ⟨g, 1, none⟩ (.slice A5 (t.lv.length + 1) c5)).heap.size = w5.heap.size := by simp [World.setCell]
            have hs5 := ho5.size
            have hs3 := HS3.out
            have hs2 := HS2.out
            have hbw : w3.heap.size ≤ w5.heap.size := by simp only [World.size_alloc, World.drew, World.drewN] at hs5; omega
            rw [← Hgl.out, ← HKA.out, ← HKB.out] at hr5
            have HT6 := Lib.hid (H.out.grown (T := fun k => grewS S w (w5.setCell ⟨g, 1, none⟩ (.slice A5 (t.lv.length + 1) c5)) k ∨ inA G k) Hok.out Hx.out Hap.out HO3.out HB3.out HM3.out (by repeat (first | exact Below.refl _ _ | apply ext_drew | apply ext_drewN | apply ext_alloc)) hr5 ho5 hA5 (fun k hk => .inl (.inl hk)) (fun k hk => .inr hk) (fun k h1 h2 => .inl (.inr ⟨by omega, by rw [hz6]; exact h2⟩)) (.inl (.inl hs2.2.1)) (fun k hk => by
              rcases hk with (hk | hk) | hk
              · have := H.out.lt k hk; omega
              · rw [hz6] at hk; exact hk.2
              · have := Hx.out.lt hk; omega))
            have HO6 : Hid (Only S w (w5.setCell ⟨g, 1, none⟩ (.slice A5 (t.lv.length + 1) c5))) := Lib.hid (((HO3.out.mono (fun k _ hk => by rcases hk with rfl | hk; exact H.out.sg; exact H.out.sM k hk)).trans ((Only.of_ext (S := S) (by repeat (first | exact Below.refl _ _ | apply ext_drew | apply ext_drewN | apply ext_alloc) : Below w3.heap.size w3 _)).trans ho5 (fun k _ hk => H.out.sR k hk)) (fun _ _ h => h)).setCell (.inl H.out.sg) _)
            clear hr5 ho5 hA5 hgR hB5 hXR hz6 hs5 hs3 hs2 hbw
            refine hK.out _ _ ?_ (fun hHeld => ?_)
            · try dsimp only
              exact ⟨(HX5.out.ext (by repeat (first | exact Below.refl _ _ | apply ext_drew | apply ext_drewN | apply ext_alloc))).cell 0, (HX5.out.ext (by repeat (first | exact Below.refl _ _ | apply ext_drew | apply ext_drewN | apply ext_alloc))).cell 1, (HX5.out.ext (by repeat (first | exact Below.refl _ _ | apply ext_drew | apply ext_drewN | apply ext_alloc))).cell 2, (HX5.out.ext (by repeat (first | exact Below.refl _ _ | apply ext_drew | apply ext_drewN | apply ext_alloc))).cell 3⟩
            clear hK K
            refine wpAnyH_take (i := 8) (v := ?_) (take_list rfl) (by kernel_rfl) (by kernel_rfl) (by kernel_rfl) (fun _ _ _ h => h) (Or.inl ⟨by rfl, ?_⟩) (by assumption) ?_
            rotate_left
            · intro w hSw
              try dsimp only at hSw
              first | (go_simp; done) | (go_simp; with_reducible rfl)
            try simp only [Act.put, List.setIfInBounds_toArray, List.set_cons_zero, List.set_cons_succ]
            refine wpAnyH_take (i := 9) (v := ?_) (take_list rfl) (by kernel_rfl) (by kernel_rfl) (by kernel_rfl) (fun _ _ _ h => h) (Or.inl ⟨by rfl, ?_⟩) (by assumption) ?_
            rotate_left
            · intro w hSw
              try dsimp only at hSw
              first | (go_simp; done) | (go_simp; with_reducible rfl)
            try simp only [Act.put, List.setIfInBounds_toArray, List.set_cons_zero, List.set_cons_succ]
            refine wpAnyH_ready (rs := [10]) (by kernel_rfl) (by simp) ?_
            refine AllReadyH.cons (take_list rfl) (fun K hK => ?_) ?_
            · skip
              go_simp
              refine hK.out _ _ ?_ (fun hHeld => ?_)
              · try dsimp only
                exact ⟨(HX6.out.ext (by repeat (first | exact Below.refl _ _ | apply ext_drew | apply ext_drewN | apply ext_alloc))).cell 0, (HX6.out.ext (by repeat (first | exact Below.refl _ _ | apply ext_drew | apply ext_drewN | apply ext_alloc))).cell 1, (HX6.out.ext (by repeat (first | exact Below.refl _ _ | apply ext_drew | apply ext_drewN | apply ext_alloc))).cell 2, (HX6.out.ext (by repeat (first | exact Below.refl _ _ | apply ext_drew | apply ext_drewN | apply ext_alloc))).cell 3⟩
              clear hK K
              refine wpAnyH_done (by kernel_rfl) ?_ _
              go_wp2
              go_end0
              exact ⟨rfl, ⟨_, _, _, _, HT6.out⟩, HO6.out⟩
            exact AllReadyH.nil
          exact AllReadyH.nil
        exact AllReadyH.nil
      exact AllReadyH.nil
    exact AllReadyH.nil
end
end Go.Proofs.Ytdghbdiapkelnaa
