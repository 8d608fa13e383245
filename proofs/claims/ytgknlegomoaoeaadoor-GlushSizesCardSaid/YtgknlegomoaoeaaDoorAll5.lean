/-
  Texts of this claim, joined (part 5): contracts and lemmas that the last text goes by. No statement of the seat is proved here.
-/
import Derived.Test.YtgknlegomoaoeaaDoorAll4
set_option linter.unusedVariables false
set_option linter.unusedSimpArgs false
/-
  Laying a row: words on worlds; the contracts of row and copies. No statement of the seat is proved here.
-/
namespace Go.Proofs.YtgknlegomoaoeaaDoor
open Go Go.RowKit
set_option maxRecDepth 100000

/-- 'S' and what was made from block 'b' on -/
def Gr2 (S : Nat → Prop) (b : Nat) (W : World) : Nat → Prop := fun k => S k ∨ (b ≤ k ∧ k < W.heap.size)
/-- since 'w' what is in 'S' has changed alone; what is laid lies there and from 'b' on -/
structure RowS (S : Nat → Prop) (w : World) (b : Nat) (W : World) (g : Nat) (M : GLy) : Prop where
  lay : LayS (Gr2 S b W) W g M
  only : Only S w W
  tab : TabB S w
  bd : ∀ k, S k → k < w.heap.size
  hb : w.heap.size ≤ b
section
variable {S T : Nat → Prop} {w W W' W5 w6 : World} {b g : Nat} {M M' : GLy}
theorem RowS.out (h : RowS S w b W g M) {k : Nat} (h1 : w.heap.size ≤ k) (h2 : k < b) : ¬ Gr2 S b W k := fun hk => by
  rcases hk with hk | hk
  · have := h.bd k hk; omega
  · omega
theorem RowS.table (h : RowS S w b W g M) : TabB (Gr2 S b W) W := h.tab.grow h.only fun k hk hg => by
  rcases hg with hg | hg
  · exact hg
  · have := h.hb; omega
theorem RowS.apart (h : RowS S w b W g M) (hT : ∀ k, T k → k < w.heap.size ∧ ¬ S k) : ∀ k, T k → k < W.heap.size ∧ ¬ Gr2 S b W k := fun k hk => by
  have h1 := hT k hk
  have h2 := h.only.size
  have h3 := h.hb
  refine ⟨by omega, fun hg => ?_⟩
  rcases hg with hg | hg
  · exact h1.2 hg
  · omega
theorem gr2_only (h : RowS S w b W g M) (ho : Only (Gr2 S b W) W W') : Only S w W' := h.only.trans ho fun k hk hg => by
  rcases hg with hg | hg
  · exact hg
  · have := h.hb; omega
theorem RowS.ext (h : RowS S w b W g M) (he : Below W.heap.size W W') : RowS S w b W' g M := by
  have h1 := he.size
  refine ⟨(h.lay.ext he).mono (fun k hk => hk.imp id fun h => ⟨h.1, by omega⟩) (fun k hk => ?_), h.only.trans (Only.of_ext (S := S) he) (fun _ _ h => h), h.tab, h.bd, h.hb⟩
  rcases hk with hk | hk
  · have := h.lay.bound k (.inl hk); omega
  · exact hk.2
theorem RowS.tail (h : RowS S w b W g M) (ho : Only T W W') (hT : ∀ k, T k → w.heap.size ≤ k ∧ k < b) : RowS S w b W' g M := by
  have h1 := ho.size
  refine ⟨(h.lay.tail ho fun k hk => h.out (hT k hk).1 (hT k hk).2).mono (fun k hk => hk.imp id fun h => ⟨h.1, by omega⟩) (fun k hk => ?_), h.only.trans ho (fun k hk ht => by have := hT k ht; omega), h.tab, h.bd, h.hb⟩
  rcases hk with hk | hk
  · have := h.lay.bound k (.inl hk); omega
  · exact hk.2
theorem RowS.same (h : RowS S w b W g M) (hl : LayS (Gr2 S b W) W' g M') (ho : Only (Gr2 S b W) W W') : RowS S w b W' g M' := by
  have h1 := ho.size
  refine ⟨hl.mono (fun k hk => hk.imp id fun h => ⟨h.1, by omega⟩) (fun k hk => ?_), gr2_only h ho, h.tab, h.bd, h.hb⟩
  rcases hk with hk | hk
  · have := h.lay.bound k (.inl hk); omega
  · exact hk.2
theorem RowS.call (h : RowS S w b W g M) {r : GPc × GLy} {e : Ending} (hp : GPost (Gr2 S b W) W g r e w6) (hb : b ≤ W.heap.size) : e = .returned (pieceV r.1) ∧ RowS S w b w6 g r.2 ∧ Only (Gr2 S b W) W w6 := by
  obtain ⟨h0, h1, h2⟩ := hp
  have h3 := h2.size
  refine ⟨h0, ⟨h1.mono (fun k hk => ?_) (fun k hk => ?_), gr2_only h h2, h.tab, h.bd, h.hb⟩, h2⟩
  · rcases hk with hk | hk
    · exact hk.imp id fun h => ⟨h.1, by omega⟩
    · exact .inr ⟨by omega, hk.2⟩
  · rcases hk with hk | hk
    · have := h.lay.bound k (.inl hk); omega
    · exact hk.2
theorem RowS.start (ht : TabB S w) (hS : LayS S w g M) (he : Below w.heap.size w W) (hb : b = W.heap.size) : RowS S w b W g M := by
  have h1 := he.size
  refine ⟨(hS.ext he).mono (fun k hk => .inl hk) (fun k hk => ?_), Only.of_ext he, ht, hS.bound, by omega⟩
  rcases hk with hk | hk
  · have := hS.bound k hk; omega
  · exact hk.2
theorem RowS.done (h : RowS S w b W g M) : LayS (Gr S w W) W g M := by
  have h1 := h.only.size
  refine h.lay.mono (fun k hk => hk.imp id fun h' => ⟨Nat.le_trans h.hb h'.1, h'.2⟩) (fun k hk => ?_)
  rcases hk with hk | hk
  · have := h.lay.bound k (.inl hk); omega
  · exact hk.2
end
/-- lay of 't', whatever was laid before -/
def LayK (t : Ex) : Prop := ∀ (T S : Nat → Prop) (g : Nat) (L : GLy) (cs : List Value) (w : World), ReR T w t cs → (∀ k, T k → k < w.heap.size ∧ ¬ S k) → TabB S w → LayS S w g L → GOk L → L.sets.length + cntE t ≤ 64 →
    Calls Tryd.prog 39 #[.pointer (some ⟨g, 0, none⟩), reV cs] w (GPost S w g (layG t L))
theorem step_store_piece {ops : Array Oper} {o : Oper} {a : Act} {w : World} {K : Act → World → Prop} {Q : Exit → Act → World → Prop} {E : Prop} (hgd : o.guard = none) (x y : Operand) (ho : o.op = .store 71 x y)
    (g : Nat) (hx : a.eval x = .pointer (some ⟨g, 0, none⟩)) {t : TypeId} {cs : Array Value} {u v z : Value} (hy : a.eval y = .agg #[u, v, z]) (h1 : #[u, v, z].all (·.oneCell') = true) (hB : Blk w g t cs) (hc : cs.size = 3)
    (h : ∀ w', Blk w' g t #[u, v, z] → Only (fun k => k = g) w w' → K (a.put o.dst undef) w') : if Region.wanted o (yielded ops a.tmps) = true then Oper.wp Tryd.prog o a w K Q else E := by
  have hw : Region.wanted o (yielded ops a.tmps) = true := by simp [Region.wanted, hgd]
  rw [if_pos hw]
  refine wp_store_mid 71 x y ho g 0 #[u, v, z] hx hy (hB.there 0 _ (by rw [hc]; show 0 + 3 ≤ 3; omega)) (size_piece rfl) h1 (h _ ?_ ?_)
  · have := hB.whole [u, v, z] (by simp [hc])
    simpa using this
  · exact (Only.refl (fun k => k = g) w).setCells (.inl rfl) [u, v, z] 0
theorem rowG_snoc (l : List Ex) (x : Ex) : ∀ (a : GPc) (L : GLy), rowG (l ++ [x]) a L = thenG (rowG l a L).1 (layG x (rowG l a L).2).1 (layG x (rowG l a L).2).2 := by
  induction l with
  | nil => intro a L; simp [rowG]
  | cons y r ih => intro a L; simp only [List.cons_append, rowG]; exact ih _ _
theorem gres_of {L M K : GLy} {c d : Nat} {a q : GPc} (h : GRes L c (a, M)) (hq : GRes M d (q, K)) (hl : L.sets.length + (c + d) ≤ 64) :
    a.last < 2 ^ K.sets.length ∧ q.first < 2 ^ K.sets.length ∧ a.first < 18446744073709551616 ∧ q.last < 18446744073709551616 ∧ K.sets.length ≤ 64 := by
  have h1 := h.len
  have h2 := hq.len
  dsimp only at h1 h2
  have h3 := h.first
  have h4 := h.last
  have h5 := hq.first
  have h6 := hq.last
  dsimp only at h3 h4 h5 h6
  rw [h1] at h5 h6
  have h7 : K.sets.length = L.sets.length + c + d := by omega
  have p1 := pow_le64 (n := L.sets.length + c) (by omega)
  have p2 := pow_le64 (n := L.sets.length + c + d) (by omega)
  refine ⟨?_, ?_, by omega, by omega, by omega⟩
  · rw [h7]; exact pow_mono h4 (by omega)
  · rw [h7]; exact h5
set_option maxHeartbeats 8000000 in
theorem grow_any (l : List Ex) (hK : ∀ x ∈ l, LayK x) (hF : ∀ x ∈ l, GFn (cntE x) (fun L => layG x L)) (T S : Nat → Prop) (g : Nat) (L : GLy) (A : Option Addr) (c : Nat) (w : World) (hA : l.length ≤ c ∧ c ≤ maxLen) (hks : Kids T w A l) (hT : ∀ k, T k → k < w.heap.size ∧ ¬ S k) (ht : TabB S w) (hS : LayS S w g L) (hL : GOk L) (hl : L.sets.length + cntL l ≤ 64) :
    Calls Tryd.prog 62 #[.pointer (some ⟨g, 0, none⟩), .slice A l.length c] w (GPost S w g (rowG l gE0 L)) := by
  unfold maxLen at hA
  have h0 := gfn_zero L hL
  have HK := Lib.hid hK
  have HF := Lib.hid hF
  have Hks := Lib.hid hks
  have HT := Lib.hid hT
  have Hl := Lib.hid hl
  have h00 : rowG (l.take 0) gE0 L = (gE0, L) := by simp [rowG]
  have Hend : Hid (rowG (l.take l.length) gE0 L = rowG l gE0 L) := Lib.hid (by rw [List.take_length])
  obtain ⟨R, hR⟩ : ∃ R, rowG l gE0 L = R := ⟨_, rfl⟩
  rw [hR] at Hend ⊢
  have H0 := Lib.hid h0
  have H00 := Lib.hid h00
  obtain ⟨W2, hW2⟩ : ∃ W2, W2 = (w.alloc (.cells #[.bool false, .int .u64 0, .int .u64 0] 71)).alloc (.cells #[.bool true, .int .u64 0, .int .u64 0] 71) := ⟨_, rfl⟩
  have e2 : Below w.heap.size w W2 := by rw [hW2]; exact ext2 w _ _
  have hb4 : Blk W2 w.heap.size 71 #[.bool false, .int .u64 0, .int .u64 0] := by rw [hW2]; exact (blk_at w _ _ rfl).alloc _
  have hb5 : Blk W2 (w.heap.size + 1) 71 (pcs gE0) := by rw [hW2]; exact blk_at _ _ _ (by simp)
  have hsz : W2.heap.size = w.heap.size + 2 := by rw [hW2]; simp
  have HS := Lib.hid (RowS.start (b := w.heap.size + 2) ht hS e2 hsz.symm)
  have B4 := Lib.hid hb4
  have B5 := Lib.hid hb5
  clear hK hF hks hT hl h0 h00 hR e2 hb4 hb5 ht hS hL hsz
  go_enter Tryd.func62, Tryd.ntmps62
  go_wp2_with fail
  rw [← hW2]
  clear hW2
  go_loopw [11] (fun i wr => ∃ (j : Nat) (a : GPc) (M : GLy), j ≤ l.length ∧ i = .int .i64 (j : Int) ∧ Hid (rowG (l.take j) gE0 L = (a, M)) ∧ Hid (GRes L (cntL (l.take j)) (a, M)) ∧ Hid (Blk wr w.heap.size 71 #[.bool false, .int .u64 0, .int .u64 0]) ∧ Hid (Blk wr (w.heap.size + 1) 71 (pcs a)) ∧ Hid (RowS S w (w.heap.size + 2) wr g M)) (fun i _ => l.length - (intOf i).toNat)
  case atStart => exact ⟨0, gE0, L, Nat.zero_le _, rfl, H00, Lib.hid (by simpa [cntL] using H0.out), B4, B5, HS⟩
  case round =>
    obtain ⟨j, a, M, hj, rfl, HR, HG, B4, B5, HS⟩ := hrel
    obtain ⟨an, af, al⟩ := a
    by_cases hlt2 : j < l.length
    · have hji : (j : Int) < (l.length : Int) := by omega
      obtain ⟨g', o, k', q0, q1, q2, q3, ks', A', c', lo', hi', rfl, hx, hr, x0, x1, x2, x3, x4, x5, x6, x7, hsg⟩ := (Hks.out.only HS.out.only fun k hk => (HT.out k hk).2).kidX hlt2
      have hlc := cnt_kid (m := 64 - L.sets.length) (ks := l) (by have := Hl.out; omega) hlt2
      have hlt5 := B5.out.lt
      have hfl : GRes M (cntE l[j]) (layG l[j] M) := HF.out _ (List.getElem_mem hlt2) M HG.out.ok (by have := HG.out.len; dsimp only at this; have h9 := Hl.out; omega)
      obtain ⟨q, N, hqK⟩ : ∃ q N, layG l[j] M = (q, N) := ⟨_, _, rfl⟩
      rw [hqK] at hfl
      have hcall : ∀ W, Below wr.heap.size wr W → Calls Tryd.prog 39 #[.pointer (some ⟨g, 0, none⟩), .agg #[.int .i64 k', .int .u64 (q0 : Int), .int .u64 (q1 : Int), .int .u64 (q2 : Int), .int .u64 (q3 : Int), .slice A' ks'.length c', .int .i64 lo', .int .i64 hi']] W (GPost (Gr2 S (w.heap.size + 2) W) W g (q, N)) := fun W hW => by
        have hW' := HS.out.ext hW
        have := HK.out _ (List.getElem_mem hlt2) T _ g M _ W (hr.ext hW) (hW'.apart HT.out) hW'.table hW'.lay HG.out.ok (by have := HG.out.len; dsimp only at this; have h9 := Hl.out; omega)
        rw [hqK] at this
        simpa [reV] using this
      have hstep : rowG (l.take (j + 1)) gE0 L = thenG ⟨an, af, al⟩ q N := by rw [List.take_succ_eq_append_getElem hlt2, rowG_snoc, HR.out]; dsimp only; rw [hqK]
      have hgn : GRes L (cntL (l.take (j + 1))) (thenG ⟨an, af, al⟩ q N) := by rw [cntL_take l j hlt2]; exact HG.out.thn hfl (by have h9 := Hl.out; omega)
      have hsm := gres_of HG.out hfl (by have h9 := Hl.out; omega)
      have Hcall := Lib.hid hcall
      have Hstep := Lib.hid hstep
      have Hgn := Lib.hid hgn
      have Hsm := Lib.hid hsm
      have HKok := Lib.hid hfl.ok
      clear hcall hstep hgn hsm hr hx hqK hfl hlc
      go_wp2_with fail
      have Hb5 : Hid (Below wr.heap.size wr (wr.alloc (.cells #[.int .i64 k', .int .u64 (q0 : Int), .int .u64 (q1 : Int), .int .u64 (q2 : Int), .int .u64 (q3 : Int), .slice A' ks'.length c', .int .i64 lo', .int .i64 hi'] 27))) := Lib.hid (ext_alloc (Below.refl _ _) _)
      have HS5 : Hid (RowS S w (w.heap.size + 2) (wr.alloc (.cells #[.int .i64 k', .int .u64 (q0 : Int), .int .u64 (q1 : Int), .int .u64 (q2 : Int), .int .u64 (q3 : Int), .slice A' ks'.length c', .int .i64 lo', .int .i64 hi'] 27)).drew g M) := Lib.hid (HS.out.ext (ext_drew Hb5.out))
      have B45 : Hid (Blk (wr.alloc (.cells #[.int .i64 k', .int .u64 (q0 : Int), .int .u64 (q1 : Int), .int .u64 (q2 : Int), .int .u64 (q3 : Int), .slice A' ks'.length c', .int .i64 lo', .int .i64 hi'] 27)).drew w.heap.size 71 #[.bool false, .int .u64 0, .int .u64 0]) := Lib.hid (B4.out.ext (ext_drew Hb5.out))
      have b55 : Blk (wr.alloc (.cells #[.int .i64 k', .int .u64 (q0 : Int), .int .u64 (q1 : Int), .int .u64 (q2 : Int), .int .u64 (q3 : Int), .slice A' ks'.length c', .int .i64 lo', .int .i64 hi'] 27)).drew (w.heap.size + 1) 71 #[.bool an, .int .u64 (af : Int), .int .u64 (al : Int)] := B5.out.ext (ext_drew Hb5.out)
      have hb5 : w.heap.size + 2 ≤ (wr.alloc (.cells #[.int .i64 k', .int .u64 (q0 : Int), .int .u64 (q1 : Int), .int .u64 (q2 : Int), .int .u64 (q3 : Int), .slice A' ks'.length c', .int .i64 lo', .int .i64 hi'] 27)).drew.heap.size := by
        show _ ≤ (wr.alloc (.cells #[.int .i64 k', .int .u64 (q0 : Int), .int .u64 (q1 : Int), .int .u64 (q2 : Int), .int .u64 (q3 : Int), .slice A' ks'.length c', .int .i64 lo', .int .i64 hi'] 27)).heap.size
        simp
        omega
      have c0 := b55.cell 0
      have c1 := b55.cell 1
      have c2 := b55.cell 2
      have B55 := Lib.hid b55
      clear b55
      refine wp_region_held_drew (S := fun _ => True) (by kernel_rfl) ?_ (fun hHeld => ?_)
      · all_goals exact True.intro
      refine wpAnyH_take (i := 0) (v := ?_) (take_list rfl) (by kernel_rfl) (by kernel_rfl) (by kernel_rfl) (fun _ _ _ h => h) (Or.inl ⟨by rfl, ?_⟩) (by assumption) ?_
      rotate_left
      · intro w hSw
        try dsimp only at hSw
        first | (go_simp; done) | (go_simp; with_reducible rfl)
      try simp only [Act.put, List.setIfInBounds_toArray, List.set_cons_zero, List.set_cons_succ]
      refine wpAnyH_take (i := 2) (v := ?_) (take_list rfl) (by kernel_rfl) (by kernel_rfl) (by kernel_rfl) (fun _ _ _ h => h) (Or.inl ⟨by rfl, ?_⟩) (by assumption) ?_
      rotate_left
      · intro w hSw
        try dsimp only at hSw
        first | (go_simp; done) | (go_simp; with_reducible rfl)
      try simp only [Act.put, List.setIfInBounds_toArray, List.set_cons_zero, List.set_cons_succ]
      refine wpAnyH_ready (rs := [1, 3]) (by kernel_rfl) (by simp) ?_
      refine AllReadyH.cons (take_list rfl) (fun K hK => ?_) ?_
      · skip
        go_simp
        refine hK.out _ _ ?_ (fun hHeld => ?_)
        · try dsimp only
          all_goals exact True.intro
        clear hK K
        refine wpAnyH_ready (rs := [3]) (by kernel_rfl) (by simp) ?_
        refine AllReadyH.cons (take_list rfl) (fun K hK => ?_) ?_
        · skip
          go_simp
          refine hK.out _ _ ?_ (fun hHeld => ?_)
          · try dsimp only
            all_goals exact True.intro
          clear hK K
          refine wpAnyH_ready (rs := [4]) (by kernel_rfl) (by simp) ?_
          refine AllReadyH.cons (take_list rfl) (fun K hK => ?_) ?_
          · skip
            go_simp
            refine (Hcall.out _ (ext_drew Hb5.out)).mono ?_
            rintro e w6 hp6
            obtain ⟨rfl, hS6, ho6⟩ := HS5.out.call hp6 hb5
            have HS6 := Lib.hid hS6
            have B46 := Lib.hid (B45.out.only ho6 (HS5.out.out (Nat.le_refl _) (by omega)))
            have b56 : Blk w6 (w.heap.size + 1) 71 #[.bool an, .int .u64 (af : Int), .int .u64 (al : Int)] := B55.out.only ho6 (HS5.out.out (by omega) (by omega))
            have B56 := Lib.hid b56
            have d0 := b56.cell 0
            have d1 := b56.cell 1
            have d2 := b56.cell 2
            clear hp6 hS6 ho6 b56
            dsimp only
            refine hK.out _ _ ?_ (fun hHeld => ?_)
            · try dsimp only
              all_goals exact True.intro
            clear hK K
            refine wpAnyH_ready (rs := [5]) (by kernel_rfl) (by simp) ?_
            refine AllReadyH.cons (take_list rfl) (fun K hK => ?_) ?_
            · skip
              go_simp
              refine (gjoin_any (Gr2 S (w.heap.size + 2) w6) g N ⟨an, af, al⟩ q w6 HS6.out.table HS6.out.lay HKok.out Hsm.out.2.2.2.2 Hsm.out.1 Hsm.out.2.1 Hsm.out.2.2.1 Hsm.out.2.2.2.1).mono ?_
              rintro e w7 ⟨rfl, hl7, ho7⟩
              have HS7 := Lib.hid (HS6.out.same hl7 ho7)
              have B47 := Lib.hid (B46.out.only ho7 (HS6.out.out (Nat.le_refl _) (by omega)))
              have b57 := B56.out.only ho7 (HS6.out.out (by omega) (by omega))
              clear hl7 ho7
              dsimp only
              refine hK.out _ _ ?_ (fun hHeld => ?_)
              · try dsimp only
                all_goals exact True.intro
              clear hK K
              refine wpAnyH_ready (rs := [6]) (by kernel_rfl) (by simp) ?_
              refine AllReadyH.cons (take_list rfl) (fun K hK => ?_) ?_
              · skip
                refine step_store_piece rfl (.tmp 5) (.tmp 20) rfl (w.heap.size + 1) rfl rfl (by simp [Value.oneCell']) b57 rfl ?_
                intro w8 hB8 ho8
                refine hK.out _ _ ?_ (fun hHeld => ?_)
                · try dsimp only
                  all_goals exact True.intro
                clear hK K
                refine wpAnyH_done (by kernel_rfl) ?_ _
                have HS8 := Lib.hid (HS7.out.tail ho8 fun k hk => by omega)
                have B48 := Lib.hid (B47.out.only ho8 (by omega))
                have B58 := Lib.hid hB8
                clear hB8 ho8 b57
                go_wp2
                go_roundw
                case rel => exact ⟨j + 1, joinG ⟨an, af, al⟩ q, _, by omega, by go_num, Hstep, Hgn, B48, B58, HS8⟩
                case measure => simp [intOf]; omega
              exact AllReadyH.nil
            exact AllReadyH.nil
          exact AllReadyH.nil
        exact AllReadyH.nil
      refine AllReadyH.cons (take_list rfl) (fun K hK => ?_) ?_
      · skip
        go_simp
        refine hK.out _ _ ?_ (fun hHeld => ?_)
        · try dsimp only
          all_goals exact True.intro
        clear hK K
        refine wpAnyH_ready (rs := [1, 4]) (by kernel_rfl) (by simp) ?_
        refine AllReadyH.cons (take_list rfl) (fun K hK => ?_) ?_
        · skip
          go_simp
          refine hK.out _ _ ?_ (fun hHeld => ?_)
          · try dsimp only
            all_goals exact True.intro
          clear hK K
          refine wpAnyH_ready (rs := [4]) (by kernel_rfl) (by simp) ?_
          refine AllReadyH.cons (take_list rfl) (fun K hK => ?_) ?_
          · skip
            go_simp
            refine (Hcall.out _ (ext_drew Hb5.out)).mono ?_
            rintro e w6 hp6
            obtain ⟨rfl, hS6, ho6⟩ := HS5.out.call hp6 hb5
            have HS6 := Lib.hid hS6
            have B46 := Lib.hid (B45.out.only ho6 (HS5.out.out (Nat.le_refl _) (by omega)))
            have b56 : Blk w6 (w.heap.size + 1) 71 #[.bool an, .int .u64 (af : Int), .int .u64 (al : Int)] := B55.out.only ho6 (HS5.out.out (by omega) (by omega))
            have B56 := Lib.hid b56
            have d0 := b56.cell 0
            have d1 := b56.cell 1
            have d2 := b56.cell 2
            clear hp6 hS6 ho6 b56
            dsimp only
            refine hK.out _ _ ?_ (fun hHeld => ?_)
            · try dsimp only
              all_goals exact True.intro
            clear hK K
            refine wpAnyH_ready (rs := [5]) (by kernel_rfl) (by simp) ?_
            refine AllReadyH.cons (take_list rfl) (fun K hK => ?_) ?_
            · skip
              go_simp
              refine (gjoin_any (Gr2 S (w.heap.size + 2) w6) g N ⟨an, af, al⟩ q w6 HS6.out.table HS6.out.lay HKok.out Hsm.out.2.2.2.2 Hsm.out.1 Hsm.out.2.1 Hsm.out.2.2.1 Hsm.out.2.2.2.1).mono ?_
              rintro e w7 ⟨rfl, hl7, ho7⟩
              have HS7 := Lib.hid (HS6.out.same hl7 ho7)
              have B47 := Lib.hid (B46.out.only ho7 (HS6.out.out (Nat.le_refl _) (by omega)))
              have b57 := B56.out.only ho7 (HS6.out.out (by omega) (by omega))
              clear hl7 ho7
              dsimp only
              refine hK.out _ _ ?_ (fun hHeld => ?_)
              · try dsimp only
                all_goals exact True.intro
              clear hK K
              refine wpAnyH_ready (rs := [6]) (by kernel_rfl) (by simp) ?_
              refine AllReadyH.cons (take_list rfl) (fun K hK => ?_) ?_
              · skip
                refine step_store_piece rfl (.tmp 5) (.tmp 20) rfl (w.heap.size + 1) rfl rfl (by simp [Value.oneCell']) b57 rfl ?_
                intro w8 hB8 ho8
                refine hK.out _ _ ?_ (fun hHeld => ?_)
                · try dsimp only
                  all_goals exact True.intro
                clear hK K
                refine wpAnyH_done (by kernel_rfl) ?_ _
                have HS8 := Lib.hid (HS7.out.tail ho8 fun k hk => by omega)
                have B48 := Lib.hid (B47.out.only ho8 (by omega))
                have B58 := Lib.hid hB8
                clear hB8 ho8 b57
                go_wp2
                go_roundw
                case rel => exact ⟨j + 1, joinG ⟨an, af, al⟩ q, _, by omega, by go_num, Hstep, Hgn, B48, B58, HS8⟩
                case measure => simp [intOf]; omega
              exact AllReadyH.nil
            exact AllReadyH.nil
          exact AllReadyH.nil
        refine AllReadyH.cons (take_list rfl) (fun K hK => ?_) ?_
        · skip
          go_simp
          refine (Hcall.out _ (ext_drew Hb5.out)).mono ?_
          rintro e w6 hp6
          obtain ⟨rfl, hS6, ho6⟩ := HS5.out.call hp6 hb5
          have HS6 := Lib.hid hS6
          have B46 := Lib.hid (B45.out.only ho6 (HS5.out.out (Nat.le_refl _) (by omega)))
          have b56 : Blk w6 (w.heap.size + 1) 71 #[.bool an, .int .u64 (af : Int), .int .u64 (al : Int)] := B55.out.only ho6 (HS5.out.out (by omega) (by omega))
          have B56 := Lib.hid b56
          have d0 := b56.cell 0
          have d1 := b56.cell 1
          have d2 := b56.cell 2
          clear hp6 hS6 ho6 b56
          dsimp only
          refine hK.out _ _ ?_ (fun hHeld => ?_)
          · try dsimp only
            all_goals exact True.intro
          clear hK K
          refine wpAnyH_ready (rs := [1]) (by kernel_rfl) (by simp) ?_
          refine AllReadyH.cons (take_list rfl) (fun K hK => ?_) ?_
          · skip
            go_simp
            refine hK.out _ _ ?_ (fun hHeld => ?_)
            · try dsimp only
              all_goals exact True.intro
            clear hK K
            refine wpAnyH_ready (rs := [5]) (by kernel_rfl) (by simp) ?_
            refine AllReadyH.cons (take_list rfl) (fun K hK => ?_) ?_
            · skip
              go_simp
              refine (gjoin_any (Gr2 S (w.heap.size + 2) w6) g N ⟨an, af, al⟩ q w6 HS6.out.table HS6.out.lay HKok.out Hsm.out.2.2.2.2 Hsm.out.1 Hsm.out.2.1 Hsm.out.2.2.1 Hsm.out.2.2.2.1).mono ?_
              rintro e w7 ⟨rfl, hl7, ho7⟩
              have HS7 := Lib.hid (HS6.out.same hl7 ho7)
              have B47 := Lib.hid (B46.out.only ho7 (HS6.out.out (Nat.le_refl _) (by omega)))
              have b57 := B56.out.only ho7 (HS6.out.out (by omega) (by omega))
              clear hl7 ho7
              dsimp only
              refine hK.out _ _ ?_ (fun hHeld => ?_)
              · try dsimp only
                all_goals exact True.intro
              clear hK K
              refine wpAnyH_ready (rs := [6]) (by kernel_rfl) (by simp) ?_
              refine AllReadyH.cons (take_list rfl) (fun K hK => ?_) ?_
              · skip
                refine step_store_piece rfl (.tmp 5) (.tmp 20) rfl (w.heap.size + 1) rfl rfl (by simp [Value.oneCell']) b57 rfl ?_
                intro w8 hB8 ho8
                refine hK.out _ _ ?_ (fun hHeld => ?_)
                · try dsimp only
                  all_goals exact True.intro
                clear hK K
                refine wpAnyH_done (by kernel_rfl) ?_ _
                have HS8 := Lib.hid (HS7.out.tail ho8 fun k hk => by omega)
                have B48 := Lib.hid (B47.out.only ho8 (by omega))
                have B58 := Lib.hid hB8
                clear hB8 ho8 b57
                go_wp2
                go_roundw
                case rel => exact ⟨j + 1, joinG ⟨an, af, al⟩ q, _, by omega, by go_num, Hstep, Hgn, B48, B58, HS8⟩
                case measure => simp [intOf]; omega
              exact AllReadyH.nil
            exact AllReadyH.nil
          exact AllReadyH.nil
        exact AllReadyH.nil
      exact AllReadyH.nil
    · obtain rfl : j = l.length := by omega
      have hRR : (⟨⟨an, af, al⟩, M⟩ : GPc × GLy) = R := HR.out.symm.trans Hend.out
      subst hRR
      have b5 : Blk wr (w.heap.size + 1) 71 #[.bool an, .int .u64 (af : Int), .int .u64 (al : Int)] := B5.out
      have c0 := b5.cell 0
      have c1 := b5.cell 1
      have c2 := b5.cell 2
      have hfz := B4.out.free
      go_wp2_with (refine wpList_store_piece rfl (.tmp 4) (.tmp 22) rfl w.heap.size rfl rfl (by simp [Value.oneCell']) B4.out rfl ?_; intro w8 h8 o8)
      have hS8 := HS.out.tail o8 fun k hk => by omega
      exact bodyPost_ret (v := pieceV ⟨an, af, al⟩) (results_piece rfl _ _ w.heap.size _ (pcs ⟨an, af, al⟩) rfl rfl h8) rfl ⟨rfl, hS8.done, hS8.only⟩
end Go.Proofs.YtgknlegomoaoeaaDoor

/-
  The contract of copies. No statement of the seat is proved here.
-/
namespace Go.Proofs.YtgknlegomoaoeaaDoor
open Go Go.RowKit
set_option maxRecDepth 100000

set_option maxHeartbeats 8000000 in
theorem gcopies_any (x : Ex) (hK : LayK x) (hF : GFn (cntE x) (fun L => layG x L)) (T S : Nat → Prop) (g : Nat) (L : GLy) (cs : List Value) (w : World) (m : Int) (hm : m ≤ 64) (hm0 : -1 ≤ m) (hr : ReR T w x cs) (hT : ∀ k, T k → k < w.heap.size ∧ ¬ S k) (ht : TabB S w) (hS : LayS S w g L) (hL : GOk L) (hl : L.sets.length + m.toNat * cntE x ≤ 64) :
    Calls Tryd.prog 80 #[.pointer (some ⟨g, 0, none⟩), reV cs, .int .i64 m] w (GPost S w g (copiesG (fun L => layG x L) m.toNat L)) := by
  have h0 := gfn_zero L hL
  have h00 : copiesG (fun L => layG x L) 0 L = (gE0, L) := rfl
  obtain ⟨k', q0, q1, q2, q3, A', kl, c', lo', hi', hcs⟩ : ∃ k' q0 q1 q2 q3 A' kl c' lo' hi', cs = [.int .i64 k', .int .u64 ((q0 : Nat) : Int), .int .u64 ((q1 : Nat) : Int), .int .u64 ((q2 : Nat) : Int), .int .u64 ((q3 : Nat) : Int), .slice A' kl c', .int .i64 lo', .int .i64 hi'] := by
    cases x with
    | mk k s ks lo hi =>
      rw [reR_iff] at hr
      obtain ⟨⟨hk, hs, hlo, hhi⟩, A, c, rfl, h1, h2, h3⟩ := hr
      obtain ⟨p0, p1, p2, p3, rfl⟩ := four_words hs
      exact ⟨k, p0, p1, p2, p3, A, _, c, lo, hi, rfl⟩
  subst hcs
  have H0 := Lib.hid h0
  have H00 := Lib.hid h00
  have HK := Lib.hid hK
  have HF := Lib.hid hF
  have Hr := Lib.hid hr
  have HT := Lib.hid hT
  have Hl := Lib.hid hl
  obtain ⟨n, hn⟩ : ∃ n, m.toNat = n := ⟨_, rfl⟩
  have Hn := Lib.hid hn
  obtain ⟨R, hR⟩ : ∃ R, copiesG (fun L => layG x L) m.toNat L = R := ⟨_, rfl⟩
  have HR0 := Lib.hid hR
  rw [hR]
  unfold reV
  show Calls Tryd.prog 80 #[.pointer (some ⟨g, 0, none⟩), .agg #[.int .i64 k', .int .u64 (q0 : Int), .int .u64 (q1 : Int), .int .u64 (q2 : Int), .int .u64 (q3 : Int), .slice A' kl c', .int .i64 lo', .int .i64 hi'], .int .i64 m] w _
  obtain ⟨W2, hW2⟩ : ∃ W2, W2 = ((w.alloc (.cells #[.int .i64 k', .int .u64 (q0 : Int), .int .u64 (q1 : Int), .int .u64 (q2 : Int), .int .u64 (q3 : Int), .slice A' kl c', .int .i64 lo', .int .i64 hi'] 27)).alloc (.cells #[.bool false, .int .u64 0, .int .u64 0] 71)).alloc (.cells #[.bool true, .int .u64 0, .int .u64 0] 71) := ⟨_, rfl⟩
  have e2 : Below w.heap.size w W2 := by rw [hW2]; exact ext_alloc (ext2 w _ _) _
  have hb3 : Blk W2 w.heap.size 27 #[.int .i64 k', .int .u64 (q0 : Int), .int .u64 (q1 : Int), .int .u64 (q2 : Int), .int .u64 (q3 : Int), .slice A' kl c', .int .i64 lo', .int .i64 hi'] := by rw [hW2]; exact ((blk_at w _ _ rfl).alloc _).alloc _
  have hb4 : Blk W2 (w.heap.size + 1) 71 #[.bool false, .int .u64 0, .int .u64 0] := by rw [hW2]; exact (blk_at _ _ _ (by simp)).alloc _
  have hb5 : Blk W2 (w.heap.size + 1 + 1) 71 (pcs gE0) := by rw [hW2]; exact blk_at _ _ _ (by simp)
  have hsz : W2.heap.size = w.heap.size + 3 := by rw [hW2]; simp
  have HS := Lib.hid (RowS.start (b := w.heap.size + 3) ht hS e2 hsz.symm)
  have B3 := Lib.hid hb3
  have B4 := Lib.hid hb4
  have B5 := Lib.hid hb5
  clear hK hF hr hT hl h0 h00 hR e2 hb3 hb4 hb5 ht hS hL hsz hn
  go_enter Tryd.func80, Tryd.ntmps80
  go_wp2_with fail
  rw [← hW2]
  clear hW2
  go_loopw [10] (fun i wr => ∃ (j : Nat) (a : GPc) (M : GLy), j ≤ n ∧ i = .int .i64 (j : Int) ∧ Hid (copiesG (fun L => layG x L) j L = (a, M)) ∧ Hid (GRes L (j * cntE x) (a, M)) ∧ Hid (Blk wr w.heap.size 27 #[.int .i64 k', .int .u64 (q0 : Int), .int .u64 (q1 : Int), .int .u64 (q2 : Int), .int .u64 (q3 : Int), .slice A' kl c', .int .i64 lo', .int .i64 hi']) ∧ Hid (Blk wr (w.heap.size + 1) 71 #[.bool false, .int .u64 0, .int .u64 0]) ∧ Hid (Blk wr (w.heap.size + 1 + 1) 71 (pcs a)) ∧ Hid (RowS S w (w.heap.size + 3) wr g M)) (fun i _ => n - (intOf i).toNat)
  case atStart => exact ⟨0, gE0, L, Nat.zero_le _, rfl, H00, Lib.hid (by simpa using H0.out), B3, B4, B5, HS⟩
  case round =>
    obtain ⟨j, a, M, hj, rfl, HR, HG, B3, B4, B5, HS⟩ := hrel
    obtain ⟨an, af, al⟩ := a
    by_cases hlt2 : j < n
    · have hji : (j : Int) < m := by have := Hn.out; omega
      have hj64 : (j : Int) ≤ 64 := by omega
      have hlc : (j + 1) * cntE x ≤ n * cntE x := Nat.mul_le_mul_right _ (by omega)
      rw [Nat.add_mul, Nat.one_mul] at hlc
      have hl9 := Hl.out
      rw [Hn.out] at hl9
      have hlt5 := B5.out.lt
      have hml : M.sets.length = L.sets.length + j * cntE x := HG.out.len
      have hfl : GRes M (cntE x) (layG x M) := HF.out M HG.out.ok (by omega)
      obtain ⟨q, N, hqK⟩ : ∃ q N, layG x M = (q, N) := ⟨_, _, rfl⟩
      rw [hqK] at hfl
      have hcall : ∀ W, Below wr.heap.size wr W → Calls Tryd.prog 39 #[.pointer (some ⟨g, 0, none⟩), .agg #[.int .i64 k', .int .u64 (q0 : Int), .int .u64 (q1 : Int), .int .u64 (q2 : Int), .int .u64 (q3 : Int), .slice A' kl c', .int .i64 lo', .int .i64 hi']] W (GPost (Gr2 S (w.heap.size + 3) W) W g (q, N)) := fun W hW => by
        have hW' := HS.out.ext hW
        have := HK.out T _ g M _ W ((Hr.out.only HS.out.only fun k hk => (HT.out k hk).2).ext hW) (hW'.apart HT.out) hW'.table hW'.lay HG.out.ok (by omega)
        rw [hqK] at this
        simpa [reV] using this
      have hstep : copiesG (fun L => layG x L) (j + 1) L = thenG ⟨an, af, al⟩ q N := by simp only [copiesG]; rw [HR.out]; dsimp only; rw [hqK]
      have hgn : GRes L ((j + 1) * cntE x) (thenG ⟨an, af, al⟩ q N) := by rw [Nat.add_mul, Nat.one_mul]; exact HG.out.thn hfl (by omega)
      have hsm := gres_of HG.out hfl (by omega)
      have Hcall := Lib.hid hcall
      have Hstep := Lib.hid hstep
      have Hgn := Lib.hid hgn
      have Hsm := Lib.hid hsm
      have HKok := Lib.hid hfl.ok
      clear hcall hstep hgn hsm hqK hfl hlc hml hl9
      go_wp2_with fail
      have HS5 : Hid (RowS S w (w.heap.size + 3) wr.drew g M) := Lib.hid (HS.out.ext (ext_drew (Below.refl _ _)))
      have b3 : Blk wr.drew w.heap.size 27 #[.int .i64 k', .int .u64 (q0 : Int), .int .u64 (q1 : Int), .int .u64 (q2 : Int), .int .u64 (q3 : Int), .slice A' kl c', .int .i64 lo', .int .i64 hi'] := B3.out
      have b55 : Blk wr.drew (w.heap.size + 1 + 1) 71 #[.bool an, .int .u64 (af : Int), .int .u64 (al : Int)] := B5.out
      have hb5 : w.heap.size + 3 ≤ wr.drew.heap.size := by
        show _ ≤ wr.heap.size
        omega
      have B45 : Hid (Blk wr.drew (w.heap.size + 1) 71 #[.bool false, .int .u64 0, .int .u64 0]) := B4
      have c0 := b55.cell 0
      have c1 := b55.cell 1
      have c2 := b55.cell 2
      have x0 := b3.cell 0
      have x1 := b3.cell 1
      have x2 := b3.cell 2
      have x3 := b3.cell 3
      have x4 := b3.cell 4
      have x5 := b3.cell 5
      have x6 := b3.cell 6
      have x7 := b3.cell 7
      have B55 := Lib.hid b55
      have B35 := Lib.hid b3
      clear b55 b3
      refine wp_region_held_drew (S := fun _ => True) (by kernel_rfl) ?_ (fun hHeld => ?_)
      · all_goals exact True.intro
      refine wpAnyH_take (i := 0) (v := ?_) (take_list rfl) (by kernel_rfl) (by kernel_rfl) (by kernel_rfl) (fun _ _ _ h => h) (Or.inl ⟨by rfl, ?_⟩) (by assumption) ?_
      rotate_left
      · intro w hSw
        try dsimp only at hSw
        first | (go_simp; done) | (go_simp; with_reducible rfl)
      try simp only [Act.put, List.setIfInBounds_toArray, List.set_cons_zero, List.set_cons_succ]
      refine wpAnyH_take (i := 2) (v := ?_) (take_list rfl) (by kernel_rfl) (by kernel_rfl) (by kernel_rfl) (fun _ _ _ h => h) (Or.inl ⟨by rfl, ?_⟩) (by assumption) ?_
      rotate_left
      · intro w hSw
        try dsimp only at hSw
        first | (go_simp; done) | (go_simp; with_reducible rfl)
      try simp only [Act.put, List.setIfInBounds_toArray, List.set_cons_zero, List.set_cons_succ]
      refine wpAnyH_ready (rs := [1, 3]) (by kernel_rfl) (by simp) ?_
      refine AllReadyH.cons (take_list rfl) (fun K hK => ?_) ?_
      · skip
        go_simp
        refine hK.out _ _ ?_ (fun hHeld => ?_)
        · try dsimp only
          all_goals exact True.intro
        clear hK K
        refine wpAnyH_ready (rs := [3]) (by kernel_rfl) (by simp) ?_
        refine AllReadyH.cons (take_list rfl) (fun K hK => ?_) ?_
        · skip
          go_simp
          refine hK.out _ _ ?_ (fun hHeld => ?_)
          · try dsimp only
            all_goals exact True.intro
          clear hK K
          refine wpAnyH_ready (rs := [4]) (by kernel_rfl) (by simp) ?_
          refine AllReadyH.cons (take_list rfl) (fun K hK => ?_) ?_
          · skip
            go_simp
            refine (Hcall.out _ (ext_drew (Below.refl _ _))).mono ?_
            rintro e w6 hp6
            obtain ⟨rfl, hS6, ho6⟩ := HS5.out.call hp6 hb5
            have HS6 := Lib.hid hS6
            have B36 := Lib.hid (B35.out.only ho6 (HS5.out.out (Nat.le_refl _) (by omega)))
            have B46 := Lib.hid (B45.out.only ho6 (HS5.out.out (by omega) (by omega)))
            have b56 : Blk w6 (w.heap.size + 1 + 1) 71 #[.bool an, .int .u64 (af : Int), .int .u64 (al : Int)] := B55.out.only ho6 (HS5.out.out (by omega) (by omega))
            have B56 := Lib.hid b56
            have d0 := b56.cell 0
            have d1 := b56.cell 1
            have d2 := b56.cell 2
            clear hp6 hS6 ho6 b56
            dsimp only
            refine hK.out _ _ ?_ (fun hHeld => ?_)
            · try dsimp only
              all_goals exact True.intro
            clear hK K
            refine wpAnyH_ready (rs := [5]) (by kernel_rfl) (by simp) ?_
            refine AllReadyH.cons (take_list rfl) (fun K hK => ?_) ?_
            · skip
              go_simp
              refine (gjoin_any (Gr2 S (w.heap.size + 3) w6) g N ⟨an, af, al⟩ q w6 HS6.out.table HS6.out.lay HKok.out Hsm.out.2.2.2.2 Hsm.out.1 Hsm.out.2.1 Hsm.out.2.2.1 Hsm.out.2.2.2.1).mono ?_
              rintro e w7 ⟨rfl, hl7, ho7⟩
              have HS7 := Lib.hid (HS6.out.same hl7 ho7)
              have B37 := Lib.hid (B36.out.only ho7 (HS6.out.out (Nat.le_refl _) (by omega)))
              have B47 := Lib.hid (B46.out.only ho7 (HS6.out.out (by omega) (by omega)))
              have b57 := B56.out.only ho7 (HS6.out.out (by omega) (by omega))
              clear hl7 ho7
              dsimp only
              refine hK.out _ _ ?_ (fun hHeld => ?_)
              · try dsimp only
                all_goals exact True.intro
              clear hK K
              refine wpAnyH_ready (rs := [6]) (by kernel_rfl) (by simp) ?_
              refine AllReadyH.cons (take_list rfl) (fun K hK => ?_) ?_
              · skip
                refine step_store_piece rfl (.tmp 7) (.tmp 17) rfl (w.heap.size + 1 + 1) rfl rfl (by simp [Value.oneCell']) b57 rfl ?_
                intro w8 hB8 ho8
                refine hK.out _ _ ?_ (fun hHeld => ?_)
                · try dsimp only
                  all_goals exact True.intro
                clear hK K
                refine wpAnyH_done (by kernel_rfl) ?_ _
                have HS8 := Lib.hid (HS7.out.tail ho8 fun k hk => by omega)
                have B38 := Lib.hid (B37.out.only ho8 (by omega))
                have B48 := Lib.hid (B47.out.only ho8 (by omega))
                have B58 := Lib.hid hB8
                clear hB8 ho8 b57
                go_wp2
                go_roundw
                case rel => exact ⟨j + 1, joinG ⟨an, af, al⟩ q, _, by omega, by go_num, Hstep, Hgn, B38, B48, B58, HS8⟩
                case measure => simp [intOf]; omega
              exact AllReadyH.nil
            exact AllReadyH.nil
          exact AllReadyH.nil
        exact AllReadyH.nil
      refine AllReadyH.cons (take_list rfl) (fun K hK => ?_) ?_
      · skip
        go_simp
        refine hK.out _ _ ?_ (fun hHeld => ?_)
        · try dsimp only
          all_goals exact True.intro
        clear hK K
        refine wpAnyH_ready (rs := [1, 4]) (by kernel_rfl) (by simp) ?_
        refine AllReadyH.cons (take_list rfl) (fun K hK => ?_) ?_
        · skip
          go_simp
          refine hK.out _ _ ?_ (fun hHeld => ?_)
          · try dsimp only
            all_goals exact True.intro
          clear hK K
          refine wpAnyH_ready (rs := [4]) (by kernel_rfl) (by simp) ?_
          refine AllReadyH.cons (take_list rfl) (fun K hK => ?_) ?_
          · skip
            go_simp
            refine (Hcall.out _ (ext_drew (Below.refl _ _))).mono ?_
            rintro e w6 hp6
            obtain ⟨rfl, hS6, ho6⟩ := HS5.out.call hp6 hb5
            have HS6 := Lib.hid hS6
            have B36 := Lib.hid (B35.out.only ho6 (HS5.out.out (Nat.le_refl _) (by omega)))
            have B46 := Lib.hid (B45.out.only ho6 (HS5.out.out (by omega) (by omega)))
            have b56 : Blk w6 (w.heap.size + 1 + 1) 71 #[.bool an, .int .u64 (af : Int), .int .u64 (al : Int)] := B55.out.only ho6 (HS5.out.out (by omega) (by omega))
            have B56 := Lib.hid b56
            have d0 := b56.cell 0
            have d1 := b56.cell 1
            have d2 := b56.cell 2
            clear hp6 hS6 ho6 b56
            dsimp only
            refine hK.out _ _ ?_ (fun hHeld => ?_)
            · try dsimp only
              all_goals exact True.intro
            clear hK K
            refine wpAnyH_ready (rs := [5]) (by kernel_rfl) (by simp) ?_
            refine AllReadyH.cons (take_list rfl) (fun K hK => ?_) ?_
            · skip
              go_simp
              refine (gjoin_any (Gr2 S (w.heap.size + 3) w6) g N ⟨an, af, al⟩ q w6 HS6.out.table HS6.out.lay HKok.out Hsm.out.2.2.2.2 Hsm.out.1 Hsm.out.2.1 Hsm.out.2.2.1 Hsm.out.2.2.2.1).mono ?_
              rintro e w7 ⟨rfl, hl7, ho7⟩
              have HS7 := Lib.hid (HS6.out.same hl7 ho7)
              have B37 := Lib.hid (B36.out.only ho7 (HS6.out.out (Nat.le_refl _) (by omega)))
              have B47 := Lib.hid (B46.out.only ho7 (HS6.out.out (by omega) (by omega)))
              have b57 := B56.out.only ho7 (HS6.out.out (by omega) (by omega))
              clear hl7 ho7
              dsimp only
              refine hK.out _ _ ?_ (fun hHeld => ?_)
              · try dsimp only
                all_goals exact True.intro
              clear hK K
              refine wpAnyH_ready (rs := [6]) (by kernel_rfl) (by simp) ?_
              refine AllReadyH.cons (take_list rfl) (fun K hK => ?_) ?_
              · skip
                refine step_store_piece rfl (.tmp 7) (.tmp 17) rfl (w.heap.size + 1 + 1) rfl rfl (by simp [Value.oneCell']) b57 rfl ?_
                intro w8 hB8 ho8
                refine hK.out _ _ ?_ (fun hHeld => ?_)
                · try dsimp only
                  all_goals exact True.intro
                clear hK K
                refine wpAnyH_done (by kernel_rfl) ?_ _
                have HS8 := Lib.hid (HS7.out.tail ho8 fun k hk => by omega)
                have B38 := Lib.hid (B37.out.only ho8 (by omega))
                have B48 := Lib.hid (B47.out.only ho8 (by omega))
                have B58 := Lib.hid hB8
                clear hB8 ho8 b57
                go_wp2
                go_roundw
                case rel => exact ⟨j + 1, joinG ⟨an, af, al⟩ q, _, by omega, by go_num, Hstep, Hgn, B38, B48, B58, HS8⟩
                case measure => simp [intOf]; omega
              exact AllReadyH.nil
            exact AllReadyH.nil
          exact AllReadyH.nil
        refine AllReadyH.cons (take_list rfl) (fun K hK => ?_) ?_
        · skip
          go_simp
          refine (Hcall.out _ (ext_drew (Below.refl _ _))).mono ?_
          rintro e w6 hp6
          obtain ⟨rfl, hS6, ho6⟩ := HS5.out.call hp6 hb5
          have HS6 := Lib.hid hS6
          have B36 := Lib.hid (B35.out.only ho6 (HS5.out.out (Nat.le_refl _) (by omega)))
          have B46 := Lib.hid (B45.out.only ho6 (HS5.out.out (by omega) (by omega)))
          have b56 : Blk w6 (w.heap.size + 1 + 1) 71 #[.bool an, .int .u64 (af : Int), .int .u64 (al : Int)] := B55.out.only ho6 (HS5.out.out (by omega) (by omega))
          have B56 := Lib.hid b56
          have d0 := b56.cell 0
          have d1 := b56.cell 1
          have d2 := b56.cell 2
          clear hp6 hS6 ho6 b56
          dsimp only
          refine hK.out _ _ ?_ (fun hHeld => ?_)
          · try dsimp only
            all_goals exact True.intro
          clear hK K
          refine wpAnyH_ready (rs := [1]) (by kernel_rfl) (by simp) ?_
          refine AllReadyH.cons (take_list rfl) (fun K hK => ?_) ?_
          · skip
            go_simp
            refine hK.out _ _ ?_ (fun hHeld => ?_)
            · try dsimp only
              all_goals exact True.intro
            clear hK K
            refine wpAnyH_ready (rs := [5]) (by kernel_rfl) (by simp) ?_
            refine AllReadyH.cons (take_list rfl) (fun K hK => ?_) ?_
            · skip
              go_simp
              refine (gjoin_any (Gr2 S (w.heap.size + 3) w6) g N ⟨an, af, al⟩ q w6 HS6.out.table HS6.out.lay HKok.out Hsm.out.2.2.2.2 Hsm.out.1 Hsm.out.2.1 Hsm.out.2.2.1 Hsm.out.2.2.2.1).mono ?_
              rintro e w7 ⟨rfl, hl7, ho7⟩
              have HS7 := Lib.hid (HS6.out.same hl7 ho7)
              have B37 := Lib.hid (B36.out.only ho7 (HS6.out.out (Nat.le_refl _) (by omega)))
              have B47 := Lib.hid (B46.out.only ho7 (HS6.out.out (by omega) (by omega)))
              have b57 := B56.out.only ho7 (HS6.out.out (by omega) (by omega))
              clear hl7 ho7
              dsimp only
              refine hK.out _ _ ?_ (fun hHeld => ?_)
              · try dsimp only
                all_goals exact True.intro
              clear hK K
              refine wpAnyH_ready (rs := [6]) (by kernel_rfl) (by simp) ?_
              refine AllReadyH.cons (take_list rfl) (fun K hK => ?_) ?_
              · skip
                refine step_store_piece rfl (.tmp 7) (.tmp 17) rfl (w.heap.size + 1 + 1) rfl rfl (by simp [Value.oneCell']) b57 rfl ?_
                intro w8 hB8 ho8
                refine hK.out _ _ ?_ (fun hHeld => ?_)
                · try dsimp only
                  all_goals exact True.intro
                clear hK K
                refine wpAnyH_done (by kernel_rfl) ?_ _
                have HS8 := Lib.hid (HS7.out.tail ho8 fun k hk => by omega)
                have B38 := Lib.hid (B37.out.only ho8 (by omega))
                have B48 := Lib.hid (B47.out.only ho8 (by omega))
                have B58 := Lib.hid hB8
                clear hB8 ho8 b57
                go_wp2
                go_roundw
                case rel => exact ⟨j + 1, joinG ⟨an, af, al⟩ q, _, by omega, by go_num, Hstep, Hgn, B38, B48, B58, HS8⟩
                case measure => simp [intOf]; omega
              exact AllReadyH.nil
            exact AllReadyH.nil
          exact AllReadyH.nil
        exact AllReadyH.nil
      exact AllReadyH.nil
    · obtain rfl : j = n := by omega
      have hnj : ¬ (j : Int) < m := by have := Hn.out; omega
      have hRR : (⟨⟨an, af, al⟩, M⟩ : GPc × GLy) = R := by
        have h1 := HR0.out
        rw [Hn.out] at h1
        exact HR.out.symm.trans h1
      subst hRR
      have b5 : Blk wr (w.heap.size + 1 + 1) 71 #[.bool an, .int .u64 (af : Int), .int .u64 (al : Int)] := B5.out
      have c0 := b5.cell 0
      have c1 := b5.cell 1
      have c2 := b5.cell 2
      go_wp2_with (refine wpList_store_piece rfl (.tmp 6) (.tmp 19) rfl (w.heap.size + 1) rfl rfl (by simp [Value.oneCell']) B4.out rfl ?_; intro w8 h8 o8)
      have hS8 := HS.out.tail o8 fun k hk => by omega
      exact bodyPost_ret (v := pieceV ⟨an, af, al⟩) (results_piece rfl _ _ (w.heap.size + 1) _ (pcs ⟨an, af, al⟩) rfl rfl h8) rfl ⟨rfl, hS8.done, hS8.only⟩
end Go.Proofs.YtgknlegomoaoeaaDoor

/-
  The contract of within. No statement of the seat is proved here.
-/
namespace Go.Proofs.YtgknlegomoaoeaaDoor
open Go Go.RowKit
set_option maxRecDepth 100000

theorem RowS.nest {S : Nat → Prop} {w w6 W : World} {b b' g : Nat} {M1 M : GLy} (h1 : RowS S w b w6 g M1) (hb : b ≤ w6.heap.size) (h2 : RowS (Gr2 S b w6) w6 b' W g M) : RowS S w b W g M := by
  have h3 := h2.only.size
  have h4 := h2.hb
  refine ⟨h2.lay.mono (fun k hk => ?_) (fun k hk => ?_), gr2_only h1 h2.only, h1.tab, h1.bd, h1.hb⟩
  · rcases hk with hk | hk
    · exact hk.imp id fun h => ⟨h.1, by omega⟩
    · exact .inr ⟨by omega, hk.2⟩
  · rcases hk with hk | hk
    · have := h1.lay.bound k (.inl hk); omega
    · exact hk.2
theorem RowS.again {S : Nat → Prop} {w w6 W : World} {b b' g : Nat} {M : GLy} (h : RowS S w b w6 g M) (he : Below w6.heap.size w6 W) (hb : b' = W.heap.size) : RowS (Gr2 S b w6) w6 b' W g M := RowS.start h.table h.lay he hb
theorem re_cells {T : Nat → Prop} {w : World} {x : Ex} {cs : List Value} (hr : ReR T w x cs) : ∃ k' q0 q1 q2 q3 A' kl c' lo' hi', cs = [.int .i64 k', .int .u64 ((q0 : Nat) : Int), .int .u64 ((q1 : Nat) : Int), .int .u64 ((q2 : Nat) : Int), .int .u64 ((q3 : Nat) : Int), .slice A' kl c', .int .i64 lo', .int .i64 hi'] := by
  cases x with
  | mk k s ks lo hi =>
    rw [reR_iff] at hr
    obtain ⟨⟨hk, hs, hlo, hhi⟩, A, c, rfl, h1, h2, h3⟩ := hr
    obtain ⟨p0, p1, p2, p3, rfl⟩ := four_words hs
    exact ⟨k, p0, p1, p2, p3, A, _, c, lo, hi, rfl⟩
theorem rangeAt_blk {w : World} {g : Nat} {t : TypeId} {cs : Array Value} (hB : Blk w g t cs) : w.rangeAt g 0 cs.toList := fun j v hv => by
  rw [Nat.zero_add, hB.cell]
  simpa using hv
set_option maxHeartbeats 8000000 in
theorem gwithin_any (x : Ex) (hK : LayK x) (hF : GFn (cntE x) (fun L => layG x L)) (T S0 : Nat → Prop) (g : Nat) (cs : List Value) : ∀ (n : Nat) (S : Nat → Prop) (L : GLy) (w : World), n ≤ 64 → ReR T w x cs → (∀ k, T k → k < w.heap.size ∧ ¬ S k) → TabB S w → LayS S w g L → GOk L → L.sets.length + n * cntE x ≤ 64 →
    Calls Tryd.prog 81 #[.pointer (some ⟨g, 0, none⟩), reV cs, .int .i64 (n : Int)] w (GPost S w g (withinG (fun L => layG x L) n L)) := by
  intro n
  induction n with
  | zero =>
    intro S L w hn hr hT ht hS hL hl
    obtain ⟨k', q0, q1, q2, q3, A', kl, c', lo', hi', rfl⟩ := re_cells hr
    unfold reV
    show Calls Tryd.prog 81 #[.pointer (some ⟨g, 0, none⟩), .agg #[.int .i64 k', .int .u64 (q0 : Int), .int .u64 (q1 : Int), .int .u64 (q2 : Int), .int .u64 (q3 : Int), .slice A' kl c', .int .i64 lo', .int .i64 hi'], .int .i64 ((0 : Nat) : Int)] w _
    have HS := Lib.hid (RowS.start (b := w.heap.size + 2) ht hS (ext2 w (.cells #[.int .i64 k', .int .u64 (q0 : Int), .int .u64 (q1 : Int), .int .u64 (q2 : Int), .int .u64 (q3 : Int), .slice A' kl c', .int .i64 lo', .int .i64 hi'] 27) (.cells #[.bool true, .int .u64 0, .int .u64 0] 71)) (by simp))
    clear hr hT ht hS hL hl
    go_enter Tryd.func81, Tryd.ntmps81
    go_wp2
    exact bodyPost_ret (v := pieceV gE0) (results_piece rfl _ _ (w.heap.size + 1) 71 (pcs gE0) rfl rfl (blk_at _ _ _ (by simp))) rfl ⟨rfl, HS.out.done, HS.out.only⟩
  | succ n ih =>
    intro S L w hn hr hT ht hS hL hl
    obtain ⟨k', q0, q1, q2, q3, A', kl, c', lo', hi', rfl⟩ := re_cells hr
    rw [Nat.add_mul, Nat.one_mul] at hl
    have hf1 : GRes L (cntE x) (layG x L) := hF L hL (by omega)
    have hout : withinG (fun L => layG x L) (n + 1) L = (⟨true, (thenG (layG x L).1 (withinG (fun L => layG x L) n (layG x L).2).1 (withinG (fun L => layG x L) n (layG x L).2).2).1.first, (thenG (layG x L).1 (withinG (fun L => layG x L) n (layG x L).2).1 (withinG (fun L => layG x L) n (layG x L).2).2).1.last⟩, (thenG (layG x L).1 (withinG (fun L => layG x L) n (layG x L).2).1 (withinG (fun L => layG x L) n (layG x L).2).2).2) := rfl
    obtain ⟨a, M, hqM⟩ : ∃ a M, layG x L = (a, M) := ⟨_, _, rfl⟩
    rw [hqM] at hf1 hout
    have hML := hf1.len
    dsimp only at hML hout
    have hf2 : GRes M (n * cntE x) (withinG (fun L => layG x L) n M) := gfn_within hF n M hf1.ok (by omega)
    obtain ⟨q, N, hqN⟩ : ∃ q N, withinG (fun L => layG x L) n M = (q, N) := ⟨_, _, rfl⟩
    rw [hqN] at hf2 hout
    dsimp only at hout
    have hsm := gres_of hf1 hf2 (by omega)
    rw [hout]
    have hc1 : ∀ W, RowS S w (w.heap.size + 2) W g L → Calls Tryd.prog 39 #[.pointer (some ⟨g, 0, none⟩), .agg #[.int .i64 k', .int .u64 (q0 : Int), .int .u64 (q1 : Int), .int .u64 (q2 : Int), .int .u64 (q3 : Int), .slice A' kl c', .int .i64 lo', .int .i64 hi']] W (GPost (Gr2 S (w.heap.size + 2) W) W g (a, M)) := fun W hW => by
      have := hK T _ g L _ W (hr.only hW.only fun k hk => (hT k hk).2) (hW.apart hT) hW.table hW.lay hL (by omega)
      rw [hqM] at this
      simpa [reV] using this
    have hc2 : ∀ (P : Nat → Prop) (W : World), ReR T W x [.int .i64 k', .int .u64 (q0 : Int), .int .u64 (q1 : Int), .int .u64 (q2 : Int), .int .u64 (q3 : Int), .slice A' kl c', .int .i64 lo', .int .i64 hi'] → (∀ k, T k → k < W.heap.size ∧ ¬ P k) → TabB P W → LayS P W g M → Calls Tryd.prog 81 #[.pointer (some ⟨g, 0, none⟩), .agg #[.int .i64 k', .int .u64 (q0 : Int), .int .u64 (q1 : Int), .int .u64 (q2 : Int), .int .u64 (q3 : Int), .slice A' kl c', .int .i64 lo', .int .i64 hi'], .int .i64 (n : Int)] W (GPost P W g (q, N)) := fun P W h1 h2 h3 h4 => by
      have := ih P M W (by omega) h1 h2 h3 h4 hf1.ok (by omega)
      rw [hqN] at this
      simpa [reV] using this
    have hnn : ¬ ((n : Int) + 1 = 0) := by omega
    have hnn2 : (((n : Int) + 1) == 0) = false := by simp; omega
    have hcn : ((n + 1 : Nat) : Int) = (n : Int) + 1 := by omega
    have hn64 : (n : Int) ≤ 63 := by omega
    have hsub : (n : Int) + 1 - 1 = (n : Int) := by omega
    have hwr : IntKind.i64.wrap (n : Int) = (n : Int) := by rw [IntKind.wrap_i64]; omega
    rw [hcn]
    have Hc1 := Lib.hid hc1
    have Hc2 := Lib.hid hc2
    have Hsm := Lib.hid hsm
    have HNok := Lib.hid hf2.ok
    have Hr := Lib.hid hr
    have HT := Lib.hid hT
    obtain ⟨W2, hW2⟩ : ∃ W2, W2 = (w.alloc (.cells #[.int .i64 k', .int .u64 (q0 : Int), .int .u64 (q1 : Int), .int .u64 (q2 : Int), .int .u64 (q3 : Int), .slice A' kl c', .int .i64 lo', .int .i64 hi'] 27)).alloc (.cells #[.bool false, .int .u64 0, .int .u64 0] 71) := ⟨_, rfl⟩
    have e2 : Below w.heap.size w W2 := by rw [hW2]; exact ext2 w _ _
    have hb3 : Blk W2 w.heap.size 27 #[.int .i64 k', .int .u64 (q0 : Int), .int .u64 (q1 : Int), .int .u64 (q2 : Int), .int .u64 (q3 : Int), .slice A' kl c', .int .i64 lo', .int .i64 hi'] := by rw [hW2]; exact (blk_at w _ _ rfl).alloc _
    have hb4 : Blk W2 (w.heap.size + 1) 71 #[.bool false, .int .u64 0, .int .u64 0] := by rw [hW2]; exact blk_at _ _ _ (by simp)
    have hsz : W2.heap.size = w.heap.size + 2 := by rw [hW2]; simp
    have HS2 := Lib.hid (RowS.start (b := w.heap.size + 2) ht hS e2 hsz.symm)
    have B32 := Lib.hid hb3
    have B42 := Lib.hid hb4
    clear hr hT ht hS hL hl hf1 hf2 hout hML hqM hqN hsm hc1 hc2 ih hcn e2 hb3 hb4 hK hF
    unfold reV
    obtain ⟨an, af, al⟩ := a
    show Calls Tryd.prog 81 #[.pointer (some ⟨g, 0, none⟩), .agg #[.int .i64 k', .int .u64 (q0 : Int), .int .u64 (q1 : Int), .int .u64 (q2 : Int), .int .u64 (q3 : Int), .slice A' kl c', .int .i64 lo', .int .i64 hi'], .int .i64 ((n : Int) + 1)] w _
    go_enter Tryd.func81, Tryd.ntmps81
    go_wp2_with fail
    rw [← hW2]
    refine (Hc1.out W2 HS2.out).mono ?_
    rintro e w6 hp6
    obtain ⟨rfl, hS6, ho6⟩ := HS2.out.call hp6 (by omega)
    have HS6 := Lib.hid hS6
    have b36 := B32.out.only ho6 (HS2.out.out (Nat.le_refl _) (by omega))
    have b46 := B42.out.only ho6 (HS2.out.out (by omega) (by omega))
    have hs6 : w.heap.size + 2 ≤ w6.heap.size := by have := ho6.size; omega
    have HR6 := Lib.hid (Hr.out.only hS6.only fun k hk => (HT.out k hk).2)
    have HT6 := Lib.hid (hS6.apart HT.out)
    have B36 := Lib.hid b36
    have B46 := Lib.hid b46
    clear hp6 hS6 ho6 hW2 b36 b46 hsz HS2 B32 B42
    unfold pieceV
    dsimp only
    go_wp2_with fail
    have e7 : Below w6.heap.size w6 (w6.alloc (.cells #[.bool an, .int .u64 (af : Int), .int .u64 (al : Int)] 71)) := ext_alloc (Below.refl _ _) _
    have b77 : Blk (w6.alloc (.cells #[.bool an, .int .u64 (af : Int), .int .u64 (al : Int)] 71)) w6.heap.size 71 #[.bool an, .int .u64 (af : Int), .int .u64 (al : Int)] := blk_at _ _ _ rfl
    have hs7 : (w6.alloc (.cells #[.bool an, .int .u64 (af : Int), .int .u64 (al : Int)] 71)).heap.size = w6.heap.size + 1 := by simp
    generalize w6.alloc (.cells #[.bool an, .int .u64 (af : Int), .int .u64 (al : Int)] 71) = W7 at *
    have b37 := B36.out.ext e7
    have b47 := B46.out.ext e7
    have HS7 : Hid (RowS (Gr2 S (w.heap.size + 2) w6) w6 (w6.heap.size + 1) W7.drew g M) := Lib.hid (HS6.out.again (ext_drew e7) hs7.symm)
    have HS8 : Hid (RowS (Gr2 S (w.heap.size + 2) w6) w6 (w6.heap.size + 2) (W7.alloc (.cells #[.bool false, .int .u64 0, .int .u64 0] 71)).drew g M) := Lib.hid (HS6.out.again (ext_drew (ext_alloc e7 _)) (by show _ = (W7.alloc _).heap.size; rw [World.size_alloc, hs7]))
    have hn3 : ¬ Gr2 S (w.heap.size + 2) w6 w.heap.size := HS6.out.out (Nat.le_refl _) (by omega)
    have hn4 : ¬ Gr2 S (w.heap.size + 2) w6 (w.heap.size + 1) := HS6.out.out (by omega) (by omega)
    have E7 := Lib.hid e7
    have hu1 := Tryd.underlying27
    have hu2 := Tryd.underlying71
    have hi1 : (Tryd.prog.info? 27).map (·.size) = some ([.int .i64 k', .int .u64 (q0 : Int), .int .u64 (q1 : Int), .int .u64 (q2 : Int), .int .u64 (q3 : Int), .slice A' kl c', .int .i64 lo', .int .i64 hi'] : List Value).length := by kernel_rfl
    have hi2 : (Tryd.prog.info? 71).map (·.size) = some ([.bool an, .int .u64 (af : Int), .int .u64 (al : Int)] : List Value).length := by kernel_rfl
    clear e7
    refine wp_region_held_drew (S := fun w' => w'.rangeAt w.heap.size 0 [.int .i64 k', .int .u64 (q0 : Int), .int .u64 (q1 : Int), .int .u64 (q2 : Int), .int .u64 (q3 : Int), .slice A' kl c', .int .i64 lo', .int .i64 hi'] ∧ w'.rangeAt w6.heap.size 0 [.bool an, .int .u64 (af : Int), .int .u64 (al : Int)]) (by kernel_rfl) ?_ (fun hHeld => ?_)
    · first | exact ⟨rangeAt_blk b37, rangeAt_blk b77⟩ | exact ⟨rangeAt_blk (b37.alloc _), rangeAt_blk (b77.alloc _)⟩ | exact ⟨rangeAt_blk b3x, rangeAt_blk b7x⟩ | exact ⟨rangeAt_blk (b3x.alloc _), rangeAt_blk (b7x.alloc _)⟩ | exact ⟨rangeAt_blk b3y, rangeAt_blk b7y⟩ | exact ⟨rangeAt_blk (b3y.alloc _), rangeAt_blk (b7y.alloc _)⟩ | exact ⟨rangeAt_blk b3z, rangeAt_blk b7z⟩
    refine wpAnyH_take (i := 0) (v := ?_) (take_list rfl) (by kernel_rfl) (by kernel_rfl) (by kernel_rfl) (fun _ _ _ h => h) (Or.inl ⟨by rfl, ?_⟩) (by assumption) ?_
    rotate_left
    · intro w hSw
      try dsimp only at hSw
      first | (go_simp; done) | (go_simp; with_reducible rfl)
    try simp only [Act.put, List.setIfInBounds_toArray, List.set_cons_zero, List.set_cons_succ]
    refine wpAnyH_take (i := 2) (v := ?_) (take_list rfl) (by kernel_rfl) (by kernel_rfl) (by kernel_rfl) (fun _ _ _ h => h) (Or.inl ⟨by rfl, ?_⟩) (by assumption) ?_
    rotate_left
    · intro w hSw
      try dsimp only at hSw
      first | (go_simp; done) | (go_simp; with_reducible rfl)
    try simp only [Act.put, List.setIfInBounds_toArray, List.set_cons_zero, List.set_cons_succ]
    refine' wpAnyH_take (i := 3) (v := _) (take_list rfl) (by kernel_rfl) (by kernel_rfl) (by kernel_rfl) (fun _ _ _ h => h) (yieldsIf_load_mid (by rfl) _ _ rfl _ _ rfl _ _ ?hS3 ?hu3 ?hd3 ?hi3) (by assumption) ?rest3
    case hS3 => intro w hSw; (try dsimp only at hSw); go_split_ands; assumption
    case hu3 => assumption
    case hd3 => rfl
    case hi3 => assumption
    try simp only [Act.put, List.setIfInBounds_toArray, List.set_cons_zero, List.set_cons_succ]
    refine' wpAnyH_take (i := 1) (v := _) (take_list rfl) (by kernel_rfl) (by kernel_rfl) (by kernel_rfl) (fun _ _ _ h => h) (yieldsIf_load_mid (by rfl) _ _ rfl _ _ rfl _ _ ?hS1 ?hu1 ?hd1 ?hi1) (by assumption) ?rest1
    case hS1 => intro w hSw; (try dsimp only at hSw); go_split_ands; assumption
    case hu1 => assumption
    case hd1 => rfl
    case hi1 => assumption
    try simp only [Act.put, List.setIfInBounds_toArray, List.set_cons_zero, List.set_cons_succ]
    refine wpAnyH_take (i := 4) (v := ?_) (take_list rfl) (by kernel_rfl) (by kernel_rfl) (by kernel_rfl) (fun _ _ _ h => h) (Or.inl ⟨by rfl, ?_⟩) (by assumption) ?_
    rotate_left
    · intro w hSw
      try dsimp only at hSw
      first | (go_simp; done) | (go_simp; with_reducible rfl)
    try simp only [Act.put, List.setIfInBounds_toArray, List.set_cons_zero, List.set_cons_succ]
    refine wpAnyH_take (i := 5) (v := ?_) (take_list rfl) (by kernel_rfl) (by kernel_rfl) (by kernel_rfl) (fun _ _ _ h => h) (Or.inl ⟨by rfl, ?_⟩) (by assumption) ?_
    rotate_left
    · intro w hSw
      try dsimp only at hSw
      first | (go_simp; done) | (go_simp; with_reducible rfl)
    try simp only [Act.put, List.setIfInBounds_toArray, List.set_cons_zero, List.set_cons_succ]
    refine wpAnyH_ready (rs := [6, 8]) (by kernel_rfl) (by simp) ?_
    refine AllReadyH.cons (take_list rfl) (fun K hK => ?_) ?_
    · skip
      go_simp
      try simp only [hwr]
      refine (Hc2.out _ _ (HR6.out.ext (ext_drew (E7.out))) (HS7.out.apart HT6.out) HS7.out.table HS7.out.lay).mono ?_
      rintro e w9 hp9
      obtain ⟨rfl, hS9, ho9⟩ := HS7.out.call hp9 (by show _ ≤ W7.heap.size; omega)
      have HS9 := Lib.hid hS9
      have b3x := Blk.only (w := W7.drew) (b37) ho9 (fun hk => hk.elim hn3 (fun h => by omega))
      have b4x := Blk.only (w := W7.drew) (b47) ho9 (fun hk => hk.elim hn4 (fun h => by omega))
      have b7x := Blk.only (w := W7.drew) (b77) ho9 (HS7.out.out (Nat.le_refl _) (by omega))
      have hs9 : w6.heap.size + 1 ≤ w9.heap.size := by have := b7x.lt; omega
      clear hp9 hS9
      dsimp only
      refine hK.out _ _ ?_ (fun hHeld => ?_)
      · try dsimp only
        first | exact ⟨rangeAt_blk b37, rangeAt_blk b77⟩ | exact ⟨rangeAt_blk (b37.alloc _), rangeAt_blk (b77.alloc _)⟩ | exact ⟨rangeAt_blk b3x, rangeAt_blk b7x⟩ | exact ⟨rangeAt_blk (b3x.alloc _), rangeAt_blk (b7x.alloc _)⟩ | exact ⟨rangeAt_blk b3y, rangeAt_blk b7y⟩ | exact ⟨rangeAt_blk (b3y.alloc _), rangeAt_blk (b7y.alloc _)⟩ | exact ⟨rangeAt_blk b3z, rangeAt_blk b7z⟩
      clear hK K
      refine wpAnyH_ready (rs := [7, 8]) (by kernel_rfl) (by simp) ?_
      refine AllReadyH.cons (take_list rfl) (fun K hK => ?_) ?_
      · skip
        go_simp
        refine (gjoin_any _ g N ⟨an, af, al⟩ q w9 HS9.out.table HS9.out.lay HNok.out Hsm.out.2.2.2.2 Hsm.out.1 Hsm.out.2.1 Hsm.out.2.2.1 Hsm.out.2.2.2.1).mono ?_
        rintro e w10 ⟨rfl, hl10, ho10⟩
        have HS10 := Lib.hid (HS9.out.same hl10 ho10)
        have b3y := Blk.only b3x ho10 (fun hk => hk.elim hn3 (fun h => by omega))
        have b4y := Blk.only b4x ho10 (fun hk => hk.elim hn4 (fun h => by omega))
        have b7y := Blk.only b7x ho10 (HS9.out.out (Nat.le_refl _) (by omega))
        clear hl10
        dsimp only
        refine hK.out _ _ ?_ (fun hHeld => ?_)
        · try dsimp only
          first | exact ⟨rangeAt_blk b37, rangeAt_blk b77⟩ | exact ⟨rangeAt_blk (b37.alloc _), rangeAt_blk (b77.alloc _)⟩ | exact ⟨rangeAt_blk b3x, rangeAt_blk b7x⟩ | exact ⟨rangeAt_blk (b3x.alloc _), rangeAt_blk (b7x.alloc _)⟩ | exact ⟨rangeAt_blk b3y, rangeAt_blk b7y⟩ | exact ⟨rangeAt_blk (b3y.alloc _), rangeAt_blk (b7y.alloc _)⟩ | exact ⟨rangeAt_blk b3z, rangeAt_blk b7z⟩
        clear hK K
        refine wpAnyH_ready (rs := [8]) (by kernel_rfl) (by simp) ?_
        refine AllReadyH.cons (take_list rfl) (fun K hK => ?_) ?_
        · skip
          have HS11 : Hid (RowS _ w10 (w10.heap.size + 1) (w10.alloc (.cells #[.bool false, .int .u64 0, .int .u64 0] 71)) g _) := Lib.hid (HS10.out.again (ext_alloc (Below.refl _ _) _) (by simp))
          have b8y : Blk (w10.alloc (.cells #[.bool false, .int .u64 0, .int .u64 0] 71)) w10.heap.size 71 #[.bool false, .int .u64 0, .int .u64 0] := blk_at _ _ _ rfl
          have b3u := b3y.alloc (.cells #[.bool false, .int .u64 0, .int .u64 0] 71)
          have b4u := b4y.alloc (.cells #[.bool false, .int .u64 0, .int .u64 0] 71)
          have b7u := b7y.alloc (.cells #[.bool false, .int .u64 0, .int .u64 0] 71)
          have hs10 : w9.heap.size ≤ w10.heap.size := HS10.out.lay.lt |> fun _ => ho10.size
          go_simp
          refine hK.out _ _ ?_ (fun hHeld => ?_)
          · try dsimp only
            first | exact ⟨rangeAt_blk b37, rangeAt_blk b77⟩ | exact ⟨rangeAt_blk (b37.alloc _), rangeAt_blk (b77.alloc _)⟩ | exact ⟨rangeAt_blk b3x, rangeAt_blk b7x⟩ | exact ⟨rangeAt_blk (b3x.alloc _), rangeAt_blk (b7x.alloc _)⟩ | exact ⟨rangeAt_blk b3y, rangeAt_blk b7y⟩ | exact ⟨rangeAt_blk (b3y.alloc _), rangeAt_blk (b7y.alloc _)⟩ | exact ⟨rangeAt_blk b3z, rangeAt_blk b7z⟩
          clear hK K
          refine wpAnyH_ready (rs := [9]) (by kernel_rfl) (by simp) ?_
          refine AllReadyH.cons (take_list rfl) (fun K hK => ?_) ?_
          · skip
            refine step_store_piece rfl (.tmp 8) (.tmp 22) rfl w10.heap.size rfl rfl (by simp [Value.oneCell', pieceV]) b8y rfl ?_
            intro w12 hB8 ho12
            have b3z := b3u.only ho12 (by omega)
            have b7z := b7u.only ho12 (by omega)
            have b4z := b4u.only ho12 (by omega)
            refine hK.out _ _ ?_ (fun hHeld => ?_)
            · try dsimp only
              first | exact ⟨rangeAt_blk b37, rangeAt_blk b77⟩ | exact ⟨rangeAt_blk (b37.alloc _), rangeAt_blk (b77.alloc _)⟩ | exact ⟨rangeAt_blk b3x, rangeAt_blk b7x⟩ | exact ⟨rangeAt_blk (b3x.alloc _), rangeAt_blk (b7x.alloc _)⟩ | exact ⟨rangeAt_blk b3y, rangeAt_blk b7y⟩ | exact ⟨rangeAt_blk (b3y.alloc _), rangeAt_blk (b7y.alloc _)⟩ | exact ⟨rangeAt_blk b3z, rangeAt_blk b7z⟩
            clear hK K
            refine wpAnyH_done (by kernel_rfl) ?_ _
            clear b3z b7z b3u b7u b4u
            have HS12 := Lib.hid (HS11.out.tail ho12 fun k hk => by omega)
            obtain ⟨J, hJ⟩ : ∃ J, joinG ⟨an, af, al⟩ q = J := ⟨_, rfl⟩
            have HJ := Lib.hid hJ
            have g8 : Blk w12 w10.heap.size 71 #[.bool J.null, .int .u64 (J.first : Int), .int .u64 (J.last : Int)] := by rw [← hJ]; exact hB8
            have c0 : w12.cell? ⟨w10.heap.size, 0, none⟩ = some (.bool J.null) := g8.cell 0
            have f0 := g8.free 0
            have g9 := g8.put 0 (.bool true)
            have k0 : (w12.setCell ⟨w10.heap.size, 0, none⟩ (.bool true)).cell? ⟨w10.heap.size, 0, none⟩ = some (.bool true) := g9.cell 0
            have k1 : (w12.setCell ⟨w10.heap.size, 0, none⟩ (.bool true)).cell? ⟨w10.heap.size, 1, none⟩ = some (.int .u64 (J.first : Int)) := g9.cell 1
            have k2 : (w12.setCell ⟨w10.heap.size, 0, none⟩ (.bool true)).cell? ⟨w10.heap.size, 2, none⟩ = some (.int .u64 (J.last : Int)) := g9.cell 2
            have b4v := b4z.far (p := ⟨w10.heap.size, 0, none⟩) (by show w.heap.size + 1 ≠ w10.heap.size; omega) (.bool true)
            have HS13 := Lib.hid (HS12.out.tail ((Only.refl (fun k => k = w10.heap.size) w12).setCell (p := ⟨w10.heap.size, 0, none⟩) (.inl rfl) (.bool true)) fun k hk => by omega)
            clear hB8 ho12 hJ g8 g9 b4z
            go_wp2_with (refine wpList_store_piece rfl (.tmp 6) (.tmp 24) rfl (w.heap.size + 1) rfl rfl (by simp [Value.oneCell']) b4v rfl ?_; intro w14 h14 o14)
            have hS14 := (HS6.out.nest (by omega) (HS10.out.nest (by omega) HS13.out)).tail o14 fun k hk => by omega
            refine bodyPost_ret (v := .agg #[_, _, _]) (results_piece rfl _ _ (w.heap.size + 1) _ #[_, _, _] rfl rfl h14) rfl ⟨?_, hS14.done, hS14.only⟩
            show _ = Ending.returned (pieceV ⟨true, (joinG ⟨an, af, al⟩ q).first, (joinG ⟨an, af, al⟩ q).last⟩)
            rw [HJ.out]
            rfl
          exact AllReadyH.nil
        exact AllReadyH.nil
      refine AllReadyH.cons (take_list rfl) (fun K hK => ?_) ?_
      · skip
        have HS10 : Hid (RowS _ w9 (w9.heap.size + 1) (w9.alloc (.cells #[.bool false, .int .u64 0, .int .u64 0] 71)) g N) := Lib.hid (HS9.out.again (ext_alloc (Below.refl _ _) _) (by simp))
        have b8x : Blk (w9.alloc (.cells #[.bool false, .int .u64 0, .int .u64 0] 71)) w9.heap.size 71 #[.bool false, .int .u64 0, .int .u64 0] := blk_at _ _ _ rfl
        go_simp
        refine hK.out _ _ ?_ (fun hHeld => ?_)
        · try dsimp only
          first | exact ⟨rangeAt_blk b37, rangeAt_blk b77⟩ | exact ⟨rangeAt_blk (b37.alloc _), rangeAt_blk (b77.alloc _)⟩ | exact ⟨rangeAt_blk b3x, rangeAt_blk b7x⟩ | exact ⟨rangeAt_blk (b3x.alloc _), rangeAt_blk (b7x.alloc _)⟩ | exact ⟨rangeAt_blk b3y, rangeAt_blk b7y⟩ | exact ⟨rangeAt_blk (b3y.alloc _), rangeAt_blk (b7y.alloc _)⟩ | exact ⟨rangeAt_blk b3z, rangeAt_blk b7z⟩
        clear hK K
        refine wpAnyH_ready (rs := [7]) (by kernel_rfl) (by simp) ?_
        refine AllReadyH.cons (take_list rfl) (fun K hK => ?_) ?_
        · skip
          go_simp
          refine (gjoin_any _ g N ⟨an, af, al⟩ q (w9.alloc (.cells #[.bool false, .int .u64 0, .int .u64 0] 71)) HS10.out.table HS10.out.lay HNok.out Hsm.out.2.2.2.2 Hsm.out.1 Hsm.out.2.1 Hsm.out.2.2.1 Hsm.out.2.2.2.1).mono ?_
          rintro e w10 ⟨rfl, hl10, ho10⟩
          have HS11 := Lib.hid (HS10.out.same hl10 ho10)
          have b3y := Blk.only (b3x.alloc (.cells #[.bool false, .int .u64 0, .int .u64 0] 71)) ho10 (fun hk => hk.elim (fun h => h.elim hn3 (fun h => by omega)) (fun h => by omega))
          have b4y := Blk.only (b4x.alloc (.cells #[.bool false, .int .u64 0, .int .u64 0] 71)) ho10 (fun hk => hk.elim (fun h => h.elim hn4 (fun h => by omega)) (fun h => by omega))
          have b7y := Blk.only (b7x.alloc (.cells #[.bool false, .int .u64 0, .int .u64 0] 71)) ho10 (fun hk => hk.elim (HS9.out.out (Nat.le_refl _) (by omega)) (fun h => by omega))
          have b8y := Blk.only b8x ho10 (HS10.out.out (Nat.le_refl _) (by omega))
          have b3u := b3y
          have b4u := b4y
          have b7u := b7y
          clear hl10
          dsimp only
          refine hK.out _ _ ?_ (fun hHeld => ?_)
          · try dsimp only
            first | exact ⟨rangeAt_blk b37, rangeAt_blk b77⟩ | exact ⟨rangeAt_blk (b37.alloc _), rangeAt_blk (b77.alloc _)⟩ | exact ⟨rangeAt_blk b3x, rangeAt_blk b7x⟩ | exact ⟨rangeAt_blk (b3x.alloc _), rangeAt_blk (b7x.alloc _)⟩ | exact ⟨rangeAt_blk b3y, rangeAt_blk b7y⟩ | exact ⟨rangeAt_blk (b3y.alloc _), rangeAt_blk (b7y.alloc _)⟩ | exact ⟨rangeAt_blk b3z, rangeAt_blk b7z⟩
          clear hK K
          refine wpAnyH_ready (rs := [9]) (by kernel_rfl) (by simp) ?_
          refine AllReadyH.cons (take_list rfl) (fun K hK => ?_) ?_
          · skip
            refine step_store_piece rfl (.tmp 8) (.tmp 22) rfl w9.heap.size rfl rfl (by simp [Value.oneCell', pieceV]) b8y rfl ?_
            intro w12 hB8 ho12
            have b3z := b3u.only ho12 (by omega)
            have b7z := b7u.only ho12 (by omega)
            have b4z := b4u.only ho12 (by omega)
            refine hK.out _ _ ?_ (fun hHeld => ?_)
            · try dsimp only
              first | exact ⟨rangeAt_blk b37, rangeAt_blk b77⟩ | exact ⟨rangeAt_blk (b37.alloc _), rangeAt_blk (b77.alloc _)⟩ | exact ⟨rangeAt_blk b3x, rangeAt_blk b7x⟩ | exact ⟨rangeAt_blk (b3x.alloc _), rangeAt_blk (b7x.alloc _)⟩ | exact ⟨rangeAt_blk b3y, rangeAt_blk b7y⟩ | exact ⟨rangeAt_blk (b3y.alloc _), rangeAt_blk (b7y.alloc _)⟩ | exact ⟨rangeAt_blk b3z, rangeAt_blk b7z⟩
            clear hK K
            refine wpAnyH_done (by kernel_rfl) ?_ _
            clear b3z b7z b3u b7u b4u
            have HS12 := Lib.hid (HS11.out.tail ho12 fun k hk => by omega)
            obtain ⟨J, hJ⟩ : ∃ J, joinG ⟨an, af, al⟩ q = J := ⟨_, rfl⟩
            have HJ := Lib.hid hJ
            have g8 : Blk w12 w9.heap.size 71 #[.bool J.null, .int .u64 (J.first : Int), .int .u64 (J.last : Int)] := by rw [← hJ]; exact hB8
            have c0 : w12.cell? ⟨w9.heap.size, 0, none⟩ = some (.bool J.null) := g8.cell 0
            have f0 := g8.free 0
            have g9 := g8.put 0 (.bool true)
            have k0 : (w12.setCell ⟨w9.heap.size, 0, none⟩ (.bool true)).cell? ⟨w9.heap.size, 0, none⟩ = some (.bool true) := g9.cell 0
            have k1 : (w12.setCell ⟨w9.heap.size, 0, none⟩ (.bool true)).cell? ⟨w9.heap.size, 1, none⟩ = some (.int .u64 (J.first : Int)) := g9.cell 1
            have k2 : (w12.setCell ⟨w9.heap.size, 0, none⟩ (.bool true)).cell? ⟨w9.heap.size, 2, none⟩ = some (.int .u64 (J.last : Int)) := g9.cell 2
            have b4v := b4z.far (p := ⟨w9.heap.size, 0, none⟩) (by show w.heap.size + 1 ≠ w9.heap.size; omega) (.bool true)
            have HS13 := Lib.hid (HS12.out.tail ((Only.refl (fun k => k = w9.heap.size) w12).setCell (p := ⟨w9.heap.size, 0, none⟩) (.inl rfl) (.bool true)) fun k hk => by omega)
            clear hB8 ho12 hJ g8 g9 b4z
            go_wp2_with (refine wpList_store_piece rfl (.tmp 6) (.tmp 24) rfl (w.heap.size + 1) rfl rfl (by simp [Value.oneCell']) b4v rfl ?_; intro w14 h14 o14)
            have hS14 := (HS6.out.nest (by omega) (HS9.out.nest (by omega) HS13.out)).tail o14 fun k hk => by omega
            refine bodyPost_ret (v := .agg #[_, _, _]) (results_piece rfl _ _ (w.heap.size + 1) _ #[_, _, _] rfl rfl h14) rfl ⟨?_, hS14.done, hS14.only⟩
            show _ = Ending.returned (pieceV ⟨true, (joinG ⟨an, af, al⟩ q).first, (joinG ⟨an, af, al⟩ q).last⟩)
            rw [HJ.out]
            rfl
          exact AllReadyH.nil
        exact AllReadyH.nil
      exact AllReadyH.nil
    refine AllReadyH.cons (take_list rfl) (fun K hK => ?_) ?_
    · skip
      go_simp
      refine hK.out _ _ ?_ (fun hHeld => ?_)
      · try dsimp only
        first | exact ⟨rangeAt_blk b37, rangeAt_blk b77⟩ | exact ⟨rangeAt_blk (b37.alloc _), rangeAt_blk (b77.alloc _)⟩ | exact ⟨rangeAt_blk b3x, rangeAt_blk b7x⟩ | exact ⟨rangeAt_blk (b3x.alloc _), rangeAt_blk (b7x.alloc _)⟩ | exact ⟨rangeAt_blk b3y, rangeAt_blk b7y⟩ | exact ⟨rangeAt_blk (b3y.alloc _), rangeAt_blk (b7y.alloc _)⟩ | exact ⟨rangeAt_blk b3z, rangeAt_blk b7z⟩
      clear hK K
      refine wpAnyH_ready (rs := [6]) (by kernel_rfl) (by simp) ?_
      refine AllReadyH.cons (take_list rfl) (fun K hK => ?_) ?_
      · skip
        go_simp
        try simp only [hwr]
        refine (Hc2.out _ _ (HR6.out.ext (ext_drew (ext_alloc E7.out _))) (HS8.out.apart HT6.out) HS8.out.table HS8.out.lay).mono ?_
        rintro e w9 hp9
        obtain ⟨rfl, hS9, ho9⟩ := HS8.out.call hp9 (by show _ ≤ (W7.alloc _).heap.size; rw [World.size_alloc, hs7]; omega)
        have HS9 := Lib.hid hS9
        have b3x := Blk.only (w := (W7.alloc (.cells #[.bool false, .int .u64 0, .int .u64 0] 71)).drew) (b37.alloc _) ho9 (fun hk => hk.elim hn3 (fun h => by omega))
        have b4x := Blk.only (w := (W7.alloc (.cells #[.bool false, .int .u64 0, .int .u64 0] 71)).drew) (b47.alloc _) ho9 (fun hk => hk.elim hn4 (fun h => by omega))
        have b7x := Blk.only (w := (W7.alloc (.cells #[.bool false, .int .u64 0, .int .u64 0] 71)).drew) (b77.alloc _) ho9 (HS8.out.out (Nat.le_refl _) (by omega))
        have b8x := Blk.only (w := (W7.alloc (.cells #[.bool false, .int .u64 0, .int .u64 0] 71)).drew) (blk_at W7 _ _ hs7.symm) ho9 (HS8.out.out (by omega) (by omega))
        have hs9 : w6.heap.size + 1 ≤ w9.heap.size := by have := b7x.lt; omega
        clear hp9 hS9
        dsimp only
        refine hK.out _ _ ?_ (fun hHeld => ?_)
        · try dsimp only
          first | exact ⟨rangeAt_blk b37, rangeAt_blk b77⟩ | exact ⟨rangeAt_blk (b37.alloc _), rangeAt_blk (b77.alloc _)⟩ | exact ⟨rangeAt_blk b3x, rangeAt_blk b7x⟩ | exact ⟨rangeAt_blk (b3x.alloc _), rangeAt_blk (b7x.alloc _)⟩ | exact ⟨rangeAt_blk b3y, rangeAt_blk b7y⟩ | exact ⟨rangeAt_blk (b3y.alloc _), rangeAt_blk (b7y.alloc _)⟩ | exact ⟨rangeAt_blk b3z, rangeAt_blk b7z⟩
        clear hK K
        refine wpAnyH_ready (rs := [7]) (by kernel_rfl) (by simp) ?_
        refine AllReadyH.cons (take_list rfl) (fun K hK => ?_) ?_
        · skip
          go_simp
          refine (gjoin_any _ g N ⟨an, af, al⟩ q w9 HS9.out.table HS9.out.lay HNok.out Hsm.out.2.2.2.2 Hsm.out.1 Hsm.out.2.1 Hsm.out.2.2.1 Hsm.out.2.2.2.1).mono ?_
          rintro e w10 ⟨rfl, hl10, ho10⟩
          have HS11 := Lib.hid (HS9.out.same hl10 ho10)
          have b3y := Blk.only b3x ho10 (fun hk => hk.elim hn3 (fun h => by omega))
          have b4y := Blk.only b4x ho10 (fun hk => hk.elim hn4 (fun h => by omega))
          have b7y := Blk.only b7x ho10 (HS9.out.out (Nat.le_refl _) (by omega))
          have b8y := Blk.only b8x ho10 (HS9.out.out (by omega) (by omega))
          have b3u := b3y
          have b4u := b4y
          have b7u := b7y
          clear hl10
          dsimp only
          refine hK.out _ _ ?_ (fun hHeld => ?_)
          · try dsimp only
            first | exact ⟨rangeAt_blk b37, rangeAt_blk b77⟩ | exact ⟨rangeAt_blk (b37.alloc _), rangeAt_blk (b77.alloc _)⟩ | exact ⟨rangeAt_blk b3x, rangeAt_blk b7x⟩ | exact ⟨rangeAt_blk (b3x.alloc _), rangeAt_blk (b7x.alloc _)⟩ | exact ⟨rangeAt_blk b3y, rangeAt_blk b7y⟩ | exact ⟨rangeAt_blk (b3y.alloc _), rangeAt_blk (b7y.alloc _)⟩ | exact ⟨rangeAt_blk b3z, rangeAt_blk b7z⟩
          clear hK K
          refine wpAnyH_ready (rs := [9]) (by kernel_rfl) (by simp) ?_
          refine AllReadyH.cons (take_list rfl) (fun K hK => ?_) ?_
          · skip
            refine step_store_piece rfl (.tmp 8) (.tmp 22) rfl (w6.heap.size + 1) rfl rfl (by simp [Value.oneCell', pieceV]) b8y rfl ?_
            intro w12 hB8 ho12
            have b3z := b3u.only ho12 (by omega)
            have b7z := b7u.only ho12 (by omega)
            have b4z := b4u.only ho12 (by omega)
            refine hK.out _ _ ?_ (fun hHeld => ?_)
            · try dsimp only
              first | exact ⟨rangeAt_blk b37, rangeAt_blk b77⟩ | exact ⟨rangeAt_blk (b37.alloc _), rangeAt_blk (b77.alloc _)⟩ | exact ⟨rangeAt_blk b3x, rangeAt_blk b7x⟩ | exact ⟨rangeAt_blk (b3x.alloc _), rangeAt_blk (b7x.alloc _)⟩ | exact ⟨rangeAt_blk b3y, rangeAt_blk b7y⟩ | exact ⟨rangeAt_blk (b3y.alloc _), rangeAt_blk (b7y.alloc _)⟩ | exact ⟨rangeAt_blk b3z, rangeAt_blk b7z⟩
            clear hK K
            refine wpAnyH_done (by kernel_rfl) ?_ _
            clear b3z b7z b3u b7u b4u
            have HS12 := Lib.hid (HS11.out.tail ho12 fun k hk => by omega)
            obtain ⟨J, hJ⟩ : ∃ J, joinG ⟨an, af, al⟩ q = J := ⟨_, rfl⟩
            have HJ := Lib.hid hJ
            have g8 : Blk w12 (w6.heap.size + 1) 71 #[.bool J.null, .int .u64 (J.first : Int), .int .u64 (J.last : Int)] := by rw [← hJ]; exact hB8
            have c0 : w12.cell? ⟨(w6.heap.size + 1), 0, none⟩ = some (.bool J.null) := g8.cell 0
            have f0 := g8.free 0
            have g9 := g8.put 0 (.bool true)
            have k0 : (w12.setCell ⟨(w6.heap.size + 1), 0, none⟩ (.bool true)).cell? ⟨(w6.heap.size + 1), 0, none⟩ = some (.bool true) := g9.cell 0
            have k1 : (w12.setCell ⟨(w6.heap.size + 1), 0, none⟩ (.bool true)).cell? ⟨(w6.heap.size + 1), 1, none⟩ = some (.int .u64 (J.first : Int)) := g9.cell 1
            have k2 : (w12.setCell ⟨(w6.heap.size + 1), 0, none⟩ (.bool true)).cell? ⟨(w6.heap.size + 1), 2, none⟩ = some (.int .u64 (J.last : Int)) := g9.cell 2
            have b4v := b4z.far (p := ⟨(w6.heap.size + 1), 0, none⟩) (by show w.heap.size + 1 ≠ (w6.heap.size + 1); omega) (.bool true)
            have HS13 := Lib.hid (HS12.out.tail ((Only.refl (fun k => k = (w6.heap.size + 1)) w12).setCell (p := ⟨(w6.heap.size + 1), 0, none⟩) (.inl rfl) (.bool true)) fun k hk => by omega)
            clear hB8 ho12 hJ g8 g9 b4z
            go_wp2_with (refine wpList_store_piece rfl (.tmp 6) (.tmp 24) rfl (w.heap.size + 1) rfl rfl (by simp [Value.oneCell']) b4v rfl ?_; intro w14 h14 o14)
            have hS14 := (HS6.out.nest (by omega) HS13.out).tail o14 fun k hk => by omega
            refine bodyPost_ret (v := .agg #[_, _, _]) (results_piece rfl _ _ (w.heap.size + 1) _ #[_, _, _] rfl rfl h14) rfl ⟨?_, hS14.done, hS14.only⟩
            show _ = Ending.returned (pieceV ⟨true, (joinG ⟨an, af, al⟩ q).first, (joinG ⟨an, af, al⟩ q).last⟩)
            rw [HJ.out]
            rfl
          exact AllReadyH.nil
        exact AllReadyH.nil
      exact AllReadyH.nil
    exact AllReadyH.nil
end Go.Proofs.YtgknlegomoaoeaaDoor

/-
  The contract of either. No statement of the seat is proved here.
-/
namespace Go.Proofs.YtgknlegomoaoeaaDoor
open Go Go.RowKit
set_option maxRecDepth 100000

theorem altsG_snoc (l : List Ex) (x : Ex) : ∀ (a : GPc) (L : GLy), altsG (l ++ [x]) a L = (altG (altsG l a L).1 (layG x (altsG l a L).2).1, (layG x (altsG l a L).2).2) := by
  induction l with
  | nil => intro a L; simp [altsG]
  | cons y r ih => intro a L; simp only [List.cons_append, altsG]; exact ih _ _
theorem gres_alt {L M K : GLy} {c d : Nat} {a q : GPc} (h : GRes L c (a, M)) (hq : GRes M d (q, K)) : GRes L (c + d) (altG a q, K) := by
  have h1 := h.len
  have h2 := hq.len
  have h5 := hq.first
  have h6 := hq.last
  dsimp only at h1 h2 h5 h6
  rw [h1] at h5 h6
  refine ⟨hq.ok, by dsimp only; omega, ?_, ?_⟩
  · exact gor_lt (pow_mono h.first (by omega)) (by rw [← Nat.add_assoc]; exact h5)
  · exact gor_lt (pow_mono h.last (by omega)) (by rw [← Nat.add_assoc]; exact h6)
theorem either_facts {S : Nat → Prop} {w w6 W7 : World} {g : Nat} {N : GLy} {an qn : Bool} {af al qf ql : Nat} (HS6 : RowS S w (w.heap.size + 2) w6 g N) (b46 : Blk w6 w.heap.size 71 #[.bool false, .int .u64 0, .int .u64 0]) (b56 : Blk w6 (w.heap.size + 1) 71 #[.bool an, .int .u64 (af : Int), .int .u64 (al : Int)]) (hl6 : w.heap.size + 1 < w6.heap.size)
    (o : Only (fun k => k = w6.heap.size) (w6.alloc (.cells #[.bool false, .int .u64 0, .int .u64 0] 71)) W7) (b87 : Blk W7 w6.heap.size 71 #[.bool qn, .int .u64 (qf : Int), .int .u64 (ql : Int)]) :
    (∀ i, W7.frozen? ⟨w.heap.size + 1, i, none⟩ = false) ∧ W7.cell? ⟨w.heap.size + 1, 0, none⟩ = some (.bool an) ∧ W7.cell? ⟨w.heap.size + 1, 1, none⟩ = some (.int .u64 (af : Int)) ∧ W7.cell? ⟨w6.heap.size, 0, none⟩ = some (.bool qn) ∧
    (∀ v, (W7.setCell ⟨w.heap.size + 1, 0, none⟩ v).cell? ⟨w.heap.size + 1, 1, none⟩ = some (.int .u64 (af : Int))) ∧ (∀ v, (W7.setCell ⟨w.heap.size + 1, 0, none⟩ v).cell? ⟨w6.heap.size, 1, none⟩ = some (.int .u64 (qf : Int))) ∧
    (∀ v u, ((W7.setCell ⟨w.heap.size + 1, 0, none⟩ v).setCell ⟨w.heap.size + 1, 1, none⟩ u).cell? ⟨w.heap.size + 1, 2, none⟩ = some (.int .u64 (al : Int))) ∧ (∀ v u, ((W7.setCell ⟨w.heap.size + 1, 0, none⟩ v).setCell ⟨w.heap.size + 1, 1, none⟩ u).cell? ⟨w6.heap.size, 2, none⟩ = some (.int .u64 (ql : Int))) ∧
    Hid (∀ v u z, Blk (((W7.setCell ⟨w.heap.size + 1, 0, none⟩ v).setCell ⟨w.heap.size + 1, 1, none⟩ u).setCell ⟨w.heap.size + 1, 2, none⟩ z) (w.heap.size + 1) 71 #[v, u, z] ∧ Blk (((W7.setCell ⟨w.heap.size + 1, 0, none⟩ v).setCell ⟨w.heap.size + 1, 1, none⟩ u).setCell ⟨w.heap.size + 1, 2, none⟩ z) w.heap.size 71 #[.bool false, .int .u64 0, .int .u64 0] ∧ RowS S w (w.heap.size + 2) (((W7.setCell ⟨w.heap.size + 1, 0, none⟩ v).setCell ⟨w.heap.size + 1, 1, none⟩ u).setCell ⟨w.heap.size + 1, 2, none⟩ z) g N) := by
  have b57 := (b56.alloc (.cells #[.bool false, .int .u64 0, .int .u64 0] 71)).only o (by omega)
  have b47 := (b46.alloc (.cells #[.bool false, .int .u64 0, .int .u64 0] 71)).only o (by omega)
  have h7 : RowS (Gr2 S (w.heap.size + 2) w6) w6 (w6.heap.size + 1) (w6.alloc (.cells #[.bool false, .int .u64 0, .int .u64 0] 71)) g N := HS6.again (ext_alloc (Below.refl _ _) _) (by simp)
  have hN7 := HS6.nest (by omega) (h7.tail o fun k hk => by omega)
  refine ⟨fun i => b57.free i, b57.cell 0, b57.cell 1, b87.cell 0, fun v => (b57.put 0 v).cell 1, fun v => (b87.far (p := ⟨w.heap.size + 1, 0, none⟩) (by show w6.heap.size ≠ w.heap.size + 1; omega) v).cell 1, fun v u => ((b57.put 0 v).put 1 u).cell 2, fun v u => ((b87.far (p := ⟨w.heap.size + 1, 0, none⟩) (by show w6.heap.size ≠ w.heap.size + 1; omega) v).far (p := ⟨w.heap.size + 1, 1, none⟩) (by show w6.heap.size ≠ w.heap.size + 1; omega) u).cell 2, Lib.hid fun v u z => ⟨((b57.put 0 v).put 1 u).put 2 z, ((b47.far (p := ⟨w.heap.size + 1, 0, none⟩) (by show w.heap.size ≠ w.heap.size + 1; omega) v).far (p := ⟨w.heap.size + 1, 1, none⟩) (by show w.heap.size ≠ w.heap.size + 1; omega) u).far (p := ⟨w.heap.size + 1, 2, none⟩) (by show w.heap.size ≠ w.heap.size + 1; omega) z, hN7.tail (T := fun k => k = w.heap.size + 1) ?_ fun k hk => by omega⟩⟩
  exact (((Only.refl (fun k => k = w.heap.size + 1) W7).setCell (p := ⟨w.heap.size + 1, 0, none⟩) (.inl rfl) v).setCell (p := ⟨w.heap.size + 1, 1, none⟩) (.inl rfl) u).setCell (p := ⟨w.heap.size + 1, 2, none⟩) (.inl rfl) z
set_option maxHeartbeats 8000000 in
theorem geither_any (l : List Ex) (hK : ∀ x ∈ l, LayK x) (hF : ∀ x ∈ l, GFn (cntE x) (fun L => layG x L)) (T S : Nat → Prop) (g : Nat) (L : GLy) (A : Option Addr) (c : Nat) (w : World) (hA : l.length ≤ c ∧ c ≤ maxLen) (hks : Kids T w A l) (hT : ∀ k, T k → k < w.heap.size ∧ ¬ S k) (ht : TabB S w) (hS : LayS S w g L) (hL : GOk L) (hl : L.sets.length + cntL l ≤ 64) :
    Calls Tryd.prog 63 #[.pointer (some ⟨g, 0, none⟩), .slice A l.length c] w (GPost S w g (altsG l ⟨false, 0, 0⟩ L)) := by
  unfold maxLen at hA
  have h0 : GRes L 0 (⟨false, 0, 0⟩, L) := ⟨hL, rfl, Nat.pow_pos (by omega), Nat.pow_pos (by omega)⟩
  have HK := Lib.hid hK
  have HF := Lib.hid hF
  have Hks := Lib.hid hks
  have HT := Lib.hid hT
  have Hl := Lib.hid hl
  have h00 : altsG (l.take 0) ⟨false, 0, 0⟩ L = (⟨false, 0, 0⟩, L) := by simp [altsG]
  have Hend : Hid (altsG (l.take l.length) ⟨false, 0, 0⟩ L = altsG l ⟨false, 0, 0⟩ L) := Lib.hid (by rw [List.take_length])
  obtain ⟨R, hR⟩ : ∃ R, altsG l ⟨false, 0, 0⟩ L = R := ⟨_, rfl⟩
  rw [hR] at Hend ⊢
  have H0 := Lib.hid h0
  have H00 := Lib.hid h00
  obtain ⟨W2, hW2⟩ : ∃ W2, W2 = (w.alloc (.cells #[.bool false, .int .u64 0, .int .u64 0] 71)).alloc (.cells #[.bool false, .int .u64 0, .int .u64 0] 71) := ⟨_, rfl⟩
  have e2 : Below w.heap.size w W2 := by rw [hW2]; exact ext2 w _ _
  have hb4 : Blk W2 w.heap.size 71 #[.bool false, .int .u64 0, .int .u64 0] := by rw [hW2]; exact (blk_at w _ _ rfl).alloc _
  have hb5 : Blk W2 (w.heap.size + 1) 71 (pcs ⟨false, 0, 0⟩) := by rw [hW2]; exact blk_at _ _ _ (by simp)
  have hsz : W2.heap.size = w.heap.size + 2 := by rw [hW2]; simp
  have HS := Lib.hid (RowS.start (b := w.heap.size + 2) ht hS e2 hsz.symm)
  have B4 := Lib.hid hb4
  have B5 := Lib.hid hb5
  clear hK hF hks hT hl h0 h00 hR e2 hb4 hb5 ht hS hL hsz
  go_enter Tryd.func63, Tryd.ntmps63
  go_wp2_with fail
  rw [← hW2]
  clear hW2
  go_loopw [11] (fun i wr => ∃ (j : Nat) (a : GPc) (M : GLy), j ≤ l.length ∧ i = .int .i64 (j : Int) ∧ Hid (altsG (l.take j) ⟨false, 0, 0⟩ L = (a, M)) ∧ Hid (GRes L (cntL (l.take j)) (a, M)) ∧ Hid (Blk wr w.heap.size 71 #[.bool false, .int .u64 0, .int .u64 0]) ∧ Hid (Blk wr (w.heap.size + 1) 71 (pcs a)) ∧ Hid (RowS S w (w.heap.size + 2) wr g M)) (fun i _ => l.length - (intOf i).toNat)
  case atStart => exact ⟨0, ⟨false, 0, 0⟩, L, Nat.zero_le _, rfl, H00, Lib.hid (by simpa [cntL] using H0.out), B4, B5, HS⟩
  case round =>
    obtain ⟨j, a, M, hj, rfl, HR, HG, B4, B5, HS⟩ := hrel
    obtain ⟨an, af, al⟩ := a
    by_cases hlt2 : j < l.length
    · have hji : (j : Int) < (l.length : Int) := by omega
      obtain ⟨g', o, k', q0, q1, q2, q3, ks', A', c', lo', hi', rfl, hx, hr, x0, x1, x2, x3, x4, x5, x6, x7, hsg⟩ := (Hks.out.only HS.out.only fun k hk => (HT.out k hk).2).kidX hlt2
      have hlc := cnt_kid (m := 64 - L.sets.length) (ks := l) (by have := Hl.out; omega) hlt2
      have hlt5 := B5.out.lt
      have h9 := Hl.out
      have hml : M.sets.length = L.sets.length + cntL (l.take j) := HG.out.len
      have hfl : GRes M (cntE l[j]) (layG l[j] M) := HF.out _ (List.getElem_mem hlt2) M HG.out.ok (by omega)
      obtain ⟨q, N, hqK⟩ : ∃ q N, layG l[j] M = (q, N) := ⟨_, _, rfl⟩
      rw [hqK] at hfl
      have hcall : ∀ W, Below wr.heap.size wr W → Calls Tryd.prog 39 #[.pointer (some ⟨g, 0, none⟩), .agg #[.int .i64 k', .int .u64 (q0 : Int), .int .u64 (q1 : Int), .int .u64 (q2 : Int), .int .u64 (q3 : Int), .slice A' ks'.length c', .int .i64 lo', .int .i64 hi']] W (GPost (Gr2 S (w.heap.size + 2) W) W g (q, N)) := fun W hW => by
        have hW' := HS.out.ext hW
        have := HK.out _ (List.getElem_mem hlt2) T _ g M _ W (hr.ext hW) (hW'.apart HT.out) hW'.table hW'.lay HG.out.ok (by omega)
        rw [hqK] at this
        simpa [reV] using this
      have hstep : altsG (l.take (j + 1)) ⟨false, 0, 0⟩ L = (altG ⟨an, af, al⟩ q, N) := by rw [List.take_succ_eq_append_getElem hlt2, altsG_snoc, HR.out]; dsimp only; rw [hqK]
      have hgn : GRes L (cntL (l.take (j + 1))) (altG ⟨an, af, al⟩ q, N) := by rw [cntL_take l j hlt2]; exact gres_alt HG.out hfl
      have hsm := gres_of HG.out hfl (by omega)
      have haf : af < 18446744073709551616 := hsm.2.2.1
      have hal : al < 18446744073709551616 := Nat.lt_of_lt_of_le hsm.1 (pow_le64 hsm.2.2.2.2)
      have hqf : q.first < 18446744073709551616 := Nat.lt_of_lt_of_le hsm.2.1 (pow_le64 hsm.2.2.2.2)
      obtain ⟨qn, qf, ql⟩ := q
      have ho1 := or_key af qf haf hqf
      have ho2 := or_key al ql hal hsm.2.2.2.1
      have Hcall := Lib.hid hcall
      have Hstep := Lib.hid hstep
      have Hgn := Lib.hid hgn
      clear hcall hstep hgn hsm hr hx hqK hfl hlc hml h9
      go_wp2_with fail
      have Hb5 : Hid (Below wr.heap.size wr (wr.alloc (.cells #[.int .i64 k', .int .u64 (q0 : Int), .int .u64 (q1 : Int), .int .u64 (q2 : Int), .int .u64 (q3 : Int), .slice A' ks'.length c', .int .i64 lo', .int .i64 hi'] 27))) := Lib.hid (ext_alloc (Below.refl _ _) _)
      have HS5 : Hid (RowS S w (w.heap.size + 2) (wr.alloc (.cells #[.int .i64 k', .int .u64 (q0 : Int), .int .u64 (q1 : Int), .int .u64 (q2 : Int), .int .u64 (q3 : Int), .slice A' ks'.length c', .int .i64 lo', .int .i64 hi'] 27)) g M) := Lib.hid (HS.out.ext Hb5.out)
      refine (Hcall.out _ Hb5.out).mono ?_
      rintro e w6 hp6
      obtain ⟨rfl, hS6, ho6⟩ := HS5.out.call hp6 (by simp; omega)
      have b46 := (B4.out.ext Hb5.out).only ho6 (HS5.out.out (Nat.le_refl _) (by omega))
      have b56 : Blk w6 (w.heap.size + 1) 71 #[.bool an, .int .u64 (af : Int), .int .u64 (al : Int)] := (B5.out.ext Hb5.out).only ho6 (HS5.out.out (by omega) (by omega))
      clear hp6 ho6
      unfold pieceV
      dsimp only
      have B46 := Lib.hid b46
      have B56 := Lib.hid b56
      have HS6 := Lib.hid hS6
      have hl6 := b56.lt
      clear b46 b56 hS6
      cases an <;> cases qn
      all_goals
        go_wp2_with (refine wpList_store_piece rfl (.tmp 8) (.tmp 17) rfl w6.heap.size rfl rfl (by simp [Value.oneCell']) (Blk.new w6 _ _) rfl ?_; intro W7 b87 o87; obtain ⟨fz, c50, c51, c80, d51, d81, e52, e82, Hend7⟩ := either_facts HS6.out B46.out B56.out hl6 o87 b87; clear b87 o87)
        try simp only [ho1, ho2]
        go_roundw
        case rel => exact ⟨j + 1, altG ⟨_, af, al⟩ ⟨_, qf, ql⟩, N, by omega, by go_num, Hstep, Hgn, Lib.hid (Hend7.out _ _ _).2.1, Lib.hid (Hend7.out _ _ _).1, Lib.hid (Hend7.out _ _ _).2.2⟩
        case measure => simp [intOf]; omega
    · obtain rfl : j = l.length := by omega
      have hRR : (⟨⟨an, af, al⟩, M⟩ : GPc × GLy) = R := HR.out.symm.trans Hend.out
      subst hRR
      have b5 : Blk wr (w.heap.size + 1) 71 #[.bool an, .int .u64 (af : Int), .int .u64 (al : Int)] := B5.out
      have c0 := b5.cell 0
      have c1 := b5.cell 1
      have c2 := b5.cell 2
      go_wp2_with (refine wpList_store_piece rfl (.tmp 4) (.tmp 38) rfl w.heap.size rfl rfl (by simp [Value.oneCell']) B4.out rfl ?_; intro w8 h8 o8)
      have hS8 := HS.out.tail o8 fun k hk => by omega
      exact bodyPost_ret (v := pieceV ⟨an, af, al⟩) (results_piece rfl _ _ w.heap.size _ (pcs ⟨an, af, al⟩) rfl rfl h8) rfl ⟨rfl, hS8.done, hS8.only⟩
end Go.Proofs.YtgknlegomoaoeaaDoor

/-
  The contract of repeat. No statement of the seat is proved here.
-/
namespace Go.Proofs.YtgknlegomoaoeaaDoor
open Go Go.RowKit
set_option maxRecDepth 100000

set_option maxHeartbeats 8000000 in
theorem repeat_hi (x : Ex) (hK : LayK x) (hF : GFn (cntE x) (fun L => layG x L)) (T S : Nat → Prop) (g : Nat) (L : GLy) (s : List Nat) (lo hi : Int) (cs : List Value) (w : World) (hr : ReR T w (.mk 4 s [x] lo hi) cs) (hrep : repB lo hi = true) (hT : ∀ k, T k → k < w.heap.size ∧ ¬ S k) (ht : TabB S w) (hS : LayS S w g L) (hL : GOk L) (hl : L.sets.length + cntE x * timesW lo hi ≤ 64) (hh : hi ≠ -1) :
    Calls Tryd.prog 64 #[.pointer (some ⟨g, 0, none⟩), reV cs] w (GPost S w g (repG (fun L => layG x L) lo hi L)) := by
  rw [reR_iff] at hr
  obtain ⟨⟨hk, hs, hlo, hhi⟩, A, c, rfl, h1, h2, h3⟩ := hr
  obtain ⟨p0, p1, p2, p3, rfl⟩ := four_words hs
  obtain ⟨g', o, k', q0, q1, q2, q3, ks', A', c', lo', hi', rfl, hx, hrx, x0, x1, x2, x3, x4, x5, x6, x7, hsg⟩ := h3.kidX (k := 0) (by simp)
  obtain ⟨kl, hkl⟩ : ∃ kl, ks'.length = kl := ⟨_, rfl⟩
  rw [hkl] at hrx x5
  replace hrx : ReR T w x [.int .i64 k', .int .u64 (q0 : Int), .int .u64 (q1 : Int), .int .u64 (q2 : Int), .int .u64 (q3 : Int), .slice A' kl c', .int .i64 lo', .int .i64 hi'] := hrx
  have hrange : 0 ≤ lo ∧ lo ≤ 32 ∧ (hi = -1 ∨ (1 ≤ hi ∧ hi ≤ 32 ∧ lo ≤ hi)) := by simpa [repB, and_assoc] using hrep
  unfold isInt at hlo hhi
  unfold maxLen at h2
  obtain ⟨W2, hW2⟩ : ∃ W2, W2 = (w.alloc (.cells #[.int .i64 4, .int .u64 (p0 : Int), .int .u64 (p1 : Int), .int .u64 (p2 : Int), .int .u64 (p3 : Int), .slice (some ⟨g', o, none⟩) 1 c, .int .i64 lo, .int .i64 hi] 27)).alloc (.cells #[.bool false, .int .u64 0, .int .u64 0] 71) := ⟨_, rfl⟩
  have e2 : Below w.heap.size w W2 := by rw [hW2]; exact ext2 w _ _
  have mk : ∀ {i : Nat} {v : Value}, w.cell? ⟨g', i, none⟩ = some v → W2.cell? ⟨g', i, none⟩ = some v := fun {i v} h => (World.cell?_of_block (a := ⟨g', i, none⟩) (e2.block _ (World.block_lt_of_cell? w ⟨g', i, none⟩ h))).trans h
  simp only [Nat.zero_mul, Nat.add_zero] at x0 x1 x2 x3 x4 x5 x6 x7
  replace x0 := mk x0
  replace x1 := mk x1
  replace x2 := mk x2
  replace x3 := mk x3
  replace x4 := mk x4
  replace x5 := mk x5
  replace x6 := mk x6
  replace x7 := mk x7
  obtain ⟨W3, hW3⟩ : ∃ W3, W3 = W2.alloc (.cells #[.int .i64 k', .int .u64 (q0 : Int), .int .u64 (q1 : Int), .int .u64 (q2 : Int), .int .u64 (q3 : Int), .slice A' kl c', .int .i64 lo', .int .i64 hi'] 27) := ⟨_, rfl⟩
  have e3 : Below w.heap.size w W3 := by rw [hW3]; exact ext_alloc e2 _
  have hz2 : W2.heap.size = w.heap.size + 2 := by rw [hW2]; simp
  have hz3 : W3.heap.size = w.heap.size + 3 := by rw [hW3, World.size_alloc, hz2]
  have b33 : Blk W3 w.heap.size 27 #[.int .i64 4, .int .u64 (p0 : Int), .int .u64 (p1 : Int), .int .u64 (p2 : Int), .int .u64 (p3 : Int), .slice (some ⟨g', o, none⟩) 1 c, .int .i64 lo, .int .i64 hi] := by rw [hW3, hW2]; exact ((blk_at w _ _ rfl).alloc _).alloc _
  have b43 : Blk W3 (w.heap.size + 1) 71 #[.bool false, .int .u64 0, .int .u64 0] := by rw [hW3, hW2]; exact (blk_at _ _ _ (by simp)).alloc _
  have b53 : Blk W3 (w.heap.size + 1 + 1) 27 #[.int .i64 k', .int .u64 (q0 : Int), .int .u64 (q1 : Int), .int .u64 (q2 : Int), .int .u64 (q3 : Int), .slice A' kl c', .int .i64 lo', .int .i64 hi'] := by rw [hW3]; exact blk_at _ _ _ hz2.symm
  have HS3 := Lib.hid (RowS.start (b := w.heap.size + 3) ht hS e3 hz3.symm)
  have Hr3 := Lib.hid (hrx.ext e3)
  have HT3 := Lib.hid (HS3.out.apart hT)
  obtain ⟨hlo0, hlo32, hhi0⟩ := hrange
  have hhi1 : 1 ≤ hi ∧ hi ≤ 32 ∧ lo ≤ hi := hhi0.resolve_left hh
  rw [timesW_hi hrep hh, Nat.mul_add, Nat.mul_comm (cntE x), Nat.mul_comm (cntE x)] at hl
  have hf1 : GRes L (lo.toNat * cntE x) (copiesG (fun L => layG x L) lo.toNat L) := gfn_copies hF lo.toNat L hL (by omega)
  have hout : repG (fun L => layG x L) lo hi L = thenG (copiesG (fun L => layG x L) lo.toNat L).1 (withinG (fun L => layG x L) (hi - lo).toNat (copiesG (fun L => layG x L) lo.toNat L).2).1 (withinG (fun L => layG x L) (hi - lo).toNat (copiesG (fun L => layG x L) lo.toNat L).2).2 := by unfold repG; rw [if_neg hh]
  have hc1 := gcopies_any x hK hF T (Gr2 S (w.heap.size + 3) W3) g L [.int .i64 k', .int .u64 (q0 : Int), .int .u64 (q1 : Int), .int .u64 (q2 : Int), .int .u64 (q3 : Int), .slice A' kl c', .int .i64 lo', .int .i64 hi'] W3 lo (by omega) (by omega) Hr3.out HT3.out HS3.out.table HS3.out.lay hL (by omega)
  obtain ⟨a, M, hqM⟩ : ∃ a M, copiesG (fun L => layG x L) lo.toNat L = (a, M) := ⟨_, _, rfl⟩
  rw [hqM] at hf1 hout hc1
  have hML := hf1.len
  dsimp only at hML hout
  have hf2 : GRes M ((hi - lo).toNat * cntE x) (withinG (fun L => layG x L) (hi - lo).toNat M) := gfn_within hF _ M hf1.ok (by omega)
  obtain ⟨n, hn⟩ : ∃ n, (hi - lo).toNat = n := ⟨_, rfl⟩
  rw [hn] at hf2 hout hl
  have hsub : hi - lo = (n : Int) := by omega
  have hwr : IntKind.i64.wrap (hi - lo) = (n : Int) := by rw [IntKind.wrap_i64]; omega
  have hwr2 : IntKind.i64.wrap (n : Int) = (n : Int) := by rw [IntKind.wrap_i64]; omega
  obtain ⟨q, N, hqN⟩ : ∃ q N, withinG (fun L => layG x L) n M = (q, N) := ⟨_, _, rfl⟩
  rw [hqN] at hf2 hout
  dsimp only at hout
  have hsm := gres_of hf1 hf2 (by omega)
  rw [hout]
  have hc2 : ∀ (P : Nat → Prop) (W : World), ReR T W x [.int .i64 k', .int .u64 (q0 : Int), .int .u64 (q1 : Int), .int .u64 (q2 : Int), .int .u64 (q3 : Int), .slice A' kl c', .int .i64 lo', .int .i64 hi'] → (∀ k, T k → k < W.heap.size ∧ ¬ P k) → TabB P W → LayS P W g M → Calls Tryd.prog 81 #[.pointer (some ⟨g, 0, none⟩), .agg #[.int .i64 k', .int .u64 (q0 : Int), .int .u64 (q1 : Int), .int .u64 (q2 : Int), .int .u64 (q3 : Int), .slice A' kl c', .int .i64 lo', .int .i64 hi'], .int .i64 (n : Int)] W (GPost P W g (q, N)) := fun P W h1 h2 h3 h4 => by
    have := gwithin_any x hK hF T S g [.int .i64 k', .int .u64 (q0 : Int), .int .u64 (q1 : Int), .int .u64 (q2 : Int), .int .u64 (q3 : Int), .slice A' kl c', .int .i64 lo', .int .i64 hi'] n P M W (by omega) h1 h2 h3 h4 hf1.ok (by omega)
    rw [hqN] at this
    simpa [reV] using this
  have hc1' : Calls Tryd.prog 80 #[.pointer (some ⟨g, 0, none⟩), .agg #[.int .i64 k', .int .u64 (q0 : Int), .int .u64 (q1 : Int), .int .u64 (q2 : Int), .int .u64 (q3 : Int), .slice A' kl c', .int .i64 lo', .int .i64 hi'], .int .i64 lo] W3 (GPost (Gr2 S (w.heap.size + 3) W3) W3 g (a, M)) := by simpa [reV] using hc1
  have hhb : (hi == -1) = false := by simp; omega
  have hhb2 : (hi != -1) = true := by simp; omega
  have Hc1 := Lib.hid hc1'
  have Hc2 := Lib.hid hc2
  have Hsm := Lib.hid hsm
  have HNok := Lib.hid hf2.ok
  have HT := Lib.hid hT
  have B33 := Lib.hid b33
  have B43 := Lib.hid b43
  have B53 := Lib.hid b53
  clear hc1 hc1' hc2 hsm hf1 hf2 hout hqM hqN hML hK hF hrx hsg hx h3 hrep hl hn ht hS hL hT b33 b43 b53 e2 e3 mk hk hs
  obtain ⟨an, af, al⟩ := a
  unfold reV reCells
  show Calls Tryd.prog 64 #[.pointer (some ⟨g, 0, none⟩), .agg #[.int .i64 4, .int .u64 (p0 : Int), .int .u64 (p1 : Int), .int .u64 (p2 : Int), .int .u64 (p3 : Int), .slice (some ⟨g', o, none⟩) 1 c, .int .i64 lo, .int .i64 hi]] w _
  go_enter Tryd.func64, Tryd.ntmps64
  rw [hW2] at x0 x1 x2 x3 x4 x5 x6 x7
  go_wp2_with fail
  rw [← hW2, ← hW3]
  refine Hc1.out.mono ?_
  rintro e w6 hp6
  obtain ⟨rfl, hS6, ho6⟩ := HS3.out.call hp6 (by omega)
  have HS6 := Lib.hid hS6
  have b36 := B33.out.only ho6 (HS3.out.out (Nat.le_refl _) (by omega))
  have b46 := B43.out.only ho6 (HS3.out.out (by omega) (by omega))
  have b56 := B53.out.only ho6 (HS3.out.out (by omega) (by omega))
  have hs6 : w.heap.size + 3 ≤ w6.heap.size := by have := ho6.size; omega
  have HR6 := Lib.hid (Hr3.out.only ho6 fun k hk => (HT3.out k hk).2)
  have HT6 := Lib.hid (hS6.apart HT.out)
  have B36 := Lib.hid b36
  have B46 := Lib.hid b46
  have B56 := Lib.hid b56
  clear hp6 hS6 ho6 hW2 hW3 b36 b46 b56 hz2 hz3 HS3 B33 B43 B53 x0 x1 x2 x3 x4 x5 x6 x7 Hr3 HT3 Hc1
  unfold pieceV
  dsimp only
  go_wp2_with fail
  have e7 : Below w6.heap.size w6 (w6.alloc (.cells #[.bool an, .int .u64 (af : Int), .int .u64 (al : Int)] 71)) := ext_alloc (Below.refl _ _) _
  have b77 : Blk (w6.alloc (.cells #[.bool an, .int .u64 (af : Int), .int .u64 (al : Int)] 71)) w6.heap.size 71 #[.bool an, .int .u64 (af : Int), .int .u64 (al : Int)] := blk_at _ _ _ rfl
  have hs7 : (w6.alloc (.cells #[.bool an, .int .u64 (af : Int), .int .u64 (al : Int)] 71)).heap.size = w6.heap.size + 1 := by simp
  generalize w6.alloc (.cells #[.bool an, .int .u64 (af : Int), .int .u64 (al : Int)] 71) = W7 at *
  have b37 := B36.out.ext e7
  have b47 := B46.out.ext e7
  have b57 := B56.out.ext e7
  have HS7 : Hid (RowS (Gr2 S (w.heap.size + 3) w6) w6 (w6.heap.size + 1) W7.drew g M) := Lib.hid (HS6.out.again (ext_drew e7) hs7.symm)
  have hn3 : ¬ Gr2 S (w.heap.size + 3) w6 w.heap.size := HS6.out.out (Nat.le_refl _) (by omega)
  have hn4 : ¬ Gr2 S (w.heap.size + 3) w6 (w.heap.size + 1) := HS6.out.out (by omega) (by omega)
  have hn5 : ¬ Gr2 S (w.heap.size + 3) w6 (w.heap.size + 1 + 1) := HS6.out.out (by omega) (by omega)
  have E7 := Lib.hid e7
  have hu1 := Tryd.underlying27
  have hu2 := Tryd.underlying71
  have hi1 : (Tryd.prog.info? 27).map (·.size) = some ([.int .i64 k', .int .u64 (q0 : Int), .int .u64 (q1 : Int), .int .u64 (q2 : Int), .int .u64 (q3 : Int), .slice A' kl c', .int .i64 lo', .int .i64 hi'] : List Value).length := by kernel_rfl
  have hi2 : (Tryd.prog.info? 71).map (·.size) = some ([.bool an, .int .u64 (af : Int), .int .u64 (al : Int)] : List Value).length := by kernel_rfl
  clear e7
  refine wp_region_held_drew (S := fun w' => w'.cell? ⟨w.heap.size, 6, none⟩ = some (.int .i64 lo) ∧ w'.cell? ⟨w.heap.size, 7, none⟩ = some (.int .i64 hi) ∧ w'.rangeAt (w.heap.size + 1 + 1) 0 [.int .i64 k', .int .u64 (q0 : Int), .int .u64 (q1 : Int), .int .u64 (q2 : Int), .int .u64 (q3 : Int), .slice A' kl c', .int .i64 lo', .int .i64 hi'] ∧ w'.rangeAt w6.heap.size 0 [.bool an, .int .u64 (af : Int), .int .u64 (al : Int)]) (by kernel_rfl) ?_ (fun hHeld => ?_)
  · first | exact ⟨b37.cell 6, b37.cell 7, rangeAt_blk b57, rangeAt_blk b77⟩ | exact ⟨b3x.cell 6, b3x.cell 7, rangeAt_blk b5x, rangeAt_blk b7x⟩ | exact ⟨b3y.cell 6, b3y.cell 7, rangeAt_blk b5y, rangeAt_blk b7y⟩ | exact ⟨b3z.cell 6, b3z.cell 7, rangeAt_blk b5z, rangeAt_blk b7z⟩
  refine wpAnyH_take (i := 0) (v := ?_) (take_list rfl) (by kernel_rfl) (by kernel_rfl) (by kernel_rfl) (fun _ _ _ h => h) (Or.inl ⟨by rfl, ?_⟩) (by assumption) ?_
  rotate_left
  · intro w hSw
    try dsimp only at hSw
    first | (go_simp; done) | (go_simp; with_reducible rfl)
  try simp only [Act.put, List.setIfInBounds_toArray, List.set_cons_zero, List.set_cons_succ]
  refine wpAnyH_take (i := 2) (v := ?_) (take_list rfl) (by kernel_rfl) (by kernel_rfl) (by kernel_rfl) (fun _ _ _ h => h) (Or.inl ⟨by rfl, ?_⟩) (by assumption) ?_
  rotate_left
  · intro w hSw
    try dsimp only at hSw
    first | (go_simp; done) | (go_simp; with_reducible rfl)
  try simp only [Act.put, List.setIfInBounds_toArray, List.set_cons_zero, List.set_cons_succ]
  refine' wpAnyH_take (i := 3) (v := _) (take_list rfl) (by kernel_rfl) (by kernel_rfl) (by kernel_rfl) (fun _ _ _ h => h) (yieldsIf_load_mid (by rfl) _ _ rfl _ _ rfl _ _ ?hS3 ?hu3 ?hd3 ?hi3) (by assumption) ?rest3
  case hS3 => intro w hSw; (try dsimp only at hSw); go_split_ands; assumption
  case hu3 => assumption
  case hd3 => rfl
  case hi3 => assumption
  try simp only [Act.put, List.setIfInBounds_toArray, List.set_cons_zero, List.set_cons_succ]
  refine' wpAnyH_take (i := 1) (v := _) (take_list rfl) (by kernel_rfl) (by kernel_rfl) (by kernel_rfl) (fun _ _ _ h => h) (yieldsIf_load_mid (by rfl) _ _ rfl _ _ rfl _ _ ?hS1 ?hu1 ?hd1 ?hi1) (by assumption) ?rest1
  case hS1 => intro w hSw; (try dsimp only at hSw); go_split_ands; assumption
  case hu1 => assumption
  case hd1 => rfl
  case hi1 => assumption
  try simp only [Act.put, List.setIfInBounds_toArray, List.set_cons_zero, List.set_cons_succ]
  refine wpAnyH_take (i := 4) (v := ?_) (take_list rfl) (by kernel_rfl) (by kernel_rfl) (by kernel_rfl) (fun _ _ _ h => h) (Or.inl ⟨by rfl, ?_⟩) (by assumption) ?_
  rotate_left
  · intro w hSw
    try dsimp only at hSw
    first | (go_simp; done) | (go_simp; with_reducible rfl)
  try simp only [Act.put, List.setIfInBounds_toArray, List.set_cons_zero, List.set_cons_succ]
  refine wpAnyH_take (i := 5) (v := ?_) (take_list rfl) (by kernel_rfl) (by kernel_rfl) (by kernel_rfl) (fun _ _ _ h => h) (Or.inl ⟨by rfl, ?_⟩) (by assumption) ?_
  rotate_left
  · intro w hSw
    try dsimp only at hSw
    first | (go_simp; done) | (go_simp; with_reducible rfl)
  try simp only [Act.put, List.setIfInBounds_toArray, List.set_cons_zero, List.set_cons_succ]
  refine wpAnyH_take (i := 6) (v := ?_) (take_list rfl) (by kernel_rfl) (by kernel_rfl) (by kernel_rfl) (fun _ _ _ h => h) (Or.inl ⟨by rfl, ?_⟩) (by assumption) ?_
  rotate_left
  · intro w hSw
    try dsimp only at hSw
    first | (go_simp; done) | (go_simp; with_reducible rfl)
  try simp only [Act.put, List.setIfInBounds_toArray, List.set_cons_zero, List.set_cons_succ]
  refine wpAnyH_take (i := 7) (v := ?_) (take_list rfl) (by kernel_rfl) (by kernel_rfl) (by kernel_rfl) (fun _ _ _ h => h) (Or.inl ⟨by rfl, ?_⟩) (by assumption) ?_
  rotate_left
  · intro w hSw
    try dsimp only at hSw
    first | (go_simp; done) | (go_simp; with_reducible rfl)
  try simp only [Act.put, List.setIfInBounds_toArray, List.set_cons_zero, List.set_cons_succ]
  refine wpAnyH_take (i := 8) (v := ?_) (take_list rfl) (by kernel_rfl) (by kernel_rfl) (by kernel_rfl) (fun _ _ _ h => h) (Or.inl ⟨by rfl, ?_⟩) (by assumption) ?_
  rotate_left
  · intro w hSw
    try dsimp only at hSw
    first | (go_simp; done) | (go_simp; with_reducible rfl)
  try simp only [Act.put, List.setIfInBounds_toArray, List.set_cons_zero, List.set_cons_succ]
  refine wpAnyH_ready (rs := [9]) (by kernel_rfl) (by simp) ?_
  refine AllReadyH.cons (take_list rfl) (fun K hK => ?_) ?_
  · skip
    go_simp
    try simp only [hwr, hsub, hwr2]
    refine (Hc2.out _ _ (HR6.out.ext (ext_drew E7.out)) (HS7.out.apart HT6.out) HS7.out.table HS7.out.lay).mono ?_
    rintro e w9 hp9
    obtain ⟨rfl, hS9, ho9⟩ := HS7.out.call hp9 (by show _ ≤ W7.heap.size; omega)
    have HS9 := Lib.hid hS9
    have b3x := Blk.only (w := W7.drew) b37 ho9 (fun hk => hk.elim hn3 (fun h => by omega))
    have b4x := Blk.only (w := W7.drew) b47 ho9 (fun hk => hk.elim hn4 (fun h => by omega))
    have b5x := Blk.only (w := W7.drew) b57 ho9 (fun hk => hk.elim hn5 (fun h => by omega))
    have b7x := Blk.only (w := W7.drew) b77 ho9 (HS7.out.out (Nat.le_refl _) (by omega))
    clear hp9 hS9
    dsimp only
    refine hK.out _ _ ?_ (fun hHeld => ?_)
    · try dsimp only
      first | exact ⟨b37.cell 6, b37.cell 7, rangeAt_blk b57, rangeAt_blk b77⟩ | exact ⟨b3x.cell 6, b3x.cell 7, rangeAt_blk b5x, rangeAt_blk b7x⟩ | exact ⟨b3y.cell 6, b3y.cell 7, rangeAt_blk b5y, rangeAt_blk b7y⟩ | exact ⟨b3z.cell 6, b3z.cell 7, rangeAt_blk b5z, rangeAt_blk b7z⟩
    clear hK K
    refine wpAnyH_ready (rs := [10]) (by kernel_rfl) (by simp) ?_
    refine AllReadyH.cons (take_list rfl) (fun K hK => ?_) ?_
    · skip
      go_simp
      refine (gjoin_any _ g N ⟨an, af, al⟩ q w9 HS9.out.table HS9.out.lay HNok.out Hsm.out.2.2.2.2 Hsm.out.1 Hsm.out.2.1 Hsm.out.2.2.1 Hsm.out.2.2.2.1).mono ?_
      rintro e w10 ⟨rfl, hl10, ho10⟩
      have HS10 := Lib.hid (HS9.out.same hl10 ho10)
      have b3y := Blk.only b3x ho10 (fun hk => hk.elim hn3 (fun h => by omega))
      have b4y := Blk.only b4x ho10 (fun hk => hk.elim hn4 (fun h => by omega))
      have b5y := Blk.only b5x ho10 (fun hk => hk.elim hn5 (fun h => by omega))
      have b7y := Blk.only b7x ho10 (HS9.out.out (Nat.le_refl _) (by omega))
      clear hl10
      dsimp only
      refine hK.out _ _ ?_ (fun hHeld => ?_)
      · try dsimp only
        first | exact ⟨b37.cell 6, b37.cell 7, rangeAt_blk b57, rangeAt_blk b77⟩ | exact ⟨b3x.cell 6, b3x.cell 7, rangeAt_blk b5x, rangeAt_blk b7x⟩ | exact ⟨b3y.cell 6, b3y.cell 7, rangeAt_blk b5y, rangeAt_blk b7y⟩ | exact ⟨b3z.cell 6, b3z.cell 7, rangeAt_blk b5z, rangeAt_blk b7z⟩
      clear hK K
      refine wpAnyH_ready (rs := [11]) (by kernel_rfl) (by simp) ?_
      refine AllReadyH.cons (take_list rfl) (fun K hK => ?_) ?_
      · skip
        refine step_store_piece rfl (.tmp 4) (.tmp 31) rfl (w.heap.size + 1) rfl rfl (by simp [Value.oneCell', pieceV]) b4y rfl ?_
        intro w12 hB8 ho12
        have b3z := b3y.only ho12 (by omega)
        have b5z := b5y.only ho12 (by omega)
        have b7z := b7y.only ho12 (by omega)
        refine hK.out _ _ ?_ (fun hHeld => ?_)
        · try dsimp only
          first | exact ⟨b37.cell 6, b37.cell 7, rangeAt_blk b57, rangeAt_blk b77⟩ | exact ⟨b3x.cell 6, b3x.cell 7, rangeAt_blk b5x, rangeAt_blk b7x⟩ | exact ⟨b3y.cell 6, b3y.cell 7, rangeAt_blk b5y, rangeAt_blk b7y⟩ | exact ⟨b3z.cell 6, b3z.cell 7, rangeAt_blk b5z, rangeAt_blk b7z⟩
        clear hK K
        refine wpAnyH_done (by kernel_rfl) ?_ _
        have hS12 := (HS6.out.nest (by omega) HS10.out).tail ho12 fun k hk => by omega
        go_wp2
        exact bodyPost_ret (v := pieceV (joinG ⟨an, af, al⟩ q)) (results_piece rfl _ _ (w.heap.size + 1) _ (pcs (joinG ⟨an, af, al⟩ q)) rfl rfl hB8) rfl ⟨rfl, hS12.done, hS12.only⟩
      exact AllReadyH.nil
    exact AllReadyH.nil
  exact AllReadyH.nil
end Go.Proofs.YtgknlegomoaoeaaDoor
