/-
  Texts of this claim, joined (part 14): contracts and lemmas that the last text goes by. No statement of the seat is proved here.
-/
import Derived.Test.YtdghbdiapkelnaaAll13
set_option linter.unusedVariables false
set_option linter.unusedSimpArgs false
/-
  The reference's Assign where a leaf is new. No statement of the seat is proved here.
-/
namespace Go.Proofs.Ytdghbdiapkelnaa
open Go Go.RowKit
set_option maxRecDepth 100000

/-- all that was made since the walk began -/
theorem none_only {w0 w1 w2 w3 w6 : World} {S : Nat → Prop} {P : Option Addr} {w00 : World} (hw : w0 = w00) (hP : ∀ k, inA P k → w1.heap.size ≤ k) (hOT : Only S w0 w3) (h1 : Below w0.heap.size w0 w1) (h2 : Below w1.heap.size w1 w2) (h3 : Only S w2 w3) (h6 : Only (fun k => grewS S w2 w3 k ∨ inA P k) w3 w6) : Only S w00 w6 := by
  subst hw
  have s1 := h1.size
  have s2 := h2.size
  refine hOT.trans h6 (fun k hlt hk => ?_)
  rcases hk with (hk | hk) | hk
  · exact hk
  · omega
  · have := hP k hk; omega
theorem none_wide {w0 w1 w2 w3 w6 : World} {S : Nat → Prop} {P : Option Addr} {w00 : World} {g : Nat} {t : Tr} {A R : Option Addr} {c d : Nat} {xs ys : List Value} (hw : w0 = w00) (hP : ∀ k, inA P k → w1.heap.size ≤ k) (h1 : Below w0.heap.size w0 w1) (h2 : Below w1.heap.size w1 w2) (h3 : Only S w2 w3) (h6 : Only (fun k => grewS S w2 w3 k ∨ inA P k) w3 w6)
    (h : RTAt (grewS (fun k => grewS S w2 w3 k ∨ inA P k) w3 w6) w6 g t A c xs R d ys) : RTAt (grewS S w00 w6) w6 g t A c xs R d ys := by
  subst hw
  have s1 := h1.size
  have s2 := h2.size
  have s3 := h3.size
  have s6 := h6.size
  refine h.wider (fun k hk => ?_) (fun k hk => ?_)
  · have hlt := h.lt k hk
    rcases hk with ((hk | hk) | hk) | hk
    · exact .inl hk
    · exact .inr ⟨by omega, hlt⟩
    · have := hP k hk; exact .inr ⟨by omega, hlt⟩
    · exact .inr ⟨by omega, hlt⟩
  · rcases hk with hk | hk
    · exact h.lt k (.inl (.inl (.inl hk)))
    · exact hk.2

section
variable {S T : Nat → Prop} {w w2 w3 W : World} {g : Nat} {t : Tr} {A R A' : Option Addr} {c d c' : Nat} {xs ys : List Value}

set_option maxHeartbeats 16000000 in
theorem rassign_none (h : RTIn S w g t) (hG : Good t) (B : Option Addr) (e2 : Nat) (l : List Tok) (hT : ToksAt w B l) (hBS : ∀ ad, B = some ad → cellsT l ≠ [] → ¬ S ad.block) (hm : l.length ≤ 64) (hl0 : 1 ≤ l.length) (hj : sumT l l.length ≤ 140737488355328) (hf : leafAt t l = none) :
    Calls Try.prog 16 #[.pointer (some ⟨g, 0, none⟩), .slice B l.length e2] w (RAsgd S w g (numT t l).1 (numT t l).2 (varsT t l)) := by
  have hni : numT t l = if t.lv.length = 32 ∨ fullT t = true then (t, 0) else (addT t (ofL l) (t.lv ++ [⟨l.length, keyA l, keyB l, [t.ts.length + 1]⟩]), t.ts.length + 1) := by
    have ho : ¬ overB l = true := by unfold overB; rw [decide_eq_true_eq]; omega
    unfold numT
    rw [if_neg ho, hf]
  have hLI : leafI t l = -1 := by unfold leafI; rw [hf]
  have hids := hG.ids
  have hlvs := hG.lvs
  obtain ⟨w0, hw0⟩ : ∃ w0, w0 = w.alloc (.cells #[.int .i64 0, .slice none 0 0] 31) := ⟨_, rfl⟩
  have hb0 : Below w.heap.size w w0 := by rw [hw0]; exact ext_alloc (Below.refl _ _) _
  have HSl : Hid (∀ k, S k → k < w.heap.size) := Lib.hid h.lt
  have HB0 : Hid (Blk w0 w.heap.size 31 #[.int .i64 0, .slice none 0 0]) := Lib.hid (by rw [hw0]; exact Blk.new _ _ _)
  have hleaf := rleaf_any (h.ext hb0) B e2 l (hT.ext hb0) hm (by omega)
  rw [hLI] at hleaf
  have HLf := Lib.hid hleaf
  have HT := Lib.hid (hT.ext hb0)
  have HBS := Lib.hid hBS
  have HOL : Hid ((ofL l).length ≤ 64 ∧ (ofL l).length = l.length) := Lib.hid (by rw [ofL_len]; exact ⟨hm, rfl⟩)
  obtain ⟨A, c, xs, R, d, ys, h⟩ := h
  have H := Lib.hid (h.ext hb0)
  have hx := (h.ext hb0).blk
  have x0 := hx.cell 0
  have x1 := hx.cell 1
  simp only [List.getElem?_toArray, List.getElem?_cons_zero, List.getElem?_cons_succ] at x0 x1
  rw [hw0] at x0 x1
  have hli : (l.length : Int) ≤ 64 := by omega
  have hli1 : (1 : Int) ≤ (l.length : Int) := by omega
  have hne : ¬ (l.length : Int) = 0 := by omega
  have hneb : ((l.length : Int) == 0) = false := beq_eq_false_iff_ne.2 hne
  have hng : ¬ (64 : Int) < (l.length : Int) := by omega
  have Hw0 := Lib.hid hw0
  have HV : Hid (varsT t l = if (numT t l).2 = 0 then [joinL l] else varsL (tmpl (numT t l).1 (numT t l).2) l) := Lib.hid rfl
  rw [hni] at HV ⊢
  obtain ⟨n1, hn1⟩ : ∃ n1, n1 = t.ts.length + 1 := ⟨_, rfl⟩
  rw [← hn1] at x0
  have hn1i : (n1 : Int) ≤ 64 := by omega
  obtain ⟨n2, hn2⟩ : ∃ n2, n2 = t.lv.length := ⟨_, rfl⟩
  rw [← hn2] at x1
  have hn2i : (n2 : Int) ≤ 32 := by omega
  have Hn1 := Lib.hid hn1
  have Hn2 := Lib.hid hn2
  have hft : fullT t = true ↔ 64 ≤ n1 := by unfold fullT; rw [decide_eq_true_eq]; omega
  by_cases hcase : t.lv.length = 32 ∨ fullT t = true
  · rw [if_pos hcase] at HV ⊢
    dsimp only at HV ⊢
    rw [if_pos rfl] at HV
    rw [HV.out]
    have HRv : Hid (∀ W, Below w0.heap.size w0 W → Calls Try.prog 36 #[.slice B l.length e2] W (RSaid 0 [joinL l] W)) := Lib.hid (fun W hW => rover_any B e2 l W (HT.out.ext hW) (by omega) hj)
    have HOut : Hid (∀ W, Below w0.heap.size w0 W → RTIn (grewS S (w.alloc (.cells #[.int .i64 0, .slice none 0 0] 31)) W) W g t ∧ Only S (w.alloc (.cells #[.int .i64 0, .slice none 0 0] 31)) W) := Lib.hid (fun W hW => by
      rw [← Hw0.out]
      refine ⟨⟨A, c, xs, R, d, ys, (H.out.ext hW).wider (fun k hk => .inl hk) (fun k hk => ?_)⟩, Only.of_ext hW⟩
      rcases hk with hk | hk
      · exact (H.out.ext hW).lt k hk
      · exact hk.2)
    clear hleaf h hx hT hBS hG hni hLI hf hb0 hw0 hj hids hlvs
    by_cases h64 : 64 ≤ n1
    · have h64i : (64 : Int) ≤ (n1 : Int) := by omega
      clear hcase hft
      go_enter Try.func16, Try.ntmps16
      go_wp2_with fail
      rw [← Hw0.out]
      refine HLf.out.mono ?_
      rintro e w1 ⟨rfl, hb1⟩
      have HT1 := Lib.hid (HOut.out w1 hb1).1
      have HO1 := Lib.hid (HOut.out w1 hb1).2
      have HB1 := Lib.hid (HB0.out.ext hb1)
      have HR1 := Lib.hid (HRv.out w1 hb1)
      clear x0 x1
      go_wp2_with fail
      refine HR1.out.mono ?_
      rintro e w8 ⟨V, cv, rfl, hN⟩
      have HN := Lib.hid hN
      have hX := HB1.out.ext hN.bel
      clear hN
      have k0 := hX.cell 0
      have k1 := hX.cell 1
      have f0 := hX.free 0
      have f1 := hX.free 1
      simp only [List.getElem?_toArray, List.getElem?_cons_zero, List.getElem?_cons_succ] at k0 k1
      have hY := hX.put 0 (.int .i64 0)
      have m0 := (hY.put 1 (.slice V 1 cv)).cell 0
      have m1 := (hY.put 1 (.slice V 1 cv)).cell 1
      have m2 := hY.cell 0
      simp only [List.getElem?_toArray, List.setIfInBounds_toArray, List.set_cons_zero, List.set_cons_succ, List.getElem?_cons_zero, List.getElem?_cons_succ] at m0 m1 m2
      clear hY hX
      go_wp2
      refine bodyPost_ret (v := .agg #[(.int .i64 0), (.slice V 1 cv)]) (by simp [results, Try.results16, go_sem, m0, m1, m2]) rfl ?_
      exact rasgd_end (id := 0) (vs := [joinL l]) HSl.out HT1.out HO1.out HN.out _ _ 0 rfl
    · have h64i : ¬ (64 : Int) ≤ (n1 : Int) := by omega
      have h32 : n2 = 32 := by
        rcases hcase with h | h
        · rw [hn2]; exact h
        · exact absurd (hft.1 h) h64
      have h32i : (32 : Int) ≤ (n2 : Int) := by omega
      clear hcase hft h32 h64 hn1 hn2
      go_enter Try.func16, Try.ntmps16
      go_wp2_with fail
      rw [← Hw0.out]
      refine HLf.out.mono ?_
      rintro e w1 ⟨rfl, hb1⟩
      have HT1 := Lib.hid (HOut.out w1 hb1).1
      have HO1 := Lib.hid (HOut.out w1 hb1).2
      have HB1 := Lib.hid (HB0.out.ext hb1)
      have HR1 := Lib.hid (HRv.out w1 hb1)
      have y1 := (H.out.ext hb1).blk.cell 1
      simp only [List.getElem?_toArray, List.getElem?_cons_zero, List.getElem?_cons_succ] at y1
      rw [← Hn2.out] at y1
      clear x0 x1
      go_wp2_with fail
      refine HR1.out.mono ?_
      rintro e w8 ⟨V, cv, rfl, hN⟩
      have HN := Lib.hid hN
      have hX := HB1.out.ext hN.bel
      clear hN
      have k0 := hX.cell 0
      have k1 := hX.cell 1
      have f0 := hX.free 0
      have f1 := hX.free 1
      simp only [List.getElem?_toArray, List.getElem?_cons_zero, List.getElem?_cons_succ] at k0 k1
      have hY := hX.put 0 (.int .i64 0)
      have m0 := (hY.put 1 (.slice V 1 cv)).cell 0
      have m1 := (hY.put 1 (.slice V 1 cv)).cell 1
      have m2 := hY.cell 0
      simp only [List.getElem?_toArray, List.setIfInBounds_toArray, List.set_cons_zero, List.set_cons_succ, List.getElem?_cons_zero, List.getElem?_cons_succ] at m0 m1 m2
      clear hY hX
      go_wp2
      refine bodyPost_ret (v := .agg #[(.int .i64 0), (.slice V 1 cv)]) (by simp [results, Try.results16, go_sem, m0, m1, m2]) rfl ?_
      exact rasgd_end (id := 0) (vs := [joinL l]) HSl.out HT1.out HO1.out HN.out _ _ 0 rfl
  · rw [if_neg hcase] at HV ⊢
    dsimp only at HV ⊢
    rw [if_neg (Nat.succ_ne_zero _)] at HV
    have htm : tmpl (addT t (ofL l) (t.lv ++ [⟨l.length, keyA l, keyB l, [t.ts.length + 1]⟩])) (t.ts.length + 1) = ofL l := tmpl_new _ _ _
    rw [htm] at HV
    rw [HV.out]
    have h64 : ¬ 64 ≤ n1 := fun h => hcase (.inr (hft.2 h))
    have h32 : ¬ n2 = 32 := fun h => hcase (.inl (by rw [← hn2]; exact h))
    have h64i : ¬ (64 : Int) ≤ (n1 : Int) := by omega
    have h32i : ¬ (32 : Int) ≤ (n2 : Int) := by omega
    have hp1 : t.lv.length + 1 ≤ maxLen := by unfold maxLen; omega
    have hp2 : (t.lv.length + 1) * 64 ≤ 140737488355328 := by omega
    have HIds : Hid (t.ts.length ≤ 62) := Lib.hid (by omega)
    clear hleaf h hx hT hBS hG hni hLI hf hb0 hw0 hj hids hlvs hcase hft h64 h32 htm hn1 hn2
    go_enter Try.func16, Try.ntmps16
    go_wp2_with fail
    rw [← Hw0.out]
    refine HLf.out.mono ?_
    rintro e w1 ⟨rfl, hb1⟩
    have Hb1 := Lib.hid hb1
    have H1 := Lib.hid (H.out.ext hb1)
    have y1 := H1.out.blk.cell 1
    simp only [List.getElem?_toArray, List.getElem?_cons_zero, List.getElem?_cons_succ] at y1
    rw [← Hn2.out] at y1
    have HOf := Lib.hid (rof_any B _ e2 l w1 rfl (HT.out.ext hb1) (by omega))
    clear x0 x1 hb1
    go_wp2_with fail
    refine HOf.out.mono ?_
    rintro e w2 ⟨P, eP, rfl, hP⟩
    have Hb2 := Lib.hid hP.bel
    have HPr := Lib.hid hP.row
    have HPn : Hid (∀ k, inA P k → w1.heap.size ≤ k) := Lib.hid hP.2.2
    have H2 := Lib.hid (H1.out.ext hP.bel)
    have HLay := Lib.hid (rlay_any H2.out (by have := HIds.out; omega) HPr.out)
    clear hP y1 HOf
    go_wp2_with fail
    refine HLay.out.mono ?_
    rintro e w3 ⟨rfl, ⟨A3, c3, h3⟩, ho3⟩
    have H3 := Lib.hid h3
    have HO3 := Lib.hid ho3
    have hOT : Only S w0 w3 := (Only.of_ext (S := S) (ext_trans Hb1.out Hb2.out)).trans ho3 (fun _ _ h => h)
    have HOT := Lib.hid hOT
    have HT3 : Hid (ToksAt w3 B l) := Lib.hid ⟨HT.out.rd.only hOT HBS.out, HT.out.flat⟩
    have HB3 := Lib.hid (HB0.out.only hOT (fun hx => absurd (HSl.out _ hx) (Nat.lt_irrefl _)))
    have y1 := h3.blk.cell 1
    simp only [List.getElem?_toArray, List.getElem?_cons_zero, List.getElem?_cons_succ] at y1
    have HY1 : Hid (∀ W, Below w3.heap.size w3 W → W.cell? ⟨g, 1, none⟩ = some (.slice R t.lv.length d)) := Lib.hid (fun W hW => cell_only y1 (Only.of_ext (S := fun _ => False) hW) (fun h => h))
    obtain ⟨KA, hKA, -⟩ := str_hide (keyA l)
    obtain ⟨KB, hKB, -⟩ := str_hide (keyB l)
    have HKA := Lib.hid hKA
    have HKB := Lib.hid hKB
    have HK0 : Hid (∀ W, Below w3.heap.size w3 W → Calls Try.prog 40 #[.slice B l.length e2, .int .i64 0] W fun e w' => e = .returned (.string KA) ∧ w' = W) := Lib.hid (fun W hW => by rw [← HKA.out]; exact rkeyA B e2 l W (HT3.out.ext hW) (by omega))
    have HK1 : Hid (∀ W, Below w3.heap.size w3 W → Calls Try.prog 40 #[.slice B l.length e2, .int .i64 1] W fun e w' => e = .returned (.string KB) ∧ w' = W) := Lib.hid (fun W hW => by rw [← HKB.out]; exact rkeyB B e2 l W (HT3.out.ext hW) (by omega))
    have hIdE : ((t.ts.length : Int) + 1) = ((t.ts.length + 1 : Nat) : Int) := by omega
    rw [hIdE]
    obtain ⟨id, hid⟩ : ∃ id, id = t.ts.length + 1 := ⟨_, rfl⟩
    have Hid_ := Lib.hid hid
    rw [← hid]
    clear h3 ho3 hOT y1 hKA hKB hIdE hid HLay
    go_wp2_with fail
    refine wp_region_held_drew (S := fun _ => True) (by kernel_rfl) ?_ (fun hHeld => ?_)
    · try trivial
    refine wpAnyH_take (i := 0) (v := ?_) (take_list rfl) (by kernel_rfl) (by kernel_rfl) (by kernel_rfl) (fun _ _ _ h => h) (Or.inl ⟨by rfl, ?_⟩) (by assumption) ?_
    rotate_left
    · intro w hSw
      try dsimp only at hSw
      first | (go_simp; done) | (go_simp; with_reducible rfl)
    try simp only [Act.put, List.setIfInBounds_toArray, List.set_cons_zero, List.set_cons_succ]
    refine wpAnyH_take (i := 1) (v := ?_) (take_list rfl) (by kernel_rfl) (by kernel_rfl) (by kernel_rfl) (fun _ _ _ h => h) (Or.inl ⟨by rfl, ?_⟩) (by assumption) ?_
    rotate_left
    · intro w hSw
      try dsimp only at hSw
      first | (go_simp; done) | (go_simp; with_reducible rfl)
    try simp only [Act.put, List.setIfInBounds_toArray, List.set_cons_zero, List.set_cons_succ]
    refine wpAnyH_take (i := 2) (v := ?_) (take_list rfl) (by kernel_rfl) (by kernel_rfl) (by kernel_rfl) (fun _ _ _ h => h) (Or.inl ⟨by rfl, ?_⟩) (by assumption) ?_
    rotate_left
    · intro w hSw
      try dsimp only at hSw
      first | (go_simp; done) | (go_simp; with_reducible rfl)
    try simp only [Act.put, List.setIfInBounds_toArray, List.set_cons_zero, List.set_cons_succ]
    refine wpAnyH_take (i := 3) (v := ?_) (take_list rfl) (by kernel_rfl) (by kernel_rfl) (by kernel_rfl) (fun _ _ _ h => h) (Or.inl ⟨by rfl, ?_⟩) (by assumption) ?_
    rotate_left
    · intro w hSw
      try dsimp only at hSw
      first | (go_simp; done) | (go_simp; with_reducible rfl)
    try simp only [Act.put, List.setIfInBounds_toArray, List.set_cons_zero, List.set_cons_succ]
    refine wpAnyH_take (i := 5) (v := ?_) (take_list rfl) (by kernel_rfl) (by kernel_rfl) (by kernel_rfl) (fun _ _ _ h => h) (Or.inl ⟨by rfl, ?_⟩) (by assumption) ?_
    rotate_left
    · intro w hSw
      try dsimp only at hSw
      first | (go_simp; done) | (go_simp; with_reducible rfl)
    try simp only [Act.put, List.setIfInBounds_toArray, List.set_cons_zero, List.set_cons_succ]
    refine wpAnyH_take (i := 6) (v := ?_) (take_list rfl) (by kernel_rfl) (by kernel_rfl) (by kernel_rfl) (fun _ _ _ h => h) (Or.inl ⟨by rfl, ?_⟩) (by assumption) ?_
    rotate_left
    · intro w hSw
      try dsimp only at hSw
      first | (go_simp; done) | (go_simp; with_reducible rfl)
    try simp only [Act.put, List.setIfInBounds_toArray, List.set_cons_zero, List.set_cons_succ]
    refine wpAnyH_take (i := 7) (v := ?_) (take_list rfl) (by kernel_rfl) (by kernel_rfl) (by kernel_rfl) (fun _ _ _ h => h) (Or.inl ⟨by rfl, ?_⟩) (by assumption) ?_
    rotate_left
    · intro w hSw
      try dsimp only at hSw
      first | (go_simp; done) | (go_simp; with_reducible rfl)
    try simp only [Act.put, List.setIfInBounds_toArray, List.set_cons_zero, List.set_cons_succ]
    refine wpAnyH_take (i := 9) (v := ?_) (take_list rfl) (by kernel_rfl) (by kernel_rfl) (by kernel_rfl) (fun _ _ _ h => h) (Or.inl ⟨by rfl, ?_⟩) (by assumption) ?_
    rotate_left
    · intro w hSw
      try dsimp only at hSw
      first | (go_simp; done) | (go_simp; with_reducible rfl)
    try simp only [Act.put, List.setIfInBounds_toArray, List.set_cons_zero, List.set_cons_succ]
    refine wpAnyH_take (i := 11) (v := ?_) (take_list rfl) (by kernel_rfl) (by kernel_rfl) (by kernel_rfl) (fun _ _ _ h => h) (Or.inl ⟨by rfl, ?_⟩) (by assumption) ?_
    rotate_left
    · intro w hSw
      try dsimp only at hSw
      first | (go_simp; done) | (go_simp; with_reducible rfl)
    try simp only [Act.put, List.setIfInBounds_toArray, List.set_cons_zero, List.set_cons_succ]
    refine wpAnyH_ready (rs := [4, 8, 12]) (by kernel_rfl) (by simp) ?_
    refine AllReadyH.cons (take_list rfl) (fun K hK => ?_) ?_
    · skip
      have ql := HY1.out (w3.drew) (by repeat (first | exact Below.refl _ _ | apply ext_drew | apply ext_drewN | apply ext_alloc))
      go_simp
      clear ql
      refine hK.out _ _ ?_ (fun hHeld => ?_)
      · try dsimp only
        try trivial
      clear hK K
      refine wpAnyH_ready (rs := [8, 12]) (by kernel_rfl) (by simp) ?_
      refine AllReadyH.cons (take_list rfl) (fun K hK => ?_) ?_
      · skip
        go_simp
        refine (HK0.out _ (by repeat (first | exact Below.refl _ _ | apply ext_drew | apply ext_drewN | apply ext_alloc))).mono ?_
        rintro e x1 ⟨rfl, hx1⟩
        have hx1 := hx1.symm
        subst hx1
        dsimp only
        refine hK.out _ _ ?_ (fun hHeld => ?_)
        · try dsimp only
          try trivial
        clear hK K
        refine wpAnyH_ready (rs := [10, 12]) (by kernel_rfl) (by simp) ?_
        refine AllReadyH.cons (take_list rfl) (fun K hK => ?_) ?_
        · skip
          go_simp
          refine (HK1.out _ (by repeat (first | exact Below.refl _ _ | apply ext_drew | apply ext_drewN | apply ext_alloc))).mono ?_
          rintro e x1 ⟨rfl, hx1⟩
          have hx1 := hx1.symm
          subst hx1
          dsimp only
          refine hK.out _ _ ?_ (fun hHeld => ?_)
          · try dsimp only
            try trivial
          clear hK K
          refine wpAnyH_ready (rs := [12]) (by kernel_rfl) (by simp) ?_
          refine AllReadyH.cons (take_list rfl) (fun K hK => ?_) ?_
          · skip
            go_simp
            refine hK.out _ _ ?_ (fun hHeld => ?_)
            · try dsimp only
              try trivial
            clear hK K
            refine wpAnyH_take (i := 13) (v := ?_) (take_list rfl) (by kernel_rfl) (by kernel_rfl) (by kernel_rfl) (fun _ _ _ h => h) (Or.inl ⟨by rfl, ?_⟩) (by assumption) ?_
            rotate_left
            · intro w hSw
              try dsimp only at hSw
              first | (go_simp; done) | (go_simp; with_reducible rfl)
            try simp only [Act.put, List.setIfInBounds_toArray, List.set_cons_zero, List.set_cons_succ]
            refine wpAnyH_ready (rs := [14]) (by kernel_rfl) (by simp) ?_
            refine AllReadyH.cons (take_list rfl) (fun K hK => ?_) ?_
            · skip
              go_simp
              refine hK.out _ _ ?_ (fun hHeld => ?_)
              · try dsimp only
                try trivial
              clear hK K
              refine wpAnyH_ready (rs := [15]) (by kernel_rfl) (by simp) ?_
              refine AllReadyH.cons (take_list rfl) (fun K hK => ?_) ?_
              · skip
                refine step_appO _ rfl (.tmp 56) (.tmp 66) _ rfl 84 _ 4 64 Try.underlying73 info_rleaf rfl R t.lv.length d ys rfl (H3.out.rows.ext (by repeat (first | exact Below.refl _ _ | apply ext_drew | apply ext_drewN | apply ext_alloc))) (some ⟨_, 0, none⟩) 1 1 [.int .i64 (l.length : Int), .string KA, .string KB, .slice (some ⟨w3.heap.size, 0, none⟩) 1 1] rfl rfl (by repeat (first | exact Rd.lit_at _ #[.int .i64 (l.length : Int), .string KA, .string KB, .slice (some ⟨w3.heap.size, 0, none⟩) 1 1] _ (by first | rfl | (simp [World.size_alloc]; done)) | apply Rd.drew | apply Rd.alloc)) (by intro u hu; simp at hu; rcases hu with rfl | rfl | rfl | rfl <;> rfl) (by intro h; cases h) hp1 hp2 ?_
                intro A5 c5 w5 hr5 ho5 hA5
                rw [← HKA.out, ← HKB.out] at hr5
                obtain ⟨hT6, hO6, hB5⟩ := H3.out.grown (cnt := l.length) (id := id) (gG := w3.heap.size) (by repeat (first | exact Below.refl _ _ | apply ext_drew | apply ext_drewN | apply ext_alloc)) (by repeat (first | exact RowO.lit _ 3 1 1 #[.int .i64 (id : Int)] rfl (Nat.le_of_ble_eq_true rfl) (by first | rfl | (simp; done)) | apply RowO.drew | apply RowO.alloc)) (Nat.le_refl _) hr5 ho5 hA5
                have q1 := hB5.cell 1
                have f1 := hB5.free 1
                simp only [List.getElem?_toArray, List.getElem?_cons_zero, List.getElem?_cons_succ] at q1
                have HT6 := Lib.hid hT6
                have HO6 := Lib.hid hO6
                clear hr5 ho5 hA5 hT6 hO6 hB5
                refine hK.out _ _ ?_ (fun hHeld => ?_)
                · try dsimp only
                  try trivial
                clear hK K
                refine wpAnyH_take (i := 16) (v := ?_) (take_list rfl) (by kernel_rfl) (by kernel_rfl) (by kernel_rfl) (fun _ _ _ h => h) (Or.inl ⟨by rfl, ?_⟩) (by assumption) ?_
                rotate_left
                · intro w hSw
                  try dsimp only at hSw
                  first | (go_simp; done) | (go_simp; with_reducible rfl)
                try simp only [Act.put, List.setIfInBounds_toArray, List.set_cons_zero, List.set_cons_succ]
                refine wpAnyH_take (i := 17) (v := ?_) (take_list rfl) (by kernel_rfl) (by kernel_rfl) (by kernel_rfl) (fun _ _ _ h => h) (Or.inl ⟨by rfl, ?_⟩) (by assumption) ?_
                rotate_left
                · intro w hSw
                  try dsimp only at hSw
                  first | (go_simp; done) | (go_simp; with_reducible rfl)
                try simp only [Act.put, List.setIfInBounds_toArray, List.set_cons_zero, List.set_cons_succ]
                refine wpAnyH_ready (rs := [18]) (by kernel_rfl) (by simp) ?_
                refine AllReadyH.cons (take_list rfl) (fun K hK => ?_) ?_
                · skip
                  go_simp
                  refine hK.out _ _ ?_ (fun hHeld => ?_)
                  · try dsimp only
                    try trivial
                  clear hK K
                  refine wpAnyH_done (by kernel_rfl) ?_ _
                  have HT7 := Lib.hid (HT6.out)
                  have hT7 : RTIn (grewS S (w.alloc (.cells #[.int .i64 0, .slice none 0 0] 31)) (w5.setCell ⟨g, 1, none⟩ (.slice A5 (t.lv.length + 1) c5))) (w5.setCell ⟨g, 1, none⟩ (.slice A5 (t.lv.length + 1) c5)) g (addT t (ofL l) (t.lv ++ [⟨l.length, keyA l, keyB l, [id]⟩])) := ⟨_, _, _, _, _, _, none_wide Hw0.out HPn.out Hb1.out Hb2.out HO3.out HO6.out HT7.out⟩
                  have HT8 := Lib.hid hT7
                  have HO8 : Hid (Only S (w.alloc (.cells #[.int .i64 0, .slice none 0 0] 31)) (w5.setCell ⟨g, 1, none⟩ (.slice A5 (t.lv.length + 1) c5))) := Lib.hid (none_only Hw0.out HPn.out HOT.out Hb1.out Hb2.out HO3.out HO6.out)
                  have HTo := Lib.hid (told_any hT7 B e2 l ⟨HT.out.rd.only (Hw0.out ▸ HO8.out) HBS.out, HT.out.flat⟩ (by omega) (id := id) (by rw [Hid_.out]; unfold addT; simp) (by have := HIds.out; unfold addT; simp; omega) (by rw [Hid_.out]; have := HOL.out; have e := tmpl_new t (ofL l) (t.lv ++ [⟨l.length, keyA l, keyB l, [t.ts.length + 1]⟩]); rw [e]; omega))
                  have htm : tmpl (addT t (ofL l) (t.lv ++ [⟨l.length, keyA l, keyB l, [id]⟩])) id = ofL l := by rw [Hid_.out]; exact tmpl_new _ _ _
                  rw [htm] at HTo
                  have HB8 := Lib.hid (HB0.out.only (Hw0.out ▸ HO8.out) (fun hx => absurd (HSl.out _ hx) (Nat.lt_irrefl _)))
                  clear hT7 htm q1 f1
                  go_wp2_with fail
                  refine HTo.out.mono ?_
                  rintro e w8 ⟨V, cv, rfl, hN⟩
                  have HN := Lib.hid hN
                  have hX := HB8.out.ext hN.bel
                  clear hN
                  have k0 := hX.cell 0
                  have k1 := hX.cell 1
                  have f0 := hX.free 0
                  have f1 := hX.free 1
                  simp only [List.getElem?_toArray, List.getElem?_cons_zero, List.getElem?_cons_succ] at k0 k1
                  have hY := hX.put 0 (.int .i64 (id : Int))
                  have m0 := (hY.put 1 (.slice V (varsL (ofL l) l).length cv)).cell 0
                  have m1 := (hY.put 1 (.slice V (varsL (ofL l) l).length cv)).cell 1
                  have m2 := hY.cell 0
                  simp only [List.getElem?_toArray, List.setIfInBounds_toArray, List.set_cons_zero, List.set_cons_succ, List.getElem?_cons_zero, List.getElem?_cons_succ] at m0 m1 m2
                  clear hY hX
                  go_wp2
                  refine bodyPost_ret (v := .agg #[(.int .i64 (id : Int)), (.slice V (varsL (ofL l) l).length cv)]) (by simp [results, Try.results16, go_sem, m0, m1, m2]) rfl ?_
                  rw [← Hid_.out]
                  exact rasgd_end (id := id) HSl.out HT8.out HO8.out HN.out _ _ _ rfl
                exact AllReadyH.nil
              exact AllReadyH.nil
            exact AllReadyH.nil
          exact AllReadyH.nil
        refine AllReadyH.cons (take_list rfl) (fun K hK => ?_) ?_
        · skip
          go_simp
          refine hK.out _ _ ?_ (fun hHeld => ?_)
          · try dsimp only
            try trivial
          clear hK K
          refine wpAnyH_ready (rs := [10]) (by kernel_rfl) (by simp) ?_
          refine AllReadyH.cons (take_list rfl) (fun K hK => ?_) ?_
          · skip
            go_simp
            refine (HK1.out _ (by repeat (first | exact Below.refl _ _ | apply ext_drew | apply ext_drewN | apply ext_alloc))).mono ?_
            rintro e x1 ⟨rfl, hx1⟩
            have hx1 := hx1.symm
            subst hx1
            dsimp only
            refine hK.out _ _ ?_ (fun hHeld => ?_)
            · try dsimp only
              try trivial
            clear hK K
            refine wpAnyH_take (i := 13) (v := ?_) (take_list rfl) (by kernel_rfl) (by kernel_rfl) (by kernel_rfl) (fun _ _ _ h => h) (Or.inl ⟨by rfl, ?_⟩) (by assumption) ?_
            rotate_left
            · intro w hSw
              try dsimp only at hSw
              first | (go_simp; done) | (go_simp; with_reducible rfl)
            try simp only [Act.put, List.setIfInBounds_toArray, List.set_cons_zero, List.set_cons_succ]
            refine wpAnyH_ready (rs := [14]) (by kernel_rfl) (by simp) ?_
            refine AllReadyH.cons (take_list rfl) (fun K hK => ?_) ?_
            · skip
              go_simp
              refine hK.out _ _ ?_ (fun hHeld => ?_)
              · try dsimp only
                try trivial
              clear hK K
              refine wpAnyH_ready (rs := [15]) (by kernel_rfl) (by simp) ?_
              refine AllReadyH.cons (take_list rfl) (fun K hK => ?_) ?_
              · skip
                refine step_appO _ rfl (.tmp 56) (.tmp 66) _ rfl 84 _ 4 64 Try.underlying73 info_rleaf rfl R t.lv.length d ys rfl (H3.out.rows.ext (by repeat (first | exact Below.refl _ _ | apply ext_drew | apply ext_drewN | apply ext_alloc))) (some ⟨_, 0, none⟩) 1 1 [.int .i64 (l.length : Int), .string KA, .string KB, .slice (some ⟨w3.heap.size, 0, none⟩) 1 1] rfl rfl (by repeat (first | exact Rd.lit_at _ #[.int .i64 (l.length : Int), .string KA, .string KB, .slice (some ⟨w3.heap.size, 0, none⟩) 1 1] _ (by first | rfl | (simp [World.size_alloc]; done)) | apply Rd.drew | apply Rd.alloc)) (by intro u hu; simp at hu; rcases hu with rfl | rfl | rfl | rfl <;> rfl) (by intro h; cases h) hp1 hp2 ?_
                intro A5 c5 w5 hr5 ho5 hA5
                rw [← HKA.out, ← HKB.out] at hr5
                obtain ⟨hT6, hO6, hB5⟩ := H3.out.grown (cnt := l.length) (id := id) (gG := w3.heap.size) (by repeat (first | exact Below.refl _ _ | apply ext_drew | apply ext_drewN | apply ext_alloc)) (by repeat (first | exact RowO.lit _ 3 1 1 #[.int .i64 (id : Int)] rfl (Nat.le_of_ble_eq_true rfl) (by first | rfl | (simp; done)) | apply RowO.drew | apply RowO.alloc)) (Nat.le_refl _) hr5 ho5 hA5
                have q1 := hB5.cell 1
                have f1 := hB5.free 1
                simp only [List.getElem?_toArray, List.getElem?_cons_zero, List.getElem?_cons_succ] at q1
                have HT6 := Lib.hid hT6
                have HO6 := Lib.hid hO6
                clear hr5 ho5 hA5 hT6 hO6 hB5
                refine hK.out _ _ ?_ (fun hHeld => ?_)
                · try dsimp only
                  try trivial
                clear hK K
                refine wpAnyH_take (i := 16) (v := ?_) (take_list rfl) (by kernel_rfl) (by kernel_rfl) (by kernel_rfl) (fun _ _ _ h => h) (Or.inl ⟨by rfl, ?_⟩) (by assumption) ?_
                rotate_left
                · intro w hSw
                  try dsimp only at hSw
                  first | (go_simp; done) | (go_simp; with_reducible rfl)
                try simp only [Act.put, List.setIfInBounds_toArray, List.set_cons_zero, List.set_cons_succ]
                refine wpAnyH_take (i := 17) (v := ?_) (take_list rfl) (by kernel_rfl) (by kernel_rfl) (by kernel_rfl) (fun _ _ _ h => h) (Or.inl ⟨by rfl, ?_⟩) (by assumption) ?_
                rotate_left
                · intro w hSw
                  try dsimp only at hSw
                  first | (go_simp; done) | (go_simp; with_reducible rfl)
                try simp only [Act.put, List.setIfInBounds_toArray, List.set_cons_zero, List.set_cons_succ]
                refine wpAnyH_ready (rs := [18]) (by kernel_rfl) (by simp) ?_
                refine AllReadyH.cons (take_list rfl) (fun K hK => ?_) ?_
                · skip
                  go_simp
                  refine hK.out _ _ ?_ (fun hHeld => ?_)
                  · try dsimp only
                    try trivial
                  clear hK K
                  refine wpAnyH_done (by kernel_rfl) ?_ _
                  have HT7 := Lib.hid (HT6.out)
                  have hT7 : RTIn (grewS S (w.alloc (.cells #[.int .i64 0, .slice none 0 0] 31)) (w5.setCell ⟨g, 1, none⟩ (.slice A5 (t.lv.length + 1) c5))) (w5.setCell ⟨g, 1, none⟩ (.slice A5 (t.lv.length + 1) c5)) g (addT t (ofL l) (t.lv ++ [⟨l.length, keyA l, keyB l, [id]⟩])) := ⟨_, _, _, _, _, _, none_wide Hw0.out HPn.out Hb1.out Hb2.out HO3.out HO6.out HT7.out⟩
                  have HT8 := Lib.hid hT7
                  have HO8 : Hid (Only S (w.alloc (.cells #[.int .i64 0, .slice none 0 0] 31)) (w5.setCell ⟨g, 1, none⟩ (.slice A5 (t.lv.length + 1) c5))) := Lib.hid (none_only Hw0.out HPn.out HOT.out Hb1.out Hb2.out HO3.out HO6.out)
                  have HTo := Lib.hid (told_any hT7 B e2 l ⟨HT.out.rd.only (Hw0.out ▸ HO8.out) HBS.out, HT.out.flat⟩ (by omega) (id := id) (by rw [Hid_.out]; unfold addT; simp) (by have := HIds.out; unfold addT; simp; omega) (by rw [Hid_.out]; have := HOL.out; have e := tmpl_new t (ofL l) (t.lv ++ [⟨l.length, keyA l, keyB l, [t.ts.length + 1]⟩]); rw [e]; omega))
                  have htm : tmpl (addT t (ofL l) (t.lv ++ [⟨l.length, keyA l, keyB l, [id]⟩])) id = ofL l := by rw [Hid_.out]; exact tmpl_new _ _ _
                  rw [htm] at HTo
                  have HB8 := Lib.hid (HB0.out.only (Hw0.out ▸ HO8.out) (fun hx => absurd (HSl.out _ hx) (Nat.lt_irrefl _)))
                  clear hT7 htm q1 f1
                  go_wp2_with fail
                  refine HTo.out.mono ?_
                  rintro e w8 ⟨V, cv, rfl, hN⟩
                  have HN := Lib.hid hN
                  have hX := HB8.out.ext hN.bel
                  clear hN
                  have k0 := hX.cell 0
                  have k1 := hX.cell 1
                  have f0 := hX.free 0
                  have f1 := hX.free 1
                  simp only [List.getElem?_toArray, List.getElem?_cons_zero, List.getElem?_cons_succ] at k0 k1
                  have hY := hX.put 0 (.int .i64 (id : Int))
                  have m0 := (hY.put 1 (.slice V (varsL (ofL l) l).length cv)).cell 0
                  have m1 := (hY.put 1 (.slice V (varsL (ofL l) l).length cv)).cell 1
                  have m2 := hY.cell 0
                  simp only [List.getElem?_toArray, List.setIfInBounds_toArray, List.set_cons_zero, List.set_cons_succ, List.getElem?_cons_zero, List.getElem?_cons_succ] at m0 m1 m2
                  clear hY hX
                  go_wp2
                  refine bodyPost_ret (v := .agg #[(.int .i64 (id : Int)), (.slice V (varsL (ofL l) l).length cv)]) (by simp [results, Try.results16, go_sem, m0, m1, m2]) rfl ?_
                  rw [← Hid_.out]
                  exact rasgd_end (id := id) HSl.out HT8.out HO8.out HN.out _ _ _ rfl
                exact AllReadyH.nil
              exact AllReadyH.nil
            exact AllReadyH.nil
          exact AllReadyH.nil
        exact AllReadyH.nil
      refine AllReadyH.cons (take_list rfl) (fun K hK => ?_) ?_
      · skip
        go_simp
        refine hK.out _ _ ?_ (fun hHeld => ?_)
        · try dsimp only
          try trivial
        clear hK K
        refine wpAnyH_ready (rs := [8]) (by kernel_rfl) (by simp) ?_
        refine AllReadyH.cons (take_list rfl) (fun K hK => ?_) ?_
        · skip
          go_simp
          refine (HK0.out _ (by repeat (first | exact Below.refl _ _ | apply ext_drew | apply ext_drewN | apply ext_alloc))).mono ?_
          rintro e x1 ⟨rfl, hx1⟩
          have hx1 := hx1.symm
          subst hx1
          dsimp only
          refine hK.out _ _ ?_ (fun hHeld => ?_)
          · try dsimp only
            try trivial
          clear hK K
          refine wpAnyH_ready (rs := [10]) (by kernel_rfl) (by simp) ?_
          refine AllReadyH.cons (take_list rfl) (fun K hK => ?_) ?_
          · skip
            go_simp
            refine (HK1.out _ (by repeat (first | exact Below.refl _ _ | apply ext_drew | apply ext_drewN | apply ext_alloc))).mono ?_
            rintro e x1 ⟨rfl, hx1⟩
            have hx1 := hx1.symm
            subst hx1
            dsimp only
            refine hK.out _ _ ?_ (fun hHeld => ?_)
            · try dsimp only
              try trivial
            clear hK K
            refine wpAnyH_take (i := 13) (v := ?_) (take_list rfl) (by kernel_rfl) (by kernel_rfl) (by kernel_rfl) (fun _ _ _ h => h) (Or.inl ⟨by rfl, ?_⟩) (by assumption) ?_
            rotate_left
            · intro w hSw
              try dsimp only at hSw
              first | (go_simp; done) | (go_simp; with_reducible rfl)
            try simp only [Act.put, List.setIfInBounds_toArray, List.set_cons_zero, List.set_cons_succ]
            refine wpAnyH_ready (rs := [14]) (by kernel_rfl) (by simp) ?_
            refine AllReadyH.cons (take_list rfl) (fun K hK => ?_) ?_
            · skip
              go_simp
              refine hK.out _ _ ?_ (fun hHeld => ?_)
              · try dsimp only
                try trivial
              clear hK K
              refine wpAnyH_ready (rs := [15]) (by kernel_rfl) (by simp) ?_
              refine AllReadyH.cons (take_list rfl) (fun K hK => ?_) ?_
              · skip
                refine step_appO _ rfl (.tmp 56) (.tmp 66) _ rfl 84 _ 4 64 Try.underlying73 info_rleaf rfl R t.lv.length d ys rfl (H3.out.rows.ext (by repeat (first | exact Below.refl _ _ | apply ext_drew | apply ext_drewN | apply ext_alloc))) (some ⟨_, 0, none⟩) 1 1 [.int .i64 (l.length : Int), .string KA, .string KB, .slice (some ⟨w3.heap.size, 0, none⟩) 1 1] rfl rfl (by repeat (first | exact Rd.lit_at _ #[.int .i64 (l.length : Int), .string KA, .string KB, .slice (some ⟨w3.heap.size, 0, none⟩) 1 1] _ (by first | rfl | (simp [World.size_alloc]; done)) | apply Rd.drew | apply Rd.alloc)) (by intro u hu; simp at hu; rcases hu with rfl | rfl | rfl | rfl <;> rfl) (by intro h; cases h) hp1 hp2 ?_
                intro A5 c5 w5 hr5 ho5 hA5
                rw [← HKA.out, ← HKB.out] at hr5
                obtain ⟨hT6, hO6, hB5⟩ := H3.out.grown (cnt := l.length) (id := id) (gG := w3.heap.size) (by repeat (first | exact Below.refl _ _ | apply ext_drew | apply ext_drewN | apply ext_alloc)) (by repeat (first | exact RowO.lit _ 3 1 1 #[.int .i64 (id : Int)] rfl (Nat.le_of_ble_eq_true rfl) (by first | rfl | (simp; done)) | apply RowO.drew | apply RowO.alloc)) (Nat.le_refl _) hr5 ho5 hA5
                have q1 := hB5.cell 1
                have f1 := hB5.free 1
                simp only [List.getElem?_toArray, List.getElem?_cons_zero, List.getElem?_cons_succ] at q1
                have HT6 := Lib.hid hT6
                have HO6 := Lib.hid hO6
                clear hr5 ho5 hA5 hT6 hO6 hB5
                refine hK.out _ _ ?_ (fun hHeld => ?_)
                · try dsimp only
                  try trivial
                clear hK K
                refine wpAnyH_take (i := 16) (v := ?_) (take_list rfl) (by kernel_rfl) (by kernel_rfl) (by kernel_rfl) (fun _ _ _ h => h) (Or.inl ⟨by rfl, ?_⟩) (by assumption) ?_
                rotate_left
                · intro w hSw
                  try dsimp only at hSw
                  first | (go_simp; done) | (go_simp; with_reducible rfl)
                try simp only [Act.put, List.setIfInBounds_toArray, List.set_cons_zero, List.set_cons_succ]
                refine wpAnyH_take (i := 17) (v := ?_) (take_list rfl) (by kernel_rfl) (by kernel_rfl) (by kernel_rfl) (fun _ _ _ h => h) (Or.inl ⟨by rfl, ?_⟩) (by assumption) ?_
                rotate_left
                · intro w hSw
                  try dsimp only at hSw
                  first | (go_simp; done) | (go_simp; with_reducible rfl)
                try simp only [Act.put, List.setIfInBounds_toArray, List.set_cons_zero, List.set_cons_succ]
                refine wpAnyH_ready (rs := [18]) (by kernel_rfl) (by simp) ?_
                refine AllReadyH.cons (take_list rfl) (fun K hK => ?_) ?_
                · skip
                  go_simp
                  refine hK.out _ _ ?_ (fun hHeld => ?_)
                  · try dsimp only
                    try trivial
                  clear hK K
                  refine wpAnyH_done (by kernel_rfl) ?_ _
                  have HT7 := Lib.hid (HT6.out)
                  have hT7 : RTIn (grewS S (w.alloc (.cells #[.int .i64 0, .slice none 0 0] 31)) (w5.setCell ⟨g, 1, none⟩ (.slice A5 (t.lv.length + 1) c5))) (w5.setCell ⟨g, 1, none⟩ (.slice A5 (t.lv.length + 1) c5)) g (addT t (ofL l) (t.lv ++ [⟨l.length, keyA l, keyB l, [id]⟩])) := ⟨_, _, _, _, _, _, none_wide Hw0.out HPn.out Hb1.out Hb2.out HO3.out HO6.out HT7.out⟩
                  have HT8 := Lib.hid hT7
                  have HO8 : Hid (Only S (w.alloc (.cells #[.int .i64 0, .slice none 0 0] 31)) (w5.setCell ⟨g, 1, none⟩ (.slice A5 (t.lv.length + 1) c5))) := Lib.hid (none_only Hw0.out HPn.out HOT.out Hb1.out Hb2.out HO3.out HO6.out)
                  have HTo := Lib.hid (told_any hT7 B e2 l ⟨HT.out.rd.only (Hw0.out ▸ HO8.out) HBS.out, HT.out.flat⟩ (by omega) (id := id) (by rw [Hid_.out]; unfold addT; simp) (by have := HIds.out; unfold addT; simp; omega) (by rw [Hid_.out]; have := HOL.out; have e := tmpl_new t (ofL l) (t.lv ++ [⟨l.length, keyA l, keyB l, [t.ts.length + 1]⟩]); rw [e]; omega))
                  have htm : tmpl (addT t (ofL l) (t.lv ++ [⟨l.length, keyA l, keyB l, [id]⟩])) id = ofL l := by rw [Hid_.out]; exact tmpl_new _ _ _
                  rw [htm] at HTo
                  have HB8 := Lib.hid (HB0.out.only (Hw0.out ▸ HO8.out) (fun hx => absurd (HSl.out _ hx) (Nat.lt_irrefl _)))
                  clear hT7 htm q1 f1
                  go_wp2_with fail
                  refine HTo.out.mono ?_
                  rintro e w8 ⟨V, cv, rfl, hN⟩
                  have HN := Lib.hid hN
                  have hX := HB8.out.ext hN.bel
                  clear hN
                  have k0 := hX.cell 0
                  have k1 := hX.cell 1
                  have f0 := hX.free 0
                  have f1 := hX.free 1
                  simp only [List.getElem?_toArray, List.getElem?_cons_zero, List.getElem?_cons_succ] at k0 k1
                  have hY := hX.put 0 (.int .i64 (id : Int))
                  have m0 := (hY.put 1 (.slice V (varsL (ofL l) l).length cv)).cell 0
                  have m1 := (hY.put 1 (.slice V (varsL (ofL l) l).length cv)).cell 1
                  have m2 := hY.cell 0
                  simp only [List.getElem?_toArray, List.setIfInBounds_toArray, List.set_cons_zero, List.set_cons_succ, List.getElem?_cons_zero, List.getElem?_cons_succ] at m0 m1 m2
                  clear hY hX
                  go_wp2
                  refine bodyPost_ret (v := .agg #[(.int .i64 (id : Int)), (.slice V (varsL (ofL l) l).length cv)]) (by simp [results, Try.results16, go_sem, m0, m1, m2]) rfl ?_
                  rw [← Hid_.out]
                  exact rasgd_end (id := id) HSl.out HT8.out HO8.out HN.out _ _ _ rfl
                exact AllReadyH.nil
              exact AllReadyH.nil
            exact AllReadyH.nil
          exact AllReadyH.nil
        exact AllReadyH.nil
      exact AllReadyH.nil
    refine AllReadyH.cons (take_list rfl) (fun K hK => ?_) ?_
    · skip
      go_simp
      refine (HK0.out _ (by repeat (first | exact Below.refl _ _ | apply ext_drew | apply ext_drewN | apply ext_alloc))).mono ?_
      rintro e x1 ⟨rfl, hx1⟩
      have hx1 := hx1.symm
      subst hx1
      dsimp only
      refine hK.out _ _ ?_ (fun hHeld => ?_)
      · try dsimp only
        try trivial
      clear hK K
      refine wpAnyH_ready (rs := [4, 10, 12]) (by kernel_rfl) (by simp) ?_
      refine AllReadyH.cons (take_list rfl) (fun K hK => ?_) ?_
      · skip
        have ql := HY1.out (w3.drew) (by repeat (first | exact Below.refl _ _ | apply ext_drew | apply ext_drewN | apply ext_alloc))
        go_simp
        clear ql
        refine hK.out _ _ ?_ (fun hHeld => ?_)
        · try dsimp only
          try trivial
        clear hK K
        refine wpAnyH_ready (rs := [10, 12]) (by kernel_rfl) (by simp) ?_
        refine AllReadyH.cons (take_list rfl) (fun K hK => ?_) ?_
        · skip
          go_simp
          refine (HK1.out _ (by repeat (first | exact Below.refl _ _ | apply ext_drew | apply ext_drewN | apply ext_alloc))).mono ?_
          rintro e x1 ⟨rfl, hx1⟩
          have hx1 := hx1.symm
          subst hx1
          dsimp only
          refine hK.out _ _ ?_ (fun hHeld => ?_)
          · try dsimp only
            try trivial
          clear hK K
          refine wpAnyH_ready (rs := [12]) (by kernel_rfl) (by simp) ?_
          refine AllReadyH.cons (take_list rfl) (fun K hK => ?_) ?_
          · skip
            go_simp
            refine hK.out _ _ ?_ (fun hHeld => ?_)
            · try dsimp only
              try trivial
            clear hK K
            refine wpAnyH_take (i := 13) (v := ?_) (take_list rfl) (by kernel_rfl) (by kernel_rfl) (by kernel_rfl) (fun _ _ _ h => h) (Or.inl ⟨by rfl, ?_⟩) (by assumption) ?_
            rotate_left
            · intro w hSw
              try dsimp only at hSw
              first | (go_simp; done) | (go_simp; with_reducible rfl)
            try simp only [Act.put, List.setIfInBounds_toArray, List.set_cons_zero, List.set_cons_succ]
            refine wpAnyH_ready (rs := [14]) (by kernel_rfl) (by simp) ?_
            refine AllReadyH.cons (take_list rfl) (fun K hK => ?_) ?_
            · skip
              go_simp
              refine hK.out _ _ ?_ (fun hHeld => ?_)
              · try dsimp only
                try trivial
              clear hK K
              refine wpAnyH_ready (rs := [15]) (by kernel_rfl) (by simp) ?_
              refine AllReadyH.cons (take_list rfl) (fun K hK => ?_) ?_
              · skip
                refine step_appO _ rfl (.tmp 56) (.tmp 66) _ rfl 84 _ 4 64 Try.underlying73 info_rleaf rfl R t.lv.length d ys rfl (H3.out.rows.ext (by repeat (first | exact Below.refl _ _ | apply ext_drew | apply ext_drewN | apply ext_alloc))) (some ⟨_, 0, none⟩) 1 1 [.int .i64 (l.length : Int), .string KA, .string KB, .slice (some ⟨w3.heap.size, 0, none⟩) 1 1] rfl rfl (by repeat (first | exact Rd.lit_at _ #[.int .i64 (l.length : Int), .string KA, .string KB, .slice (some ⟨w3.heap.size, 0, none⟩) 1 1] _ (by first | rfl | (simp [World.size_alloc]; done)) | apply Rd.drew | apply Rd.alloc)) (by intro u hu; simp at hu; rcases hu with rfl | rfl | rfl | rfl <;> rfl) (by intro h; cases h) hp1 hp2 ?_
                intro A5 c5 w5 hr5 ho5 hA5
                rw [← HKA.out, ← HKB.out] at hr5
                obtain ⟨hT6, hO6, hB5⟩ := H3.out.grown (cnt := l.length) (id := id) (gG := w3.heap.size) (by repeat (first | exact Below.refl _ _ | apply ext_drew | apply ext_drewN | apply ext_alloc)) (by repeat (first | exact RowO.lit _ 3 1 1 #[.int .i64 (id : Int)] rfl (Nat.le_of_ble_eq_true rfl) (by first | rfl | (simp; done)) | apply RowO.drew | apply RowO.alloc)) (Nat.le_refl _) hr5 ho5 hA5
                have q1 := hB5.cell 1
                have f1 := hB5.free 1
                simp only [List.getElem?_toArray, List.getElem?_cons_zero, List.getElem?_cons_succ] at q1
                have HT6 := Lib.hid hT6
                have HO6 := Lib.hid hO6
                clear hr5 ho5 hA5 hT6 hO6 hB5
                refine hK.out _ _ ?_ (fun hHeld => ?_)
                · try dsimp only
                  try trivial
                clear hK K
                refine wpAnyH_take (i := 16) (v := ?_) (take_list rfl) (by kernel_rfl) (by kernel_rfl) (by kernel_rfl) (fun _ _ _ h => h) (Or.inl ⟨by rfl, ?_⟩) (by assumption) ?_
                rotate_left
                · intro w hSw
                  try dsimp only at hSw
                  first | (go_simp; done) | (go_simp; with_reducible rfl)
                try simp only [Act.put, List.setIfInBounds_toArray, List.set_cons_zero, List.set_cons_succ]
                refine wpAnyH_take (i := 17) (v := ?_) (take_list rfl) (by kernel_rfl) (by kernel_rfl) (by kernel_rfl) (fun _ _ _ h => h) (Or.inl ⟨by rfl, ?_⟩) (by assumption) ?_
                rotate_left
                · intro w hSw
                  try dsimp only at hSw
                  first | (go_simp; done) | (go_simp; with_reducible rfl)
                try simp only [Act.put, List.setIfInBounds_toArray, List.set_cons_zero, List.set_cons_succ]
                refine wpAnyH_ready (rs := [18]) (by kernel_rfl) (by simp) ?_
                refine AllReadyH.cons (take_list rfl) (fun K hK => ?_) ?_
                · skip
                  go_simp
                  refine hK.out _ _ ?_ (fun hHeld => ?_)
                  · try dsimp only
                    try trivial
                  clear hK K
                  refine wpAnyH_done (by kernel_rfl) ?_ _
                  have HT7 := Lib.hid (HT6.out)
                  have hT7 : RTIn (grewS S (w.alloc (.cells #[.int .i64 0, .slice none 0 0] 31)) (w5.setCell ⟨g, 1, none⟩ (.slice A5 (t.lv.length + 1) c5))) (w5.setCell ⟨g, 1, none⟩ (.slice A5 (t.lv.length + 1) c5)) g (addT t (ofL l) (t.lv ++ [⟨l.length, keyA l, keyB l, [id]⟩])) := ⟨_, _, _, _, _, _, none_wide Hw0.out HPn.out Hb1.out Hb2.out HO3.out HO6.out HT7.out⟩
                  have HT8 := Lib.hid hT7
                  have HO8 : Hid (Only S (w.alloc (.cells #[.int .i64 0, .slice none 0 0] 31)) (w5.setCell ⟨g, 1, none⟩ (.slice A5 (t.lv.length + 1) c5))) := Lib.hid (none_only Hw0.out HPn.out HOT.out Hb1.out Hb2.out HO3.out HO6.out)
                  have HTo := Lib.hid (told_any hT7 B e2 l ⟨HT.out.rd.only (Hw0.out ▸ HO8.out) HBS.out, HT.out.flat⟩ (by omega) (id := id) (by rw [Hid_.out]; unfold addT; simp) (by have := HIds.out; unfold addT; simp; omega) (by rw [Hid_.out]; have := HOL.out; have e := tmpl_new t (ofL l) (t.lv ++ [⟨l.length, keyA l, keyB l, [t.ts.length + 1]⟩]); rw [e]; omega))
                  have htm : tmpl (addT t (ofL l) (t.lv ++ [⟨l.length, keyA l, keyB l, [id]⟩])) id = ofL l := by rw [Hid_.out]; exact tmpl_new _ _ _
                  rw [htm] at HTo
                  have HB8 := Lib.hid (HB0.out.only (Hw0.out ▸ HO8.out) (fun hx => absurd (HSl.out _ hx) (Nat.lt_irrefl _)))
                  clear hT7 htm q1 f1
                  go_wp2_with fail
                  refine HTo.out.mono ?_
                  rintro e w8 ⟨V, cv, rfl, hN⟩
                  have HN := Lib.hid hN
                  have hX := HB8.out.ext hN.bel
                  clear hN
                  have k0 := hX.cell 0
                  have k1 := hX.cell 1
                  have f0 := hX.free 0
                  have f1 := hX.free 1
                  simp only [List.getElem?_toArray, List.getElem?_cons_zero, List.getElem?_cons_succ] at k0 k1
                  have hY := hX.put 0 (.int .i64 (id : Int))
                  have m0 := (hY.put 1 (.slice V (varsL (ofL l) l).length cv)).cell 0
                  have m1 := (hY.put 1 (.slice V (varsL (ofL l) l).length cv)).cell 1
                  have m2 := hY.cell 0
                  simp only [List.getElem?_toArray, List.setIfInBounds_toArray, List.set_cons_zero, List.set_cons_succ, List.getElem?_cons_zero, List.getElem?_cons_succ] at m0 m1 m2
                  clear hY hX
                  go_wp2
                  refine bodyPost_ret (v := .agg #[(.int .i64 (id : Int)), (.slice V (varsL (ofL l) l).length cv)]) (by simp [results, Try.results16, go_sem, m0, m1, m2]) rfl ?_
                  rw [← Hid_.out]
                  exact rasgd_end (id := id) HSl.out HT8.out HO8.out HN.out _ _ _ rfl
                exact AllReadyH.nil
              exact AllReadyH.nil
            exact AllReadyH.nil
          exact AllReadyH.nil
        refine AllReadyH.cons (take_list rfl) (fun K hK => ?_) ?_
        · skip
          go_simp
          refine hK.out _ _ ?_ (fun hHeld => ?_)
          · try dsimp only
            try trivial
          clear hK K
          refine wpAnyH_ready (rs := [10]) (by kernel_rfl) (by simp) ?_
          refine AllReadyH.cons (take_list rfl) (fun K hK => ?_) ?_
          · skip
            go_simp
            refine (HK1.out _ (by repeat (first | exact Below.refl _ _ | apply ext_drew | apply ext_drewN | apply ext_alloc))).mono ?_
            rintro e x1 ⟨rfl, hx1⟩
            have hx1 := hx1.symm
            subst hx1
            dsimp only
            refine hK.out _ _ ?_ (fun hHeld => ?_)
            · try dsimp only
              try trivial
            clear hK K
            refine wpAnyH_take (i := 13) (v := ?_) (take_list rfl) (by kernel_rfl) (by kernel_rfl) (by kernel_rfl) (fun _ _ _ h => h) (Or.inl ⟨by rfl, ?_⟩) (by assumption) ?_
            rotate_left
            · intro w hSw
              try dsimp only at hSw
              first | (go_simp; done) | (go_simp; with_reducible rfl)
            try simp only [Act.put, List.setIfInBounds_toArray, List.set_cons_zero, List.set_cons_succ]
            refine wpAnyH_ready (rs := [14]) (by kernel_rfl) (by simp) ?_
            refine AllReadyH.cons (take_list rfl) (fun K hK => ?_) ?_
            · skip
              go_simp
              refine hK.out _ _ ?_ (fun hHeld => ?_)
              · try dsimp only
                try trivial
              clear hK K
              refine wpAnyH_ready (rs := [15]) (by kernel_rfl) (by simp) ?_
              refine AllReadyH.cons (take_list rfl) (fun K hK => ?_) ?_
              · skip
                refine step_appO _ rfl (.tmp 56) (.tmp 66) _ rfl 84 _ 4 64 Try.underlying73 info_rleaf rfl R t.lv.length d ys rfl (H3.out.rows.ext (by repeat (first | exact Below.refl _ _ | apply ext_drew | apply ext_drewN | apply ext_alloc))) (some ⟨_, 0, none⟩) 1 1 [.int .i64 (l.length : Int), .string KA, .string KB, .slice (some ⟨w3.heap.size, 0, none⟩) 1 1] rfl rfl (by repeat (first | exact Rd.lit_at _ #[.int .i64 (l.length : Int), .string KA, .string KB, .slice (some ⟨w3.heap.size, 0, none⟩) 1 1] _ (by first | rfl | (simp [World.size_alloc]; done)) | apply Rd.drew | apply Rd.alloc)) (by intro u hu; simp at hu; rcases hu with rfl | rfl | rfl | rfl <;> rfl) (by intro h; cases h) hp1 hp2 ?_
                intro A5 c5 w5 hr5 ho5 hA5
                rw [← HKA.out, ← HKB.out] at hr5
                obtain ⟨hT6, hO6, hB5⟩ := H3.out.grown (cnt := l.length) (id := id) (gG := w3.heap.size) (by repeat (first | exact Below.refl _ _ | apply ext_drew | apply ext_drewN | apply ext_alloc)) (by repeat (first | exact RowO.lit _ 3 1 1 #[.int .i64 (id : Int)] rfl (Nat.le_of_ble_eq_true rfl) (by first | rfl | (simp; done)) | apply RowO.drew | apply RowO.alloc)) (Nat.le_refl _) hr5 ho5 hA5
                have q1 := hB5.cell 1
                have f1 := hB5.free 1
                simp only [List.getElem?_toArray, List.getElem?_cons_zero, List.getElem?_cons_succ] at q1
                have HT6 := Lib.hid hT6
                have HO6 := Lib.hid hO6
                clear hr5 ho5 hA5 hT6 hO6 hB5
                refine hK.out _ _ ?_ (fun hHeld => ?_)
                · try dsimp only
                  try trivial
                clear hK K
                refine wpAnyH_take (i := 16) (v := ?_) (take_list rfl) (by kernel_rfl) (by kernel_rfl) (by kernel_rfl) (fun _ _ _ h => h) (Or.inl ⟨by rfl, ?_⟩) (by assumption) ?_
                rotate_left
                · intro w hSw
                  try dsimp only at hSw
                  first | (go_simp; done) | (go_simp; with_reducible rfl)
                try simp only [Act.put, List.setIfInBounds_toArray, List.set_cons_zero, List.set_cons_succ]
                refine wpAnyH_take (i := 17) (v := ?_) (take_list rfl) (by kernel_rfl) (by kernel_rfl) (by kernel_rfl) (fun _ _ _ h => h) (Or.inl ⟨by rfl, ?_⟩) (by assumption) ?_
                rotate_left
                · intro w hSw
                  try dsimp only at hSw
                  first | (go_simp; done) | (go_simp; with_reducible rfl)
                try simp only [Act.put, List.setIfInBounds_toArray, List.set_cons_zero, List.set_cons_succ]
                refine wpAnyH_ready (rs := [18]) (by kernel_rfl) (by simp) ?_
                refine AllReadyH.cons (take_list rfl) (fun K hK => ?_) ?_
                · skip
                  go_simp
                  refine hK.out _ _ ?_ (fun hHeld => ?_)
                  · try dsimp only
                    try trivial
                  clear hK K
                  refine wpAnyH_done (by kernel_rfl) ?_ _
                  have HT7 := Lib.hid (HT6.out)
                  have hT7 : RTIn (grewS S (w.alloc (.cells #[.int .i64 0, .slice none 0 0] 31)) (w5.setCell ⟨g, 1, none⟩ (.slice A5 (t.lv.length + 1) c5))) (w5.setCell ⟨g, 1, none⟩ (.slice A5 (t.lv.length + 1) c5)) g (addT t (ofL l) (t.lv ++ [⟨l.length, keyA l, keyB l, [id]⟩])) := ⟨_, _, _, _, _, _, none_wide Hw0.out HPn.out Hb1.out Hb2.out HO3.out HO6.out HT7.out⟩
                  have HT8 := Lib.hid hT7
                  have HO8 : Hid (Only S (w.alloc (.cells #[.int .i64 0, .slice none 0 0] 31)) (w5.setCell ⟨g, 1, none⟩ (.slice A5 (t.lv.length + 1) c5))) := Lib.hid (none_only Hw0.out HPn.out HOT.out Hb1.out Hb2.out HO3.out HO6.out)
                  have HTo := Lib.hid (told_any hT7 B e2 l ⟨HT.out.rd.only (Hw0.out ▸ HO8.out) HBS.out, HT.out.flat⟩ (by omega) (id := id) (by rw [Hid_.out]; unfold addT; simp) (by have := HIds.out; unfold addT; simp; omega) (by rw [Hid_.out]; have := HOL.out; have e := tmpl_new t (ofL l) (t.lv ++ [⟨l.length, keyA l, keyB l, [t.ts.length + 1]⟩]); rw [e]; omega))
                  have htm : tmpl (addT t (ofL l) (t.lv ++ [⟨l.length, keyA l, keyB l, [id]⟩])) id = ofL l := by rw [Hid_.out]; exact tmpl_new _ _ _
                  rw [htm] at HTo
                  have HB8 := Lib.hid (HB0.out.only (Hw0.out ▸ HO8.out) (fun hx => absurd (HSl.out _ hx) (Nat.lt_irrefl _)))
                  clear hT7 htm q1 f1
                  go_wp2_with fail
                  refine HTo.out.mono ?_
                  rintro e w8 ⟨V, cv, rfl, hN⟩
                  have HN := Lib.hid hN
                  have hX := HB8.out.ext hN.bel
                  clear hN
                  have k0 := hX.cell 0
                  have k1 := hX.cell 1
                  have f0 := hX.free 0
                  have f1 := hX.free 1
                  simp only [List.getElem?_toArray, List.getElem?_cons_zero, List.getElem?_cons_succ] at k0 k1
                  have hY := hX.put 0 (.int .i64 (id : Int))
                  have m0 := (hY.put 1 (.slice V (varsL (ofL l) l).length cv)).cell 0
                  have m1 := (hY.put 1 (.slice V (varsL (ofL l) l).length cv)).cell 1
                  have m2 := hY.cell 0
                  simp only [List.getElem?_toArray, List.setIfInBounds_toArray, List.set_cons_zero, List.set_cons_succ, List.getElem?_cons_zero, List.getElem?_cons_succ] at m0 m1 m2
                  clear hY hX
                  go_wp2
                  refine bodyPost_ret (v := .agg #[(.int .i64 (id : Int)), (.slice V (varsL (ofL l) l).length cv)]) (by simp [results, Try.results16, go_sem, m0, m1, m2]) rfl ?_
                  rw [← Hid_.out]
                  exact rasgd_end (id := id) HSl.out HT8.out HO8.out HN.out _ _ _ rfl
                exact AllReadyH.nil
              exact AllReadyH.nil
            exact AllReadyH.nil
          exact AllReadyH.nil
        exact AllReadyH.nil
      refine AllReadyH.cons (take_list rfl) (fun K hK => ?_) ?_
      · skip
        go_simp
        refine (HK1.out _ (by repeat (first | exact Below.refl _ _ | apply ext_drew | apply ext_drewN | apply ext_alloc))).mono ?_
        rintro e x1 ⟨rfl, hx1⟩
        have hx1 := hx1.symm
        subst hx1
        dsimp only
        refine hK.out _ _ ?_ (fun hHeld => ?_)
        · try dsimp only
          try trivial
        clear hK K
        refine wpAnyH_ready (rs := [4, 12]) (by kernel_rfl) (by simp) ?_
        refine AllReadyH.cons (take_list rfl) (fun K hK => ?_) ?_
        · skip
          have ql := HY1.out (w3.drew) (by repeat (first | exact Below.refl _ _ | apply ext_drew | apply ext_drewN | apply ext_alloc))
          go_simp
          clear ql
          refine hK.out _ _ ?_ (fun hHeld => ?_)
          · try dsimp only
            try trivial
          clear hK K
          refine wpAnyH_ready (rs := [12]) (by kernel_rfl) (by simp) ?_
          refine AllReadyH.cons (take_list rfl) (fun K hK => ?_) ?_
          · skip
            go_simp
            refine hK.out _ _ ?_ (fun hHeld => ?_)
            · try dsimp only
              try trivial
            clear hK K
            refine wpAnyH_take (i := 13) (v := ?_) (take_list rfl) (by kernel_rfl) (by kernel_rfl) (by kernel_rfl) (fun _ _ _ h => h) (Or.inl ⟨by rfl, ?_⟩) (by assumption) ?_
            rotate_left
            · intro w hSw
              try dsimp only at hSw
              first | (go_simp; done) | (go_simp; with_reducible rfl)
            try simp only [Act.put, List.setIfInBounds_toArray, List.set_cons_zero, List.set_cons_succ]
            refine wpAnyH_ready (rs := [14]) (by kernel_rfl) (by simp) ?_
            refine AllReadyH.cons (take_list rfl) (fun K hK => ?_) ?_
            · skip
              go_simp
              refine hK.out _ _ ?_ (fun hHeld => ?_)
              · try dsimp only
                try trivial
              clear hK K
              refine wpAnyH_ready (rs := [15]) (by kernel_rfl) (by simp) ?_
              refine AllReadyH.cons (take_list rfl) (fun K hK => ?_) ?_
              · skip
                refine step_appO _ rfl (.tmp 56) (.tmp 66) _ rfl 84 _ 4 64 Try.underlying73 info_rleaf rfl R t.lv.length d ys rfl (H3.out.rows.ext (by repeat (first | exact Below.refl _ _ | apply ext_drew | apply ext_drewN | apply ext_alloc))) (some ⟨_, 0, none⟩) 1 1 [.int .i64 (l.length : Int), .string KA, .string KB, .slice (some ⟨w3.heap.size, 0, none⟩) 1 1] rfl rfl (by repeat (first | exact Rd.lit_at _ #[.int .i64 (l.length : Int), .string KA, .string KB, .slice (some ⟨w3.heap.size, 0, none⟩) 1 1] _ (by first | rfl | (simp [World.size_alloc]; done)) | apply Rd.drew | apply Rd.alloc)) (by intro u hu; simp at hu; rcases hu with rfl | rfl | rfl | rfl <;> rfl) (by intro h; cases h) hp1 hp2 ?_
                intro A5 c5 w5 hr5 ho5 hA5
                rw [← HKA.out, ← HKB.out] at hr5
                obtain ⟨hT6, hO6, hB5⟩ := H3.out.grown (cnt := l.length) (id := id) (gG := w3.heap.size) (by repeat (first | exact Below.refl _ _ | apply ext_drew | apply ext_drewN | apply ext_alloc)) (by repeat (first | exact RowO.lit _ 3 1 1 #[.int .i64 (id : Int)] rfl (Nat.le_of_ble_eq_true rfl) (by first | rfl | (simp; done)) | apply RowO.drew | apply RowO.alloc)) (Nat.le_refl _) hr5 ho5 hA5
                have q1 := hB5.cell 1
                have f1 := hB5.free 1
                simp only [List.getElem?_toArray, List.getElem?_cons_zero, List.getElem?_cons_succ] at q1
                have HT6 := Lib.hid hT6
                have HO6 := Lib.hid hO6
                clear hr5 ho5 hA5 hT6 hO6 hB5
                refine hK.out _ _ ?_ (fun hHeld => ?_)
                · try dsimp only
                  try trivial
                clear hK K
                refine wpAnyH_take (i := 16) (v := ?_) (take_list rfl) (by kernel_rfl) (by kernel_rfl) (by kernel_rfl) (fun _ _ _ h => h) (Or.inl ⟨by rfl, ?_⟩) (by assumption) ?_
                rotate_left
                · intro w hSw
                  try dsimp only at hSw
                  first | (go_simp; done) | (go_simp; with_reducible rfl)
                try simp only [Act.put, List.setIfInBounds_toArray, List.set_cons_zero, List.set_cons_succ]
                refine wpAnyH_take (i := 17) (v := ?_) (take_list rfl) (by kernel_rfl) (by kernel_rfl) (by kernel_rfl) (fun _ _ _ h => h) (Or.inl ⟨by rfl, ?_⟩) (by assumption) ?_
                rotate_left
                · intro w hSw
                  try dsimp only at hSw
                  first | (go_simp; done) | (go_simp; with_reducible rfl)
                try simp only [Act.put, List.setIfInBounds_toArray, List.set_cons_zero, List.set_cons_succ]
                refine wpAnyH_ready (rs := [18]) (by kernel_rfl) (by simp) ?_
                refine AllReadyH.cons (take_list rfl) (fun K hK => ?_) ?_
                · skip
                  go_simp
                  refine hK.out _ _ ?_ (fun hHeld => ?_)
                  · try dsimp only
                    try trivial
                  clear hK K
                  refine wpAnyH_done (by kernel_rfl) ?_ _
                  have HT7 := Lib.hid (HT6.out)
                  have hT7 : RTIn (grewS S (w.alloc (.cells #[.int .i64 0, .slice none 0 0] 31)) (w5.setCell ⟨g, 1, none⟩ (.slice A5 (t.lv.length + 1) c5))) (w5.setCell ⟨g, 1, none⟩ (.slice A5 (t.lv.length + 1) c5)) g (addT t (ofL l) (t.lv ++ [⟨l.length, keyA l, keyB l, [id]⟩])) := ⟨_, _, _, _, _, _, none_wide Hw0.out HPn.out Hb1.out Hb2.out HO3.out HO6.out HT7.out⟩
                  have HT8 := Lib.hid hT7
                  have HO8 : Hid (Only S (w.alloc (.cells #[.int .i64 0, .slice none 0 0] 31)) (w5.setCell ⟨g, 1, none⟩ (.slice A5 (t.lv.length + 1) c5))) := Lib.hid (none_only Hw0.out HPn.out HOT.out Hb1.out Hb2.out HO3.out HO6.out)
                  have HTo := Lib.hid (told_any hT7 B e2 l ⟨HT.out.rd.only (Hw0.out ▸ HO8.out) HBS.out, HT.out.flat⟩ (by omega) (id := id) (by rw [Hid_.out]; unfold addT; simp) (by have := HIds.out; unfold addT; simp; omega) (by rw [Hid_.out]; have := HOL.out; have e := tmpl_new t (ofL l) (t.lv ++ [⟨l.length, keyA l, keyB l, [t.ts.length + 1]⟩]); rw [e]; omega))
                  have htm : tmpl (addT t (ofL l) (t.lv ++ [⟨l.length, keyA l, keyB l, [id]⟩])) id = ofL l := by rw [Hid_.out]; exact tmpl_new _ _ _
                  rw [htm] at HTo
                  have HB8 := Lib.hid (HB0.out.only (Hw0.out ▸ HO8.out) (fun hx => absurd (HSl.out _ hx) (Nat.lt_irrefl _)))
                  clear hT7 htm q1 f1
                  go_wp2_with fail
                  refine HTo.out.mono ?_
                  rintro e w8 ⟨V, cv, rfl, hN⟩
                  have HN := Lib.hid hN
                  have hX := HB8.out.ext hN.bel
                  clear hN
                  have k0 := hX.cell 0
                  have k1 := hX.cell 1
                  have f0 := hX.free 0
                  have f1 := hX.free 1
                  simp only [List.getElem?_toArray, List.getElem?_cons_zero, List.getElem?_cons_succ] at k0 k1
                  have hY := hX.put 0 (.int .i64 (id : Int))
                  have m0 := (hY.put 1 (.slice V (varsL (ofL l) l).length cv)).cell 0
                  have m1 := (hY.put 1 (.slice V (varsL (ofL l) l).length cv)).cell 1
                  have m2 := hY.cell 0
                  simp only [List.getElem?_toArray, List.setIfInBounds_toArray, List.set_cons_zero, List.set_cons_succ, List.getElem?_cons_zero, List.getElem?_cons_succ] at m0 m1 m2
                  clear hY hX
                  go_wp2
                  refine bodyPost_ret (v := .agg #[(.int .i64 (id : Int)), (.slice V (varsL (ofL l) l).length cv)]) (by simp [results, Try.results16, go_sem, m0, m1, m2]) rfl ?_
                  rw [← Hid_.out]
                  exact rasgd_end (id := id) HSl.out HT8.out HO8.out HN.out _ _ _ rfl
                exact AllReadyH.nil
              exact AllReadyH.nil
            exact AllReadyH.nil
          exact AllReadyH.nil
        refine AllReadyH.cons (take_list rfl) (fun K hK => ?_) ?_
        · skip
          go_simp
          refine hK.out _ _ ?_ (fun hHeld => ?_)
          · try dsimp only
            try trivial
          clear hK K
          refine wpAnyH_take (i := 13) (v := ?_) (take_list rfl) (by kernel_rfl) (by kernel_rfl) (by kernel_rfl) (fun _ _ _ h => h) (Or.inl ⟨by rfl, ?_⟩) (by assumption) ?_
          rotate_left
          · intro w hSw
            try dsimp only at hSw
            first | (go_simp; done) | (go_simp; with_reducible rfl)
          try simp only [Act.put, List.setIfInBounds_toArray, List.set_cons_zero, List.set_cons_succ]
          refine wpAnyH_ready (rs := [4, 14]) (by kernel_rfl) (by simp) ?_
          refine AllReadyH.cons (take_list rfl) (fun K hK => ?_) ?_
          · skip
            have ql := HY1.out ((w3.drew).alloc (.cells #[.int .i64 (id : Int)] 3)) (by repeat (first | exact Below.refl _ _ | apply ext_drew | apply ext_drewN | apply ext_alloc))
            have ql2 := HY1.out (w3.alloc (.cells #[.int .i64 (id : Int)] 3)) (by repeat (first | exact Below.refl _ _ | apply ext_drew | apply ext_drewN | apply ext_alloc))
            go_simp
            clear ql ql2
            refine hK.out _ _ ?_ (fun hHeld => ?_)
            · try dsimp only
              try trivial
            clear hK K
            refine wpAnyH_ready (rs := [14]) (by kernel_rfl) (by simp) ?_
            refine AllReadyH.cons (take_list rfl) (fun K hK => ?_) ?_
            · skip
              go_simp
              refine hK.out _ _ ?_ (fun hHeld => ?_)
              · try dsimp only
                try trivial
              clear hK K
              refine wpAnyH_ready (rs := [15]) (by kernel_rfl) (by simp) ?_
              refine AllReadyH.cons (take_list rfl) (fun K hK => ?_) ?_
              · skip
                refine step_appO _ rfl (.tmp 56) (.tmp 66) _ rfl 84 _ 4 64 Try.underlying73 info_rleaf rfl R t.lv.length d ys rfl (H3.out.rows.ext (by repeat (first | exact Below.refl _ _ | apply ext_drew | apply ext_drewN | apply ext_alloc))) (some ⟨_, 0, none⟩) 1 1 [.int .i64 (l.length : Int), .string KA, .string KB, .slice (some ⟨w3.heap.size, 0, none⟩) 1 1] rfl rfl (by repeat (first | exact Rd.lit_at _ #[.int .i64 (l.length : Int), .string KA, .string KB, .slice (some ⟨w3.heap.size, 0, none⟩) 1 1] _ (by first | rfl | (simp [World.size_alloc]; done)) | apply Rd.drew | apply Rd.alloc)) (by intro u hu; simp at hu; rcases hu with rfl | rfl | rfl | rfl <;> rfl) (by intro h; cases h) hp1 hp2 ?_
                intro A5 c5 w5 hr5 ho5 hA5
                rw [← HKA.out, ← HKB.out] at hr5
                obtain ⟨hT6, hO6, hB5⟩ := H3.out.grown (cnt := l.length) (id := id) (gG := w3.heap.size) (by repeat (first | exact Below.refl _ _ | apply ext_drew | apply ext_drewN | apply ext_alloc)) (by repeat (first | exact RowO.lit _ 3 1 1 #[.int .i64 (id : Int)] rfl (Nat.le_of_ble_eq_true rfl) (by first | rfl | (simp; done)) | apply RowO.drew | apply RowO.alloc)) (Nat.le_refl _) hr5 ho5 hA5
                have q1 := hB5.cell 1
                have f1 := hB5.free 1
                simp only [List.getElem?_toArray, List.getElem?_cons_zero, List.getElem?_cons_succ] at q1
                have HT6 := Lib.hid hT6
                have HO6 := Lib.hid hO6
                clear hr5 ho5 hA5 hT6 hO6 hB5
                refine hK.out _ _ ?_ (fun hHeld => ?_)
                · try dsimp only
                  try trivial
                clear hK K
                refine wpAnyH_take (i := 16) (v := ?_) (take_list rfl) (by kernel_rfl) (by kernel_rfl) (by kernel_rfl) (fun _ _ _ h => h) (Or.inl ⟨by rfl, ?_⟩) (by assumption) ?_
                rotate_left
                · intro w hSw
                  try dsimp only at hSw
                  first | (go_simp; done) | (go_simp; with_reducible rfl)
                try simp only [Act.put, List.setIfInBounds_toArray, List.set_cons_zero, List.set_cons_succ]
                refine wpAnyH_take (i := 17) (v := ?_) (take_list rfl) (by kernel_rfl) (by kernel_rfl) (by kernel_rfl) (fun _ _ _ h => h) (Or.inl ⟨by rfl, ?_⟩) (by assumption) ?_
                rotate_left
                · intro w hSw
                  try dsimp only at hSw
                  first | (go_simp; done) | (go_simp; with_reducible rfl)
                try simp only [Act.put, List.setIfInBounds_toArray, List.set_cons_zero, List.set_cons_succ]
                refine wpAnyH_ready (rs := [18]) (by kernel_rfl) (by simp) ?_
                refine AllReadyH.cons (take_list rfl) (fun K hK => ?_) ?_
                · skip
                  go_simp
                  refine hK.out _ _ ?_ (fun hHeld => ?_)
                  · try dsimp only
                    try trivial
                  clear hK K
                  refine wpAnyH_done (by kernel_rfl) ?_ _
                  have HT7 := Lib.hid (HT6.out)
                  have hT7 : RTIn (grewS S (w.alloc (.cells #[.int .i64 0, .slice none 0 0] 31)) (w5.setCell ⟨g, 1, none⟩ (.slice A5 (t.lv.length + 1) c5))) (w5.setCell ⟨g, 1, none⟩ (.slice A5 (t.lv.length + 1) c5)) g (addT t (ofL l) (t.lv ++ [⟨l.length, keyA l, keyB l, [id]⟩])) := ⟨_, _, _, _, _, _, none_wide Hw0.out HPn.out Hb1.out Hb2.out HO3.out HO6.out HT7.out⟩
                  have HT8 := Lib.hid hT7
                  have HO8 : Hid (Only S (w.alloc (.cells #[.int .i64 0, .slice none 0 0] 31)) (w5.setCell ⟨g, 1, none⟩ (.slice A5 (t.lv.length + 1) c5))) := Lib.hid (none_only Hw0.out HPn.out HOT.out Hb1.out Hb2.out HO3.out HO6.out)
                  have HTo := Lib.hid (told_any hT7 B e2 l ⟨HT.out.rd.only (Hw0.out ▸ HO8.out) HBS.out, HT.out.flat⟩ (by omega) (id := id) (by rw [Hid_.out]; unfold addT; simp) (by have := HIds.out; unfold addT; simp; omega) (by rw [Hid_.out]; have := HOL.out; have e := tmpl_new t (ofL l) (t.lv ++ [⟨l.length, keyA l, keyB l, [t.ts.length + 1]⟩]); rw [e]; omega))
                  have htm : tmpl (addT t (ofL l) (t.lv ++ [⟨l.length, keyA l, keyB l, [id]⟩])) id = ofL l := by rw [Hid_.out]; exact tmpl_new _ _ _
                  rw [htm] at HTo
                  have HB8 := Lib.hid (HB0.out.only (Hw0.out ▸ HO8.out) (fun hx => absurd (HSl.out _ hx) (Nat.lt_irrefl _)))
                  clear hT7 htm q1 f1
                  go_wp2_with fail
                  refine HTo.out.mono ?_
                  rintro e w8 ⟨V, cv, rfl, hN⟩
                  have HN := Lib.hid hN
                  have hX := HB8.out.ext hN.bel
                  clear hN
                  have k0 := hX.cell 0
                  have k1 := hX.cell 1
                  have f0 := hX.free 0
                  have f1 := hX.free 1
                  simp only [List.getElem?_toArray, List.getElem?_cons_zero, List.getElem?_cons_succ] at k0 k1
                  have hY := hX.put 0 (.int .i64 (id : Int))
                  have m0 := (hY.put 1 (.slice V (varsL (ofL l) l).length cv)).cell 0
                  have m1 := (hY.put 1 (.slice V (varsL (ofL l) l).length cv)).cell 1
                  have m2 := hY.cell 0
                  simp only [List.getElem?_toArray, List.setIfInBounds_toArray, List.set_cons_zero, List.set_cons_succ, List.getElem?_cons_zero, List.getElem?_cons_succ] at m0 m1 m2
                  clear hY hX
                  go_wp2
                  refine bodyPost_ret (v := .agg #[(.int .i64 (id : Int)), (.slice V (varsL (ofL l) l).length cv)]) (by simp [results, Try.results16, go_sem, m0, m1, m2]) rfl ?_
                  rw [← Hid_.out]
                  exact rasgd_end (id := id) HSl.out HT8.out HO8.out HN.out _ _ _ rfl
                exact AllReadyH.nil
              exact AllReadyH.nil
            exact AllReadyH.nil
          refine AllReadyH.cons (take_list rfl) (fun K hK => ?_) ?_
          · skip
            go_simp
            refine hK.out _ _ ?_ (fun hHeld => ?_)
            · try dsimp only
              try trivial
            clear hK K
            refine wpAnyH_ready (rs := [4]) (by kernel_rfl) (by simp) ?_
            refine AllReadyH.cons (take_list rfl) (fun K hK => ?_) ?_
            · skip
              have ql := HY1.out (((w3.drew).alloc (.cells #[.int .i64 (id : Int)] 3)).alloc (.cells #[.int .i64 (l.length : Int), .string KA, .string KB, .slice (some ⟨w3.heap.size, 0, none⟩) 1 1] 84)) (by repeat (first | exact Below.refl _ _ | apply ext_drew | apply ext_drewN | apply ext_alloc))
              have ql2 := HY1.out ((w3.alloc (.cells #[.int .i64 (id : Int)] 3)).alloc (.cells #[.int .i64 (l.length : Int), .string KA, .string KB, .slice (some ⟨w3.heap.size, 0, none⟩) 1 1] 84)) (by repeat (first | exact Below.refl _ _ | apply ext_drew | apply ext_drewN | apply ext_alloc))
              go_simp
              clear ql ql2
              refine hK.out _ _ ?_ (fun hHeld => ?_)
              · try dsimp only
                try trivial
              clear hK K
              refine wpAnyH_ready (rs := [15]) (by kernel_rfl) (by simp) ?_
              refine AllReadyH.cons (take_list rfl) (fun K hK => ?_) ?_
              · skip
                refine step_appO _ rfl (.tmp 56) (.tmp 66) _ rfl 84 _ 4 64 Try.underlying73 info_rleaf rfl R t.lv.length d ys rfl (H3.out.rows.ext (by repeat (first | exact Below.refl _ _ | apply ext_drew | apply ext_drewN | apply ext_alloc))) (some ⟨_, 0, none⟩) 1 1 [.int .i64 (l.length : Int), .string KA, .string KB, .slice (some ⟨w3.heap.size, 0, none⟩) 1 1] rfl rfl (by repeat (first | exact Rd.lit_at _ #[.int .i64 (l.length : Int), .string KA, .string KB, .slice (some ⟨w3.heap.size, 0, none⟩) 1 1] _ (by first | rfl | (simp [World.size_alloc]; done)) | apply Rd.drew | apply Rd.alloc)) (by intro u hu; simp at hu; rcases hu with rfl | rfl | rfl | rfl <;> rfl) (by intro h; cases h) hp1 hp2 ?_
                intro A5 c5 w5 hr5 ho5 hA5
                rw [← HKA.out, ← HKB.out] at hr5
                obtain ⟨hT6, hO6, hB5⟩ := H3.out.grown (cnt := l.length) (id := id) (gG := w3.heap.size) (by repeat (first | exact Below.refl _ _ | apply ext_drew | apply ext_drewN | apply ext_alloc)) (by repeat (first | exact RowO.lit _ 3 1 1 #[.int .i64 (id : Int)] rfl (Nat.le_of_ble_eq_true rfl) (by first | rfl | (simp; done)) | apply RowO.drew | apply RowO.alloc)) (Nat.le_refl _) hr5 ho5 hA5
                have q1 := hB5.cell 1
                have f1 := hB5.free 1
                simp only [List.getElem?_toArray, List.getElem?_cons_zero, List.getElem?_cons_succ] at q1
                have HT6 := Lib.hid hT6
                have HO6 := Lib.hid hO6
                clear hr5 ho5 hA5 hT6 hO6 hB5
                refine hK.out _ _ ?_ (fun hHeld => ?_)
                · try dsimp only
                  try trivial
                clear hK K
                refine wpAnyH_take (i := 16) (v := ?_) (take_list rfl) (by kernel_rfl) (by kernel_rfl) (by kernel_rfl) (fun _ _ _ h => h) (Or.inl ⟨by rfl, ?_⟩) (by assumption) ?_
                rotate_left
                · intro w hSw
                  try dsimp only at hSw
                  first | (go_simp; done) | (go_simp; with_reducible rfl)
                try simp only [Act.put, List.setIfInBounds_toArray, List.set_cons_zero, List.set_cons_succ]
                refine wpAnyH_take (i := 17) (v := ?_) (take_list rfl) (by kernel_rfl) (by kernel_rfl) (by kernel_rfl) (fun _ _ _ h => h) (Or.inl ⟨by rfl, ?_⟩) (by assumption) ?_
                rotate_left
                · intro w hSw
                  try dsimp only at hSw
                  first | (go_simp; done) | (go_simp; with_reducible rfl)
                try simp only [Act.put, List.setIfInBounds_toArray, List.set_cons_zero, List.set_cons_succ]
                refine wpAnyH_ready (rs := [18]) (by kernel_rfl) (by simp) ?_
                refine AllReadyH.cons (take_list rfl) (fun K hK => ?_) ?_
                · skip
                  go_simp
                  refine hK.out _ _ ?_ (fun hHeld => ?_)
                  · try dsimp only
                    try trivial
                  clear hK K
                  refine wpAnyH_done (by kernel_rfl) ?_ _
                  have HT7 := Lib.hid (HT6.out)
                  have hT7 : RTIn (grewS S (w.alloc (.cells #[.int .i64 0, .slice none 0 0] 31)) (w5.setCell ⟨g, 1, none⟩ (.slice A5 (t.lv.length + 1) c5))) (w5.setCell ⟨g, 1, none⟩ (.slice A5 (t.lv.length + 1) c5)) g (addT t (ofL l) (t.lv ++ [⟨l.length, keyA l, keyB l, [id]⟩])) := ⟨_, _, _, _, _, _, none_wide Hw0.out HPn.out Hb1.out Hb2.out HO3.out HO6.out HT7.out⟩
                  have HT8 := Lib.hid hT7
                  have HO8 : Hid (Only S (w.alloc (.cells #[.int .i64 0, .slice none 0 0] 31)) (w5.setCell ⟨g, 1, none⟩ (.slice A5 (t.lv.length + 1) c5))) := Lib.hid (none_only Hw0.out HPn.out HOT.out Hb1.out Hb2.out HO3.out HO6.out)
                  have HTo := Lib.hid (told_any hT7 B e2 l ⟨HT.out.rd.only (Hw0.out ▸ HO8.out) HBS.out, HT.out.flat⟩ (by omega) (id := id) (by rw [Hid_.out]; unfold addT; simp) (by have := HIds.out; unfold addT; simp; omega) (by rw [Hid_.out]; have := HOL.out; have e := tmpl_new t (ofL l) (t.lv ++ [⟨l.length, keyA l, keyB l, [t.ts.length + 1]⟩]); rw [e]; omega))
                  have htm : tmpl (addT t (ofL l) (t.lv ++ [⟨l.length, keyA l, keyB l, [id]⟩])) id = ofL l := by rw [Hid_.out]; exact tmpl_new _ _ _
                  rw [htm] at HTo
                  have HB8 := Lib.hid (HB0.out.only (Hw0.out ▸ HO8.out) (fun hx => absurd (HSl.out _ hx) (Nat.lt_irrefl _)))
                  clear hT7 htm q1 f1
                  go_wp2_with fail
                  refine HTo.out.mono ?_
                  rintro e w8 ⟨V, cv, rfl, hN⟩
                  have HN := Lib.hid hN
                  have hX := HB8.out.ext hN.bel
                  clear hN
                  have k0 := hX.cell 0
                  have k1 := hX.cell 1
                  have f0 := hX.free 0
                  have f1 := hX.free 1
                  simp only [List.getElem?_toArray, List.getElem?_cons_zero, List.getElem?_cons_succ] at k0 k1
                  have hY := hX.put 0 (.int .i64 (id : Int))
                  have m0 := (hY.put 1 (.slice V (varsL (ofL l) l).length cv)).cell 0
                  have m1 := (hY.put 1 (.slice V (varsL (ofL l) l).length cv)).cell 1
                  have m2 := hY.cell 0
                  simp only [List.getElem?_toArray, List.setIfInBounds_toArray, List.set_cons_zero, List.set_cons_succ, List.getElem?_cons_zero, List.getElem?_cons_succ] at m0 m1 m2
                  clear hY hX
                  go_wp2
                  refine bodyPost_ret (v := .agg #[(.int .i64 (id : Int)), (.slice V (varsL (ofL l) l).length cv)]) (by simp [results, Try.results16, go_sem, m0, m1, m2]) rfl ?_
                  rw [← Hid_.out]
                  exact rasgd_end (id := id) HSl.out HT8.out HO8.out HN.out _ _ _ rfl
                exact AllReadyH.nil
              exact AllReadyH.nil
            exact AllReadyH.nil
          exact AllReadyH.nil
        exact AllReadyH.nil
      refine AllReadyH.cons (take_list rfl) (fun K hK => ?_) ?_
      · skip
        go_simp
        refine hK.out _ _ ?_ (fun hHeld => ?_)
        · try dsimp only
          try trivial
        clear hK K
        refine wpAnyH_ready (rs := [4, 10]) (by kernel_rfl) (by simp) ?_
        refine AllReadyH.cons (take_list rfl) (fun K hK => ?_) ?_
        · skip
          have ql := HY1.out ((w3.drew).alloc (.cells #[.int .i64 (id : Int)] 3)) (by repeat (first | exact Below.refl _ _ | apply ext_drew | apply ext_drewN | apply ext_alloc))
          have ql2 := HY1.out (w3.alloc (.cells #[.int .i64 (id : Int)] 3)) (by repeat (first | exact Below.refl _ _ | apply ext_drew | apply ext_drewN | apply ext_alloc))
          go_simp
          clear ql ql2
          refine hK.out _ _ ?_ (fun hHeld => ?_)
          · try dsimp only
            try trivial
          clear hK K
          refine wpAnyH_ready (rs := [10]) (by kernel_rfl) (by simp) ?_
          refine AllReadyH.cons (take_list rfl) (fun K hK => ?_) ?_
          · skip
            go_simp
            refine (HK1.out _ (by repeat (first | exact Below.refl _ _ | apply ext_drew | apply ext_drewN | apply ext_alloc))).mono ?_
            rintro e x1 ⟨rfl, hx1⟩
            have hx1 := hx1.symm
            subst hx1
            dsimp only
            refine hK.out _ _ ?_ (fun hHeld => ?_)
            · try dsimp only
              try trivial
            clear hK K
            refine wpAnyH_take (i := 13) (v := ?_) (take_list rfl) (by kernel_rfl) (by kernel_rfl) (by kernel_rfl) (fun _ _ _ h => h) (Or.inl ⟨by rfl, ?_⟩) (by assumption) ?_
            rotate_left
            · intro w hSw
              try dsimp only at hSw
              first | (go_simp; done) | (go_simp; with_reducible rfl)
            try simp only [Act.put, List.setIfInBounds_toArray, List.set_cons_zero, List.set_cons_succ]
            refine wpAnyH_ready (rs := [14]) (by kernel_rfl) (by simp) ?_
            refine AllReadyH.cons (take_list rfl) (fun K hK => ?_) ?_
            · skip
              go_simp
              refine hK.out _ _ ?_ (fun hHeld => ?_)
              · try dsimp only
                try trivial
              clear hK K
              refine wpAnyH_ready (rs := [15]) (by kernel_rfl) (by simp) ?_
              refine AllReadyH.cons (take_list rfl) (fun K hK => ?_) ?_
              · skip
                refine step_appO _ rfl (.tmp 56) (.tmp 66) _ rfl 84 _ 4 64 Try.underlying73 info_rleaf rfl R t.lv.length d ys rfl (H3.out.rows.ext (by repeat (first | exact Below.refl _ _ | apply ext_drew | apply ext_drewN | apply ext_alloc))) (some ⟨_, 0, none⟩) 1 1 [.int .i64 (l.length : Int), .string KA, .string KB, .slice (some ⟨w3.heap.size, 0, none⟩) 1 1] rfl rfl (by repeat (first | exact Rd.lit_at _ #[.int .i64 (l.length : Int), .string KA, .string KB, .slice (some ⟨w3.heap.size, 0, none⟩) 1 1] _ (by first | rfl | (simp [World.size_alloc]; done)) | apply Rd.drew | apply Rd.alloc)) (by intro u hu; simp at hu; rcases hu with rfl | rfl | rfl | rfl <;> rfl) (by intro h; cases h) hp1 hp2 ?_
                intro A5 c5 w5 hr5 ho5 hA5
                rw [← HKA.out, ← HKB.out] at hr5
                obtain ⟨hT6, hO6, hB5⟩ := H3.out.grown (cnt := l.length) (id := id) (gG := w3.heap.size) (by repeat (first | exact Below.refl _ _ | apply ext_drew | apply ext_drewN | apply ext_alloc)) (by repeat (first | exact RowO.lit _ 3 1 1 #[.int .i64 (id : Int)] rfl (Nat.le_of_ble_eq_true rfl) (by first | rfl | (simp; done)) | apply RowO.drew | apply RowO.alloc)) (Nat.le_refl _) hr5 ho5 hA5
                have q1 := hB5.cell 1
                have f1 := hB5.free 1
                simp only [List.getElem?_toArray, List.getElem?_cons_zero, List.getElem?_cons_succ] at q1
                have HT6 := Lib.hid hT6
                have HO6 := Lib.hid hO6
                clear hr5 ho5 hA5 hT6 hO6 hB5
                refine hK.out _ _ ?_ (fun hHeld => ?_)
                · try dsimp only
                  try trivial
                clear hK K
                refine wpAnyH_take (i := 16) (v := ?_) (take_list rfl) (by kernel_rfl) (by kernel_rfl) (by kernel_rfl) (fun _ _ _ h => h) (Or.inl ⟨by rfl, ?_⟩) (by assumption) ?_
                rotate_left
                · intro w hSw
                  try dsimp only at hSw
                  first | (go_simp; done) | (go_simp; with_reducible rfl)
                try simp only [Act.put, List.setIfInBounds_toArray, List.set_cons_zero, List.set_cons_succ]
                refine wpAnyH_take (i := 17) (v := ?_) (take_list rfl) (by kernel_rfl) (by kernel_rfl) (by kernel_rfl) (fun _ _ _ h => h) (Or.inl ⟨by rfl, ?_⟩) (by assumption) ?_
                rotate_left
                · intro w hSw
                  try dsimp only at hSw
                  first | (go_simp; done) | (go_simp; with_reducible rfl)
                try simp only [Act.put, List.setIfInBounds_toArray, List.set_cons_zero, List.set_cons_succ]
                refine wpAnyH_ready (rs := [18]) (by kernel_rfl) (by simp) ?_
                refine AllReadyH.cons (take_list rfl) (fun K hK => ?_) ?_
                · skip
                  go_simp
                  refine hK.out _ _ ?_ (fun hHeld => ?_)
                  · try dsimp only
                    try trivial
                  clear hK K
                  refine wpAnyH_done (by kernel_rfl) ?_ _
                  have HT7 := Lib.hid (HT6.out)
                  have hT7 : RTIn (grewS S (w.alloc (.cells #[.int .i64 0, .slice none 0 0] 31)) (w5.setCell ⟨g, 1, none⟩ (.slice A5 (t.lv.length + 1) c5))) (w5.setCell ⟨g, 1, none⟩ (.slice A5 (t.lv.length + 1) c5)) g (addT t (ofL l) (t.lv ++ [⟨l.length, keyA l, keyB l, [id]⟩])) := ⟨_, _, _, _, _, _, none_wide Hw0.out HPn.out Hb1.out Hb2.out HO3.out HO6.out HT7.out⟩
                  have HT8 := Lib.hid hT7
                  have HO8 : Hid (Only S (w.alloc (.cells #[.int .i64 0, .slice none 0 0] 31)) (w5.setCell ⟨g, 1, none⟩ (.slice A5 (t.lv.length + 1) c5))) := Lib.hid (none_only Hw0.out HPn.out HOT.out Hb1.out Hb2.out HO3.out HO6.out)
                  have HTo := Lib.hid (told_any hT7 B e2 l ⟨HT.out.rd.only (Hw0.out ▸ HO8.out) HBS.out, HT.out.flat⟩ (by omega) (id := id) (by rw [Hid_.out]; unfold addT; simp) (by have := HIds.out; unfold addT; simp; omega) (by rw [Hid_.out]; have := HOL.out; have e := tmpl_new t (ofL l) (t.lv ++ [⟨l.length, keyA l, keyB l, [t.ts.length + 1]⟩]); rw [e]; omega))
                  have htm : tmpl (addT t (ofL l) (t.lv ++ [⟨l.length, keyA l, keyB l, [id]⟩])) id = ofL l := by rw [Hid_.out]; exact tmpl_new _ _ _
                  rw [htm] at HTo
                  have HB8 := Lib.hid (HB0.out.only (Hw0.out ▸ HO8.out) (fun hx => absurd (HSl.out _ hx) (Nat.lt_irrefl _)))
                  clear hT7 htm q1 f1
                  go_wp2_with fail
                  refine HTo.out.mono ?_
                  rintro e w8 ⟨V, cv, rfl, hN⟩
                  have HN := Lib.hid hN
                  have hX := HB8.out.ext hN.bel
                  clear hN
                  have k0 := hX.cell 0
                  have k1 := hX.cell 1
                  have f0 := hX.free 0
                  have f1 := hX.free 1
                  simp only [List.getElem?_toArray, List.getElem?_cons_zero, List.getElem?_cons_succ] at k0 k1
                  have hY := hX.put 0 (.int .i64 (id : Int))
                  have m0 := (hY.put 1 (.slice V (varsL (ofL l) l).length cv)).cell 0
                  have m1 := (hY.put 1 (.slice V (varsL (ofL l) l).length cv)).cell 1
                  have m2 := hY.cell 0
                  simp only [List.getElem?_toArray, List.setIfInBounds_toArray, List.set_cons_zero, List.set_cons_succ, List.getElem?_cons_zero, List.getElem?_cons_succ] at m0 m1 m2
                  clear hY hX
                  go_wp2
                  refine bodyPost_ret (v := .agg #[(.int .i64 (id : Int)), (.slice V (varsL (ofL l) l).length cv)]) (by simp [results, Try.results16, go_sem, m0, m1, m2]) rfl ?_
                  rw [← Hid_.out]
                  exact rasgd_end (id := id) HSl.out HT8.out HO8.out HN.out _ _ _ rfl
                exact AllReadyH.nil
              exact AllReadyH.nil
            exact AllReadyH.nil
          exact AllReadyH.nil
        refine AllReadyH.cons (take_list rfl) (fun K hK => ?_) ?_
        · skip
          go_simp
          refine (HK1.out _ (by repeat (first | exact Below.refl _ _ | apply ext_drew | apply ext_drewN | apply ext_alloc))).mono ?_
          rintro e x1 ⟨rfl, hx1⟩
          have hx1 := hx1.symm
          subst hx1
          dsimp only
          refine hK.out _ _ ?_ (fun hHeld => ?_)
          · try dsimp only
            try trivial
          clear hK K
          refine wpAnyH_take (i := 13) (v := ?_) (take_list rfl) (by kernel_rfl) (by kernel_rfl) (by kernel_rfl) (fun _ _ _ h => h) (Or.inl ⟨by rfl, ?_⟩) (by assumption) ?_
          rotate_left
          · intro w hSw
            try dsimp only at hSw
            first | (go_simp; done) | (go_simp; with_reducible rfl)
          try simp only [Act.put, List.setIfInBounds_toArray, List.set_cons_zero, List.set_cons_succ]
          refine wpAnyH_ready (rs := [4, 14]) (by kernel_rfl) (by simp) ?_
          refine AllReadyH.cons (take_list rfl) (fun K hK => ?_) ?_
          · skip
            have ql := HY1.out ((w3.drew).alloc (.cells #[.int .i64 (id : Int)] 3)) (by repeat (first | exact Below.refl _ _ | apply ext_drew | apply ext_drewN | apply ext_alloc))
            have ql2 := HY1.out (w3.alloc (.cells #[.int .i64 (id : Int)] 3)) (by repeat (first | exact Below.refl _ _ | apply ext_drew | apply ext_drewN | apply ext_alloc))
            go_simp
            clear ql ql2
            refine hK.out _ _ ?_ (fun hHeld => ?_)
            · try dsimp only
              try trivial
            clear hK K
            refine wpAnyH_ready (rs := [14]) (by kernel_rfl) (by simp) ?_
            refine AllReadyH.cons (take_list rfl) (fun K hK => ?_) ?_
            · skip
              go_simp
              refine hK.out _ _ ?_ (fun hHeld => ?_)
              · try dsimp only
                try trivial
              clear hK K
              refine wpAnyH_ready (rs := [15]) (by kernel_rfl) (by simp) ?_
              refine AllReadyH.cons (take_list rfl) (fun K hK => ?_) ?_
              · skip
                refine step_appO _ rfl (.tmp 56) (.tmp 66) _ rfl 84 _ 4 64 Try.underlying73 info_rleaf rfl R t.lv.length d ys rfl (H3.out.rows.ext (by repeat (first | exact Below.refl _ _ | apply ext_drew | apply ext_drewN | apply ext_alloc))) (some ⟨_, 0, none⟩) 1 1 [.int .i64 (l.length : Int), .string KA, .string KB, .slice (some ⟨w3.heap.size, 0, none⟩) 1 1] rfl rfl (by repeat (first | exact Rd.lit_at _ #[.int .i64 (l.length : Int), .string KA, .string KB, .slice (some ⟨w3.heap.size, 0, none⟩) 1 1] _ (by first | rfl | (simp [World.size_alloc]; done)) | apply Rd.drew | apply Rd.alloc)) (by intro u hu; simp at hu; rcases hu with rfl | rfl | rfl | rfl <;> rfl) (by intro h; cases h) hp1 hp2 ?_
                intro A5 c5 w5 hr5 ho5 hA5
                rw [← HKA.out, ← HKB.out] at hr5
                obtain ⟨hT6, hO6, hB5⟩ := H3.out.grown (cnt := l.length) (id := id) (gG := w3.heap.size) (by repeat (first | exact Below.refl _ _ | apply ext_drew | apply ext_drewN | apply ext_alloc)) (by repeat (first | exact RowO.lit _ 3 1 1 #[.int .i64 (id : Int)] rfl (Nat.le_of_ble_eq_true rfl) (by first | rfl | (simp; done)) | apply RowO.drew | apply RowO.alloc)) (Nat.le_refl _) hr5 ho5 hA5
                have q1 := hB5.cell 1
                have f1 := hB5.free 1
                simp only [List.getElem?_toArray, List.getElem?_cons_zero, List.getElem?_cons_succ] at q1
                have HT6 := Lib.hid hT6
                have HO6 := Lib.hid hO6
                clear hr5 ho5 hA5 hT6 hO6 hB5
                refine hK.out _ _ ?_ (fun hHeld => ?_)
                · try dsimp only
                  try trivial
                clear hK K
                refine wpAnyH_take (i := 16) (v := ?_) (take_list rfl) (by kernel_rfl) (by kernel_rfl) (by kernel_rfl) (fun _ _ _ h => h) (Or.inl ⟨by rfl, ?_⟩) (by assumption) ?_
                rotate_left
                · intro w hSw
                  try dsimp only at hSw
                  first | (go_simp; done) | (go_simp; with_reducible rfl)
                try simp only [Act.put, List.setIfInBounds_toArray, List.set_cons_zero, List.set_cons_succ]
                refine wpAnyH_take (i := 17) (v := ?_) (take_list rfl) (by kernel_rfl) (by kernel_rfl) (by kernel_rfl) (fun _ _ _ h => h) (Or.inl ⟨by rfl, ?_⟩) (by assumption) ?_
                rotate_left
                · intro w hSw
                  try dsimp only at hSw
                  first | (go_simp; done) | (go_simp; with_reducible rfl)
                try simp only [Act.put, List.setIfInBounds_toArray, List.set_cons_zero, List.set_cons_succ]
                refine wpAnyH_ready (rs := [18]) (by kernel_rfl) (by simp) ?_
                refine AllReadyH.cons (take_list rfl) (fun K hK => ?_) ?_
                · skip
                  go_simp
                  refine hK.out _ _ ?_ (fun hHeld => ?_)
                  · try dsimp only
                    try trivial
                  clear hK K
                  refine wpAnyH_done (by kernel_rfl) ?_ _
                  have HT7 := Lib.hid (HT6.out)
                  have hT7 : RTIn (grewS S (w.alloc (.cells #[.int .i64 0, .slice none 0 0] 31)) (w5.setCell ⟨g, 1, none⟩ (.slice A5 (t.lv.length + 1) c5))) (w5.setCell ⟨g, 1, none⟩ (.slice A5 (t.lv.length + 1) c5)) g (addT t (ofL l) (t.lv ++ [⟨l.length, keyA l, keyB l, [id]⟩])) := ⟨_, _, _, _, _, _, none_wide Hw0.out HPn.out Hb1.out Hb2.out HO3.out HO6.out HT7.out⟩
                  have HT8 := Lib.hid hT7
                  have HO8 : Hid (Only S (w.alloc (.cells #[.int .i64 0, .slice none 0 0] 31)) (w5.setCell ⟨g, 1, none⟩ (.slice A5 (t.lv.length + 1) c5))) := Lib.hid (none_only Hw0.out HPn.out HOT.out Hb1.out Hb2.out HO3.out HO6.out)
                  have HTo := Lib.hid (told_any hT7 B e2 l ⟨HT.out.rd.only (Hw0.out ▸ HO8.out) HBS.out, HT.out.flat⟩ (by omega) (id := id) (by rw [Hid_.out]; unfold addT; simp) (by have := HIds.out; unfold addT; simp; omega) (by rw [Hid_.out]; have := HOL.out; have e := tmpl_new t (ofL l) (t.lv ++ [⟨l.length, keyA l, keyB l, [t.ts.length + 1]⟩]); rw [e]; omega))
                  have htm : tmpl (addT t (ofL l) (t.lv ++ [⟨l.length, keyA l, keyB l, [id]⟩])) id = ofL l := by rw [Hid_.out]; exact tmpl_new _ _ _
                  rw [htm] at HTo
                  have HB8 := Lib.hid (HB0.out.only (Hw0.out ▸ HO8.out) (fun hx => absurd (HSl.out _ hx) (Nat.lt_irrefl _)))
                  clear hT7 htm q1 f1
                  go_wp2_with fail
                  refine HTo.out.mono ?_
                  rintro e w8 ⟨V, cv, rfl, hN⟩
                  have HN := Lib.hid hN
                  have hX := HB8.out.ext hN.bel
                  clear hN
                  have k0 := hX.cell 0
                  have k1 := hX.cell 1
                  have f0 := hX.free 0
                  have f1 := hX.free 1
                  simp only [List.getElem?_toArray, List.getElem?_cons_zero, List.getElem?_cons_succ] at k0 k1
                  have hY := hX.put 0 (.int .i64 (id : Int))
                  have m0 := (hY.put 1 (.slice V (varsL (ofL l) l).length cv)).cell 0
                  have m1 := (hY.put 1 (.slice V (varsL (ofL l) l).length cv)).cell 1
                  have m2 := hY.cell 0
                  simp only [List.getElem?_toArray, List.setIfInBounds_toArray, List.set_cons_zero, List.set_cons_succ, List.getElem?_cons_zero, List.getElem?_cons_succ] at m0 m1 m2
                  clear hY hX
                  go_wp2
                  refine bodyPost_ret (v := .agg #[(.int .i64 (id : Int)), (.slice V (varsL (ofL l) l).length cv)]) (by simp [results, Try.results16, go_sem, m0, m1, m2]) rfl ?_
                  rw [← Hid_.out]
                  exact rasgd_end (id := id) HSl.out HT8.out HO8.out HN.out _ _ _ rfl
                exact AllReadyH.nil
              exact AllReadyH.nil
            exact AllReadyH.nil
          refine AllReadyH.cons (take_list rfl) (fun K hK => ?_) ?_
          · skip
            go_simp
            refine hK.out _ _ ?_ (fun hHeld => ?_)
            · try dsimp only
              try trivial
            clear hK K
            refine wpAnyH_ready (rs := [4]) (by kernel_rfl) (by simp) ?_
            refine AllReadyH.cons (take_list rfl) (fun K hK => ?_) ?_
            · skip
              have ql := HY1.out (((w3.drew).alloc (.cells #[.int .i64 (id : Int)] 3)).alloc (.cells #[.int .i64 (l.length : Int), .string KA, .string KB, .slice (some ⟨w3.heap.size, 0, none⟩) 1 1] 84)) (by repeat (first | exact Below.refl _ _ | apply ext_drew | apply ext_drewN | apply ext_alloc))
              have ql2 := HY1.out ((w3.alloc (.cells #[.int .i64 (id : Int)] 3)).alloc (.cells #[.int .i64 (l.length : Int), .string KA, .string KB, .slice (some ⟨w3.heap.size, 0, none⟩) 1 1] 84)) (by repeat (first | exact Below.refl _ _ | apply ext_drew | apply ext_drewN | apply ext_alloc))
              go_simp
              clear ql ql2
              refine hK.out _ _ ?_ (fun hHeld => ?_)
              · try dsimp only
                try trivial
              clear hK K
              refine wpAnyH_ready (rs := [15]) (by kernel_rfl) (by simp) ?_
              refine AllReadyH.cons (take_list rfl) (fun K hK => ?_) ?_
              · skip
                refine step_appO _ rfl (.tmp 56) (.tmp 66) _ rfl 84 _ 4 64 Try.underlying73 info_rleaf rfl R t.lv.length d ys rfl (H3.out.rows.ext (by repeat (first | exact Below.refl _ _ | apply ext_drew | apply ext_drewN | apply ext_alloc))) (some ⟨_, 0, none⟩) 1 1 [.int .i64 (l.length : Int), .string KA, .string KB, .slice (some ⟨w3.heap.size, 0, none⟩) 1 1] rfl rfl (by repeat (first | exact Rd.lit_at _ #[.int .i64 (l.length : Int), .string KA, .string KB, .slice (some ⟨w3.heap.size, 0, none⟩) 1 1] _ (by first | rfl | (simp [World.size_alloc]; done)) | apply Rd.drew | apply Rd.alloc)) (by intro u hu; simp at hu; rcases hu with rfl | rfl | rfl | rfl <;> rfl) (by intro h; cases h) hp1 hp2 ?_
                intro A5 c5 w5 hr5 ho5 hA5
                rw [← HKA.out, ← HKB.out] at hr5
                obtain ⟨hT6, hO6, hB5⟩ := H3.out.grown (cnt := l.length) (id := id) (gG := w3.heap.size) (by repeat (first | exact Below.refl _ _ | apply ext_drew | apply ext_drewN | apply ext_alloc)) (by repeat (first | exact RowO.lit _ 3 1 1 #[.int .i64 (id : Int)] rfl (Nat.le_of_ble_eq_true rfl) (by first | rfl | (simp; done)) | apply RowO.drew | apply RowO.alloc)) (Nat.le_refl _) hr5 ho5 hA5
                have q1 := hB5.cell 1
                have f1 := hB5.free 1
                simp only [List.getElem?_toArray, List.getElem?_cons_zero, List.getElem?_cons_succ] at q1
                have HT6 := Lib.hid hT6
                have HO6 := Lib.hid hO6
                clear hr5 ho5 hA5 hT6 hO6 hB5
                refine hK.out _ _ ?_ (fun hHeld => ?_)
                · try dsimp only
                  try trivial
                clear hK K
                refine wpAnyH_take (i := 16) (v := ?_) (take_list rfl) (by kernel_rfl) (by kernel_rfl) (by kernel_rfl) (fun _ _ _ h => h) (Or.inl ⟨by rfl, ?_⟩) (by assumption) ?_
                rotate_left
                · intro w hSw
                  try dsimp only at hSw
                  first | (go_simp; done) | (go_simp; with_reducible rfl)
                try simp only [Act.put, List.setIfInBounds_toArray, List.set_cons_zero, List.set_cons_succ]
                refine wpAnyH_take (i := 17) (v := ?_) (take_list rfl) (by kernel_rfl) (by kernel_rfl) (by kernel_rfl) (fun _ _ _ h => h) (Or.inl ⟨by rfl, ?_⟩) (by assumption) ?_
                rotate_left
                · intro w hSw
                  try dsimp only at hSw
                  first | (go_simp; done) | (go_simp; with_reducible rfl)
                try simp only [Act.put, List.setIfInBounds_toArray, List.set_cons_zero, List.set_cons_succ]
                refine wpAnyH_ready (rs := [18]) (by kernel_rfl) (by simp) ?_
                refine AllReadyH.cons (take_list rfl) (fun K hK => ?_) ?_
                · skip
                  go_simp
                  refine hK.out _ _ ?_ (fun hHeld => ?_)
                  · try dsimp only
                    try trivial
                  clear hK K
                  refine wpAnyH_done (by kernel_rfl) ?_ _
                  have HT7 := Lib.hid (HT6.out)
                  have hT7 : RTIn (grewS S (w.alloc (.cells #[.int .i64 0, .slice none 0 0] 31)) (w5.setCell ⟨g, 1, none⟩ (.slice A5 (t.lv.length + 1) c5))) (w5.setCell ⟨g, 1, none⟩ (.slice A5 (t.lv.length + 1) c5)) g (addT t (ofL l) (t.lv ++ [⟨l.length, keyA l, keyB l, [id]⟩])) := ⟨_, _, _, _, _, _, none_wide Hw0.out HPn.out Hb1.out Hb2.out HO3.out HO6.out HT7.out⟩
                  have HT8 := Lib.hid hT7
                  have HO8 : Hid (Only S (w.alloc (.cells #[.int .i64 0, .slice none 0 0] 31)) (w5.setCell ⟨g, 1, none⟩ (.slice A5 (t.lv.length + 1) c5))) := Lib.hid (none_only Hw0.out HPn.out HOT.out Hb1.out Hb2.out HO3.out HO6.out)
                  have HTo := Lib.hid (told_any hT7 B e2 l ⟨HT.out.rd.only (Hw0.out ▸ HO8.out) HBS.out, HT.out.flat⟩ (by omega) (id := id) (by rw [Hid_.out]; unfold addT; simp) (by have := HIds.out; unfold addT; simp; omega) (by rw [Hid_.out]; have := HOL.out; have e := tmpl_new t (ofL l) (t.lv ++ [⟨l.length, keyA l, keyB l, [t.ts.length + 1]⟩]); rw [e]; omega))
                  have htm : tmpl (addT t (ofL l) (t.lv ++ [⟨l.length, keyA l, keyB l, [id]⟩])) id = ofL l := by rw [Hid_.out]; exact tmpl_new _ _ _
                  rw [htm] at HTo
                  have HB8 := Lib.hid (HB0.out.only (Hw0.out ▸ HO8.out) (fun hx => absurd (HSl.out _ hx) (Nat.lt_irrefl _)))
                  clear hT7 htm q1 f1
                  go_wp2_with fail
                  refine HTo.out.mono ?_
                  rintro e w8 ⟨V, cv, rfl, hN⟩
                  have HN := Lib.hid hN
                  have hX := HB8.out.ext hN.bel
                  clear hN
                  have k0 := hX.cell 0
                  have k1 := hX.cell 1
                  have f0 := hX.free 0
                  have f1 := hX.free 1
                  simp only [List.getElem?_toArray, List.getElem?_cons_zero, List.getElem?_cons_succ] at k0 k1
                  have hY := hX.put 0 (.int .i64 (id : Int))
                  have m0 := (hY.put 1 (.slice V (varsL (ofL l) l).length cv)).cell 0
                  have m1 := (hY.put 1 (.slice V (varsL (ofL l) l).length cv)).cell 1
                  have m2 := hY.cell 0
                  simp only [List.getElem?_toArray, List.setIfInBounds_toArray, List.set_cons_zero, List.set_cons_succ, List.getElem?_cons_zero, List.getElem?_cons_succ] at m0 m1 m2
                  clear hY hX
                  go_wp2
                  refine bodyPost_ret (v := .agg #[(.int .i64 (id : Int)), (.slice V (varsL (ofL l) l).length cv)]) (by simp [results, Try.results16, go_sem, m0, m1, m2]) rfl ?_
                  rw [← Hid_.out]
                  exact rasgd_end (id := id) HSl.out HT8.out HO8.out HN.out _ _ _ rfl
                exact AllReadyH.nil
              exact AllReadyH.nil
            exact AllReadyH.nil
          exact AllReadyH.nil
        exact AllReadyH.nil
      exact AllReadyH.nil
    refine AllReadyH.cons (take_list rfl) (fun K hK => ?_) ?_
    · skip
      go_simp
      refine hK.out _ _ ?_ (fun hHeld => ?_)
      · try dsimp only
        try trivial
      clear hK K
      refine wpAnyH_ready (rs := [4, 8]) (by kernel_rfl) (by simp) ?_
      refine AllReadyH.cons (take_list rfl) (fun K hK => ?_) ?_
      · skip
        have ql := HY1.out ((w3.drew).alloc (.cells #[.int .i64 (id : Int)] 3)) (by repeat (first | exact Below.refl _ _ | apply ext_drew | apply ext_drewN | apply ext_alloc))
        have ql2 := HY1.out (w3.alloc (.cells #[.int .i64 (id : Int)] 3)) (by repeat (first | exact Below.refl _ _ | apply ext_drew | apply ext_drewN | apply ext_alloc))
        go_simp
        clear ql ql2
        refine hK.out _ _ ?_ (fun hHeld => ?_)
        · try dsimp only
          try trivial
        clear hK K
        refine wpAnyH_ready (rs := [8]) (by kernel_rfl) (by simp) ?_
        refine AllReadyH.cons (take_list rfl) (fun K hK => ?_) ?_
        · skip
          go_simp
          refine (HK0.out _ (by repeat (first | exact Below.refl _ _ | apply ext_drew | apply ext_drewN | apply ext_alloc))).mono ?_
          rintro e x1 ⟨rfl, hx1⟩
          have hx1 := hx1.symm
          subst hx1
          dsimp only
          refine hK.out _ _ ?_ (fun hHeld => ?_)
          · try dsimp only
            try trivial
          clear hK K
          refine wpAnyH_ready (rs := [10]) (by kernel_rfl) (by simp) ?_
          refine AllReadyH.cons (take_list rfl) (fun K hK => ?_) ?_
          · skip
            go_simp
            refine (HK1.out _ (by repeat (first | exact Below.refl _ _ | apply ext_drew | apply ext_drewN | apply ext_alloc))).mono ?_
            rintro e x1 ⟨rfl, hx1⟩
            have hx1 := hx1.symm
            subst hx1
            dsimp only
            refine hK.out _ _ ?_ (fun hHeld => ?_)
            · try dsimp only
              try trivial
            clear hK K
            refine wpAnyH_take (i := 13) (v := ?_) (take_list rfl) (by kernel_rfl) (by kernel_rfl) (by kernel_rfl) (fun _ _ _ h => h) (Or.inl ⟨by rfl, ?_⟩) (by assumption) ?_
            rotate_left
            · intro w hSw
              try dsimp only at hSw
              first | (go_simp; done) | (go_simp; with_reducible rfl)
            try simp only [Act.put, List.setIfInBounds_toArray, List.set_cons_zero, List.set_cons_succ]
            refine wpAnyH_ready (rs := [14]) (by kernel_rfl) (by simp) ?_
            refine AllReadyH.cons (take_list rfl) (fun K hK => ?_) ?_
            · skip
              go_simp
              refine hK.out _ _ ?_ (fun hHeld => ?_)
              · try dsimp only
                try trivial
              clear hK K
              refine wpAnyH_ready (rs := [15]) (by kernel_rfl) (by simp) ?_
              refine AllReadyH.cons (take_list rfl) (fun K hK => ?_) ?_
              · skip
                refine step_appO _ rfl (.tmp 56) (.tmp 66) _ rfl 84 _ 4 64 Try.underlying73 info_rleaf rfl R t.lv.length d ys rfl (H3.out.rows.ext (by repeat (first | exact Below.refl _ _ | apply ext_drew | apply ext_drewN | apply ext_alloc))) (some ⟨_, 0, none⟩) 1 1 [.int .i64 (l.length : Int), .string KA, .string KB, .slice (some ⟨w3.heap.size, 0, none⟩) 1 1] rfl rfl (by repeat (first | exact Rd.lit_at _ #[.int .i64 (l.length : Int), .string KA, .string KB, .slice (some ⟨w3.heap.size, 0, none⟩) 1 1] _ (by first | rfl | (simp [World.size_alloc]; done)) | apply Rd.drew | apply Rd.alloc)) (by intro u hu; simp at hu; rcases hu with rfl | rfl | rfl | rfl <;> rfl) (by intro h; cases h) hp1 hp2 ?_
                intro A5 c5 w5 hr5 ho5 hA5
                rw [← HKA.out, ← HKB.out] at hr5
                obtain ⟨hT6, hO6, hB5⟩ := H3.out.grown (cnt := l.length) (id := id) (gG := w3.heap.size) (by repeat (first | exact Below.refl _ _ | apply ext_drew | apply ext_drewN | apply ext_alloc)) (by repeat (first | exact RowO.lit _ 3 1 1 #[.int .i64 (id : Int)] rfl (Nat.le_of_ble_eq_true rfl) (by first | rfl | (simp; done)) | apply RowO.drew | apply RowO.alloc)) (Nat.le_refl _) hr5 ho5 hA5
                have q1 := hB5.cell 1
                have f1 := hB5.free 1
                simp only [List.getElem?_toArray, List.getElem?_cons_zero, List.getElem?_cons_succ] at q1
                have HT6 := Lib.hid hT6
                have HO6 := Lib.hid hO6
                clear hr5 ho5 hA5 hT6 hO6 hB5
                refine hK.out _ _ ?_ (fun hHeld => ?_)
                · try dsimp only
                  try trivial
                clear hK K
                refine wpAnyH_take (i := 16) (v := ?_) (take_list rfl) (by kernel_rfl) (by kernel_rfl) (by kernel_rfl) (fun _ _ _ h => h) (Or.inl ⟨by rfl, ?_⟩) (by assumption) ?_
                rotate_left
                · intro w hSw
                  try dsimp only at hSw
                  first | (go_simp; done) | (go_simp; with_reducible rfl)
                try simp only [Act.put, List.setIfInBounds_toArray, List.set_cons_zero, List.set_cons_succ]
                refine wpAnyH_take (i := 17) (v := ?_) (take_list rfl) (by kernel_rfl) (by kernel_rfl) (by kernel_rfl) (fun _ _ _ h => h) (Or.inl ⟨by rfl, ?_⟩) (by assumption) ?_
                rotate_left
                · intro w hSw
                  try dsimp only at hSw
                  first | (go_simp; done) | (go_simp; with_reducible rfl)
                try simp only [Act.put, List.setIfInBounds_toArray, List.set_cons_zero, List.set_cons_succ]
                refine wpAnyH_ready (rs := [18]) (by kernel_rfl) (by simp) ?_
                refine AllReadyH.cons (take_list rfl) (fun K hK => ?_) ?_
                · skip
                  go_simp
                  refine hK.out _ _ ?_ (fun hHeld => ?_)
                  · try dsimp only
                    try trivial
                  clear hK K
                  refine wpAnyH_done (by kernel_rfl) ?_ _
                  have HT7 := Lib.hid (HT6.out)
                  have hT7 : RTIn (grewS S (w.alloc (.cells #[.int .i64 0, .slice none 0 0] 31)) (w5.setCell ⟨g, 1, none⟩ (.slice A5 (t.lv.length + 1) c5))) (w5.setCell ⟨g, 1, none⟩ (.slice A5 (t.lv.length + 1) c5)) g (addT t (ofL l) (t.lv ++ [⟨l.length, keyA l, keyB l, [id]⟩])) := ⟨_, _, _, _, _, _, none_wide Hw0.out HPn.out Hb1.out Hb2.out HO3.out HO6.out HT7.out⟩
                  have HT8 := Lib.hid hT7
                  have HO8 : Hid (Only S (w.alloc (.cells #[.int .i64 0, .slice none 0 0] 31)) (w5.setCell ⟨g, 1, none⟩ (.slice A5 (t.lv.length + 1) c5))) := Lib.hid (none_only Hw0.out HPn.out HOT.out Hb1.out Hb2.out HO3.out HO6.out)
                  have HTo := Lib.hid (told_any hT7 B e2 l ⟨HT.out.rd.only (Hw0.out ▸ HO8.out) HBS.out, HT.out.flat⟩ (by omega) (id := id) (by rw [Hid_.out]; unfold addT; simp) (by have := HIds.out; unfold addT; simp; omega) (by rw [Hid_.out]; have := HOL.out; have e := tmpl_new t (ofL l) (t.lv ++ [⟨l.length, keyA l, keyB l, [t.ts.length + 1]⟩]); rw [e]; omega))
                  have htm : tmpl (addT t (ofL l) (t.lv ++ [⟨l.length, keyA l, keyB l, [id]⟩])) id = ofL l := by rw [Hid_.out]; exact tmpl_new _ _ _
                  rw [htm] at HTo
                  have HB8 := Lib.hid (HB0.out.only (Hw0.out ▸ HO8.out) (fun hx => absurd (HSl.out _ hx) (Nat.lt_irrefl _)))
                  clear hT7 htm q1 f1
                  go_wp2_with fail
                  refine HTo.out.mono ?_
                  rintro e w8 ⟨V, cv, rfl, hN⟩
                  have HN := Lib.hid hN
                  have hX := HB8.out.ext hN.bel
                  clear hN
                  have k0 := hX.cell 0
                  have k1 := hX.cell 1
                  have f0 := hX.free 0
                  have f1 := hX.free 1
                  simp only [List.getElem?_toArray, List.getElem?_cons_zero, List.getElem?_cons_succ] at k0 k1
                  have hY := hX.put 0 (.int .i64 (id : Int))
                  have m0 := (hY.put 1 (.slice V (varsL (ofL l) l).length cv)).cell 0
                  have m1 := (hY.put 1 (.slice V (varsL (ofL l) l).length cv)).cell 1
                  have m2 := hY.cell 0
                  simp only [List.getElem?_toArray, List.setIfInBounds_toArray, List.set_cons_zero, List.set_cons_succ, List.getElem?_cons_zero, List.getElem?_cons_succ] at m0 m1 m2
                  clear hY hX
                  go_wp2
                  refine bodyPost_ret (v := .agg #[(.int .i64 (id : Int)), (.slice V (varsL (ofL l) l).length cv)]) (by simp [results, Try.results16, go_sem, m0, m1, m2]) rfl ?_
                  rw [← Hid_.out]
                  exact rasgd_end (id := id) HSl.out HT8.out HO8.out HN.out _ _ _ rfl
                exact AllReadyH.nil
              exact AllReadyH.nil
            exact AllReadyH.nil
          exact AllReadyH.nil
        exact AllReadyH.nil
      refine AllReadyH.cons (take_list rfl) (fun K hK => ?_) ?_
      · skip
        go_simp
        refine (HK0.out _ (by repeat (first | exact Below.refl _ _ | apply ext_drew | apply ext_drewN | apply ext_alloc))).mono ?_
        rintro e x1 ⟨rfl, hx1⟩
        have hx1 := hx1.symm
        subst hx1
        dsimp only
        refine hK.out _ _ ?_ (fun hHeld => ?_)
        · try dsimp only
          try trivial
        clear hK K
        refine wpAnyH_ready (rs := [4, 10]) (by kernel_rfl) (by simp) ?_
        refine AllReadyH.cons (take_list rfl) (fun K hK => ?_) ?_
        · skip
          have ql := HY1.out ((w3.drew).alloc (.cells #[.int .i64 (id : Int)] 3)) (by repeat (first | exact Below.refl _ _ | apply ext_drew | apply ext_drewN | apply ext_alloc))
          have ql2 := HY1.out (w3.alloc (.cells #[.int .i64 (id : Int)] 3)) (by repeat (first | exact Below.refl _ _ | apply ext_drew | apply ext_drewN | apply ext_alloc))
          go_simp
          clear ql ql2
          refine hK.out _ _ ?_ (fun hHeld => ?_)
          · try dsimp only
            try trivial
          clear hK K
          refine wpAnyH_ready (rs := [10]) (by kernel_rfl) (by simp) ?_
          refine AllReadyH.cons (take_list rfl) (fun K hK => ?_) ?_
          · skip
            go_simp
            refine (HK1.out _ (by repeat (first | exact Below.refl _ _ | apply ext_drew | apply ext_drewN | apply ext_alloc))).mono ?_
            rintro e x1 ⟨rfl, hx1⟩
            have hx1 := hx1.symm
            subst hx1
            dsimp only
            refine hK.out _ _ ?_ (fun hHeld => ?_)
            · try dsimp only
              try trivial
            clear hK K
            refine wpAnyH_take (i := 13) (v := ?_) (take_list rfl) (by kernel_rfl) (by kernel_rfl) (by kernel_rfl) (fun _ _ _ h => h) (Or.inl ⟨by rfl, ?_⟩) (by assumption) ?_
            rotate_left
            · intro w hSw
              try dsimp only at hSw
              first | (go_simp; done) | (go_simp; with_reducible rfl)
            try simp only [Act.put, List.setIfInBounds_toArray, List.set_cons_zero, List.set_cons_succ]
            refine wpAnyH_ready (rs := [14]) (by kernel_rfl) (by simp) ?_
            refine AllReadyH.cons (take_list rfl) (fun K hK => ?_) ?_
            · skip
              go_simp
              refine hK.out _ _ ?_ (fun hHeld => ?_)
              · try dsimp only
                try trivial
              clear hK K
              refine wpAnyH_ready (rs := [15]) (by kernel_rfl) (by simp) ?_
              refine AllReadyH.cons (take_list rfl) (fun K hK => ?_) ?_
              · skip
                refine step_appO _ rfl (.tmp 56) (.tmp 66) _ rfl 84 _ 4 64 Try.underlying73 info_rleaf rfl R t.lv.length d ys rfl (H3.out.rows.ext (by repeat (first | exact Below.refl _ _ | apply ext_drew | apply ext_drewN | apply ext_alloc))) (some ⟨_, 0, none⟩) 1 1 [.int .i64 (l.length : Int), .string KA, .string KB, .slice (some ⟨w3.heap.size, 0, none⟩) 1 1] rfl rfl (by repeat (first | exact Rd.lit_at _ #[.int .i64 (l.length : Int), .string KA, .string KB, .slice (some ⟨w3.heap.size, 0, none⟩) 1 1] _ (by first | rfl | (simp [World.size_alloc]; done)) | apply Rd.drew | apply Rd.alloc)) (by intro u hu; simp at hu; rcases hu with rfl | rfl | rfl | rfl <;> rfl) (by intro h; cases h) hp1 hp2 ?_
                intro A5 c5 w5 hr5 ho5 hA5
                rw [← HKA.out, ← HKB.out] at hr5
                obtain ⟨hT6, hO6, hB5⟩ := H3.out.grown (cnt := l.length) (id := id) (gG := w3.heap.size) (by repeat (first | exact Below.refl _ _ | apply ext_drew | apply ext_drewN | apply ext_alloc)) (by repeat (first | exact RowO.lit _ 3 1 1 #[.int .i64 (id : Int)] rfl (Nat.le_of_ble_eq_true rfl) (by first | rfl | (simp; done)) | apply RowO.drew | apply RowO.alloc)) (Nat.le_refl _) hr5 ho5 hA5
                have q1 := hB5.cell 1
                have f1 := hB5.free 1
                simp only [List.getElem?_toArray, List.getElem?_cons_zero, List.getElem?_cons_succ] at q1
                have HT6 := Lib.hid hT6
                have HO6 := Lib.hid hO6
                clear hr5 ho5 hA5 hT6 hO6 hB5
                refine hK.out _ _ ?_ (fun hHeld => ?_)
                · try dsimp only
                  try trivial
                clear hK K
                refine wpAnyH_take (i := 16) (v := ?_) (take_list rfl) (by kernel_rfl) (by kernel_rfl) (by kernel_rfl) (fun _ _ _ h => h) (Or.inl ⟨by rfl, ?_⟩) (by assumption) ?_
                rotate_left
                · intro w hSw
                  try dsimp only at hSw
                  first | (go_simp; done) | (go_simp; with_reducible rfl)
                try simp only [Act.put, List.setIfInBounds_toArray, List.set_cons_zero, List.set_cons_succ]
                refine wpAnyH_take (i := 17) (v := ?_) (take_list rfl) (by kernel_rfl) (by kernel_rfl) (by kernel_rfl) (fun _ _ _ h => h) (Or.inl ⟨by rfl, ?_⟩) (by assumption) ?_
                rotate_left
                · intro w hSw
                  try dsimp only at hSw
                  first | (go_simp; done) | (go_simp; with_reducible rfl)
                try simp only [Act.put, List.setIfInBounds_toArray, List.set_cons_zero, List.set_cons_succ]
                refine wpAnyH_ready (rs := [18]) (by kernel_rfl) (by simp) ?_
                refine AllReadyH.cons (take_list rfl) (fun K hK => ?_) ?_
                · skip
                  go_simp
                  refine hK.out _ _ ?_ (fun hHeld => ?_)
                  · try dsimp only
                    try trivial
                  clear hK K
                  refine wpAnyH_done (by kernel_rfl) ?_ _
                  have HT7 := Lib.hid (HT6.out)
                  have hT7 : RTIn (grewS S (w.alloc (.cells #[.int .i64 0, .slice none 0 0] 31)) (w5.setCell ⟨g, 1, none⟩ (.slice A5 (t.lv.length + 1) c5))) (w5.setCell ⟨g, 1, none⟩ (.slice A5 (t.lv.length + 1) c5)) g (addT t (ofL l) (t.lv ++ [⟨l.length, keyA l, keyB l, [id]⟩])) := ⟨_, _, _, _, _, _, none_wide Hw0.out HPn.out Hb1.out Hb2.out HO3.out HO6.out HT7.out⟩
                  have HT8 := Lib.hid hT7
                  have HO8 : Hid (Only S (w.alloc (.cells #[.int .i64 0, .slice none 0 0] 31)) (w5.setCell ⟨g, 1, none⟩ (.slice A5 (t.lv.length + 1) c5))) := Lib.hid (none_only Hw0.out HPn.out HOT.out Hb1.out Hb2.out HO3.out HO6.out)
                  have HTo := Lib.hid (told_any hT7 B e2 l ⟨HT.out.rd.only (Hw0.out ▸ HO8.out) HBS.out, HT.out.flat⟩ (by omega) (id := id) (by rw [Hid_.out]; unfold addT; simp) (by have := HIds.out; unfold addT; simp; omega) (by rw [Hid_.out]; have := HOL.out; have e := tmpl_new t (ofL l) (t.lv ++ [⟨l.length, keyA l, keyB l, [t.ts.length + 1]⟩]); rw [e]; omega))
                  have htm : tmpl (addT t (ofL l) (t.lv ++ [⟨l.length, keyA l, keyB l, [id]⟩])) id = ofL l := by rw [Hid_.out]; exact tmpl_new _ _ _
                  rw [htm] at HTo
                  have HB8 := Lib.hid (HB0.out.only (Hw0.out ▸ HO8.out) (fun hx => absurd (HSl.out _ hx) (Nat.lt_irrefl _)))
                  clear hT7 htm q1 f1
                  go_wp2_with fail
                  refine HTo.out.mono ?_
                  rintro e w8 ⟨V, cv, rfl, hN⟩
                  have HN := Lib.hid hN
                  have hX := HB8.out.ext hN.bel
                  clear hN
                  have k0 := hX.cell 0
                  have k1 := hX.cell 1
                  have f0 := hX.free 0
                  have f1 := hX.free 1
                  simp only [List.getElem?_toArray, List.getElem?_cons_zero, List.getElem?_cons_succ] at k0 k1
                  have hY := hX.put 0 (.int .i64 (id : Int))
                  have m0 := (hY.put 1 (.slice V (varsL (ofL l) l).length cv)).cell 0
                  have m1 := (hY.put 1 (.slice V (varsL (ofL l) l).length cv)).cell 1
                  have m2 := hY.cell 0
                  simp only [List.getElem?_toArray, List.setIfInBounds_toArray, List.set_cons_zero, List.set_cons_succ, List.getElem?_cons_zero, List.getElem?_cons_succ] at m0 m1 m2
                  clear hY hX
                  go_wp2
                  refine bodyPost_ret (v := .agg #[(.int .i64 (id : Int)), (.slice V (varsL (ofL l) l).length cv)]) (by simp [results, Try.results16, go_sem, m0, m1, m2]) rfl ?_
                  rw [← Hid_.out]
                  exact rasgd_end (id := id) HSl.out HT8.out HO8.out HN.out _ _ _ rfl
                exact AllReadyH.nil
              exact AllReadyH.nil
            exact AllReadyH.nil
          exact AllReadyH.nil
        refine AllReadyH.cons (take_list rfl) (fun K hK => ?_) ?_
        · skip
          go_simp
          refine (HK1.out _ (by repeat (first | exact Below.refl _ _ | apply ext_drew | apply ext_drewN | apply ext_alloc))).mono ?_
          rintro e x1 ⟨rfl, hx1⟩
          have hx1 := hx1.symm
          subst hx1
          dsimp only
          refine hK.out _ _ ?_ (fun hHeld => ?_)
          · try dsimp only
            try trivial
          clear hK K
          refine wpAnyH_take (i := 13) (v := ?_) (take_list rfl) (by kernel_rfl) (by kernel_rfl) (by kernel_rfl) (fun _ _ _ h => h) (Or.inl ⟨by rfl, ?_⟩) (by assumption) ?_
          rotate_left
          · intro w hSw
            try dsimp only at hSw
            first | (go_simp; done) | (go_simp; with_reducible rfl)
          try simp only [Act.put, List.setIfInBounds_toArray, List.set_cons_zero, List.set_cons_succ]
          refine wpAnyH_ready (rs := [4, 14]) (by kernel_rfl) (by simp) ?_
          refine AllReadyH.cons (take_list rfl) (fun K hK => ?_) ?_
          · skip
            have ql := HY1.out ((w3.drew).alloc (.cells #[.int .i64 (id : Int)] 3)) (by repeat (first | exact Below.refl _ _ | apply ext_drew | apply ext_drewN | apply ext_alloc))
            have ql2 := HY1.out (w3.alloc (.cells #[.int .i64 (id : Int)] 3)) (by repeat (first | exact Below.refl _ _ | apply ext_drew | apply ext_drewN | apply ext_alloc))
            go_simp
            clear ql ql2
            refine hK.out _ _ ?_ (fun hHeld => ?_)
            · try dsimp only
              try trivial
            clear hK K
            refine wpAnyH_ready (rs := [14]) (by kernel_rfl) (by simp) ?_
            refine AllReadyH.cons (take_list rfl) (fun K hK => ?_) ?_
            · skip
              go_simp
              refine hK.out _ _ ?_ (fun hHeld => ?_)
              · try dsimp only
                try trivial
              clear hK K
              refine wpAnyH_ready (rs := [15]) (by kernel_rfl) (by simp) ?_
              refine AllReadyH.cons (take_list rfl) (fun K hK => ?_) ?_
              · skip
                refine step_appO _ rfl (.tmp 56) (.tmp 66) _ rfl 84 _ 4 64 Try.underlying73 info_rleaf rfl R t.lv.length d ys rfl (H3.out.rows.ext (by repeat (first | exact Below.refl _ _ | apply ext_drew | apply ext_drewN | apply ext_alloc))) (some ⟨_, 0, none⟩) 1 1 [.int .i64 (l.length : Int), .string KA, .string KB, .slice (some ⟨w3.heap.size, 0, none⟩) 1 1] rfl rfl (by repeat (first | exact Rd.lit_at _ #[.int .i64 (l.length : Int), .string KA, .string KB, .slice (some ⟨w3.heap.size, 0, none⟩) 1 1] _ (by first | rfl | (simp [World.size_alloc]; done)) | apply Rd.drew | apply Rd.alloc)) (by intro u hu; simp at hu; rcases hu with rfl | rfl | rfl | rfl <;> rfl) (by intro h; cases h) hp1 hp2 ?_
                intro A5 c5 w5 hr5 ho5 hA5
                rw [← HKA.out, ← HKB.out] at hr5
                obtain ⟨hT6, hO6, hB5⟩ := H3.out.grown (cnt := l.length) (id := id) (gG := w3.heap.size) (by repeat (first | exact Below.refl _ _ | apply ext_drew | apply ext_drewN | apply ext_alloc)) (by repeat (first | exact RowO.lit _ 3 1 1 #[.int .i64 (id : Int)] rfl (Nat.le_of_ble_eq_true rfl) (by first | rfl | (simp; done)) | apply RowO.drew | apply RowO.alloc)) (Nat.le_refl _) hr5 ho5 hA5
                have q1 := hB5.cell 1
                have f1 := hB5.free 1
                simp only [List.getElem?_toArray, List.getElem?_cons_zero, List.getElem?_cons_succ] at q1
                have HT6 := Lib.hid hT6
                have HO6 := Lib.hid hO6
                clear hr5 ho5 hA5 hT6 hO6 hB5
                refine hK.out _ _ ?_ (fun hHeld => ?_)
                · try dsimp only
                  try trivial
                clear hK K
                refine wpAnyH_take (i := 16) (v := ?_) (take_list rfl) (by kernel_rfl) (by kernel_rfl) (by kernel_rfl) (fun _ _ _ h => h) (Or.inl ⟨by rfl, ?_⟩) (by assumption) ?_
                rotate_left
                · intro w hSw
                  try dsimp only at hSw
                  first | (go_simp; done) | (go_simp; with_reducible rfl)
                try simp only [Act.put, List.setIfInBounds_toArray, List.set_cons_zero, List.set_cons_succ]
                refine wpAnyH_take (i := 17) (v := ?_) (take_list rfl) (by kernel_rfl) (by kernel_rfl) (by kernel_rfl) (fun _ _ _ h => h) (Or.inl ⟨by rfl, ?_⟩) (by assumption) ?_
                rotate_left
                · intro w hSw
                  try dsimp only at hSw
                  first | (go_simp; done) | (go_simp; with_reducible rfl)
                try simp only [Act.put, List.setIfInBounds_toArray, List.set_cons_zero, List.set_cons_succ]
                refine wpAnyH_ready (rs := [18]) (by kernel_rfl) (by simp) ?_
                refine AllReadyH.cons (take_list rfl) (fun K hK => ?_) ?_
                · skip
                  go_simp
                  refine hK.out _ _ ?_ (fun hHeld => ?_)
                  · try dsimp only
                    try trivial
                  clear hK K
                  refine wpAnyH_done (by kernel_rfl) ?_ _
                  have HT7 := Lib.hid (HT6.out)
                  have hT7 : RTIn (grewS S (w.alloc (.cells #[.int .i64 0, .slice none 0 0] 31)) (w5.setCell ⟨g, 1, none⟩ (.slice A5 (t.lv.length + 1) c5))) (w5.setCell ⟨g, 1, none⟩ (.slice A5 (t.lv.length + 1) c5)) g (addT t (ofL l) (t.lv ++ [⟨l.length, keyA l, keyB l, [id]⟩])) := ⟨_, _, _, _, _, _, none_wide Hw0.out HPn.out Hb1.out Hb2.out HO3.out HO6.out HT7.out⟩
                  have HT8 := Lib.hid hT7
                  have HO8 : Hid (Only S (w.alloc (.cells #[.int .i64 0, .slice none 0 0] 31)) (w5.setCell ⟨g, 1, none⟩ (.slice A5 (t.lv.length + 1) c5))) := Lib.hid (none_only Hw0.out HPn.out HOT.out Hb1.out Hb2.out HO3.out HO6.out)
                  have HTo := Lib.hid (told_any hT7 B e2 l ⟨HT.out.rd.only (Hw0.out ▸ HO8.out) HBS.out, HT.out.flat⟩ (by omega) (id := id) (by rw [Hid_.out]; unfold addT; simp) (by have := HIds.out; unfold addT; simp; omega) (by rw [Hid_.out]; have := HOL.out; have e := tmpl_new t (ofL l) (t.lv ++ [⟨l.length, keyA l, keyB l, [t.ts.length + 1]⟩]); rw [e]; omega))
                  have htm : tmpl (addT t (ofL l) (t.lv ++ [⟨l.length, keyA l, keyB l, [id]⟩])) id = ofL l := by rw [Hid_.out]; exact tmpl_new _ _ _
                  rw [htm] at HTo
                  have HB8 := Lib.hid (HB0.out.only (Hw0.out ▸ HO8.out) (fun hx => absurd (HSl.out _ hx) (Nat.lt_irrefl _)))
                  clear hT7 htm q1 f1
                  go_wp2_with fail
                  refine HTo.out.mono ?_
                  rintro e w8 ⟨V, cv, rfl, hN⟩
                  have HN := Lib.hid hN
                  have hX := HB8.out.ext hN.bel
                  clear hN
                  have k0 := hX.cell 0
                  have k1 := hX.cell 1
                  have f0 := hX.free 0
                  have f1 := hX.free 1
                  simp only [List.getElem?_toArray, List.getElem?_cons_zero, List.getElem?_cons_succ] at k0 k1
                  have hY := hX.put 0 (.int .i64 (id : Int))
                  have m0 := (hY.put 1 (.slice V (varsL (ofL l) l).length cv)).cell 0
                  have m1 := (hY.put 1 (.slice V (varsL (ofL l) l).length cv)).cell 1
                  have m2 := hY.cell 0
                  simp only [List.getElem?_toArray, List.setIfInBounds_toArray, List.set_cons_zero, List.set_cons_succ, List.getElem?_cons_zero, List.getElem?_cons_succ] at m0 m1 m2
                  clear hY hX
                  go_wp2
                  refine bodyPost_ret (v := .agg #[(.int .i64 (id : Int)), (.slice V (varsL (ofL l) l).length cv)]) (by simp [results, Try.results16, go_sem, m0, m1, m2]) rfl ?_
                  rw [← Hid_.out]
                  exact rasgd_end (id := id) HSl.out HT8.out HO8.out HN.out _ _ _ rfl
                exact AllReadyH.nil
              exact AllReadyH.nil
            exact AllReadyH.nil
          refine AllReadyH.cons (take_list rfl) (fun K hK => ?_) ?_
          · skip
            go_simp
            refine hK.out _ _ ?_ (fun hHeld => ?_)
            · try dsimp only
              try trivial
            clear hK K
            refine wpAnyH_ready (rs := [4]) (by kernel_rfl) (by simp) ?_
            refine AllReadyH.cons (take_list rfl) (fun K hK => ?_) ?_
            · skip
              have ql := HY1.out (((w3.drew).alloc (.cells #[.int .i64 (id : Int)] 3)).alloc (.cells #[.int .i64 (l.length : Int), .string KA, .string KB, .slice (some ⟨w3.heap.size, 0, none⟩) 1 1] 84)) (by repeat (first | exact Below.refl _ _ | apply ext_drew | apply ext_drewN | apply ext_alloc))
              have ql2 := HY1.out ((w3.alloc (.cells #[.int .i64 (id : Int)] 3)).alloc (.cells #[.int .i64 (l.length : Int), .string KA, .string KB, .slice (some ⟨w3.heap.size, 0, none⟩) 1 1] 84)) (by repeat (first | exact Below.refl _ _ | apply ext_drew | apply ext_drewN | apply ext_alloc))
              go_simp
              clear ql ql2
              refine hK.out _ _ ?_ (fun hHeld => ?_)
              · try dsimp only
                try trivial
              clear hK K
              refine wpAnyH_ready (rs := [15]) (by kernel_rfl) (by simp) ?_
              refine AllReadyH.cons (take_list rfl) (fun K hK => ?_) ?_
              · skip
                refine step_appO _ rfl (.tmp 56) (.tmp 66) _ rfl 84 _ 4 64 Try.underlying73 info_rleaf rfl R t.lv.length d ys rfl (H3.out.rows.ext (by repeat (first | exact Below.refl _ _ | apply ext_drew | apply ext_drewN | apply ext_alloc))) (some ⟨_, 0, none⟩) 1 1 [.int .i64 (l.length : Int), .string KA, .string KB, .slice (some ⟨w3.heap.size, 0, none⟩) 1 1] rfl rfl (by repeat (first | exact Rd.lit_at _ #[.int .i64 (l.length : Int), .string KA, .string KB, .slice (some ⟨w3.heap.size, 0, none⟩) 1 1] _ (by first | rfl | (simp [World.size_alloc]; done)) | apply Rd.drew | apply Rd.alloc)) (by intro u hu; simp at hu; rcases hu with rfl | rfl | rfl | rfl <;> rfl) (by intro h; cases h) hp1 hp2 ?_
                intro A5 c5 w5 hr5 ho5 hA5
                rw [← HKA.out, ← HKB.out] at hr5
                obtain ⟨hT6, hO6, hB5⟩ := H3.out.grown (cnt := l.length) (id := id) (gG := w3.heap.size) (by repeat (first | exact Below.refl _ _ | apply ext_drew | apply ext_drewN | apply ext_alloc)) (by repeat (first | exact RowO.lit _ 3 1 1 #[.int .i64 (id : Int)] rfl (Nat.le_of_ble_eq_true rfl) (by first | rfl | (simp; done)) | apply RowO.drew | apply RowO.alloc)) (Nat.le_refl _) hr5 ho5 hA5
                have q1 := hB5.cell 1
                have f1 := hB5.free 1
                simp only [List.getElem?_toArray, List.getElem?_cons_zero, List.getElem?_cons_succ] at q1
                have HT6 := Lib.hid hT6
                have HO6 := Lib.hid hO6
                clear hr5 ho5 hA5 hT6 hO6 hB5
                refine hK.out _ _ ?_ (fun hHeld => ?_)
                · try dsimp only
                  try trivial
                clear hK K
                refine wpAnyH_take (i := 16) (v := ?_) (take_list rfl) (by kernel_rfl) (by kernel_rfl) (by kernel_rfl) (fun _ _ _ h => h) (Or.inl ⟨by rfl, ?_⟩) (by assumption) ?_
                rotate_left
                · intro w hSw
                  try dsimp only at hSw
                  first | (go_simp; done) | (go_simp; with_reducible rfl)
                try simp only [Act.put, List.setIfInBounds_toArray, List.set_cons_zero, List.set_cons_succ]
                refine wpAnyH_take (i := 17) (v := ?_) (take_list rfl) (by kernel_rfl) (by kernel_rfl) (by kernel_rfl) (fun _ _ _ h => h) (Or.inl ⟨by rfl, ?_⟩) (by assumption) ?_
                rotate_left
                · intro w hSw
                  try dsimp only at hSw
                  first | (go_simp; done) | (go_simp; with_reducible rfl)
                try simp only [Act.put, List.setIfInBounds_toArray, List.set_cons_zero, List.set_cons_succ]
                refine wpAnyH_ready (rs := [18]) (by kernel_rfl) (by simp) ?_
                refine AllReadyH.cons (take_list rfl) (fun K hK => ?_) ?_
                · skip
                  go_simp
                  refine hK.out _ _ ?_ (fun hHeld => ?_)
                  · try dsimp only
                    try trivial
                  clear hK K
                  refine wpAnyH_done (by kernel_rfl) ?_ _
                  have HT7 := Lib.hid (HT6.out)
                  have hT7 : RTIn (grewS S (w.alloc (.cells #[.int .i64 0, .slice none 0 0] 31)) (w5.setCell ⟨g, 1, none⟩ (.slice A5 (t.lv.length + 1) c5))) (w5.setCell ⟨g, 1, none⟩ (.slice A5 (t.lv.length + 1) c5)) g (addT t (ofL l) (t.lv ++ [⟨l.length, keyA l, keyB l, [id]⟩])) := ⟨_, _, _, _, _, _, none_wide Hw0.out HPn.out Hb1.out Hb2.out HO3.out HO6.out HT7.out⟩
                  have HT8 := Lib.hid hT7
                  have HO8 : Hid (Only S (w.alloc (.cells #[.int .i64 0, .slice none 0 0] 31)) (w5.setCell ⟨g, 1, none⟩ (.slice A5 (t.lv.length + 1) c5))) := Lib.hid (none_only Hw0.out HPn.out HOT.out Hb1.out Hb2.out HO3.out HO6.out)
                  have HTo := Lib.hid (told_any hT7 B e2 l ⟨HT.out.rd.only (Hw0.out ▸ HO8.out) HBS.out, HT.out.flat⟩ (by omega) (id := id) (by rw [Hid_.out]; unfold addT; simp) (by have := HIds.out; unfold addT; simp; omega) (by rw [Hid_.out]; have := HOL.out; have e := tmpl_new t (ofL l) (t.lv ++ [⟨l.length, keyA l, keyB l, [t.ts.length + 1]⟩]); rw [e]; omega))
                  have htm : tmpl (addT t (ofL l) (t.lv ++ [⟨l.length, keyA l, keyB l, [id]⟩])) id = ofL l := by rw [Hid_.out]; exact tmpl_new _ _ _
                  rw [htm] at HTo
                  have HB8 := Lib.hid (HB0.out.only (Hw0.out ▸ HO8.out) (fun hx => absurd (HSl.out _ hx) (Nat.lt_irrefl _)))
                  clear hT7 htm q1 f1
                  go_wp2_with fail
                  refine HTo.out.mono ?_
                  rintro e w8 ⟨V, cv, rfl, hN⟩
                  have HN := Lib.hid hN
                  have hX := HB8.out.ext hN.bel
                  clear hN
                  have k0 := hX.cell 0
                  have k1 := hX.cell 1
                  have f0 := hX.free 0
                  have f1 := hX.free 1
                  simp only [List.getElem?_toArray, List.getElem?_cons_zero, List.getElem?_cons_succ] at k0 k1
                  have hY := hX.put 0 (.int .i64 (id : Int))
                  have m0 := (hY.put 1 (.slice V (varsL (ofL l) l).length cv)).cell 0
                  have m1 := (hY.put 1 (.slice V (varsL (ofL l) l).length cv)).cell 1
                  have m2 := hY.cell 0
                  simp only [List.getElem?_toArray, List.setIfInBounds_toArray, List.set_cons_zero, List.set_cons_succ, List.getElem?_cons_zero, List.getElem?_cons_succ] at m0 m1 m2
                  clear hY hX
                  go_wp2
                  refine bodyPost_ret (v := .agg #[(.int .i64 (id : Int)), (.slice V (varsL (ofL l) l).length cv)]) (by simp [results, Try.results16, go_sem, m0, m1, m2]) rfl ?_
                  rw [← Hid_.out]
                  exact rasgd_end (id := id) HSl.out HT8.out HO8.out HN.out _ _ _ rfl
                exact AllReadyH.nil
              exact AllReadyH.nil
            exact AllReadyH.nil
          exact AllReadyH.nil
        exact AllReadyH.nil
      exact AllReadyH.nil
    exact AllReadyH.nil
end
end Go.Proofs.Ytdghbdiapkelnaa
