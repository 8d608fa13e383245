/-
  Texts of this claim, joined (part 10): contracts and lemmas that the last text goes by. No statement of the seat is proved here.
-/
import Derived.Test.YtdghbdiapkelnaaAll9
import Derived.Test.YtdghbdiapkelnaaAll0
import Derived.Test.YtdghbdiapkelnaaAll3
import Derived.Lib.SliceRun
set_option linter.unusedVariables false
set_option linter.unusedSimpArgs false
/-
  The number of tokens' template. No statement of the seat is proved here.
-/
namespace Go.Proofs.Ytdghbdiapkelnaa
open Go Go.RowKit Go.Maps
set_option maxRecDepth 100000

section
variable {S : Nat → Prop} {w : World} {g : Nat} {t : Tr}
theorem TrIn.stay (h : TrIn S w g t) {w' : World} (hb : Below w.heap.size w w') : TrIn (grewS S w w') w' g t ∧ Only S w w' := by
  obtain ⟨A, c, xs, R, d, ys, M, h⟩ := h
  exact h.stay hb
theorem TrIn.wider {T : Nat → Prop} (h : TrIn S w g t) (hs : ∀ k, S k → T k) (hl : ∀ k, T k → k < w.heap.size) : TrIn T w g t := by
  obtain ⟨A, c, xs, R, d, ys, M, h⟩ := h
  exact ⟨A, c, xs, R, d, ys, M, h.wider hs hl⟩
theorem TrIn.lt (h : TrIn S w g t) {k : Nat} (hk : S k) : k < w.heap.size := by
  obtain ⟨A, c, xs, R, d, ys, M, h⟩ := h
  exact h.lt k hk
set_option maxHeartbeats 1000000 in
theorem number_any (h : TrIn S w g t) (hG : Good t) (B : Option Addr) (e2 : Nat) (l : List Tok) (hT : ToksAt w B l) (hm : l.length ≤ 9223372036854775807) (hk : okKey l.length (keyA l) (keyB l) ∨ 64 < l.length) :
    Calls Try.prog 32 #[.pointer (some ⟨g, 0, none⟩), .slice B l.length e2] w fun e w' => e = .returned (.int .i64 ((numT t l).2 : Int)) ∧ TrIn (grewS S w w') w' g (numT t l).1 ∧ Only S w w' := by
  have hmi : (l.length : Int) ≤ 9223372036854775807 := by omega
  have HI := Lib.hid h
  by_cases ho : overB l = true
  · have hn : numT t l = (t, 0) := by unfold numT; rw [if_pos ho]
    rw [hn]
    unfold overB at ho
    rw [decide_eq_true_eq] at ho
    clear h hG hT hk hm hn
    by_cases h0 : l.length = 0
    · have h0i : (l.length : Int) = 0 := by omega
      have h0b : ((l.length : Int) == 0) = true := by rw [h0i]; rfl
      clear h0
      go_enter Try.func32, Try.ntmps32
      go_wp2
      go_ret
      exact ⟨rfl, HI.out.stay (Below.refl _ _)⟩
    · have h0i : ¬ (l.length : Int) = 0 := by omega
      have h0b : ((l.length : Int) == 0) = false := beq_eq_false_iff_ne.2 h0i
      have h64 : (64 : Int) < (l.length : Int) := by omega
      clear h0
      go_enter Try.func32, Try.ntmps32
      go_wp2
      go_ret
      exact ⟨rfl, HI.out.stay (Below.refl _ _)⟩
  · obtain ⟨hl1, hl64⟩ := over_no ho
    have hk : okKey l.length (keyA l) (keyB l) := hk.elim (fun h => h) (fun h => absurd h (by omega))
    have h0i : ¬ (l.length : Int) = 0 := by omega
    have h0b : ((l.length : Int) == 0) = false := beq_eq_false_iff_ne.2 h0i
    have h64 : ¬ (64 : Int) < (l.length : Int) := by omega
    have hli : (l.length : Int) ≤ 64 := by omega
    obtain ⟨A, c, xs, R, d, ys, M, h⟩ := h
    have hti := hG.ids
    have hlv := hG.lvs
    have hlvi : (t.lv.length : Int) ≤ 32 := by omega
    have H := Lib.hid h
    have HG := Lib.hid hG
    have HT := Lib.hid hT
    have Hk := Lib.hid hk
    have HKo := Lib.hid (keyof_any B e2 l w hT hl1 hl64)
    have HFi := Lib.hid (fun (W : World) (hb : Below w.heap.size w W) => find_any (h.ext hb) hG l hk)
    have HFu := Lib.hid (fun (W : World) (hb : Below w.heap.size w W) => full_any (h.ext hb) (by omega))
    have HOf := Lib.hid (fun (W : World) (hb : Below w.heap.size w W) => of_any B l.length e2 l W rfl (hT.ext hb) (by omega))
    have HAd := Lib.hid (fun (W : World) (hb : Below w.heap.size w W) C f (hp : RowO W 72 2 C (ofL l).length f (cellsP (ofL l))) => add_any (h.ext hb) (by omega) hp)
    have HLe := Lib.hid (fun (W : World) (hb : Below w.heap.size w W) (i : Nat) (hi : i < t.lv.length) (hc : t.lv[i].count = l.length) gR oR (hR : R = some ⟨gR, oR, none⟩) => atleaf_any (h.ext hb) hG hi hR B e2 l hc (hT.ext hb) hl64)
    have HNu : Hid (numT t l = match leafAt t l with
      | some i => atLeaf t i (t.lv.getD i default) l
      | none => if t.lv.length = 32 ∨ fullT t = true then (t, 0) else (addT t (ofL l) (t.lv ++ [⟨l.length, keyA l, keyB l, [t.ts.length + 1]⟩]), t.ts.length + 1)) := Lib.hid (by unfold numT; rw [if_neg ho]; cases leafAt t l <;> rfl)
    have HLs : Hid (∀ i, leafAt t l = some i → ∃ hi : i < t.lv.length, t.lv.getD i default = t.lv[i] ∧ t.lv[i].count = l.length) := Lib.hid (fun i hi => by
      obtain ⟨h1, h2, h3, _, _⟩ := leaf_some hi
      exact ⟨h1, h2, h3⟩)
    generalize numT t l = RR at *
    unfold keyV at HKo HFi
    obtain ⟨KA, hKA⟩ : ∃ K : ByteArray, strV (keyA l) = .string K := ⟨_, rfl⟩
    obtain ⟨KB, hKB⟩ : ∃ K : ByteArray, strV (keyB l) = .string K := ⟨_, rfl⟩
    rw [hKA, hKB] at HKo HFi
    have HKA := Lib.hid hKA
    have HKB := Lib.hid hKB
    have x1 := h.blk.cell 1
    simp only [List.getElem?_toArray, List.getElem?_cons_zero, List.getElem?_cons_succ] at x1
    have Hx1 : Hid (∀ W, Below w.heap.size w W → W.cell? ⟨g, 1, none⟩ = some (.slice R t.lv.length d)) := Lib.hid (fun W hW => cell_only x1 (Only.of_ext (S := fun _ => False) hW) (fun h => h))
    clear h hG hT hk hKA hKB x1 ho hm
    go_enter Try.func32, Try.ntmps32
    go_wp2_with fail
    refine HKo.out.mono ?_
    rintro ev w1 ⟨rfl, hb1⟩
    obtain ⟨w2, hw2⟩ : ∃ w2, w2 = w1.alloc (.cells #[.int .i64 (l.length : Int), .string KA, .string KB] 94) := ⟨_, rfl⟩
    have hb12 : Below w1.heap.size w1 w2 := by rw [hw2]; exact ext_alloc (Below.refl _ _) _
    have HX2 : Hid (Blk w2 w1.heap.size 94 #[.int .i64 (l.length : Int), .string KA, .string KB]) := Lib.hid (by rw [hw2]; exact Blk.new _ _ _)
    have Hb2 := Lib.hid (ext_trans hb1 hb12)
    have Hs1 : Hid (w.heap.size ≤ w1.heap.size) := Lib.hid hb1.size
    have HK : Hid (∀ W, Below w2.heap.size w2 W → W.cell? ⟨w1.heap.size, 0, none⟩ = some (.int .i64 (l.length : Int)) ∧ W.cell? ⟨w1.heap.size, 1, none⟩ = some (.string KA) ∧ W.cell? ⟨w1.heap.size, 2, none⟩ = some (.string KB)) := Lib.hid (fun W hW => ⟨(HX2.out.ext hW).cell 0, (HX2.out.ext hW).cell 1, (HX2.out.ext hW).cell 2⟩)
    have Hw2 := Lib.hid hw2
    clear hb1 hb12 hw2 HKo
    go_wp2_with fail
    rw [← Hw2.out]
    refine wp_region_held_drew (S := fun W => W.cell? ⟨w1.heap.size, 0, none⟩ = some (.int .i64 (l.length : Int)) ∧ W.cell? ⟨w1.heap.size, 1, none⟩ = some (.string KA) ∧ W.cell? ⟨w1.heap.size, 2, none⟩ = some (.string KB)) (by kernel_rfl) ?_ (fun hHeld => ?_)
    · exact HK.out _ (by repeat (first | exact Below.refl _ _ | apply ext_drew | apply ext_drewN | apply ext_alloc))
    refine wpAnyH_take (i := 0) (v := ?_) (take_list rfl) (by kernel_rfl) (by kernel_rfl) (by kernel_rfl) (fun _ _ _ h => h) (Or.inl ⟨by rfl, ?_⟩) (by assumption) ?_
    rotate_left
    · intro w hSw
      try dsimp only at hSw
      first | (go_simp; done) | (go_simp; with_reducible rfl)
    try simp only [Act.put, List.setIfInBounds_toArray, List.set_cons_zero, List.set_cons_succ]
    refine wpAnyH_take (i := 1) (v := ?_) (take_list rfl) (by kernel_rfl) (by kernel_rfl) (by kernel_rfl) (fun _ _ _ h => h) (Or.inl ⟨by rfl, ?_⟩) (by assumption) ?_
    rotate_left
    · intro w hSw
      try dsimp only at hSw
      first | (go_simp; done) | (go_simp; with_reducible rfl)
    try simp only [Act.put, List.setIfInBounds_toArray, List.set_cons_zero, List.set_cons_succ]
    refine wpAnyH_take (i := 2) (v := ?_) (take_list rfl) (by kernel_rfl) (by kernel_rfl) (by kernel_rfl) (fun _ _ _ h => h) (Or.inl ⟨by rfl, ?_⟩) (by assumption) ?_
    rotate_left
    · intro w hSw
      try dsimp only at hSw
      first | (go_simp; done) | (go_simp; with_reducible rfl)
    try simp only [Act.put, List.setIfInBounds_toArray, List.set_cons_zero, List.set_cons_succ]
    refine wpAnyH_take (i := 3) (v := ?_) (take_list rfl) (by kernel_rfl) (by kernel_rfl) (by kernel_rfl) (fun _ _ _ h => h) (Or.inl ⟨by rfl, ?_⟩) (by assumption) ?_
    rotate_left
    · intro w hSw
      try dsimp only at hSw
      first | (go_simp; done) | (go_simp; with_reducible rfl)
    try simp only [Act.put, List.setIfInBounds_toArray, List.set_cons_zero, List.set_cons_succ]
    refine wpAnyH_ready (rs := [4]) (by kernel_rfl) (by simp) ?_
    refine AllReadyH.cons (take_list rfl) (fun K hK => ?_) ?_
    · skip
      go_simp
      refine (HFi.out _ (ext_trans Hb2.out (by repeat (first | exact Below.refl _ _ | apply ext_drew | apply ext_drewN | apply ext_alloc)))).mono ?_
      rintro ev w3 ⟨hb3, hres⟩
      have Hb3 : Hid (Below w2.heap.size w2 w3) := Lib.hid (ext_trans (by repeat (first | exact Below.refl _ _ | apply ext_drew | apply ext_drewN | apply ext_alloc)) hb3)
      have Hres := Lib.hid hres
      clear hb3 hres
      obtain ⟨P, hP⟩ : ∃ P, ev = .returned (.pointer P) := by rcases Hres.out with ⟨_, h⟩ | ⟨i, a, b, _, _, h⟩; exact ⟨_, h⟩; exact ⟨_, h⟩
      subst hP
      dsimp only
      refine hK.out _ _ ?_ (fun hHeld => ?_)
      · try dsimp only
        exact HK.out _ (by repeat (first | exact Hb3.out | apply ext_drew | apply ext_drewN | apply ext_alloc))
      clear hK K
      refine wpAnyH_take (i := 5) (v := ?_) (take_list rfl) (by kernel_rfl) (by kernel_rfl) (by kernel_rfl) (fun _ _ _ h => h) (Or.inl ⟨by rfl, ?_⟩) (by assumption) ?_
      rotate_left
      · intro w hSw
        try dsimp only at hSw
        first | (go_simp; done) | (go_simp; with_reducible rfl)
      try simp only [Act.put, List.setIfInBounds_toArray, List.set_cons_zero, List.set_cons_succ]
      refine wpAnyH_done (by kernel_rfl) ?_ _
      rcases Hres.out with ⟨hlf, hP⟩ | ⟨i, gR, oR, hlf, hR, hP⟩
      · injection hP with hP
        injection hP with hP
        subst hP
        have HU1 : Hid (RR = if t.lv.length = 32 ∨ fullT t = true then (t, 0) else (addT t (ofL l) (t.lv ++ [⟨l.length, keyA l, keyB l, [t.ts.length + 1]⟩]), t.ts.length + 1)) := Lib.hid (by rw [HNu.out, hlf])
        have x3 := Hx1.out w3 (ext_trans Hb2.out Hb3.out)
        clear hlf HLe HLs HFi
        by_cases h32 : t.lv.length = 32
        · have HR0 : Hid (RR = (t, 0)) := Lib.hid (by rw [HU1.out, if_pos (.inl h32)])
          have h8i : (t.lv.length : Int) = 32 := by omega
          have h8b : ((t.lv.length : Int) == 32) = true := by rw [h8i]; rfl
          clear h32
          go_wp2
          go_ret
          rw [HR0.out]
          exact ⟨rfl, H.out.stay (ext_trans Hb2.out Hb3.out)⟩
        · have h8i : ¬ (t.lv.length : Int) = 32 := by omega
          have h8b : ((t.lv.length : Int) == 32) = false := beq_eq_false_iff_ne.2 h8i
          go_wp2_with fail
          refine (HFu.out w3 (ext_trans Hb2.out Hb3.out)).mono ?_
          rintro ev w3x ⟨rfl, hwx⟩
          have hwx := hwx.symm
          subst hwx
          cases hf : fullT t with
          | true =>
            have HR0 : Hid (RR = (t, 0)) := Lib.hid (by rw [HU1.out, if_pos (.inr hf)])
            clear hf
            go_wp2
            go_ret
            rw [HR0.out]
            exact ⟨rfl, H.out.stay (ext_trans Hb2.out Hb3.out)⟩
          | false =>
            have HR0 : Hid (RR = (addT t (ofL l) (t.lv ++ [⟨l.length, keyA l, keyB l, [t.ts.length + 1]⟩]), t.ts.length + 1)) := Lib.hid (by rw [HU1.out, if_neg (fun hx => by rcases hx with hx | hx; exact h32 hx; rw [hf] at hx; cases hx)])
            clear hf h32 HFu HU1 x3
            go_wp2_with fail
            refine wp_region_held_drew (S := fun _ => True) (by kernel_rfl) ?_ (fun hHeld => ?_)
            · all_goals trivial
            refine wpAnyH_take (i := 0) (v := ?_) (take_list rfl) (by kernel_rfl) (by kernel_rfl) (by kernel_rfl) (fun _ _ _ h => h) (Or.inl ⟨by rfl, ?_⟩) (by assumption) ?_
            rotate_left
            · intro w hSw
              try dsimp only at hSw
              first | (go_simp; done) | (go_simp; with_reducible rfl)
            try simp only [Act.put, List.setIfInBounds_toArray, List.set_cons_zero, List.set_cons_succ]
            refine wpAnyH_take (i := 1) (v := ?_) (take_list rfl) (by kernel_rfl) (by kernel_rfl) (by kernel_rfl) (fun _ _ _ h => h) (Or.inl ⟨by rfl, ?_⟩) (by assumption) ?_
            rotate_left
            · intro w hSw
              try dsimp only at hSw
              first | (go_simp; done) | (go_simp; with_reducible rfl)
            try simp only [Act.put, List.setIfInBounds_toArray, List.set_cons_zero, List.set_cons_succ]
            refine wpAnyH_take (i := 2) (v := ?_) (take_list rfl) (by kernel_rfl) (by kernel_rfl) (by kernel_rfl) (fun _ _ _ h => h) (Or.inl ⟨by rfl, ?_⟩) (by assumption) ?_
            rotate_left
            · intro w hSw
              try dsimp only at hSw
              first | (go_simp; done) | (go_simp; with_reducible rfl)
            try simp only [Act.put, List.setIfInBounds_toArray, List.set_cons_zero, List.set_cons_succ]
            refine wpAnyH_take (i := 3) (v := ?_) (take_list rfl) (by kernel_rfl) (by kernel_rfl) (by kernel_rfl) (fun _ _ _ h => h) (Or.inl ⟨by rfl, ?_⟩) (by assumption) ?_
            rotate_left
            · intro w hSw
              try dsimp only at hSw
              first | (go_simp; done) | (go_simp; with_reducible rfl)
            try simp only [Act.put, List.setIfInBounds_toArray, List.set_cons_zero, List.set_cons_succ]
            refine wpAnyH_ready (rs := [4]) (by kernel_rfl) (by simp) ?_
            refine AllReadyH.cons (take_list rfl) (fun K hK => ?_) ?_
            · skip
              go_simp
              refine (HOf.out _ (ext_trans Hb2.out (by repeat (first | exact Hb3.out | apply ext_drew | apply ext_drewN | apply ext_alloc)))).mono ?_
              rintro ev w4 ⟨C, f, rfl, hn4⟩
              dsimp only
              have Hn4 := Lib.hid hn4.row
              have HnC : Hid (∀ k, inA C k → w3.heap.size ≤ k) := Lib.hid (fun k hk => hn4.2.2 k hk)
              have Hb4 : Hid (Below w2.heap.size w2 w4) := Lib.hid (ext_trans (by repeat (first | exact Hb3.out | apply ext_drew | apply ext_drewN | apply ext_alloc)) hn4.bel)
              have Hs34 : Hid (w3.heap.size ≤ w4.heap.size) := Lib.hid hn4.bel.size
              clear hn4
              refine hK.out _ _ ?_ (fun hHeld => ?_)
              · try dsimp only
                all_goals trivial
              clear hK K
              refine wpAnyH_ready (rs := [5]) (by kernel_rfl) (by simp) ?_
              refine AllReadyH.cons (take_list rfl) (fun K hK => ?_) ?_
              · skip
                go_simp
                refine (HAd.out _ (ext_trans Hb2.out (by repeat (first | exact Hb4.out | apply ext_drew | apply ext_drewN | apply ext_alloc))) C f (Hn4.out.ext (by repeat (first | exact Below.refl _ _ | apply ext_drew | apply ext_drewN | apply ext_alloc)))).mono ?_
                rintro ev w5 ⟨rfl, hT5, hO5⟩
                dsimp only
                obtain ⟨A5, c5, hT5⟩ := hT5
                have hsz5 : w4.heap.size ≤ w5.heap.size := hO5.size
                have HO5 : Hid (Only S w w5) := Lib.hid (((Only.of_ext (S := S) (ext_trans Hb2.out (by repeat (first | exact Hb4.out | apply ext_drew | apply ext_drewN | apply ext_alloc)))).trans hO5 (fun _ _ h => h)))
                have hs := HO5.out.size
                have Hz5 := Lib.hid (hT5.wider (T := grewS S w w5) (fun k hk => by
                  rcases hk with (hk | hk) | hk
                  · exact .inl hk
                  · exact .inr ⟨by have h5 : w4.heap.size ≤ k := hk.1; have h6 := Hb4.out.size; have h7 := Hb2.out.size; omega, hk.2⟩
                  · exact .inr ⟨by have h5 := HnC.out k hk; have h6 := Hb3.out.size; have h7 := Hb2.out.size; omega, by have := Hn4.out.lt hk; omega⟩) (fun k hk => by
                  rcases hk with hk | hk
                  · have := H.out.lt k hk; omega
                  · exact hk.2))
                have HX5 := Lib.hid (((HX2.out.ext Hb4.out)).only (S := S) ((Only.of_ext (S := S) (by repeat (first | exact Below.refl _ _ | apply ext_drew | apply ext_drewN | apply ext_alloc) : Below w4.heap.size w4 _)).trans hO5 (fun _ _ h => h)) (fun hk => by have := H.out.lt _ hk; have := Hs1.out; omega))
                clear hT5 hO5 hs hsz5
                refine hK.out _ _ ?_ (fun hHeld => ?_)
                · try dsimp only
                  all_goals trivial
                clear hK K
                refine wpAnyH_take (i := 6) (v := ?_) (take_list rfl) (by kernel_rfl) (by kernel_rfl) (by kernel_rfl) (fun _ _ _ h => h) (Or.inl ⟨by rfl, ?_⟩) (by assumption) ?_
                rotate_left
                · intro w hSw
                  try dsimp only at hSw
                  first | (go_simp; done) | (go_simp; with_reducible rfl)
                try simp only [Act.put, List.setIfInBounds_toArray, List.set_cons_zero, List.set_cons_succ]
                refine wpAnyH_done (by kernel_rfl) ?_ _
                go_wp2_with fail
                refine wp_region_held_drew (S := fun _ => True) (by kernel_rfl) ?_ (fun hHeld => ?_)
                · all_goals trivial
                refine wpAnyH_take (i := 0) (v := ?_) (take_list rfl) (by kernel_rfl) (by kernel_rfl) (by kernel_rfl) (fun _ _ _ h => h) (Or.inl ⟨by rfl, ?_⟩) (by assumption) ?_
                rotate_left
                · intro w hSw
                  try dsimp only at hSw
                  first | (go_simp; done) | (go_simp; with_reducible rfl)
                try simp only [Act.put, List.setIfInBounds_toArray, List.set_cons_zero, List.set_cons_succ]
                refine wpAnyH_take (i := 1) (v := ?_) (take_list rfl) (by kernel_rfl) (by kernel_rfl) (by kernel_rfl) (fun _ _ _ h => h) (Or.inl ⟨by rfl, ?_⟩) (by assumption) ?_
                rotate_left
                · intro w hSw
                  try dsimp only at hSw
                  first | (go_simp; done) | (go_simp; with_reducible rfl)
                try simp only [Act.put, List.setIfInBounds_toArray, List.set_cons_zero, List.set_cons_succ]
                refine wpAnyH_take (i := 2) (v := ?_) (take_list rfl) (by kernel_rfl) (by kernel_rfl) (by kernel_rfl) (fun _ _ _ h => h) (Or.inl ⟨by rfl, ?_⟩) (by assumption) ?_
                rotate_left
                · intro w hSw
                  try dsimp only at hSw
                  first | (go_simp; done) | (go_simp; with_reducible rfl)
                try simp only [Act.put, List.setIfInBounds_toArray, List.set_cons_zero, List.set_cons_succ]
                refine wpAnyH_take (i := 4) (v := ?_) (take_list rfl) (by kernel_rfl) (by kernel_rfl) (by kernel_rfl) (fun _ _ _ h => h) (Or.inl ⟨by rfl, ?_⟩) (by assumption) ?_
                rotate_left
                · intro w hSw
                  try dsimp only at hSw
                  first | (go_simp; done) | (go_simp; with_reducible rfl)
                try simp only [Act.put, List.setIfInBounds_toArray, List.set_cons_zero, List.set_cons_succ]
                refine wpAnyH_ready (rs := [3, 5]) (by kernel_rfl) (by simp) ?_
                refine AllReadyH.cons (take_list rfl) (fun K hK => ?_) ?_
                · skip
                  have q0 := HX5.out.cell 0
                  have q1 := HX5.out.cell 1
                  have q2 := HX5.out.cell 2
                  simp only [List.getElem?_toArray, List.getElem?_cons_zero, List.getElem?_cons_succ] at q0 q1 q2
                  go_simp
                  clear q0 q1 q2
                  refine hK.out _ _ ?_ (fun hHeld => ?_)
                  · try dsimp only
                    all_goals trivial
                  clear hK K
                  refine wpAnyH_ready (rs := [5]) (by kernel_rfl) (by simp) ?_
                  refine AllReadyH.cons (take_list rfl) (fun K hK => ?_) ?_
                  · skip
                    go_simp
                    refine hK.out _ _ ?_ (fun hHeld => ?_)
                    · try dsimp only
                      all_goals trivial
                    clear hK K
                    refine wpAnyH_take (i := 6) (v := ?_) (take_list rfl) (by kernel_rfl) (by kernel_rfl) (by kernel_rfl) (fun _ _ _ h => h) (Or.inl ⟨by rfl, ?_⟩) (by assumption) ?_
                    rotate_left
                    · intro w hSw
                      try dsimp only at hSw
                      first | (go_simp; done) | (go_simp; with_reducible rfl)
                    try simp only [Act.put, List.setIfInBounds_toArray, List.set_cons_zero, List.set_cons_succ]
                    refine wpAnyH_ready (rs := [7]) (by kernel_rfl) (by simp) ?_
                    refine AllReadyH.cons (take_list rfl) (fun K hK => ?_) ?_
                    · skip
                      go_simp
                      have hWb : Below w5.heap.size w5 (w5.alloc (.cells #[.int .i64 ((t.ts.length : Int) + 1)] 3)) := ext_alloc (Below.refl _ _) _
                      have hGw := fun (W : World) (hW : Below (w5.alloc (.cells #[.int .i64 ((t.ts.length : Int) + 1)] 3)).heap.size (w5.alloc (.cells #[.int .i64 ((t.ts.length : Int) + 1)] 3)) W) => grow_any (w := W) ((Hz5.out.ext hWb).ext hW) (by show t.lv.length ≤ 1000; omega) ⟨l.length, keyA l, keyB l, [t.ts.length + 1]⟩ Hk.out (G := some ⟨w5.heap.size, 0, none⟩) (e := 1) ((RowO.lit w5 3 1 1 #[.int .i64 ((t.ts.length : Int) + 1)] rfl (by unfold maxLen; omega) rfl).ext hW) (fun k hk hx => by rw [inA_some] at hk; have := Hz5.out.lt k hx; have h9 : w5.heap.size = k := hk; omega)
                      unfold lfV natV at hGw
                      dsimp only at hGw
                      rw [HKA.out, HKB.out] at hGw
                      rw [show ([t.ts.length + 1] : List Nat).length = 1 from rfl] at hGw
                      refine (hGw _ (by repeat (first | exact Below.refl _ _ | apply ext_drew | apply ext_drewN | apply ext_alloc))).mono ?_
                      rintro ev w6 ⟨rfl, ⟨R6, d6, ys6, b6, hT6⟩, hO6⟩
                      dsimp only
                      have hs5 := hWb.size
                      have hs6 : (w5.alloc (.cells #[.int .i64 ((t.ts.length : Int) + 1)] 3)).heap.size ≤ w6.heap.size := hO6.size
                      have hs7 : (w5.alloc (.cells #[.int .i64 ((t.ts.length : Int) + 1)] 3)).heap.size = w5.heap.size + 1 := World.size_alloc ..
                      have hs8 := HO5.out.size
                      have HT6 : Hid (TrIn (grewS S w w6) w6 g (addT t (ofL l) (t.lv ++ [⟨l.length, keyA l, keyB l, [t.ts.length + 1]⟩]))) := Lib.hid ⟨_, _, _, _, _, _, _, hT6.wider (T := grewS S w w6) (fun k hk => by
                        rcases hk with ((hk | hk) | hk) | hk
                        · exact .inl hk
                        · exact .inr ⟨hk.1, by have := hk.2; omega⟩
                        · exact .inr ⟨by have h5 : (w5.alloc (.cells #[.int .i64 ((t.ts.length : Int) + 1)] 3)).heap.size ≤ k := hk.1; omega, hk.2⟩
                        · rw [inA_some] at hk; have h9 : w5.heap.size = k := hk; exact .inr ⟨by omega, by omega⟩) (fun k hk => by
                        rcases hk with hk | hk
                        · have := H.out.lt k hk; omega
                        · exact hk.2)⟩
                      have hOc : Only (grewS S w w5) w5 w6 := (Only.of_ext (S := grewS S w w5) (by repeat (first | exact Below.refl _ _ | apply ext_drew | apply ext_drewN | apply ext_alloc))).trans hO6 (fun _ _ h => h)
                      have HO6 : Hid (Only S w w6) := Lib.hid (HO5.out.trans hOc (fun k hkl hk => by rcases hk with hk | hk; exact hk; omega))
                      clear hOc
                      clear hGw hT6 hO6 hs5 hs6 hs7 hs8 hWb
                      refine hK.out _ _ ?_ (fun hHeld => ?_)
                      · try dsimp only
                        all_goals trivial
                      clear hK K
                      refine wpAnyH_done (by kernel_rfl) ?_ _
                      go_wp2
                      go_ret
                      rw [HR0.out]
                      exact ⟨by first | rfl | (push_cast; rfl), HT6.out, HO6.out⟩
                    exact AllReadyH.nil
                  exact AllReadyH.nil
                refine AllReadyH.cons (take_list rfl) (fun K hK => ?_) ?_
                · skip
                  go_simp
                  refine hK.out _ _ ?_ (fun hHeld => ?_)
                  · try dsimp only
                    all_goals trivial
                  clear hK K
                  refine wpAnyH_ready (rs := [3]) (by kernel_rfl) (by simp) ?_
                  refine AllReadyH.cons (take_list rfl) (fun K hK => ?_) ?_
                  · skip
                    have hX6 := HX5.out.alloc (.cells #[.int .i64 ((t.ts.length : Int) + 1)] 3)
                    have q0 := hX6.cell 0
                    have q1 := hX6.cell 1
                    have q2 := hX6.cell 2
                    simp only [List.getElem?_toArray, List.getElem?_cons_zero, List.getElem?_cons_succ] at q0 q1 q2
                    go_simp
                    clear q0 q1 q2 hX6
                    refine hK.out _ _ ?_ (fun hHeld => ?_)
                    · try dsimp only
                      all_goals trivial
                    clear hK K
                    refine wpAnyH_take (i := 6) (v := ?_) (take_list rfl) (by kernel_rfl) (by kernel_rfl) (by kernel_rfl) (fun _ _ _ h => h) (Or.inl ⟨by rfl, ?_⟩) (by assumption) ?_
                    rotate_left
                    · intro w hSw
                      try dsimp only at hSw
                      first | (go_simp; done) | (go_simp; with_reducible rfl)
                    try simp only [Act.put, List.setIfInBounds_toArray, List.set_cons_zero, List.set_cons_succ]
                    refine wpAnyH_ready (rs := [7]) (by kernel_rfl) (by simp) ?_
                    refine AllReadyH.cons (take_list rfl) (fun K hK => ?_) ?_
                    · skip
                      go_simp
                      have hWb : Below w5.heap.size w5 (w5.alloc (.cells #[.int .i64 ((t.ts.length : Int) + 1)] 3)) := ext_alloc (Below.refl _ _) _
                      have hGw := fun (W : World) (hW : Below (w5.alloc (.cells #[.int .i64 ((t.ts.length : Int) + 1)] 3)).heap.size (w5.alloc (.cells #[.int .i64 ((t.ts.length : Int) + 1)] 3)) W) => grow_any (w := W) ((Hz5.out.ext hWb).ext hW) (by show t.lv.length ≤ 1000; omega) ⟨l.length, keyA l, keyB l, [t.ts.length + 1]⟩ Hk.out (G := some ⟨w5.heap.size, 0, none⟩) (e := 1) ((RowO.lit w5 3 1 1 #[.int .i64 ((t.ts.length : Int) + 1)] rfl (by unfold maxLen; omega) rfl).ext hW) (fun k hk hx => by rw [inA_some] at hk; have := Hz5.out.lt k hx; have h9 : w5.heap.size = k := hk; omega)
                      unfold lfV natV at hGw
                      dsimp only at hGw
                      rw [HKA.out, HKB.out] at hGw
                      rw [show ([t.ts.length + 1] : List Nat).length = 1 from rfl] at hGw
                      refine (hGw _ (by repeat (first | exact Below.refl _ _ | apply ext_drew | apply ext_drewN | apply ext_alloc))).mono ?_
                      rintro ev w6 ⟨rfl, ⟨R6, d6, ys6, b6, hT6⟩, hO6⟩
                      dsimp only
                      have hs5 := hWb.size
                      have hs6 : (w5.alloc (.cells #[.int .i64 ((t.ts.length : Int) + 1)] 3)).heap.size ≤ w6.heap.size := hO6.size
                      have hs7 : (w5.alloc (.cells #[.int .i64 ((t.ts.length : Int) + 1)] 3)).heap.size = w5.heap.size + 1 := World.size_alloc ..
                      have hs8 := HO5.out.size
                      have HT6 : Hid (TrIn (grewS S w w6) w6 g (addT t (ofL l) (t.lv ++ [⟨l.length, keyA l, keyB l, [t.ts.length + 1]⟩]))) := Lib.hid ⟨_, _, _, _, _, _, _, hT6.wider (T := grewS S w w6) (fun k hk => by
                        rcases hk with ((hk | hk) | hk) | hk
                        · exact .inl hk
                        · exact .inr ⟨hk.1, by have := hk.2; omega⟩
                        · exact .inr ⟨by have h5 : (w5.alloc (.cells #[.int .i64 ((t.ts.length : Int) + 1)] 3)).heap.size ≤ k := hk.1; omega, hk.2⟩
                        · rw [inA_some] at hk; have h9 : w5.heap.size = k := hk; exact .inr ⟨by omega, by omega⟩) (fun k hk => by
                        rcases hk with hk | hk
                        · have := H.out.lt k hk; omega
                        · exact hk.2)⟩
                      have hOc : Only (grewS S w w5) w5 w6 := (Only.of_ext (S := grewS S w w5) (by repeat (first | exact Below.refl _ _ | apply ext_drew | apply ext_drewN | apply ext_alloc))).trans hO6 (fun _ _ h => h)
                      have HO6 : Hid (Only S w w6) := Lib.hid (HO5.out.trans hOc (fun k hkl hk => by rcases hk with hk | hk; exact hk; omega))
                      clear hOc
                      clear hGw hT6 hO6 hs5 hs6 hs7 hs8 hWb
                      refine hK.out _ _ ?_ (fun hHeld => ?_)
                      · try dsimp only
                        all_goals trivial
                      clear hK K
                      refine wpAnyH_done (by kernel_rfl) ?_ _
                      go_wp2
                      go_ret
                      rw [HR0.out]
                      exact ⟨by first | rfl | (push_cast; rfl), HT6.out, HO6.out⟩
                    exact AllReadyH.nil
                  exact AllReadyH.nil
                exact AllReadyH.nil
              exact AllReadyH.nil
            exact AllReadyH.nil
      · injection hP with hP
        injection hP with hP
        subst hP
        obtain ⟨hi, hgd, hc⟩ := HLs.out i hlf
        have HR0 : Hid (RR = atLeaf t i t.lv[i] l) := Lib.hid (by rw [HNu.out, hlf]; exact congrArg (fun x => atLeaf t i x l) hgd)
        have HX := Lib.hid (HLe.out w3 (ext_trans Hb2.out Hb3.out) i hi hc gR oR hR)
        have Hs3 : Hid (w.heap.size ≤ w3.heap.size) := Lib.hid (ext_trans Hb2.out Hb3.out).size
        clear hlf hgd hc HLe HLs HFi
        go_wp2_with fail
        refine HX.out.mono ?_
        rintro ev w4 ⟨rfl, hT4, hO4⟩
        have HT4 : Hid (TrIn (grewS S w w4) w4 g (atLeaf t i t.lv[i] l).1) := Lib.hid (hT4.wider (fun k hk => by
          rcases hk with hk | hk
          · exact .inl hk
          · exact .inr ⟨by have := hk.1; have := Hs3.out; omega, hk.2⟩) (fun k hk => by
          rcases hk with hk | hk
          · have := H.out.lt k hk; have := hO4.size; have := Hs3.out; omega
          · exact hk.2))
        have HO4 : Hid (Only S w w4) := Lib.hid ((Only.of_ext (S := S) (ext_trans Hb2.out Hb3.out)).trans hO4 (fun _ _ h => h))
        clear hT4 hO4 HX
        go_wp2
        go_ret
        rw [HR0.out]
        exact ⟨rfl, HT4.out, HO4.out⟩
    exact AllReadyH.nil
end
end Go.Proofs.Ytdghbdiapkelnaa

/-
  New, Len, Leaves, Template. No statement of the seat is proved here.
-/
namespace Go.Proofs.Ytdghbdiapkelnaa
open Go Go.RowKit Go.Maps
set_option maxRecDepth 100000

theorem new_any (w : World) : Calls Try.prog 12 #[] w fun e w' => ∃ g, e = .returned (.pointer (some ⟨g, 0, none⟩)) ∧ TrIn (fun k => k = g) w' g ⟨[], []⟩ ∧ Below w.heap.size w w' ∧ w.heap.size ≤ g := by
  go_enter Try.func12, Try.ntmps12
  go_wp2
  go_ret
  refine ⟨_, rfl, ⟨none, 0, [], none, 0, [], none, ?_⟩, ext_alloc (Below.refl _ _) _, Nat.le_refl _⟩
  refine ⟨Blk.new _ _ _, RowO.none_ _ _ _, RowO.none_ _ _ _, .inl ⟨rfl, rfl⟩, fun j h => absurd h (Nat.not_lt_zero _), fun j h => absurd h (Nat.not_lt_zero _), fun i j G G' n n' e e' _ h => ?_, fun x hx => (nomatch hx), rfl, fun k hk => absurd hk (inA_none k), fun k hk => absurd hk (inA_none k), fun b h => (nomatch h), fun k hk => ?_⟩
  · simp at h
  · rw [hk, World.size_alloc]; exact Nat.lt_succ_self _
theorem len_nil (w : World) : Calls Try.prog 22 #[.pointer none] w fun e w' => e = .returned (.int .i64 0) ∧ w' = w := by
  go_enter Try.func22, Try.ntmps22
  go_wp2
  go_ret
  exact ⟨rfl, rfl⟩
theorem leaves_nil (w : World) : Calls Try.prog 24 #[.pointer none] w fun e w' => e = .returned (.int .i64 0) ∧ w' = w := by
  go_enter Try.func24, Try.ntmps24
  go_wp2
  go_ret
  exact ⟨rfl, rfl⟩
section
variable {S : Nat → Prop} {w : World} {g : Nat} {t : Tr}
theorem len_any (h : TrIn S w g t) (hi : t.ts.length ≤ 1000000) : Calls Try.prog 22 #[.pointer (some ⟨g, 0, none⟩)] w fun e w' => e = .returned (.int .i64 ((t.ts.length : Int) + 1)) ∧ w' = w := by
  obtain ⟨A, c, xs, R, d, ys, M, h⟩ := h
  have HC := Lib.hid (count_any h hi)
  clear h hi
  go_enter Try.func22, Try.ntmps22
  go_wp2_with fail
  refine HC.out.mono ?_
  rintro e w' ⟨rfl, hw⟩
  have hw := hw.symm
  subst hw
  go_wp2
  go_ret
  exact ⟨rfl, rfl⟩
theorem leaves_any (h : TrIn S w g t) : Calls Try.prog 24 #[.pointer (some ⟨g, 0, none⟩)] w fun e w' => e = .returned (.int .i64 (t.lv.length : Int)) ∧ w' = w := by
  obtain ⟨A, c, xs, R, d, ys, M, h⟩ := h
  have x1 := h.blk.cell 1
  simp only [List.getElem?_toArray, List.getElem?_cons_zero, List.getElem?_cons_succ] at x1
  clear h
  go_enter Try.func24, Try.ntmps24
  go_wp2
  go_ret
  exact ⟨rfl, rfl⟩
end
set_option maxHeartbeats 1000000 in
theorem clonep_any {w : World} (A : Option Addr) (c : Nat) (l : List Prt) (h : PartsAt w A l) (hm : l.length ≤ 1000000) :
    Calls Try.prog 44 #[.slice A l.length c] w fun e w' => ∃ A' c', e = .returned (.slice A' l.length c') ∧ NewO w w' 72 2 A' l.length c' (cellsP l) := by
  have he := Lib.run_eql_slice_nil (P := Try.prog) w 39 72 A l.length c 0 0 Try.underlying39
  have hl := cellsP_len l
  have h1 := cellsP_one l
  have hrd := h.rd
  clear h
  generalize cellsP l = xs at *
  generalize l.length = m at *
  rcases A with _ | ad
  · have hnil : xs = [] := by
      cases xs with
      | nil => rfl
      | cons u r => obtain ⟨ad, e, _⟩ := hrd 0 u rfl; cases e
    subst hnil
    obtain rfl : m = 0 := by simp at hl; omega
    clear hrd
    go_enter Try.func44, Try.ntmps44
    go_wp2
    go_ret
    exact ⟨none, 0, rfl, NewO.start _ _ _⟩
  · have hm1 : 0 + m ≤ maxLen := by unfold maxLen; omega
    have hm2 : (0 + m) * 24 ≤ 140737488355328 := by omega
    have hempty : NewO w (w.alloc (.cells #[] 72)) 72 2 (some ⟨w.heap.size, 0, none⟩) 0 0 [] := ⟨RowO.lit w 72 2 0 #[] rfl (Nat.zero_le _) rfl, ext_alloc (Below.refl _ _) _, fun k hk => by rw [inA_some] at hk; omega⟩
    have hrd := hrd.alloc (.cells #[] 72)
    go_enter Try.func44, Try.ntmps44
    go_wp2_with (at_builtin
                 refine wpList_appO _ rfl (.tmp 5) (.tmp 6) _ rfl _ _ 2 24 Try.underlying39 info_part rfl (some ⟨w.heap.size, 0, none⟩) 0 0 [] rfl hempty.row (some ad) m c xs rfl hl hrd h1 ?_ hm1 hm2 ?_
                 · intro h; cases h
                 intro A2 c2 w2 hrow2 honly2 hA2)
    go_ret
    rw [List.nil_append] at hrow2
    rw [Nat.zero_add] at hrow2
    exact ⟨A2, c2, by first | rfl | simp, hempty.grow (Below.refl _ _) hrow2 honly2 hA2⟩
theorem template_nil (w : World) (i : Nat) : Calls Try.prog 19 #[.pointer none, .int .i64 (i : Int)] w fun e w' => e = .returned (.tuple #[.slice none 0 0, .bool false]) ∧ w' = w := by
  have HL := Lib.hid (len_nil w)
  have hi : ¬ (i : Int) < 0 := by omega
  have hi0 : (0 : Int) ≤ (i : Int) := by omega
  go_enter Try.func19, Try.ntmps19
  go_wp2_with fail
  refine HL.out.mono ?_
  rintro e w' ⟨rfl, hw⟩
  have hw := hw.symm
  subst hw
  go_wp2
  go_ret2
  exact ⟨rfl, rfl⟩
section
variable {S : Nat → Prop} {w : World} {g : Nat} {t : Tr}
set_option maxHeartbeats 1000000 in
theorem template_any (h : TrIn S w g t) (hG : Good t) {id : Nat} (hid : id ≤ t.ts.length) : Calls Try.prog 19 #[.pointer (some ⟨g, 0, none⟩), .int .i64 (id : Int)] w fun e w' => ∃ B c, e = .returned (.tuple #[.slice B (tmpl t id).length c, .bool true]) ∧ NewO w w' 72 2 B (tmpl t id).length c (cellsP (tmpl t id)) := by
  have hti := hG.ids
  have hq : (tmpl t id).length ≤ 1000000 := by
    unfold tmpl
    split
    · exact Nat.le_of_ble_eq_true rfl
    · rw [List.getD_eq_getElem?_getD]
      cases hx : t.ts[id - 1]? with
      | none => exact Nat.zero_le _
      | some p => have := (hG.long p (List.mem_of_getElem? hx)).2; simp; omega
  have HL := Lib.hid (len_any h (by omega))
  obtain ⟨A, c, xs, R, d, ys, M, h⟩ := h
  have HAt := Lib.hid (at_any h (by omega) hid)
  have HC : Hid (∀ (W : World) (B : Option Addr) (c : Nat), PartsAt W B (tmpl t id) → Calls Try.prog 44 #[.slice B (tmpl t id).length c] W fun e w' => ∃ A' c', e = .returned (.slice A' (tmpl t id).length c') ∧ NewO W w' 72 2 A' (tmpl t id).length c' (cellsP (tmpl t id))) := Lib.hid (fun W B c hB => clonep_any B c _ hB hq)
  have hi : ¬ (id : Int) < 0 := by omega
  have hi0 : (id : Int) < (t.ts.length : Int) + 1 := by omega
  have hti' : (t.ts.length : Int) ≤ 63 := by omega
  clear h hG hq
  generalize tmpl t id = P at *
  go_enter Try.func19, Try.ntmps19
  go_wp2_with fail
  refine HL.out.mono ?_
  rintro e w' ⟨rfl, hw⟩
  have hw := hw.symm
  subst hw
  go_wp2_with fail
  refine HAt.out.mono ?_
  rintro e w1 ⟨B, e', rfl, hB, -, hb1⟩
  have HC1 := Lib.hid (HC.out w1 B e' hB)
  have Hb1 := Lib.hid hb1
  clear hB hb1
  go_wp2_with fail
  refine HC1.out.mono ?_
  rintro e w2 ⟨A', c', rfl, hN⟩
  have HN := Lib.hid (hN.back Hb1.out)
  clear hN
  go_wp2
  go_ret2
  exact ⟨A', c', rfl, HN.out⟩
end
end Go.Proofs.Ytdghbdiapkelnaa

/-
  Tokens as a line (program). No statement of the seat is proved here.
-/
namespace Go.Proofs.Ytdghbdiapkelnaa
open Go Go.RowKit
set_option maxRecDepth 100000

theorem joinTo_mono (l : List Tok) : ∀ k, k ≤ l.length → (joinTo l k).length ≤ (joinL l).length := fun k hk => by
  have key : ∀ d, k + d ≤ l.length → (joinTo l k).length ≤ (joinTo l (k + d)).length := fun d => by
    induction d with
    | zero => intro _; exact Nat.le_refl _
    | succ d ih =>
      intro hd
      rw [← Nat.add_assoc, joinTo_succ _ _ (by omega), List.length_append]
      have := ih (by omega)
      omega
  have := key (l.length - k) (by omega)
  rwa [show k + (l.length - k) = l.length by omega] at this
set_option maxHeartbeats 4000000 in
theorem ljoin_any (B : Option Addr) (d : Nat) (l : List Tok) (w : World) (h : ToksAt w B l) (hl : l.length ≤ 1000000) (hsum : (joinL l).length ≤ 140737488355328) :
    Calls Try.prog 33 #[.slice B l.length d] w fun e w' => e = .returned (strV (joinL l)) ∧ Below w.heap.size w w' := by
  have hli : (l.length : Int) ≤ 1000000 := by omega
  have HI0 := Lib.hid (Lib.fresh_isBuilder 119 5 w)
  have H := Lib.hid h
  have HM := Lib.hid (joinTo_mono l)
  clear h
  go_enter Try.func33, Try.ntmps33
  go_wp2
  go_loopw [8] (fun i wr => ∃ k : Nat, k ≤ l.length ∧ i = .int .i64 (k : Int) ∧ Hid (Lib.IsBuilder 119 5 w.heap.size w.heap.size (Lib.byteCells (joinTo l k)) wr) ∧ Hid (Below w.heap.size w wr)) (fun i _ => l.length - (intOf i).toNat)
  case atStart => exact ⟨0, Nat.zero_le _, rfl, Lib.hid HI0.out, Lib.hid (ext_alloc (Below.refl _ _) _)⟩
  case round =>
    clear HI0
    obtain ⟨k, hk, rfl, HI, Hb⟩ := hrel
    by_cases hlt : k < l.length
    · obtain ⟨g, o, rfl, c0, c1⟩ := (H.out.ext Hb.out).at_ hlt
      have hki : (k : Int) < (l.length : Int) := by omega
      have HS := Lib.hid (joinTo_succ l k hlt)
      have HLe := Lib.hid (HM.out (k + 1) (by omega))
      obtain ⟨Y, hY, hYs⟩ := str_hide l[k].text
      rw [hY] at c1
      have HBs := Lib.hid Hb.out.size
      have HWr : Hid (∀ W, Below wr.heap.size wr W → Calls Try.prog 68 #[.pointer (some ⟨w.heap.size, 0, none⟩), .string Y] W fun e w' => e = .returned (.tuple #[.int .i64 Y.size, .nilIface]) ∧ Hid (Lib.IsBuilder 119 5 w.heap.size w.heap.size (Lib.byteCells (joinTo l (k + 1))) w') ∧ Hid (Below w.heap.size w w')) := Lib.hid (fun W hb => by
        refine (sbwrite_any w.heap.size w.heap.size (Lib.byteCells (joinTo l k)) Y W (isbuilder_ext HI.out hb) ?_ ?_).mono ?_
        · have := HLe.out
          rw [HS.out, List.length_append] at this
          simp only [Lib.byteCells, List.length_map]
          omega
        · have := hb.size; have := HBs.out; omega
        · rintro e w' ⟨rfl, h1, h2⟩
          refine ⟨rfl, Lib.hid (.inr ?_), Lib.hid ((ext_trans Hb.out hb).trans h2)⟩
          rw [HS.out, cells_app (joinTo l k) l[k].text hY]; exact h1)
      clear hY hYs
      go_wp2_with fail
      refine (HWr.out _ (ext_alloc (Below.refl _ _) _)).mono ?_
      rintro e w2 ⟨rfl, HI2, Hb2⟩
      go_wp2
      go_roundw
      case rel => exact ⟨k + 1, by omega, by go_num, HI2, Hb2⟩
      case measure => simp [intOf]; omega
    · obtain rfl : k = l.length := by omega
      have HSt := Lib.hid (sbstring_any w.heap.size w.heap.size (joinTo l l.length) wr HI.out Hb.out.size)
      go_wp2_with fail
      refine HSt.out.mono ?_
      rintro e w2 ⟨rfl, hb2⟩
      have Hb2 := Lib.hid (Hb.out.trans hb2)
      go_wp2
      go_ret
      exact ⟨rfl, Hb2.out⟩
end Go.Proofs.Ytdghbdiapkelnaa

/-
  Assign. No statement of the seat is proved here.
-/
namespace Go.Proofs.Ytdghbdiapkelnaa
open Go Go.RowKit Go.Maps
set_option maxRecDepth 100000

/-- what Assign leaves -/
def Asgd (S : Nat → Prop) (w : World) (g : Nat) (t : Tr) (id : Nat) (vs : List (List UInt8)) (e : Ending) (w' : World) : Prop := ∃ (T : Nat → Prop) (V : Option Addr) (cv : Nat), e = .returned (.agg #[.int .i64 (id : Int), .slice V vs.length cv]) ∧ TrIn T w' g t ∧ (∀ k, T k → S k ∨ w.heap.size ≤ k) ∧ RowO w' 9 1 V vs.length cv (vs.map strV) ∧ (∀ k, inA V k → w.heap.size ≤ k ∧ ¬ T k) ∧ Only S w w'
section
variable {S : Nat → Prop} {w : World} {g : Nat} {t : Tr}
theorem toks_old {B : Option Addr} {l : List Tok} (h : ToksAt w B l) (ad : Addr) (e : B = some ad) (hne : cellsT l ≠ []) : ad.block < w.heap.size := by
  obtain ⟨u, r, hu⟩ := List.exists_cons_of_ne_nil hne
  obtain ⟨ad2, e2, hc⟩ := h.rd 0 u (by rw [hu]; rfl)
  rw [e] at e2
  injection e2 with e2
  subst e2
  exact World.block_lt_of_cell? w _ hc
/-- tokens that are not heavy -/
theorem light_ok {l : List Tok} (h : sumT l l.length ≤ 6000) : l.length ≤ 6000 ∧ (joinL l).length ≤ 6000 ∧ okKey l.length (keyA l) (keyB l) := by
  have h1 := sumT_ge l l.length (Nat.le_refl _)
  have h2 := joinTo_len l l.length
  have key : ∀ (r : List Tok), (∀ t ∈ r, t.text.length ≤ 6000) → (keyA r).length ≤ 140737488355328 := fun r hr => by
    cases r with
    | nil => simp [keyA]
    | cons x r =>
      simp only [keyA, keyT]
      split
      · have := hr x (List.mem_cons_self ..); omega
      · simp
  have hall : ∀ t ∈ l, t.text.length ≤ 6000 := fun t ht => by
    obtain ⟨k, hk, rfl⟩ := List.getElem_of_mem ht
    have h3 := sumT_succ l k hk
    have h4 : sumT l (k + 1) ≤ sumT l l.length := sumT_mono l (k + 1)
    omega
  refine ⟨by omega, by unfold joinL; omega, by omega, key l hall, ?_⟩
  cases l with
  | nil => simp [keyB]
  | cons x r => exact key r (fun t ht => hall t (List.mem_cons_of_mem _ ht))
theorem numT_zero {t : Tr} {l : List Tok} (h : (numT t l).2 = 0) : (numT t l).1 = t := by
  unfold numT at h ⊢
  by_cases ho : overB l = true
  · rw [if_pos ho]
  · rw [if_neg ho] at h ⊢
    cases hi : leafAt t l with
    | none =>
      simp only [hi] at h ⊢
      split
      · rfl
      · rename_i c1
        rw [if_neg c1] at h
        simp at h
    | some i =>
      simp only [hi] at h ⊢
      unfold atLeaf at h ⊢
      split
      · rename_i c1
        rw [if_pos c1] at h
        split
        · rfl
        · rename_i c2
          rw [if_neg c2] at h
          simp at h
      · rename_i c1
        rw [if_neg c1] at h
        split
        · rfl
        · rename_i c2
          rw [if_neg c2] at h
          split
          · rfl
          · rename_i c3
            rw [if_neg c3] at h
            simp at h
/-- what is shown once both ways are walked -/
theorem asgd_end {w2 w4 : World} {id : Nat} {vs : List (List UInt8)} {V : Option Addr} {cv : Nat} {cs : Array Value} (hSl : ∀ k, S k → k < w.heap.size) (hT2 : TrIn (grewS S (w.alloc (.cells cs 31)) w2) w2 g t) (hO2 : Only S (w.alloc (.cells cs 31)) w2)
    (hN : NewO w2 w4 9 1 V vs.length cv (vs.map strV)) (u v : Value) (x : Int) (hx : x = (id : Int)) :
    Asgd S w g t id vs (.returned (.agg #[.int .i64 x, .slice V vs.length cv])) ((w4.setCell ⟨w.heap.size, 0, none⟩ u).setCell ⟨w.heap.size, 1, none⟩ v) := by
  have hz : (w.alloc (.cells cs 31)).heap.size = w.heap.size + 1 := World.size_alloc _ _
  have h2 := hO2.size
  rw [hz] at h2
  have hz4 := hN.bel.size
  have hTn : ¬ grewS S (w.alloc (.cells cs 31)) w2 w.heap.size := by
    rintro (h | ⟨h, _⟩)
    · exact absurd (hSl _ h) (Nat.lt_irrefl _)
    · rw [hz] at h; omega
  have hc : Only (fun k => k = w.heap.size) w4 ((w4.setCell ⟨w.heap.size, 0, none⟩ u).setCell ⟨w.heap.size, 1, none⟩ v) := ((Only.of_ext (S := fun k => k = w.heap.size) (Below.refl _ _)).setCell (.inl rfl) _).setCell (.inl rfl) _
  refine ⟨grewS S (w.alloc (.cells cs 31)) w2, V, cv, by rw [hx], (hT2.ext hN.bel).only hc (fun k hk e => hTn (e ▸ hk)), fun k hk => ?_, hN.row.only hc (fun k hk e => ?_), fun k hk => ⟨?_, fun hT => ?_⟩, ?_⟩
  · rcases hk with hk | ⟨hk, _⟩
    · exact .inl hk
    · rw [hz] at hk; exact .inr (by omega)
  · have := hN.2.2 k hk; omega
  · have := hN.2.2 k hk; omega
  · have hk2 := hN.2.2 k hk
    rcases hT with hT | ⟨_, hT⟩
    · have := hSl _ hT; omega
    · omega
  · have h1 : Only S w (w.alloc (.cells cs 31)) := Only.of_ext (ext_alloc (Below.refl _ _) _)
    have h3 : Only S w w4 := (h1.trans hO2 (fun _ _ h => h)).trans (Only.of_ext (S := S) hN.bel) (fun _ _ h => h)
    exact (h3.setCell (.inr (Nat.le_refl _)) _).setCell (.inr (Nat.le_refl _)) _
set_option maxHeartbeats 2000000 in
theorem assign_any (h : TrIn S w g t) (hG : Good t) (B : Option Addr) (e2 : Nat) (l : List Tok) (hT : ToksAt w B l) (hBS : ∀ ad, B = some ad → cellsT l ≠ [] → ¬ S ad.block) (hm : l.length ≤ 1000000) (hj : (joinL l).length ≤ 140737488355328) (hk : okKey l.length (keyA l) (keyB l) ∨ 64 < l.length) :
    Calls Try.prog 15 #[.pointer (some ⟨g, 0, none⟩), .slice B l.length e2] w (Asgd S w g (numT t l).1 (numT t l).2 (varsT t l)) := by
  have hb0 : Below w.heap.size w (w.alloc (.cells #[.int .i64 0, .slice none 0 0] 31)) := ext_alloc (Below.refl _ _) _
  have HNum := Lib.hid (number_any (h.ext hb0) hG B e2 l (hT.ext hb0) (by omega) hk)
  have HBlk := Lib.hid (Blk.new w 31 #[.int .i64 0, .slice none 0 0])
  have HG2 := Lib.hid (hG.step l)
  have HF := Lib.hid (numT_fits hG l)
  have HSl : Hid (∀ k, S k → k < w.heap.size) := Lib.hid (fun k hk => h.lt hk)
  have HT : Hid (∀ W, Only S (w.alloc (.cells #[.int .i64 0, .slice none 0 0] 31)) W → ToksAt W B l) := Lib.hid (fun W ho => ⟨(hT.ext hb0).rd.only ho hBS, hT.flat⟩)
  have HJ : Hid (∀ W, ToksAt W B l → Calls Try.prog 33 #[.slice B l.length e2] W fun e w' => e = .returned (strV (joinL l)) ∧ Below W.heap.size W w') := Lib.hid (fun W hW => ljoin_any B e2 l W hW hm hj)
  have HV : Hid (varsT t l = if (numT t l).2 = 0 then [joinL l] else varsL (tmpl (numT t l).1 (numT t l).2) l) := Lib.hid rfl
  rcases hq : numT t l with ⟨t2, id⟩
  rw [hq] at HNum HG2 HF HV
  simp only at HNum HG2 HF HV ⊢
  clear h hG hT hBS hj hk hq hb0
  by_cases h0 : id = 0
  · have HVe : Hid (varsT t l = [joinL l]) := Lib.hid (by rw [HV.out, if_pos h0])
    clear HV
    generalize varsT t l = vs at *
    have hid0 : (id : Int) = 0 := by omega
    have h0b : ((id : Int) == 0) = true := by rw [hid0]; rfl
    obtain ⟨Z, hZ, -⟩ := str_hide (joinL l)
    have HZ := Lib.hid hZ
    have HJ2 : Hid (∀ W, ToksAt W B l → Calls Try.prog 33 #[.slice B l.length e2] W fun e w' => e = .returned (.string Z) ∧ Below W.heap.size W w') := Lib.hid (by rw [← hZ]; exact HJ.out)
    clear HJ hZ h0
    go_enter Try.func15, Try.ntmps15
    go_wp2_with fail
    refine HNum.out.mono ?_
    rintro e w2 ⟨rfl, hT2, hO2⟩
    have HT2 := Lib.hid hT2
    have HO2 := Lib.hid hO2
    have HJ3 := Lib.hid (HJ2.out w2 (HT.out w2 hO2))
    have HB2 := Lib.hid (HBlk.out.only hO2 (fun hx => absurd (HSl.out _ hx) (Nat.lt_irrefl _)))
    clear hT2 hO2
    go_wp2_with fail
    refine HJ3.out.mono ?_
    rintro e w3 ⟨rfl, hb3⟩
    have Hb3 := Lib.hid hb3
    have hX := (HB2.out.ext hb3).ext (ext_alloc (Below.refl _ _) (.cells #[.string Z] 9))
    have k0 := hX.cell 0
    have k1 := hX.cell 1
    have f0 := hX.free 0
    have f1 := hX.free 1
    simp only [List.getElem?_toArray, List.getElem?_cons_zero, List.getElem?_cons_succ] at k0 k1
    have hY := hX.put 0 (.int .i64 0)
    have m0 := (hY.put 1 (.slice (some ⟨w3.heap.size, 0, none⟩) 1 1)).cell 0
    have m1 := (hY.put 1 (.slice (some ⟨w3.heap.size, 0, none⟩) 1 1)).cell 1
    have m2 := hY.cell 0
    simp only [List.getElem?_toArray, List.setIfInBounds_toArray, List.set_cons_zero, List.set_cons_succ, List.getElem?_cons_zero, List.getElem?_cons_succ] at m0 m1 m2
    clear hX hY hb3
    go_wp2
    refine bodyPost_ret (v := .agg #[.int .i64 0, .slice (some ⟨w3.heap.size, 0, none⟩) 1 1]) (by simp [results, Try.results15, go_sem, m0, m1, m2]) rfl ?_
    have hN : NewO w2 (w3.alloc (.cells #[.string Z] 9)) 9 1 (some ⟨w3.heap.size, 0, none⟩) 1 1 [.string Z] := ⟨RowO.lit w3 9 1 1 #[.string Z] rfl (Nat.le_of_ble_eq_true rfl) rfl, ext_alloc Hb3.out _, fun k hk => by rw [inA_some] at hk; rw [← hk]; exact Hb3.out.size⟩
    rw [HVe.out]
    exact asgd_end (vs := [joinL l]) HSl.out HT2.out HO2.out (by rw [show [joinL l].map strV = [Value.string Z] from by rw [List.map_singleton, HZ.out]]; exact hN) _ _ 0 hid0.symm
  · have HVe : Hid (varsT t l = varsL (tmpl t2 id) l) := Lib.hid (by rw [HV.out, if_neg h0])
    clear HV HJ
    generalize varsT t l = vs at *
    have hid0 : ¬ (id : Int) = 0 := by omega
    have h0b : ((id : Int) == 0) = false := beq_eq_false_iff_ne.2 hid0
    have hti := HG2.out.ids
    have hP : (tmpl t2 id).length ≤ 1000000 := by
      unfold tmpl
      rw [if_neg h0, List.getD_eq_getElem?_getD]
      cases hx : t2.ts[id - 1]? with
      | none => exact Nat.zero_le _
      | some p => have := (HG2.out.long p (List.mem_of_getElem? hx)).2; simp; omega
    have HA : Hid (∀ W K, TrIn K W g t2 → Calls Try.prog 35 #[.pointer (some ⟨g, 0, none⟩), .int .i64 (id : Int)] W fun e w' => ∃ B e', e = .returned (.slice B (tmpl t2 id).length e') ∧ PartsAt w' B (tmpl t2 id) ∧ (tmpl t2 id).length ≤ e' ∧ Below W.heap.size W w') := Lib.hid (fun W K hK => by
      obtain ⟨A, c, xs, R, d, ys, M, hK⟩ := hK
      exact at_any hK (by omega) HF.out.1)
    have HVs : Hid (∀ W A c, PartsAt W A (tmpl t2 id) → (tmpl t2 id).length ≤ c → ToksAt W B l → Calls Try.prog 34 #[.slice A (tmpl t2 id).length c, .slice B l.length e2] W (SaysStrs vs W)) := Lib.hid (fun W A c h1 h2 h3 => by rw [HVe.out]; exact vars_any A _ c _ B _ e2 l W rfl rfl h2 h1 h3 hP hm)
    clear HF HG2 hti hP h0 HVe
    generalize tmpl t2 id = P at *
    go_enter Try.func15, Try.ntmps15
    go_wp2_with fail
    refine HNum.out.mono ?_
    rintro e w2 ⟨rfl, hT2, hO2⟩
    have HT2 := Lib.hid hT2
    have HO2 := Lib.hid hO2
    have HA2 := Lib.hid (HA.out w2 _ hT2)
    have HTk := Lib.hid (HT.out w2 hO2)
    have HB2 := Lib.hid (HBlk.out.only hO2 (fun hx => absurd (HSl.out _ hx) (Nat.lt_irrefl _)))
    clear hT2 hO2
    go_wp2_with fail
    refine HA2.out.mono ?_
    rintro e w3 ⟨A3, e3, rfl, hA3, he3, hb3⟩
    have HV3 := Lib.hid (HVs.out w3 A3 e3 hA3 he3 (HTk.out.ext hb3))
    have Hb3 := Lib.hid hb3
    clear hA3 he3 hb3
    go_wp2_with fail
    refine HV3.out.mono ?_
    rintro e w4 ⟨V, cv, rfl, hN⟩
    have HN := Lib.hid (hN.back Hb3.out)
    have hX := HB2.out.ext HN.out.bel
    have k0 := hX.cell 0
    have k1 := hX.cell 1
    have f0 := hX.free 0
    have f1 := hX.free 1
    simp only [List.getElem?_toArray, List.getElem?_cons_zero, List.getElem?_cons_succ] at k0 k1
    have hY := hX.put 0 (.int .i64 (id : Int))
    have m0 := (hY.put 1 (.slice V vs.length cv)).cell 0
    have m1 := (hY.put 1 (.slice V vs.length cv)).cell 1
    have m2 := hY.cell 0
    simp only [List.getElem?_toArray, List.setIfInBounds_toArray, List.set_cons_zero, List.set_cons_succ, List.getElem?_cons_zero, List.getElem?_cons_succ] at m0 m1 m2
    clear hX hY hN
    go_wp2
    refine bodyPost_ret (v := .agg #[.int .i64 (id : Int), .slice V vs.length cv]) (by simp [results, Try.results15, go_sem, m0, m1, m2]) rfl ?_
    exact asgd_end HSl.out HT2.out HO2.out HN.out _ _ _ rfl
end
end Go.Proofs.Ytdghbdiapkelnaa

/-
  The law's known: two lines. No statement of the seat is proved here.
-/
namespace Go.Proofs.Ytdghbdiapkelnaa
open Go Go.RowKit Go.Maps
set_option maxRecDepth 100000

def knA : List Tok := [⟨6, [117, 112]⟩, ⟨4, [51]⟩]
def knB : List Tok := [⟨6, [117, 112]⟩, ⟨4, [52]⟩]
def kn0 : Tr := ⟨[], []⟩
theorem kn_a : (numT kn0 knA).2 = 1 := by decide
theorem kn_b : (numT (numT kn0 knA).1 knB).2 = 1 := by decide
theorem kn_v : varsT (numT kn0 knA).1 knB = [[52]] := by decide
theorem kn_t : (numT (numT kn0 knA).1 knB).1.ts.length = 1 ∧ (numT (numT kn0 knA).1 knB).1.lv.length = 1 := by decide
theorem kn_ja : (joinL knA).length ≤ 140737488355328 := by decide
theorem kn_jb : (joinL knB).length ≤ 140737488355328 := by decide
theorem kn_ka : okKey knA.length (keyA knA) (keyB knA) := by unfold okKey; decide
theorem kn_kb : okKey knB.length (keyA knB) (keyB knB) := by unfold okKey; decide
def knT1 : Tr := (numT kn0 knA).1
def knT2 : Tr := (numT (numT kn0 knA).1 knB).1
theorem knT1_eq : (numT kn0 knA).1 = knT1 := rfl
theorem knT2_eq : (numT (numT kn0 knA).1 knB).1 = knT2 := rfl
theorem knT2_is : knT2.ts.length = 1 ∧ knT2.lv.length = 1 := kn_t
attribute [irreducible] knT1 knT2
/-- two tokens as a row of constants -/
theorem kn_row (w : World) {y : ByteArray} {l : List Tok} (h : cellsT l = [.int .i64 6, .string ⟨#[117, 112]⟩, .int .i64 4, .string y]) : ToksAt (w.alloc (Obj.cells #[.int .i64 6, .string ⟨#[117, 112]⟩, .int .i64 4, .string y] 62)) (some ⟨w.heap.size, 0, none⟩) l :=
  ⟨by rw [h]; exact Rd.lit w #[.int .i64 6, .string ⟨#[117, 112]⟩, .int .i64 4, .string y] 62, fun _ ad e => by injection e with e; exact ⟨_, _, e.symm⟩⟩
/-- the first line -/
theorem kn_first {S : Nat → Prop} {w : World} {g : Nat} (h : TrIn S w g kn0) : Calls Try.prog 15 #[.pointer (some ⟨g, 0, none⟩), .slice (some ⟨w.heap.size, 0, none⟩) 2 2] (w.alloc (Obj.cells #[.int .i64 6, .string ⟨#[117, 112]⟩, .int .i64 4, .string ⟨#[51]⟩] 62)) fun e w' => ∃ (T : Nat → Prop) (V : Option Addr) (n c : Nat), e = .returned (.agg #[.int .i64 1, .slice V n c]) ∧ Hid (TrIn T w' g knT1) ∧ Hid (∀ k, T k → S k ∨ w.heap.size + 1 ≤ k) ∧ Hid (Only S w w') := by
  have hb : Below w.heap.size w (w.alloc (Obj.cells #[.int .i64 6, .string ⟨#[117, 112]⟩, .int .i64 4, .string ⟨#[51]⟩] 62)) := ext_alloc (Below.refl _ _) _
  refine (assign_any (h.ext hb) Good.new (some ⟨w.heap.size, 0, none⟩) 2 knA (kn_row w rfl) (fun ad hk _ hS => ?_) (by decide) kn_ja (.inl kn_ka)).mono ?_
  · injection hk with hk
    subst hk
    exact absurd (h.lt hS) (Nat.lt_irrefl _)
  · rintro e w' ⟨T, V, c, rfl, h1, h2, -, -, h5⟩
    rw [kn_a]
    rw [knT1_eq] at h1
    exact ⟨T, V, _, c, rfl, Lib.hid h1, Lib.hid (fun k hk => by have := h2 k hk; rwa [World.size_alloc] at this), Lib.hid ((Only.of_ext hb).trans h5 (fun _ _ h => h))⟩
/-- the second line -/
theorem kn_second {S : Nat → Prop} {w : World} {g : Nat} (h : TrIn S w g knT1) {q : Nat} (hq : w.heap.size = q) : Calls Try.prog 15 #[.pointer (some ⟨g, 0, none⟩), .slice (some ⟨q, 0, none⟩) 2 2] (w.alloc (Obj.cells #[.int .i64 6, .string ⟨#[117, 112]⟩, .int .i64 4, .string ⟨#[52]⟩] 62)) fun e w' => ∃ (T : Nat → Prop) (b o c : Nat), e = .returned (.agg #[.int .i64 1, .slice (some ⟨b, o, none⟩) 1 c]) ∧ Hid (TrIn T w' g knT2) ∧ w'.cell? ⟨b, o, none⟩ = some (.string ⟨#[52]⟩) ∧ Hid (Only S w w') := by
  subst hq
  have hb : Below w.heap.size w (w.alloc (Obj.cells #[.int .i64 6, .string ⟨#[117, 112]⟩, .int .i64 4, .string ⟨#[52]⟩] 62)) := ext_alloc (Below.refl _ _) _
  rw [← knT1_eq] at h
  refine (assign_any (h.ext hb) (Good.new.step knA) (some ⟨w.heap.size, 0, none⟩) 2 knB (kn_row w rfl) (fun ad hk _ hS => ?_) (by decide) kn_jb (.inl kn_kb)).mono ?_
  · injection hk with hk
    subst hk
    exact absurd (h.lt hS) (Nat.lt_irrefl _)
  · rintro e w' ⟨T, V, c, rfl, h1, -, h3, -, h5⟩
    rw [kn_b]
    rw [knT2_eq] at h1
    rw [kn_v] at h3 ⊢
    obtain ⟨b, o, rfl⟩ := h3.addr (by decide)
    obtain ⟨ad, ea, hc⟩ := h3.rd 0 _ rfl
    injection ea with ea
    subst ea
    exact ⟨T, b, o, c, rfl, Lib.hid h1, hc, Lib.hid ((Only.of_ext hb).trans h5 (fun _ _ h => h))⟩
set_option maxHeartbeats 400000 in
theorem known15_any (w : World) : Calls Try.prog 18 #[] w fun e w' => e = .returned (.bool true) ∧ Below w.heap.size w w' := by
  have HN := Lib.hid (new_any w)
  go_enter Try.func18, Try.ntmps18
  go_wp2_with fail
  refine HN.out.mono ?_
  rintro e w1 ⟨g, rfl, hT, hb, hg⟩
  have HT := Lib.hid hT
  have Hb := Lib.hid hb
  have Hg := Lib.hid hg
  have H1 := Lib.hid (kn_first hT)
  clear hT hb hg HN
  go_wp2_with fail
  refine H1.out.mono ?_
  rintro e w2 ⟨T, V, n, c, rfl, HT2, HS2, HO2⟩
  have hT2' := HT2.out.ext (ext_alloc (Below.refl w2.heap.size w2) (Obj.cells #[.int .i64 1, .slice V n c] 31))
  have H2 := Lib.hid (kn_second hT2' (q := w2.heap.size + 1) (World.size_alloc _ _))
  clear hT2' H1
  go_wp2_with fail
  refine H2.out.mono ?_
  rintro e w3 ⟨T3, b, o, c3, rfl, HT3, c0, HO3⟩
  have hTn : ¬ T w2.heap.size := fun h => Nat.lt_irrefl _ (HT2.out.lt h)
  have hB2 := ((Blk.new w2 31 #[.int .i64 1, .slice V n c]).only HO3.out hTn).ext (ext_alloc (Below.refl _ _) (Obj.cells #[.int .i64 1, .slice (some ⟨b, o, none⟩) 1 c3] 31))
  have a0 := hB2.cell 0
  have hB3 := Blk.new w3 31 #[.int .i64 1, .slice (some ⟨b, o, none⟩) 1 c3]
  have b0 := hB3.cell 0
  have b1 := hB3.cell 1
  simp only [List.getElem?_toArray, List.getElem?_cons_zero, List.getElem?_cons_succ] at a0 b0 b1
  have c1 : (w3.alloc (Obj.cells #[.int .i64 1, .slice (some ⟨b, o, none⟩) 1 c3] 31)).cell? ⟨b, o, none⟩ = some (.string ⟨#[52]⟩) := (World.cell?_of_block (Below.heap_alloc w3 _ b (World.block_lt_of_cell? w3 _ c0))).trans c0
  have hT4 := HT3.out.ext (ext_alloc (Below.refl w3.heap.size w3) (Obj.cells #[.int .i64 1, .slice (some ⟨b, o, none⟩) 1 c3] 31))
  have HL := Lib.hid (len_any hT4 (by rw [knT2_is.1]; decide))
  have HLv := Lib.hid (leaves_any hT4)
  rw [knT2_is.1] at HL
  rw [knT2_is.2] at HLv
  have HE : Hid (Below w.heap.size w (w3.alloc (Obj.cells #[.int .i64 1, .slice (some ⟨b, o, none⟩) 1 c3] 31))) := Lib.hid (by
    have q1 := Hb.out.size
    have q2 := HO2.out.size
    have h1 : Below w.heap.size w w2 := Hb.out.trans (HO2.out.below (fun i hi => by have := Hg.out; omega) q1)
    have h2 : Below w.heap.size w (w2.alloc (Obj.cells #[.int .i64 1, .slice V n c] 31)) := ext_alloc h1 _
    have h3 : Below w.heap.size w w3 := h2.trans (HO3.out.below (fun i hi => by have := HS2.out i hi; have := Hg.out; omega) h2.size)
    exact ext_alloc h3 _)
  clear hTn hB2 hB3 hT4 c0 H2
  go_wp2_with fail
  refine HL.out.mono ?_
  rintro e w4 ⟨rfl, hw⟩
  subst hw
  go_wp2_with fail
  refine HLv.out.mono ?_
  rintro e w4 ⟨rfl, hw⟩
  subst hw
  go_wp2
  go_ret
  exact ⟨rfl, HE.out⟩
end Go.Proofs.Ytdghbdiapkelnaa
