/-
  Texts of this claim, joined (part 19): contracts and lemmas that the last text goes by. No statement of the seat is proved here.
-/
import Derived.Test.YtdghbdiapkelnaaAll17
import Derived.Test.YtdghbdiapkelnaaAll11
import Derived.Test.YtdghbdiapkelnaaAll18
import Derived.Test.YtdghbdiapkelnaaAll7
import Derived.Test.YtdghbdiapkelnaaAll3
import Derived.Deep.RegionHeld3
set_option linter.unusedVariables false
set_option linter.unusedSimpArgs false
/-
  Texts stay short; are two trees alike (the law's). No statement of the seat is proved here.
-/
namespace Go.Proofs.Ytdghbdiapkelnaa
open Go Go.RowKit Go.Maps
set_option maxRecDepth 100000

theorem tok_small {l : List Tok} (hs : sumT l l.length ≤ 6000) : ∀ x ∈ l, x.text.length ≤ 6000 := fun x hx => by
  obtain ⟨k, hk, rfl⟩ := List.getElem_of_mem hx
  have h3 := sumT_succ l k hk
  have h4 : sumT l (k + 1) ≤ sumT l l.length := sumT_mono l (k + 1)
  omega
theorem ofL_small {l : List Tok} (h : ∀ x ∈ l, x.text.length ≤ 6000) : ∀ q ∈ ofL l, q.text.length ≤ 6000 := fun q hq => by
  unfold ofL at hq
  obtain ⟨x, hx, rfl⟩ := List.mem_map.1 hq
  unfold ofT
  split
  · simp [dot]
  · exact h x hx
theorem mergeL_small : ∀ (ps : List Prt) (l : List Tok), (∀ q ∈ ps, q.text.length ≤ 6000) → ∀ q ∈ mergeL ps l, q.text.length ≤ 6000
  | [], _, _, q, hq => by simp [mergeL] at hq
  | a :: r, l, h, q, hq => by
    rw [mergeL] at hq
    rcases List.mem_cons.1 hq with rfl | hq
    · unfold merge1
      have ha := h a (List.mem_cons_self ..)
      have hd : dot.text.length ≤ 6000 := by simp [dot]
      split
      · exact hd
      · split
        · split
          · exact ha
          · exact hd
        · exact ha
    · exact mergeL_small r _ (fun q hq => h q (List.mem_cons_of_mem _ hq)) q hq
theorem keyT_small {x : Tok} (h : x.text.length ≤ 6000) : (keyT x).length ≤ 6000 := by
  unfold keyT
  split
  · exact h
  · simp
theorem keys_small {l : List Tok} (h : ∀ x ∈ l, x.text.length ≤ 6000) : (keyA l).length ≤ 6000 ∧ (keyB l).length ≤ 6000 := by
  match l with
  | [] => exact ⟨by simp [keyA], by simp [keyB]⟩
  | [a] => exact ⟨keyT_small (h a (List.mem_cons_self ..)), by simp [keyB, keyA]⟩
  | a :: b :: r => exact ⟨keyT_small (h a (List.mem_cons_self ..)), keyT_small (h b (List.mem_cons_of_mem _ (List.mem_cons_self ..)))⟩
theorem Sml.new : Sml ⟨[], []⟩ := ⟨fun p hp => (nomatch hp), fun x hx => (nomatch hx)⟩
theorem Sml.add {t : Tr} (h : Sml t) {p : List Prt} {lv : List Lf} (hp : ∀ q ∈ p, q.text.length ≤ 6000) (hl : ∀ x ∈ lv, x.a.length ≤ 6000 ∧ x.b.length ≤ 6000 ∧ x.count ≤ 64) : Sml (addT t p lv) := ⟨fun r hr q hq => by
  rcases List.mem_append.1 hr with hr | hr
  · exact h.tx r hr q hq
  · rw [List.mem_singleton] at hr; subst hr; exact hp q hq, hl⟩
theorem Sml.tmpl {t : Tr} (h : Sml t) (g : Nat) : ∀ q ∈ tmpl t g, q.text.length ≤ 6000 := fun q hq => by
  unfold Go.Proofs.Ytdghbdiapkelnaa.tmpl at hq
  split at hq
  · rw [List.mem_singleton] at hq; subst hq; simp [dot]
  · rw [List.getD_eq_getElem?_getD] at hq
    cases hx : t.ts[g - 1]? with
    | none => rw [hx] at hq; simp at hq
    | some p => rw [hx] at hq; exact h.tx p (List.mem_of_getElem? hx) q hq
theorem Sml.step {t : Tr} (h : Sml t) {l : List Tok} (hs : sumT l l.length ≤ 6000) : Sml (numT t l).1 := by
  have hx := tok_small hs
  have hk := keys_small hx
  unfold numT
  by_cases ho : overB l = true
  · rw [if_pos ho]; exact h
  · rw [if_neg ho]
    have hl := over_no ho
    cases hf : leafAt t l with
    | none =>
      simp only
      split
      · exact h
      · refine h.add (ofL_small hx) (fun x hxm => ?_)
        rcases List.mem_append.1 hxm with hxm | hxm
        · exact h.ky x hxm
        · rw [List.mem_singleton] at hxm; subst hxm; exact ⟨hk.1, hk.2, hl.2⟩
    | some i =>
      simp only
      obtain ⟨hi, e1, -, -, -⟩ := leaf_some hf
      rw [e1]
      have hki := h.ky _ (List.getElem_mem hi)
      have hset : ∀ gs, ∀ x ∈ t.lv.set i ⟨t.lv[i].count, t.lv[i].a, t.lv[i].b, gs⟩, x.a.length ≤ 6000 ∧ x.b.length ≤ 6000 ∧ x.count ≤ 64 := fun gs x hxm => by
        rcases List.mem_or_eq_of_mem_set hxm with hxm | rfl
        · exact h.ky x hxm
        · exact hki
      unfold atLeaf
      split
      · split
        · exact h
        · exact h.add (ofL_small hx) (hset _)
      · split
        · exact h
        · split
          · exact h
          · exact h.add (mergeL_small _ _ (h.tmpl _)) (hset _)
section
variable {S : Nat → Prop} {w : World} {g : Nat} {t : Tr}
set_option maxHeartbeats 1000000 in
theorem template_out (h : TrIn S w g t) (hG : Good t) {id : Int} (hid : id < 0 ∨ (t.ts.length : Int) + 1 ≤ id) : Calls Try.prog 19 #[.pointer (some ⟨g, 0, none⟩), .int .i64 id] w fun e w' => e = .returned (.tuple #[.slice none 0 0, .bool false]) ∧ w' = w := by
  have HL := Lib.hid (len_any h (by have := hG.ids; omega))
  have hti := hG.ids
  by_cases h0 : id < 0
  · clear h hid
    go_enter Try.func19, Try.ntmps19
    go_wp2
    go_ret2
    exact ⟨rfl, rfl⟩
  · have h1 : (t.ts.length : Int) + 1 ≤ id := by rcases hid with h | h; exact absurd h h0; exact h
    obtain ⟨n1, hn1⟩ : ∃ n1 : Int, n1 = (t.ts.length : Int) + 1 := ⟨_, rfl⟩
    rw [← hn1] at HL h1
    clear h hid hn1 hti hG
    go_enter Try.func19, Try.ntmps19
    go_wp2_with fail
    refine HL.out.mono ?_
    rintro e w1 ⟨rfl, hw⟩
    have hw := hw.symm
    subst hw
    go_wp2
    go_ret2
    exact ⟨rfl, rfl⟩
set_option maxHeartbeats 8000000 in
theorem alikeT_any {X : Nat → Prop} {x : Nat} (h : TrIn S w g t) (hx : RTIn X w x t) (hG : Good t) (hS : Sml t) :
    Calls Try.prog 17 #[.pointer (some ⟨g, 0, none⟩), .pointer (some ⟨x, 0, none⟩)] w fun e w' => e = .returned (.bool true) ∧ Below w.heap.size w w' := by
  have H := Lib.hid h
  have HX := Lib.hid hx
  have HG := Lib.hid hG
  have HS := Lib.hid hS
  have hti := hG.ids
  have hlv := hG.lvs
  obtain ⟨n1, hn1⟩ : ∃ n1, n1 = t.ts.length + 1 := ⟨_, rfl⟩
  have Hn1 := Lib.hid hn1
  have hn1i : (n1 : Int) ≤ 64 := by omega
  have hli : (t.lv.length : Int) ≤ 32 := by omega
  obtain ⟨A, c, xs, R, d, ys, hxa⟩ := hx
  have HXa := Lib.hid hxa
  have HC : Hid (∀ W, Below w.heap.size w W → W.cell? ⟨x, 0, none⟩ = some (.slice A n1 c) ∧ W.cell? ⟨x, 1, none⟩ = some (.slice R t.lv.length d)) := Lib.hid (fun W hW => by
    have hb := (HXa.out.ext hW).blk
    have x0 := hb.cell 0
    have x1 := hb.cell 1
    simp only [List.getElem?_toArray, List.getElem?_cons_zero, List.getElem?_cons_succ] at x0 x1
    rw [Hn1.out]
    exact ⟨x0, x1⟩)
  have HLn : Hid (∀ W, Below w.heap.size w W → Calls Try.prog 22 #[.pointer (some ⟨g, 0, none⟩)] W fun e w' => e = .returned (.int .i64 (n1 : Int)) ∧ w' = W) := Lib.hid (fun W hW => by
    have := len_any (H.out.ext hW) (by omega)
    rw [show (t.ts.length : Int) + 1 = (n1 : Int) by omega] at this
    exact this)
  have HLv : Hid (∀ W, Below w.heap.size w W → Calls Try.prog 24 #[.pointer (some ⟨g, 0, none⟩)] W fun e w' => e = .returned (.int .i64 (t.lv.length : Int)) ∧ w' = W) := Lib.hid (fun W hW => leaves_any (H.out.ext hW))
  obtain ⟨E, hE⟩ : ∃ E, E = treeB t := ⟨_, rfl⟩
  have HE1 : Hid (∀ W, Below w.heap.size w W → Calls Try.prog 26 #[.pointer (some ⟨g, 0, none⟩)] W fun e w' => ∃ A' c', e = .returned (.slice A' E.length c') ∧ Hid (Rd w' A' (E.map bv)) ∧ Hid (Below W.heap.size W w')) := Lib.hid (fun W hW => by
    rw [hE]
    refine (encode_any (H.out.ext hW) HG.out HS.out).mono ?_
    rintro e w' ⟨A', c', rfl, h1, h2⟩
    exact ⟨A', c', rfl, Lib.hid h1.rd, Lib.hid h2⟩)
  have HE2 : Hid (∀ W, Below w.heap.size w W → Calls Try.prog 43 #[.pointer (some ⟨x, 0, none⟩)] W fun e w' => ∃ A' c', e = .returned (.slice A' E.length c') ∧ Hid (Rd w' A' (E.map bv)) ∧ Hid (Below W.heap.size W w')) := Lib.hid (fun W hW => by
    rw [hE]
    refine (rencode_any (HX.out.ext hW) HG.out HS.out).mono ?_
    rintro e w' ⟨A', c', rfl, h1, h2⟩
    exact ⟨A', c', rfl, Lib.hid h1, Lib.hid h2⟩)
  obtain ⟨Z, hZ, -⟩ := str_hide E
  have HZ : Hid (∀ W A c, Rd W A (E.map bv) → (convert 48 9 (.slice A E.length c)).run Try.prog W = .ok (.string Z) W) := Lib.hid (fun W A c hr => by
    have := conv_bytes W A _ c E rfl hr
    rw [show Value.string ⟨E.toArray⟩ = strV E from rfl, hZ] at this
    exact this)
  have HTm : Hid (∀ W, Below w.heap.size w W → ∀ q, q ≤ t.ts.length → Calls Try.prog 19 #[.pointer (some ⟨g, 0, none⟩), .int .i64 (q : Int)] W fun e w' => ∃ B c, e = .returned (.tuple #[.slice B (tmpl t q).length c, .bool true]) ∧ Hid (NewO W w' 72 2 B (tmpl t q).length c (cellsP (tmpl t q)))) := Lib.hid (fun W hW q hq => (template_any (H.out.ext hW) HG.out hq).mono (fun e w' ⟨B, c, h1, h2⟩ => ⟨B, c, h1, Lib.hid h2⟩))
  have HT1 : Hid (∀ W, Below w.heap.size w W → Calls Try.prog 19 #[.pointer (some ⟨g, 0, none⟩), .int .i64 (n1 : Int)] W fun e w' => e = .returned (.tuple #[.slice none 0 0, .bool false]) ∧ w' = W) := Lib.hid (fun W hW => template_out (H.out.ext hW) HG.out (.inr (by omega)))
  have HT2 : Hid (∀ W, Below w.heap.size w W → Calls Try.prog 19 #[.pointer (some ⟨g, 0, none⟩), .int .i64 (-1)] W fun e w' => e = .returned (.tuple #[.slice none 0 0, .bool false]) ∧ w' = W) := Lib.hid (fun W hW => template_out (H.out.ext hW) HG.out (.inl (by omega)))
  have hne1 : ((n1 : Int) != (n1 : Int)) = false := by simp
  clear h hG hS hti hlv hn1 hxa hE hZ
  go_enter Try.func17, Try.ntmps17
  go_wp2
  refine wp_region_held_drew (S := (fun W => W.cell? ⟨x, 0, none⟩ = some (.slice A n1 c) ∧ W.cell? ⟨x, 1, none⟩ = some (.slice R t.lv.length d))) (by kernel_rfl) ?_ (fun hHeld => ?_)
  · exact HC.out _ (by repeat (first | exact Below.refl _ _ | refine ext_drewN ?_ _ | refine ext_drew ?_) : Below w.heap.size w w.drew)
  refine wpAnyH_take (i := 0) (v := ?_) (take_list rfl) (by kernel_rfl) (by kernel_rfl) (by kernel_rfl) (fun _ _ _ h => h) (Or.inl ⟨by rfl, ?_⟩) (by assumption) ?_
  rotate_left
  · intro w hSw
    try dsimp only at hSw
    first | (go_simp; done) | (go_simp; with_reducible rfl)
  try simp only [Act.put, List.setIfInBounds_toArray, List.set_cons_zero, List.set_cons_succ]
  refine wpAnyH_take (i := 2) (v := ?_) (take_list rfl) (by kernel_rfl) (by kernel_rfl) (by kernel_rfl) (fun _ _ _ h => h) (Or.inl ⟨by rfl, ?_⟩) (by assumption) ?_
  rotate_left
  · intro w hSw
    try dsimp only at hSw
    first | (go_simp; done) | (go_simp; with_reducible rfl)
  try simp only [Act.put, List.setIfInBounds_toArray, List.set_cons_zero, List.set_cons_succ]
  refine wpAnyH_take (i := 3) (v := ?_) (take_list rfl) (by kernel_rfl) (by kernel_rfl) (by kernel_rfl) (fun _ _ _ h => h) (Or.inl ⟨by rfl, ?_⟩) (by assumption) ?_
  rotate_left
  · intro w hSw
    try dsimp only at hSw
    first | (go_simp; done) | (go_simp; with_reducible rfl)
  try simp only [Act.put, List.setIfInBounds_toArray, List.set_cons_zero, List.set_cons_succ]
  refine wpAnyH_take (i := 4) (v := ?_) (take_list rfl) (by kernel_rfl) (by kernel_rfl) (by kernel_rfl) (fun _ _ _ h => h) (Or.inl ⟨by rfl, ?_⟩) (by assumption) ?_
  rotate_left
  · intro w hSw
    try dsimp only at hSw
    first | (go_simp; done) | (go_simp; with_reducible rfl)
  try simp only [Act.put, List.setIfInBounds_toArray, List.set_cons_zero, List.set_cons_succ]
  refine wpAnyH_take (i := 5) (v := ?_) (take_list rfl) (by kernel_rfl) (by kernel_rfl) (by kernel_rfl) (fun _ _ _ h => h) (Or.inl ⟨by rfl, ?_⟩) (by assumption) ?_
  rotate_left
  · intro w hSw
    try dsimp only at hSw
    first | (go_simp; done) | (go_simp; with_reducible rfl)
  try simp only [Act.put, List.setIfInBounds_toArray, List.set_cons_zero, List.set_cons_succ]
  refine wpAnyH_take (i := 6) (v := ?_) (take_list rfl) (by kernel_rfl) (by kernel_rfl) (by kernel_rfl) (fun _ _ _ h => h) (Or.inl ⟨by rfl, ?_⟩) (by assumption) ?_
  rotate_left
  · intro w hSw
    try dsimp only at hSw
    first | (go_simp; done) | (go_simp; with_reducible rfl)
  try simp only [Act.put, List.setIfInBounds_toArray, List.set_cons_zero, List.set_cons_succ]
  refine wpAnyH_ready (rs := [1]) (by kernel_rfl) (by simp) ?_
  refine AllReadyH.cons (take_list rfl) (fun K hK => ?_) ?_
  · skip
    go_simp
    refine (HLn.out _ (by repeat (first | exact Below.refl _ _ | refine ext_drewN ?_ _ | refine ext_drew ?_) : Below w.heap.size w w.drew)).mono ?_
    rintro e x1 ⟨rfl, hx1⟩
    have hx1 := hx1.symm
    subst hx1
    dsimp only
    refine hK.out _ _ ?_ (fun hHeld => ?_)
    · try dsimp only
      exact HC.out _ (by repeat (first | exact Below.refl _ _ | refine ext_drewN ?_ _ | refine ext_drew ?_) : Below w.heap.size w w.drew)
    clear hK K
    refine wpAnyH_take (i := 7) (v := ?_) (take_list rfl) (by kernel_rfl) (by kernel_rfl) (by kernel_rfl) (fun _ _ _ h => h) (Or.inl ⟨by rfl, ?_⟩) (by assumption) ?_
    rotate_left
    · intro w hSw
      try dsimp only at hSw
      first | (go_simp; done) | (go_simp; with_reducible rfl)
    try simp only [Act.put, List.setIfInBounds_toArray, List.set_cons_zero, List.set_cons_succ]
    refine wpAnyH_take (i := 8) (v := ?_) (take_list rfl) (by kernel_rfl) (by kernel_rfl) (by kernel_rfl) (fun _ _ _ h => h) (Or.inl ⟨by rfl, ?_⟩) (by assumption) ?_
    rotate_left
    · intro w hSw
      try dsimp only at hSw
      first | (go_simp; done) | (go_simp; with_reducible rfl)
    try simp only [Act.put, List.setIfInBounds_toArray, List.set_cons_zero, List.set_cons_succ]
    refine wpAnyH_take (i := 9) (v := ?_) (take_list rfl) (by kernel_rfl) (by kernel_rfl) (by kernel_rfl) (fun _ _ _ h => h) (Or.inl ⟨by rfl, ?_⟩) (by assumption) ?_
    rotate_left
    · intro w hSw
      try dsimp only at hSw
      first | (go_simp; done) | (go_simp; with_reducible rfl)
    try simp only [Act.put, List.setIfInBounds_toArray, List.set_cons_zero, List.set_cons_succ]
    refine wpAnyH_take (i := 11) (v := ?_) (take_list rfl) (by kernel_rfl) (by kernel_rfl) (by kernel_rfl) (fun _ _ _ h => h) (Or.inl ⟨by rfl, ?_⟩) (by assumption) ?_
    rotate_left
    · intro w hSw
      try dsimp only at hSw
      first | (go_simp; done) | (go_simp; with_reducible rfl)
    try simp only [Act.put, List.setIfInBounds_toArray, List.set_cons_zero, List.set_cons_succ]
    refine wpAnyH_take (i := 12) (v := ?_) (take_list rfl) (by kernel_rfl) (by kernel_rfl) (by kernel_rfl) (fun _ _ _ h => h) (Or.inl ⟨by rfl, ?_⟩) (by assumption) ?_
    rotate_left
    · intro w hSw
      try dsimp only at hSw
      first | (go_simp; done) | (go_simp; with_reducible rfl)
    try simp only [Act.put, List.setIfInBounds_toArray, List.set_cons_zero, List.set_cons_succ]
    refine wpAnyH_take (i := 13) (v := ?_) (take_list rfl) (by kernel_rfl) (by kernel_rfl) (by kernel_rfl) (fun _ _ _ h => h) (Or.inl ⟨by rfl, ?_⟩) (by assumption) ?_
    rotate_left
    · intro w hSw
      try dsimp only at hSw
      first | (go_simp; done) | (go_simp; with_reducible rfl)
    try simp only [Act.put, List.setIfInBounds_toArray, List.set_cons_zero, List.set_cons_succ]
    refine wpAnyH_take (i := 14) (v := ?_) (take_list rfl) (by kernel_rfl) (by kernel_rfl) (by kernel_rfl) (fun _ _ _ h => h) (Or.inl ⟨by rfl, ?_⟩) (by assumption) ?_
    rotate_left
    · intro w hSw
      try dsimp only at hSw
      first | (go_simp; done) | (go_simp; with_reducible rfl)
    try simp only [Act.put, List.setIfInBounds_toArray, List.set_cons_zero, List.set_cons_succ]
    refine wpAnyH_take (i := 15) (v := ?_) (take_list rfl) (by kernel_rfl) (by kernel_rfl) (by kernel_rfl) (fun _ _ _ h => h) (Or.inl ⟨by rfl, ?_⟩) (by assumption) ?_
    rotate_left
    · intro w hSw
      try dsimp only at hSw
      first | (go_simp; done) | (go_simp; with_reducible rfl)
    try simp only [Act.put, List.setIfInBounds_toArray, List.set_cons_zero, List.set_cons_succ]
    refine wpAnyH_ready (rs := [10]) (by kernel_rfl) (by simp) ?_
    refine AllReadyH.cons (take_list rfl) (fun K hK => ?_) ?_
    · skip
      go_simp
      refine (HLv.out _ (by repeat (first | exact Below.refl _ _ | refine ext_drewN ?_ _ | refine ext_drew ?_) : Below w.heap.size w w.drew)).mono ?_
      rintro e x1 ⟨rfl, hx1⟩
      have hx1 := hx1.symm
      subst hx1
      dsimp only
      refine hK.out _ _ ?_ (fun hHeld => ?_)
      · try dsimp only
        exact HC.out _ (by repeat (first | exact Below.refl _ _ | refine ext_drewN ?_ _ | refine ext_drew ?_) : Below w.heap.size w w.drew)
      clear hK K
      refine wpAnyH_take (i := 16) (v := ?_) (take_list rfl) (by kernel_rfl) (by kernel_rfl) (by kernel_rfl) (fun _ _ _ h => h) (Or.inl ⟨by rfl, ?_⟩) (by assumption) ?_
      rotate_left
      · intro w hSw
        try dsimp only at hSw
        first | (go_simp; done) | (go_simp; with_reducible rfl)
      try simp only [Act.put, List.setIfInBounds_toArray, List.set_cons_zero, List.set_cons_succ]
      refine wpAnyH_take (i := 17) (v := ?_) (take_list rfl) (by kernel_rfl) (by kernel_rfl) (by kernel_rfl) (fun _ _ _ h => h) (Or.inl ⟨by rfl, ?_⟩) (by assumption) ?_
      rotate_left
      · intro w hSw
        try dsimp only at hSw
        first | (go_simp; done) | (go_simp; with_reducible rfl)
      try simp only [Act.put, List.setIfInBounds_toArray, List.set_cons_zero, List.set_cons_succ]
      refine wpAnyH_take (i := 18) (v := ?_) (take_list rfl) (by kernel_rfl) (by kernel_rfl) (by kernel_rfl) (fun _ _ _ h => h) (Or.inl ⟨by rfl, ?_⟩) (by assumption) ?_
      rotate_left
      · intro w hSw
        try dsimp only at hSw
        first | (go_simp; done) | (go_simp; with_reducible rfl)
      try simp only [Act.put, List.setIfInBounds_toArray, List.set_cons_zero, List.set_cons_succ]
      refine wpAnyH_take (i := 19) (v := ?_) (take_list rfl) (by kernel_rfl) (by kernel_rfl) (by kernel_rfl) (fun _ _ _ h => h) (Or.inl ⟨by rfl, ?_⟩) (by assumption) ?_
      rotate_left
      · intro w hSw
        try dsimp only at hSw
        first | (go_simp; done) | (go_simp; with_reducible rfl)
      try simp only [Act.put, List.setIfInBounds_toArray, List.set_cons_zero, List.set_cons_succ]
      refine wpAnyH_take (i := 22) (v := ?_) (take_list rfl) (by kernel_rfl) (by kernel_rfl) (by kernel_rfl) (fun _ _ _ h => h) (Or.inl ⟨by rfl, ?_⟩) (by assumption) ?_
      rotate_left
      · intro w hSw
        try dsimp only at hSw
        first | (go_simp; done) | (go_simp; with_reducible rfl)
      try simp only [Act.put, List.setIfInBounds_toArray, List.set_cons_zero, List.set_cons_succ]
      refine wpAnyH_ready (rs := [20]) (by kernel_rfl) (by simp) ?_
      refine AllReadyH.cons (take_list rfl) (fun K hK => ?_) ?_
      · skip
        go_simp
        refine (HE1.out _ (by repeat (first | exact Below.refl _ _ | refine ext_drewN ?_ _ | refine ext_drew ?_) : Below w.heap.size w w.drew)).mono ?_
        rintro e w1 ⟨A1, c1, rfl, hr1, hb1⟩
        dsimp only
        refine hK.out _ _ ?_ (fun hHeld => ?_)
        · try dsimp only
          exact HC.out _ (ext_trans (by repeat (first | exact Below.refl _ _ | refine ext_drewN ?_ _ | refine ext_drew ?_) : Below w.heap.size w w.drew) hb1.out)
        clear hK K
        refine wpAnyH_ready (rs := [21, 23]) (by kernel_rfl) (by simp) ?_
        refine AllReadyH.cons (take_list rfl) (fun K hK => ?_) ?_
        · skip
          have hcv := HZ.out w1 A1 c1 hr1.out
          go_simp
          clear hcv
          refine hK.out _ _ ?_ (fun hHeld => ?_)
          · try dsimp only
            exact HC.out _ (ext_trans (by repeat (first | exact Below.refl _ _ | refine ext_drewN ?_ _ | refine ext_drew ?_) : Below w.heap.size w w.drew) hb1.out)
          clear hK K
          refine wpAnyH_ready (rs := [23]) (by kernel_rfl) (by simp) ?_
          refine AllReadyH.cons (take_list rfl) (fun K hK => ?_) ?_
          · skip
            go_simp
            refine (HE2.out _ (ext_trans (by repeat (first | exact Below.refl _ _ | refine ext_drewN ?_ _ | refine ext_drew ?_) : Below w.heap.size w w.drew) hb1.out)).mono ?_
            rintro e w2 ⟨A2, c2, rfl, hr2, hb2⟩
            dsimp only
            refine hK.out _ _ ?_ (fun hHeld => ?_)
            · try dsimp only
              exact HC.out _ (ext_trans (ext_trans (by repeat (first | exact Below.refl _ _ | refine ext_drewN ?_ _ | refine ext_drew ?_) : Below w.heap.size w w.drew) hb1.out) hb2.out)
            clear hK K
            refine wpAnyH_ready (rs := [24]) (by kernel_rfl) (by simp) ?_
            refine AllReadyH.cons (take_list rfl) (fun K hK => ?_) ?_
            · skip
              have hcv := HZ.out w2 A2 c2 hr2.out
              go_simp
              clear hcv
              refine hK.out _ _ ?_ (fun hHeld => ?_)
              · try dsimp only
                exact HC.out _ (ext_trans (ext_trans (by repeat (first | exact Below.refl _ _ | refine ext_drewN ?_ _ | refine ext_drew ?_) : Below w.heap.size w w.drew) hb1.out) hb2.out)
              clear hK K
              refine wpAnyH_take (i := 25) (v := ?_) (take_list rfl) (by kernel_rfl) (by kernel_rfl) (by kernel_rfl) (fun _ _ _ h => h) (Or.inl ⟨by rfl, ?_⟩) (by assumption) ?_
              rotate_left
              · intro w hSw
                try dsimp only at hSw
                first | (go_simp; done) | (go_simp; with_reducible rfl)
              try simp only [Act.put, List.setIfInBounds_toArray, List.set_cons_zero, List.set_cons_succ]
              refine wpAnyH_take (i := 26) (v := ?_) (take_list rfl) (by kernel_rfl) (by kernel_rfl) (by kernel_rfl) (fun _ _ _ h => h) (Or.inl ⟨by rfl, ?_⟩) (by assumption) ?_
              rotate_left
              · intro w hSw
                try dsimp only at hSw
                first | (go_simp; done) | (go_simp; with_reducible rfl)
              try simp only [Act.put, List.setIfInBounds_toArray, List.set_cons_zero, List.set_cons_succ]
              refine wpAnyH_done (by kernel_rfl) ?_ _
              have Hb2 : Hid (Below w.heap.size w w2) := Lib.hid (ext_trans (ext_trans (by repeat (first | exact Below.refl _ _ | refine ext_drewN ?_ _ | refine ext_drew ?_) : Below w.heap.size w w.drew) hb1.out) hb2.out)
              clear hr1 hr2 hb1 hb2
              go_wp2
              go_loopw [5] (fun i wr => ∃ k : Nat, k ≤ n1 ∧ i = .int .i64 (k : Int) ∧ Hid (Below w.heap.size w wr)) (fun i _ => n1 - (intOf i).toNat)
              case atStart => exact ⟨0, Nat.zero_le _, rfl, Hb2⟩
              case round =>
                obtain ⟨k, hk, rfl, Hb⟩ := hrel
                obtain ⟨y0, -⟩ := HC.out wr Hb.out
                by_cases hlt : k < n1
                · have hki : (k : Int) < (n1 : Int) := by omega
                  have hkt : k ≤ t.ts.length := by have := Hn1.out; omega
                  have HTk := Lib.hid (HTm.out wr Hb.out k hkt)
                  obtain ⟨gA, oA, P, e, rfl, c0, hP, -⟩ := HXa.out.tmp hkt
                  have HP := Lib.hid (parts_row hP)
                  have HCk : Hid (∀ W, Below w.heap.size w W → W.cell? ⟨gA, oA + k, none⟩ = some (.slice P (tmpl t k).length e)) := Lib.hid (fun W hW => cell_only c0 (Only.of_ext (S := fun _ => False) hW) (fun h => h))
                  have Hsh := Lib.hid (tmpl_short HG.out k)
                  clear c0 hP hkt
                  go_wp2_with fail
                  refine HTk.out.mono ?_
                  rintro e5 w5 ⟨B5, c5, rfl, hN5⟩
                  have Hb5 := Lib.hid (ext_trans Hb.out hN5.out.bel)
                  obtain ⟨z0, -⟩ := HC.out w5 Hb5.out
                  have z1 := HCk.out w5 Hb5.out
                  have HSm : Hid (Calls Try.prog 23 #[.slice B5 (tmpl t k).length c5, .slice P (tmpl t k).length e] w5 fun e w' => e = .returned (.bool true) ∧ Below w5.heap.size w5 w') := Lib.hid ((rsame_any B5 _ c5 (tmpl t k) P _ e (tmpl t k) w5 rfl rfl (parts_new hN5.out) (HP.out.ext Hb5.out) Hsh.out Hsh.out).mono (fun e w' ⟨h1, h2⟩ => ⟨by rw [h1, decide_eq_true rfl], h2⟩))
                  clear y0 HTk
                  go_wp2_with fail
                  refine HSm.out.mono ?_
                  rintro e6 w6 ⟨rfl, hb6⟩
                  have Hb6 := Lib.hid (ext_trans Hb5.out hb6)
                  clear hb6 z0 z1
                  go_wp2
                  go_roundw
                  case rel => exact ⟨k + 1, by omega, by go_num, Hb6⟩
                  case measure => simp [intOf]; omega
                · obtain rfl : k = n1 := by omega
                  have HTa := Lib.hid (HT1.out wr Hb.out)
                  have HTb := Lib.hid (HT2.out wr Hb.out)
                  have Hbz := Lib.hid Hb.out
                  go_wp2_with fail
                  refine HTa.out.mono ?_
                  rintro e5 w5 ⟨rfl, hw5⟩
                  have hw5 := hw5.symm
                  subst hw5
                  go_wp2_with fail
                  refine HTb.out.mono ?_
                  rintro e5 w5 ⟨rfl, hw5⟩
                  have hw5 := hw5.symm
                  subst hw5
                  go_wp2
                  go_ret
                  exact ⟨rfl, Hbz.out⟩
            exact AllReadyH.nil
          exact AllReadyH.nil
        refine AllReadyH.cons (take_list rfl) (fun K hK => ?_) ?_
        · skip
          go_simp
          refine (HE2.out _ (ext_trans (by repeat (first | exact Below.refl _ _ | refine ext_drewN ?_ _ | refine ext_drew ?_) : Below w.heap.size w w.drew) hb1.out)).mono ?_
          rintro e w2 ⟨A2, c2, rfl, hr2, hb2⟩
          dsimp only
          refine hK.out _ _ ?_ (fun hHeld => ?_)
          · try dsimp only
            exact HC.out _ (ext_trans (ext_trans (by repeat (first | exact Below.refl _ _ | refine ext_drewN ?_ _ | refine ext_drew ?_) : Below w.heap.size w w.drew) hb1.out) hb2.out)
          clear hK K
          refine wpAnyH_ready (rs := [21, 24]) (by kernel_rfl) (by simp) ?_
          refine AllReadyH.cons (take_list rfl) (fun K hK => ?_) ?_
          · skip
            have hcv := HZ.out w2 A1 c1 (hr1.out.ext hb2.out)
            go_simp
            clear hcv
            refine hK.out _ _ ?_ (fun hHeld => ?_)
            · try dsimp only
              exact HC.out _ (ext_trans (ext_trans (by repeat (first | exact Below.refl _ _ | refine ext_drewN ?_ _ | refine ext_drew ?_) : Below w.heap.size w w.drew) hb1.out) hb2.out)
            clear hK K
            refine wpAnyH_ready (rs := [24]) (by kernel_rfl) (by simp) ?_
            refine AllReadyH.cons (take_list rfl) (fun K hK => ?_) ?_
            · skip
              have hcv := HZ.out w2 A2 c2 hr2.out
              go_simp
              clear hcv
              refine hK.out _ _ ?_ (fun hHeld => ?_)
              · try dsimp only
                exact HC.out _ (ext_trans (ext_trans (by repeat (first | exact Below.refl _ _ | refine ext_drewN ?_ _ | refine ext_drew ?_) : Below w.heap.size w w.drew) hb1.out) hb2.out)
              clear hK K
              refine wpAnyH_take (i := 25) (v := ?_) (take_list rfl) (by kernel_rfl) (by kernel_rfl) (by kernel_rfl) (fun _ _ _ h => h) (Or.inl ⟨by rfl, ?_⟩) (by assumption) ?_
              rotate_left
              · intro w hSw
                try dsimp only at hSw
                first | (go_simp; done) | (go_simp; with_reducible rfl)
              try simp only [Act.put, List.setIfInBounds_toArray, List.set_cons_zero, List.set_cons_succ]
              refine wpAnyH_take (i := 26) (v := ?_) (take_list rfl) (by kernel_rfl) (by kernel_rfl) (by kernel_rfl) (fun _ _ _ h => h) (Or.inl ⟨by rfl, ?_⟩) (by assumption) ?_
              rotate_left
              · intro w hSw
                try dsimp only at hSw
                first | (go_simp; done) | (go_simp; with_reducible rfl)
              try simp only [Act.put, List.setIfInBounds_toArray, List.set_cons_zero, List.set_cons_succ]
              refine wpAnyH_done (by kernel_rfl) ?_ _
              have Hb2 : Hid (Below w.heap.size w w2) := Lib.hid (ext_trans (ext_trans (by repeat (first | exact Below.refl _ _ | refine ext_drewN ?_ _ | refine ext_drew ?_) : Below w.heap.size w w.drew) hb1.out) hb2.out)
              clear hr1 hr2 hb1 hb2
              go_wp2
              go_loopw [5] (fun i wr => ∃ k : Nat, k ≤ n1 ∧ i = .int .i64 (k : Int) ∧ Hid (Below w.heap.size w wr)) (fun i _ => n1 - (intOf i).toNat)
              case atStart => exact ⟨0, Nat.zero_le _, rfl, Hb2⟩
              case round =>
                obtain ⟨k, hk, rfl, Hb⟩ := hrel
                obtain ⟨y0, -⟩ := HC.out wr Hb.out
                by_cases hlt : k < n1
                · have hki : (k : Int) < (n1 : Int) := by omega
                  have hkt : k ≤ t.ts.length := by have := Hn1.out; omega
                  have HTk := Lib.hid (HTm.out wr Hb.out k hkt)
                  obtain ⟨gA, oA, P, e, rfl, c0, hP, -⟩ := HXa.out.tmp hkt
                  have HP := Lib.hid (parts_row hP)
                  have HCk : Hid (∀ W, Below w.heap.size w W → W.cell? ⟨gA, oA + k, none⟩ = some (.slice P (tmpl t k).length e)) := Lib.hid (fun W hW => cell_only c0 (Only.of_ext (S := fun _ => False) hW) (fun h => h))
                  have Hsh := Lib.hid (tmpl_short HG.out k)
                  clear c0 hP hkt
                  go_wp2_with fail
                  refine HTk.out.mono ?_
                  rintro e5 w5 ⟨B5, c5, rfl, hN5⟩
                  have Hb5 := Lib.hid (ext_trans Hb.out hN5.out.bel)
                  obtain ⟨z0, -⟩ := HC.out w5 Hb5.out
                  have z1 := HCk.out w5 Hb5.out
                  have HSm : Hid (Calls Try.prog 23 #[.slice B5 (tmpl t k).length c5, .slice P (tmpl t k).length e] w5 fun e w' => e = .returned (.bool true) ∧ Below w5.heap.size w5 w') := Lib.hid ((rsame_any B5 _ c5 (tmpl t k) P _ e (tmpl t k) w5 rfl rfl (parts_new hN5.out) (HP.out.ext Hb5.out) Hsh.out Hsh.out).mono (fun e w' ⟨h1, h2⟩ => ⟨by rw [h1, decide_eq_true rfl], h2⟩))
                  clear y0 HTk
                  go_wp2_with fail
                  refine HSm.out.mono ?_
                  rintro e6 w6 ⟨rfl, hb6⟩
                  have Hb6 := Lib.hid (ext_trans Hb5.out hb6)
                  clear hb6 z0 z1
                  go_wp2
                  go_roundw
                  case rel => exact ⟨k + 1, by omega, by go_num, Hb6⟩
                  case measure => simp [intOf]; omega
                · obtain rfl : k = n1 := by omega
                  have HTa := Lib.hid (HT1.out wr Hb.out)
                  have HTb := Lib.hid (HT2.out wr Hb.out)
                  have Hbz := Lib.hid Hb.out
                  go_wp2_with fail
                  refine HTa.out.mono ?_
                  rintro e5 w5 ⟨rfl, hw5⟩
                  have hw5 := hw5.symm
                  subst hw5
                  go_wp2_with fail
                  refine HTb.out.mono ?_
                  rintro e5 w5 ⟨rfl, hw5⟩
                  have hw5 := hw5.symm
                  subst hw5
                  go_wp2
                  go_ret
                  exact ⟨rfl, Hbz.out⟩
            exact AllReadyH.nil
          refine AllReadyH.cons (take_list rfl) (fun K hK => ?_) ?_
          · skip
            have hcv := HZ.out w2 A2 c2 hr2.out
            go_simp
            clear hcv
            refine hK.out _ _ ?_ (fun hHeld => ?_)
            · try dsimp only
              exact HC.out _ (ext_trans (ext_trans (by repeat (first | exact Below.refl _ _ | refine ext_drewN ?_ _ | refine ext_drew ?_) : Below w.heap.size w w.drew) hb1.out) hb2.out)
            clear hK K
            refine wpAnyH_ready (rs := [21]) (by kernel_rfl) (by simp) ?_
            refine AllReadyH.cons (take_list rfl) (fun K hK => ?_) ?_
            · skip
              have hcv := HZ.out w2 A1 c1 (hr1.out.ext hb2.out)
              go_simp
              clear hcv
              refine hK.out _ _ ?_ (fun hHeld => ?_)
              · try dsimp only
                exact HC.out _ (ext_trans (ext_trans (by repeat (first | exact Below.refl _ _ | refine ext_drewN ?_ _ | refine ext_drew ?_) : Below w.heap.size w w.drew) hb1.out) hb2.out)
              clear hK K
              refine wpAnyH_take (i := 25) (v := ?_) (take_list rfl) (by kernel_rfl) (by kernel_rfl) (by kernel_rfl) (fun _ _ _ h => h) (Or.inl ⟨by rfl, ?_⟩) (by assumption) ?_
              rotate_left
              · intro w hSw
                try dsimp only at hSw
                first | (go_simp; done) | (go_simp; with_reducible rfl)
              try simp only [Act.put, List.setIfInBounds_toArray, List.set_cons_zero, List.set_cons_succ]
              refine wpAnyH_take (i := 26) (v := ?_) (take_list rfl) (by kernel_rfl) (by kernel_rfl) (by kernel_rfl) (fun _ _ _ h => h) (Or.inl ⟨by rfl, ?_⟩) (by assumption) ?_
              rotate_left
              · intro w hSw
                try dsimp only at hSw
                first | (go_simp; done) | (go_simp; with_reducible rfl)
              try simp only [Act.put, List.setIfInBounds_toArray, List.set_cons_zero, List.set_cons_succ]
              refine wpAnyH_done (by kernel_rfl) ?_ _
              have Hb2 : Hid (Below w.heap.size w w2) := Lib.hid (ext_trans (ext_trans (by repeat (first | exact Below.refl _ _ | refine ext_drewN ?_ _ | refine ext_drew ?_) : Below w.heap.size w w.drew) hb1.out) hb2.out)
              clear hr1 hr2 hb1 hb2
              go_wp2
              go_loopw [5] (fun i wr => ∃ k : Nat, k ≤ n1 ∧ i = .int .i64 (k : Int) ∧ Hid (Below w.heap.size w wr)) (fun i _ => n1 - (intOf i).toNat)
              case atStart => exact ⟨0, Nat.zero_le _, rfl, Hb2⟩
              case round =>
                obtain ⟨k, hk, rfl, Hb⟩ := hrel
                obtain ⟨y0, -⟩ := HC.out wr Hb.out
                by_cases hlt : k < n1
                · have hki : (k : Int) < (n1 : Int) := by omega
                  have hkt : k ≤ t.ts.length := by have := Hn1.out; omega
                  have HTk := Lib.hid (HTm.out wr Hb.out k hkt)
                  obtain ⟨gA, oA, P, e, rfl, c0, hP, -⟩ := HXa.out.tmp hkt
                  have HP := Lib.hid (parts_row hP)
                  have HCk : Hid (∀ W, Below w.heap.size w W → W.cell? ⟨gA, oA + k, none⟩ = some (.slice P (tmpl t k).length e)) := Lib.hid (fun W hW => cell_only c0 (Only.of_ext (S := fun _ => False) hW) (fun h => h))
                  have Hsh := Lib.hid (tmpl_short HG.out k)
                  clear c0 hP hkt
                  go_wp2_with fail
                  refine HTk.out.mono ?_
                  rintro e5 w5 ⟨B5, c5, rfl, hN5⟩
                  have Hb5 := Lib.hid (ext_trans Hb.out hN5.out.bel)
                  obtain ⟨z0, -⟩ := HC.out w5 Hb5.out
                  have z1 := HCk.out w5 Hb5.out
                  have HSm : Hid (Calls Try.prog 23 #[.slice B5 (tmpl t k).length c5, .slice P (tmpl t k).length e] w5 fun e w' => e = .returned (.bool true) ∧ Below w5.heap.size w5 w') := Lib.hid ((rsame_any B5 _ c5 (tmpl t k) P _ e (tmpl t k) w5 rfl rfl (parts_new hN5.out) (HP.out.ext Hb5.out) Hsh.out Hsh.out).mono (fun e w' ⟨h1, h2⟩ => ⟨by rw [h1, decide_eq_true rfl], h2⟩))
                  clear y0 HTk
                  go_wp2_with fail
                  refine HSm.out.mono ?_
                  rintro e6 w6 ⟨rfl, hb6⟩
                  have Hb6 := Lib.hid (ext_trans Hb5.out hb6)
                  clear hb6 z0 z1
                  go_wp2
                  go_roundw
                  case rel => exact ⟨k + 1, by omega, by go_num, Hb6⟩
                  case measure => simp [intOf]; omega
                · obtain rfl : k = n1 := by omega
                  have HTa := Lib.hid (HT1.out wr Hb.out)
                  have HTb := Lib.hid (HT2.out wr Hb.out)
                  have Hbz := Lib.hid Hb.out
                  go_wp2_with fail
                  refine HTa.out.mono ?_
                  rintro e5 w5 ⟨rfl, hw5⟩
                  have hw5 := hw5.symm
                  subst hw5
                  go_wp2_with fail
                  refine HTb.out.mono ?_
                  rintro e5 w5 ⟨rfl, hw5⟩
                  have hw5 := hw5.symm
                  subst hw5
                  go_wp2
                  go_ret
                  exact ⟨rfl, Hbz.out⟩
            exact AllReadyH.nil
          exact AllReadyH.nil
        exact AllReadyH.nil
      exact AllReadyH.nil
    exact AllReadyH.nil
  exact AllReadyH.nil
end
end Go.Proofs.Ytdghbdiapkelnaa

/-
  TreeAssigns' walk. No statement of the seat is proved here.
-/
namespace Go.Proofs.Ytdghbdiapkelnaa
open Go Go.RowKit Go.Maps
set_option maxRecDepth 100000

theorem toks_block {w : World} {B : Option Addr} {l : List Tok} (h : ToksAt w B l) (ad : Addr) (e : B = some ad) (hne : cellsT l ≠ []) : ad.block < w.heap.size := toks_old h ad e hne
set_option maxHeartbeats 8000000 in
theorem assigns_walk (A : Option Addr) (c : Nat) (l : List (List Tok)) (w : World) (h : RowR IsTks 1 w A l) (hl : l.length ≤ maxLen) (hz : ∀ r ∈ l, ∀ t ∈ r, t.text.length ≤ 140737488355328) :
    Calls Try.prog 3 #[.slice A l.length c] w fun e w' => e = .returned (.bool true) ∧ Below w.heap.size w w' := by
  have HR := Lib.hid h
  have HH := Lib.hid (heavyT_any A c l w h hl hz)
  unfold maxLen at hl
  have hli : (l.length : Int) ≤ 9223372036854775807 := by omega
  have HN := Lib.hid (new_any w)
  clear h hl hz
  go_enter Try.func3, Try.ntmps3
  go_wp2_with fail
  refine HH.out.mono ?_
  rintro e w0 ⟨r, rfl, hw, hlt⟩
  subst hw
  have HL1 : Hid (r = false → ∀ i (hi : i < l.length), i < 120 → sumT l[i] l[i].length ≤ 6000) := Lib.hid hlt
  clear hlt HH
  cases r
  case true =>
    go_wp2
    go_ret
    exact ⟨rfl, Below.refl _ _⟩
  case false =>
    have HLt : Hid (∀ i (hi : i < l.length), i < 120 → sumT l[i] l[i].length ≤ 6000) := Lib.hid (HL1.out rfl)
    clear HL1
    go_wp2_with fail
    refine HN.out.mono ?_
    rintro e w1 ⟨g, rfl, hT, hb, hg⟩
    have HT := Lib.hid hT
    have Hb := Lib.hid hb
    have Hg := Lib.hid hg
    have HN2 := Lib.hid (rnew_any w1)
    clear hT hb hg HN
    go_wp2_with fail
    refine HN2.out.mono ?_
    rintro e w2 ⟨x, rfl, hX, hb2⟩
    have HX := Lib.hid hX
    have HT2 := Lib.hid (HT.out.ext hb2)
    have Hb2 := Lib.hid (ext_trans Hb.out hb2)
    have Hgx : Hid (∀ j, j = g → w.heap.size ≤ j ∧ ¬ (w1.heap.size ≤ j ∧ j < w2.heap.size)) := Lib.hid (fun j hj => by
      have h1 := HT.out.lt hj
      have h2 := Hg.out
      exact ⟨by omega, by omega⟩)
    have Hx1 : Hid (∀ j, w1.heap.size ≤ j ∧ j < w2.heap.size → w.heap.size ≤ j) := Lib.hid (fun j hj => Nat.le_trans Hb.out.size hj.1)
    clear hX hb2 HN2
    go_wp2
    go_loopw [5] (fun i wr => ∃ k : Nat, k ≤ l.length ∧ k ≤ 120 ∧ i = .int .i64 (k : Int) ∧ ∃ (T X : Nat → Prop) (t : Tr), Hid (TrIn T wr g t) ∧ Hid (RTIn X wr x t) ∧ Hid (Good t) ∧ Hid (Sml t) ∧ Hid (∀ j, T j → w.heap.size ≤ j ∧ ¬ X j) ∧ Hid (∀ j, X j → w.heap.size ≤ j) ∧ Hid (Below w.heap.size w wr)) (fun i _ => l.length - (intOf i).toNat)
    case atStart => exact ⟨0, Nat.zero_le _, Nat.zero_le _, rfl, _, _, _, HT2, HX, Lib.hid Good.new, Lib.hid Sml.new, Hgx, Hx1, Hb2⟩
    case round =>
      obtain ⟨k, hk, hk120, rfl, T, X, t, HTr, HXr, HG, HS, HTs, HXs, Hbr⟩ := hrel
      by_cases hlt : k < l.length
      · have hki : (k : Int) < (l.length : Int) := by omega
        by_cases h120 : k < 120
        · have hk1 : (k : Int) < 120 := by omega
          obtain ⟨g2, o2, B, cb, rfl, u0, ht, hm1, hm2⟩ := row_toks HR.out hlt
          unfold maxLen at hm2
          have hmi : (l[k].length : Int) ≤ 9223372036854775807 := by omega
          have HU : Hid (∀ W, Below w.heap.size w W → W.cell? ⟨g2, o2 + k, none⟩ = some (.slice B l[k].length cb)) := Lib.hid (fun W hW => (World.cell?_of_block (hW.block _ (World.block_lt_of_cell? w _ u0))).trans u0)
          have hs := HLt.out k hlt h120
          have hbd : Below w.heap.size w wr.drew := ext_drew Hbr.out
          have HA := Lib.hid (asg_step (wr := wr.drew) cb (HTr.out.ext (ext_drew (Below.refl _ _))) HG.out (fun j hj => (HTs.out j hj).1) hbd ht hs)
          have HG2 := Lib.hid (HG.out.step l[k])
          have HS2 := Lib.hid (HS.out.step hs)
          have HTk := Lib.hid ht
          have HB : Hid (∀ (X : Nat → Prop) (W : World), (∀ j, X j → w.heap.size ≤ j) → Below w.heap.size w W → RTIn X W x t → Calls Try.prog 16 #[.pointer (some ⟨x, 0, none⟩), .slice B l[k].length cb] W (RAsgd X W x (numT t l[k]).1 (numT t l[k]).2 (varsT t l[k]))) := Lib.hid (fun X W hX hW hR => rassign_any hR HG.out B cb l[k] (HTk.out.ext hW) (fun ad e hne hx => by
            have := toks_block HTk.out ad e hne
            have := hX _ hx
            omega) hs)
          have HI := Lib.hid (idT HG.out l[k])
          have e0 := HU.out wr Hbr.out
          clear u0 ht hm1 hm2 hs hbd HG HS
          generalize varsT t l[k] = vs at *
          generalize numT t l[k] = ni at *
          obtain ⟨t2, id⟩ := ni
          dsimp only at HA HG2 HS2 HB HI
          generalize l[k] = ts at *
          go_wp2
          refine wp_region_held_drew (S := (fun W => W.cell? ⟨g2, o2 + k, none⟩ = some (.slice B ts.length cb))) (by kernel_rfl) ?_ (fun hHeld => ?_)
          · exact HU.out _ (by repeat (first | exact Hbr.out | refine ext_drewN ?_ _ | refine ext_drew ?_))
          refine wpAnyH_take (i := 0) (v := ?_) (take_list rfl) (by kernel_rfl) (by kernel_rfl) (by kernel_rfl) (fun _ _ _ h => h) (Or.inl ⟨by rfl, ?_⟩) (by assumption) ?_
          rotate_left
          · intro w hSw
            try dsimp only at hSw
            first | (go_simp; done) | (go_simp; with_reducible rfl)
          try simp only [Act.put, List.setIfInBounds_toArray, List.set_cons_zero, List.set_cons_succ]
          refine wpAnyH_take (i := 1) (v := ?_) (take_list rfl) (by kernel_rfl) (by kernel_rfl) (by kernel_rfl) (fun _ _ _ h => h) (Or.inl ⟨by rfl, ?_⟩) (by assumption) ?_
          rotate_left
          · intro w hSw
            try dsimp only at hSw
            first | (go_simp; done) | (go_simp; with_reducible rfl)
          try simp only [Act.put, List.setIfInBounds_toArray, List.set_cons_zero, List.set_cons_succ]
          refine wpAnyH_take (i := 2) (v := ?_) (take_list rfl) (by kernel_rfl) (by kernel_rfl) (by kernel_rfl) (fun _ _ _ h => h) (Or.inl ⟨by rfl, ?_⟩) (by assumption) ?_
          rotate_left
          · intro w hSw
            try dsimp only at hSw
            first | (go_simp; done) | (go_simp; with_reducible rfl)
          try simp only [Act.put, List.setIfInBounds_toArray, List.set_cons_zero, List.set_cons_succ]
          refine wpAnyH_take (i := 3) (v := ?_) (take_list rfl) (by kernel_rfl) (by kernel_rfl) (by kernel_rfl) (fun _ _ _ h => h) (Or.inl ⟨by rfl, ?_⟩) (by assumption) ?_
          rotate_left
          · intro w hSw
            try dsimp only at hSw
            first | (go_simp; done) | (go_simp; with_reducible rfl)
          try simp only [Act.put, List.setIfInBounds_toArray, List.set_cons_zero, List.set_cons_succ]
          refine wpAnyH_take (i := 4) (v := ?_) (take_list rfl) (by kernel_rfl) (by kernel_rfl) (by kernel_rfl) (fun _ _ _ h => h) (Or.inl ⟨by rfl, ?_⟩) (by assumption) ?_
          rotate_left
          · intro w hSw
            try dsimp only at hSw
            first | (go_simp; done) | (go_simp; with_reducible rfl)
          try simp only [Act.put, List.setIfInBounds_toArray, List.set_cons_zero, List.set_cons_succ]
          refine wpAnyH_take (i := 6) (v := ?_) (take_list rfl) (by kernel_rfl) (by kernel_rfl) (by kernel_rfl) (fun _ _ _ h => h) (Or.inl ⟨by rfl, ?_⟩) (by assumption) ?_
          rotate_left
          · intro w hSw
            try dsimp only at hSw
            first | (go_simp; done) | (go_simp; with_reducible rfl)
          try simp only [Act.put, List.setIfInBounds_toArray, List.set_cons_zero, List.set_cons_succ]
          refine wpAnyH_take (i := 7) (v := ?_) (take_list rfl) (by kernel_rfl) (by kernel_rfl) (by kernel_rfl) (fun _ _ _ h => h) (Or.inl ⟨by rfl, ?_⟩) (by assumption) ?_
          rotate_left
          · intro w hSw
            try dsimp only at hSw
            first | (go_simp; done) | (go_simp; with_reducible rfl)
          try simp only [Act.put, List.setIfInBounds_toArray, List.set_cons_zero, List.set_cons_succ]
          refine wpAnyH_take (i := 8) (v := ?_) (take_list rfl) (by kernel_rfl) (by kernel_rfl) (by kernel_rfl) (fun _ _ _ h => h) (Or.inl ⟨by rfl, ?_⟩) (by assumption) ?_
          rotate_left
          · intro w hSw
            try dsimp only at hSw
            first | (go_simp; done) | (go_simp; with_reducible rfl)
          try simp only [Act.put, List.setIfInBounds_toArray, List.set_cons_zero, List.set_cons_succ]
          refine wpAnyH_take (i := 9) (v := ?_) (take_list rfl) (by kernel_rfl) (by kernel_rfl) (by kernel_rfl) (fun _ _ _ h => h) (Or.inl ⟨by rfl, ?_⟩) (by assumption) ?_
          rotate_left
          · intro w hSw
            try dsimp only at hSw
            first | (go_simp; done) | (go_simp; with_reducible rfl)
          try simp only [Act.put, List.setIfInBounds_toArray, List.set_cons_zero, List.set_cons_succ]
          refine wpAnyH_take (i := 10) (v := ?_) (take_list rfl) (by kernel_rfl) (by kernel_rfl) (by kernel_rfl) (fun _ _ _ h => h) (Or.inl ⟨by rfl, ?_⟩) (by assumption) ?_
          rotate_left
          · intro w hSw
            try dsimp only at hSw
            first | (go_simp; done) | (go_simp; with_reducible rfl)
          try simp only [Act.put, List.setIfInBounds_toArray, List.set_cons_zero, List.set_cons_succ]
          refine wpAnyH_ready (rs := [5]) (by kernel_rfl) (by simp) ?_
          refine AllReadyH.cons (take_list rfl) (fun K hK => ?_) ?_
          · skip
            go_simp
            refine HA.out.mono ?_
            rintro e w3 ⟨T2, V, cv, rfl, HT3, HTs3, HV, HVn, Hb3, HO3, HTn⟩
            dsimp only
            have HX3 : Hid (RTIn X w3 x t) := Lib.hid ((HXr.out.ext (w' := wr.drew) (ext_drew (Below.refl _ _))).only HO3.out (fun j hj ht => (HTs.out j ht).2 hj))
            have HT2X : Hid (∀ j, T2 j → ¬ X j) := Lib.hid (fun j hj hx => by
              rcases HTn.out j hj with h | h
              · exact (HTs.out j h).2 hx
              · have h1 : wr.heap.size ≤ j := h
                have := HXr.out.lt j hx; omega)
            have HVX : Hid (∀ j, inA V j → ¬ X j) := Lib.hid (fun j hj hx => by
              have h1 : wr.heap.size ≤ j := (HVn.out j hj).1
              have := HXr.out.lt j hx; omega)
            have HB3 := Lib.hid (HB.out X w3 HXs.out Hb3.out HX3.out)
            refine hK.out _ _ ?_ (fun hHeld => ?_)
            · try dsimp only
              exact HU.out _ Hb3.out
            clear hK K
            refine wpAnyH_ready (rs := [11]) (by kernel_rfl) (by simp) ?_
            refine AllReadyH.cons (take_list rfl) (fun K hK => ?_) ?_
            · skip
              go_simp
              refine HB3.out.mono ?_
              rintro e w4 ⟨X2, V2, cv2, rfl, hX4, hXn, hV2, hV2n, hO4⟩
              dsimp only
              have HX4 := Lib.hid hX4
              have HT4 : Hid (TrIn T2 w4 g t2) := Lib.hid (HT3.out.only hO4 HT2X.out)
              have HTX4 : Hid (∀ j, T2 j → w.heap.size ≤ j ∧ ¬ X2 j) := Lib.hid (fun j hj => ⟨HTs3.out j hj, fun hx => by
                rcases hXn j hx with h | h
                · exact HT2X.out j hj h
                · have := HT3.out.lt hj; omega⟩)
              have HXs4 : Hid (∀ j, X2 j → w.heap.size ≤ j) := Lib.hid (fun j hj => by
                rcases hXn j hj with h | h
                · exact HXs.out j h
                · have := Hb3.out.size; omega)
              have hV4 := HV.out.only hO4 HVX.out
              have Hb4 : Hid (Below w.heap.size w w4) := Lib.hid (Hb3.out.trans (hO4.below HXs.out Hb3.out.size))
              have HLi : Hid (Calls Try.prog 14 #[.agg #[.int .i64 (id : Int), .slice V vs.length cv], .agg #[.int .i64 (id : Int), .slice V2 vs.length cv2]] w4 fun e w' => e = .returned (.bool true) ∧ Below w4.heap.size w4 w') := Lib.hid (by
                refine (rline_any ⟨(id : Int), vs⟩ ⟨(id : Int), vs⟩ V V2 cv cv2 w4 ⟨HI.out, hV4.le, hV4.max, hV4.nil_cap, hV4.rd⟩ ⟨HI.out, hV2.le, hV2.max, hV2.nil_cap, hV2.rd⟩).mono ?_
                rintro e w' ⟨r, rfl, hr, hb⟩
                rw [hr.2 rfl]
                exact ⟨rfl, hb⟩)
              clear hX4 hXn hV2 hV2n hO4 hV4
              refine hK.out _ _ ?_ (fun hHeld => ?_)
              · try dsimp only
                exact HU.out _ Hb4.out
              clear hK K
              refine wpAnyH_ready (rs := [12]) (by kernel_rfl) (by simp) ?_
              refine AllReadyH.cons (take_list rfl) (fun K hK => ?_) ?_
              · skip
                go_simp
                refine HLi.out.mono ?_
                rintro e w5 ⟨rfl, hb5⟩
                dsimp only
                have Hb5 := Lib.hid hb5
                refine hK.out _ _ ?_ (fun hHeld => ?_)
                · try dsimp only
                  exact HU.out _ (ext_trans Hb4.out Hb5.out)
                clear hK K
                refine wpAnyH_take (i := 13) (v := ?_) (take_list rfl) (by kernel_rfl) (by kernel_rfl) (by kernel_rfl) (fun _ _ _ h => h) (Or.inl ⟨by rfl, ?_⟩) (by assumption) ?_
                rotate_left
                · intro w hSw
                  try dsimp only at hSw
                  first | (go_simp; done) | (go_simp; with_reducible rfl)
                try simp only [Act.put, List.setIfInBounds_toArray, List.set_cons_zero, List.set_cons_succ]
                refine wpAnyH_done (by kernel_rfl) ?_ _
                go_wp2
                go_roundw
                case rel => exact ⟨k + 1, by omega, by omega, by go_num, T2, X2, t2, Lib.hid (HT4.out.ext Hb5.out), Lib.hid (HX4.out.ext Hb5.out), HG2, HS2, HTX4, HXs4, Lib.hid (ext_trans Hb4.out Hb5.out)⟩
                case measure => simp [intOf]; omega
              exact AllReadyH.nil
            exact AllReadyH.nil
          exact AllReadyH.nil
        · have hk1 : ¬ (k : Int) < 120 := by omega
          have HAl := Lib.hid (alikeT_any HTr.out HXr.out HG.out HS.out)
          clear HTr HXr HG HS HTs HXs
          go_wp2_with fail
          refine HAl.out.mono ?_
          rintro e w5 ⟨rfl, hb5⟩
          have Hb5 := Lib.hid (ext_trans Hbr.out hb5)
          have HK := Lib.hid (known15_any w5)
          clear hb5 HAl
          go_wp2_with fail
          refine HK.out.mono ?_
          rintro e w' ⟨rfl, hb⟩
          go_wp2
          go_ret
          exact ⟨rfl, ext_trans Hb5.out hb⟩
      · obtain rfl : k = l.length := by omega
        clear hlt hk hk120
        have HAl := Lib.hid (alikeT_any HTr.out HXr.out HG.out HS.out)
        clear HTr HXr HG HS HTs HXs
        go_wp2_with fail
        refine HAl.out.mono ?_
        rintro e w5 ⟨rfl, hb5⟩
        have Hb5 := Lib.hid (ext_trans Hbr.out hb5)
        have HK := Lib.hid (known15_any w5)
        clear hb5 HAl
        go_wp2_with fail
        refine HK.out.mono ?_
        rintro e w' ⟨rfl, hb⟩
        go_wp2
        go_ret
        exact ⟨rfl, ext_trans Hb5.out hb⟩
end Go.Proofs.Ytdghbdiapkelnaa
