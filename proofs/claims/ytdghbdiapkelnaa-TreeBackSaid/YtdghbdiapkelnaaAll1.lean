/-
  Texts of this claim, joined (part 1): contracts and lemmas that the last text goes by. No statement of the seat is proved here.
-/
import Derived.Test.YtdghbdiapkelnaaAll0
import Derived.Deep.MidRow
import Derived.Deep.AppendSrc
set_option linter.unusedVariables false
set_option linter.unusedSimpArgs false
/-
  The mathematics of the tree: leaves, groups, what a row of tokens is assigned. No Go here.
-/
namespace Go.Proofs.Ytdghbdiapkelnaa

/-- a leaf: how many tokens, two keys, its groups' templates -/
structure Lf where
  count : Nat
  a : List UInt8
  b : List UInt8
  gr : List Nat
  deriving Inhabited
/-- a tree: its templates (all but number 0), its leaves -/
structure Tr where
  ts : List (List Prt)
  lv : List Lf
  deriving Inhabited
def keyT (t : Tok) : List UInt8 := if 6 ≤ t.kind ∧ t.kind ≤ 8 then t.text else [42]
def keyA (l : List Tok) : List UInt8 := match l with | [] => [] | x :: _ => keyT x
def keyB (l : List Tok) : List UInt8 := match l with | [] => [] | _ :: r => keyA r
def isLf (l : List Tok) (x : Lf) : Bool := decide (x.count = l.length ∧ x.a = keyA l ∧ x.b = keyB l)
def leafAt (t : Tr) (l : List Tok) : Option Nat := t.lv.findIdx? (isLf l)
def tmpl (t : Tr) (id : Nat) : List Prt := if id = 0 then [dot] else t.ts.getD (id - 1) []
/-- the first of the first k groups that is most alike, and how alike -/
def likTo (t : Tr) (gr : List Nat) (l : List Tok) : Nat → Nat × Int
  | 0 => (0, 0)
  | k + 1 => if (likTo t gr l k).2 < alikeI (tmpl t (gr.getD k 0)) l then (k, alikeI (tmpl t (gr.getD k 0)) l) else likTo t gr l k
def fullT (t : Tr) : Bool := decide (63 ≤ t.ts.length)
def overB (l : List Tok) : Bool := decide (l.length = 0 ∨ 64 < l.length)
def addT (t : Tr) (p : List Prt) (lv : List Lf) : Tr := ⟨t.ts ++ [p], lv⟩
def atLeaf (t : Tr) (i : Nat) (x : Lf) (l : List Tok) : Tr × Nat :=
  if 2 * (likTo t x.gr l x.gr.length).2 < (l.length : Int) then
    if x.gr.length = 8 ∨ fullT t = true then (t, 0) else (addT t (ofL l) (t.lv.set i ⟨x.count, x.a, x.b, x.gr ++ [t.ts.length + 1]⟩), t.ts.length + 1)
  else if mergeL (tmpl t (x.gr.getD (likTo t x.gr l x.gr.length).1 0)) l = tmpl t (x.gr.getD (likTo t x.gr l x.gr.length).1 0) then (t, x.gr.getD (likTo t x.gr l x.gr.length).1 0)
  else if fullT t = true then (t, 0)
  else (addT t (mergeL (tmpl t (x.gr.getD (likTo t x.gr l x.gr.length).1 0)) l) (t.lv.set i ⟨x.count, x.a, x.b, x.gr.set (likTo t x.gr l x.gr.length).1 (t.ts.length + 1)⟩), t.ts.length + 1)
/-- the number of a row's template, and the tree behind it -/
def numT (t : Tr) (l : List Tok) : Tr × Nat :=
  if overB l = true then (t, 0)
  else match leafAt t l with
    | some i => atLeaf t i (t.lv.getD i default) l
    | none => if t.lv.length = 32 ∨ fullT t = true then (t, 0) else (addT t (ofL l) (t.lv ++ [⟨l.length, keyA l, keyB l, [t.ts.length + 1]⟩]), t.ts.length + 1)
/-- what is assigned -/
def varsT (t : Tr) (l : List Tok) : List (List UInt8) := if (numT t l).2 = 0 then [joinL l] else varsL (tmpl (numT t l).1 (numT t l).2) l

/-- may a tree be? -/
structure Good (t : Tr) : Prop where
  ids : t.ts.length ≤ 63
  lvs : t.lv.length ≤ 32
  long : ∀ p ∈ t.ts, 1 ≤ p.length ∧ p.length ≤ 64
  gr : ∀ x ∈ t.lv, 1 ≤ x.gr.length ∧ x.gr.length ≤ 8 ∧ x.gr.length ≤ t.ts.length ∧ ∀ g ∈ x.gr, 1 ≤ g ∧ g ≤ t.ts.length ∧ (tmpl t g).length = x.count
  apart : t.lv.Pairwise (fun x y => ¬ (x.count = y.count ∧ x.a = y.a ∧ x.b = y.b))
theorem tmpl_old {t : Tr} {p : List Prt} {lv : List Lf} {g : Nat} (h : g ≤ t.ts.length) : tmpl (addT t p lv) g = tmpl t g := by
  unfold tmpl addT
  by_cases h0 : g = 0
  · rw [if_pos h0, if_pos h0]
  · rw [if_neg h0, if_neg h0, List.getD_eq_getElem?_getD, List.getD_eq_getElem?_getD, List.getElem?_append_left (by omega)]
theorem tmpl_new (t : Tr) (p : List Prt) (lv : List Lf) : tmpl (addT t p lv) (t.ts.length + 1) = p := by
  unfold tmpl addT
  rw [if_neg (by omega), List.getD_eq_getElem?_getD, Nat.add_sub_cancel, List.getElem?_append_right (Nat.le_refl _)]
  simp
theorem Good.new : Good ⟨[], []⟩ := ⟨by simp, by simp, fun p hp => (nomatch hp), fun x hx => (nomatch hx), List.Pairwise.nil⟩
theorem over_no {l : List Tok} (h : ¬ overB l = true) : 1 ≤ l.length ∧ l.length ≤ 64 := by
  unfold overB at h
  rw [decide_eq_true_eq] at h
  omega
theorem leaf_some {t : Tr} {l : List Tok} {i : Nat} (h : leafAt t l = some i) : ∃ hi : i < t.lv.length, t.lv.getD i default = t.lv[i] ∧ t.lv[i].count = l.length ∧ t.lv[i].a = keyA l ∧ t.lv[i].b = keyB l := by
  unfold leafAt at h
  obtain ⟨hi, h1, _⟩ := List.findIdx?_eq_some_iff_getElem.1 h
  unfold isLf at h1
  rw [decide_eq_true_eq] at h1
  refine ⟨hi, ?_, h1⟩
  rw [List.getD_eq_getElem?_getD, List.getElem?_eq_getElem hi]
  rfl
theorem leaf_none {t : Tr} {l : List Tok} (h : leafAt t l = none) : ∀ x ∈ t.lv, ¬ (x.count = l.length ∧ x.a = keyA l ∧ x.b = keyB l) := fun x hx => by
  unfold leafAt at h
  have := List.findIdx?_eq_none_iff.1 h x hx
  unfold isLf at this
  rwa [decide_eq_false_iff_not] at this
/-- the most alike: its place, how alike; and the ones ahead are less so -/
theorem lik_what (t : Tr) (gr : List Nat) (l : List Tok) (hl : ∀ g ∈ gr, (tmpl t g).length = l.length) : ∀ k, k ≤ gr.length → 0 < k →
    (likTo t gr l k).1 < k ∧ 0 ≤ (likTo t gr l k).2 ∧ (likTo t gr l k).2 = alikeI (tmpl t (gr.getD (likTo t gr l k).1 0)) l ∧
    (∀ j, j < (likTo t gr l k).1 → alikeI (tmpl t (gr.getD j 0)) l < (likTo t gr l k).2) ∧ (∀ j, j < k → alikeI (tmpl t (gr.getD j 0)) l ≤ (likTo t gr l k).2)
  | 0, _, h => absurd h (by omega)
  | k + 1, hk, _ => by
    have hget : ∀ j, j < gr.length → 0 ≤ alikeI (tmpl t (gr.getD j 0)) l := fun j hj => by
      unfold alikeI
      rw [if_pos (hl _ (by rw [List.getD_eq_getElem?_getD, List.getElem?_eq_getElem hj]; exact List.getElem_mem hj))]
      omega
    have h0 := hget k (by omega)
    by_cases hk0 : k = 0
    · subst hk0
      rw [likTo]
      by_cases hlt : (likTo t gr l 0).2 < alikeI (tmpl t (gr.getD 0 0)) l
      · rw [if_pos hlt]
        exact ⟨by simp, h0, rfl, fun j hj => absurd hj (by simp), fun j hj => by rw [show j = 0 by omega]; exact Int.le_refl _⟩
      · rw [if_neg hlt]
        have e : alikeI (tmpl t (gr.getD 0 0)) l = 0 := by unfold likTo at hlt; simp only at hlt; omega
        exact ⟨by simp [likTo], by simp [likTo], by simp only [likTo]; exact e.symm, fun j hj => absurd hj (by simp [likTo]), fun j hj => by rw [show j = 0 by omega, e]; exact Int.le_refl _⟩
    · obtain ⟨i1, i2, i3, i4, i5⟩ := lik_what t gr l hl k (by omega) (by omega)
      rw [likTo]
      by_cases hlt : (likTo t gr l k).2 < alikeI (tmpl t (gr.getD k 0)) l
      · rw [if_pos hlt]
        refine ⟨by simp, by simp only; omega, rfl, fun j hj => ?_, fun j hj => ?_⟩
        · have := i5 j hj; simp only; omega
        · rcases Nat.lt_succ_iff_lt_or_eq.1 hj with h | h
          · have := i5 j h; simp only; omega
          · rw [h]; simp
      · rw [if_neg hlt]
        refine ⟨by omega, i2, i3, i4, fun j hj => ?_⟩
        rcases Nat.lt_succ_iff_lt_or_eq.1 hj with h | h
        · exact i5 j h
        · rw [h]; omega
/-- the leaf's groups' templates have as many parts as the row has tokens -/
theorem Good.at_ {t : Tr} (h : Good t) {l : List Tok} {i : Nat} (hi : leafAt t l = some i) : ∃ hlt : i < t.lv.length, t.lv.getD i default = t.lv[i] ∧ (1 ≤ t.lv[i].gr.length ∧ t.lv[i].gr.length ≤ 8) ∧ (∀ g ∈ t.lv[i].gr, 1 ≤ g ∧ g ≤ t.ts.length ∧ (tmpl t g).length = l.length) ∧ t.lv[i].count = l.length ∧ t.lv[i].a = keyA l ∧ t.lv[i].b = keyB l := by
  obtain ⟨hlt, h1, h2, h3, h4⟩ := leaf_some hi
  have hg := h.gr _ (List.getElem_mem hlt)
  exact ⟨hlt, h1, ⟨hg.1, hg.2.1⟩, fun g hgm => by have := hg.2.2.2 g hgm; exact ⟨this.1, this.2.1, by rw [this.2.2, h2]⟩, h2, h3, h4⟩
theorem pair_set {l : List Lf} {R : Lf → Lf → Prop} (h : l.Pairwise R) {i : Nat} (hi : i < l.length) {y : Lf} (h1 : ∀ x, R x l[i] → R x y) (h2 : ∀ x, R l[i] x → R y x) : (l.set i y).Pairwise R := by
  rw [List.pairwise_iff_getElem] at h ⊢
  intro a b ha hb hab
  rw [List.length_set] at ha hb
  rw [List.getElem_set, List.getElem_set]
  by_cases hia : i = a
  · subst hia
    rw [if_pos rfl, if_neg (by omega)]
    exact h2 _ (h _ _ ha hb hab)
  · rw [if_neg hia]
    by_cases hib : i = b
    · subst hib
      rw [if_pos rfl]
      exact h1 _ (h _ _ ha hb hab)
    · rw [if_neg hib]
      exact h _ _ ha hb hab
/-- a leaf's groups turned, a template laid -/
theorem Good.turn {t : Tr} (h : Good t) (hf : ¬ fullT t = true) {i : Nat} (hi : i < t.lv.length) {p : List Prt} (hp : p.length = t.lv[i].count) (hp1 : 1 ≤ p.length ∧ p.length ≤ 64) {gs : List Nat} (hg1 : 1 ≤ gs.length ∧ gs.length ≤ 8 ∧ gs.length ≤ t.ts.length + 1)
    (hg2 : ∀ g ∈ gs, g ∈ t.lv[i].gr ∨ g = t.ts.length + 1) : Good (addT t p (t.lv.set i ⟨t.lv[i].count, t.lv[i].a, t.lv[i].b, gs⟩)) := by
  unfold fullT at hf
  rw [decide_eq_true_eq] at hf
  have ht := h.ids
  refine ⟨by unfold addT; simp; omega, by unfold addT; simp only [List.length_set]; exact h.lvs, fun q hq => ?_, fun x hx => ?_, ?_⟩
  · rcases List.mem_append.1 hq with hq | hq
    · exact h.long q hq
    · rw [List.mem_singleton] at hq; subst hq; exact hp1
  · have hlen : (addT t p (t.lv.set i ⟨t.lv[i].count, t.lv[i].a, t.lv[i].b, gs⟩)).ts.length = t.ts.length + 1 := by unfold addT; simp
    rw [hlen]
    rcases List.mem_or_eq_of_mem_set hx with hx | rfl
    · obtain ⟨a1, a2, a3, a4⟩ := h.gr x hx
      refine ⟨a1, a2, by omega, fun g hg => ?_⟩
      obtain ⟨b1, b2, b3⟩ := a4 g hg
      exact ⟨b1, by omega, by rw [tmpl_old b2]; exact b3⟩
    · refine ⟨hg1.1, hg1.2.1, hg1.2.2, fun g hg => ?_⟩
      rcases hg2 g hg with hm | rfl
      · obtain ⟨b1, b2, b3⟩ := (h.gr _ (List.getElem_mem hi)).2.2.2 g hm
        exact ⟨b1, by omega, by rw [tmpl_old b2]; exact b3⟩
      · exact ⟨by omega, by omega, by rw [tmpl_new]; exact hp⟩
  · exact pair_set h.apart hi (fun x hx => hx) (fun x hx => hx)
theorem ofL_may {l : List Tok} (h : ¬ overB l = true) : 1 ≤ (ofL l).length ∧ (ofL l).length ≤ 64 := by rw [ofL_len]; exact over_no h
theorem Good.step {t : Tr} (h : Good t) (l : List Tok) : Good (numT t l).1 := by
  unfold numT
  by_cases ho : overB l = true
  · rw [if_pos ho]; exact h
  · rw [if_neg ho]
    cases hi : leafAt t l with
    | none =>
      simp only
      by_cases hf : t.lv.length = 32 ∨ fullT t = true
      · rw [if_pos hf]; exact h
      · rw [if_neg hf]
        have h1 : ¬ 63 ≤ t.ts.length := fun hx => hf (.inr (by unfold fullT; exact decide_eq_true hx))
        have h2 : ¬ t.lv.length = 32 := fun hx => hf (.inl hx)
        have h3 := h.ids
        have h4 := h.lvs
        have hlen : (addT t (ofL l) (t.lv ++ [⟨l.length, keyA l, keyB l, [t.ts.length + 1]⟩])).ts.length = t.ts.length + 1 := by unfold addT; simp
        refine ⟨by simp only; rw [hlen]; omega, by unfold addT; simp; omega, fun q hq => ?_, fun x hx => ?_, ?_⟩
        · rcases List.mem_append.1 hq with hq | hq
          · exact h.long q hq
          · rw [List.mem_singleton] at hq; subst hq; exact ofL_may ho
        · simp only
          rw [hlen]
          rcases List.mem_append.1 hx with hx | hx
          · obtain ⟨a1, a2, a3, a4⟩ := h.gr x hx
            refine ⟨a1, a2, by omega, fun g hg => ?_⟩
            obtain ⟨b1, b2, b3⟩ := a4 g hg
            exact ⟨b1, by omega, by rw [tmpl_old b2]; exact b3⟩
          · rw [List.mem_singleton] at hx
            subst hx
            refine ⟨by simp, by simp, by simp, fun g hg => ?_⟩
            rw [List.mem_singleton] at hg
            subst hg
            exact ⟨by omega, by omega, by rw [tmpl_new, ofL_len]⟩
        · refine List.pairwise_append.2 ⟨h.apart, List.pairwise_singleton _ _, fun x hx y hy => ?_⟩
          rw [List.mem_singleton] at hy
          subst hy
          exact leaf_none hi x hx
    | some i =>
      simp only
      obtain ⟨hlt, e1, hg, hgs, hc, _, _⟩ := h.at_ hi
      rw [e1]
      unfold atLeaf
      have hb := lik_what t t.lv[i].gr l (fun g hg => (hgs g hg).2.2) t.lv[i].gr.length (Nat.le_refl _) (by omega)
      generalize likTo t t.lv[i].gr l t.lv[i].gr.length = q at *
      have hm : t.lv[i].gr.getD q.1 0 ∈ t.lv[i].gr := by rw [List.getD_eq_getElem?_getD, List.getElem?_eq_getElem hb.1]; exact List.getElem_mem hb.1
      by_cases hq : 2 * q.2 < (l.length : Int)
      · rw [if_pos hq]
        by_cases hf : t.lv[i].gr.length = 8 ∨ fullT t = true
        · rw [if_pos hf]; exact h
        · rw [if_neg hf]
          refine h.turn (fun hx => hf (.inr hx)) hlt (by rw [ofL_len, hc]) (ofL_may ho) ⟨by simp, ?_, ?_⟩ (fun g hg => ?_)
          · have : ¬ t.lv[i].gr.length = 8 := fun hx => hf (.inl hx)
            simp; omega
          · have := (h.gr _ (List.getElem_mem hlt)).2.2.1
            simp; omega
          · rcases List.mem_append.1 hg with hg | hg
            · exact .inl hg
            · rw [List.mem_singleton] at hg; exact .inr hg
      · rw [if_neg hq]
        split
        · exact h
        · by_cases hf : fullT t = true
          · rw [if_pos hf]; exact h
          · rw [if_neg hf]
            refine h.turn hf hlt (by rw [mergeL_len, (hgs _ hm).2.2, hc]) ?_ ⟨by rw [List.length_set]; exact hg.1, by rw [List.length_set]; exact hg.2, ?_⟩ (fun g hg => ?_)
            · rw [mergeL_len, (hgs _ hm).2.2]; exact over_no ho
            · have := (h.gr _ (List.getElem_mem hlt)).2.2.1
              rw [List.length_set]; omega
            · rcases List.mem_or_eq_of_mem_set hg with hg | hg
              · exact .inl hg
              · exact .inr hg
/-! ### for the laws -/
/-- templates that are there stay -/
theorem numT_grows (t : Tr) (l : List Tok) : (numT t l).1.ts = t.ts ∨ ∃ p, (numT t l).1.ts = t.ts ++ [p] := by
  unfold numT
  split
  · exact .inl rfl
  · split
    · unfold atLeaf
      split
      · split
        · exact .inl rfl
        · exact .inr ⟨_, rfl⟩
      · split
        · exact .inl rfl
        · split
          · exact .inl rfl
          · exact .inr ⟨_, rfl⟩
    · split
      · exact .inl rfl
      · exact .inr ⟨_, rfl⟩
theorem numT_tmpl (t : Tr) (l : List Tok) {g : Nat} (h : g ≤ t.ts.length) : tmpl (numT t l).1 g = tmpl t g := by
  have key : ∀ u : List (List Prt), (u = t.ts ∨ ∃ p, u = t.ts ++ [p]) → (if g = 0 then [dot] else u.getD (g - 1) []) = tmpl t g := fun u hu => by
    rcases hu with rfl | ⟨p, rfl⟩
    · rfl
    · exact tmpl_old (t := t) (p := p) (lv := []) h
  exact key _ (numT_grows t l)
theorem alike_self (l : List Tok) : alikeI (ofL l) l = (l.length : Int) := by
  have h := fits_of l
  unfold fitsB at h
  rw [decide_eq_true_eq, ofL_len] at h
  exact h
theorem mergeT_fits (ps : List Prt) (l : List Tok) (h : ps.length = l.length) : fitsB (mergeL ps l) l = true := by
  rw [fits_iff]
  refine ⟨by rw [mergeL_len, h], fun k h1 h2 => ?_⟩
  rw [mergeL_len] at h1
  rw [mergeL_at _ _ _ h1, List.getElem?_eq_getElem h2, merge1_some]
  split
  · rename_i hx
    rw [Bool.and_eq_true] at hx
    exact hx.1
  · rfl
theorem alike_fits {ps : List Prt} {l : List Tok} (h : fitsB ps l = true) : alikeI ps l = (l.length : Int) := by
  have h1 := ((fits_iff ps l).1 h).1
  unfold fitsB at h
  rw [decide_eq_true_eq] at h
  rw [h, h1]
/-- a row's template fits it; its number is one that there is -/
theorem numT_fits {t : Tr} (h : Good t) (l : List Tok) : (numT t l).2 ≤ (numT t l).1.ts.length ∧ ((numT t l).2 ≠ 0 → fitsB (tmpl (numT t l).1 (numT t l).2) l = true) := by
  unfold numT
  split
  · exact ⟨Nat.zero_le _, fun h => absurd rfl h⟩
  · split
    · rename_i i hi
      obtain ⟨hlt, e1, hg, hgs, hc, _, _⟩ := h.at_ hi
      rw [e1]
      unfold atLeaf
      have hb := lik_what t t.lv[i].gr l (fun g hg => (hgs g hg).2.2) t.lv[i].gr.length (Nat.le_refl _) (by omega)
      generalize likTo t t.lv[i].gr l t.lv[i].gr.length = q at *
      have hm : t.lv[i].gr.getD q.1 0 ∈ t.lv[i].gr := by rw [List.getD_eq_getElem?_getD, List.getElem?_eq_getElem hb.1]; exact List.getElem_mem hb.1
      split
      · split
        · exact ⟨Nat.zero_le _, fun h => absurd rfl h⟩
        · refine ⟨by unfold addT; simp, fun _ => ?_⟩
          show fitsB (tmpl (addT t (ofL l) _) (t.ts.length + 1)) l = true
          rw [tmpl_new]
          exact fits_of l
      · split
        · rename_i hmg
          refine ⟨(hgs _ hm).2.1, fun _ => ?_⟩
          show fitsB (tmpl t (t.lv[i].gr.getD q.1 0)) l = true
          rw [← hmg]
          exact mergeT_fits _ _ (hgs _ hm).2.2
        · split
          · exact ⟨Nat.zero_le _, fun h => absurd rfl h⟩
          · refine ⟨by unfold addT; simp, fun _ => ?_⟩
            show fitsB (tmpl (addT t (mergeL (tmpl t (t.lv[i].gr.getD q.1 0)) l) _) (t.ts.length + 1)) l = true
            rw [tmpl_new]
            exact mergeT_fits _ _ (hgs _ hm).2.2
    · split
      · exact ⟨Nat.zero_le _, fun h => absurd rfl h⟩
      · refine ⟨by unfold addT; simp, fun _ => ?_⟩
        show fitsB (tmpl (addT t (ofL l) _) (t.ts.length + 1)) l = true
        rw [tmpl_new]
        exact fits_of l
/-- what is assigned, rendered, is the row -/
theorem numT_renders {t : Tr} (h : Good t) (l : List Tok) : renderL (tmpl (numT t l).1 (numT t l).2) (varsT t l) = joinL l ∧ (varsT t l).length = wildN (tmpl (numT t l).1 (numT t l).2) := by
  unfold varsT
  by_cases h0 : (numT t l).2 = 0
  · rw [if_pos h0, h0]
    have e : ∀ u : Tr, tmpl u 0 = [dot] := fun _ => rfl
    rw [e]
    exact ⟨by simp [renderL, rTo, dot, wildTo, wildN], by simp [wildN, dot]⟩
  · rw [if_neg h0]
    have hf := (numT_fits h l).2 h0
    exact ⟨render_back _ _ hf, varsL_len _ _ ((fits_iff _ _).1 hf).1⟩
theorem new_when {t : Tr} (h : Good t) {l : List Tok} (h1 : l.length ≠ 0) (h2 : l.length ≤ 64) (h3 : t.lv.length < 3) (h4 : t.ts.length + 1 < 8) : (numT t l).2 ≠ 0 := by
  have ho : ¬ overB l = true := by unfold overB; rw [decide_eq_true_eq]; omega
  have hf : ¬ fullT t = true := by unfold fullT; rw [decide_eq_true_eq]; omega
  unfold numT
  rw [if_neg ho]
  split
  · rename_i i hi
    obtain ⟨hlt, e1, hg, hgs, hc, _, _⟩ := h.at_ hi
    rw [e1]
    unfold atLeaf
    have hb := lik_what t t.lv[i].gr l (fun g hg => (hgs g hg).2.2) t.lv[i].gr.length (Nat.le_refl _) (by omega)
    generalize likTo t t.lv[i].gr l t.lv[i].gr.length = q at *
    have hm : t.lv[i].gr.getD q.1 0 ∈ t.lv[i].gr := by rw [List.getD_eq_getElem?_getD, List.getElem?_eq_getElem hb.1]; exact List.getElem_mem hb.1
    have hgl := (h.gr _ (List.getElem_mem hlt)).2.2.1
    split
    · rw [if_neg (fun hx => hx.elim (fun h => by omega) hf)]
      exact Nat.succ_ne_zero _
    · split
      · have := (hgs _ hm).1
        show t.lv[i].gr.getD q.1 0 ≠ 0
        omega
      · first
          | exact Nat.succ_ne_zero _
          | (rw [if_neg hf]; exact Nat.succ_ne_zero _)
  · rw [if_neg (fun hx => hx.elim (fun h => by omega) hf)]
    exact Nat.succ_ne_zero _
theorem lik_first {t : Tr} {gr : List Nat} {l : List Tok} {b : Nat} {M : Int} (hM : 0 < M) (hb : alikeI (tmpl t (gr.getD b 0)) l = M) (h1 : ∀ j, j < b → alikeI (tmpl t (gr.getD j 0)) l < M) : ∀ k, b < k → (∀ j, j < k → alikeI (tmpl t (gr.getD j 0)) l ≤ M) → likTo t gr l k = (b, M)
  | 0, h, _ => absurd h (by omega)
  | k + 1, h, h2 => by
    have hle : ∀ k, k ≤ b → (likTo t gr l k).2 < M := fun k hk => by
      induction k with
      | zero => exact hM
      | succ k ih =>
        rw [likTo]
        split
        · exact h1 k (by omega)
        · exact ih (by omega)
    rw [likTo]
    by_cases hk : k = b
    · subst hk
      rw [if_pos (by rw [hb]; exact hle k (Nat.le_refl _)), hb]
    · rw [lik_first hM hb h1 k (by omega) (fun j hj => h2 j (by omega)), if_neg (by have := h2 k (by omega); simp only; omega)]
theorem alike_le {ps : List Prt} {l : List Tok} : alikeI ps l ≤ (l.length : Int) := by
  unfold alikeI
  split
  · rename_i h
    have := alikeN_le ps l
    omega
  · omega
theorem mergeL_dot (ps : List Prt) (l : List Tok) : ∀ p ∈ mergeL ps l, p.any = true → p = dot := fun p hp ha => by
  obtain ⟨k, hk, rfl⟩ := List.getElem_of_mem hp
  rw [mergeL_len] at hk
  rw [mergeL_at _ _ _ hk] at ha ⊢
  unfold merge1 at ha ⊢
  split
  · rfl
  · rename_i h1
    rw [if_neg h1] at ha
    split
    · split
      · rename_i t ht h2
        rw [ht] at ha
        simp only [h2, if_true] at ha
        exact absurd ha h1
      · rfl
    · rename_i ht
      rw [ht] at ha
      exact absurd ha h1
theorem ofL_dot (l : List Tok) : ∀ p ∈ ofL l, p.any = true → p = dot := fun p hp ha => by
  unfold ofL at hp
  obtain ⟨t, _, rfl⟩ := List.mem_map.1 hp
  unfold ofT at ha ⊢
  split
  · rfl
  · rename_i h
    rw [if_neg h] at ha
    exact absurd ha (by simp)
theorem mergeL_fix {ps : List Prt} {l : List Tok} (hf : fitsB ps l = true) (hd : ∀ p ∈ ps, p.any = true → p = dot) : mergeL ps l = ps := by
  obtain ⟨hl, hk⟩ := (fits_iff _ _).1 hf
  refine List.ext_getElem (mergeL_len _ _) fun k h1 h2 => ?_
  rw [mergeL_at _ _ _ h2, List.getElem?_eq_getElem (by omega), merge1_some, hk k h2 (by omega), Bool.true_and]
  by_cases ha : ps[k].any = true
  · rw [ha]
    exact (hd _ (List.getElem_mem h2) ha).symm
  · rw [Bool.not_eq_true] at ha
    rw [ha]
    rfl
theorem leaf_set {t : Tr} {l : List Tok} {i : Nat} (hi : leafAt t l = some i) (hlt : i < t.lv.length) (gs : List Nat) (u : List (List Prt)) : leafAt ⟨u, t.lv.set i ⟨t.lv[i].count, t.lv[i].a, t.lv[i].b, gs⟩⟩ l = some i := by
  unfold leafAt at hi ⊢
  obtain ⟨_, h1, h2⟩ := List.findIdx?_eq_some_iff_getElem.1 hi
  refine List.findIdx?_eq_some_iff_getElem.2 ⟨by rw [List.length_set]; exact hlt, ?_, fun j hj => ?_⟩
  · rw [List.getElem_set_self]
    exact h1
  · rw [List.getElem_set_ne (by omega)]
    exact h2 j hj
theorem leaf_add {t : Tr} {l : List Tok} (hi : leafAt t l = none) (gs : List Nat) (u : List (List Prt)) : leafAt ⟨u, t.lv ++ [⟨l.length, keyA l, keyB l, gs⟩]⟩ l = some t.lv.length := by
  unfold leafAt at hi ⊢
  have h := List.findIdx?_eq_none_iff.1 hi
  refine List.findIdx?_eq_some_iff_getElem.2 ⟨by simp, ?_, fun j hj => ?_⟩
  · rw [List.getElem_append_right (Nat.le_refl _)]
    simp [isLf]
  · rw [List.getElem_append_left hj]
    have := h _ (List.getElem_mem hj)
    simp [this]
theorem lik_same {t u : Tr} {gr gs : List Nat} {l : List Tok} : ∀ k, (∀ j, j < k → tmpl u (gs.getD j 0) = tmpl t (gr.getD j 0)) → likTo u gs l k = likTo t gr l k
  | 0, _ => rfl
  | k + 1, h => by rw [likTo, likTo, lik_same k (fun j hj => h j (by omega)), h k (by omega)]
theorem at_same {u : Tr} {i : Nat} {x : Lf} {l : List Tok} {b : Nat} (hl : l.length ≠ 0) (hb : likTo u x.gr l x.gr.length = (b, (l.length : Int))) (hm : mergeL (tmpl u (x.gr.getD b 0)) l = tmpl u (x.gr.getD b 0)) : atLeaf u i x l = (u, x.gr.getD b 0) := by
  unfold atLeaf
  rw [hb]
  simp only
  rw [if_neg (by omega), if_pos hm]
/-- a row that comes again at once -/
theorem numT_twice {t : Tr} (h : Good t) (l : List Tok) : numT (numT t l).1 l = ((numT t l).1, (numT t l).2) := by
  by_cases ho : overB l = true
  · have e : numT t l = (t, 0) := by unfold numT; rw [if_pos ho]
    rw [e]
    exact e
  have hl := over_no ho
  have hl0 : l.length ≠ 0 := by omega
  cases hi : leafAt t l with
  | none =>
    by_cases hf : t.lv.length = 32 ∨ fullT t = true
    · have e : numT t l = (t, 0) := by unfold numT; rw [if_neg ho, hi]; simp only; rw [if_pos hf]
      rw [e]
      exact e
    · have e : numT t l = (addT t (ofL l) (t.lv ++ [⟨l.length, keyA l, keyB l, [t.ts.length + 1]⟩]), t.ts.length + 1) := by unfold numT; rw [if_neg ho, hi]; simp only; rw [if_neg hf]
      rw [e]
      have hg := tmpl_new t (ofL l) (t.lv ++ [⟨l.length, keyA l, keyB l, [t.ts.length + 1]⟩])
      have hla := leaf_add hi [t.ts.length + 1] (t.ts ++ [ofL l])
      simp only
      unfold numT
      rw [if_neg ho, show leafAt (addT t (ofL l) (t.lv ++ [⟨l.length, keyA l, keyB l, [t.ts.length + 1]⟩])) l = some t.lv.length from hla]
      simp only
      have hx : (addT t (ofL l) (t.lv ++ [⟨l.length, keyA l, keyB l, [t.ts.length + 1]⟩])).lv.getD t.lv.length default = ⟨l.length, keyA l, keyB l, [t.ts.length + 1]⟩ := by
        unfold addT
        rw [List.getD_eq_getElem?_getD, List.getElem?_append_right (Nat.le_refl _)]
        simp
      rw [hx]
      have := at_same (u := addT t (ofL l) (t.lv ++ [⟨l.length, keyA l, keyB l, [t.ts.length + 1]⟩])) (i := t.lv.length) (x := ⟨l.length, keyA l, keyB l, [t.ts.length + 1]⟩) (b := 0) hl0
        (lik_first (by omega) (by show alikeI (tmpl _ (t.ts.length + 1)) l = _; rw [hg, alike_self]) (fun j hj => absurd hj (by omega)) 1 (by omega) (fun j hj => alike_le)) (by show mergeL (tmpl _ (t.ts.length + 1)) l = tmpl _ (t.ts.length + 1); rw [hg]; exact mergeL_fix (fits_of l) (ofL_dot l))
      exact this
  | some i =>
    obtain ⟨hlt, e1, hgr, hgs, hc, ha, hb⟩ := h.at_ hi
    have hw := lik_what t t.lv[i].gr l (fun g hg => (hgs g hg).2.2) t.lv[i].gr.length (Nat.le_refl _) (by omega)
    have hat : numT t l = atLeaf t i t.lv[i] l := by unfold numT; rw [if_neg ho, hi]; simp only; rw [e1]
    have hold : ∀ (p : List Prt) (lv : List Lf) (j : Nat), j < t.lv[i].gr.length → tmpl (addT t p lv) (t.lv[i].gr.getD j 0) = tmpl t (t.lv[i].gr.getD j 0) := fun p lv j hj => by
      refine tmpl_old ?_
      have := (hgs _ (List.getElem_mem hj)).2.1
      rw [List.getD_eq_getElem?_getD, List.getElem?_eq_getElem hj]
      exact this
    obtain ⟨q, hq⟩ : ∃ q, likTo t t.lv[i].gr l t.lv[i].gr.length = q := ⟨_, rfl⟩
    rw [hq] at hw
    obtain ⟨w1, w2, w3, w4, w5⟩ := hw
    by_cases c1 : 2 * q.2 < (l.length : Int)
    · by_cases hf : t.lv[i].gr.length = 8 ∨ fullT t = true
      · have e : numT t l = (t, 0) := by rw [hat]; unfold atLeaf; rw [hq, if_pos c1, if_pos hf]
        rw [e]; exact e
      · have e : numT t l = (addT t (ofL l) (t.lv.set i ⟨t.lv[i].count, t.lv[i].a, t.lv[i].b, t.lv[i].gr ++ [t.ts.length + 1]⟩), t.ts.length + 1) := by rw [hat]; unfold atLeaf; rw [hq, if_pos c1, if_neg hf]
        rw [e]
        have hls := leaf_set hi hlt (t.lv[i].gr ++ [t.ts.length + 1]) (t.ts ++ [ofL l])
        simp only
        unfold numT
        rw [if_neg ho, show leafAt (addT t (ofL l) (t.lv.set i ⟨t.lv[i].count, t.lv[i].a, t.lv[i].b, t.lv[i].gr ++ [t.ts.length + 1]⟩)) l = some i from hls]
        simp only
        have hx : (addT t (ofL l) (t.lv.set i ⟨t.lv[i].count, t.lv[i].a, t.lv[i].b, t.lv[i].gr ++ [t.ts.length + 1]⟩)).lv.getD i default = ⟨t.lv[i].count, t.lv[i].a, t.lv[i].b, t.lv[i].gr ++ [t.ts.length + 1]⟩ := by
          unfold addT
          rw [List.getD_eq_getElem?_getD, List.getElem?_set_self hlt]
          rfl
        rw [hx]
        have hlast : (t.lv[i].gr ++ [t.ts.length + 1]).getD t.lv[i].gr.length 0 = t.ts.length + 1 := by rw [List.getD_eq_getElem?_getD, List.getElem?_append_right (Nat.le_refl _)]; simp
        have hj : ∀ j, j < t.lv[i].gr.length → (t.lv[i].gr ++ [t.ts.length + 1]).getD j 0 = t.lv[i].gr.getD j 0 := fun j hj => by rw [List.getD_eq_getElem?_getD, List.getElem?_append_left hj, ← List.getD_eq_getElem?_getD]
        have := at_same (u := addT t (ofL l) (t.lv.set i ⟨t.lv[i].count, t.lv[i].a, t.lv[i].b, t.lv[i].gr ++ [t.ts.length + 1]⟩)) (i := i) (x := ⟨t.lv[i].count, t.lv[i].a, t.lv[i].b, t.lv[i].gr ++ [t.ts.length + 1]⟩) (b := t.lv[i].gr.length) hl0
          (lik_first (by omega) (by show alikeI (tmpl _ ((t.lv[i].gr ++ [t.ts.length + 1]).getD t.lv[i].gr.length 0)) l = _; rw [hlast, tmpl_new, alike_self])
            (fun j hjl => by show alikeI (tmpl _ ((t.lv[i].gr ++ [t.ts.length + 1]).getD j 0)) l < _; rw [hj j hjl, hold _ _ j hjl]; have := w5 j hjl; omega) _ (by simp) (fun j hj => alike_le))
          (by show mergeL (tmpl _ ((t.lv[i].gr ++ [t.ts.length + 1]).getD t.lv[i].gr.length 0)) l = tmpl _ ((t.lv[i].gr ++ [t.ts.length + 1]).getD t.lv[i].gr.length 0); rw [hlast, tmpl_new]; exact mergeL_fix (fits_of l) (ofL_dot l))
        rw [this]
        show (_, (t.lv[i].gr ++ [t.ts.length + 1]).getD t.lv[i].gr.length 0) = _
        rw [hlast]
    · obtain ⟨old, hold2⟩ : ∃ old, tmpl t (t.lv[i].gr.getD q.1 0) = old := ⟨_, rfl⟩
      have hm : t.lv[i].gr.getD q.1 0 ∈ t.lv[i].gr := by rw [List.getD_eq_getElem?_getD, List.getElem?_eq_getElem w1]; exact List.getElem_mem w1
      by_cases hmg : mergeL old l = old
      · have e : numT t l = (t, t.lv[i].gr.getD q.1 0) := by rw [hat]; unfold atLeaf; rw [hq, if_neg c1, hold2, if_pos hmg]
        rw [e]; exact e
      · by_cases hf : fullT t = true
        · have e : numT t l = (t, 0) := by rw [hat]; unfold atLeaf; rw [hq, if_neg c1, hold2, if_neg hmg, if_pos hf]
          rw [e]; exact e
        · have e : numT t l = (addT t (mergeL old l) (t.lv.set i ⟨t.lv[i].count, t.lv[i].a, t.lv[i].b, t.lv[i].gr.set q.1 (t.ts.length + 1)⟩), t.ts.length + 1) := by rw [hat]; unfold atLeaf; rw [hq, if_neg c1, hold2, if_neg hmg, if_neg hf]
          have hfit : fitsB (mergeL old l) l = true := mergeT_fits _ _ (by rw [← hold2]; exact (hgs _ hm).2.2)
          rw [e]
          have hls := leaf_set hi hlt (t.lv[i].gr.set q.1 (t.ts.length + 1)) (t.ts ++ [mergeL old l])
          simp only
          unfold numT
          rw [if_neg ho, show leafAt (addT t (mergeL old l) (t.lv.set i ⟨t.lv[i].count, t.lv[i].a, t.lv[i].b, t.lv[i].gr.set q.1 (t.ts.length + 1)⟩)) l = some i from hls]
          simp only
          have hx : (addT t (mergeL old l) (t.lv.set i ⟨t.lv[i].count, t.lv[i].a, t.lv[i].b, t.lv[i].gr.set q.1 (t.ts.length + 1)⟩)).lv.getD i default = ⟨t.lv[i].count, t.lv[i].a, t.lv[i].b, t.lv[i].gr.set q.1 (t.ts.length + 1)⟩ := by
            unfold addT
            rw [List.getD_eq_getElem?_getD, List.getElem?_set_self hlt]
            rfl
          rw [hx]
          have hlast : (t.lv[i].gr.set q.1 (t.ts.length + 1)).getD q.1 0 = t.ts.length + 1 := by rw [List.getD_eq_getElem?_getD, List.getElem?_set_self w1]; rfl
          have hj : ∀ j, j < q.1 → (t.lv[i].gr.set q.1 (t.ts.length + 1)).getD j 0 = t.lv[i].gr.getD j 0 := fun j hj => by rw [List.getD_eq_getElem?_getD, List.getElem?_set_ne (by omega), ← List.getD_eq_getElem?_getD]
          have := at_same (u := addT t (mergeL old l) (t.lv.set i ⟨t.lv[i].count, t.lv[i].a, t.lv[i].b, t.lv[i].gr.set q.1 (t.ts.length + 1)⟩)) (i := i) (x := ⟨t.lv[i].count, t.lv[i].a, t.lv[i].b, t.lv[i].gr.set q.1 (t.ts.length + 1)⟩) (b := q.1) hl0
            (lik_first (by omega) (by show alikeI (tmpl _ ((t.lv[i].gr.set q.1 (t.ts.length + 1)).getD q.1 0)) l = _; rw [hlast, tmpl_new]; exact alike_fits hfit)
              (fun j hjl => by show alikeI (tmpl _ ((t.lv[i].gr.set q.1 (t.ts.length + 1)).getD j 0)) l < _; rw [hj j hjl, hold _ _ j (by omega)]; have h1 := w4 j hjl; have h2 := @alike_le (tmpl t (t.lv[i].gr.getD q.1 0)) l; omega) _ (by show q.1 < (t.lv[i].gr.set q.1 (t.ts.length + 1)).length; rw [List.length_set]; exact w1) (fun j hj => alike_le))
            (by show mergeL (tmpl _ ((t.lv[i].gr.set q.1 (t.ts.length + 1)).getD q.1 0)) l = tmpl _ ((t.lv[i].gr.set q.1 (t.ts.length + 1)).getD q.1 0); rw [hlast, tmpl_new]; exact mergeL_fix hfit (mergeL_dot _ _))
          rw [this]
          show (_, (t.lv[i].gr.set q.1 (t.ts.length + 1)).getD q.1 0) = _
          rw [hlast]
end Go.Proofs.Ytdghbdiapkelnaa

/-
  Rows of elements of many cells that lie anywhere in a block of the call's own ('RowO'), append onto them, and stores of many cells. No statement of the seat is proved here.
-/
namespace Go.Proofs.Ytdghbdiapkelnaa
open Go Go.RowKit

/-- the block of an address -/
def inA (A : Option Addr) (k : Nat) : Prop := ∃ ad, A = some ad ∧ ad.block = k
theorem inA_none (k : Nat) : ¬ inA none k := fun ⟨_, h, _⟩ => by cases h
theorem inA_some (g o k : Nat) (s : Option Nat) : inA (some ⟨g, o, s⟩) k ↔ g = k := ⟨fun ⟨_, h, e⟩ => by injection h with h; subst h; exact e, fun e => ⟨_, rfl, e⟩⟩

/-! ### Only: stores of many cells -/
section
variable {S T : Nat → Prop} {a w w' : World}
theorem Only.setCells (h : Only S a w) {b : Nat} (hb : S b ∨ a.heap.size ≤ b) : ∀ (vs : List Value) (o : Nat), Only S a (w.setCells b o vs) := by
  intro vs
  induction vs generalizing w with
  | nil => intro o; exact h
  | cons v r ih => intro o; exact ih (h.setCell (p := ⟨b, o, none⟩) hb v) (o + 1)
theorem Blk.setCells_far {g : Nat} {t : TypeId} {cs : Array Value} {b : Nat} (hn : g ≠ b) : ∀ (vs : List Value) (o : Nat) {w : World}, Blk w g t cs → Blk (w.setCells b o vs) g t cs
  | [], _, _, h => h
  | v :: r, o, w, h => Blk.setCells_far hn r (o + 1) (h.far (p := ⟨b, o, none⟩) hn v)
theorem Blk.setCells {g : Nat} {t : TypeId} : ∀ (vs : List Value) (o : Nat) {w : World} {cs : Array Value}, Blk w g t cs → o + vs.length ≤ cs.size →
    ∃ cs', Blk (w.setCells g o vs) g t cs' ∧ cs'.size = cs.size ∧ (∀ j u, vs[j]? = some u → cs'[o + j]? = some u) ∧ ∀ k, (k < o ∨ o + vs.length ≤ k) → cs'[k]? = cs[k]?
  | [], o, w, cs, h, _ => ⟨cs, h, rfl, fun j u hu => by simp at hu, fun _ _ => rfl⟩
  | v :: r, o, w, cs, h, hl => by
    simp only [List.length_cons] at hl
    obtain ⟨cs', h1, h2, h3, h4⟩ := Blk.setCells r (o + 1) (h.put o v) (by simp; omega)
    refine ⟨cs', h1, by simpa using h2, fun j u hu => ?_, fun k hk => ?_⟩
    · rcases j with _ | j
      · simp at hu
        subst hu
        rw [h4 (o + 0) (.inl (by omega))]
        simp [show o < cs.size by omega]
      · have := h3 j u (by simpa using hu)
        rwa [show o + 1 + j = o + (j + 1) by omega] at this
    · simp only [List.length_cons] at hk
      rw [h4 k (by omega), Array.getElem?_setIfInBounds]
      split
      · omega
      · rfl
end

/-- a whole block anew -/
theorem Blk.whole {g : Nat} {t : TypeId} {w : World} {cs : Array Value} (h : Blk w g t cs) (vs : List Value) (hl : vs.length = cs.size) : Blk (w.setCells g 0 vs) g t vs.toArray := by
  obtain ⟨cs', h1, h2, h3, _⟩ := Blk.setCells vs 0 h (by omega)
  have : cs' = vs.toArray := by
    apply Array.ext_getElem?
    intro k
    rcases Nat.lt_or_ge k vs.length with hk | hk
    · have := h3 k vs[k] (List.getElem?_eq_getElem hk)
      rw [Nat.zero_add] at this
      rw [this]; simp [hk]
    · rw [Array.getElem?_eq_none (by omega), Array.getElem?_eq_none (by simpa using hk)]
  rw [← this]
  exact h1
theorem Blk.there {g : Nat} {t : TypeId} {w : World} {cs : Array Value} (h : Blk w g t cs) (o n : Nat) (hl : o + n ≤ cs.size) : w.there g o n := fun j hj => ⟨by rw [h.cell]; simp; omega, h.free _⟩
theorem below_setCells {B : Nat} {a : World} {b : Nat} (hb : B ≤ b) : ∀ (vs : List Value) (o : Nat) {w : World}, Below B a w → Below B a (w.setCells b o vs)
  | [], _, _, h => h
  | v :: r, o, w, h => below_setCells hb r (o + 1) (w := w.setCell ⟨b, o, none⟩ v) ⟨h.os, h.tape, h.output, by simpa [World.setCell] using h.size, fun i hi => (Below.heap_setCell w ⟨b, o, none⟩ v i (by show i ≠ b; omega)).trans (h.block i hi)⟩

/-! ### A row anywhere in a block -/
def RowO (w : World) (e : TypeId) (sz : Nat) (A : Option Addr) (m c : Nat) (xs : List Value) : Prop :=
  xs.length = m * sz ∧ ((A = none ∧ m = 0 ∧ c = 0) ∨ ∃ g off cs, A = some ⟨g, off, none⟩ ∧ m ≤ c ∧ c ≤ maxLen ∧ Blk w g e cs ∧ off + c * sz ≤ cs.size ∧ ∀ j u, xs[j]? = some u → cs[off + j]? = some u)

section
variable {S : Nat → Prop} {w w' : World} {e : TypeId} {sz : Nat} {A : Option Addr} {m c : Nat} {xs : List Value}
theorem RowO.none_ (w : World) (e : TypeId) (sz : Nat) : RowO w e sz none 0 0 [] := ⟨by simp, .inl ⟨rfl, rfl, rfl⟩⟩
theorem RowO.rd (h : RowO w e sz A m c xs) : Rd w A xs := by
  rcases h.2 with ⟨rfl, rfl, rfl⟩ | ⟨g, off, cs, rfl, _, _, hb, _, hc⟩
  · have : xs = [] := List.eq_nil_of_length_eq_zero (by simpa using h.1)
    subst this
    exact Rd.nil _ _
  · exact fun j u hu => ⟨_, rfl, by rw [Addr.add_mid, hb.cell]; exact hc j u hu⟩
theorem RowO.lt (h : RowO w e sz A m c xs) {k : Nat} (hk : inA A k) : k < w.heap.size := by
  rcases h.2 with ⟨rfl, _⟩ | ⟨g, off, cs, rfl, _, _, hb, _⟩
  · exact absurd hk (inA_none k)
  · rw [inA_some] at hk; subst hk; exact hb.lt
theorem RowO.keep (h : RowO w e sz A m c xs) (hk : ∀ k, inA A k → w'.heap[k]? = w.heap[k]?) : RowO w' e sz A m c xs := by
  refine ⟨h.1, ?_⟩
  rcases h.2 with h1 | ⟨g, off, cs, rfl, h1, h2, hb, h3⟩
  · exact .inl h1
  · exact .inr ⟨g, off, cs, rfl, h1, h2, (hk g ((inA_some _ _ _ _).2 rfl)).trans hb, h3⟩
theorem RowO.only (h : RowO w e sz A m c xs) (ho : Only S w w') (hn : ∀ k, inA A k → ¬ S k) : RowO w' e sz A m c xs := h.keep fun k hk => ho.block k (h.lt hk) (hn k hk)
theorem RowO.ext (h : RowO w e sz A m c xs) (hb : Below w.heap.size w w') : RowO w' e sz A m c xs := h.keep fun k hk => hb.block k (h.lt hk)
theorem RowO.alloc (h : RowO w e sz A m c xs) (o : Obj) : RowO (w.alloc o) e sz A m c xs := h.ext ((Below.refl _ _).alloc (Nat.le_refl _) o)
theorem RowO.drew (h : RowO w e sz A m c xs) : RowO w.drew e sz A m c xs := h
theorem RowO.drewN (h : RowO w e sz A m c xs) (n : Nat) : RowO (w.drewN n) e sz A m c xs := h
theorem RowO.le (h : RowO w e sz A m c xs) : m ≤ c := by
  rcases h.2 with ⟨_, h1, h2⟩ | ⟨_, _, _, _, h1, _⟩ <;> omega
theorem RowO.ne_blk {g : Nat} {t : TypeId} {cs : Array Value} (h : RowO w e sz A m c xs) (hb : Blk w g t cs) (ht : e ≠ t) : ¬ inA A g := by
  intro hk
  rcases h.2 with ⟨rfl, _⟩ | ⟨g', off, cs', rfl, _, _, hb', _⟩
  · exact inA_none _ hk
  · rw [inA_some] at hk
    subst hk
    unfold Blk at hb hb'
    rw [hb] at hb'
    injection hb' with hb'
    injection hb' with _ ht'
    exact ht ht'.symm
theorem RowO.lit (w : World) (e : TypeId) (sz m : Nat) (cs : Array Value) (hs : cs.size = m * sz) (hm : m ≤ maxLen) {g : Nat} (hg : g = w.heap.size) : RowO (w.alloc (.cells cs e)) e sz (some ⟨g, 0, none⟩) m m cs.toList := by
  subst hg
  exact ⟨by simpa using hs, .inr ⟨_, 0, cs, rfl, Nat.le_refl _, hm, Blk.new w e cs, by omega, fun j u hu => by simpa using hu⟩⟩
/-- the first elements alone -/
theorem RowO.sub (h : RowO w e sz A m c xs) {n : Nat} {ys : List Value} (hn : n ≤ m) (hl : ys.length = n * sz) (hp : ∀ (j : Nat) (u : Value), ys[j]? = some u → xs[j]? = some u) : RowO w e sz A n c ys := by
  refine ⟨hl, ?_⟩
  rcases h.2 with ⟨h1, h2, h3⟩ | ⟨g, off, cs, h1, h2, h3, h4, h5, h6⟩
  · exact .inl ⟨h1, by omega, h3⟩
  · exact .inr ⟨g, off, cs, h1, by omega, h3, h4, h5, fun j u hu => h6 j u (hp j u hu)⟩
end

/-! ### append -/
section
variable {P : Program} (w : World)
theorem run_appO (t ty e : TypeId) (z : Value) (sz bytes : Nat) (ht : P.underlying t = some (.slice e)) (hi : (P.info? e).map (fun i => (i.zero, i.size, i.bytes)) = some (some z, sz, bytes)) (hzs : z.cells.size = sz)
    (A : Option Addr) (n c : Nat) (xs : List Value) (hown : RowO w e sz A n c xs) (A2 : Option Addr) (m c2 : Nat) (news : List Value) (hm : news.length = m * sz) (hr : Rd w A2 news) (h1 : ∀ u ∈ news, u.oneCell' = true) (h0 : A2 = none → m = 0)
    (h63 : n + m ≤ maxLen) (hbytes : (n + m) * bytes ≤ 140737488355328) :
    ∃ A' c' w', (Builtin.append_ #[t, t] ty #[.slice A n c, .slice A2 m c2]).run P w = .ok (.slice A' (n + m) c') w' ∧ RowO w' e sz A' (n + m) c' (xs ++ news) ∧ Only (inA A) w w' ∧ (∀ k, inA A' k → inA A k ∨ (w.heap.size ≤ k ∧ k < w'.heap.size)) := by
  obtain ⟨i, hinf, hz, hsz, hby⟩ := info_parts hi
  clear hi
  subst hsz hby
  have hsmall : n + m ≤ 9223372036854775807 := by simp only [maxLen] at h63; omega
  have src : Src P i.size t (.slice A2 m c2) m news w := by
    rcases A2 with _ | ad
    · obtain rfl := h0 rfl
      have hnil : news = [] := List.eq_nil_of_length_eq_zero (by simpa using hm)
      subst hnil
      exact Src.ofNil w ht c2
    · exact Src.ofSlice w ht ad m c2 news hm (fun j u hu => by
        obtain ⟨ad', h, hc⟩ := hr j u hu
        injection h with h
        subst h
        exact hc) h1
  have hlen : (xs ++ news).length = (n + m) * i.size := by rw [List.length_append, hown.1, hm, Nat.add_mul]
  by_cases hroom : n + m ≤ c
  · rcases hown.2 with ⟨rfl, rfl, rfl⟩ | ⟨g, off, cs, rfl, hnc, hcm, hb, hsize, hcell⟩
    · have hn0 : m = 0 := by omega
      subst hn0
      have hnil : news = [] := List.eq_nil_of_length_eq_zero (by simpa using hm)
      subst hnil
      refine ⟨none, 0, w, ?_, by rw [List.append_nil]; exact hown, Only.refl _ _, fun k hk => .inl hk⟩
      have hl := src.len w
      have hcl := src.cells
      have hl' : Builtin.lenOf (.slice A2 0 c2) = pure 0 := rfl
      rw [Nat.add_zero]
      unfold Builtin.append_
      simp [run_underlying ht, sizeOf, typeInfo, hinf, hl', hcl]
    · have hfit : off + n * i.size + news.length ≤ cs.size := by
        have h2 : (n + m) * i.size ≤ c * i.size := Nat.mul_le_mul_right _ hroom
        rw [Nat.add_mul] at h2
        omega
      have hcs : ∀ j, j < news.length → (w.cell? ⟨g, off + n * i.size + j, none⟩).isSome = true := fun j hj => by
        rw [hb.cell]; simp; omega
      have hfr : ∀ j, j < news.length → w.frozen? ⟨g, off + n * i.size + j, none⟩ = false := fun j _ => hb.free _
      have hrun := run_append_room_src (P := P) w t t ty e i ht hinf g off n c (.slice A2 m c2) m news src hroom hcs hfr
      obtain ⟨cs', hb', hs', hin, hout⟩ := Blk.setCells news (off + n * i.size) hb hfit
      refine ⟨_, _, _, hrun, ⟨hlen, .inr ⟨g, off, cs', rfl, hroom, hcm, hb', by omega, fun j u hu => ?_⟩⟩, (Only.refl _ w).setCells (.inl ((inA_some _ _ _ _).2 rfl)) _ _, fun k hk => .inl hk⟩
      rw [List.getElem?_append] at hu
      split at hu
      · rename_i hj
        rw [hown.1] at hj
        rw [hout (off + j) (.inl (by omega))]
        exact hcell j u hu
      · rename_i hj
        have := hin _ u hu
        rw [hown.1] at hj this
        rwa [show off + n * i.size + (j - n * i.size) = off + j by omega] at this
  · have hold : (Builtin.firstCells i.size n (.slice A n c)).run P w.drew = .ok xs.toArray w.drew := by
      rcases hown.2 with ⟨rfl, rfl, rfl⟩ | ⟨g, off, cs, rfl, hnc, hcm, hb, hsize, hcell⟩
      · have hnil : xs = [] := List.eq_nil_of_length_eq_zero (by simpa using hown.1)
        subst hnil
        exact run_firstCells_none w.drew i.size 0 0 0
      · refine run_firstCells_some w.drew i.size n ⟨g, off, none⟩ n c xs hown.1 (fun j u hu => ?_)
        rw [Addr.add_mid, (Blk.drew hb).cell]
        exact hcell j u hu
    have hrun := run_append_grow_src (P := P) w t t ty e i z ht hinf hz A n c xs hold (.slice A2 m c2) m news src (by omega) (by omega) (growslice_fits (by omega) hbytes)
    have hge := grownCap_ge w (n + m) c e
    have hcm : grownCap w (n + m) c e ≤ maxLen := grownCap_le_maxLen w (n + m) c e h63
    refine ⟨_, _, _, hrun, ⟨hlen, .inr ⟨w.heap.size, 0, _, rfl, hge, hcm, heap_alloc_new w.drew _, ?_, fun j u hu => ?_⟩⟩, ((Only.refl _ w).drew).alloc _, fun k hk => .inr ?_⟩
    · simp only [Array.size_append, List.size_toArray, size_zeroCells, hzs, hlen, ← Nat.add_mul]
      rw [Nat.zero_add]
      exact Nat.le_of_eq (congrArg (· * i.size) (by omega))
    · have hj := (List.getElem?_eq_some_iff.1 hu).1
      rw [Nat.zero_add, Array.getElem?_append_left (by simpa using hj)]
      simpa using hu
    · rw [inA_some] at hk
      subst hk
      simp

theorem wp_appO {o : Oper} {a : Act} {K : Act → World → Prop} {Q : Exit → Act → World → Prop} (s x : Operand) (t : TypeId)
    (ho : o.op = .call { callee := .builtin .append, args := #[s, x], argTypes := #[t, t] })
    (e : TypeId) (z : Value) (sz bytes : Nat) (ht : P.underlying t = some (.slice e)) (hi : (P.info? e).map (fun i => (i.zero, i.size, i.bytes)) = some (some z, sz, bytes)) (hzs : z.cells.size = sz)
    (A : Option Addr) (n c : Nat) (xs : List Value) (hs : a.eval s = .slice A n c) (hown : RowO w e sz A n c xs)
    (A2 : Option Addr) (m c2 : Nat) (news : List Value) (hx : a.eval x = .slice A2 m c2) (hm : news.length = m * sz) (hr : Rd w A2 news) (h1 : ∀ u ∈ news, u.oneCell' = true) (h0 : A2 = none → m = 0)
    (h63 : n + m ≤ maxLen) (hbytes : (n + m) * bytes ≤ 140737488355328)
    (h : ∀ A' c' w', RowO w' e sz A' (n + m) c' (xs ++ news) → Only (inA A) w w' → (∀ k, inA A' k → inA A k ∨ (w.heap.size ≤ k ∧ k < w'.heap.size)) → K (a.put o.dst (.slice A' (n + m) c')) w') : o.wp P a w K Q := by
  obtain ⟨A', c', w', hrun, h2, h3, h4⟩ := run_appO (P := P) w t o.type e z sz bytes ht hi hzs A n c xs hown A2 m c2 news hm hr h1 h0 h63 hbytes
  unfold Oper.wp execOp
  simp only [ho, resolve, invoke, builtin, Sem.run_bind, Sem.run_pure, Result.andThen_ok, List.map_toArray, List.map_cons, List.map_nil, hs, hx, hrun]
  exact h A' c' w' h2 h3 h4

theorem wpList_appO {ops : Array Oper} {rest : List Oper} {o : Oper} {a : Act} {Q : Exit → Act → World → Prop} (hgd : o.guard = none) (s x : Operand) (t : TypeId)
    (ho : o.op = .call { callee := .builtin .append, args := #[s, x], argTypes := #[t, t] })
    (e : TypeId) (z : Value) (sz bytes : Nat) (ht : P.underlying t = some (.slice e)) (hi : (P.info? e).map (fun i => (i.zero, i.size, i.bytes)) = some (some z, sz, bytes)) (hzs : z.cells.size = sz)
    (A : Option Addr) (n c : Nat) (xs : List Value) (hs : a.eval s = .slice A n c) (hown : RowO w e sz A n c xs)
    (A2 : Option Addr) (m c2 : Nat) (news : List Value) (hx : a.eval x = .slice A2 m c2) (hm : news.length = m * sz) (hr : Rd w A2 news) (h1 : ∀ u ∈ news, u.oneCell' = true) (h0 : A2 = none → m = 0)
    (h63 : n + m ≤ maxLen) (hbytes : (n + m) * bytes ≤ 140737488355328)
    (h : ∀ A' c' w', RowO w' e sz A' (n + m) c' (xs ++ news) → Only (inA A) w w' → (∀ k, inA A' k → inA A k ∨ (w.heap.size ≤ k ∧ k < w'.heap.size)) → wpList P ops Q rest (a.put o.dst (.slice A' (n + m) c')) w') : wpList P ops Q (o :: rest) a w :=
  wpList_plain hgd fun _ hK => wp_appO w s x t ho e z sz bytes ht hi hzs A n c xs hs hown A2 m c2 news hx hm hr h1 h0 h63 hbytes fun A' c' w' h2 h3 h4 => hK _ _ (h A' c' w' h2 h3 h4)

/-- at a step of a region that draws its order -/
theorem step_appO {ops : Array Oper} {o : Oper} {a : Act} {K : Act → World → Prop} {Q : Exit → Act → World → Prop} {E : Prop} (hgd : o.guard = none) (s x : Operand) (t : TypeId)
    (ho : o.op = .call { callee := .builtin .append, args := #[s, x], argTypes := #[t, t] })
    (e : TypeId) (z : Value) (sz bytes : Nat) (ht : P.underlying t = some (.slice e)) (hi : (P.info? e).map (fun i => (i.zero, i.size, i.bytes)) = some (some z, sz, bytes)) (hzs : z.cells.size = sz)
    (A : Option Addr) (n c : Nat) (xs : List Value) (hs : a.eval s = .slice A n c) (hown : RowO w e sz A n c xs)
    (A2 : Option Addr) (m c2 : Nat) (news : List Value) (hx : a.eval x = .slice A2 m c2) (hm : news.length = m * sz) (hr : Rd w A2 news) (h1 : ∀ u ∈ news, u.oneCell' = true) (h0 : A2 = none → m = 0)
    (h63 : n + m ≤ maxLen) (hbytes : (n + m) * bytes ≤ 140737488355328)
    (h : ∀ A' c' w', RowO w' e sz A' (n + m) c' (xs ++ news) → Only (inA A) w w' → (∀ k, inA A' k → inA A k ∨ (w.heap.size ≤ k ∧ k < w'.heap.size)) → K (a.put o.dst (.slice A' (n + m) c')) w') :
    if Region.wanted o (yielded ops a.tmps) = true then Oper.wp P o a w K Q else E := by
  have hw : Region.wanted o (yielded ops a.tmps) = true := by simp [Region.wanted, hgd]
  rw [if_pos hw]
  exact wp_appO w s x t ho e z sz bytes ht hi hzs A n c xs hs hown A2 m c2 news hx hm hr h1 h0 h63 hbytes h
end
end Go.Proofs.Ytdghbdiapkelnaa

/-
  Rows that were made anew; addresses at a place of a block; small words on worlds. No statement of the seat is proved here.
-/
namespace Go.Proofs.Ytdghbdiapkelnaa
open Go Go.RowKit
set_option maxRecDepth 100000

/-- a row that was made since 'w' -/
def NewO (w w' : World) (e : TypeId) (sz : Nat) (A : Option Addr) (m c : Nat) (xs : List Value) : Prop := RowO w' e sz A m c xs ∧ Below w.heap.size w w' ∧ ∀ k, inA A k → w.heap.size ≤ k
section
variable {w w1 w2 w3 : World} {e : TypeId} {sz : Nat} {A A' : Option Addr} {m n c c' : Nat} {xs ys : List Value}
theorem NewO.start (w : World) (e : TypeId) (sz : Nat) : NewO w w e sz none 0 0 [] := ⟨RowO.none_ _ _ _, Below.refl _ _, fun k hk => absurd hk (inA_none k)⟩
theorem NewO.row (h : NewO w w1 e sz A m c xs) : RowO w1 e sz A m c xs := h.1
theorem NewO.bel (h : NewO w w1 e sz A m c xs) : Below w.heap.size w w1 := h.2.1
theorem NewO.ext (h : NewO w w1 e sz A m c xs) (hb : Below w1.heap.size w1 w2) : NewO w w2 e sz A m c xs := ⟨h.1.ext hb, ext_trans h.2.1 hb, h.2.2⟩
theorem NewO.grow (h : NewO w w1 e sz A m c xs) (hb : Below w1.heap.size w1 w2) (hr : RowO w3 e sz A' n c' ys) (ho : Only (inA A) w2 w3) (hA : ∀ k, inA A' k → inA A k ∨ (w2.heap.size ≤ k ∧ k < w3.heap.size)) : NewO w w3 e sz A' n c' ys := by
  have h1 := h.2.1.size
  have h2 := hb.size
  refine ⟨hr, (ext_trans h.2.1 hb).trans (ho.below (fun i hi => h.2.2 i hi) (by omega)), fun k hk => ?_⟩
  rcases hA k hk with hk | hk
  · exact h.2.2 k hk
  · omega
theorem NewO.rd (h : NewO w w1 e sz A m c xs) : Rd w1 A xs := h.1.rd
theorem NewO.back {w0 : World} (h : NewO w w1 e sz A m c xs) (hb : Below w0.heap.size w0 w) : NewO w0 w1 e sz A m c xs := ⟨h.1, hb.trans (h.2.1.mono hb.size), fun k hk => Nat.le_trans hb.size (h.2.2 k hk)⟩
end

/-- an address at a place of a block -/
def Flat (A : Option Addr) : Prop := ∀ ad, A = some ad → ∃ g o, ad = ⟨g, o, none⟩
theorem RowO.flat {w : World} {e : TypeId} {sz : Nat} {A : Option Addr} {m c : Nat} {xs : List Value} (h : RowO w e sz A m c xs) : Flat A := fun ad e' => by
  rcases h.2 with ⟨h1, _⟩ | ⟨g, o, _, h1, _⟩
  · rw [h1] at e'; cases e'
  · rw [h1] at e'; injection e' with e'; exact ⟨g, o, e'.symm⟩
theorem RowO.addr {w : World} {e : TypeId} {sz : Nat} {A : Option Addr} {m c : Nat} {xs : List Value} (h : RowO w e sz A m c xs) (h0 : 0 < m) : ∃ g o, A = some ⟨g, o, none⟩ := by
  rcases h.2 with ⟨_, h1, _⟩ | ⟨g, o, _, h1, _⟩
  · omega
  · exact ⟨g, o, h1⟩
theorem RowO.free {w : World} {e : TypeId} {sz : Nat} {g o m c : Nat} {xs : List Value} (h : RowO w e sz (some ⟨g, o, none⟩) m c xs) (j : Nat) : w.frozen? ⟨g, j, none⟩ = false := by
  rcases h.2 with ⟨h1, _⟩ | ⟨g', o', cs, h1, h2, h3, h4, h5, h6⟩
  · cases h1
  · injection h1 with h1
    injection h1 with h1 h1' _
    subst h1 h1'
    exact h4.free j
theorem RowO.set {w : World} {e : TypeId} {sz : Nat} {g o m c : Nat} {xs : List Value} (h : RowO w e sz (some ⟨g, o, none⟩) m c xs) (j : Nat) (hj : j < xs.length) (u : Value) : RowO (w.setCell ⟨g, o + j, none⟩ u) e sz (some ⟨g, o, none⟩) m c (xs.set j u) := by
  refine ⟨by rw [List.length_set]; exact h.1, ?_⟩
  rcases h.2 with ⟨h1, _⟩ | ⟨g', o', cs, h1, h2, h3, h4, h5, h6⟩
  · cases h1
  · injection h1 with h1
    injection h1 with h1 h1' _
    subst h1 h1'
    refine .inr ⟨g, o, cs.setIfInBounds (o + j) u, rfl, h2, h3, h4.put (o + j) u, by simpa using h5, fun i v hv => ?_⟩
    rw [List.getElem?_set] at hv
    split at hv
    · rename_i hij
      subst hij
      have hlt : o + j < cs.size := by
        have := h6 j _ (List.getElem?_eq_getElem hj)
        exact (Array.getElem?_eq_some_iff.1 this).1
      rw [Array.getElem?_setIfInBounds_self_of_lt hlt]; exact hv
    · rename_i hij
      rw [Array.getElem?_setIfInBounds_ne (by omega)]
      exact h6 i v hv
theorem NewO.set {w w1 : World} {e : TypeId} {sz : Nat} {g o m c : Nat} {xs : List Value} (h : NewO w w1 e sz (some ⟨g, o, none⟩) m c xs) (j : Nat) (hj : j < xs.length) (u : Value) : NewO w (w1.setCell ⟨g, o + j, none⟩ u) e sz (some ⟨g, o, none⟩) m c (xs.set j u) :=
  ⟨h.1.set j hj u, ⟨h.2.1.os, h.2.1.tape, h.2.1.output, by simpa [World.setCell] using h.2.1.size, fun i hi => (Below.heap_setCell w1 ⟨g, o + j, none⟩ u i (by
    have := h.2.2 g ((inA_some _ _ _ _).2 rfl)
    show i ≠ g
    omega)).trans (h.2.1.block i hi)⟩, h.2.2⟩

theorem ext2 (w : World) (a b : Obj) : Below w.heap.size w ((w.alloc a).alloc b) := ((Below.refl _ _).alloc (Nat.le_refl _) _).alloc (by simp) _
theorem ext_alloc {a w : World} (h : Below a.heap.size a w) (o : Obj) : Below a.heap.size a (w.alloc o) := h.alloc h.size o
theorem ext_drew {a w : World} (h : Below a.heap.size a w) : Below a.heap.size a w.drew := ext_drewN h 1
theorem cell_only {S : Nat → Prop} {w w' : World} {p : Addr} {v : Value} (h : w.cell? p = some v) (ho : Only S w w') (hn : ¬ S p.block) : w'.cell? p = some v :=
  (World.cell?_of_block (ho.block _ (World.block_lt_of_cell? w _ h) hn)).trans h
theorem take_snoc {α : Type} (l : List α) (k : Nat) (h : k < l.length) : l.take (k + 1) = l.take k ++ [l[k]] := by
  rw [List.take_add_one, List.getElem?_eq_getElem h]; rfl
/-! ### cells, each element of so many -/
theorem flat_at {β : Type} (enc : β → List Value) (sz : Nat) (h : ∀ b, (enc b).length = sz) : ∀ (l : List β) (k j : Nat) (hk : k < l.length), j < sz → (l.flatMap enc)[k * sz + j]? = (enc l[k])[j]?
  | a :: r, 0, j, hk, hj => by
    rw [List.flatMap_cons, List.getElem?_append_left (by rw [h]; omega)]
    simp
  | a :: r, k + 1, j, hk, hj => by
    simp only [List.length_cons] at hk
    rw [List.flatMap_cons, List.getElem?_append_right (by rw [h, Nat.add_mul]; omega), h, show (k + 1) * sz + j - sz = k * sz + j by rw [Nat.add_mul]; omega]
    rw [flat_at enc sz h r k j (by omega) hj]
    rfl
theorem flat_len {β : Type} (enc : β → List Value) (sz : Nat) (h : ∀ b, (enc b).length = sz) (l : List β) : (l.flatMap enc).length = l.length * sz := by
  induction l with
  | nil => simp
  | cons a r ih => rw [List.flatMap_cons, List.length_append, h, ih, List.length_cons, Nat.add_mul]; omega
/-- append of one element onto a row that was made anew -/
theorem wpList_app_new {P : Program} {w : World} {ops : Array Oper} {rest : List Oper} {o : Oper} {a : Act} {Q : Exit → Act → World → Prop} (hgd : o.guard = none) (s x : Operand) (t : TypeId)
    (ho : o.op = .call { callee := .builtin .append, args := #[s, x], argTypes := #[t, t] })
    (e : TypeId) (z : Value) (sz bytes : Nat) (ht : P.underlying t = some (.slice e)) (hi : (P.info? e).map (fun i => (i.zero, i.size, i.bytes)) = some (some z, sz, bytes)) (hzs : z.cells.size = sz)
    {w0 wr : World} (A : Option Addr) (n c : Nat) (xs : List Value) (hN : NewO w0 wr e sz A n c xs) (hb : Below wr.heap.size wr w) (hs : a.eval s = .slice A n c)
    (ad : Addr) (c2 : Nat) (news : List Value) (hx : a.eval x = .slice (some ad) 1 c2) (hm : news.length = 1 * sz) (hr : Rd w (some ad) news) (h1 : ∀ u ∈ news, u.oneCell' = true)
    (h63 : n + 1 ≤ maxLen) (hbytes : (n + 1) * bytes ≤ 140737488355328)
    (h : ∀ A' c' w', NewO w0 w' e sz A' (n + 1) c' (xs ++ news) → Below w0.heap.size w0 w' → wpList P ops Q rest (a.put o.dst (.slice A' (n + 1) c')) w') : wpList P ops Q (o :: rest) a w :=
  wpList_appO w hgd s x t ho e z sz bytes ht hi hzs A n c xs hs (hN.row.ext hb) (some ad) 1 c2 news hx hm hr h1 (fun h => by cases h) h63 hbytes fun A' c' w' hr' ho' hA' => by
    have h2 := hN.grow hb hr' ho' hA'
    exact h A' c' w' h2 h2.bel
end Go.Proofs.Ytdghbdiapkelnaa

/-
  Texts of bytes as values. No statement of the seat is proved here.
-/
namespace Go.Proofs.Ytdghbdiapkelnaa
open Go Go.RowKit

/-- a text of these bytes -/
def strV (bs : List UInt8) : Value := .string ⟨bs.toArray⟩
theorem strV_inj {a b : List UInt8} : (⟨a.toArray⟩ : ByteArray) = ⟨b.toArray⟩ ↔ a = b := ⟨fun h => by injection h with h; simpa using h, fun h => by rw [h]⟩
theorem ne_str {xs ys : List UInt8} (h : xs ≠ ys) : ((⟨xs.toArray⟩ : ByteArray).toList == (⟨ys.toArray⟩ : ByteArray).toList) = false := by
  rw [beq_eq_false_iff_ne, ByteArray.toList_mk, ByteArray.toList_mk]
  exact h
/-- two texts are one, or not, as the walk spells it -/
theorem str_cases (xs ys : List UInt8) : ∃ Y Z : ByteArray, strV xs = .string Y ∧ strV ys = .string Z ∧ ((xs = ys ∧ Y = Z) ∨ (xs ≠ ys ∧ (Y.toList == Z.toList) = false)) := by
  refine ⟨_, _, rfl, rfl, ?_⟩
  by_cases h : xs = ys
  · exact .inl ⟨h, by rw [h]⟩
  · exact .inr ⟨h, ne_str h⟩
theorem rd_str {w : World} {A : Option Addr} {xs : List (List UInt8)} (h : Rd w A (xs.map strV)) {k : Nat} (hk : k < xs.length) : ∃ ad, A = some ad ∧ w.cell? (ad.add k) = some (strV xs[k]) := by
  have := h k (strV xs[k]) (by rw [List.getElem?_map, List.getElem?_eq_getElem hk]; rfl)
  exact this
end Go.Proofs.Ytdghbdiapkelnaa
