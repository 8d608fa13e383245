/-
  Texts of this claim, joined (part 1): contracts and lemmas that the last text goes by. No statement of the seat is proved here.
-/
import Derived.Test.YtgknlegomoaoeaaDoorAll0
import Derived.Deep.MidRow
import Derived.Deep.AppendSrc
import Derived.Test.YtgknlegomoaoeaaDoorRows
import Derived.Deep.RegionHeld3
import Derived.Deep.RegionHeldLaw
import Derived.Deep.RegionWith
import Derived.Deep.DeepCutAuto
import Derived.Deep.CutBlock
import Derived.BigRegion
import Derived.StillTailTactics
import Derived.Deep.DeepMust
import Derived.Laws.Bits64
import Derived.Laws.Bits64b
import Derived.Laws.IdiomStrings
import Derived.Lib.BufferRead
import Derived.Lib.SlBytesConst
set_option linter.unusedVariables false
set_option linter.unusedSimpArgs false
/-
  Rows of elements of many cells that lie anywhere in a block of the call's own ('RowO'), append onto them, and stores of many cells. No statement of the seat is proved here.
-/
namespace Go.Proofs.YtgknlegomoaoeaaDoor
open Go Go.RowKit

/-- the block of an address -/
def inA (A : Option Addr) (k : Nat) : Prop := ∃ ad, A = some ad ∧ ad.block = k
theorem inA_none (k : Nat) : ¬ inA none k := fun ⟨_, h, _⟩ => by cases h
theorem inA_some (g o k : Nat) (s : Option Nat) : inA (some ⟨g, o, s⟩) k ↔ g = k := ⟨fun ⟨_, h, e⟩ => by injection h with h; subst h; exact e, fun e => ⟨_, rfl, e⟩⟩

/-! ### Only: stores of many cells -/
section
variable {S T : Nat → Prop} {a w w' : World}
theorem Only.setCells (h : Only S a w) {b : Nat} (hb : S b ∨ a.heap.size ≤ b) : ∀ (vs : List Value) (o : Nat), Only S a (w.setCells b o vs) := by
  intro vs
  induction vs generalizing w with
  | nil => intro o; exact h
  | cons v r ih => intro o; exact ih (h.setCell (p := ⟨b, o, none⟩) hb v) (o + 1)
theorem Blk.setCells_far {g : Nat} {t : TypeId} {cs : Array Value} {b : Nat} (hn : g ≠ b) : ∀ (vs : List Value) (o : Nat) {w : World}, Blk w g t cs → Blk (w.setCells b o vs) g t cs
  | [], _, _, h => h
  | v :: r, o, w, h => Blk.setCells_far hn r (o + 1) (h.far (p := ⟨b, o, none⟩) hn v)
theorem Blk.setCells {g : Nat} {t : TypeId} : ∀ (vs : List Value) (o : Nat) {w : World} {cs : Array Value}, Blk w g t cs → o + vs.length ≤ cs.size →
    ∃ cs', Blk (w.setCells g o vs) g t cs' ∧ cs'.size = cs.size ∧ (∀ j u, vs[j]? = some u → cs'[o + j]? = some u) ∧ ∀ k, (k < o ∨ o + vs.length ≤ k) → cs'[k]? = cs[k]?
  | [], o, w, cs, h, _ => ⟨cs, h, rfl, fun j u hu => by simp at hu, fun _ _ => rfl⟩
  | v :: r, o, w, cs, h, hl => by
    simp only [List.length_cons] at hl
    obtain ⟨cs', h1, h2, h3, h4⟩ := Blk.setCells r (o + 1) (h.put o v) (by simp; omega)
    refine ⟨cs', h1, by simpa using h2, fun j u hu => ?_, fun k hk => ?_⟩
    · rcases j with _ | j
      · simp at hu
        subst hu
        rw [h4 (o + 0) (.inl (by omega))]
        simp [show o < cs.size by omega]
      · have := h3 j u (by simpa using hu)
        rwa [show o + 1 + j = o + (j + 1) by omega] at this
    · simp only [List.length_cons] at hk
      rw [h4 k (by omega), Array.getElem?_setIfInBounds]
      split
      · omega
      · rfl
end

/-- a whole block anew -/
theorem Blk.whole {g : Nat} {t : TypeId} {w : World} {cs : Array Value} (h : Blk w g t cs) (vs : List Value) (hl : vs.length = cs.size) : Blk (w.setCells g 0 vs) g t vs.toArray := by
  obtain ⟨cs', h1, h2, h3, _⟩ := Blk.setCells vs 0 h (by omega)
  have : cs' = vs.toArray := by
    apply Array.ext_getElem?
    intro k
    rcases Nat.lt_or_ge k vs.length with hk | hk
    · have := h3 k vs[k] (List.getElem?_eq_getElem hk)
      rw [Nat.zero_add] at this
      rw [this]; simp [hk]
    · rw [Array.getElem?_eq_none (by omega), Array.getElem?_eq_none (by simpa using hk)]
  rw [← this]
  exact h1
theorem Blk.there {g : Nat} {t : TypeId} {w : World} {cs : Array Value} (h : Blk w g t cs) (o n : Nat) (hl : o + n ≤ cs.size) : w.there g o n := fun j hj => ⟨by rw [h.cell]; simp; omega, h.free _⟩
theorem below_setCells {B : Nat} {a : World} {b : Nat} (hb : B ≤ b) : ∀ (vs : List Value) (o : Nat) {w : World}, Below B a w → Below B a (w.setCells b o vs)
  | [], _, _, h => h
  | v :: r, o, w, h => below_setCells hb r (o + 1) (w := w.setCell ⟨b, o, none⟩ v) ⟨h.os, h.tape, h.output, by simpa [World.setCell] using h.size, fun i hi => (Below.heap_setCell w ⟨b, o, none⟩ v i (by show i ≠ b; omega)).trans (h.block i hi)⟩

/-! ### A row anywhere in a block -/
def RowO (w : World) (e : TypeId) (sz : Nat) (A : Option Addr) (m c : Nat) (xs : List Value) : Prop :=
  xs.length = m * sz ∧ ((A = none ∧ m = 0 ∧ c = 0) ∨ ∃ g off cs, A = some ⟨g, off, none⟩ ∧ m ≤ c ∧ c ≤ maxLen ∧ Blk w g e cs ∧ off + c * sz ≤ cs.size ∧ ∀ j u, xs[j]? = some u → cs[off + j]? = some u)

section
variable {S : Nat → Prop} {w w' : World} {e : TypeId} {sz : Nat} {A : Option Addr} {m c : Nat} {xs : List Value}
theorem RowO.none_ (w : World) (e : TypeId) (sz : Nat) : RowO w e sz none 0 0 [] := ⟨by simp, .inl ⟨rfl, rfl, rfl⟩⟩
theorem RowO.rd (h : RowO w e sz A m c xs) : Rd w A xs := by
  rcases h.2 with ⟨rfl, rfl, rfl⟩ | ⟨g, off, cs, rfl, _, _, hb, _, hc⟩
  · have : xs = [] := List.eq_nil_of_length_eq_zero (by simpa using h.1)
    subst this
    exact Rd.nil _ _
  · exact fun j u hu => ⟨_, rfl, by rw [Addr.add_mid, hb.cell]; exact hc j u hu⟩
theorem RowO.lt (h : RowO w e sz A m c xs) {k : Nat} (hk : inA A k) : k < w.heap.size := by
  rcases h.2 with ⟨rfl, _⟩ | ⟨g, off, cs, rfl, _, _, hb, _⟩
  · exact absurd hk (inA_none k)
  · rw [inA_some] at hk; subst hk; exact hb.lt
theorem RowO.keep (h : RowO w e sz A m c xs) (hk : ∀ k, inA A k → w'.heap[k]? = w.heap[k]?) : RowO w' e sz A m c xs := by
  refine ⟨h.1, ?_⟩
  rcases h.2 with h1 | ⟨g, off, cs, rfl, h1, h2, hb, h3⟩
  · exact .inl h1
  · exact .inr ⟨g, off, cs, rfl, h1, h2, (hk g ((inA_some _ _ _ _).2 rfl)).trans hb, h3⟩
theorem RowO.only (h : RowO w e sz A m c xs) (ho : Only S w w') (hn : ∀ k, inA A k → ¬ S k) : RowO w' e sz A m c xs := h.keep fun k hk => ho.block k (h.lt hk) (hn k hk)
theorem RowO.ext (h : RowO w e sz A m c xs) (hb : Below w.heap.size w w') : RowO w' e sz A m c xs := h.keep fun k hk => hb.block k (h.lt hk)
theorem RowO.alloc (h : RowO w e sz A m c xs) (o : Obj) : RowO (w.alloc o) e sz A m c xs := h.ext ((Below.refl _ _).alloc (Nat.le_refl _) o)
theorem RowO.drew (h : RowO w e sz A m c xs) : RowO w.drew e sz A m c xs := h
theorem RowO.drewN (h : RowO w e sz A m c xs) (n : Nat) : RowO (w.drewN n) e sz A m c xs := h
theorem RowO.le (h : RowO w e sz A m c xs) : m ≤ c := by
  rcases h.2 with ⟨_, h1, h2⟩ | ⟨_, _, _, _, h1, _⟩ <;> omega
theorem RowO.ne_blk {g : Nat} {t : TypeId} {cs : Array Value} (h : RowO w e sz A m c xs) (hb : Blk w g t cs) (ht : e ≠ t) : ¬ inA A g := by
  intro hk
  rcases h.2 with ⟨rfl, _⟩ | ⟨g', off, cs', rfl, _, _, hb', _⟩
  · exact inA_none _ hk
  · rw [inA_some] at hk
    subst hk
    unfold Blk at hb hb'
    rw [hb] at hb'
    injection hb' with hb'
    injection hb' with _ ht'
    exact ht ht'.symm
theorem RowO.lit (w : World) (e : TypeId) (sz m : Nat) (cs : Array Value) (hs : cs.size = m * sz) (hm : m ≤ maxLen) {g : Nat} (hg : g = w.heap.size) : RowO (w.alloc (.cells cs e)) e sz (some ⟨g, 0, none⟩) m m cs.toList := by
  subst hg
  exact ⟨by simpa using hs, .inr ⟨_, 0, cs, rfl, Nat.le_refl _, hm, Blk.new w e cs, by omega, fun j u hu => by simpa using hu⟩⟩
/-- the first elements alone -/
theorem RowO.sub (h : RowO w e sz A m c xs) {n : Nat} {ys : List Value} (hn : n ≤ m) (hl : ys.length = n * sz) (hp : ∀ (j : Nat) (u : Value), ys[j]? = some u → xs[j]? = some u) : RowO w e sz A n c ys := by
  refine ⟨hl, ?_⟩
  rcases h.2 with ⟨h1, h2, h3⟩ | ⟨g, off, cs, h1, h2, h3, h4, h5, h6⟩
  · exact .inl ⟨h1, by omega, h3⟩
  · exact .inr ⟨g, off, cs, h1, by omega, h3, h4, h5, fun j u hu => h6 j u (hp j u hu)⟩
end

/-! ### append -/
section
variable {P : Program} (w : World)
theorem run_appO (t ty e : TypeId) (z : Value) (sz bytes : Nat) (ht : P.underlying t = some (.slice e)) (hi : (P.info? e).map (fun i => (i.zero, i.size, i.bytes)) = some (some z, sz, bytes)) (hzs : z.cells.size = sz)
    (A : Option Addr) (n c : Nat) (xs : List Value) (hown : RowO w e sz A n c xs) (A2 : Option Addr) (m c2 : Nat) (news : List Value) (hm : news.length = m * sz) (hr : Rd w A2 news) (h1 : ∀ u ∈ news, u.oneCell' = true) (h0 : A2 = none → m = 0)
    (h63 : n + m ≤ maxLen) (hbytes : (n + m) * bytes ≤ 140737488355328) :
    ∃ A' c' w', (Builtin.append_ #[t, t] ty #[.slice A n c, .slice A2 m c2]).run P w = .ok (.slice A' (n + m) c') w' ∧ RowO w' e sz A' (n + m) c' (xs ++ news) ∧ Only (inA A) w w' ∧ (∀ k, inA A' k → inA A k ∨ (w.heap.size ≤ k ∧ k < w'.heap.size)) := by
  obtain ⟨i, hinf, hz, hsz, hby⟩ := info_parts hi
  clear hi
  subst hsz hby
  have hsmall : n + m ≤ 9223372036854775807 := by simp only [maxLen] at h63; omega
  have src : Src P i.size t (.slice A2 m c2) m news w := by
    rcases A2 with _ | ad
    · obtain rfl := h0 rfl
      have hnil : news = [] := List.eq_nil_of_length_eq_zero (by simpa using hm)
      subst hnil
      exact Src.ofNil w ht c2
    · exact Src.ofSlice w ht ad m c2 news hm (fun j u hu => by
        obtain ⟨ad', h, hc⟩ := hr j u hu
        injection h with h
        subst h
        exact hc) h1
  have hlen : (xs ++ news).length = (n + m) * i.size := by rw [List.length_append, hown.1, hm, Nat.add_mul]
  by_cases hroom : n + m ≤ c
  · rcases hown.2 with ⟨rfl, rfl, rfl⟩ | ⟨g, off, cs, rfl, hnc, hcm, hb, hsize, hcell⟩
    · have hn0 : m = 0 := by omega
      subst hn0
      have hnil : news = [] := List.eq_nil_of_length_eq_zero (by simpa using hm)
      subst hnil
      refine ⟨none, 0, w, ?_, by rw [List.append_nil]; exact hown, Only.refl _ _, fun k hk => .inl hk⟩
      have hl := src.len w
      have hcl := src.cells
      have hl' : Builtin.lenOf (.slice A2 0 c2) = pure 0 := rfl
      rw [Nat.add_zero]
      unfold Builtin.append_
      simp [run_underlying ht, sizeOf, typeInfo, hinf, hl', hcl]
    · have hfit : off + n * i.size + news.length ≤ cs.size := by
        have h2 : (n + m) * i.size ≤ c * i.size := Nat.mul_le_mul_right _ hroom
        rw [Nat.add_mul] at h2
        omega
      have hcs : ∀ j, j < news.length → (w.cell? ⟨g, off + n * i.size + j, none⟩).isSome = true := fun j hj => by
        rw [hb.cell]; simp; omega
      have hfr : ∀ j, j < news.length → w.frozen? ⟨g, off + n * i.size + j, none⟩ = false := fun j _ => hb.free _
      have hrun := run_append_room_src (P := P) w t t ty e i ht hinf g off n c (.slice A2 m c2) m news src hroom hcs hfr
      obtain ⟨cs', hb', hs', hin, hout⟩ := Blk.setCells news (off + n * i.size) hb hfit
      refine ⟨_, _, _, hrun, ⟨hlen, .inr ⟨g, off, cs', rfl, hroom, hcm, hb', by omega, fun j u hu => ?_⟩⟩, (Only.refl _ w).setCells (.inl ((inA_some _ _ _ _).2 rfl)) _ _, fun k hk => .inl hk⟩
      rw [List.getElem?_append] at hu
      split at hu
      · rename_i hj
        rw [hown.1] at hj
        rw [hout (off + j) (.inl (by omega))]
        exact hcell j u hu
      · rename_i hj
        have := hin _ u hu
        rw [hown.1] at hj this
        rwa [show off + n * i.size + (j - n * i.size) = off + j by omega] at this
  · have hold : (Builtin.firstCells i.size n (.slice A n c)).run P w.drew = .ok xs.toArray w.drew := by
      rcases hown.2 with ⟨rfl, rfl, rfl⟩ | ⟨g, off, cs, rfl, hnc, hcm, hb, hsize, hcell⟩
      · have hnil : xs = [] := List.eq_nil_of_length_eq_zero (by simpa using hown.1)
        subst hnil
        exact run_firstCells_none w.drew i.size 0 0 0
      · refine run_firstCells_some w.drew i.size n ⟨g, off, none⟩ n c xs hown.1 (fun j u hu => ?_)
        rw [Addr.add_mid, (Blk.drew hb).cell]
        exact hcell j u hu
    have hrun := run_append_grow_src (P := P) w t t ty e i z ht hinf hz A n c xs hold (.slice A2 m c2) m news src (by omega) (by omega) (growslice_fits (by omega) hbytes)
    have hge := grownCap_ge w (n + m) c e
    have hcm : grownCap w (n + m) c e ≤ maxLen := grownCap_le_maxLen w (n + m) c e h63
    refine ⟨_, _, _, hrun, ⟨hlen, .inr ⟨w.heap.size, 0, _, rfl, hge, hcm, heap_alloc_new w.drew _, ?_, fun j u hu => ?_⟩⟩, ((Only.refl _ w).drew).alloc _, fun k hk => .inr ?_⟩
    · simp only [Array.size_append, List.size_toArray, size_zeroCells, hzs, hlen, ← Nat.add_mul]
      rw [Nat.zero_add]
      exact Nat.le_of_eq (congrArg (· * i.size) (by omega))
    · have hj := (List.getElem?_eq_some_iff.1 hu).1
      rw [Nat.zero_add, Array.getElem?_append_left (by simpa using hj)]
      simpa using hu
    · rw [inA_some] at hk
      subst hk
      simp

theorem wp_appO {o : Oper} {a : Act} {K : Act → World → Prop} {Q : Exit → Act → World → Prop} (s x : Operand) (t : TypeId)
    (ho : o.op = .call { callee := .builtin .append, args := #[s, x], argTypes := #[t, t] })
    (e : TypeId) (z : Value) (sz bytes : Nat) (ht : P.underlying t = some (.slice e)) (hi : (P.info? e).map (fun i => (i.zero, i.size, i.bytes)) = some (some z, sz, bytes)) (hzs : z.cells.size = sz)
    (A : Option Addr) (n c : Nat) (xs : List Value) (hs : a.eval s = .slice A n c) (hown : RowO w e sz A n c xs)
    (A2 : Option Addr) (m c2 : Nat) (news : List Value) (hx : a.eval x = .slice A2 m c2) (hm : news.length = m * sz) (hr : Rd w A2 news) (h1 : ∀ u ∈ news, u.oneCell' = true) (h0 : A2 = none → m = 0)
    (h63 : n + m ≤ maxLen) (hbytes : (n + m) * bytes ≤ 140737488355328)
    (h : ∀ A' c' w', RowO w' e sz A' (n + m) c' (xs ++ news) → Only (inA A) w w' → (∀ k, inA A' k → inA A k ∨ (w.heap.size ≤ k ∧ k < w'.heap.size)) → K (a.put o.dst (.slice A' (n + m) c')) w') : o.wp P a w K Q := by
  obtain ⟨A', c', w', hrun, h2, h3, h4⟩ := run_appO (P := P) w t o.type e z sz bytes ht hi hzs A n c xs hown A2 m c2 news hm hr h1 h0 h63 hbytes
  unfold Oper.wp execOp
  simp only [ho, resolve, invoke, builtin, Sem.run_bind, Sem.run_pure, Result.andThen_ok, List.map_toArray, List.map_cons, List.map_nil, hs, hx, hrun]
  exact h A' c' w' h2 h3 h4

theorem wpList_appO {ops : Array Oper} {rest : List Oper} {o : Oper} {a : Act} {Q : Exit → Act → World → Prop} (hgd : o.guard = none) (s x : Operand) (t : TypeId)
    (ho : o.op = .call { callee := .builtin .append, args := #[s, x], argTypes := #[t, t] })
    (e : TypeId) (z : Value) (sz bytes : Nat) (ht : P.underlying t = some (.slice e)) (hi : (P.info? e).map (fun i => (i.zero, i.size, i.bytes)) = some (some z, sz, bytes)) (hzs : z.cells.size = sz)
    (A : Option Addr) (n c : Nat) (xs : List Value) (hs : a.eval s = .slice A n c) (hown : RowO w e sz A n c xs)
    (A2 : Option Addr) (m c2 : Nat) (news : List Value) (hx : a.eval x = .slice A2 m c2) (hm : news.length = m * sz) (hr : Rd w A2 news) (h1 : ∀ u ∈ news, u.oneCell' = true) (h0 : A2 = none → m = 0)
    (h63 : n + m ≤ maxLen) (hbytes : (n + m) * bytes ≤ 140737488355328)
    (h : ∀ A' c' w', RowO w' e sz A' (n + m) c' (xs ++ news) → Only (inA A) w w' → (∀ k, inA A' k → inA A k ∨ (w.heap.size ≤ k ∧ k < w'.heap.size)) → wpList P ops Q rest (a.put o.dst (.slice A' (n + m) c')) w') : wpList P ops Q (o :: rest) a w :=
  wpList_plain hgd fun _ hK => wp_appO w s x t ho e z sz bytes ht hi hzs A n c xs hs hown A2 m c2 news hx hm hr h1 h0 h63 hbytes fun A' c' w' h2 h3 h4 => hK _ _ (h A' c' w' h2 h3 h4)

/-- at a step of a region that draws its order -/
theorem step_appO {ops : Array Oper} {o : Oper} {a : Act} {K : Act → World → Prop} {Q : Exit → Act → World → Prop} {E : Prop} (hgd : o.guard = none) (s x : Operand) (t : TypeId)
    (ho : o.op = .call { callee := .builtin .append, args := #[s, x], argTypes := #[t, t] })
    (e : TypeId) (z : Value) (sz bytes : Nat) (ht : P.underlying t = some (.slice e)) (hi : (P.info? e).map (fun i => (i.zero, i.size, i.bytes)) = some (some z, sz, bytes)) (hzs : z.cells.size = sz)
    (A : Option Addr) (n c : Nat) (xs : List Value) (hs : a.eval s = .slice A n c) (hown : RowO w e sz A n c xs)
    (A2 : Option Addr) (m c2 : Nat) (news : List Value) (hx : a.eval x = .slice A2 m c2) (hm : news.length = m * sz) (hr : Rd w A2 news) (h1 : ∀ u ∈ news, u.oneCell' = true) (h0 : A2 = none → m = 0)
    (h63 : n + m ≤ maxLen) (hbytes : (n + m) * bytes ≤ 140737488355328)
    (h : ∀ A' c' w', RowO w' e sz A' (n + m) c' (xs ++ news) → Only (inA A) w w' → (∀ k, inA A' k → inA A k ∨ (w.heap.size ≤ k ∧ k < w'.heap.size)) → K (a.put o.dst (.slice A' (n + m) c')) w') :
    if Region.wanted o (yielded ops a.tmps) = true then Oper.wp P o a w K Q else E := by
  have hw : Region.wanted o (yielded ops a.tmps) = true := by simp [Region.wanted, hgd]
  rw [if_pos hw]
  exact wp_appO w s x t ho e z sz bytes ht hi hzs A n c xs hs hown A2 m c2 news hx hm hr h1 h0 h63 hbytes h
end
end Go.Proofs.YtgknlegomoaoeaaDoor

/-
  Rows that were made anew; addresses at a place of a block; small words on worlds. No statement of the seat is proved here.
-/
namespace Go.Proofs.YtgknlegomoaoeaaDoor
open Go Go.RowKit
set_option maxRecDepth 100000

/-- a row that was made since 'w' -/
def NewO (w w' : World) (e : TypeId) (sz : Nat) (A : Option Addr) (m c : Nat) (xs : List Value) : Prop := RowO w' e sz A m c xs ∧ Below w.heap.size w w' ∧ ∀ k, inA A k → w.heap.size ≤ k
section
variable {w w1 w2 w3 : World} {e : TypeId} {sz : Nat} {A A' : Option Addr} {m n c c' : Nat} {xs ys : List Value}
theorem NewO.start (w : World) (e : TypeId) (sz : Nat) : NewO w w e sz none 0 0 [] := ⟨RowO.none_ _ _ _, Below.refl _ _, fun k hk => absurd hk (inA_none k)⟩
theorem NewO.row (h : NewO w w1 e sz A m c xs) : RowO w1 e sz A m c xs := h.1
theorem NewO.bel (h : NewO w w1 e sz A m c xs) : Below w.heap.size w w1 := h.2.1
theorem NewO.ext (h : NewO w w1 e sz A m c xs) (hb : Below w1.heap.size w1 w2) : NewO w w2 e sz A m c xs := ⟨h.1.ext hb, ext_trans h.2.1 hb, h.2.2⟩
theorem NewO.grow (h : NewO w w1 e sz A m c xs) (hb : Below w1.heap.size w1 w2) (hr : RowO w3 e sz A' n c' ys) (ho : Only (inA A) w2 w3) (hA : ∀ k, inA A' k → inA A k ∨ (w2.heap.size ≤ k ∧ k < w3.heap.size)) : NewO w w3 e sz A' n c' ys := by
  have h1 := h.2.1.size
  have h2 := hb.size
  refine ⟨hr, (ext_trans h.2.1 hb).trans (ho.below (fun i hi => h.2.2 i hi) (by omega)), fun k hk => ?_⟩
  rcases hA k hk with hk | hk
  · exact h.2.2 k hk
  · omega
theorem NewO.rd (h : NewO w w1 e sz A m c xs) : Rd w1 A xs := h.1.rd
theorem NewO.back {w0 : World} (h : NewO w w1 e sz A m c xs) (hb : Below w0.heap.size w0 w) : NewO w0 w1 e sz A m c xs := ⟨h.1, hb.trans (h.2.1.mono hb.size), fun k hk => Nat.le_trans hb.size (h.2.2 k hk)⟩
end

/-- an address at a place of a block -/
def Flat (A : Option Addr) : Prop := ∀ ad, A = some ad → ∃ g o, ad = ⟨g, o, none⟩
theorem RowO.flat {w : World} {e : TypeId} {sz : Nat} {A : Option Addr} {m c : Nat} {xs : List Value} (h : RowO w e sz A m c xs) : Flat A := fun ad e' => by
  rcases h.2 with ⟨h1, _⟩ | ⟨g, o, _, h1, _⟩
  · rw [h1] at e'; cases e'
  · rw [h1] at e'; injection e' with e'; exact ⟨g, o, e'.symm⟩
theorem RowO.addr {w : World} {e : TypeId} {sz : Nat} {A : Option Addr} {m c : Nat} {xs : List Value} (h : RowO w e sz A m c xs) (h0 : 0 < m) : ∃ g o, A = some ⟨g, o, none⟩ := by
  rcases h.2 with ⟨_, h1, _⟩ | ⟨g, o, _, h1, _⟩
  · omega
  · exact ⟨g, o, h1⟩
theorem RowO.free {w : World} {e : TypeId} {sz : Nat} {g o m c : Nat} {xs : List Value} (h : RowO w e sz (some ⟨g, o, none⟩) m c xs) (j : Nat) : w.frozen? ⟨g, j, none⟩ = false := by
  rcases h.2 with ⟨h1, _⟩ | ⟨g', o', cs, h1, h2, h3, h4, h5, h6⟩
  · cases h1
  · injection h1 with h1
    injection h1 with h1 h1' _
    subst h1 h1'
    exact h4.free j
theorem RowO.set {w : World} {e : TypeId} {sz : Nat} {g o m c : Nat} {xs : List Value} (h : RowO w e sz (some ⟨g, o, none⟩) m c xs) (j : Nat) (hj : j < xs.length) (u : Value) : RowO (w.setCell ⟨g, o + j, none⟩ u) e sz (some ⟨g, o, none⟩) m c (xs.set j u) := by
  refine ⟨by rw [List.length_set]; exact h.1, ?_⟩
  rcases h.2 with ⟨h1, _⟩ | ⟨g', o', cs, h1, h2, h3, h4, h5, h6⟩
  · cases h1
  · injection h1 with h1
    injection h1 with h1 h1' _
    subst h1 h1'
    refine .inr ⟨g, o, cs.setIfInBounds (o + j) u, rfl, h2, h3, h4.put (o + j) u, by simpa using h5, fun i v hv => ?_⟩
    rw [List.getElem?_set] at hv
    split at hv
    · rename_i hij
      subst hij
      have hlt : o + j < cs.size := by
        have := h6 j _ (List.getElem?_eq_getElem hj)
        exact (Array.getElem?_eq_some_iff.1 this).1
      rw [Array.getElem?_setIfInBounds_self_of_lt hlt]; exact hv
    · rename_i hij
      rw [Array.getElem?_setIfInBounds_ne (by omega)]
      exact h6 i v hv
theorem NewO.set {w w1 : World} {e : TypeId} {sz : Nat} {g o m c : Nat} {xs : List Value} (h : NewO w w1 e sz (some ⟨g, o, none⟩) m c xs) (j : Nat) (hj : j < xs.length) (u : Value) : NewO w (w1.setCell ⟨g, o + j, none⟩ u) e sz (some ⟨g, o, none⟩) m c (xs.set j u) :=
  ⟨h.1.set j hj u, ⟨h.2.1.os, h.2.1.tape, h.2.1.output, by simpa [World.setCell] using h.2.1.size, fun i hi => (Below.heap_setCell w1 ⟨g, o + j, none⟩ u i (by
    have := h.2.2 g ((inA_some _ _ _ _).2 rfl)
    show i ≠ g
    omega)).trans (h.2.1.block i hi)⟩, h.2.2⟩

theorem ext2 (w : World) (a b : Obj) : Below w.heap.size w ((w.alloc a).alloc b) := ((Below.refl _ _).alloc (Nat.le_refl _) _).alloc (by simp) _
theorem ext_alloc {a w : World} (h : Below a.heap.size a w) (o : Obj) : Below a.heap.size a (w.alloc o) := h.alloc h.size o
theorem ext_drew {a w : World} (h : Below a.heap.size a w) : Below a.heap.size a w.drew := ext_drewN h 1
theorem cell_only {S : Nat → Prop} {w w' : World} {p : Addr} {v : Value} (h : w.cell? p = some v) (ho : Only S w w') (hn : ¬ S p.block) : w'.cell? p = some v :=
  (World.cell?_of_block (ho.block _ (World.block_lt_of_cell? w _ h) hn)).trans h
theorem take_snoc {α : Type} (l : List α) (k : Nat) (h : k < l.length) : l.take (k + 1) = l.take k ++ [l[k]] := by
  rw [List.take_add_one, List.getElem?_eq_getElem h]; rfl
/-! ### cells, each element of so many -/
theorem flat_at {β : Type} (enc : β → List Value) (sz : Nat) (h : ∀ b, (enc b).length = sz) : ∀ (l : List β) (k j : Nat) (hk : k < l.length), j < sz → (l.flatMap enc)[k * sz + j]? = (enc l[k])[j]?
  | a :: r, 0, j, hk, hj => by
    rw [List.flatMap_cons, List.getElem?_append_left (by rw [h]; omega)]
    simp
  | a :: r, k + 1, j, hk, hj => by
    simp only [List.length_cons] at hk
    rw [List.flatMap_cons, List.getElem?_append_right (by rw [h, Nat.add_mul]; omega), h, show (k + 1) * sz + j - sz = k * sz + j by rw [Nat.add_mul]; omega]
    rw [flat_at enc sz h r k j (by omega) hj]
    rfl
theorem flat_len {β : Type} (enc : β → List Value) (sz : Nat) (h : ∀ b, (enc b).length = sz) (l : List β) : (l.flatMap enc).length = l.length * sz := by
  induction l with
  | nil => simp
  | cons a r ih => rw [List.flatMap_cons, List.length_append, h, ih, List.length_cons, Nat.add_mul]; omega
/-- append of one element onto a row that was made anew -/
theorem wpList_app_new {P : Program} {w : World} {ops : Array Oper} {rest : List Oper} {o : Oper} {a : Act} {Q : Exit → Act → World → Prop} (hgd : o.guard = none) (s x : Operand) (t : TypeId)
    (ho : o.op = .call { callee := .builtin .append, args := #[s, x], argTypes := #[t, t] })
    (e : TypeId) (z : Value) (sz bytes : Nat) (ht : P.underlying t = some (.slice e)) (hi : (P.info? e).map (fun i => (i.zero, i.size, i.bytes)) = some (some z, sz, bytes)) (hzs : z.cells.size = sz)
    {w0 wr : World} (A : Option Addr) (n c : Nat) (xs : List Value) (hN : NewO w0 wr e sz A n c xs) (hb : Below wr.heap.size wr w) (hs : a.eval s = .slice A n c)
    (ad : Addr) (c2 : Nat) (news : List Value) (hx : a.eval x = .slice (some ad) 1 c2) (hm : news.length = 1 * sz) (hr : Rd w (some ad) news) (h1 : ∀ u ∈ news, u.oneCell' = true)
    (h63 : n + 1 ≤ maxLen) (hbytes : (n + 1) * bytes ≤ 140737488355328)
    (h : ∀ A' c' w', NewO w0 w' e sz A' (n + 1) c' (xs ++ news) → Below w0.heap.size w0 w' → wpList P ops Q rest (a.put o.dst (.slice A' (n + 1) c')) w') : wpList P ops Q (o :: rest) a w :=
  wpList_appO w hgd s x t ho e z sz bytes ht hi hzs A n c xs hs (hN.row.ext hb) (some ad) 1 c2 news hx hm hr h1 (fun h => by cases h) h63 hbytes fun A' c' w' hr' ho' hA' => by
    have h2 := hN.grow hb hr' ho' hA'
    exact h A' c' w' h2 h2.bel
end Go.Proofs.YtgknlegomoaoeaaDoor

/-
  Plain mathematics of octet: a number's digits to the base 128. No Go here.
-/
namespace Go.Proofs.YtgknlegomoaoeaaDoor

/-- a number as bytes: seven binary digits a byte, the lowest first -/
def dig (n : Nat) : List UInt8 := if n < 128 then [n.toUInt8] else (n % 128 + 128).toUInt8 :: dig (n / 128)
termination_by n

theorem dig_lt {n : Nat} (h : n < 128) : dig n = [n.toUInt8] := by rw [dig, if_pos h]
theorem dig_ge {n : Nat} (h : ¬ n < 128) : dig n = (n % 128 + 128).toUInt8 :: dig (n / 128) := by rw [dig, if_neg h]
theorem dig_pos (n : Nat) : 0 < (dig n).length := by
  rw [dig]; split <;> simp

/-- so many bytes at the most -/
theorem dig_len : ∀ (k n : Nat), n < 128 ^ k → 0 < k → (dig n).length ≤ k
  | 0, _, _, h => absurd h (by omega)
  | k + 1, n, h, _ => by
    by_cases hn : n < 128
    · rw [dig_lt hn]; simp
    · rw [dig_ge hn]
      have hk : 0 < k := by
        rcases k with _ | k
        · simp at h; omega
        · omega
      have h2 : n / 128 < 128 ^ k := by
        rw [Nat.pow_succ] at h
        exact Nat.div_lt_of_lt_mul (by rw [Nat.mul_comm]; exact h)
      have := dig_len k (n / 128) h2 hk
      simp only [List.length_cons]
      omega

/-- a number brought into the bounds of what may be laid -/
def clamp (v : Int) : Nat := (min (max v 0) 4611686018427387904).toNat
theorem clamp_le (v : Int) : clamp v ≤ 4611686018427387904 := by unfold clamp; omega
theorem clamp_of_nat {n : Nat} (h : n ≤ 4611686018427387904) : clamp (n : Int) = n := by unfold clamp; omega
theorem dig_clamp_len (v : Int) : (dig (clamp v)).length ≤ 9 := dig_len 9 _ (by have := clamp_le v; have : (128 : Nat) ^ 9 = 9223372036854775808 := rfl; omega) (by omega)

/-- how many bytes the rest has: none, if nothing is left -/
def dlen (k : Nat) : Nat := if k = 0 then 0 else (dig k).length
theorem dig_len_eq (m : Nat) : (dig m).length = 1 + dlen (m / 128) := by
  by_cases h : m < 128
  · rw [dig_lt h, dlen, if_pos (by omega)]; rfl
  · rw [dig_ge h, dlen, if_neg (by omega), List.length_cons]; omega
theorem dlen_pos {k : Nat} (h : 0 < k) : dlen k = 1 + dlen (k / 128) := by rw [dlen, if_neg (by omega), dig_len_eq]
/-- the first byte tells whether the number is below 128 -/
theorem dig_first (m : Nat) (h : ¬ m < 128) : ∃ u r, dig m = u :: r ∧ 128 ≤ u.toNat ∧ r = dig (m / 128) := by
  refine ⟨_, _, dig_ge h, ?_, rfl⟩
  simp [Nat.toUInt8, UInt8.toNat_ofNat']; omega
/-- the last byte of several is not 0 -/
theorem dig_last : ∀ (n m : Nat), m ≤ n → 0 < m → ∃ p u, dig m = p ++ [u] ∧ 0 < u.toNat
  | 0, m, h, h0 => by omega
  | n + 1, m, h, h0 => by
    by_cases hm : m < 128
    · exact ⟨[], m.toUInt8, by rw [dig_lt hm]; rfl, by simp [Nat.toUInt8, UInt8.toNat_ofNat']; omega⟩
    · obtain ⟨p, u, e, hu⟩ := dig_last n (m / 128) (by omega) (by omega)
      exact ⟨_ :: p, u, by rw [dig_ge hm, e]; rfl, hu⟩

/-! ### the number at the beginning of bytes -/
def scan : Nat → Nat → List UInt8 → Option (Nat × Nat)
  | _, _, [] => none
  | i, n, c :: r =>
    if i = 9 then none
    else if 127 < c.toNat then scan (i + 1) (n + c.toNat % 128 * 128 ^ i) r
    else if 4611686018427387904 < n + c.toNat % 128 * 128 ^ i ∨ (0 < i ∧ c.toNat = 0) then none
    else some (n + c.toNat % 128 * 128 ^ i, i + 1)
def num? (bs : List UInt8) : Option (Nat × Nat) := scan 0 0 bs
def resN (r : Option (Nat × Nat)) : Nat := (r.getD (0, 0)).1
def resK (r : Option (Nat × Nat)) : Nat := (r.getD (0, 0)).2

/-- a number that was laid is met again -/
theorem scan_dig : ∀ (k n i a : Nat) (r : List UInt8), n ≤ k → (i = 0 ∨ 0 < n) → a + n * 128 ^ i ≤ 4611686018427387904 → scan i a (dig n ++ r) = some (a + n * 128 ^ i, i + (dig n).length)
  | k, n, i, a, r, hk, h0, hle => by
    have hi : i ≤ 8 := by
      rcases h0 with h0 | h0
      · omega
      · rcases Nat.lt_or_ge i 9 with h | h
        · omega
        · have h1 : 128 ^ 9 ≤ 128 ^ i := Nat.pow_le_pow_right (by omega) h
          have h2 : 1 * 128 ^ i ≤ n * 128 ^ i := Nat.mul_le_mul_right _ h0
          have h3 : (128 : Nat) ^ 9 = 9223372036854775808 := rfl
          omega
    by_cases hn : n < 128
    · have e : n.toUInt8.toNat = n := by simp [Nat.toUInt8, UInt8.toNat_ofNat']; omega
      rw [dig_lt hn]
      simp only [List.singleton_append, scan, e]
      rw [if_neg (by omega), if_neg (by omega), Nat.mod_eq_of_lt hn, if_neg (by omega)]
      simp
    · have e : (n % 128 + 128).toUInt8.toNat = n % 128 + 128 := by simp [Nat.toUInt8, UInt8.toNat_ofNat']; omega
      have e2 : (n % 128 + 128) % 128 = n % 128 := by omega
      have e3 : a + n % 128 * 128 ^ i + n / 128 * 128 ^ (i + 1) = a + n * 128 ^ i := by
        have h1 : n * 128 ^ i = (n % 128 + 128 * (n / 128)) * 128 ^ i := by rw [Nat.mod_add_div]
        rw [h1, Nat.add_mul, Nat.pow_succ, Nat.mul_comm 128 (n / 128), Nat.mul_assoc (n / 128), Nat.mul_comm 128]
        omega
      rw [dig_ge hn]
      simp only [List.cons_append, scan, e]
      rw [if_neg (by omega), if_pos (by omega), e2, scan_dig (n / 128) (n / 128) (i + 1) _ r (Nat.le_refl _) (.inr (by omega)) (by rw [e3]; exact hle), e3]
      simp only [List.length_cons]
      congr 2; omega
termination_by _ n => n
theorem num_dig (n : Nat) (r : List UInt8) (h : n ≤ 4611686018427387904) : num? (dig n ++ r) = some (n, (dig n).length) := by
  have := scan_dig n n 0 0 r (Nat.le_refl _) (.inl rfl) (by simpa using h)
  simpa [num?] using this

/-! ### the check sum, four digits at a time -/
def tab (i : Nat) : Nat := [0, 498536548, 997073096, 651767980, 1994146192, 1802195444, 1303535960, 1342533948, 3988292384, 4027552580, 3604390888, 3412177804, 2607071920, 2262029012, 2685067896, 3183342108].getD i 0
theorem tab_lt (i : Nat) : tab i < 4294967296 := by
  have h : ∀ j, j < 16 → tab j < 4294967296 := by decide
  by_cases hi : i < 16
  · exact h i hi
  · unfold tab; rw [List.getD_eq_getElem?_getD, List.getElem?_eq_none (by simp; omega)]; decide
def nib (s : Nat) : Nat := s / 16 ^^^ tab (s % 16)
theorem nib_lt {s : Nat} (h : s < 4294967296) : nib s < 4294967296 :=
  Nat.xor_lt_two_pow (n := 32) (by have : s / 16 < 2 ^ 32 := by omega
                                   exact this) (tab_lt _)
def crcB (s : Nat) (b : UInt8) : Nat := nib (nib (s ^^^ b.toNat))
theorem xorb_lt {s : Nat} (h : s < 4294967296) (b : UInt8) : s ^^^ b.toNat < 4294967296 :=
  Nat.xor_lt_two_pow (n := 32) h (by have := b.toNat_lt; have : (2 : Nat) ^ 32 = 4294967296 := rfl; omega)
theorem crcB_lt {s : Nat} (h : s < 4294967296) (b : UInt8) : crcB s b < 4294967296 := nib_lt (nib_lt (xorb_lt h b))
def crcL (s : Nat) (bs : List UInt8) : Nat := bs.foldl crcB s
theorem crcL_lt (bs : List UInt8) : ∀ {s : Nat}, s < 4294967296 → crcL s bs < 4294967296 := by
  induction bs with
  | nil => intro s h; exact h
  | cons b r ih => intro s h; exact ih (crcB_lt h b)
theorem crcL_append (s : Nat) (a b : List UInt8) : crcL s (a ++ b) = crcL (crcL s a) b := List.foldl_append
theorem crcL_snoc (s : Nat) (a : List UInt8) (b : UInt8) : crcL s (a ++ [b]) = crcB (crcL s a) b := by rw [crcL_append]; rfl
theorem crcL_take_succ (s : Nat) (xs : List UInt8) (k : Nat) (h : k < xs.length) : crcL s (xs.take (k + 1)) = crcB (crcL s (xs.take k)) xs[k] := by
  rw [List.take_succ_eq_append_getElem h, crcL_snoc]
/-- the check sum of bytes -/
def sumOf (bs : List UInt8) : Nat := 4294967295 - crcL 4294967295 bs
theorem sumOf_known : sumOf [49, 50, 51, 52, 53, 54, 55, 56, 57] = 3421780262 := by decide

end Go.Proofs.YtgknlegomoaoeaaDoor

/-
  Words for sets of bytes: rows that were made anew, sets as values, loads and stores of them, keys of bits. No statement of the seat is proved here.
-/
namespace Go.Proofs.YtgknlegomoaoeaaDoor
open Go Go.RowKit
set_option maxRecDepth 100000



/-- a result that lies in a cell -/
theorem results_cell {P : Program} {fn : Func} {t : Tmp} {ty : TypeId} (h : fn.results = #[.cell t ty]) (tmps : Array Value) (w : World) (g : Nat) (e : TypeId) (cs : Array Value) (n : Nat) (e' : TypeId)
    (ht : tmps.getD t undef = .pointer (some ⟨g, 0, none⟩)) (hb : Blk w g e cs) (hu : P.underlying ty = some (.array n e')) (hi : (P.info? ty).map (·.size) = some cs.size) : (results fn tmps).run P w = .ok (.agg cs) w := by
  have hl := run_loadVar_row (P := P) w g e ty cs (0, 0) _ hb hu rfl hi
  rw [Array.getD_eq_getD_getElem?] at ht
  simp [results, h, ht, asAddr, hl]

/-! ### a set as a value -/
def uv (x : Nat) : Value := .int .u64 (x : Int)
def cellsU (ws : List Nat) : Array Value := (ws.map uv).toArray
def setV (ws : List Nat) : Value := .agg (cellsU ws)
theorem cellsU_size {ws : List Nat} (h : SetOk ws) : (cellsU ws).size = 4 := by simp [cellsU, h.len]
theorem cellsU_at {ws : List Nat} (h : SetOk ws) {i : Nat} (hi : i < 4) : (cellsU ws)[i]? = some (.int .u64 (wordB ws i : Int)) := by
  unfold cellsU
  rw [List.getElem?_toArray, List.getElem?_map, h.at_ hi]
  rfl
theorem cellsU_set (ws : List Nat) (i x : Nat) : (cellsU ws).setIfInBounds i (.int .u64 (x : Int)) = cellsU (ws.set i x) := by
  unfold cellsU
  rw [List.setIfInBounds_toArray, List.map_set]
  rfl
theorem cellsU_one (ws : List Nat) : (cellsU ws).all (·.oneCell') = true := by
  unfold cellsU
  rw [List.all_toArray, List.all_eq_true]
  intro u hu
  obtain ⟨x, _, rfl⟩ := List.mem_map.1 hu
  rfl
theorem info_set : (Tryd.prog.info? 24).map (fun i => (i.zero, i.size, i.bytes)) = some (some (.agg #[.int .u64 0, .int .u64 0, .int .u64 0, .int .u64 0]), 4, 32) := by kernel_rfl
theorem size_set {ws : List Nat} (h : SetOk ws) : (Tryd.prog.info? 24).map (·.size) = some (cellsU ws).size := by
  rw [cellsU_size h]; kernel_rfl


theorem pow_cast (k : Nat) : ((2 : Int) ^ (k % 64)) = ((2 ^ (k % 64) : Nat) : Int) := by simp
theorem shl_bit (k : Nat) : IntKind.u64.wrap ((2 : Int) ^ (k % 64)) = ((2 ^ (k % 64) : Nat) : Int) := by
  have h := two_pow_lt k
  rw [pow_cast]
  generalize 2 ^ (k % 64) = m at h ⊢
  rw [IntKind.wrap_u64]
  omega



theorem rangeAt_set {w : World} {g : Nat} {t : TypeId} {ws : List Nat} (hB : Blk w g t (cellsU ws)) : w.rangeAt g 0 (ws.map uv) := fun j v hv => by
  rw [Nat.zero_add, hB.cell]
  unfold cellsU
  rw [List.getElem?_toArray]
  exact hv
theorem wpList_load_set {ops : Array Oper} {rest : List Oper} {op : Oper} {a : Act} {w : World} {Q : Exit → Act → World → Prop} (hgd : op.guard = none) (x : Operand) (ho : op.op = .load 24 x)
    (g : Nat) (hx : a.eval x = .pointer (some ⟨g, 0, none⟩)) {t : TypeId} {ws : List Nat} (hs : SetOk ws) (hB : Blk w g t (cellsU ws)) (h : wpList Tryd.prog ops Q rest (a.put op.dst (.agg (cellsU ws))) w) : wpList Tryd.prog ops Q (op :: rest) a w :=
  wpList_load_mid hgd 24 x ho g 0 hx (ws.map uv) _ (rangeAt_set hB) Tryd.underlying24 rfl (by rw [List.length_map, hs.len]; kernel_rfl) h
theorem wpList_store_set {ops : Array Oper} {rest : List Oper} {op : Oper} {a : Act} {w : World} {Q : Exit → Act → World → Prop} (hgd : op.guard = none) (x y : Operand) (ho : op.op = .store 24 x y)
    (g : Nat) (hx : a.eval x = .pointer (some ⟨g, 0, none⟩)) {t : TypeId} {ws us : List Nat} (hy : a.eval y = .agg (cellsU ws)) (hs : SetOk ws) (hu : SetOk us) (hB : Blk w g t (cellsU us))
    (h : ∀ w', Blk w' g t (cellsU ws) → (∀ k, k ≠ g → w'.heap[k]? = w.heap[k]?) → w'.heap.size = w.heap.size → (∀ B, B ≤ g → Below B w w') → wpList Tryd.prog ops Q rest (a.put op.dst undef) w') : wpList Tryd.prog ops Q (op :: rest) a w := by
  have hsz := cellsU_size hs
  have hsu := cellsU_size hu
  refine wpList_store_mid hgd 24 x y ho g 0 (cellsU ws) hx hy (hB.there 0 _ (by omega)) (size_set hs) (cellsU_one ws) (h _ ?_ ?_ ?_ ?_)
  · have := hB.whole (cellsU ws).toList (by simp [hsz, hsu])
    simpa using this
  · intro k hk
    have h1 := (Only.refl (fun k => k = g) w).setCells (.inl rfl) (cellsU ws).toList 0
    rcases Nat.lt_or_ge k w.heap.size with hl | hl
    · exact h1.block k hl hk
    · have e : (w.setCells g 0 (cellsU ws).toList).heap.size = w.heap.size := by
        have : ∀ (vs : List Value) (o : Nat) (w : World), (w.setCells g o vs).heap.size = w.heap.size := by
          intro vs
          induction vs with
          | nil => intro o w; rfl
          | cons v r ih => intro o w; exact (ih (o + 1) (w.setCell ⟨g, o, none⟩ v)).trans (by simp [World.setCell])
        exact this _ _ _
      rw [Array.getElem?_eq_none (by omega), Array.getElem?_eq_none (by omega)]
  · have : ∀ (vs : List Value) (o : Nat) (w : World), (w.setCells g o vs).heap.size = w.heap.size := by
      intro vs
      induction vs with
      | nil => intro o w; rfl
      | cons v r ih => intro o w; exact (ih (o + 1) (w.setCell ⟨g, o, none⟩ v)).trans (by simp [World.setCell])
    exact this _ _ _
  · intro B hB
    exact below_setCells hB _ _ (Below.refl _ _)

theorem four_words {ws : List Nat} (hs : SetOk ws) : ∃ a b c d, ws = [a, b, c, d] := by
  have hl := hs.len
  match ws, hl with
  | [a, b, c, d], _ => exact ⟨a, b, c, d, rfl⟩
theorem index_set {ws : List Nat} (hs : SetOk ws) {k : Nat} (hk : k < 4) : ∀ W, (Instr.index 24 (.agg (cellsU ws)) (.int .i64 (k : Int))).run Tryd.prog W = .ok (.int .u64 (wordB ws k : Int)) W := by
  intro W
  obtain ⟨a, b, c, d, rfl⟩ := four_words hs
  have h0 : (Instr.index 24 (.agg #[.int .u64 (a : Int), .int .u64 (b : Int), .int .u64 (c : Int), .int .u64 (d : Int)]) (.int .i64 0)).run Tryd.prog W = .ok (.int .u64 (a : Int)) W := by kernel_rfl
  have h1 : (Instr.index 24 (.agg #[.int .u64 (a : Int), .int .u64 (b : Int), .int .u64 (c : Int), .int .u64 (d : Int)]) (.int .i64 1)).run Tryd.prog W = .ok (.int .u64 (b : Int)) W := by kernel_rfl
  have h2 : (Instr.index 24 (.agg #[.int .u64 (a : Int), .int .u64 (b : Int), .int .u64 (c : Int), .int .u64 (d : Int)]) (.int .i64 2)).run Tryd.prog W = .ok (.int .u64 (c : Int)) W := by kernel_rfl
  have h3 : (Instr.index 24 (.agg #[.int .u64 (a : Int), .int .u64 (b : Int), .int .u64 (c : Int), .int .u64 (d : Int)]) (.int .i64 3)).run Tryd.prog W = .ok (.int .u64 (d : Int)) W := by kernel_rfl
  match k, hk with
  | 0, _ => exact h0
  | 1, _ => exact h1
  | 2, _ => exact h2
  | 3, _ => exact h3
theorem wpList_index_set {ops : Array Oper} {rest : List Oper} {op : Oper} {a : Act} {w : World} {Q : Exit → Act → World → Prop} (hgd : op.guard = none) (x i : Operand) (ho : op.op = .index 24 x i)
    {ws : List Nat} (hs : SetOk ws) {k : Nat} (hk : k < 4) (hx : a.eval x = .agg (cellsU ws)) (hi : a.eval i = .int .i64 (k : Int)) (h : wpList Tryd.prog ops Q rest (a.put op.dst (.int .u64 (wordB ws k : Int))) w) : wpList Tryd.prog ops Q (op :: rest) a w :=
  wpList_plain hgd fun K hK => by
    unfold Oper.wp execOp
    simp only [ho, hx, hi, index_set hs hk, Result.andThen_ok, Sem.run_bind, Sem.run_pure]
    exact hK _ _ h
theorem xor_notW (x : Nat) (hx : x < 18446744073709551616) : 18446744073709551615 ^^^ x = notW x := by
  apply Nat.eq_of_testBit_eq
  intro i
  have h := Nat.testBit_two_pow_sub_succ (n := 64) (x := x) hx i
  unfold notW
  rw [Nat.testBit_xor, show (18446744073709551615 : Nat) = 2 ^ 64 - 1 from rfl, Nat.testBit_two_pow_sub_one]
  rw [show (18446744073709551616 : Nat) - (x + 1) = 2 ^ 64 - (x + 1) from rfl, h]
  by_cases hi : i < 64
  · simp [hi]
  · have z : x.testBit i = false := Nat.testBit_lt_two_pow (Nat.lt_of_lt_of_le hx (Nat.pow_le_pow_right (by omega) (by omega) : 2 ^ 64 ≤ 2 ^ i))
    simp [hi, z]
theorem not_u64 (x : Nat) (hx : x < 18446744073709551616) : bits BinOp.xor IntKind.u64 (if IntKind.u64.signed = true then -1 else IntKind.u64.max) (x : Int) = (notW x : Int) := by
  have e : (if IntKind.u64.signed = true then -1 else IntKind.u64.max) = ((18446744073709551615 : Nat) : Int) := rfl
  rw [e, bits_xor_u64_nat _ x (by omega) hx, xor_notW x hx]
theorem zeros_set (w : World) : (zeroValue 24).run Tryd.prog w = .ok (.agg (cellsU zeroB)) w := by kernel_rfl


/-- a byte as a cell -/
def nb (n : Nat) : Value := .int .u8 (n : Int)
theorem nb_bytes (xs : List UInt8) : xs.map bv = (xs.map (·.toNat)).map nb := by rw [List.map_map]; rfl
theorem nb_one (l : List Nat) : ∀ u ∈ l.map nb, u.oneCell' = true := by
  intro u hu
  obtain ⟨x, _, rfl⟩ := List.mem_map.1 hu
  rfl
theorem or_key (x y : Nat) (hx : x < 18446744073709551616) (hy : y < 18446744073709551616) : bits BinOp.or IntKind.u64 (x : Int) (y : Int) = ((x ||| y : Nat) : Int) := bits_or_u64_nat x y hx hy


/-- the bytes from 'lo' on, 'k' of them -/
def fromN (lo k : Nat) : List Nat := List.range' lo k
theorem fromN_succ (lo k : Nat) : fromN lo (k + 1) = fromN lo k ++ [lo + k] := by unfold fromN; rw [List.range'_concat]; simp
theorem fromN_len (lo k : Nat) : (fromN lo k).length = k := by simp [fromN]


theorem info_u8 : (Tryd.prog.info? 5).map (fun i => (i.zero, i.size, i.bytes)) = some (some (.int .u8 0), 1, 1) := by kernel_rfl



theorem and_bit (x i : Nat) : x &&& 2 ^ i = if x.testBit i then 2 ^ i else 0 := by
  apply Nat.eq_of_testBit_eq
  intro j
  rw [Nat.testBit_and, Nat.testBit_two_pow]
  by_cases h : i = j
  · subst h
    by_cases hx : x.testBit i <;> simp [hx, Nat.testBit_two_pow]
  · by_cases hx : x.testBit i <;> simp [hx, h, Nat.testBit_two_pow]
theorem has_key (x k : Nat) (hx : x < 18446744073709551616) : bits BinOp.and IntKind.u64 (x : Int) ((2 ^ (k % 64) : Nat) : Int) = if x.testBit (k % 64) then ((2 ^ (k % 64) : Nat) : Int) else 0 := by
  rw [bits_and_u64_nat x _ hx (two_pow_lt k), and_bit]
  by_cases h : x.testBit (k % 64) <;> simp [h]
theorem ref_key (x k : Nat) (hx : x < 18446744073709551616) : bits BinOp.and IntKind.u64 ((x : Int) / 2 ^ (k % 64)) 1 = if x.testBit (k % 64) then 1 else 0 := by
  have e : (x : Int) / 2 ^ (k % 64) = ((x / 2 ^ (k % 64) : Nat) : Int) := by simp
  have h1 := bits_and_u64_nat (x / 2 ^ (k % 64)) 1 (Nat.lt_of_le_of_lt (Nat.div_le_self _ _) hx) (by omega)
  rw [e]
  refine h1.trans ?_
  rw [Nat.and_one_is_mod, ← Nat.shiftRight_eq_div_pow]
  have h2 : x.testBit (k % 64) = decide ((x >>> (k % 64)) % 2 = 1) := by
    rw [Nat.testBit_eq_decide_div_mod_eq, Nat.shiftRight_eq_div_pow]
  rw [h2]
  rcases Nat.mod_two_eq_zero_or_one (x >>> (k % 64)) with h | h <;> simp [h]


theorem listB_cnt (ws : List Nat) : cntB ws 4 = (listB ws).length := rfl
theorem cntB_zero (ws : List Nat) : cntB ws 0 = 0 := by simp [cntB, upB]
theorem cntB_le (ws : List Nat) (i : Nat) : cntB ws i ≤ 64 * i := upB_len _ _


/-- what a word gives to the list -/
def wordL (i x : Nat) : List Nat := (wb x).map (64 * i + ·)
theorem wordL_cons {i x : Nat} (h0 : x ≠ 0) (h : x < 18446744073709551616) : wordL i x = (64 * i + Lib.ctz 64 x) :: wordL i (x &&& (x - 1)) := by
  unfold wordL
  rw [(wb_cons h0 h).1, List.map_cons]
theorem wordL_zero (i : Nat) : wordL i 0 = [] := by unfold wordL; rw [wb_zero]; rfl




end Go.Proofs.YtgknlegomoaoeaaDoor

/-
  Counts of bits, as the library's text takes them. No statement of the seat is proved here.
-/
namespace Go.Proofs.YtgknlegomoaoeaaDoor
open Go Go.RowKit
set_option maxRecDepth 100000



theorem and_i64_127 (f : Nat) (hf : f < 18446744073709551616) : bits .and .i64 (IntKind.i64.wrap (f : Int)) 127 = ((f % 128 : Nat) : Int) := by
  show IntKind.i64.wrap ((BitVec.ofInt 64 (IntKind.i64.wrap (f : Int)) &&& BitVec.ofInt 64 127).toNat : Int) = _
  have h2 : (BitVec.ofInt 64 (IntKind.i64.wrap (f : Int))).toNat = f := by
    rw [BitVec.toNat_ofInt, IntKind.wrap_i64]; omega
  have h3 : (BitVec.ofInt 64 127).toNat = 127 := rfl
  rw [BitVec.toNat_and, h2, h3, show (127 : Nat) = 2 ^ 7 - 1 from rfl, Nat.and_two_pow_sub_one_eq_mod, IntKind.wrap_i64]
  omega
theorem u64_fit (x : Nat) (h : x < 18446744073709551616) : IntKind.u64.wrap (x : Int) = (x : Int) := by rw [IntKind.wrap_u64]; omega

set_option maxHeartbeats 1000000 in
theorem onescount_any (x : Nat) (hx : x < 18446744073709551616) (w : World) :
    Calls Tryd.prog 117 #[.int .u64 (x : Int)] w fun e w' => e = .returned (.int .i64 (Lib.onesCount x : Int)) ∧ w = w' := by
  obtain ⟨a, b, c, d, e, f, s1, t1, s2, t2, s3, s4, t4, s5, t5, s6, t6, s7, t7⟩ := pop_steps x hx
  have dv : ∀ (n m : Nat), ((n : Int) / (m : Int)) = ((n / m : Nat) : Int) := fun n m => by simp
  have bl : b < 18446744073709551616 := by omega
  have k1 : IntKind.u64.wrap (bits BinOp.and IntKind.u64 ((x : Int) / 2) 6148914691236517205 + bits BinOp.and IntKind.u64 (x : Int) 6148914691236517205) = (a : Int) := by
    have h1 := bits_and_u64_nat (x / 2) 6148914691236517205 (by omega) (by omega)
    have h2 : bits BinOp.and IntKind.u64 (x : Int) 6148914691236517205 = _ := bits_and_u64_nat x 6148914691236517205 (by omega) (by omega)
    rw [← dv x 2] at h1
    have h1' : bits BinOp.and IntKind.u64 ((x : Int) / 2) 6148914691236517205 = _ := h1
    rw [h1', h2, ← Int.natCast_add, s1, u64_fit a t1]
  have k2 : IntKind.u64.wrap (bits BinOp.and IntKind.u64 ((a : Int) / 4) 3689348814741910323 + bits BinOp.and IntKind.u64 (a : Int) 3689348814741910323) = (b : Int) := by
    have h1 := bits_and_u64_nat (a / 4) 3689348814741910323 (by omega) (by omega)
    have h2 : bits BinOp.and IntKind.u64 (a : Int) 3689348814741910323 = _ := bits_and_u64_nat a 3689348814741910323 (by omega) (by omega)
    rw [← dv a 4] at h1
    have h1' : bits BinOp.and IntKind.u64 ((a : Int) / 4) 3689348814741910323 = _ := h1
    rw [h1', h2, ← Int.natCast_add, s2, u64_fit b bl]
  have k3 : bits BinOp.and IntKind.u64 (IntKind.u64.wrap ((b : Int) / 16 + (b : Int))) 1085102592571150095 = (c : Int) := by
    have h0 := dv b 16
    have h1 := bits_and_u64_nat (b / 16 + b) 1085102592571150095 (by omega) (by omega)
    rw [s3] at h1
    rw [show ((b : Int) / 16) = ((b / 16 : Nat) : Int) from h0, ← Int.natCast_add, u64_fit _ t2]
    exact h1
  have k4 : IntKind.u64.wrap ((c : Int) + (c : Int) / 256) = (d : Int) := by
    rw [show ((c : Int) / 256) = ((c / 256 : Nat) : Int) from dv c 256, ← Int.natCast_add, s4, u64_fit d t4]
  have k5 : IntKind.u64.wrap ((d : Int) + (d : Int) / 65536) = (e : Int) := by
    rw [show ((d : Int) / 65536) = ((d / 65536 : Nat) : Int) from dv d 65536, ← Int.natCast_add, s5, u64_fit e t5]
  have k6 : IntKind.u64.wrap ((e : Int) + (e : Int) / 4294967296) = (f : Int) := by
    rw [show ((e : Int) / 4294967296) = ((e / 4294967296 : Nat) : Int) from dv e 4294967296, ← Int.natCast_add, s6, u64_fit f t6]
  have k7 : bits .and .i64 (wrap64 (f : Int)) 127 = ((f % 128 : Nat) : Int) := by rw [← and_i64_127 f t6]; unfold wrap64; rw [IntKind.wrap_i64]
  rw [s7] at k7
  clear s1 s2 s3 s4 s5 s6 s7 t1 t2 t4 t5 t6 t7 dv bl hx
  have K1 := Lib.hid k1
  have K2 := Lib.hid k2
  have K3 := Lib.hid k3
  have K4 := Lib.hid k4
  have K5 := Lib.hid k5
  have K6 := Lib.hid k6
  have K7 := Lib.hid k7
  clear k1 k2 k3 k4 k5 k6 k7
  go_enter Tryd.func117, Tryd.ntmps117
  go_wp2
  simp only [K1.out, K2.out, K3.out, K4.out, K5.out, K6.out, K7.out]
  go_ret
  exact ⟨rfl, rfl⟩

/-- The table of the library's TrailingZeros64, in its variable. -/
def Tab (w : World) : Prop := ∀ j, j < Lib.deBruijn64tab.length → w.cell? ⟨0, j, none⟩ = some (.int .u8 (Lib.deBruijn64tab.getD j 0))
theorem Tab.ext {w w' : World} (h : Tab w) (hb : Below w.heap.size w w') : Tab w' := fun j hj => by
  have hl := World.block_lt_of_cell? w _ (h j hj)
  exact (World.cell?_of_block (hb.block _ hl)).trans (h j hj)

theorem tz_key (x a : Nat) (hx : x < 18446744073709551616) (hx0 : x ≠ 0) (hlow : x &&& (18446744073709551616 - x) = a) :
    IntKind.u64.wrap (bits BinOp.and IntKind.u64 (x : Int) (IntKind.u64.wrap (-(x : Int))) * 285870213051353865) / 288230376151711744 = ((a * 285870213051353865 % 18446744073709551616 / 288230376151711744 : Nat) : Int) := by
  have e1 : IntKind.u64.wrap (-(x : Int)) = ((18446744073709551616 - x : Nat) : Int) := by rw [IntKind.wrap_u64]; omega
  rw [e1, bits_and_u64_nat x _ hx (by omega), hlow, IntKind.wrap_u64]
  omega

set_option maxHeartbeats 1000000 in
theorem tz_core (x k idx : Nat) (w : World) (hx0 : ((x : Int) == 0) = false)
    (key : IntKind.u64.wrap (bits BinOp.and IntKind.u64 (x : Int) (IntKind.u64.wrap (-(x : Int))) * 285870213051353865) / 288230376151711744 = (idx : Int))
    (hi : idx < 64) (hk : k < 64) (hcell : w.cell? ⟨0, idx, none⟩ = some (.int .u8 k)) :
    Calls Tryd.prog 90 #[.int .u64 (x : Int)] w fun e w' => e = .returned (.int .i64 (k : Int)) ∧ w = w' := by
  go_enter Tryd.func90, Tryd.ntmps90
  go_wp2_with (simp only [key])
  go_ret
  exact ⟨rfl, rfl⟩
theorem tz_any (x : Nat) (hx0 : x ≠ 0) (hx : x < 18446744073709551616) (w : World) (ht : Tab w) :
    Calls Tryd.prog 90 #[.int .u64 (x : Int)] w fun e w' => e = .returned (.int .i64 (Lib.ctz 64 x : Int)) ∧ w = w' := by
  obtain ⟨hlow, hk⟩ := Lib.lowest_bit 64 x hx0 hx
  obtain ⟨hi, htab⟩ := Lib.deBruijn64_at _ hk
  have hcell := ht _ hi
  rw [htab] at hcell
  exact tz_core x _ _ w (by simp; omega) (tz_key x _ hx hx0 hlow) hi hk hcell
end Go.Proofs.YtgknlegomoaoeaaDoor

/-
  Words for lists of sets. No statement of the seat is proved here.
-/
namespace Go.Proofs.YtgknlegomoaoeaaDoor
open Go Go.RowKit
set_option maxRecDepth 100000



def cellsS (l : List (List Nat)) : List Value := l.flatMap fun ws => ws.map uv
theorem cellsS_append (a b : List (List Nat)) : cellsS (a ++ b) = cellsS a ++ cellsS b := by unfold cellsS; rw [List.flatMap_append]
theorem cellsS_length {l : List (List Nat)} (h : ∀ x ∈ l, SetOk x) : (cellsS l).length = l.length * 4 := by
  induction l with
  | nil => rfl
  | cons x r ih =>
    have e : cellsS (x :: r) = x.map uv ++ cellsS r := rfl
    rw [e, List.length_append, ih (fun y hy => h y (by simp [hy])), List.length_map, (h x (by simp)).len, List.length_cons]
    omega
theorem cellsS_one (l : List (List Nat)) : ∀ u ∈ cellsS l, u.oneCell' = true := by
  intro u hu
  obtain ⟨x, _, hx⟩ := List.mem_flatMap.1 hu
  obtain ⟨y, _, rfl⟩ := List.mem_map.1 hx
  rfl
/-- a list of sets in memory -/
structure SetsR (w : World) (A : Option Addr) (l : List (List Nat)) : Prop where
  flat : l ≠ [] → Flat A
  rd : Rd w A (cellsS l)
  ok : ∀ x ∈ l, SetOk x
theorem SetsR.ext {w w' : World} {A : Option Addr} {l : List (List Nat)} (h : SetsR w A l) (hb : Below w.heap.size w w') : SetsR w' A l := ⟨h.flat, h.rd.ext hb, h.ok⟩
theorem cellsS_at {l : List (List Nat)} (h : ∀ x ∈ l, SetOk x) {k j : Nat} (hk : k < l.length) (hj : j < 4) : (cellsS l)[k * 4 + j]? = some (.int .u64 (wordB l[k] j : Int)) := by
  have hx := h l[k] (List.getElem_mem hk)
  have e : cellsS l = cellsS (l.take k) ++ (l[k].map uv ++ cellsS (l.drop (k + 1))) := by
    conv => lhs; rw [← List.take_append_drop k l, cellsS_append, List.drop_eq_getElem_cons hk]
    rfl
  have hl : (cellsS (l.take k)).length = k * 4 := by
    rw [cellsS_length (fun x hx => h x (List.mem_of_mem_take hx)), List.length_take]
    congr 1; omega
  rw [e, List.getElem?_append_right (by omega), hl, Nat.add_sub_cancel_left, List.getElem?_append_left (by rw [List.length_map, hx.len]; exact hj), List.getElem?_map, hx.at_ hj]
  rfl
theorem SetsR.cells {w : World} {A : Option Addr} {l : List (List Nat)} (h : SetsR w A l) {k : Nat} (hk : k < l.length) :
    ∃ g o, A = some ⟨g, o, none⟩ ∧ ∀ j, j < 4 → w.cell? ⟨g, o + k * 4 + j, none⟩ = some (.int .u64 (wordB l[k] j : Int)) := by
  have hx := h.ok l[k] (List.getElem_mem hk)
  obtain ⟨ad, e, _⟩ := h.rd _ _ (cellsS_at h.ok hk (j := 0) (by omega))
  obtain ⟨g, o, rfl⟩ := h.flat (by rintro rfl; simp at hk) ad e
  refine ⟨g, o, e, fun j hj => ?_⟩
  obtain ⟨ad', e', c⟩ := h.rd _ _ (cellsS_at h.ok hk hj)
  rw [e] at e'
  injection e' with e'
  subst e'
  rw [Addr.add_mid, ← Nat.add_assoc] at c
  exact c
theorem SetsR.range {w : World} {A : Option Addr} {l : List (List Nat)} (h : SetsR w A l) {k : Nat} (hk : k < l.length) : ∃ g o, A = some ⟨g, o, none⟩ ∧ w.rangeAt g (o + k * 4) (l[k].map uv) := by
  obtain ⟨g, o, e, hc⟩ := h.cells hk
  have hx := h.ok l[k] (List.getElem_mem hk)
  refine ⟨g, o, e, fun j v hv => ?_⟩
  have hj : j < 4 := by
    have := (List.getElem?_eq_some_iff.1 hv).1
    rwa [List.length_map, hx.len] at this
  rw [hc j hj]
  rw [List.getElem?_map, hx.at_ hj] at hv
  injection hv with hv
  rw [← hv]
  rfl
theorem size_four {ws : List Nat} (h : SetOk ws) : (Tryd.prog.info? 24).map (·.size) = some (ws.map uv).length := by
  rw [List.length_map, h.len]; kernel_rfl
theorem and_key (x y : Nat) (hx : x < 18446744073709551616) (hy : y < 18446744073709551616) : bits BinOp.and IntKind.u64 (x : Int) (y : Int) = ((x &&& y : Nat) : Int) := bits_and_u64_nat x y hx hy

end Go.Proofs.YtgknlegomoaoeaaDoor

/-
  Words for memory that holds expressions. No statement of the seat is proved here.
-/
namespace Go.Proofs.YtgknlegomoaoeaaDoor
open Go Go.RowKit
set_option maxRecDepth 100000


/-- the cells of an expression, whose kids' row is known -/
def reCells (k : Int) (s : List Nat) (A : Option Addr) (n c : Nat) (lo hi : Int) : List Value :=
  [.int .i64 k, .int .u64 (wordB s 0 : Int), .int .u64 (wordB s 1 : Int), .int .u64 (wordB s 2 : Int), .int .u64 (wordB s 3 : Int), .slice A n c, .int .i64 lo, .int .i64 hi]
theorem reCells_one (k : Int) (s : List Nat) (A : Option Addr) (n c : Nat) (lo hi : Int) : ∀ u ∈ reCells k s A n c lo hi, u.oneCell' = true := by
  intro u hu
  simp only [reCells, List.mem_cons, List.not_mem_nil, or_false] at hu
  rcases hu with rfl | rfl | rfl | rfl | rfl | rfl | rfl | rfl <;> rfl

mutual
/-- these cells are an expression; the rows of kids below it lie in blocks of 'S' -/
def ReR (S : Nat → Prop) (w : World) : Ex → List Value → Prop
  | .mk k s ks lo hi, cs => (isInt k ∧ SetOk s ∧ isInt lo ∧ isInt hi) ∧ ∃ A c, cs = reCells k s A ks.length c lo hi ∧ ks.length ≤ c ∧ c ≤ maxLen ∧ KidsR S w A 0 ks
def KidsR (S : Nat → Prop) (w : World) (A : Option Addr) : Nat → List Ex → Prop
  | _, [] => True
  | i, x :: xs => (∃ g o cs, A = some ⟨g, o, none⟩ ∧ S g ∧ (∀ (j : Nat) (u : Value), cs[j]? = some u → w.cell? ⟨g, o + i * 8 + j, none⟩ = some u) ∧ ReR S w x cs) ∧ KidsR S w A (i + 1) xs
end

theorem kidsR_iff {S : Nat → Prop} {w : World} {A : Option Addr} (l : List Ex) : ∀ i, KidsR S w A i l ↔ ∀ k (h : k < l.length), ∃ g o cs, A = some ⟨g, o, none⟩ ∧ S g ∧ (∀ (j : Nat) (u : Value), cs[j]? = some u → w.cell? ⟨g, o + (i + k) * 8 + j, none⟩ = some u) ∧ ReR S w l[k] cs := by
  induction l with
  | nil => intro i; simp [KidsR]
  | cons x r ih =>
    intro i
    simp only [KidsR, ih]
    constructor
    · rintro ⟨h1, h2⟩ k hk
      rcases k with _ | k
      · exact h1
      · obtain ⟨g, o, cs, e, hs, hc, hr⟩ := h2 k (by simpa using hk)
        exact ⟨g, o, cs, e, hs, by rw [show i + (k + 1) = i + 1 + k by omega]; exact hc, hr⟩
    · intro h
      refine ⟨h 0 (by simp), fun k hk => ?_⟩
      obtain ⟨g, o, cs, e, hs, hc, hr⟩ := h (k + 1) (by simpa using hk)
      exact ⟨g, o, cs, e, hs, by rw [show i + 1 + k = i + (k + 1) by omega]; exact hc, hr⟩

/-- the kids of an expression -/
def Kids (S : Nat → Prop) (w : World) (A : Option Addr) (l : List Ex) : Prop := ∀ k (h : k < l.length), ∃ g o cs, A = some ⟨g, o, none⟩ ∧ S g ∧ (∀ (j : Nat) (u : Value), cs[j]? = some u → w.cell? ⟨g, o + k * 8 + j, none⟩ = some u) ∧ ReR S w l[k] cs
theorem reR_iff {S : Nat → Prop} {w : World} {k : Int} {s : List Nat} {ks : List Ex} {lo hi : Int} {cs : List Value} :
    ReR S w (.mk k s ks lo hi) cs ↔ (isInt k ∧ SetOk s ∧ isInt lo ∧ isInt hi) ∧ ∃ A c, cs = reCells k s A ks.length c lo hi ∧ ks.length ≤ c ∧ c ≤ maxLen ∧ Kids S w A ks := by
  simp only [ReR, kidsR_iff, Nat.zero_add, Kids]

theorem ReR.keep {S T : Nat → Prop} {w w' : World} (hk : ∀ g, S g → g < w.heap.size → w'.heap[g]? = w.heap[g]?) (hs : ∀ g, S g → g < w.heap.size → T g) (t : Ex) : ∀ {cs : List Value}, ReR S w t cs → ReR T w' t cs := by
  refine ex_induct (p := fun t => ∀ {cs : List Value}, ReR S w t cs → ReR T w' t cs) (fun k s ks lo hi ih cs h => ?_) t
  rw [reR_iff] at h ⊢
  obtain ⟨h0, A, c, e, h1, h2, h3⟩ := h
  refine ⟨h0, A, c, e, h1, h2, fun i hi => ?_⟩
  obtain ⟨g, o, cs', e', hg, hc, hr⟩ := h3 i hi
  have hlt : g < w.heap.size := by
    cases hx : ks[i] with
    | mk k' s' ks' lo' hi' =>
      rw [hx, reR_iff] at hr
      obtain ⟨_, A', c', e2, _⟩ := hr
      exact World.block_lt_of_cell? w ⟨g, o + i * 8 + 0, none⟩ (hc 0 (.int .i64 k') (by rw [e2]; rfl))
  refine ⟨g, o, cs', e', hs g hg hlt, fun j u hu => ?_, ih _ (List.getElem_mem hi) hr⟩
  exact (World.cell?_of_block (a := ⟨g, o + i * 8 + j, none⟩) (hk g hg hlt)).trans (hc j u hu)
theorem ReR.only {S T : Nat → Prop} {w w' : World} {t : Ex} {cs : List Value} (h : ReR S w t cs) (ho : Only T w w') (hn : ∀ g, S g → ¬ T g) : ReR S w' t cs :=
  ReR.keep (fun g hg hl => ho.block g hl (hn g hg)) (fun _ h _ => h) t h
theorem ReR.ext {S : Nat → Prop} {w w' : World} {t : Ex} {cs : List Value} (h : ReR S w t cs) (hb : Below w.heap.size w w') : ReR S w' t cs :=
  ReR.keep (fun g _ hl => hb.block g hl) (fun _ h _ => h) t h
theorem ReR.mono {S T : Nat → Prop} {w : World} {t : Ex} {cs : List Value} (h : ReR S w t cs) (hs : ∀ g, S g → g < w.heap.size → T g) : ReR T w t cs :=
  ReR.keep (fun g _ hl => rfl) hs t h
theorem ReR.size {S : Nat → Prop} {w : World} {t : Ex} {cs : List Value} (h : ReR S w t cs) : cs.length = 8 := by
  cases t with
  | mk k s ks lo hi => rw [reR_iff] at h; obtain ⟨_, A, c, rfl, _⟩ := h; rfl
theorem ReR.one {S : Nat → Prop} {w : World} {t : Ex} {cs : List Value} (h : ReR S w t cs) : ∀ u ∈ cs, u.oneCell' = true := by
  cases t with
  | mk k s ks lo hi => rw [reR_iff] at h; obtain ⟨_, A, c, rfl, _⟩ := h; exact reCells_one _ _ _ _ _ _ _
theorem Kids.ext {S : Nat → Prop} {w w' : World} {A : Option Addr} {l : List Ex} (h : Kids S w A l) (hb : Below w.heap.size w w') : Kids S w' A l := fun k hk => by
  obtain ⟨g, o, cs, e, hs, hc, hr⟩ := h k hk
  exact ⟨g, o, cs, e, hs, fun j u hu => (World.cell?_of_block (a := ⟨g, o + k * 8 + j, none⟩) (hb.block g (World.block_lt_of_cell? w ⟨g, o + k * 8 + j, none⟩ (hc j u hu)))).trans (hc j u hu), hr.ext hb⟩
/-- a kid, its cells one by one -/
theorem Kids.kid {S : Nat → Prop} {w : World} {A : Option Addr} {l : List Ex} (h : Kids S w A l) {k : Nat} (hk : k < l.length) :
    ∃ g o u0 u1 u2 u3 u4 u5 u6 u7, A = some ⟨g, o, none⟩ ∧ ReR S w l[k] [u0, u1, u2, u3, u4, u5, u6, u7] ∧ w.cell? ⟨g, o + k * 8, none⟩ = some u0 ∧ w.cell? ⟨g, o + k * 8 + 1, none⟩ = some u1 ∧ w.cell? ⟨g, o + k * 8 + 2, none⟩ = some u2 ∧
      w.cell? ⟨g, o + k * 8 + 3, none⟩ = some u3 ∧ w.cell? ⟨g, o + k * 8 + 4, none⟩ = some u4 ∧ w.cell? ⟨g, o + k * 8 + 5, none⟩ = some u5 ∧ w.cell? ⟨g, o + k * 8 + 6, none⟩ = some u6 ∧ w.cell? ⟨g, o + k * 8 + 7, none⟩ = some u7 ∧ S g := by
  obtain ⟨g, o, cs, e, hs, hc, hr⟩ := h k hk
  have hl := hr.size
  match cs, hl with
  | [u0, u1, u2, u3, u4, u5, u6, u7], _ =>
    exact ⟨g, o, u0, u1, u2, u3, u4, u5, u6, u7, e, hr, hc 0 _ rfl, hc 1 _ rfl, hc 2 _ rfl, hc 3 _ rfl, hc 4 _ rfl, hc 5 _ rfl, hc 6 _ rfl, hc 7 _ rfl, hs⟩

/-- a kid, its fields told -/
theorem Kids.kidX {S : Nat → Prop} {w : World} {A : Option Addr} {l : List Ex} (h : Kids S w A l) {k : Nat} (hk : k < l.length) :
    ∃ g o k' q0 q1 q2 q3 ks' A' c' lo' hi', A = some ⟨g, o, none⟩ ∧ l[k] = .mk k' [q0, q1, q2, q3] ks' lo' hi' ∧
      ReR S w l[k] [.int .i64 k', .int .u64 (q0 : Int), .int .u64 (q1 : Int), .int .u64 (q2 : Int), .int .u64 (q3 : Int), .slice A' ks'.length c', .int .i64 lo', .int .i64 hi'] ∧
      w.cell? ⟨g, o + k * 8, none⟩ = some (.int .i64 k') ∧ w.cell? ⟨g, o + k * 8 + 1, none⟩ = some (.int .u64 (q0 : Int)) ∧ w.cell? ⟨g, o + k * 8 + 2, none⟩ = some (.int .u64 (q1 : Int)) ∧
      w.cell? ⟨g, o + k * 8 + 3, none⟩ = some (.int .u64 (q2 : Int)) ∧ w.cell? ⟨g, o + k * 8 + 4, none⟩ = some (.int .u64 (q3 : Int)) ∧ w.cell? ⟨g, o + k * 8 + 5, none⟩ = some (.slice A' ks'.length c') ∧
      w.cell? ⟨g, o + k * 8 + 6, none⟩ = some (.int .i64 lo') ∧ w.cell? ⟨g, o + k * 8 + 7, none⟩ = some (.int .i64 hi') ∧ S g := by
  obtain ⟨g, o, u0, u1, u2, u3, u4, u5, u6, u7, rfl, hr, x0, x1, x2, x3, x4, x5, x6, x7, hs⟩ := h.kid hk
  cases hx : l[k] with
  | mk k' s' ks' lo' hi' =>
    rw [hx] at hr
    have hr' := hr
    rw [reR_iff] at hr
    obtain ⟨⟨_, hset, _, _⟩, A', c', e, _⟩ := hr
    obtain ⟨q0, q1, q2, q3, rfl⟩ := four_words hset
    simp only [reCells, List.cons.injEq, and_true] at e
    obtain ⟨rfl, rfl, rfl, rfl, rfl, rfl, rfl, rfl⟩ := e
    exact ⟨g, o, k', q0, q1, q2, q3, ks', A', c', lo', hi', rfl, rfl, hr', x0, x1, x2, x3, x4, x5, x6, x7, hs⟩

theorem info_re : (Tryd.prog.info? 27).map (fun i => (i.zero, i.size, i.bytes)) = some (some (.agg #[.int .i64 0, .int .u64 0, .int .u64 0, .int .u64 0, .int .u64 0, .slice none 0 0, .int .i64 0, .int .i64 0]), 8, 80) := by kernel_rfl
theorem int_eq {k : IntKind} {a b : Int} (h : a = b) : Value.int k a = Value.int k b := by rw [h]
theorem ret_eq {k : IntKind} {a b : Int} (h : a = b) : Ending.returned (.int k a) = .returned (.int k b) := by rw [h]
theorem ret_bool {a b : Bool} (h : a = b) : Ending.returned (.bool a) = .returned (.bool b) := by rw [h]
theorem min_hi {a b : Nat} (h : b ≤ a) : ((min a b : Nat) : Int) = (b : Int) := by rw [Nat.min_eq_right h]
theorem min_lo {a b : Nat} (h : a ≤ b) : ((min a b : Nat) : Int) = (a : Int) := by rw [Nat.min_eq_left h]
/-- an expression as a value -/
def reV (cs : List Value) : Value := .agg cs.toArray
end Go.Proofs.YtgknlegomoaoeaaDoor

/-
  Places in memory: the program's layout; pieces as values. No statement of the seat is proved here.
-/
namespace Go.Proofs.YtgknlegomoaoeaaDoor
open Go Go.RowKit
set_option maxRecDepth 100000

def cellsG (sets : List (List Nat)) : List Value := sets.flatMap fun s => s.map uv
theorem cellsG_len {sets : List (List Nat)} (h : ∀ s ∈ sets, SetOk s) : (cellsG sets).length = sets.length * 4 := by
  induction sets with
  | nil => rfl
  | cons s r ih =>
    have h1 := (h s (by simp)).len
    have h2 := ih (fun x hx => h x (by simp [hx]))
    unfold cellsG at h2 ⊢
    rw [List.flatMap_cons, List.length_append, List.length_map, h1, h2, List.length_cons]; omega
theorem cellsG_snoc (sets : List (List Nat)) (s : List Nat) : cellsG (sets ++ [s]) = cellsG sets ++ s.map uv := by unfold cellsG; rw [List.flatMap_append]; simp
/-- rows in blocks of 'S' -/
structure LayR (S : Nat → Prop) (w : World) (n : Nat) (L : GLy) (A : Option Addr) (c : Nat) (D : Option Addr) (d : Nat) : Prop where
  sets : RowO w 24 4 A n c (cellsG L.sets)
  follow : RowO w 22 1 D n d (L.follow.map uv)
  ba : ∀ k, inA A k → S k
  bd : ∀ k, inA D k → S k
/-- a layout in block 'g', with all that it owns in 'S' -/
def LayS (S : Nat → Prop) (w : World) (g : Nat) (L : GLy) : Prop := ∃ A c D d, Blk w g 69 #[.slice A L.sets.length c, .slice D L.sets.length d] ∧ LayR S w L.sets.length L A c D d ∧ S g ∧ ∀ k, S k → k < w.heap.size
/-- 'S' and what was made since -/
def Gr (S : Nat → Prop) (w w' : World) : Nat → Prop := fun k => S k ∨ (w.heap.size ≤ k ∧ k < w'.heap.size)
section
variable {S T : Nat → Prop} {w w' : World} {g n : Nat} {L : GLy} {A D : Option Addr} {c d : Nat}
theorem LayR.tail (h : LayR S w n L A c D d) (ho : Only T w w') (hT : ∀ k, T k → ¬ S k) : LayR S w' n L A c D d :=
  ⟨h.sets.only ho fun k hk ht => hT k ht (h.ba k hk), h.follow.only ho fun k hk ht => hT k ht (h.bd k hk), h.ba, h.bd⟩
theorem LayS.lt (h : LayS S w g L) : g < w.heap.size := by obtain ⟨_, _, _, _, h1, _⟩ := h; exact h1.lt
theorem LayS.bound (h : LayS S w g L) : ∀ k, S k → k < w.heap.size := by obtain ⟨_, _, _, _, _, _, _, h1⟩ := h; exact h1
theorem LayS.own (h : LayS S w g L) : S g := by obtain ⟨_, _, _, _, _, _, h1, _⟩ := h; exact h1
theorem LayS.tail (h : LayS S w g L) (ho : Only T w w') (hT : ∀ k, T k → ¬ S k) : LayS S w' g L := by
  obtain ⟨A, c, D, d, h1, h2, h3, h4⟩ := h
  exact ⟨A, c, D, d, (ho.block _ h1.lt fun ht => hT g ht h3).trans h1, h2.tail ho hT, h3, fun k hk => Nat.lt_of_lt_of_le (h4 k hk) ho.size⟩
theorem LayS.ext (h : LayS S w g L) (hb : Below w.heap.size w w') : LayS S w' g L := h.tail (T := fun _ => False) (Only.of_ext hb) fun _ h => h.elim
theorem LayS.mono (h : LayS S w g L) (hs : ∀ k, S k → T k) (ht : ∀ k, T k → k < w.heap.size) : LayS T w g L := by
  obtain ⟨A, c, D, d, h1, h2, h3, _⟩ := h
  exact ⟨A, c, D, d, h1, ⟨h2.sets, h2.follow, fun k hk => hs k (h2.ba k hk), fun k hk => hs k (h2.bd k hk)⟩, hs g h3, ht⟩
theorem rows_apart {e e' : TypeId} {sz sz' m m' c c' : Nat} {A A' : Option Addr} {xs ys : List Value} (h1 : RowO w e sz A m c xs) (h2 : RowO w e' sz' A' m' c' ys) (hne : e ≠ e') : ∀ k, inA A k → ¬ inA A' k := by
  intro k hk hk'
  rcases h2.2 with ⟨rfl, _⟩ | ⟨g', off, cs, rfl, _, _, hb, _⟩
  · exact inA_none _ hk'
  · rw [inA_some] at hk'
    subst hk'
    exact h1.ne_blk hb hne hk
end
/-- the table of the library's TrailingZeros64, apart from 'S' -/
def TabB (S : Nat → Prop) (w : World) : Prop := Tab w ∧ ¬ S 0 ∧ 0 < w.heap.size
theorem Tab.only {S : Nat → Prop} {w w' : World} (h : Tab w) (ho : Only S w w') (hs : ¬ S 0) : Tab w' := fun j hj => cell_only (h j hj) ho hs
theorem TabB.only {S : Nat → Prop} {w w' : World} (h : TabB S w) (ho : Only S w w') : TabB S w' := ⟨h.1.only ho h.2.1, h.2.1, Nat.lt_of_lt_of_le h.2.2 ho.size⟩
theorem TabB.grow {S T : Nat → Prop} {w w' : World} (h : TabB S w) (ho : Only S w w') (hs : ∀ k, k < w.heap.size → T k → S k) : TabB T w' := ⟨h.1.only ho h.2.1, fun ht => h.2.1 (hs _ h.2.2 ht), Nat.lt_of_lt_of_le h.2.2 ho.size⟩
def pieceV (p : GPc) : Value := .agg #[.bool p.null, .int .u64 (p.first : Int), .int .u64 (p.last : Int)]
/-- what a function that lays answers -/
def GPost (S : Nat → Prop) (w : World) (g : Nat) (r : GPc × GLy) (e : Ending) (w' : World) : Prop := e = .returned (pieceV r.1) ∧ LayS (Gr S w w') w' g r.2 ∧ Only S w w'
theorem info_u64 : (Tryd.prog.info? 22).map (fun i => (i.zero, i.size, i.bytes)) = some (some (.int .u64 0), 1, 8) := by kernel_rfl
theorem size_piece {ds : Array Value} (h : ds.size = 3) : (Tryd.prog.info? 71).map (·.size) = some ds.size := by rw [h]; kernel_rfl
theorem results_piece {fn : Func} {t : Tmp} (h : fn.results = #[.cell t 71]) (tmps : Array Value) (w : World) (g : Nat) (e : TypeId) (cs : Array Value) (hc : cs.size = 3)
    (ht : tmps.getD t undef = .pointer (some ⟨g, 0, none⟩)) (hb : Blk w g e cs) : (results fn tmps).run Tryd.prog w = .ok (.agg cs) w := by
  have hl := run_loadVar_row (P := Tryd.prog) w g e 71 cs (0, 0) _ hb Tryd.underlying71 rfl (size_piece hc)
  rw [Array.getD_eq_getD_getElem?] at ht
  simp [results, h, ht, asAddr, hl]
theorem blk_at (w : World) (t : TypeId) (cs : Array Value) {g : Nat} (hg : g = w.heap.size) : Blk (w.alloc (.cells cs t)) g t cs := by subst hg; exact Blk.new w t cs
theorem below_drewN {B : Nat} {a w : World} (h : Below B a w) (n : Nat) : Below B a (w.drewN n) := ext_drewN h n

/-! ### a word, bit by bit -/
theorem wb_mem {x i : Nat} : i ∈ wb x ↔ i < 64 ∧ x.testBit i = true := by simp [wb]
theorem wb_nodup (x : Nat) : (wb x).Nodup := List.nodup_range.sublist List.filter_sublist
theorem low_gone {x : Nat} (h0 : x ≠ 0) (h : x < 18446744073709551616) (i : Nat) (hi : i < 64) : (x &&& (x - 1)).testBit i = (x.testBit i && decide (i ≠ Lib.ctz 64 x)) := by
  obtain ⟨h1, h2, h3⟩ := wb_cons h0 h
  have hn := wb_nodup x
  rw [h1, List.nodup_cons] at hn
  rw [Bool.eq_iff_iff]
  simp only [Bool.and_eq_true, decide_eq_true_eq]
  constructor
  · intro hb
    have hm : i ∈ wb (x &&& (x - 1)) := wb_mem.2 ⟨hi, hb⟩
    have hx : i ∈ wb x := by rw [h1]; exact List.mem_cons_of_mem _ hm
    exact ⟨(wb_mem.1 hx).2, fun e => hn.1 (e ▸ hm)⟩
  · rintro ⟨hb, hne⟩
    have hx : i ∈ wb x := wb_mem.2 ⟨hi, hb⟩
    rw [h1] at hx
    rcases List.mem_cons.1 hx with hx | hx
    · exact absurd hx hne
    · exact (wb_mem.1 hx).2
theorem low_has {x : Nat} (h0 : x ≠ 0) (h : x < 18446744073709551616) : x.testBit (Lib.ctz 64 x) = true := by
  obtain ⟨h1, h2, h3⟩ := wb_cons h0 h
  have : Lib.ctz 64 x ∈ wb x := by rw [h1]; simp
  exact (wb_mem.1 this).2
theorem low_lt {x n : Nat} (h0 : x ≠ 0) (h : x < 18446744073709551616) (hn : x < 2 ^ n) : Lib.ctz 64 x < n := by
  have h1 := low_has h0 h
  rcases Nat.lt_or_ge (Lib.ctz 64 x) n with h2 | h2
  · exact h2
  · exact absurd h1 (by rw [Nat.testBit_lt_two_pow (Nat.lt_of_lt_of_le hn (Nat.pow_le_pow_right (by omega) h2))]; decide)
theorem linkG_step {f : List Nat} {x b : Nat} (h0 : x ≠ 0) (h : x < 18446744073709551616) (hf : f.length ≤ 64) (hk : Lib.ctz 64 x < f.length) :
    linkG (f.set (Lib.ctz 64 x) (f[Lib.ctz 64 x] ||| b)) (x &&& (x - 1)) b = linkG f x b := by
  refine List.ext_getElem (by simp [linkG]) fun i h1 h2 => ?_
  have hi : i < f.length := by simpa [linkG] using h2
  have e := low_gone h0 h i (by omega)
  rw [linkG_at, linkG_at, e]
  simp only [List.getElem_set]
  by_cases hik : Lib.ctz 64 x = i
  · subst hik
    simp [low_has h0 h]
  · rw [if_neg hik]
    have : decide (i ≠ Lib.ctz 64 x) = true := decide_eq_true (fun h => hik h.symm)
    rw [this, Bool.and_true]
end Go.Proofs.YtgknlegomoaoeaaDoor

/-
  The contract of link. No statement of the seat is proved here.
-/
namespace Go.Proofs.YtgknlegomoaoeaaDoor
open Go Go.RowKit
set_option maxRecDepth 100000

theorem LayS.setf {S : Nat → Prop} {w : World} {g gd od n c d i x : Nat} {A : Option Addr} {L : GLy} (hB : Blk w g 69 #[.slice A n c, .slice (some ⟨gd, od, none⟩) n d]) (h : LayR S w L.sets.length L A c (some ⟨gd, od, none⟩) d) (hg : S g) (hb : ∀ k, S k → k < w.heap.size) (hn : n = L.sets.length) (hi : i < L.follow.length) :
    LayS S (w.setCell ⟨gd, od + i, none⟩ (.int .u64 (x : Int))) g ⟨L.sets, L.follow.set i x⟩ := by
  subst hn
  have hne : g ≠ gd := fun e => h.follow.ne_blk hB (by decide) (by rw [e]; exact (inA_some _ _ _ _).2 rfl)
  refine ⟨A, c, _, d, hB.far (p := ⟨gd, od + i, none⟩) hne _, ⟨?_, ?_, h.ba, h.bd⟩, hg, fun k hk => by simpa [World.setCell] using hb k hk⟩
  · refine h.sets.keep fun k hk => ?_
    have : ¬ inA (some ⟨gd, od, none⟩) k := rows_apart h.sets h.follow (by decide) k hk
    rw [inA_some] at this
    exact Below.heap_setCell w ⟨gd, od + i, none⟩ _ k (fun e => this e.symm)
  · have := h.follow.set i (by simpa using hi) (.int .u64 (x : Int))
    rw [List.map_set]
    exact this
set_option maxHeartbeats 4000000 in
theorem glink_any (S : Nat → Prop) (g : Nat) (L : GLy) (a b : Nat) (w : World) (ht : TabB S w) (hS : LayS S w g L) (hL : GOk L) (hn : L.sets.length ≤ 64) (ha : a < 2 ^ L.sets.length) (hb : b < 18446744073709551616) :
    Calls Tryd.prog 82 #[.pointer (some ⟨g, 0, none⟩), .int .u64 (a : Int), .int .u64 (b : Int)] w fun e w' => e = .returned (.tuple #[]) ∧ LayS S w' g ⟨L.sets, linkG L.follow a b⟩ ∧ Only S w w' := by
  obtain ⟨n, hnn⟩ : ∃ n, L.sets.length = n := ⟨_, rfl⟩
  have ha64 : a < 18446744073709551616 := Nat.lt_of_lt_of_le ha (pow_le64 hn)
  have hfl : L.follow.length = n := hL.len.trans hnn
  have hlt := hL.lt
  obtain ⟨Z, F, rfl⟩ : ∃ Z F, L = ⟨Z, F⟩ := ⟨L.sets, L.follow, rfl⟩
  dsimp only at hnn hfl hlt ha hn ⊢
  have Hnn := Lib.hid hnn
  have HT := Lib.hid ht
  have HS0 := Lib.hid hS
  have Ha := Lib.hid ha
  have Hfl := Lib.hid hfl
  have Hlt := Lib.hid hlt
  have hn64 : n ≤ 64 := by omega
  clear hnn ht hS ha hfl hlt hL hn
  go_enter Tryd.func82, Tryd.ntmps82
  go_wp2
  go_loopw [1] (fun v wr => ∃ (x : Nat) (G : List Nat), x < 18446744073709551616 ∧ v = .int .u64 (x : Int) ∧ Hid (x < 2 ^ n) ∧ Hid (G.length = n) ∧ Hid (∀ y ∈ G, y < 18446744073709551616) ∧ Hid (linkG G x b = linkG F a b) ∧ Hid (LayS S wr g ⟨Z, G⟩) ∧ Hid (Only S w wr)) (fun v _ => (intOf v).toNat)
  case atStart => exact ⟨a, F, ha64, rfl, Lib.hid (by rw [← Hnn.out]; exact Ha.out), Hfl, Hlt, Lib.hid rfl, HS0, Lib.hid (Only.refl _ _)⟩
  case round =>
    obtain ⟨x, G, hx, rfl, Hx, HG, Hy, HE, HS, Hb⟩ := hrel
    by_cases h0 : x = 0
    · subst h0
      have HR : Hid (LayS S wr g ⟨Z, linkG F a b⟩) := Lib.hid (by rw [← HE.out, linkG_zero]; exact HS.out)
      go_wp2
      go_end0
      exact ⟨rfl, HR.out, Hb.out⟩
    · obtain ⟨A, c, D, d, hB, hR, hg, hbd⟩ := HS.out
      have hk := low_lt h0 hx Hx.out
      have hst := linkG_step (f := G) (b := b) h0 hx (by rw [HG.out]; exact hn64) (by rw [HG.out]; exact hk)
      have hdec := (wb_cons h0 hx).2.2
      have htz := tz_any x h0 hx
      have hTw := (HT.out.only Hb.out).1
      obtain ⟨k, hke⟩ : ∃ k, Lib.ctz 64 x = k := ⟨_, rfl⟩
      have hkn : k < n := by rw [← hke]; exact hk
      have hkG : k < G.length := by rw [HG.out]; exact hkn
      simp only [hke] at hst
      obtain ⟨gd, od, rfl⟩ : ∃ gd od, D = some ⟨gd, od, none⟩ := hR.follow.addr (by have := Hnn.out; dsimp only; omega)
      have hset := fun y => LayS.setf (x := y) hB hR hg hbd rfl hkG
      have c1 : wr.cell? ⟨g, 1, none⟩ = some (.slice (some ⟨gd, od, none⟩) n d) := by rw [← Hnn.out]; exact hB.cell 1
      have c2 : wr.cell? ⟨gd, od + k, none⟩ = some (.int .u64 (G[k] : Int)) := by
        obtain ⟨ad, e, hc⟩ := hR.follow.rd k (.int .u64 (G[k] : Int)) (by rw [List.getElem?_map, List.getElem?_eq_getElem hkG]; rfl)
        injection e with e
        subst e
        rw [Addr.add_mid] at hc
        exact hc
      have f2 : wr.frozen? ⟨gd, od + k, none⟩ = false := hR.follow.free _
      have htz2 := fun (q : Nat) => htz (wr.drewN q) (hTw.ext (ext_drewN (Below.refl _ _) q))
      simp only [hke] at htz2
      have hyk := Hy.out G[k] (List.getElem_mem hkG)
      obtain ⟨y, hye⟩ : ∃ y, G[k] = y := ⟨_, rfl⟩
      rw [hye] at c2 hyk hst
      have hor := or_key y b hyk hb
      have hkd : (k : Int) < (n : Int) := by omega
      have hk0 : (0 : Int) ≤ (k : Int) := by omega
      have hxi : ((x : Int) == 0) = false := by simp; omega
      have hxj : ((x : Int) != 0) = true := by simp; omega
      have Hgd := Lib.hid (hR.bd gd ((inA_some _ _ _ _).2 rfl))
      have Hst := Lib.hid hst
      have Hset := Lib.hid hset
      have Hdec := Lib.hid hdec
      have Htz := Lib.hid htz2
      clear hst hset hdec htz htz2 hke hk hye hB hR hTw
      go_wp2
      go_still_tail 11, (by kernel_rfl)
      still_call ((Htz.out 1).mono fun e w2 h => ⟨h.1, h.2.symm⟩)
      repeat still_step
      refine wpStill_nil ?_
      go_wp2
      case roundEnd =>
        have hand : bits BinOp.and IntKind.u64 (x : Int) ((x : Int) - 1) = ((x &&& (x - 1) : Nat) : Int) := by
          have := bits_and_u64_nat x (x - 1) hx (by omega)
          rwa [show ((x - 1 : Nat) : Int) = (x : Int) - 1 by omega] at this
        have hd := Hdec.out
        rw [hand]
        refine ⟨⟨x &&& (x - 1), G.set k (y ||| b), by omega, rfl, Lib.hid (by have := Hx.out; omega), Lib.hid (by rw [List.length_set]; exact HG.out), Lib.hid ?_, Lib.hid (Hst.out.trans HE.out), Lib.hid ?_, Lib.hid ?_⟩, ?_⟩
        · intro z hz
          rcases List.mem_or_eq_of_mem_set hz with hz | rfl
          · exact Hy.out z hz
          · exact Nat.or_lt_two_pow (n := 64) hyk hb
        · exact (Hset.out (y ||| b)).ext (ext_drew (Below.refl _ _))
        · exact (Hb.out.setCell (p := ⟨gd, od + k, none⟩) (.inl Hgd.out) _).drew
        · simp [intOf]; omega
end Go.Proofs.YtgknlegomoaoeaaDoor

/-
  Rows of expressions that a call builds. No statement of the seat is proved here.
-/
namespace Go.Proofs.YtgknlegomoaoeaaDoor
open Go Go.RowKit
set_option maxRecDepth 100000


/-- a row of the call's own that holds these expressions; the rows below them lie in blocks of 'S', and not in the row's own -/
def RowE (S : Nat → Prop) (w : World) (A : Option Addr) (m c : Nat) (l : List Ex) : Prop :=
  ∃ xs, RowO w 27 8 A m c xs ∧ l.length = m ∧ ∀ k (h : k < l.length), ReR (fun g => S g ∧ ¬ inA A g) w l[k] ((xs.drop (k * 8)).take 8)
section
variable {S T : Nat → Prop} {w w' : World} {A A' : Option Addr} {m c c' : Nat} {l : List Ex}
theorem RowE.none_ (S : Nat → Prop) (w : World) : RowE S w none 0 0 [] := ⟨[], RowO.none_ _ _ _, rfl, fun k h => absurd h (by simp)⟩
theorem RowE.keep (h : RowE S w A m c l) (hk : ∀ g, g < w.heap.size → (inA A g ∨ S g) → w'.heap[g]? = w.heap[g]?) : RowE S w' A m c l := by
  obtain ⟨xs, h1, h2, h3⟩ := h
  exact ⟨xs, h1.keep fun k hk' => hk k (h1.lt hk') (.inl hk'), h2, fun k hk' => ReR.keep (fun g hg hl => hk g hl (.inr hg.1)) (fun _ h _ => h) _ (h3 k hk')⟩
theorem RowE.ext (h : RowE S w A m c l) (hb : Below w.heap.size w w') : RowE S w' A m c l := h.keep fun g hl _ => hb.block g hl
theorem RowE.only (h : RowE S w A m c l) (ho : Only T w w') (h1 : ∀ g, T g → ¬ inA A g) (h2 : ∀ g, T g → ¬ S g) : RowE S w' A m c l :=
  h.keep fun g hl hg => ho.block g hl fun ht => hg.elim (h1 g ht) (h2 g ht)
theorem RowE.len (h : RowE S w A m c l) : l.length = m := h.choose_spec.2.1
theorem RowE.le (h : RowE S w A m c l) : m ≤ c := h.choose_spec.1.le
theorem RowE.cap (h : RowE S w A m c l) : c ≤ maxLen := by
  obtain ⟨xs, h1, _⟩ := h
  rcases h1.2 with ⟨_, _, h2⟩ | ⟨_, _, _, _, _, h2, _⟩
  · rw [h2]; exact Nat.zero_le _
  · exact h2
theorem RowE.lt (h : RowE S w A m c l) {k : Nat} (hk : inA A k) : k < w.heap.size := h.choose_spec.1.lt hk
/-- what memory holds, as kids -/
theorem RowE.kids (h : RowE S w A m c l) (hs : ∀ g, S g ∨ inA A g → g < w.heap.size → T g) : Kids T w A l := by
  obtain ⟨xs, h1, h2, h3⟩ := h
  intro k hk
  have h4 := h3 k hk
  have h8 := h4.size
  rcases h1.2 with ⟨rfl, rfl, rfl⟩ | ⟨g, off, cs, rfl, a1, a2, a3, a4, a5⟩
  · omega
  · refine ⟨g, off, (xs.drop (k * 8)).take 8, rfl, hs g (.inr ((inA_some _ _ _ _).2 rfl)) a3.lt, fun j u hu => ?_, h4.mono fun g hg hl => hs g (.inl hg.1) hl⟩
    have hj : j < 8 := by have := (List.getElem?_eq_some_iff.1 hu).1; omega
    rw [List.getElem?_take, if_pos hj, List.getElem?_drop] at hu
    rw [a3.cell, Nat.add_assoc]
    exact a5 _ u hu
/-- one more -/
theorem RowE.grow {w1 : World} {x : Ex} {cs xs : List Value} (hx : ReR (fun g => S g ∧ ¬ inA A g) w x cs) (hxs : RowO w 27 8 A m c xs) (hl : l.length = m) (hp : ∀ k (h : k < l.length), ReR (fun g => S g ∧ ¬ inA A g) w l[k] ((xs.drop (k * 8)).take 8))
    (hr : RowO w1 27 8 A' (m + 1) c' (xs ++ cs)) (ho : Only (inA A) w w1) (hA : ∀ k, inA A' k → inA A k ∨ (w.heap.size ≤ k ∧ k < w1.heap.size)) : RowE S w1 A' (m + 1) c' (l ++ [x]) := by
  have hxl : xs.length = m * 8 := hxs.1
  have hcl := hx.size
  have key : ∀ {t : Ex} {ds : List Value}, ReR (fun g => S g ∧ ¬ inA A g) w t ds → ReR (fun g => S g ∧ ¬ inA A' g) w1 t ds := fun {t ds} ht =>
    ReR.keep (fun g hg hl' => ho.block g hl' hg.2) (fun g hg hl' => ⟨hg.1, fun hin => (hA g hin).elim hg.2 (fun h => by omega)⟩) _ ht
  refine ⟨xs ++ cs, hr, by simp [hl], fun k hk => ?_⟩
  rw [List.length_append, List.length_singleton] at hk
  by_cases hkl : k < l.length
  · have e : ((xs ++ cs).drop (k * 8)).take 8 = (xs.drop (k * 8)).take 8 := by
      rw [List.drop_append_of_le_length (by omega), List.take_append_of_le_length (by rw [List.length_drop]; omega)]
    rw [e, List.getElem_append_left hkl]
    exact key (hp k hkl)
  · obtain rfl : k = l.length := by omega
    have e : ((xs ++ cs).drop (l.length * 8)).take 8 = cs := by
      rw [show l.length * 8 = xs.length by omega, List.drop_left, List.take_of_length_le (by omega)]
    rw [e, List.getElem_append_right (Nat.le_refl _)]
    simp only [Nat.sub_self, List.getElem_cons_zero]
    exact key hx
/-- a new row of one -/
theorem RowE.one (w : World) {x : Ex} {cs : List Value} (hx : ReR S w x cs) : RowE S (w.alloc (Obj.cells cs.toArray 27)) (some ⟨w.heap.size, 0, none⟩) 1 1 [x] := by
  have h8 := hx.size
  refine ⟨cs, RowO.lit w 27 8 1 cs.toArray (by simp [h8]) (by simp [maxLen]) rfl, rfl, fun k hk => ?_⟩
  have hk0 : k = 0 := by simp at hk; omega
  subst hk0
  rw [Nat.zero_mul, List.drop_zero, List.take_of_length_le (by omega)]
  exact ReR.keep (fun g _ hl => Below.heap_alloc w _ g hl) (fun g hg hl => ⟨hg, fun hin => by rw [inA_some] at hin; omega⟩) _ hx
end

/-! ### A variable that is an expression -/
theorem size_re {cs : Array Value} (h : cs.size = 8) : (Tryd.prog.info? 27).map (·.size) = some cs.size := by
  have hi := info_re
  rw [h]
  cases hx : Tryd.prog.info? 27 with
  | none => rw [hx] at hi; cases hi
  | some i =>
    rw [hx] at hi
    simp only [Option.map_some, Option.some.injEq, Prod.mk.injEq] at hi
    simp [hi.2.1]
theorem wpList_store_re {ops : Array Oper} {rest : List Oper} {op : Oper} {a : Act} {w : World} {Q : Exit → Act → World → Prop} (hgd : op.guard = none) (x y : Operand) (ho : op.op = .store 27 x y)
    (g : Nat) (hx : a.eval x = .pointer (some ⟨g, 0, none⟩)) {t : TypeId} {cs ds : Array Value} (hy : a.eval y = .agg ds) (hd : ds.size = 8) (hc : cs.size = 8) (h1 : ds.all (·.oneCell') = true) (hB : Blk w g t cs)
    (h : ∀ w', Blk w' g t ds → Only (fun k => k = g) w w' → wpList Tryd.prog ops Q rest (a.put op.dst undef) w') : wpList Tryd.prog ops Q (op :: rest) a w := by
  refine wpList_store_mid hgd 27 x y ho g 0 ds hx hy (hB.there 0 _ (by omega)) (size_re hd) h1 (h _ ?_ ?_)
  · have := hB.whole ds.toList (by simp [hc, hd])
    simpa using this
  · exact (Only.refl (fun k => k = g) w).setCells (.inl rfl) ds.toList 0
/-- a result that lies in a cell -/
theorem results_re {fn : Func} {t : Tmp} (h : fn.results = #[.cell t 27]) (tmps : Array Value) (w : World) (g : Nat) (e : TypeId) (cs : Array Value)
    (ht : tmps.getD t undef = .pointer (some ⟨g, 0, none⟩)) (hb : Blk w g e cs) (hc : cs.size = 8) : (results fn tmps).run Tryd.prog w = .ok (.agg cs) w := by
  have hl := run_loadVar_row (P := Tryd.prog) w g e 27 cs (0, 0) _ hb Tryd.underlying27 rfl (size_re hc)
  rw [Array.getD_eq_getD_getElem?] at ht
  simp [results, h, ht, asAddr, hl]
end Go.Proofs.YtgknlegomoaoeaaDoor

/-
  The contract of join. No statement of the seat is proved here.
-/
namespace Go.Proofs.YtgknlegomoaoeaaDoor
open Go Go.RowKit
set_option maxRecDepth 100000

def pcs (p : GPc) : Array Value := #[.bool p.null, .int .u64 (p.first : Int), .int .u64 (p.last : Int)]
theorem wpList_store_piece {ops : Array Oper} {rest : List Oper} {op : Oper} {a : Act} {w : World} {Q : Exit → Act → World → Prop} (hgd : op.guard = none) (x y : Operand) (ho : op.op = .store 71 x y)
    (g : Nat) (hx : a.eval x = .pointer (some ⟨g, 0, none⟩)) {t : TypeId} {cs : Array Value} {u v z : Value} (hy : a.eval y = .agg #[u, v, z]) (h1 : #[u, v, z].all (·.oneCell') = true) (hB : Blk w g t cs) (hc : cs.size = 3)
    (h : ∀ w', Blk w' g t #[u, v, z] → Only (fun k => k = g) w w' → wpList Tryd.prog ops Q rest (a.put op.dst undef) w') : wpList Tryd.prog ops Q (op :: rest) a w := by
  refine wpList_store_mid hgd 71 x y ho g 0 #[u, v, z] hx hy (hB.there 0 _ (by rw [hc]; show 0 + 3 ≤ 3; omega)) (size_piece rfl) h1 (h _ ?_ ?_)
  · have := hB.whole [u, v, z] (by simp [hc])
    simpa using this
  · exact (Only.refl (fun k => k = g) w).setCells (.inl rfl) [u, v, z] 0
set_option maxHeartbeats 4000000 in
theorem gjoin_any (S : Nat → Prop) (g : Nat) (L : GLy) (a b : GPc) (w : World) (ht : TabB S w) (hS : LayS S w g L) (hL : GOk L) (hn : L.sets.length ≤ 64) (ha : a.last < 2 ^ L.sets.length) (hb : b.first < 2 ^ L.sets.length) (ha' : a.first < 18446744073709551616) (hb' : b.last < 18446744073709551616) :
    Calls Tryd.prog 79 #[.pointer (some ⟨g, 0, none⟩), pieceV a, pieceV b] w fun e w' => e = .returned (pieceV (joinG a b)) ∧ LayS S w' g ⟨L.sets, linkG L.follow a.last b.first⟩ ∧ Only S w w' := by
  obtain ⟨an, af, al⟩ := a
  obtain ⟨bn, bf, bl⟩ := b
  dsimp only at ha hb ha' hb'
  have h64 := pow_le64 hn
  have ha2 : al < 18446744073709551616 := by omega
  have hb2 : bf < 18446744073709551616 := by omega
  have hk1 := or_key af bf ha' hb2
  have hk2 := or_key bl al hb' ha2
  have HT := Lib.hid ht
  have HS := Lib.hid hS
  have hbd := Lib.hid hS.bound
  have HL := Lib.hid hL
  have Ha := Lib.hid ha
  clear ht hS hL ha hb
  unfold pieceV
  dsimp only
  go_enter Tryd.func79, Tryd.ntmps79
  go_wp2_with fail
  have e3 : Below w.heap.size w (((w.alloc (.cells #[.bool an, .int .u64 af, .int .u64 al] 71)).alloc (.cells #[.bool bn, .int .u64 bf, .int .u64 bl] 71)).alloc (.cells #[.bool false, .int .u64 0, .int .u64 0] 71)) := ext_alloc (ext_alloc (ext_alloc (Below.refl _ _) _) _) _
  refine (glink_any S g L al bf _ (HT.out.only (Only.of_ext e3)) (HS.out.ext e3) HL.out hn Ha.out hb2).mono ?_
  rintro e w2 ⟨rfl, hS2, ho2⟩
  have hnS : ∀ k, w.heap.size ≤ k → ¬ S k := fun k hk hs => by have := hbd.out k hs; omega
  have B0 := Blk.only ((((blk_at w 71 #[.bool an, .int .u64 af, .int .u64 al] rfl).alloc _).alloc _)) ho2 (hnS _ (Nat.le_refl _))
  have B1 := Blk.only ((blk_at (w.alloc (.cells #[.bool an, .int .u64 af, .int .u64 al] 71)) 71 #[.bool bn, .int .u64 bf, .int .u64 bl] (g := w.heap.size + 1) (by simp)).alloc _) ho2 (hnS _ (by omega))
  have B2 := Blk.only (blk_at ((w.alloc (.cells #[.bool an, .int .u64 af, .int .u64 al] 71)).alloc (.cells #[.bool bn, .int .u64 bf, .int .u64 bl] 71)) 71 #[.bool false, .int .u64 0, .int .u64 0] (g := w.heap.size + 1 + 1) (by simp)) ho2 (hnS _ (by omega))
  have hsz : w.heap.size + 1 + 1 < w2.heap.size := B2.lt
  have mk : ∀ {k : Nat} {cs : Array Value} {t : TypeId}, Blk w2 k t cs → k < w2.heap.size → ∀ i v, cs[i]? = some v → w2.cell? ⟨k, i, none⟩ = some v ∧ (∀ o, (w2.alloc o).cell? ⟨k, i, none⟩ = some v) ∧ (∀ o j x, ((w2.alloc o).setCell ⟨w2.heap.size, j, none⟩ x).cell? ⟨k, i, none⟩ = some v) := fun {k cs t} hb hk i v hv => by
    refine ⟨(hb.cell i).trans hv, fun o => ((hb.alloc o).cell i).trans hv, fun o j x => (((hb.alloc o).far (p := ⟨w2.heap.size, j, none⟩) (by show k ≠ w2.heap.size; omega) x).cell i).trans hv⟩
  obtain ⟨c00, d00, e00⟩ := mk B0 (by omega) 0 _ rfl
  obtain ⟨c01, d01, e01⟩ := mk B0 (by omega) 1 _ rfl
  obtain ⟨c02, d02, e02⟩ := mk B0 (by omega) 2 _ rfl
  obtain ⟨c10, d10, e10⟩ := mk B1 (by omega) 0 _ rfl
  obtain ⟨c11, d11, e11⟩ := mk B1 (by omega) 1 _ rfl
  obtain ⟨c12, d12, e12⟩ := mk B1 (by omega) 2 _ rfl
  have HB2 := Lib.hid B2
  have HS2 := Lib.hid hS2
  have Ho := Lib.hid (Only.trans (Only.of_ext (S := S) e3) ho2 fun k _ h => h)
  clear B0 B1 B2 hS2 ho2 e3 mk
  have fin : ∀ w5 w4, Only (fun k => w.heap.size ≤ k) w2 w5 → Only (fun k => k = w.heap.size + 1 + 1) w5 w4 → LayS S w4 g ⟨L.sets, linkG L.follow al bf⟩ ∧ Only S w w4 := fun w5 w4 h5 h4 => by
    have o : Only (fun k => w.heap.size ≤ k) w2 w4 := h5.trans h4 fun i _ h => by omega
    exact ⟨HS2.out.tail o fun k hk => hnS k hk, Ho.out.trans o fun k hk hge => by omega⟩
  have Fin := Lib.hid fin
  clear fin HT HS hbd HL Ha
  cases an <;> cases bn
  all_goals
    go_wp2_with (first | fail | (refine wpList_store_piece rfl (.tmp 6) (.tmp 41) rfl (w.heap.size + 1 + 1) rfl rfl (by simp [Value.oneCell']) (t := 71) (cs := #[.bool false, .int .u64 0, .int .u64 0]) (by repeat (first | exact HB2.out | refine Blk.far ?_ (by show w.heap.size + 1 + 1 ≠ w2.heap.size; omega) _ | refine Blk.alloc ?_ _)) rfl ?_; intro w4 hB4 ho4))
    try simp only [hk1, hk2] at hB4
    refine bodyPost_ret (v := .agg #[_, _, _]) (results_piece rfl _ _ (w.heap.size + 1 + 1) _ #[_, _, _] rfl rfl hB4) rfl ⟨?_, Fin.out _ _ ?_ ho4⟩
    · simp [joinG]
    · repeat (first | exact Only.refl _ _ | refine Only.setCell ?_ (.inr (Nat.le_refl _)) _ | refine Only.alloc ?_ _)
end Go.Proofs.YtgknlegomoaoeaaDoor

/-
  The mathematics of texts that are parsed as expressions. No statement of the seat is proved here.
-/
namespace Go.Proofs.YtgknlegomoaoeaaDoor
open Go
set_option maxRecDepth 100000


/-- what is taken from the front, and what is left; or how many bytes were left where an error was met -/
inductive PR (α : Type) where
  | ok (v : α) (rest : List Nat)
  | bad (left : Nat)
def PR.bind {α β : Type} (p : PR α) (f : α → List Nat → PR β) : PR β :=
  match p with
  | .ok v r => f v r
  | .bad n => .bad n

def signsL : List Nat := [46, 124, 42, 43, 63, 40, 41, 91, 93, 123, 125, 92, 94, 45]
def inS (c : Nat) : Bool := signsL.contains c
def halfD (c : Nat) : Option Nat := if 48 ≤ c ∧ c ≤ 57 then some (c - 48) else if 97 ≤ c ∧ c ≤ 102 then some (c - 87) else none

/-- two digits of sixteen -/
def hexP (l : List Nat) : PR Nat :=
  match l with
  | [] => .bad 0
  | a :: l1 => match halfD a with
    | none => .bad (l1.length + 1)
    | some x => match l1 with
      | [] => .bad 0
      | b :: l2 => match halfD b with
        | none => .bad (l2.length + 1)
        | some y => .ok (16 * x + y) l2
/-- what stands behind a stroke -/
def strokeP (l : List Nat) : PR Nat :=
  match l with
  | [] => .bad 0
  | c :: l => if c = 110 then .ok 10 l else if c = 116 then .ok 9 l else if c = 114 then .ok 13 l else if c = 120 then hexP l
    else if inS c then .ok c l else .bad (l.length + 1)
/-- a byte -/
def byteP (l : List Nat) : PR Nat :=
  match l with
  | [] => .bad 0
  | c :: l => if c = 92 then strokeP l else if inS c then .bad (l.length + 1) else .ok c l

/-- a byte, or a byte, a sign, and a byte not below it -/
def rangeP (l : List Nat) : PR (Nat × Nat) :=
  (byteP l).bind fun low l1 => match l1 with
    | 45 :: l2 => (byteP l2).bind fun high l3 => if high < low then .bad l2.length else .ok (low, high) l3
    | _ => .ok (low, low) l1
/-- what stands in brackets -/
def rangesP : Nat → Bool → List Nat → List Nat → PR (List Nat)
  | 0, _, _, _ => .bad 0
  | f + 1, first, s, l => if first = false ∧ l.head? = some 93 then .ok s l else
      (rangeP l).bind fun p l1 => rangesP f false (joinB [s, ofB (rangeB p.1 p.2)]) l1
def classP (l : List Nat) : PR Ex :=
  let turned := l.head? = some 94
  (rangesP ((if turned then l.tail else l).length + 1) true zeroB (if turned then l.tail else l)).bind fun s l1 =>
    let s' := if turned then notB s else s
    if s' = zeroB then .bad l1.length else .ok (classE s') l1.tail

/-- one or two digits -/
def digB (c : Nat) : Bool := decide (48 ≤ c) && decide (c ≤ 57)
def digitsP (l : List Nat) : PR Int :=
  match l with
  | [] => .bad 0
  | a :: l1 => if digB a then (match l1 with
      | [] => .ok ((a : Int) - 48) l1
      | b :: l2 => if digB b then .ok (10 * ((a : Int) - 48) + ((b : Int) - 48)) l2 else .ok ((a : Int) - 48) l1)
    else .bad (l1.length + 1)
def curlyEnd (lo hi : Int) (l : List Nat) : PR (Int × Int) :=
  match l with
  | 125 :: l1 => if repB lo hi then .ok (lo, hi) l1 else .bad (l1.length + 1)
  | _ => .bad l.length
def curlyP (l : List Nat) : PR (Int × Int) :=
  (digitsP l).bind fun lo l1 => match l1 with
    | 44 :: l2 => if l2.head? = some 125 then curlyEnd lo (-1) l2 else (digitsP l2).bind fun hi l3 => curlyEnd lo hi l3
    | _ => curlyEnd lo lo l1
def signP (l : List Nat) : Bool := match l with | c :: _ => c = 42 || c = 43 || c = 63 || c = 123 | [] => false
def againP (x : Ex) (lo hi : Int) (l : List Nat) : PR Ex := if signP l then .bad l.length else .ok (.mk 4 zeroB [x] lo hi) l
/-- the sign behind an atom, if there is one -/
def timesP (x : Ex) (l : List Nat) : PR Ex :=
  match l with
  | 42 :: l1 => againP x 0 (-1) l1
  | 43 :: l1 => againP x 1 (-1) l1
  | 63 :: l1 => againP x 0 1 l1
  | 123 :: l1 => (curlyP l1).bind fun p l2 => againP x p.1 p.2 l2
  | _ => .ok x l

def dotE : Ex := classE (notB zeroB)
mutual
/-- an atom -/
def atomP : Nat → List Nat → PR Ex
  | 0, _ => .bad 0
  | f + 1, l => match l with
    | 46 :: l1 => .ok dotE l1
    | 40 :: l1 => (altsP f l1).bind fun x l2 => match l2 with
      | 41 :: l3 => .ok x l3
      | _ => .bad l2.length
    | 91 :: l1 => classP l1
    | _ => (byteP l).bind fun b l1 => .ok (byteE b) l1
/-- a row of atoms, behind some -/
def rowP : Nat → List Ex → List Nat → PR Ex
  | 0, _, _ => .bad 0
  | f + 1, acc, l => if l = [] ∨ l.head? = some 124 ∨ l.head? = some 41 then .ok (seqE acc) l else
      (atomP f l).bind fun x l1 => (timesP x l1).bind fun y l2 => rowP f (acc ++ [y]) l2
/-- alternatives -/
def altsP : Nat → List Nat → PR Ex
  | 0, _ => .bad 0
  | f + 1, l => (rowP f [] l).bind fun x l1 => moreP f [x] l1
def moreP : Nat → List Ex → List Nat → PR Ex
  | 0, _, _ => .bad 0
  | f + 1, acc, l => match l with
    | 124 :: l1 => (rowP f [] l1).bind fun x l2 => moreP f (acc ++ [x]) l2
    | _ => .ok (altE acc) l
end
/-- how deep it may go -/
def fuelP (l : List Nat) : Nat := 4 * l.length + 4

/-- a text, parsed: the expression, where an error was met, the error -/
def parseE (l : List Nat) : Ex × Nat × Nat :=
  if 1024 < l.length then (emptyE, 0, 3) else
    match altsP (fuelP l) l with
    | .bad n => (emptyE, l.length - n, 2)
    | .ok x rest => if rest ≠ [] then (emptyE, l.length - rest.length, 2) else if isE x then (x, 0, 0) else (emptyE, 0, 3)

/-! ### examples -/
def chars (s : String) : List Nat := s.toUTF8.toList.map (·.toNat)
end Go.Proofs.YtgknlegomoaoeaaDoor

/-
  The mathematics of the program's own way to take a text: a sign behind a sign is met as an atom that is none. No statement of the seat is proved here.
-/
namespace Go.Proofs.YtgknlegomoaoeaaDoor
open Go

/-! ### what is left is shorter -/
theorem PR.bind_ok {α β : Type} {p : PR α} {f : α → List Nat → PR β} {y : β} {r : List Nat} (h : p.bind f = .ok y r) : ∃ x l, p = .ok x l ∧ f x l = .ok y r := by
  cases p with
  | ok x l => exact ⟨x, l, rfl, h⟩
  | bad n => cases h
theorem len_hexP {l r : List Nat} {x : Nat} (h : hexP l = .ok x r) : r.length + 2 = l.length := by
  match l with
  | [] => cases h
  | a :: l1 =>
    simp only [hexP] at h
    cases ha : halfD a with
    | none => rw [ha] at h; cases h
    | some x1 =>
      rw [ha] at h
      match l1 with
      | [] => cases h
      | b :: l2 =>
        simp only at h
        cases hb : halfD b with
        | none => rw [hb] at h; cases h
        | some y =>
          rw [hb] at h
          injection h with _ h
          subst h
          simp
theorem len_strokeP {l r : List Nat} {x : Nat} (h : strokeP l = .ok x r) : r.length < l.length := by
  match l with
  | [] => cases h
  | c :: l1 =>
    simp only [strokeP] at h
    repeat' split at h
    all_goals first
      | (injection h with _ h; subst h; simp)
      | (have := len_hexP h; simp; omega)
      | cases h
theorem len_byteP {l r : List Nat} {x : Nat} (h : byteP l = .ok x r) : r.length < l.length := by
  match l with
  | [] => cases h
  | c :: l1 =>
    simp only [byteP] at h
    repeat' split at h
    all_goals first
      | (have := len_strokeP h; simp; omega)
      | (injection h with _ h; subst h; simp)
      | cases h
theorem len_rangeP {l r : List Nat} {x : Nat × Nat} (h : rangeP l = .ok x r) : r.length < l.length := by
  obtain ⟨lo, l1, h1, h2⟩ := PR.bind_ok h
  have e1 := len_byteP h1
  split at h2
  · obtain ⟨hi, l3, h3, h4⟩ := PR.bind_ok h2
    have e3 := len_byteP h3
    split at h4
    · cases h4
    · injection h4 with _ h4; subst h4; simp at e1; omega
  · injection h2 with _ h2; subst h2; exact e1
theorem len_rangesP : ∀ (f : Nat) (first : Bool) (s l : List Nat) {x r : List Nat}, rangesP f first s l = .ok x r → r.length ≤ l.length
  | 0, _, _, _, _, _, h => by cases h
  | f + 1, first, s, l, x, r, h => by
    simp only [rangesP] at h
    split at h
    · injection h with _ h; subst h; exact Nat.le_refl _
    · obtain ⟨p, l1, h1, h2⟩ := PR.bind_ok h
      have e1 := len_rangeP h1
      have := len_rangesP f _ _ _ h2
      omega
theorem len_classP {l r : List Nat} {x : Ex} (h : classP l = .ok x r) : r.length ≤ l.length := by
  obtain ⟨s, l1, h1, h2⟩ := PR.bind_ok h
  have e1 := len_rangesP _ _ _ _ h1
  have e2 : (if l.head? = some 94 then l.tail else l).length ≤ l.length := by split <;> simp
  have e3 : ∀ s' : List Nat, (if s' = zeroB then PR.bad l1.length else .ok (classE s') l1.tail) = PR.ok x r → r.length ≤ l.length := by
    intro s' h
    split at h
    · cases h
    · injection h with _ h; subst h
      simp only [List.length_tail]
      omega
  exact e3 _ h2
theorem len_digitsP {l r : List Nat} {x : Int} (h : digitsP l = .ok x r) : r.length < l.length := by
  match l with
  | [] => cases h
  | a :: l1 =>
    simp only [digitsP] at h
    repeat' split at h
    all_goals first
      | (injection h with _ h; subst h; simp; done)
      | (injection h with _ h; subst h; simp; omega)
      | cases h
theorem len_curlyEnd {l r : List Nat} {lo hi : Int} {x : Int × Int} (h : curlyEnd lo hi l = .ok x r) : r.length < l.length := by
  unfold curlyEnd at h
  split at h
  · split at h
    · injection h with _ h; subst h; simp
    · cases h
  · cases h
theorem len_curlyP {l r : List Nat} {x : Int × Int} (h : curlyP l = .ok x r) : r.length < l.length := by
  obtain ⟨lo, l1, h1, h2⟩ := PR.bind_ok h
  have e1 := len_digitsP h1
  split at h2
  · split at h2
    · have := len_curlyEnd h2
      simp at e1; omega
    · obtain ⟨hi, l3, h3, h4⟩ := PR.bind_ok h2
      have e3 := len_digitsP h3
      have := len_curlyEnd h4
      simp at e1; omega
  · have := len_curlyEnd h2
    omega

/-! ### signs that are not looked behind -/
def repE (x : Ex) (lo hi : Int) : Ex := .mk 4 zeroB [x] lo hi
def timesQ (x : Ex) (l : List Nat) : PR Ex :=
  match l with
  | 42 :: l1 => .ok (repE x 0 (-1)) l1
  | 43 :: l1 => .ok (repE x 1 (-1)) l1
  | 63 :: l1 => .ok (repE x 0 1) l1
  | 123 :: l1 => (curlyP l1).bind fun p l2 => .ok (repE x p.1 p.2) l2
  | _ => .ok x l
theorem len_timesQ {x y : Ex} {l r : List Nat} (h : timesQ x l = .ok y r) : r.length ≤ l.length := by
  unfold timesQ at h
  split at h
  · injection h with _ h; subst h; simp
  · injection h with _ h; subst h; simp
  · injection h with _ h; subst h; simp
  · obtain ⟨p, l2, h1, h2⟩ := PR.bind_ok h
    have := len_curlyP h1
    injection h2 with _ h2; subst h2; simp; omega
  · injection h with _ h; subst h; exact Nat.le_refl _
mutual
def atomQ : Nat → List Nat → PR Ex
  | 0, _ => .bad 0
  | f + 1, l => match l with
    | 46 :: l1 => .ok dotE l1
    | 40 :: l1 => (altsQ f l1).bind fun x l2 => match l2 with
      | 41 :: l3 => .ok x l3
      | _ => .bad l2.length
    | 91 :: l1 => classP l1
    | _ => (byteP l).bind fun b l1 => .ok (byteE b) l1
def rowQ : Nat → List Ex → List Nat → PR Ex
  | 0, _, _ => .bad 0
  | f + 1, acc, l => if l = [] ∨ l.head? = some 124 ∨ l.head? = some 41 then .ok (seqE acc) l else
      (atomQ f l).bind fun x l1 => (timesQ x l1).bind fun y l2 => rowQ f (acc ++ [y]) l2
def altsQ : Nat → List Nat → PR Ex
  | 0, _ => .bad 0
  | f + 1, l => (rowQ f [] l).bind fun x l1 => moreQ f [x] l1
def moreQ : Nat → List Ex → List Nat → PR Ex
  | 0, _, _ => .bad 0
  | f + 1, acc, l => match l with
    | 124 :: l1 => (rowQ f [] l1).bind fun x l2 => moreQ f (acc ++ [x]) l2
    | _ => .ok (altE acc) l
end
theorem len_Q : ∀ f, (∀ l x r, atomQ f l = .ok x r → r.length < l.length) ∧ (∀ acc l x r, rowQ f acc l = .ok x r → r.length ≤ l.length) ∧ (∀ l x r, altsQ f l = .ok x r → r.length ≤ l.length) ∧ (∀ acc l x r, moreQ f acc l = .ok x r → r.length ≤ l.length) := by
  intro f
  induction f with
  | zero =>
    refine ⟨?_, ?_, ?_, ?_⟩
    · intro l x r h; simp only [atomQ] at h; cases h
    · intro acc l x r h; simp only [rowQ] at h; cases h
    · intro l x r h; simp only [altsQ] at h; cases h
    · intro acc l x r h; simp only [moreQ] at h; cases h
  | succ f ih =>
    obtain ⟨iA, iR, iL, iM⟩ := ih
    refine ⟨?_, ?_, ?_, ?_⟩
    · intro l x r h
      simp only [atomQ] at h
      split at h
      · injection h with _ h; subst h; simp
      · obtain ⟨y, l2, h1, h2⟩ := PR.bind_ok h
        have := iL _ _ _ h1
        split at h2
        · injection h2 with _ h2; subst h2; simp at this ⊢; omega
        · cases h2
      · have := len_classP h
        simp; omega
      · obtain ⟨y, l2, h1, h2⟩ := PR.bind_ok h
        have := len_byteP h1
        injection h2 with _ h2; subst h2; exact this
    · intro acc l x r h
      simp only [rowQ] at h
      split at h
      · injection h with _ h; subst h; exact Nat.le_refl _
      · obtain ⟨y, l1, h1, h2⟩ := PR.bind_ok h
        obtain ⟨z, l2, h3, h4⟩ := PR.bind_ok h2
        have a1 := iA _ _ _ h1
        have a2 := len_timesQ h3
        have a3 := iR _ _ _ _ h4
        omega
    · intro l x r h
      simp only [altsQ] at h
      obtain ⟨y, l1, h1, h2⟩ := PR.bind_ok h
      have a1 := iR _ _ _ _ h1
      have a2 := iM _ _ _ _ h2
      omega
    · intro acc l x r h
      simp only [moreQ] at h
      split at h
      · obtain ⟨y, l1, h1, h2⟩ := PR.bind_ok h
        have a1 := iR _ _ _ _ h1
        have a2 := iM _ _ _ _ h2
        simp; omega
      · injection h with _ h; subst h; exact Nat.le_refl _
/-- a sign is no atom -/
theorem atomQ_sign {f : Nat} {l : List Nat} (h : signP l = true) : atomQ (f + 1) l = .bad l.length ∧ ¬ (l = [] ∨ l.head? = some 124 ∨ l.head? = some 41) := by
  match l with
  | [] => simp [signP] at h
  | c :: r =>
    simp only [signP, Bool.or_eq_true, decide_eq_true_eq] at h
    rcases h with ((rfl | rfl) | rfl) | rfl
    all_goals (refine ⟨?_, by simp⟩; simp only [atomQ, byteP]; rfl)
theorem row_sign {f : Nat} {acc : List Ex} {l : List Nat} (h : signP l = true) : rowQ (f + 2) acc l = .bad l.length := by
  have h1 := atomQ_sign (f := f) h
  simp only [rowQ]
  rw [if_neg h1.2, h1.1]
  rfl
theorem againP_cases (x : Ex) (lo hi : Int) (l : List Nat) : againP x lo hi l = .ok (repE x lo hi) l ∨ (signP l = true ∧ againP x lo hi l = .bad l.length) := by
  unfold againP
  by_cases h : signP l = true
  · exact .inr ⟨h, if_pos h⟩
  · exact .inl (if_neg h)
theorem timesP_cases (x : Ex) (l : List Nat) : (∃ n, timesQ x l = .bad n ∧ timesP x l = .bad n) ∨ ∃ y l2, timesQ x l = .ok y l2 ∧ (timesP x l = .ok y l2 ∨ (signP l2 = true ∧ timesP x l = .bad l2.length)) := by
  unfold timesQ timesP
  split
  · exact .inr ⟨_, _, rfl, againP_cases _ _ _ _⟩
  · exact .inr ⟨_, _, rfl, againP_cases _ _ _ _⟩
  · exact .inr ⟨_, _, rfl, againP_cases _ _ _ _⟩
  · rename_i l1
    try simp only
    cases h : curlyP l1 with
    | bad n => exact .inl ⟨n, rfl, rfl⟩
    | ok p l2 => exact .inr ⟨_, _, rfl, againP_cases _ _ _ _⟩
  · rename_i h1 h2 h3 h4
    refine .inr ⟨_, _, rfl, .inl ?_⟩
    first
    | rfl
    | (split
       · exact absurd rfl (h1 _)
       · exact absurd rfl (h2 _)
       · exact absurd rfl (h3 _)
       · exact absurd rfl (h4 _)
       · rfl)
theorem eq_Q : ∀ f, (∀ l, 4 * l.length + 2 ≤ f → atomQ f l = atomP f l) ∧ (∀ acc l, 4 * l.length + 3 ≤ f → rowQ f acc l = rowP f acc l) ∧ (∀ l, 4 * l.length + 4 ≤ f → altsQ f l = altsP f l) ∧ (∀ acc l, 4 * l.length + 3 ≤ f → moreQ f acc l = moreP f acc l) := by
  intro f
  induction f with
  | zero => exact ⟨fun l h => by omega, fun acc l h => by omega, fun l h => by omega, fun acc l h => by omega⟩
  | succ f ih =>
    obtain ⟨iA, iR, iL, iM⟩ := ih
    obtain ⟨nA, nR, nL, nM⟩ := len_Q f
    refine ⟨fun l h => ?_, fun acc l h => ?_, fun l h => ?_, fun acc l h => ?_⟩
    · simp only [atomQ, atomP]
      split
      · rfl
      · rw [iL _ (by simp at h; omega)]
        try rfl
      · rfl
      · rename_i h1 h2 h3
        first
        | rfl
        | (split
           · exact absurd rfl (h1 _)
           · exact absurd rfl (h2 _)
           · exact absurd rfl (h3 _)
           · rfl)
    · simp only [rowQ, rowP]
      by_cases hc : l = [] ∨ l.head? = some 124 ∨ l.head? = some 41
      · rw [if_pos hc, if_pos hc]
      · rw [if_neg hc, if_neg hc, ← iA l (by omega)]
        cases ha : atomQ f l with
        | bad n => rfl
        | ok x l1 =>
          have e1 := nA _ _ _ ha
          simp only [PR.bind]
          rcases timesP_cases x l1 with ⟨n, h1, h2⟩ | ⟨y, l2, h1, h2⟩
          · rw [h1, h2]
          · have e2 := len_timesQ h1
            rw [h1]
            rcases h2 with h2 | ⟨h2, h3⟩
            · rw [h2]
              exact iR _ _ (by omega)
            · rw [h3]
              obtain ⟨d, rfl⟩ : ∃ d, f = d + 2 := ⟨f - 2, by omega⟩
              exact row_sign h2
    · simp only [altsQ, altsP]
      rw [iR [] l (by omega)]
      cases hr : rowP f [] l with
      | bad n => rfl
      | ok x l1 =>
        have e1 := nR [] l x l1 (by rw [iR [] l (by omega)]; exact hr)
        exact iM _ _ (by omega)
    · simp only [moreQ, moreP]
      split
      · rename_i l1
        simp only [List.length_cons] at h
        have e0 := iR [] l1 (by omega)
        show (rowQ f [] l1).bind _ = (rowP f [] l1).bind _
        rw [e0]
        cases hr : rowP f [] l1 with
        | bad n => rfl
        | ok x l2 =>
          have e1 := nR [] l1 x l2 (by rw [e0]; exact hr)
          exact iM _ _ (by omega)
      · rename_i h1
        first
        | rfl
        | (split
           · exact absurd rfl (h1 _)
           · rfl)
theorem altsQ_eq (l : List Nat) : altsQ (fuelP l) l = altsP (fuelP l) l := (eq_Q _).2.2.1 l (by unfold fuelP; omega)
end Go.Proofs.YtgknlegomoaoeaaDoor

/-
  Texts as strings; what signs are as texts. No statement of the seat is proved here.
-/
namespace Go.Proofs.YtgknlegomoaoeaaDoor
open Go Go.RowKit
set_option maxRecDepth 100000


/-- bytes, told as numbers, as a string -/
def bsN (l : List Nat) : ByteArray := ⟨(l.map Nat.toUInt8).toArray⟩
theorem bsN_append (a b : List Nat) : bsN a ++ bsN b = bsN (a ++ b) := by
  unfold bsN
  apply ByteArray.ext
  simp [ByteArray.data_append]
theorem ret_str {a b : ByteArray} (h : a = b) : Ending.returned (.string a) = .returned (.string b) := by rw [h]
theorem bsN_size (l : List Nat) : (bsN l).size = l.length := by simp [bsN, ByteArray.size]
theorem hexD_lt {c : Nat} (h : c < 16) : hexD c < 256 := by unfold hexD; split <;> omega
theorem signB_lt {c : Nat} (h : c < 256) : ∀ b ∈ signB c, b < 256 := by
  intro b hb
  unfold signB at hb
  split at hb
  · simp at hb; omega
  · simp at hb
    rcases hb with rfl | rfl | rfl | rfl
    · omega
    · omega
    · exact hexD_lt (by omega)
    · exact hexD_lt (by omega)
theorem signB_len (c : Nat) : (signB c).length ≤ 4 := by unfold signB; split <;> simp
theorem twoB_len (c : Nat) : (twoB c).length ≤ 2 := by unfold twoB; split <;> simp
theorem timesT_len (lo hi : Int) : (timesT lo hi).length ≤ 7 := by
  have h1 := twoB_len lo.toNat
  have h2 := twoB_len hi.toNat
  unfold timesT
  repeat' split
  all_goals (simp only [List.length_cons, List.length_append, List.length_nil]; omega)
theorem plain_iff (c : Nat) : plainB c = true ↔ (97 ≤ c ∧ c ≤ 122) ∨ (65 ≤ c ∧ c ≤ 90) ∨ (48 ≤ c ∧ c ≤ 57) := by
  simp [plainB, or_assoc]
/-- bytes of a literal in new memory as a string -/
theorem conv_nb (w : World) (A : Option Addr) (n c : Nat) (l : List Nat) (hn : n = l.length) (hl : ∀ b ∈ l, b < 256) (hr : Rd w A (l.map nb)) :
    (convert 94 9 (.slice A n c)).run Tryd.prog w = .ok (.string (bsN l)) w := by
  have e : l.map nb = (l.map Nat.toUInt8).map bv := by
    rw [List.map_map]
    refine List.map_congr_left fun b hb => ?_
    have := hl b hb
    simp only [Function.comp, nb, bv, Nat.toUInt8, UInt8.toNat_ofNat', Value.int.injEq, true_and]
    congr 1
    omega
  rw [e] at hr
  unfold bsN
  subst hn
  rcases A with _ | ad
  · have hnil : l = [] := by
      rcases l with _ | ⟨b, r⟩
      · rfl
      · obtain ⟨ad, h0, _⟩ := hr 0 _ rfl
        cases h0
    subst hnil
    exact Lib.run_convert_nil_bytes w _ _ 5 c Tryd.underlying94 Tryd.underlying5 Tryd.underlying9
  · have := run_convert_bytes_back w _ _ 5 ad c (l.map Nat.toUInt8) Tryd.underlying94 Tryd.underlying5 Tryd.underlying9 (fun j hj => by
      obtain ⟨ad', h1, h2⟩ := hr j (bv (l.map Nat.toUInt8)[j]) (by rw [List.getElem?_map, List.getElem?_eq_getElem hj]; rfl)
      injection h1 with h1
      subst h1
      exact h2)
    simpa using this
end Go.Proofs.YtgknlegomoaoeaaDoor

/-
  Contract of the reference's Of. No statement of the seat is proved here.
-/
namespace Go.Proofs.YtgknlegomoaoeaaDoor
open Go Go.RowKit
set_option maxRecDepth 100000


set_option maxHeartbeats 2000000 in
theorem rof_any (A : Option Addr) (n c : Nat) (l : List Nat) (w : World) (hn : n = l.length) (hl : ∀ b ∈ l, b < 256) (hb : l.length ≤ 1000000) (hr : Rd w A (l.map nb)) :
    Calls Tryd.prog 56 #[.slice A n c] w fun e w' => e = .returned (setV (ofB l)) ∧ Below w.heap.size w w' := by
  subst hn
  have hz := zeros_set
  have hbi : (l.length : Int) ≤ 1000000 := by omega
  unfold setV
  go_enter Tryd.func56, Tryd.ntmps56
  go_wp2
  go_loopw [4] (fun i wr => ∃ (k : Nat) (us : List Nat), k ≤ l.length ∧ i = .int .i64 (k : Int) ∧ us = ofB (l.take k) ∧ Blk wr (w.heap.size + 1) 24 (cellsU us) ∧ Blk wr w.heap.size 24 (cellsU zeroB) ∧ Below w.heap.size w wr) (fun i _ => l.length - (intOf i).toNat)
  case atStart =>
    refine ⟨0, zeroB, by omega, rfl, rfl, ?_, ?_, ext2 w _ _⟩
    · have := Blk.new (w.alloc (Obj.cells (cellsU zeroB) 24)) 24 (cellsU zeroB)
      simpa using this
    · exact (Blk.new w 24 (cellsU zeroB)).alloc (Obj.cells (cellsU zeroB) 24)
  case round =>
    obtain ⟨k, us, hk, rfl, hus, hT, hR, hbel⟩ := hrel
    have husok : SetOk us := by rw [hus]; exact ofB_ok _
    by_cases hlt : k < l.length
    · have hki : (k : Int) < (l.length : Int) := by omega
      obtain ⟨ad, rfl, hc⟩ := (hr.ext hbel).at_ (k := k) (by simpa using hlt)
      simp only [List.getElem_map, nb] at hc
      have hbl := hl l[k] (List.getElem_mem hlt)
      have hsn : setB us l[k] = ofB (l.take (k + 1)) := by rw [hus, take_snoc l k hlt, ofB_snoc]
      have Hsn := Lib.hid hsn
      have Hus := Lib.hid hus
      clear hsn hus
      generalize l[k] = b at hc hbl Hsn
      have hi4 : b / 64 < 4 := by omega
      have hcell : wr.cell? ⟨w.heap.size + 1, b / 64, none⟩ = some (.int .u64 (wordB us (b / 64) : Int)) := (hT.cell _).trans (cellsU_at husok hi4)
      have hfree := hT.free (b / 64)
      have hor := or_key (wordB us (b / 64)) (2 ^ (b % 64)) (husok.wlt _) (two_pow_lt b)
      have hshl := shl_bit b
      have hT' := hT.put (b / 64) (.int .u64 ((wordB us (b / 64) ||| 2 ^ (b % 64) : Nat) : Int))
      rw [cellsU_set] at hT'
      have HT' := Lib.hid hT'
      have HT := Lib.hid hT
      have hset : us.set (b / 64) (wordB us (b / 64) ||| 2 ^ (b % 64)) = setB us b := rfl
      have Hset := Lib.hid hset
      have hbi : (b : Int) < 256 := by omega
      clear hT' hT hset
      go_wp2
      go_region
      go_wp2
      go_roundw
      case rel =>
        have hor' : bits BinOp.or IntKind.u64 (wordB us (b / 64) : Int) ((2 : Int) ^ (b % 64)) = ((wordB us (b / 64) ||| 2 ^ (b % 64) : Nat) : Int) := by rw [pow_cast]; exact hor
        rw [hor']
        exact ⟨k + 1, us.set (b / 64) (wordB us (b / 64) ||| 2 ^ (b % 64)), by omega, by go_num, Hset.out.trans Hsn.out, HT'.out.drew, (hR.far (by simp) _).drew, (hbel.setCell (by simp) _).drew⟩
      case measure => simp [intOf]; omega
    · obtain rfl : k = l.length := by omega
      rw [List.take_length] at hus
      subst hus
      have hi := size_set husok
      go_wp2_with (first | (refine wpList_load_set rfl _ rfl (w.heap.size + 1) rfl husok hT ?_) | (refine wpList_store_set rfl _ _ rfl w.heap.size rfl rfl husok zero_ok hR ?_; intro w2 hB2 _ _ hbel2))
      exact bodyPost_ret (results_cell rfl _ _ w.heap.size 24 _ 4 22 rfl hB2 Tryd.underlying24 hi) rfl ⟨rfl, hbel.trans (hbel2 _ (by omega))⟩

end Go.Proofs.YtgknlegomoaoeaaDoor
