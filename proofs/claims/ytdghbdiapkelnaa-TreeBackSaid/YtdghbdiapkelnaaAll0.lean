/-
  Texts of this claim, joined (part 0): contracts and lemmas that the last text goes by. No statement of the seat is proved here.
-/
import Derived.WalkKit
import Derived.Deep.Draws
import Derived.Deep.QuietTactic
import Derived.BigQuiet
import Derived.Maps.AppendAt
import Derived.Deep.AppendLies
import Derived.OneCell
import Derived.Lib.Hide
set_option linter.unusedVariables false
set_option linter.unusedSimpArgs false
/-
  Words for memory, for every later text: what a piece of memory holds ('Rd'), what the call owns ('Own'), what may turn ('Only'), and append onto what is owned. No statement of the seat is proved here.
-/
namespace Go.Proofs.Ytdghbdiapkelnaa
open Go Go.RowKit

/-- a byte as a cell -/
def bv (u : UInt8) : Value := .int .u8 (u.toNat : Int)
theorem bv_one (u : UInt8) : (bv u).oneCell' = true := rfl
theorem bvs_one (l : List UInt8) : ∀ u ∈ l.map bv, u.oneCell' = true := by
  intro u hu
  obtain ⟨x, _, rfl⟩ := List.mem_map.1 hu
  rfl

/-- a number as a cell; what an int bears -/
def iv (v : Int) : Value := .int .i64 v
def isInt (v : Int) : Prop := -9223372036854775808 ≤ v ∧ v ≤ 9223372036854775807

/-! ### What may turn -/
structure Only (S : Nat → Prop) (w w' : World) : Prop where
  os : w'.os = w.os
  tape : w'.tape = w.tape
  output : w'.output = w.output
  size : w.heap.size ≤ w'.heap.size
  block : ∀ k, k < w.heap.size → ¬ S k → w'.heap[k]? = w.heap[k]?

section
variable {S T : Nat → Prop} {a b c w w' : World}
theorem Only.refl (S : Nat → Prop) (w : World) : Only S w w := ⟨rfl, rfl, rfl, Nat.le_refl _, fun _ _ _ => rfl⟩
theorem Only.trans (h : Only S a b) (k : Only T b c) (hs : ∀ i, i < a.heap.size → T i → S i) : Only S a c :=
  ⟨k.os.trans h.os, k.tape.trans h.tape, k.output.trans h.output, Nat.le_trans h.size k.size,
    fun i hi hn => (k.block i (Nat.lt_of_lt_of_le hi h.size) (fun ht => hn (hs i hi ht))).trans (h.block i hi hn)⟩
theorem Only.mono (h : Only S a b) (hs : ∀ i, i < a.heap.size → S i → T i) : Only T a b :=
  ⟨h.os, h.tape, h.output, h.size, fun i hi hn => h.block i hi (fun x => hn (hs i hi x))⟩
theorem Only.drew (h : Only S a w) : Only S a w.drew := ⟨h.os, h.tape, h.output, h.size, h.block⟩
theorem Only.drewN (h : Only S a w) (n : Nat) : Only S a (w.drewN n) := ⟨h.os, h.tape, h.output, h.size, h.block⟩
theorem Only.alloc (h : Only S a w) (o : Obj) : Only S a (w.alloc o) :=
  ⟨h.os, h.tape, h.output, Nat.le_trans h.size (by simp), fun i hi hn => (Below.heap_alloc w o i (Nat.lt_of_lt_of_le hi h.size)).trans (h.block i hi hn)⟩
theorem Only.setCell (h : Only S a w) {p : Addr} (hp : S p.block ∨ a.heap.size ≤ p.block) (u : Value) : Only S a (w.setCell p u) :=
  ⟨h.os, h.tape, h.output, by simpa [World.setCell] using h.size, fun i hi hn => (Below.heap_setCell w p u i (by
    rintro rfl
    rcases hp with hp | hp
    · exact hn hp
    · omega)).trans (h.block i hi hn)⟩
theorem Only.grown (h : Only S a w) {row : Option Nat} (hg : w.grownBy w' row) (hr : ∀ k, row = some k → k < a.heap.size → S k) : Only S a w' :=
  ⟨hg.os.trans h.os, hg.tape.trans h.tape, hg.output.trans h.output, Nat.le_trans h.size hg.size,
    fun i hi hn => (hg.block i (Nat.lt_of_lt_of_le hi h.size) (fun e => hn (hr i e.symm hi))).trans (h.block i hi hn)⟩
theorem Only.below {B : Nat} (h : Only S a b) (hs : ∀ i, S i → B ≤ i) (hB : B ≤ a.heap.size) : Below B a b :=
  ⟨h.os, h.tape, h.output, h.size, fun i hi => h.block i (by omega) (fun x => by have := hs i x; omega)⟩
theorem Only.of_below {B : Nat} (h : Below B a b) (hs : ∀ i, B ≤ i → i < a.heap.size → S i) : Only S a b :=
  ⟨h.os, h.tape, h.output, h.size, fun i hi hn => h.block i (by
    rcases Nat.lt_or_ge i B with hl | hl
    · exact hl
    · exact absurd (hs i hl hi) hn)⟩
theorem Only.of_ext (h : Below a.heap.size a b) : Only S a b := Only.of_below h (fun i h1 h2 => by omega)
end

/-- all that was there is as it was, from world to world -/
theorem ext_trans {a b c : World} (h : Below a.heap.size a b) (k : Below b.heap.size b c) : Below a.heap.size a c := h.trans (k.mono h.size)
theorem ext_drewN {B : Nat} {a w : World} (h : Below B a w) (n : Nat) : Below B a (w.drewN n) := ⟨h.os, h.tape, h.output, h.size, h.block⟩

/-! ### What memory holds -/
/-- From address 'A' on there lie the cells 'xs'. -/
def Rd (w : World) (A : Option Addr) (xs : List Value) : Prop := ∀ (j : Nat) (u : Value), xs[j]? = some u → ∃ ad, A = some ad ∧ w.cell? (ad.add j) = some u

theorem block_add (a : Addr) (n : Nat) : (a.add n).block = a.block := by unfold Addr.add; split <;> rfl
theorem add_add_ (a : Addr) (i j : Nat) : (a.add i).add j = a.add (i + j) := by
  unfold Addr.add
  by_cases hi : i = 0 <;> by_cases hj : j = 0 <;> simp [hi, hj, Nat.add_assoc]

section
variable {S : Nat → Prop} {w w' : World} {A : Option Addr} {xs : List Value}
theorem Rd.nil (w : World) (A : Option Addr) : Rd w A [] := fun j u h => by simp at h
theorem Rd.at_ (h : Rd w A xs) {k : Nat} (hk : k < xs.length) : ∃ ad, A = some ad ∧ w.cell? (ad.add k) = some xs[k] := h k _ (List.getElem?_eq_getElem hk)
theorem Rd.keep (h : Rd w A xs) (hk : ∀ ad, A = some ad → ad.block < w.heap.size → w'.heap[ad.block]? = w.heap[ad.block]?) : Rd w' A xs := fun j u hu => by
  obtain ⟨ad, e, hc⟩ := h j u hu
  have hb := World.block_lt_of_cell? w _ hc
  rw [block_add] at hb
  exact ⟨ad, e, (World.cell?_of_block (by rw [block_add]; exact hk ad e hb)).trans hc⟩
theorem Rd.ext (h : Rd w A xs) (hb : Below w.heap.size w w') : Rd w' A xs := h.keep fun _ _ hl => hb.block _ hl
theorem Rd.only (h : Rd w A xs) (ho : Only S w w') (hn : ∀ ad, A = some ad → xs ≠ [] → ¬ S ad.block) : Rd w' A xs := by
  rcases xs with _ | ⟨x, r⟩
  · exact Rd.nil _ _
  · exact h.keep fun ad e hl => ho.block _ hl (hn ad e (by simp))
theorem Rd.drew (h : Rd w A xs) : Rd w.drew A xs := h
theorem Rd.drewN (h : Rd w A xs) (n : Nat) : Rd (w.drewN n) A xs := h
theorem Rd.undrewN {n : Nat} (h : Rd (w.drewN n) A xs) : Rd w A xs := h
theorem Rd.alloc (h : Rd w A xs) (o : Obj) : Rd (w.alloc o) A xs := h.keep fun _ _ hl => Below.heap_alloc w o _ hl
theorem Rd.setCell (h : Rd w A xs) {p : Addr} (hn : ∀ ad, A = some ad → ad.block ≠ p.block) (u : Value) : Rd (w.setCell p u) A xs := h.keep fun ad e _ => Below.heap_setCell w p u _ (hn ad e)
theorem Rd.take (h : Rd w A xs) (k : Nat) : Rd w A (xs.take k) := fun j u hu => h j u (by
  rw [List.getElem?_take] at hu
  split at hu
  · exact hu
  · cases hu)
/-- behind a cut in front: the model's own form of the address -/
theorem Rd.cut (h : Rd w A xs) {k cap : Nat} (hc : xs.length ≤ cap) : Rd w (if cap = k then A else A.map (·.add (k * 1))) (xs.drop k) := fun j u hu => by
  rw [List.getElem?_drop] at hu
  obtain ⟨ad, rfl, hcell⟩ := h _ u hu
  have hl : k + j < xs.length := (List.getElem?_eq_some_iff.1 hu).1
  rw [if_neg (by omega)]
  refine ⟨ad.add (k * 1), rfl, ?_⟩
  rw [add_add_, Nat.mul_one]
  exact hcell
theorem Rd.lit (w : World) (cs : Array Value) (t : TypeId) : Rd (w.alloc (.cells cs t)) (some ⟨w.heap.size, 0, none⟩) cs.toList := fun j u hu =>
  ⟨_, rfl, World.news_of_block (heap_alloc_new w _) j u hu⟩
theorem Rd.lit_at (w : World) (cs : Array Value) (t : TypeId) {fr : Nat × Nat} {g : Nat} (hg : g = w.heap.size) : Rd (w.alloc (.cells cs t fr)) (some ⟨g, 0, none⟩) cs.toList := by
  subst hg
  exact fun j u hu => ⟨_, rfl, World.news_of_block (heap_alloc_new w _) j u hu⟩
theorem Rd.blk {g : Nat} {cs : Array Value} {t : TypeId} {fr : Nat × Nat} (h : w.heap[g]? = some (.cells cs t fr)) : Rd w (some ⟨g, 0, none⟩) cs.toList := fun j u hu =>
  ⟨_, rfl, World.news_of_block h j u hu⟩
end

/-! ### A block that is known whole -/
def Blk (w : World) (g : Nat) (t : TypeId) (cs : Array Value) : Prop := w.heap[g]? = some (.cells cs t (0, 0))
section
variable {S : Nat → Prop} {w w' : World} {g : Nat} {t : TypeId} {cs : Array Value}
theorem Blk.lt (h : Blk w g t cs) : g < w.heap.size := lt_of_block h
theorem Blk.cell (h : Blk w g t cs) (i : Nat) : w.cell? ⟨g, i, none⟩ = cs[i]? := cell_of_row w g i cs t (0, 0) h
theorem Blk.free (h : Blk w g t cs) (i : Nat) : w.frozen? ⟨g, i, none⟩ = false := frozen_of_row w g i cs t h
theorem Blk.new (w : World) (t : TypeId) (cs : Array Value) : Blk (w.alloc (.cells cs t)) w.heap.size t cs := heap_alloc_new w _
theorem Blk.drew (h : Blk w g t cs) : Blk w.drew g t cs := h
theorem Blk.drewN (h : Blk w g t cs) (n : Nat) : Blk (w.drewN n) g t cs := h
theorem Blk.alloc (h : Blk w g t cs) (o : Obj) : Blk (w.alloc o) g t cs := (Below.heap_alloc w o g h.lt).trans h
theorem Blk.only (h : Blk w g t cs) (ho : Only S w w') (hn : ¬ S g) : Blk w' g t cs := (ho.block g h.lt hn).trans h
theorem Blk.ext (h : Blk w g t cs) (hb : Below w.heap.size w w') : Blk w' g t cs := (hb.block g h.lt).trans h
theorem Blk.far (h : Blk w g t cs) {p : Addr} (hp : g ≠ p.block) (u : Value) : Blk (w.setCell p u) g t cs := (Below.heap_setCell w p u g hp).trans h
theorem Blk.put (h : Blk w g t cs) (i : Nat) (u : Value) : Blk (w.setCell ⟨g, i, none⟩ u) g t (cs.setIfInBounds i u) := heap_setCell_same w g i cs t u h
end

/-! ### A row that the call owns -/
/-- The slice of address 'A' and capacity 'c' is a row of the call's own that holds 'xs'; its block is one of 'fp'. -/
def Own (w : World) (fp : Nat → Prop) (e : TypeId) (A : Option Addr) (c : Nat) (xs : List Value) : Prop :=
  w.ownsRow 0 e 1 (.slice A xs.length c) xs.length xs ∧ ∀ ad, A = some ad → fp ad.block

/-- what was in 'fp', and what has been made from 'w' to 'w'' -/
def More (fp : Nat → Prop) (w w' : World) : Nat → Prop := fun k => fp k ∨ (w.heap.size ≤ k ∧ k < w'.heap.size)

section
variable {S fp fp' : Nat → Prop} {w w' : World} {e : TypeId} {A : Option Addr} {c : Nat} {xs : List Value}
theorem Own.cap (h : Own w fp e A c xs) : xs.length ≤ c := by
  rcases h.1.2 with ⟨h1, h2⟩ | ⟨g, cap, cur, h1, _, _, hc, _⟩
  · injection h1; omega
  · injection h1; omega
theorem Own.some_ (h : Own w fp e A c xs) : (A = none ∧ c = 0 ∧ xs = []) ∨ ∃ g, A = some ⟨g, 0, none⟩ ∧ fp g ∧ g < w.heap.size := by
  rcases h.1.2 with ⟨h1, h2⟩ | ⟨g, cap, cur, h1, _, hg, hc, _⟩
  · injection h1 with a1 a2 a3
    exact .inl ⟨a1, a3, List.eq_nil_of_length_eq_zero h2⟩
  · injection h1 with a1 a2 a3
    exact .inr ⟨g, a1, h.2 _ a1, lt_of_block hg⟩
theorem Own.rd (h : Own w fp e A c xs) : Rd w A xs := by
  rcases h.some_ with ⟨rfl, rfl, rfl⟩ | ⟨g, rfl, _, _⟩
  · exact Rd.nil _ _
  · exact fun j u hu => ⟨_, rfl, h.1.cells (g := g) rfl j u hu⟩
theorem Own.none_ (w : World) (fp : Nat → Prop) (e : TypeId) : Own w fp e none 0 [] := ⟨World.ownsRow_nil w 0 e 1, fun _ h => by cases h⟩
theorem Own.mono (h : Own w fp e A c xs) (hs : ∀ k, fp k → k < w.heap.size → fp' k) : Own w fp' e A c xs := by
  refine ⟨h.1, fun ad e' => ?_⟩
  rcases h.some_ with ⟨rfl, _⟩ | ⟨g, rfl, hg, hl⟩
  · cases e'
  · injection e' with e'; subst e'; exact hs _ hg hl
theorem Own.only (h : Own w fp e A c xs) (ho : Only S w w') (hn : ∀ k, fp k → ¬ S k) : Own w' fp e A c xs := by
  refine ⟨⟨h.1.1, ?_⟩, h.2⟩
  rcases h.1.2 with h1 | ⟨g, cap, cur, h1, hb, hg, r⟩
  · exact .inl h1
  · refine .inr ⟨g, cap, cur, h1, hb, ?_, r⟩
    injection h1 with a1 a2 a3
    rw [ho.block g (lt_of_block hg) (hn _ (h.2 _ a1))]
    exact hg
theorem Own.ext (h : Own w fp e A c xs) (hb : Below w.heap.size w w') : Own w' fp e A c xs := by
  refine ⟨⟨h.1.1, ?_⟩, h.2⟩
  rcases h.1.2 with h1 | ⟨g, cap, cur, h1, hb', hg, r⟩
  · exact .inl h1
  · exact .inr ⟨g, cap, cur, h1, hb', (hb.block g (lt_of_block hg)).trans hg, r⟩
theorem Own.drew (h : Own w fp e A c xs) : Own w.drew fp e A c xs := h
theorem Own.drewN (h : Own w fp e A c xs) (n : Nat) : Own (w.drewN n) fp e A c xs := h
theorem Own.alloc (h : Own w fp e A c xs) (o : Obj) : Own (w.alloc o) fp e A c xs := h.ext ((Below.refl _ _).alloc (Nat.le_refl _) o)
theorem Own.setCell (h : Own w fp e A c xs) {p : Addr} (hn : ∀ ad, A = some ad → ad.block ≠ p.block) (u : Value) : Own (w.setCell p u) fp e A c xs := by
  refine ⟨ownsRow_setCell_other h.1 ?_ u, h.2⟩
  rcases A with _ | ad
  · simp [Value.ownBlock]
  · simpa [Value.ownBlock] using hn ad rfl
/-- rows of one element type and a block of another one are apart -/
theorem Own.ne_blk {g : Nat} {t : TypeId} {cs : Array Value} (h : Own w fp e A c xs) (hb : Blk w g t cs) (ht : e ≠ t) : ∀ ad, A = some ad → ad.block ≠ g := by
  rintro ad rfl rfl
  rcases h.1.2 with ⟨h1, _⟩ | ⟨g', cap, cur, h1, _, hg, _⟩
  · injection h1 with h1; cases h1
  · injection h1 with h1 _ _
    injection h1 with h1
    subst h1
    unfold Blk at hb
    rw [hg] at hb
    injection hb with hb
    injection hb with _ ht'
    exact ht ht'
theorem Own.lit (w : World) (fp : Nat → Prop) (cs : Array Value) (e : TypeId) (hm : cs.size ≤ maxLen) (hf : fp w.heap.size) : Own (w.alloc (.cells cs e)) fp e (some ⟨w.heap.size, 0, none⟩) cs.size cs.toList := by
  refine ⟨?_, fun ad h => by injection h with h; subst h; exact hf⟩
  have h := World.ownsRow_lit (base := 0) (e := e) (size := 1) w cs cs.size (Nat.zero_le _) hm (by simp)
  simpa using h
end

/-! ### growth, step by step -/
section
variable {fp : Nat → Prop} {a b b' c : World}
theorem More.join (h1 : a.heap.size ≤ b.heap.size) (h2 : b.heap.size ≤ b'.heap.size) (h3 : b'.heap.size ≤ c.heap.size) {k : Nat} (hk : More (More fp a b) b' c k) : More fp a c k := by
  rcases hk with (hk | hk) | hk
  · exact .inl hk
  · exact .inr (by omega)
  · exact .inr (by omega)
theorem Only.join (h : Only fp a b') (h2 : Only (More fp a b) b' c) : Only fp a c := h.trans h2 (fun k hk hm => by
  rcases hm with hm | hm
  · exact hm
  · omega)
theorem Own.join {e : TypeId} {A : Option Addr} {n : Nat} {xs : List Value} (h1 : a.heap.size ≤ b.heap.size) (h2 : b.heap.size ≤ b'.heap.size) (h3 : b'.heap.size ≤ c.heap.size) (h : Own c (More (More fp a b) b' c) e A n xs) : Own c (More fp a c) e A n xs :=
  h.mono fun _ hk _ => More.join h1 h2 h3 hk
end

/-! ### Memory that is read, apart from 'fp'; rows of bytes -/
def RdF (fp : Nat → Prop) (w : World) (A : Option Addr) (xs : List Value) : Prop := Rd w A xs ∧ ∀ ad, A = some ad → xs ≠ [] → ¬ fp ad.block

def RowsF (fp : Nat → Prop) (w : World) (A : Option Addr) (xss : List (List UInt8)) : Prop :=
  ∃ vs, RdF fp w A vs ∧ vs.length = xss.length ∧ ∀ (j : Nat) (v : Value) (xs : List UInt8), vs[j]? = some v → xss[j]? = some xs → ∃ B c, v = .slice B xs.length c ∧ xs.length ≤ c ∧ RdF fp w B (xs.map bv)

section
variable {fp fp' : Nat → Prop} {w w' : World} {A : Option Addr} {xs : List Value} {xss : List (List UInt8)}
theorem RdF.only (h : RdF fp w A xs) (ho : Only fp w w') : RdF fp w' A xs := ⟨h.1.only ho h.2, h.2⟩
theorem RdF.of (h : Rd w A xs) : RdF (fun _ => False) w A xs := ⟨h, fun _ _ _ x => x⟩
/-- what is read lies below what is new -/
theorem RdF.fresh (h : Rd w A xs) (hf : ∀ k, fp k → w.heap.size ≤ k) : RdF fp w A xs := by
  refine ⟨h, fun ad e hne hk => ?_⟩
  rcases xs with _ | ⟨x, r⟩
  · exact hne rfl
  · obtain ⟨ad', e', hc⟩ := h 0 x rfl
    rw [e] at e'; injection e' with e'; subst e'
    have hb := World.block_lt_of_cell? w _ hc
    rw [block_add] at hb
    have := hf _ hk
    omega
theorem RdF.weak (h : RdF fp w A xs) (hs : ∀ k, fp' k → fp k) : RdF fp' w A xs := ⟨h.1, fun ad e hn x => h.2 ad e hn (hs _ x)⟩
theorem RowsF.only (h : RowsF fp w A xss) (ho : Only fp w w') : RowsF fp w' A xss := by
  obtain ⟨vs, h1, h2, h3⟩ := h
  refine ⟨vs, h1.only ho, h2, fun j v xs hv hx => ?_⟩
  obtain ⟨B, c, e, hc, hr⟩ := h3 j v xs hv hx
  exact ⟨B, c, e, hc, hr.only ho⟩
theorem RowsF.weak (h : RowsF fp w A xss) (hs : ∀ k, fp' k → fp k) : RowsF fp' w A xss := by
  obtain ⟨vs, h1, h2, h3⟩ := h
  refine ⟨vs, h1.weak hs, h2, fun j v xs hv hx => ?_⟩
  obtain ⟨B, c, e, hc, hr⟩ := h3 j v xs hv hx
  exact ⟨B, c, e, hc, hr.weak hs⟩
theorem RowsF.ext (h : RowsF fp w A xss) (hb : Below w.heap.size w w') : RowsF fp w' A xss := h.only (Only.of_ext hb)
/-- row number k -/
theorem RowsF.at_ (h : RowsF fp w A xss) {k : Nat} (hk : k < xss.length) :
    ∃ ad B c, A = some ad ∧ w.cell? (ad.add k) = some (.slice B xss[k].length c) ∧ xss[k].length ≤ c ∧ RdF fp w B (xss[k].map bv) := by
  obtain ⟨vs, h1, h2, h3⟩ := h
  obtain ⟨ad, e, hc⟩ := h1.1.at_ (k := k) (by omega)
  obtain ⟨B, c, e2, hl, hr⟩ := h3 k _ _ (List.getElem?_eq_getElem (by omega)) (List.getElem?_eq_getElem hk)
  exact ⟨ad, B, c, e, by rw [hc, e2], hl, hr⟩
theorem RdF.more (h : RdF fp w A xs) (ho : Only fp w w') : RdF (More fp w w') w' A xs := by
  refine ⟨h.1.only ho h.2, fun ad e hn hm => ?_⟩
  rcases hm with hm | hm
  · exact h.2 ad e hn hm
  · rcases xs with _ | ⟨x, r⟩
    · exact hn rfl
    · obtain ⟨ad', e', hc⟩ := h.1 0 x rfl
      rw [e] at e'
      injection e' with e'
      subst e'
      have hb := World.block_lt_of_cell? w _ hc
      rw [block_add] at hb
      omega
theorem RowsF.more (h : RowsF fp w A xss) (ho : Only fp w w') : RowsF (More fp w w') w' A xss := by
  obtain ⟨vs, h1, h2, h3⟩ := h
  refine ⟨vs, h1.more ho, h2, fun j v xs hv hx => ?_⟩
  obtain ⟨B, c, e, hc, hr⟩ := h3 j v xs hv hx
  exact ⟨B, c, e, hc, hr.more ho⟩
/-- cells that were just laid -/
theorem RdF.lit (w : World) (cs : Array Value) (t : TypeId) {fr : Nat × Nat} {g : Nat} (hg : g = w.heap.size) (hf : ¬ fp g) : RdF fp (w.alloc (.cells cs t fr)) (some ⟨g, 0, none⟩) cs.toList :=
  ⟨Rd.lit_at w cs t hg, fun ad e _ => by injection e with e; subst e; exact hf⟩
theorem RdF.alloc (h : RdF fp w A xs) (o : Obj) : RdF fp (w.alloc o) A xs := ⟨h.1.alloc o, h.2⟩
/-- a list of one row, of two rows, that was just laid -/
theorem RowsF.one {xs : List UInt8} {B : Option Addr} {c : Nat} (h : RdF fp w B (xs.map bv)) (hc : xs.length ≤ c) (t : TypeId) {g : Nat} (hg : g = w.heap.size) (hf : ¬ fp g) :
    RowsF fp (w.alloc (.cells #[.slice B xs.length c] t)) (some ⟨g, 0, none⟩) [xs] := by
  subst hg
  refine ⟨[.slice B xs.length c], ⟨Rd.lit w #[.slice B xs.length c] t, fun ad e _ => by injection e with e; subst e; exact hf⟩, rfl, fun j v ys hv hx => ?_⟩
  match j, hv, hx with
  | 0, hv, hx =>
    simp at hv hx
    subst hv hx
    exact ⟨B, c, rfl, hc, h.alloc _⟩
theorem RowsF.two {xs ys : List UInt8} {B D : Option Addr} {c d : Nat} (h : RdF fp w B (xs.map bv)) (hc : xs.length ≤ c) (h2 : RdF fp w D (ys.map bv)) (hd : ys.length ≤ d) (t : TypeId) {g : Nat} (hg : g = w.heap.size) (hf : ¬ fp g) :
    RowsF fp (w.alloc (.cells #[.slice B xs.length c, .slice D ys.length d] t)) (some ⟨g, 0, none⟩) [xs, ys] := by
  subst hg
  refine ⟨[.slice B xs.length c, .slice D ys.length d], ⟨Rd.lit w #[.slice B xs.length c, .slice D ys.length d] t, fun ad e _ => by injection e with e; subst e; exact hf⟩, rfl, fun j v zs hv hx => ?_⟩
  match j, hv, hx with
  | 0, hv, hx =>
    simp at hv hx
    subst hv hx
    exact ⟨B, c, rfl, hc, h.alloc _⟩
  | 1, hv, hx =>
    simp at hv hx
    subst hv hx
    exact ⟨D, d, rfl, hd, h2.alloc _⟩
theorem only_none (h : Only (fun _ => False) w w') : Below w.heap.size w w' := h.below (fun _ h => h.elim) (Nat.le_refl _)
end

/-! ### append onto what is owned; the source nil, empty or not -/
section
variable {P : Program} (w : World) {fp : Nat → Prop}
theorem run_app (t ty e : TypeId) (z : Value) (bytes : Nat) (ht : P.underlying t = some (.slice e)) (hi : (P.info? e).map (fun i => (i.zero, i.size, i.bytes)) = some (some z, 1, bytes)) (hzs : z.cells.size = 1)
    (A : Option Addr) (n c : Nat) (xs : List Value) (hn : n = xs.length) (hown : Own w fp e A c xs) (A2 : Option Addr) (m c2 : Nat) (news : List Value) (hm : m = news.length) (hr : Rd w A2 news) (h1 : ∀ u ∈ news, u.oneCell' = true)
    (h63 : n + m ≤ maxLen) (hbytes : (n + m) * bytes ≤ 140737488355328) :
    ∃ A' c' w', (Builtin.append_ #[t, t] ty #[.slice A n c, .slice A2 m c2]).run P w = .ok (.slice A' (n + m) c') w' ∧ Own w' (More fp w w') e A' c' (xs ++ news) ∧ Only fp w w' := by
  obtain ⟨i, hi, hz, hsz, hby⟩ := info_parts hi
  subst hn hm
  have same : ∀ (_ : news = []) (_ : (Builtin.append_ #[t, t] ty #[.slice A xs.length c, .slice A2 news.length c2]).run P w = .ok (.slice A xs.length c) w),
      ∃ A' c' w', (Builtin.append_ #[t, t] ty #[.slice A xs.length c, .slice A2 news.length c2]).run P w = .ok (.slice A' (xs.length + news.length) c') w' ∧ Own w' (More fp w w') e A' c' (xs ++ news) ∧ Only fp w w' := by
    intro hnil hrun
    subst hnil
    exact ⟨A, c, w, hrun, by rw [List.append_nil]; exact hown.mono (fun k hk _ => Or.inl hk), Only.refl _ _⟩
  rcases A2 with _ | ad
  · have hnil : news = [] := by
      rcases news with _ | ⟨u, r⟩
      · rfl
      · obtain ⟨ad, h, _⟩ := hr 0 u rfl
        cases h
    refine same hnil ?_
    subst hnil
    rcases hown.1.2 with ⟨h2, _⟩ | ⟨g, cap, cur, h2, _, _, hnc, _⟩
    · rw [h2]; simp [Builtin.append_, run_underlying ht, sizeOf, typeInfo, hi, Builtin.lenOf, Builtin.firstCells]
    · rw [h2]; simp [Builtin.append_, run_underlying ht, sizeOf, typeInfo, hi, Builtin.lenOf, Builtin.firstCells, hnc, storeCells]
  · have hcells : ∀ j u, news[j]? = some u → w.cell? (ad.add j) = some u := by
      intro j u hu
      obtain ⟨ad', h, hc⟩ := hr j u hu
      injection h with h
      subst h
      exact hc
    obtain ⟨v', w', hrun, h2, h3, _, h5⟩ := run_append_own_at (P := P) w 0 t ty e i z 1 bytes ht hi hz hsz hby hzs (by omega) (.slice A xs.length c) xs.length xs hown.1 ad news.length c2 news (by simp) hcells h1 h63 hbytes (Nat.zero_le _)
    have ho : Only fp w w' := by
      refine (Only.refl fp w).grown h3 (fun k hk _ => ?_)
      rcases A with _ | a0
      · simp [Value.ownBlock] at hk
      · simp [Value.ownBlock] at hk
        subst hk
        exact hown.2 _ rfl
    have key : ∀ A' c', v' = .slice A' (xs.length + news.length) c' → Own w' (More fp w w') e A' c' (xs ++ news) := by
      rintro A' c' rfl
      refine ⟨by simpa using h2, fun ad' e' => ?_⟩
      subst e'
      have hl := h2.lt ad'.block rfl
      rcases h5 with h5 | h5
      · rcases A with _ | a0
        · simp [Value.ownBlock] at h5
        · simp [Value.ownBlock] at h5
          rw [h5]
          exact .inl (hown.2 _ rfl)
      · simp [Value.ownBlock] at h5
        exact .inr ⟨by omega, hl.2⟩
    rcases h2.2 with ⟨hv, h0⟩ | ⟨g, cap, cur, hv, _⟩
    · subst hv
      exact ⟨none, 0, w', by rw [hrun, h0], key none 0 (by rw [h0]), ho⟩
    · subst hv
      exact ⟨_, _, w', hrun, key _ _ rfl, ho⟩

theorem wp_app {o : Oper} {a : Act} {K : Act → World → Prop} {Q : Exit → Act → World → Prop} (s x : Operand) (t : TypeId)
    (ho : o.op = .call { callee := .builtin .append, args := #[s, x], argTypes := #[t, t] })
    (e : TypeId) (z : Value) (bytes : Nat) (ht : P.underlying t = some (.slice e)) (hi : (P.info? e).map (fun i => (i.zero, i.size, i.bytes)) = some (some z, 1, bytes)) (hzs : z.cells.size = 1)
    (A : Option Addr) (n c : Nat) (xs : List Value) (hs : a.eval s = .slice A n c) (hn : n = xs.length) (hown : Own w fp e A c xs)
    (A2 : Option Addr) (m c2 : Nat) (news : List Value) (hx : a.eval x = .slice A2 m c2) (hm : m = news.length) (hr : Rd w A2 news) (h1 : ∀ u ∈ news, u.oneCell' = true)
    (h63 : n + m ≤ maxLen) (hbytes : (n + m) * bytes ≤ 140737488355328)
    (h : ∀ A' c' w', Own w' (More fp w w') e A' c' (xs ++ news) → Only fp w w' → K (a.put o.dst (.slice A' (n + m) c')) w') : o.wp P a w K Q := by
  obtain ⟨A', c', w', hrun, h2, h3⟩ := run_app (P := P) w t o.type e z bytes ht hi hzs A n c xs hn hown A2 m c2 news hm hr h1 h63 hbytes
  unfold Oper.wp execOp
  simp only [ho, resolve, invoke, builtin, Sem.run_bind, Sem.run_pure, Result.andThen_ok, List.map_toArray, List.map_cons, List.map_nil, hs, hx, hrun]
  exact h A' c' w' h2 h3

theorem wpList_app {ops : Array Oper} {rest : List Oper} {o : Oper} {a : Act} {Q : Exit → Act → World → Prop} (hgd : o.guard = none) (s x : Operand) (t : TypeId)
    (ho : o.op = .call { callee := .builtin .append, args := #[s, x], argTypes := #[t, t] })
    (e : TypeId) (z : Value) (bytes : Nat) (ht : P.underlying t = some (.slice e)) (hi : (P.info? e).map (fun i => (i.zero, i.size, i.bytes)) = some (some z, 1, bytes)) (hzs : z.cells.size = 1)
    (A : Option Addr) (n c : Nat) (xs : List Value) (hs : a.eval s = .slice A n c) (hn : n = xs.length) (hown : Own w fp e A c xs)
    (A2 : Option Addr) (m c2 : Nat) (news : List Value) (hx : a.eval x = .slice A2 m c2) (hm : m = news.length) (hr : Rd w A2 news) (h1 : ∀ u ∈ news, u.oneCell' = true)
    (h63 : n + m ≤ maxLen) (hbytes : (n + m) * bytes ≤ 140737488355328)
    (h : ∀ A' c' w', Own w' (More fp w w') e A' c' (xs ++ news) → Only fp w w' → wpList P ops Q rest (a.put o.dst (.slice A' (n + m) c')) w') : wpList P ops Q (o :: rest) a w :=
  wpList_plain hgd fun _ hK => wp_app w s x t ho e z bytes ht hi hzs A n c xs hs hn hown A2 m c2 news hx hm hr h1 h63 hbytes fun A' c' w' h2 h3 => hK _ _ (h A' c' w' h2 h3)
end
end Go.Proofs.Ytdghbdiapkelnaa

/-
  The mathematics of templates: parts, tokens, how alike they are, what they are merged, what varies, what is rendered. No Go here.
-/
namespace Go.Proofs.Ytdghbdiapkelnaa

structure Prt where
  any : Bool
  text : List UInt8
  deriving Inhabited, DecidableEq
structure Tok where
  kind : Int
  text : List UInt8
  deriving Inhabited, DecidableEq
def dot : Prt := ⟨true, []⟩
/-- does a kind's text vary? -/
def varies (k : Int) : Bool := decide (0 ≤ k) && decide (k ≤ 5)
def ofT (t : Tok) : Prt := if varies t.kind then dot else ⟨false, t.text⟩
def ofL (l : List Tok) : List Prt := l.map ofT
def fitB (p : Prt) (t : Tok) : Bool := p.any || decide (p.text = t.text)
def alikeN (ps : List Prt) (ts : List Tok) : Nat := (ps.zip ts).countP fun x => fitB x.1 x.2
def alikeI (ps : List Prt) (ts : List Tok) : Int := if ps.length = ts.length then (alikeN ps ts : Int) else -1
def fitsB (ps : List Prt) (ts : List Tok) : Bool := decide (alikeI ps ts = (ps.length : Int))
def wildN (ps : List Prt) : Nat := ps.countP (·.any)
def merge1 (p : Prt) (t : Option Tok) : Prt := if p.any then dot else match t with | some t => if p.text = t.text then p else dot | none => p
def mergeL : List Prt → List Tok → List Prt
  | [], _ => []
  | p :: r, ts => merge1 p ts.head? :: mergeL r ts.tail
def varsZ (z : List (Prt × Tok)) : List (List UInt8) := (z.filter (·.1.any)).map (·.2.text)
def varsL (ps : List Prt) (ts : List Tok) : List (List UInt8) := varsZ (ps.zip ts)
def wildTo (ps : List Prt) (k : Nat) : Nat := wildN (ps.take k)
def rTo (ps : List Prt) (vs : List (List UInt8)) : Nat → List UInt8
  | 0 => []
  | k + 1 => rTo ps vs k ++ (match ps[k]? with | some p => if p.any then vs.getD (wildTo ps k) [] else p.text | none => [])
def renderL (ps : List Prt) (vs : List (List UInt8)) : List UInt8 := rTo ps vs ps.length
def joinTo (ts : List Tok) (k : Nat) : List UInt8 := ((ts.take k).map (·.text)).flatten
def joinL (ts : List Tok) : List UInt8 := joinTo ts ts.length
def wP (p : Prt) : Nat := p.text.length + 1
def wT (t : Tok) : Nat := t.text.length + 1
def sumP (ps : List Prt) (k : Nat) : Nat := ((ps.take k).map wP).sum
def sumT (ts : List Tok) (k : Nat) : Nat := ((ts.take k).map wT).sum

theorem take_snoc' {α : Type} (l : List α) (k : Nat) (h : k < l.length) : l.take (k + 1) = l.take k ++ [l[k]] := List.take_succ_eq_append_getElem h
theorem ofL_take (l : List Tok) (k : Nat) (h : k < l.length) : (ofL l).take (k + 1) = (ofL l).take k ++ [ofT l[k]] := by
  unfold ofL
  rw [take_snoc' _ _ (by simpa using h)]; simp
theorem ofL_len (l : List Tok) : (ofL l).length = l.length := by simp [ofL]
theorem zip_len {ps : List Prt} {ts : List Tok} (h : ps.length = ts.length) : (ps.zip ts).length = ps.length := by simp; omega
/-- how alike the first k are -/
def alikeTo (ps : List Prt) (ts : List Tok) (k : Nat) : Nat := ((ps.zip ts).take k).countP fun x => fitB x.1 x.2
theorem alikeTo_succ (ps : List Prt) (ts : List Tok) (k : Nat) (h1 : k < ps.length) (h2 : k < ts.length) : alikeTo ps ts (k + 1) = alikeTo ps ts k + if fitB ps[k] ts[k] then 1 else 0 := by
  unfold alikeTo
  rw [take_snoc' _ _ (by simp; omega), List.countP_append]
  simp [List.countP_cons]
theorem alikeTo_le (ps : List Prt) (ts : List Tok) (k : Nat) : alikeTo ps ts k ≤ k := by
  unfold alikeTo
  refine Nat.le_trans List.countP_le_length ?_
  simp; omega
theorem alikeTo_all (ps : List Prt) (ts : List Tok) (h : ps.length = ts.length) : alikeTo ps ts ps.length = alikeN ps ts := by
  unfold alikeTo alikeN
  rw [List.take_of_length_le (by simp; omega)]
theorem alikeN_le (ps : List Prt) (ts : List Tok) : alikeN ps ts ≤ ps.length := by
  unfold alikeN
  refine Nat.le_trans List.countP_le_length ?_
  simp; omega
theorem wildTo_succ (ps : List Prt) (k : Nat) (h : k < ps.length) : wildTo ps (k + 1) = wildTo ps k + if ps[k].any then 1 else 0 := by
  unfold wildTo wildN
  rw [take_snoc' _ _ h, List.countP_append]
  simp [List.countP_cons]
theorem wildTo_le (ps : List Prt) (k : Nat) : wildTo ps k ≤ k := by
  unfold wildTo wildN
  refine Nat.le_trans List.countP_le_length ?_
  simp; omega
theorem wildTo_all (ps : List Prt) : wildTo ps ps.length = wildN ps := by unfold wildTo; rw [List.take_length]
theorem wildTo_mono (ps : List Prt) (k : Nat) : wildTo ps k ≤ wildN ps := by
  unfold wildTo wildN
  have h : ps = ps.take k ++ ps.drop k := (List.take_append_drop k ps).symm
  conv => rhs; rw [h, List.countP_append]
  omega
theorem wildTo_lt (ps : List Prt) (k : Nat) (h : k < ps.length) (ha : ps[k].any = true) : wildTo ps k < wildN ps := by
  have h1 := wildTo_succ ps k h
  have h2 := wildTo_mono ps (k + 1)
  rw [if_pos ha] at h1
  omega
theorem mergeL_len : ∀ (ps : List Prt) (ts : List Tok), (mergeL ps ts).length = ps.length
  | [], _ => rfl
  | p :: r, ts => by simp [mergeL, mergeL_len r]
theorem mergeL_at : ∀ (ps : List Prt) (ts : List Tok) (k : Nat) (h : k < ps.length), (mergeL ps ts)[k]'(by rw [mergeL_len]; exact h) = merge1 ps[k] ts[k]?
  | p :: r, ts, 0, h => by simp [mergeL, List.head?_eq_getElem?]
  | p :: r, ts, k + 1, h => by
    simp only [List.length_cons] at h
    simp only [mergeL, List.getElem_cons_succ]
    rw [mergeL_at r ts.tail k (by omega), List.getElem?_tail]
theorem mergeL_take (ps : List Prt) (ts : List Tok) (k : Nat) (h : k < ps.length) : (mergeL ps ts).take (k + 1) = (mergeL ps ts).take k ++ [merge1 ps[k] ts[k]?] := by
  rw [take_snoc' _ _ (by rw [mergeL_len]; exact h), mergeL_at _ _ _ h]
/-- what varies among the first k -/
def varsTo (ps : List Prt) (ts : List Tok) (k : Nat) : List (List UInt8) := varsZ ((ps.zip ts).take k)
theorem varsTo_succ (ps : List Prt) (ts : List Tok) (k : Nat) (h1 : k < ps.length) (h2 : k < ts.length) : varsTo ps ts (k + 1) = varsTo ps ts k ++ if ps[k].any then [ts[k].text] else [] := by
  unfold varsTo varsZ
  rw [take_snoc' _ _ (by simp; omega), List.filter_append, List.map_append]
  congr 1
  simp only [List.getElem_zip, List.filter_cons, List.filter_nil]
  split <;> rfl
theorem varsTo_all (ps : List Prt) (ts : List Tok) (k : Nat) (h : ps.length ≤ k ∨ ts.length ≤ k) : varsTo ps ts k = varsL ps ts := by
  unfold varsTo varsL
  rw [List.take_of_length_le (by simp; omega)]
theorem varsTo_len (ps : List Prt) (ts : List Tok) (k : Nat) : (varsTo ps ts k).length ≤ k := by
  unfold varsTo varsZ
  rw [List.length_map]
  refine Nat.le_trans (List.length_filter_le _ _) ?_
  simp; omega
theorem rTo_succ (ps : List Prt) (vs : List (List UInt8)) (k : Nat) (h : k < ps.length) : rTo ps vs (k + 1) = rTo ps vs k ++ if ps[k].any then vs.getD (wildTo ps k) [] else ps[k].text := by
  rw [rTo, List.getElem?_eq_getElem h]
theorem joinTo_succ (ts : List Tok) (k : Nat) (h : k < ts.length) : joinTo ts (k + 1) = joinTo ts k ++ ts[k].text := by
  unfold joinTo
  rw [take_snoc' _ _ h, List.map_append, List.flatten_append]; simp only [List.map_cons, List.map_nil, List.flatten_cons, List.flatten_nil, List.append_nil]
theorem joinTo_len (ts : List Tok) (k : Nat) : (joinTo ts k).length ≤ sumT ts k := by
  unfold joinTo sumT
  generalize ts.take k = l
  induction l with
  | nil => simp
  | cons a r ih => simp only [List.map_cons, List.flatten_cons, List.length_append, List.sum_cons, wT]; omega
theorem sumP_succ (ps : List Prt) (k : Nat) (h : k < ps.length) : sumP ps (k + 1) = sumP ps k + (ps[k].text.length + 1) := by
  unfold sumP
  rw [take_snoc' _ _ h, List.map_append, List.sum_append]; simp only [List.map_cons, List.map_nil, List.sum_cons, List.sum_nil, wP, Nat.add_zero]
theorem sumT_succ (ps : List Tok) (k : Nat) (h : k < ps.length) : sumT ps (k + 1) = sumT ps k + (ps[k].text.length + 1) := by
  unfold sumT
  rw [take_snoc' _ _ h, List.map_append, List.sum_append]; simp only [List.map_cons, List.map_nil, List.sum_cons, List.sum_nil, wT, Nat.add_zero]
theorem sumP_ge (ps : List Prt) (k : Nat) (h : k ≤ ps.length) : k ≤ sumP ps k := by
  induction k with
  | zero => omega
  | succ k ih => rw [sumP_succ ps k (by omega)]; have := ih (by omega); omega
theorem sumT_ge (ps : List Tok) (k : Nat) (h : k ≤ ps.length) : k ≤ sumT ps k := by
  induction k with
  | zero => omega
  | succ k ih => rw [sumT_succ ps k (by omega)]; have := ih (by omega); omega
theorem sumP_mono (ps : List Prt) (k : Nat) : sumP ps k ≤ sumP ps ps.length := by
  unfold sumP
  conv => rhs; rw [List.take_length, ← List.take_append_drop k ps, List.map_append, List.sum_append]
  omega
theorem sumT_mono (ps : List Tok) (k : Nat) : sumT ps k ≤ sumT ps ps.length := by
  unfold sumT
  conv => rhs; rw [List.take_length, ← List.take_append_drop k ps, List.map_append, List.sum_append]
  omega
def wideB (ps : List Prt) : Bool := decide (1500 < sumP ps ps.length)
def longB (ts : List Tok) : Bool := decide (1500 < sumT ts ts.length)

/-! ### what the laws say -/
theorem varies_iff (k : Int) : varies k = true ↔ 0 ≤ k ∧ k ≤ 5 := by simp [varies]
theorem fitB_of (t : Tok) : fitB (ofT t) t = true := by
  unfold fitB ofT
  split <;> simp [dot]
theorem alikeN_all (ps : List Prt) (ts : List Tok) (h : ps.length = ts.length) : alikeN ps ts = ps.length ↔ ∀ k (h1 : k < ps.length) (h2 : k < ts.length), fitB ps[k] ts[k] = true := by
  unfold alikeN
  refine (show (ps.zip ts).countP (fun x => fitB x.1 x.2) = ps.length ↔ (ps.zip ts).countP (fun x => fitB x.1 x.2) = (ps.zip ts).length by rw [zip_len h]).trans ?_
  rw [List.countP_eq_length]
  constructor
  · intro hh k h1 h2
    have := hh ((ps.zip ts)[k]'(by simp; omega)) (List.getElem_mem _)
    simpa using this
  · intro hh x hx
    obtain ⟨k, hk, rfl⟩ := List.getElem_of_mem hx
    simp only [List.length_zip] at hk
    simp only [List.getElem_zip]
    exact hh k (by omega) (by omega)
theorem fits_iff (ps : List Prt) (ts : List Tok) : fitsB ps ts = true ↔ ps.length = ts.length ∧ ∀ k (h1 : k < ps.length) (h2 : k < ts.length), fitB ps[k] ts[k] = true := by
  unfold fitsB alikeI
  rw [decide_eq_true_iff]
  by_cases h : ps.length = ts.length
  · rw [if_pos h, ← alikeN_all _ _ h]
    constructor
    · intro e; exact ⟨h, by omega⟩
    · rintro ⟨_, e⟩; rw [e]
  · rw [if_neg h]
    constructor
    · intro e; omega
    · rintro ⟨e, _⟩; exact absurd e h
theorem fits_of (l : List Tok) : fitsB (ofL l) l = true := by
  rw [fits_iff]
  refine ⟨ofL_len l, fun k h1 h2 => ?_⟩
  simp only [ofL, List.getElem_map]
  exact fitB_of _
theorem varsL_len (ps : List Prt) (ts : List Tok) (h : ps.length = ts.length) : (varsL ps ts).length = wildN ps := by
  unfold varsL varsZ wildN
  rw [List.length_map, ← List.countP_eq_length_filter]
  have e : ps = (ps.zip ts).map (·.1) := by rw [List.map_fst_zip]; omega
  conv => rhs; rw [e, List.countP_map]
  rfl
theorem filter_at {α : Type} (f : α → Bool) : ∀ (z : List α) (k : Nat) (h : k < z.length), f z[k] = true → (z.filter f)[(z.take k).countP f]? = some z[k]
  | a :: r, 0, h, hf => by
    simp only [List.getElem_cons_zero] at hf
    simp [List.filter_cons, hf]
  | a :: r, k + 1, h, hf => by
    simp only [List.length_cons] at h
    simp only [List.getElem_cons_succ] at hf
    have ih := filter_at f r k (by omega) hf
    simp only [List.take_succ_cons, List.countP_cons, List.filter_cons, List.getElem_cons_succ]
    by_cases ha : f a = true
    · simp only [ha, if_true, List.getElem?_cons_succ]; exact ih
    · simp only [ha, if_false, Nat.add_zero, Bool.false_eq_true]; exact ih
theorem vars_at (ps : List Prt) (ts : List Tok) (k : Nat) (h1 : k < ps.length) (h2 : k < ts.length) (ha : ps[k].any = true) (hl : ps.length = ts.length) : (varsL ps ts).getD (wildTo ps k) [] = ts[k].text := by
  have h := filter_at (fun x : Prt × Tok => x.1.any) (ps.zip ts) k (by simp; omega) (by simpa using ha)
  have e : ((ps.zip ts).take k).countP (fun x => x.1.any) = wildTo ps k := by
    unfold wildTo wildN
    have e1 : ps.take k = ((ps.zip ts).take k).map (·.1) := by
      rw [List.map_take, List.map_fst_zip (by omega)]
    rw [e1, List.countP_map]
    rfl
  rw [e] at h
  unfold varsL varsZ
  rw [List.getD_eq_getElem?_getD, List.getElem?_map, h]
  simp
theorem render_back (ps : List Prt) (ts : List Tok) (hf : fitsB ps ts = true) : renderL ps (varsL ps ts) = joinL ts := by
  obtain ⟨hl, hk⟩ := (fits_iff ps ts).1 hf
  have key : ∀ k, k ≤ ps.length → rTo ps (varsL ps ts) k = joinTo ts k := by
    intro k
    induction k with
    | zero => intro _; rfl
    | succ k ih =>
      intro h
      rw [rTo_succ _ _ _ (by omega), joinTo_succ _ _ (by omega), ih (by omega)]
      congr 1
      have hfit := hk k (by omega) (by omega)
      by_cases ha : ps[k].any = true
      · rw [if_pos ha]
        exact vars_at ps ts k (by omega) (by omega) ha hl
      · rw [if_neg ha]
        unfold fitB at hfit
        simpa [ha] using hfit
  unfold renderL joinL
  rw [key _ (Nat.le_refl _), hl]
theorem merge1_some (p : Prt) (t : Tok) : merge1 p (some t) = if fitB p t && !p.any then p else dot := by
  unfold merge1 fitB
  by_cases ha : p.any = true
  · simp [ha]
  · by_cases he : p.text = t.text <;> simp [ha, he]
theorem merge_any (p : Prt) (t : Tok) : (merge1 p (some t)).any = (p.any || !decide (p.text = t.text)) := by
  unfold merge1
  by_cases ha : p.any = true
  · simp [ha, dot]
  · by_cases he : p.text = t.text
    · simp [ha, he]
    · simp [ha, he, dot]
theorem merge_text (p : Prt) (t : Tok) (h : (merge1 p (some t)).any = true) : (merge1 p (some t)).text = [] := by
  unfold merge1 at h ⊢
  by_cases ha : p.any = true
  · simp [ha, dot]
  · by_cases he : p.text = t.text
    · simp [ha, he] at h
    · simp [ha, he, dot]
theorem fit_merge (p : Prt) (t u : Tok) (h : fitB p u = true ∨ u = t) : fitB (merge1 p (some t)) u = true := by
  unfold merge1
  by_cases ha : p.any = true
  · simp [ha, dot, fitB]
  · by_cases he : p.text = t.text
    · rcases h with h | rfl
      · simp [ha, he]; simpa [fitB, ha, he] using h
      · simp [ha, he, fitB]
    · simp [ha, he, dot, fitB]
theorem merge_fits (ps : List Prt) (ts us : List Tok) (hl : ps.length = ts.length) (h : fitsB ps us = true ∨ us = ts) : fitsB (mergeL ps ts) us = true := by
  have hlu : ps.length = us.length := by
    rcases h with h | rfl
    · exact ((fits_iff ps us).1 h).1
    · exact hl
  rw [fits_iff]
  refine ⟨by rw [mergeL_len]; exact hlu, fun k h1 h2 => ?_⟩
  rw [mergeL_len] at h1
  rw [mergeL_at _ _ _ h1, List.getElem?_eq_getElem (by omega)]
  refine fit_merge _ _ _ ?_
  rcases h with h | rfl
  · exact .inl (((fits_iff ps us).1 h).2 k h1 h2)
  · exact .inr rfl
theorem merge_again1 (p : Prt) (t : Tok) : merge1 (merge1 p (some t)) (some t) = merge1 p (some t) := by
  unfold merge1
  by_cases ha : p.any = true
  · simp [ha, dot]
  · by_cases he : p.text = t.text
    · simp [ha, he]
    · simp [ha, he, dot]
theorem merge_again (ps : List Prt) (ts : List Tok) (hl : ps.length = ts.length) : mergeL (mergeL ps ts) ts = mergeL ps ts := by
  refine List.ext_getElem (by simp [mergeL_len]) fun k h1 h2 => ?_
  rw [mergeL_len, mergeL_len] at h1
  rw [mergeL_at _ _ k (by rw [mergeL_len]; exact h1), mergeL_at _ _ k h1, List.getElem?_eq_getElem (by omega)]
  exact merge_again1 _ _
theorem merge1_eq (p : Prt) (t : Tok) : merge1 p (some t) = if p.any = true then dot else if p.text = t.text then p else dot := rfl
theorem merge_comm1 (p : Prt) (t u : Tok) : merge1 (merge1 p (some t)) (some u) = merge1 (merge1 p (some u)) (some t) := by
  simp only [merge1_eq]
  by_cases ha : p.any = true
  · simp [ha, dot]
  · have ha' : p.any = false := by simpa using ha
    have hd : dot.any = true := rfl
    by_cases he : p.text = t.text <;> by_cases hf : p.text = u.text
    · rw [if_neg ha, if_pos he, if_neg ha, if_pos hf, if_neg ha, if_pos he]
    · rw [if_neg ha, if_pos he, if_neg ha, if_neg hf, if_pos hd]
    · rw [if_neg ha, if_neg he, if_pos hd, if_neg ha, if_pos hf, if_neg ha, if_neg he]
    · rw [if_neg ha, if_neg he, if_pos hd, if_neg ha, if_neg hf, if_pos hd]
theorem merge_comm (ps : List Prt) (ts us : List Tok) (h1 : ps.length = ts.length) (h2 : ps.length = us.length) : mergeL (mergeL ps ts) us = mergeL (mergeL ps us) ts := by
  refine List.ext_getElem (by simp [mergeL_len]) fun k k1 k2 => ?_
  rw [mergeL_len, mergeL_len] at k1
  rw [mergeL_at (mergeL ps ts) us k (by rw [mergeL_len]; exact k1), mergeL_at (mergeL ps us) ts k (by rw [mergeL_len]; exact k1), mergeL_at ps ts k k1, mergeL_at ps us k k1, List.getElem?_eq_getElem (by omega), List.getElem?_eq_getElem (by omega)]
  exact merge_comm1 _ _ _
theorem merge_wild : ∀ (ps : List Prt) (ts : List Tok), wildN ps ≤ wildN (mergeL ps ts)
  | [], _ => Nat.le_refl _
  | p :: r, ts => by
    have ih := merge_wild r ts.tail
    unfold wildN at ih ⊢
    simp only [mergeL, List.countP_cons]
    have : p.any = true → (merge1 p ts.head?).any = true := fun h => by unfold merge1; simp [h, dot]
    by_cases h : p.any = true
    · simp [h, this h]; exact ih
    · simp [h]; omega
end Go.Proofs.Ytdghbdiapkelnaa
