/-
  Texts of this claim, joined (part 0): contracts and lemmas that the last text goes by. No statement of the seat is proved here.
-/
import Derived.WalkKit
import Derived.Deep.Draws
import Derived.Deep.QuietTactic
import Derived.BigQuiet
import Derived.Maps.AppendAt
import Derived.Deep.AppendLies
import Derived.OneCell
import Derived.Lib.Hide
import Derived.Deep.MidRow
import Derived.Deep.AppendSrc
import Derived.Test.YtbokimeojhkgmaaDoorRows
import Derived.ProofKit
import Derived.OpenShut
import Derived.Deep.DeepHandedRow
import Derived.Deep.Matrix
import Derived.LaidLaws
import Derived.Laws.IdiomStrings
import Derived.Lib.BufferRead
import Derived.Deep.CutBlock
import Derived.Deep.RegionHeld3
import Derived.Deep.RegionHeldLaw
import Derived.Deep.RegionLaw
set_option linter.unusedVariables false
set_option linter.unusedSimpArgs false
/-
  Words for memory, for every later text: what a piece of memory holds ('Rd'), what the call owns ('Own'), what may turn ('Only'), and append onto what is owned. No statement of the seat is proved here.
-/
namespace Go.Proofs.YtbokimeojhkgmaaDoor
open Go Go.RowKit

/-- a byte as a cell -/
def bv (u : UInt8) : Value := .int .u8 (u.toNat : Int)
theorem bv_one (u : UInt8) : (bv u).oneCell' = true := rfl
theorem bvs_one (l : List UInt8) : ∀ u ∈ l.map bv, u.oneCell' = true := by
  intro u hu
  obtain ⟨x, _, rfl⟩ := List.mem_map.1 hu
  rfl

/-- a number as a cell; what an int bears -/
def iv (v : Int) : Value := .int .i64 v
def isInt (v : Int) : Prop := -9223372036854775808 ≤ v ∧ v ≤ 9223372036854775807

/-! ### What may turn -/
structure Only (S : Nat → Prop) (w w' : World) : Prop where
  os : w'.os = w.os
  tape : w'.tape = w.tape
  output : w'.output = w.output
  size : w.heap.size ≤ w'.heap.size
  block : ∀ k, k < w.heap.size → ¬ S k → w'.heap[k]? = w.heap[k]?

section
variable {S T : Nat → Prop} {a b c w w' : World}
theorem Only.refl (S : Nat → Prop) (w : World) : Only S w w := ⟨rfl, rfl, rfl, Nat.le_refl _, fun _ _ _ => rfl⟩
theorem Only.trans (h : Only S a b) (k : Only T b c) (hs : ∀ i, i < a.heap.size → T i → S i) : Only S a c :=
  ⟨k.os.trans h.os, k.tape.trans h.tape, k.output.trans h.output, Nat.le_trans h.size k.size,
    fun i hi hn => (k.block i (Nat.lt_of_lt_of_le hi h.size) (fun ht => hn (hs i hi ht))).trans (h.block i hi hn)⟩
theorem Only.mono (h : Only S a b) (hs : ∀ i, i < a.heap.size → S i → T i) : Only T a b :=
  ⟨h.os, h.tape, h.output, h.size, fun i hi hn => h.block i hi (fun x => hn (hs i hi x))⟩
theorem Only.drew (h : Only S a w) : Only S a w.drew := ⟨h.os, h.tape, h.output, h.size, h.block⟩
theorem Only.drewN (h : Only S a w) (n : Nat) : Only S a (w.drewN n) := ⟨h.os, h.tape, h.output, h.size, h.block⟩
theorem Only.alloc (h : Only S a w) (o : Obj) : Only S a (w.alloc o) :=
  ⟨h.os, h.tape, h.output, Nat.le_trans h.size (by simp), fun i hi hn => (Below.heap_alloc w o i (Nat.lt_of_lt_of_le hi h.size)).trans (h.block i hi hn)⟩
theorem Only.setCell (h : Only S a w) {p : Addr} (hp : S p.block ∨ a.heap.size ≤ p.block) (u : Value) : Only S a (w.setCell p u) :=
  ⟨h.os, h.tape, h.output, by simpa [World.setCell] using h.size, fun i hi hn => (Below.heap_setCell w p u i (by
    rintro rfl
    rcases hp with hp | hp
    · exact hn hp
    · omega)).trans (h.block i hi hn)⟩
theorem Only.grown (h : Only S a w) {row : Option Nat} (hg : w.grownBy w' row) (hr : ∀ k, row = some k → k < a.heap.size → S k) : Only S a w' :=
  ⟨hg.os.trans h.os, hg.tape.trans h.tape, hg.output.trans h.output, Nat.le_trans h.size hg.size,
    fun i hi hn => (hg.block i (Nat.lt_of_lt_of_le hi h.size) (fun e => hn (hr i e.symm hi))).trans (h.block i hi hn)⟩
theorem Only.below {B : Nat} (h : Only S a b) (hs : ∀ i, S i → B ≤ i) (hB : B ≤ a.heap.size) : Below B a b :=
  ⟨h.os, h.tape, h.output, h.size, fun i hi => h.block i (by omega) (fun x => by have := hs i x; omega)⟩
theorem Only.of_below {B : Nat} (h : Below B a b) (hs : ∀ i, B ≤ i → i < a.heap.size → S i) : Only S a b :=
  ⟨h.os, h.tape, h.output, h.size, fun i hi hn => h.block i (by
    rcases Nat.lt_or_ge i B with hl | hl
    · exact hl
    · exact absurd (hs i hl hi) hn)⟩
theorem Only.of_ext (h : Below a.heap.size a b) : Only S a b := Only.of_below h (fun i h1 h2 => by omega)
end

/-- all that was there is as it was, from world to world -/
theorem ext_trans {a b c : World} (h : Below a.heap.size a b) (k : Below b.heap.size b c) : Below a.heap.size a c := h.trans (k.mono h.size)
theorem ext_drewN {B : Nat} {a w : World} (h : Below B a w) (n : Nat) : Below B a (w.drewN n) := ⟨h.os, h.tape, h.output, h.size, h.block⟩

/-! ### What memory holds -/
/-- From address 'A' on there lie the cells 'xs'. -/
def Rd (w : World) (A : Option Addr) (xs : List Value) : Prop := ∀ (j : Nat) (u : Value), xs[j]? = some u → ∃ ad, A = some ad ∧ w.cell? (ad.add j) = some u

theorem block_add (a : Addr) (n : Nat) : (a.add n).block = a.block := by unfold Addr.add; split <;> rfl
theorem add_add_ (a : Addr) (i j : Nat) : (a.add i).add j = a.add (i + j) := by
  unfold Addr.add
  by_cases hi : i = 0 <;> by_cases hj : j = 0 <;> simp [hi, hj, Nat.add_assoc]

section
variable {S : Nat → Prop} {w w' : World} {A : Option Addr} {xs : List Value}
theorem Rd.nil (w : World) (A : Option Addr) : Rd w A [] := fun j u h => by simp at h
theorem Rd.at_ (h : Rd w A xs) {k : Nat} (hk : k < xs.length) : ∃ ad, A = some ad ∧ w.cell? (ad.add k) = some xs[k] := h k _ (List.getElem?_eq_getElem hk)
theorem Rd.keep (h : Rd w A xs) (hk : ∀ ad, A = some ad → ad.block < w.heap.size → w'.heap[ad.block]? = w.heap[ad.block]?) : Rd w' A xs := fun j u hu => by
  obtain ⟨ad, e, hc⟩ := h j u hu
  have hb := World.block_lt_of_cell? w _ hc
  rw [block_add] at hb
  exact ⟨ad, e, (World.cell?_of_block (by rw [block_add]; exact hk ad e hb)).trans hc⟩
theorem Rd.ext (h : Rd w A xs) (hb : Below w.heap.size w w') : Rd w' A xs := h.keep fun _ _ hl => hb.block _ hl
theorem Rd.only (h : Rd w A xs) (ho : Only S w w') (hn : ∀ ad, A = some ad → xs ≠ [] → ¬ S ad.block) : Rd w' A xs := by
  rcases xs with _ | ⟨x, r⟩
  · exact Rd.nil _ _
  · exact h.keep fun ad e hl => ho.block _ hl (hn ad e (by simp))
theorem Rd.drew (h : Rd w A xs) : Rd w.drew A xs := h
theorem Rd.drewN (h : Rd w A xs) (n : Nat) : Rd (w.drewN n) A xs := h
theorem Rd.undrewN {n : Nat} (h : Rd (w.drewN n) A xs) : Rd w A xs := h
theorem Rd.alloc (h : Rd w A xs) (o : Obj) : Rd (w.alloc o) A xs := h.keep fun _ _ hl => Below.heap_alloc w o _ hl
theorem Rd.setCell (h : Rd w A xs) {p : Addr} (hn : ∀ ad, A = some ad → ad.block ≠ p.block) (u : Value) : Rd (w.setCell p u) A xs := h.keep fun ad e _ => Below.heap_setCell w p u _ (hn ad e)
theorem Rd.take (h : Rd w A xs) (k : Nat) : Rd w A (xs.take k) := fun j u hu => h j u (by
  rw [List.getElem?_take] at hu
  split at hu
  · exact hu
  · cases hu)
/-- behind a cut in front: the model's own form of the address -/
theorem Rd.cut (h : Rd w A xs) {k cap : Nat} (hc : xs.length ≤ cap) : Rd w (if cap = k then A else A.map (·.add (k * 1))) (xs.drop k) := fun j u hu => by
  rw [List.getElem?_drop] at hu
  obtain ⟨ad, rfl, hcell⟩ := h _ u hu
  have hl : k + j < xs.length := (List.getElem?_eq_some_iff.1 hu).1
  rw [if_neg (by omega)]
  refine ⟨ad.add (k * 1), rfl, ?_⟩
  rw [add_add_, Nat.mul_one]
  exact hcell
theorem Rd.lit (w : World) (cs : Array Value) (t : TypeId) : Rd (w.alloc (.cells cs t)) (some ⟨w.heap.size, 0, none⟩) cs.toList := fun j u hu =>
  ⟨_, rfl, World.news_of_block (heap_alloc_new w _) j u hu⟩
theorem Rd.lit_at (w : World) (cs : Array Value) (t : TypeId) {fr : Nat × Nat} {g : Nat} (hg : g = w.heap.size) : Rd (w.alloc (.cells cs t fr)) (some ⟨g, 0, none⟩) cs.toList := by
  subst hg
  exact fun j u hu => ⟨_, rfl, World.news_of_block (heap_alloc_new w _) j u hu⟩
theorem Rd.blk {g : Nat} {cs : Array Value} {t : TypeId} {fr : Nat × Nat} (h : w.heap[g]? = some (.cells cs t fr)) : Rd w (some ⟨g, 0, none⟩) cs.toList := fun j u hu =>
  ⟨_, rfl, World.news_of_block h j u hu⟩
end

/-! ### A block that is known whole -/
def Blk (w : World) (g : Nat) (t : TypeId) (cs : Array Value) : Prop := w.heap[g]? = some (.cells cs t (0, 0))
section
variable {S : Nat → Prop} {w w' : World} {g : Nat} {t : TypeId} {cs : Array Value}
theorem Blk.lt (h : Blk w g t cs) : g < w.heap.size := lt_of_block h
theorem Blk.cell (h : Blk w g t cs) (i : Nat) : w.cell? ⟨g, i, none⟩ = cs[i]? := cell_of_row w g i cs t (0, 0) h
theorem Blk.free (h : Blk w g t cs) (i : Nat) : w.frozen? ⟨g, i, none⟩ = false := frozen_of_row w g i cs t h
theorem Blk.new (w : World) (t : TypeId) (cs : Array Value) : Blk (w.alloc (.cells cs t)) w.heap.size t cs := heap_alloc_new w _
theorem Blk.drew (h : Blk w g t cs) : Blk w.drew g t cs := h
theorem Blk.drewN (h : Blk w g t cs) (n : Nat) : Blk (w.drewN n) g t cs := h
theorem Blk.alloc (h : Blk w g t cs) (o : Obj) : Blk (w.alloc o) g t cs := (Below.heap_alloc w o g h.lt).trans h
theorem Blk.only (h : Blk w g t cs) (ho : Only S w w') (hn : ¬ S g) : Blk w' g t cs := (ho.block g h.lt hn).trans h
theorem Blk.ext (h : Blk w g t cs) (hb : Below w.heap.size w w') : Blk w' g t cs := (hb.block g h.lt).trans h
theorem Blk.far (h : Blk w g t cs) {p : Addr} (hp : g ≠ p.block) (u : Value) : Blk (w.setCell p u) g t cs := (Below.heap_setCell w p u g hp).trans h
theorem Blk.put (h : Blk w g t cs) (i : Nat) (u : Value) : Blk (w.setCell ⟨g, i, none⟩ u) g t (cs.setIfInBounds i u) := heap_setCell_same w g i cs t u h
end

/-! ### A row that the call owns -/
/-- The slice of address 'A' and capacity 'c' is a row of the call's own that holds 'xs'; its block is one of 'fp'. -/
def Own (w : World) (fp : Nat → Prop) (e : TypeId) (A : Option Addr) (c : Nat) (xs : List Value) : Prop :=
  w.ownsRow 0 e 1 (.slice A xs.length c) xs.length xs ∧ ∀ ad, A = some ad → fp ad.block

/-- what was in 'fp', and what has been made from 'w' to 'w'' -/
def More (fp : Nat → Prop) (w w' : World) : Nat → Prop := fun k => fp k ∨ (w.heap.size ≤ k ∧ k < w'.heap.size)

section
variable {S fp fp' : Nat → Prop} {w w' : World} {e : TypeId} {A : Option Addr} {c : Nat} {xs : List Value}
theorem Own.cap (h : Own w fp e A c xs) : xs.length ≤ c := by
  rcases h.1.2 with ⟨h1, h2⟩ | ⟨g, cap, cur, h1, _, _, hc, _⟩
  · injection h1; omega
  · injection h1; omega
theorem Own.some_ (h : Own w fp e A c xs) : (A = none ∧ c = 0 ∧ xs = []) ∨ ∃ g, A = some ⟨g, 0, none⟩ ∧ fp g ∧ g < w.heap.size := by
  rcases h.1.2 with ⟨h1, h2⟩ | ⟨g, cap, cur, h1, _, hg, hc, _⟩
  · injection h1 with a1 a2 a3
    exact .inl ⟨a1, a3, List.eq_nil_of_length_eq_zero h2⟩
  · injection h1 with a1 a2 a3
    exact .inr ⟨g, a1, h.2 _ a1, lt_of_block hg⟩
theorem Own.rd (h : Own w fp e A c xs) : Rd w A xs := by
  rcases h.some_ with ⟨rfl, rfl, rfl⟩ | ⟨g, rfl, _, _⟩
  · exact Rd.nil _ _
  · exact fun j u hu => ⟨_, rfl, h.1.cells (g := g) rfl j u hu⟩
theorem Own.none_ (w : World) (fp : Nat → Prop) (e : TypeId) : Own w fp e none 0 [] := ⟨World.ownsRow_nil w 0 e 1, fun _ h => by cases h⟩
theorem Own.mono (h : Own w fp e A c xs) (hs : ∀ k, fp k → k < w.heap.size → fp' k) : Own w fp' e A c xs := by
  refine ⟨h.1, fun ad e' => ?_⟩
  rcases h.some_ with ⟨rfl, _⟩ | ⟨g, rfl, hg, hl⟩
  · cases e'
  · injection e' with e'; subst e'; exact hs _ hg hl
theorem Own.only (h : Own w fp e A c xs) (ho : Only S w w') (hn : ∀ k, fp k → ¬ S k) : Own w' fp e A c xs := by
  refine ⟨⟨h.1.1, ?_⟩, h.2⟩
  rcases h.1.2 with h1 | ⟨g, cap, cur, h1, hb, hg, r⟩
  · exact .inl h1
  · refine .inr ⟨g, cap, cur, h1, hb, ?_, r⟩
    injection h1 with a1 a2 a3
    rw [ho.block g (lt_of_block hg) (hn _ (h.2 _ a1))]
    exact hg
theorem Own.ext (h : Own w fp e A c xs) (hb : Below w.heap.size w w') : Own w' fp e A c xs := by
  refine ⟨⟨h.1.1, ?_⟩, h.2⟩
  rcases h.1.2 with h1 | ⟨g, cap, cur, h1, hb', hg, r⟩
  · exact .inl h1
  · exact .inr ⟨g, cap, cur, h1, hb', (hb.block g (lt_of_block hg)).trans hg, r⟩
theorem Own.drew (h : Own w fp e A c xs) : Own w.drew fp e A c xs := h
theorem Own.drewN (h : Own w fp e A c xs) (n : Nat) : Own (w.drewN n) fp e A c xs := h
theorem Own.alloc (h : Own w fp e A c xs) (o : Obj) : Own (w.alloc o) fp e A c xs := h.ext ((Below.refl _ _).alloc (Nat.le_refl _) o)
theorem Own.setCell (h : Own w fp e A c xs) {p : Addr} (hn : ∀ ad, A = some ad → ad.block ≠ p.block) (u : Value) : Own (w.setCell p u) fp e A c xs := by
  refine ⟨ownsRow_setCell_other h.1 ?_ u, h.2⟩
  rcases A with _ | ad
  · simp [Value.ownBlock]
  · simpa [Value.ownBlock] using hn ad rfl
/-- rows of one element type and a block of another one are apart -/
theorem Own.ne_blk {g : Nat} {t : TypeId} {cs : Array Value} (h : Own w fp e A c xs) (hb : Blk w g t cs) (ht : e ≠ t) : ∀ ad, A = some ad → ad.block ≠ g := by
  rintro ad rfl rfl
  rcases h.1.2 with ⟨h1, _⟩ | ⟨g', cap, cur, h1, _, hg, _⟩
  · injection h1 with h1; cases h1
  · injection h1 with h1 _ _
    injection h1 with h1
    subst h1
    unfold Blk at hb
    rw [hg] at hb
    injection hb with hb
    injection hb with _ ht'
    exact ht ht'
theorem Own.lit (w : World) (fp : Nat → Prop) (cs : Array Value) (e : TypeId) (hm : cs.size ≤ maxLen) (hf : fp w.heap.size) : Own (w.alloc (.cells cs e)) fp e (some ⟨w.heap.size, 0, none⟩) cs.size cs.toList := by
  refine ⟨?_, fun ad h => by injection h with h; subst h; exact hf⟩
  have h := World.ownsRow_lit (base := 0) (e := e) (size := 1) w cs cs.size (Nat.zero_le _) hm (by simp)
  simpa using h
end

/-! ### growth, step by step -/
section
variable {fp : Nat → Prop} {a b b' c : World}
theorem More.join (h1 : a.heap.size ≤ b.heap.size) (h2 : b.heap.size ≤ b'.heap.size) (h3 : b'.heap.size ≤ c.heap.size) {k : Nat} (hk : More (More fp a b) b' c k) : More fp a c k := by
  rcases hk with (hk | hk) | hk
  · exact .inl hk
  · exact .inr (by omega)
  · exact .inr (by omega)
theorem Only.join (h : Only fp a b') (h2 : Only (More fp a b) b' c) : Only fp a c := h.trans h2 (fun k hk hm => by
  rcases hm with hm | hm
  · exact hm
  · omega)
theorem Own.join {e : TypeId} {A : Option Addr} {n : Nat} {xs : List Value} (h1 : a.heap.size ≤ b.heap.size) (h2 : b.heap.size ≤ b'.heap.size) (h3 : b'.heap.size ≤ c.heap.size) (h : Own c (More (More fp a b) b' c) e A n xs) : Own c (More fp a c) e A n xs :=
  h.mono fun _ hk _ => More.join h1 h2 h3 hk
end

/-! ### Memory that is read, apart from 'fp'; rows of bytes -/
def RdF (fp : Nat → Prop) (w : World) (A : Option Addr) (xs : List Value) : Prop := Rd w A xs ∧ ∀ ad, A = some ad → xs ≠ [] → ¬ fp ad.block

def RowsF (fp : Nat → Prop) (w : World) (A : Option Addr) (xss : List (List UInt8)) : Prop :=
  ∃ vs, RdF fp w A vs ∧ vs.length = xss.length ∧ ∀ (j : Nat) (v : Value) (xs : List UInt8), vs[j]? = some v → xss[j]? = some xs → ∃ B c, v = .slice B xs.length c ∧ xs.length ≤ c ∧ RdF fp w B (xs.map bv)

section
variable {fp fp' : Nat → Prop} {w w' : World} {A : Option Addr} {xs : List Value} {xss : List (List UInt8)}
theorem RdF.only (h : RdF fp w A xs) (ho : Only fp w w') : RdF fp w' A xs := ⟨h.1.only ho h.2, h.2⟩
theorem RdF.of (h : Rd w A xs) : RdF (fun _ => False) w A xs := ⟨h, fun _ _ _ x => x⟩
/-- what is read lies below what is new -/
theorem RdF.fresh (h : Rd w A xs) (hf : ∀ k, fp k → w.heap.size ≤ k) : RdF fp w A xs := by
  refine ⟨h, fun ad e hne hk => ?_⟩
  rcases xs with _ | ⟨x, r⟩
  · exact hne rfl
  · obtain ⟨ad', e', hc⟩ := h 0 x rfl
    rw [e] at e'; injection e' with e'; subst e'
    have hb := World.block_lt_of_cell? w _ hc
    rw [block_add] at hb
    have := hf _ hk
    omega
theorem RdF.weak (h : RdF fp w A xs) (hs : ∀ k, fp' k → fp k) : RdF fp' w A xs := ⟨h.1, fun ad e hn x => h.2 ad e hn (hs _ x)⟩
theorem RowsF.only (h : RowsF fp w A xss) (ho : Only fp w w') : RowsF fp w' A xss := by
  obtain ⟨vs, h1, h2, h3⟩ := h
  refine ⟨vs, h1.only ho, h2, fun j v xs hv hx => ?_⟩
  obtain ⟨B, c, e, hc, hr⟩ := h3 j v xs hv hx
  exact ⟨B, c, e, hc, hr.only ho⟩
theorem RowsF.weak (h : RowsF fp w A xss) (hs : ∀ k, fp' k → fp k) : RowsF fp' w A xss := by
  obtain ⟨vs, h1, h2, h3⟩ := h
  refine ⟨vs, h1.weak hs, h2, fun j v xs hv hx => ?_⟩
  obtain ⟨B, c, e, hc, hr⟩ := h3 j v xs hv hx
  exact ⟨B, c, e, hc, hr.weak hs⟩
theorem RowsF.ext (h : RowsF fp w A xss) (hb : Below w.heap.size w w') : RowsF fp w' A xss := h.only (Only.of_ext hb)
/-- row number k -/
theorem RowsF.at_ (h : RowsF fp w A xss) {k : Nat} (hk : k < xss.length) :
    ∃ ad B c, A = some ad ∧ w.cell? (ad.add k) = some (.slice B xss[k].length c) ∧ xss[k].length ≤ c ∧ RdF fp w B (xss[k].map bv) := by
  obtain ⟨vs, h1, h2, h3⟩ := h
  obtain ⟨ad, e, hc⟩ := h1.1.at_ (k := k) (by omega)
  obtain ⟨B, c, e2, hl, hr⟩ := h3 k _ _ (List.getElem?_eq_getElem (by omega)) (List.getElem?_eq_getElem hk)
  exact ⟨ad, B, c, e, by rw [hc, e2], hl, hr⟩
theorem RdF.more (h : RdF fp w A xs) (ho : Only fp w w') : RdF (More fp w w') w' A xs := by
  refine ⟨h.1.only ho h.2, fun ad e hn hm => ?_⟩
  rcases hm with hm | hm
  · exact h.2 ad e hn hm
  · rcases xs with _ | ⟨x, r⟩
    · exact hn rfl
    · obtain ⟨ad', e', hc⟩ := h.1 0 x rfl
      rw [e] at e'
      injection e' with e'
      subst e'
      have hb := World.block_lt_of_cell? w _ hc
      rw [block_add] at hb
      omega
theorem RowsF.more (h : RowsF fp w A xss) (ho : Only fp w w') : RowsF (More fp w w') w' A xss := by
  obtain ⟨vs, h1, h2, h3⟩ := h
  refine ⟨vs, h1.more ho, h2, fun j v xs hv hx => ?_⟩
  obtain ⟨B, c, e, hc, hr⟩ := h3 j v xs hv hx
  exact ⟨B, c, e, hc, hr.more ho⟩
/-- cells that were just laid -/
theorem RdF.lit (w : World) (cs : Array Value) (t : TypeId) {fr : Nat × Nat} {g : Nat} (hg : g = w.heap.size) (hf : ¬ fp g) : RdF fp (w.alloc (.cells cs t fr)) (some ⟨g, 0, none⟩) cs.toList :=
  ⟨Rd.lit_at w cs t hg, fun ad e _ => by injection e with e; subst e; exact hf⟩
theorem RdF.alloc (h : RdF fp w A xs) (o : Obj) : RdF fp (w.alloc o) A xs := ⟨h.1.alloc o, h.2⟩
/-- a list of one row, of two rows, that was just laid -/
theorem RowsF.one {xs : List UInt8} {B : Option Addr} {c : Nat} (h : RdF fp w B (xs.map bv)) (hc : xs.length ≤ c) (t : TypeId) {g : Nat} (hg : g = w.heap.size) (hf : ¬ fp g) :
    RowsF fp (w.alloc (.cells #[.slice B xs.length c] t)) (some ⟨g, 0, none⟩) [xs] := by
  subst hg
  refine ⟨[.slice B xs.length c], ⟨Rd.lit w #[.slice B xs.length c] t, fun ad e _ => by injection e with e; subst e; exact hf⟩, rfl, fun j v ys hv hx => ?_⟩
  match j, hv, hx with
  | 0, hv, hx =>
    simp at hv hx
    subst hv hx
    exact ⟨B, c, rfl, hc, h.alloc _⟩
theorem RowsF.two {xs ys : List UInt8} {B D : Option Addr} {c d : Nat} (h : RdF fp w B (xs.map bv)) (hc : xs.length ≤ c) (h2 : RdF fp w D (ys.map bv)) (hd : ys.length ≤ d) (t : TypeId) {g : Nat} (hg : g = w.heap.size) (hf : ¬ fp g) :
    RowsF fp (w.alloc (.cells #[.slice B xs.length c, .slice D ys.length d] t)) (some ⟨g, 0, none⟩) [xs, ys] := by
  subst hg
  refine ⟨[.slice B xs.length c, .slice D ys.length d], ⟨Rd.lit w #[.slice B xs.length c, .slice D ys.length d] t, fun ad e _ => by injection e with e; subst e; exact hf⟩, rfl, fun j v zs hv hx => ?_⟩
  match j, hv, hx with
  | 0, hv, hx =>
    simp at hv hx
    subst hv hx
    exact ⟨B, c, rfl, hc, h.alloc _⟩
  | 1, hv, hx =>
    simp at hv hx
    subst hv hx
    exact ⟨D, d, rfl, hd, h2.alloc _⟩
theorem only_none (h : Only (fun _ => False) w w') : Below w.heap.size w w' := h.below (fun _ h => h.elim) (Nat.le_refl _)
end

/-! ### append onto what is owned; the source nil, empty or not -/
section
variable {P : Program} (w : World) {fp : Nat → Prop}
theorem run_app (t ty e : TypeId) (z : Value) (bytes : Nat) (ht : P.underlying t = some (.slice e)) (hi : (P.info? e).map (fun i => (i.zero, i.size, i.bytes)) = some (some z, 1, bytes)) (hzs : z.cells.size = 1)
    (A : Option Addr) (n c : Nat) (xs : List Value) (hn : n = xs.length) (hown : Own w fp e A c xs) (A2 : Option Addr) (m c2 : Nat) (news : List Value) (hm : m = news.length) (hr : Rd w A2 news) (h1 : ∀ u ∈ news, u.oneCell' = true)
    (h63 : n + m ≤ maxLen) (hbytes : (n + m) * bytes ≤ 140737488355328) :
    ∃ A' c' w', (Builtin.append_ #[t, t] ty #[.slice A n c, .slice A2 m c2]).run P w = .ok (.slice A' (n + m) c') w' ∧ Own w' (More fp w w') e A' c' (xs ++ news) ∧ Only fp w w' := by
  obtain ⟨i, hi, hz, hsz, hby⟩ := info_parts hi
  subst hn hm
  have same : ∀ (_ : news = []) (_ : (Builtin.append_ #[t, t] ty #[.slice A xs.length c, .slice A2 news.length c2]).run P w = .ok (.slice A xs.length c) w),
      ∃ A' c' w', (Builtin.append_ #[t, t] ty #[.slice A xs.length c, .slice A2 news.length c2]).run P w = .ok (.slice A' (xs.length + news.length) c') w' ∧ Own w' (More fp w w') e A' c' (xs ++ news) ∧ Only fp w w' := by
    intro hnil hrun
    subst hnil
    exact ⟨A, c, w, hrun, by rw [List.append_nil]; exact hown.mono (fun k hk _ => Or.inl hk), Only.refl _ _⟩
  rcases A2 with _ | ad
  · have hnil : news = [] := by
      rcases news with _ | ⟨u, r⟩
      · rfl
      · obtain ⟨ad, h, _⟩ := hr 0 u rfl
        cases h
    refine same hnil ?_
    subst hnil
    rcases hown.1.2 with ⟨h2, _⟩ | ⟨g, cap, cur, h2, _, _, hnc, _⟩
    · rw [h2]; simp [Builtin.append_, run_underlying ht, sizeOf, typeInfo, hi, Builtin.lenOf, Builtin.firstCells]
    · rw [h2]; simp [Builtin.append_, run_underlying ht, sizeOf, typeInfo, hi, Builtin.lenOf, Builtin.firstCells, hnc, storeCells]
  · have hcells : ∀ j u, news[j]? = some u → w.cell? (ad.add j) = some u := by
      intro j u hu
      obtain ⟨ad', h, hc⟩ := hr j u hu
      injection h with h
      subst h
      exact hc
    obtain ⟨v', w', hrun, h2, h3, _, h5⟩ := run_append_own_at (P := P) w 0 t ty e i z 1 bytes ht hi hz hsz hby hzs (by omega) (.slice A xs.length c) xs.length xs hown.1 ad news.length c2 news (by simp) hcells h1 h63 hbytes (Nat.zero_le _)
    have ho : Only fp w w' := by
      refine (Only.refl fp w).grown h3 (fun k hk _ => ?_)
      rcases A with _ | a0
      · simp [Value.ownBlock] at hk
      · simp [Value.ownBlock] at hk
        subst hk
        exact hown.2 _ rfl
    have key : ∀ A' c', v' = .slice A' (xs.length + news.length) c' → Own w' (More fp w w') e A' c' (xs ++ news) := by
      rintro A' c' rfl
      refine ⟨by simpa using h2, fun ad' e' => ?_⟩
      subst e'
      have hl := h2.lt ad'.block rfl
      rcases h5 with h5 | h5
      · rcases A with _ | a0
        · simp [Value.ownBlock] at h5
        · simp [Value.ownBlock] at h5
          rw [h5]
          exact .inl (hown.2 _ rfl)
      · simp [Value.ownBlock] at h5
        exact .inr ⟨by omega, hl.2⟩
    rcases h2.2 with ⟨hv, h0⟩ | ⟨g, cap, cur, hv, _⟩
    · subst hv
      exact ⟨none, 0, w', by rw [hrun, h0], key none 0 (by rw [h0]), ho⟩
    · subst hv
      exact ⟨_, _, w', hrun, key _ _ rfl, ho⟩

theorem wp_app {o : Oper} {a : Act} {K : Act → World → Prop} {Q : Exit → Act → World → Prop} (s x : Operand) (t : TypeId)
    (ho : o.op = .call { callee := .builtin .append, args := #[s, x], argTypes := #[t, t] })
    (e : TypeId) (z : Value) (bytes : Nat) (ht : P.underlying t = some (.slice e)) (hi : (P.info? e).map (fun i => (i.zero, i.size, i.bytes)) = some (some z, 1, bytes)) (hzs : z.cells.size = 1)
    (A : Option Addr) (n c : Nat) (xs : List Value) (hs : a.eval s = .slice A n c) (hn : n = xs.length) (hown : Own w fp e A c xs)
    (A2 : Option Addr) (m c2 : Nat) (news : List Value) (hx : a.eval x = .slice A2 m c2) (hm : m = news.length) (hr : Rd w A2 news) (h1 : ∀ u ∈ news, u.oneCell' = true)
    (h63 : n + m ≤ maxLen) (hbytes : (n + m) * bytes ≤ 140737488355328)
    (h : ∀ A' c' w', Own w' (More fp w w') e A' c' (xs ++ news) → Only fp w w' → K (a.put o.dst (.slice A' (n + m) c')) w') : o.wp P a w K Q := by
  obtain ⟨A', c', w', hrun, h2, h3⟩ := run_app (P := P) w t o.type e z bytes ht hi hzs A n c xs hn hown A2 m c2 news hm hr h1 h63 hbytes
  unfold Oper.wp execOp
  simp only [ho, resolve, invoke, builtin, Sem.run_bind, Sem.run_pure, Result.andThen_ok, List.map_toArray, List.map_cons, List.map_nil, hs, hx, hrun]
  exact h A' c' w' h2 h3

theorem wpList_app {ops : Array Oper} {rest : List Oper} {o : Oper} {a : Act} {Q : Exit → Act → World → Prop} (hgd : o.guard = none) (s x : Operand) (t : TypeId)
    (ho : o.op = .call { callee := .builtin .append, args := #[s, x], argTypes := #[t, t] })
    (e : TypeId) (z : Value) (bytes : Nat) (ht : P.underlying t = some (.slice e)) (hi : (P.info? e).map (fun i => (i.zero, i.size, i.bytes)) = some (some z, 1, bytes)) (hzs : z.cells.size = 1)
    (A : Option Addr) (n c : Nat) (xs : List Value) (hs : a.eval s = .slice A n c) (hn : n = xs.length) (hown : Own w fp e A c xs)
    (A2 : Option Addr) (m c2 : Nat) (news : List Value) (hx : a.eval x = .slice A2 m c2) (hm : m = news.length) (hr : Rd w A2 news) (h1 : ∀ u ∈ news, u.oneCell' = true)
    (h63 : n + m ≤ maxLen) (hbytes : (n + m) * bytes ≤ 140737488355328)
    (h : ∀ A' c' w', Own w' (More fp w w') e A' c' (xs ++ news) → Only fp w w' → wpList P ops Q rest (a.put o.dst (.slice A' (n + m) c')) w') : wpList P ops Q (o :: rest) a w :=
  wpList_plain hgd fun _ hK => wp_app w s x t ho e z bytes ht hi hzs A n c xs hs hn hown A2 m c2 news hx hm hr h1 h63 hbytes fun A' c' w' h2 h3 => hK _ _ (h A' c' w' h2 h3)
end
end Go.Proofs.YtbokimeojhkgmaaDoor

/-
  Texts of bytes as values. No statement of the seat is proved here.
-/
namespace Go.Proofs.YtbokimeojhkgmaaDoor
open Go Go.RowKit

/-- a text of these bytes -/
def strV (bs : List UInt8) : Value := .string ⟨bs.toArray⟩
theorem strV_inj {a b : List UInt8} : (⟨a.toArray⟩ : ByteArray) = ⟨b.toArray⟩ ↔ a = b := ⟨fun h => by injection h with h; simpa using h, fun h => by rw [h]⟩
end Go.Proofs.YtbokimeojhkgmaaDoor

/-
  Numbers in the 36 digits: the mathematics of chapter 20's names. No statement of the seat is proved here.
-/
namespace Go.Proofs.YtbokimeojhkgmaaDoor
open Go Go.RowKit
set_option maxRecDepth 100000

/-- a digit as a byte -/
def digB (k : Nat) : UInt8 := if k < 10 then (48 + k).toUInt8 else (87 + k).toUInt8
/-- a number's digits, 'f' of them at most -/
def dF : Nat → Nat → List UInt8
  | 0, _ => []
  | f + 1, n => if n < 36 then [digB n] else dF f (n / 36) ++ [digB (n % 36)]
def d36 (n : Nat) : List UInt8 := dF (n + 1) n
theorem dF_more : ∀ (f g n : Nat), n < f → n < g → dF f n = dF g n
  | 0, _, _, h, _ => by omega
  | f + 1, 0, _, _, h => by omega
  | f + 1, g + 1, n, h1, h2 => by
    unfold dF
    by_cases h : n < 36
    · rw [if_pos h, if_pos h]
    · rw [if_neg h, if_neg h, dF_more f g (n / 36) (by omega) (by omega)]
theorem d36_small {n : Nat} (h : n < 36) : d36 n = [digB n] := by unfold d36 dF; rw [if_pos h]
theorem d36_big {n : Nat} (h : ¬ n < 36) : d36 n = d36 (n / 36) ++ [digB (n % 36)] := by
  unfold d36
  conv => lhs; unfold dF
  rw [if_neg h, dF_more n (n / 36 + 1) (n / 36) (by omega) (by omega)]
theorem d36_pos (n : Nat) : 1 ≤ (d36 n).length := by
  by_cases h : n < 36
  · rw [d36_small h]; simp
  · rw [d36_big h]; simp
theorem d36_len : ∀ (k n : Nat), n < 36 ^ (k + 1) → (d36 n).length ≤ k + 1
  | 0, n, h => by rw [d36_small (by simpa using h)]; simp
  | k + 1, n, h => by
    by_cases h1 : n < 36
    · rw [d36_small h1]; simp
    · rw [d36_big h1, List.length_append, List.length_singleton]
      have : n / 36 < 36 ^ (k + 1) := by
        rw [Nat.div_lt_iff_lt_mul (by omega)]
        rw [Nat.pow_succ] at h
        exact h
      have := d36_len k (n / 36) this
      omega
theorem d36_seven {n : Nat} (h : n ≤ 34359738368) : (d36 n).length ≤ 7 := d36_len 6 n (Nat.lt_of_le_of_lt h (by decide))
/-- longer numbers are greater -/
theorem d36_mono : ∀ (b a : Nat), a ≤ b → (d36 a).length ≤ (d36 b).length := by
  intro b
  induction b using Nat.strongRecOn with
  | ind b ih =>
    intro a hab
    by_cases ha : a < 36
    · rw [d36_small ha]
      exact d36_pos b
    · have hb : ¬ b < 36 := by omega
      rw [d36_big ha, d36_big hb, List.length_append, List.length_append, List.length_singleton, List.length_singleton]
      have := ih (b / 36) (by omega) (a / 36) (Nat.div_le_div_right hab)
      omega
theorem digB_inj {a b : Nat} (ha : a < 36) (hb : b < 36) (h : digB a = digB b) : a = b := by
  have : ∀ a b : Fin 36, digB a = digB b → a = b := by decide
  have := this ⟨a, ha⟩ ⟨b, hb⟩ h
  injection this
theorem d36_inj : ∀ (a b : Nat), d36 a = d36 b → a = b := by
  intro a
  induction a using Nat.strongRecOn with
  | ind a ih =>
    intro b h
    by_cases ha : a < 36
    · rw [d36_small ha] at h
      by_cases hb : b < 36
      · rw [d36_small hb] at h
        injection h with h
        exact digB_inj ha hb h
      · rw [d36_big hb] at h
        have hl := congrArg List.length h
        have := d36_pos (b / 36)
        simp only [List.length_append, List.length_singleton] at hl
        omega
    · rw [d36_big ha] at h
      by_cases hb : b < 36
      · rw [d36_small hb] at h
        have hl := congrArg List.length h
        have := d36_pos (a / 36)
        simp only [List.length_append, List.length_singleton] at hl
        omega
      · rw [d36_big hb] at h
        obtain ⟨h1, h2⟩ := List.append_inj' h rfl
        injection h2 with h2
        have e1 := ih (a / 36) (by omega) (b / 36) h1
        have e2 := digB_inj (Nat.mod_lt _ (by omega)) (Nat.mod_lt _ (by omega)) h2
        omega
/-- the text of the digits, as it stands in the program -/
def digits36 : ByteArray := ⟨#[48, 49, 50, 51, 52, 53, 54, 55, 56, 57, 97, 98, 99, 100, 101, 102, 103, 104, 105, 106, 107, 108, 109, 110, 111, 112, 113, 114, 115, 116, 117, 118, 119, 120, 121, 122]⟩
theorem digits_at {k : Nat} (hk : k < digits36.size) : digits36[k] = digB k := by
  have : ∀ k : Fin 36, digits36[k.val]'(by have := k.2; show k.val < 36; omega) = digB k := by decide
  exact this ⟨k, hk⟩
end Go.Proofs.YtbokimeojhkgmaaDoor

/-
  Rows of elements of many cells that lie anywhere in a block of the call's own ('RowO'), append onto them, and stores of many cells. No statement of the seat is proved here.
-/
namespace Go.Proofs.YtbokimeojhkgmaaDoor
open Go Go.RowKit

/-- the block of an address -/
def inA (A : Option Addr) (k : Nat) : Prop := ∃ ad, A = some ad ∧ ad.block = k
theorem inA_none (k : Nat) : ¬ inA none k := fun ⟨_, h, _⟩ => by cases h
theorem inA_some (g o k : Nat) (s : Option Nat) : inA (some ⟨g, o, s⟩) k ↔ g = k := ⟨fun ⟨_, h, e⟩ => by injection h with h; subst h; exact e, fun e => ⟨_, rfl, e⟩⟩

/-! ### Only: stores of many cells -/
section
variable {S T : Nat → Prop} {a w w' : World}
theorem Only.setCells (h : Only S a w) {b : Nat} (hb : S b ∨ a.heap.size ≤ b) : ∀ (vs : List Value) (o : Nat), Only S a (w.setCells b o vs) := by
  intro vs
  induction vs generalizing w with
  | nil => intro o; exact h
  | cons v r ih => intro o; exact ih (h.setCell (p := ⟨b, o, none⟩) hb v) (o + 1)
theorem Blk.setCells_far {g : Nat} {t : TypeId} {cs : Array Value} {b : Nat} (hn : g ≠ b) : ∀ (vs : List Value) (o : Nat) {w : World}, Blk w g t cs → Blk (w.setCells b o vs) g t cs
  | [], _, _, h => h
  | v :: r, o, w, h => Blk.setCells_far hn r (o + 1) (h.far (p := ⟨b, o, none⟩) hn v)
theorem Blk.setCells {g : Nat} {t : TypeId} : ∀ (vs : List Value) (o : Nat) {w : World} {cs : Array Value}, Blk w g t cs → o + vs.length ≤ cs.size →
    ∃ cs', Blk (w.setCells g o vs) g t cs' ∧ cs'.size = cs.size ∧ (∀ j u, vs[j]? = some u → cs'[o + j]? = some u) ∧ ∀ k, (k < o ∨ o + vs.length ≤ k) → cs'[k]? = cs[k]?
  | [], o, w, cs, h, _ => ⟨cs, h, rfl, fun j u hu => by simp at hu, fun _ _ => rfl⟩
  | v :: r, o, w, cs, h, hl => by
    simp only [List.length_cons] at hl
    obtain ⟨cs', h1, h2, h3, h4⟩ := Blk.setCells r (o + 1) (h.put o v) (by simp; omega)
    refine ⟨cs', h1, by simpa using h2, fun j u hu => ?_, fun k hk => ?_⟩
    · rcases j with _ | j
      · simp at hu
        subst hu
        rw [h4 (o + 0) (.inl (by omega))]
        simp [show o < cs.size by omega]
      · have := h3 j u (by simpa using hu)
        rwa [show o + 1 + j = o + (j + 1) by omega] at this
    · simp only [List.length_cons] at hk
      rw [h4 k (by omega), Array.getElem?_setIfInBounds]
      split
      · omega
      · rfl
end

/-- a whole block anew -/
theorem Blk.whole {g : Nat} {t : TypeId} {w : World} {cs : Array Value} (h : Blk w g t cs) (vs : List Value) (hl : vs.length = cs.size) : Blk (w.setCells g 0 vs) g t vs.toArray := by
  obtain ⟨cs', h1, h2, h3, _⟩ := Blk.setCells vs 0 h (by omega)
  have : cs' = vs.toArray := by
    apply Array.ext_getElem?
    intro k
    rcases Nat.lt_or_ge k vs.length with hk | hk
    · have := h3 k vs[k] (List.getElem?_eq_getElem hk)
      rw [Nat.zero_add] at this
      rw [this]; simp [hk]
    · rw [Array.getElem?_eq_none (by omega), Array.getElem?_eq_none (by simpa using hk)]
  rw [← this]
  exact h1
theorem Blk.there {g : Nat} {t : TypeId} {w : World} {cs : Array Value} (h : Blk w g t cs) (o n : Nat) (hl : o + n ≤ cs.size) : w.there g o n := fun j hj => ⟨by rw [h.cell]; simp; omega, h.free _⟩
theorem below_setCells {B : Nat} {a : World} {b : Nat} (hb : B ≤ b) : ∀ (vs : List Value) (o : Nat) {w : World}, Below B a w → Below B a (w.setCells b o vs)
  | [], _, _, h => h
  | v :: r, o, w, h => below_setCells hb r (o + 1) (w := w.setCell ⟨b, o, none⟩ v) ⟨h.os, h.tape, h.output, by simpa [World.setCell] using h.size, fun i hi => (Below.heap_setCell w ⟨b, o, none⟩ v i (by show i ≠ b; omega)).trans (h.block i hi)⟩

/-! ### A row anywhere in a block -/
def RowO (w : World) (e : TypeId) (sz : Nat) (A : Option Addr) (m c : Nat) (xs : List Value) : Prop :=
  xs.length = m * sz ∧ ((A = none ∧ m = 0 ∧ c = 0) ∨ ∃ g off cs, A = some ⟨g, off, none⟩ ∧ m ≤ c ∧ c ≤ maxLen ∧ Blk w g e cs ∧ off + c * sz ≤ cs.size ∧ ∀ j u, xs[j]? = some u → cs[off + j]? = some u)

section
variable {S : Nat → Prop} {w w' : World} {e : TypeId} {sz : Nat} {A : Option Addr} {m c : Nat} {xs : List Value}
theorem RowO.none_ (w : World) (e : TypeId) (sz : Nat) : RowO w e sz none 0 0 [] := ⟨by simp, .inl ⟨rfl, rfl, rfl⟩⟩
theorem RowO.rd (h : RowO w e sz A m c xs) : Rd w A xs := by
  rcases h.2 with ⟨rfl, rfl, rfl⟩ | ⟨g, off, cs, rfl, _, _, hb, _, hc⟩
  · have : xs = [] := List.eq_nil_of_length_eq_zero (by simpa using h.1)
    subst this
    exact Rd.nil _ _
  · exact fun j u hu => ⟨_, rfl, by rw [Addr.add_mid, hb.cell]; exact hc j u hu⟩
theorem RowO.lt (h : RowO w e sz A m c xs) {k : Nat} (hk : inA A k) : k < w.heap.size := by
  rcases h.2 with ⟨rfl, _⟩ | ⟨g, off, cs, rfl, _, _, hb, _⟩
  · exact absurd hk (inA_none k)
  · rw [inA_some] at hk; subst hk; exact hb.lt
theorem RowO.keep (h : RowO w e sz A m c xs) (hk : ∀ k, inA A k → w'.heap[k]? = w.heap[k]?) : RowO w' e sz A m c xs := by
  refine ⟨h.1, ?_⟩
  rcases h.2 with h1 | ⟨g, off, cs, rfl, h1, h2, hb, h3⟩
  · exact .inl h1
  · exact .inr ⟨g, off, cs, rfl, h1, h2, (hk g ((inA_some _ _ _ _).2 rfl)).trans hb, h3⟩
theorem RowO.only (h : RowO w e sz A m c xs) (ho : Only S w w') (hn : ∀ k, inA A k → ¬ S k) : RowO w' e sz A m c xs := h.keep fun k hk => ho.block k (h.lt hk) (hn k hk)
theorem RowO.ext (h : RowO w e sz A m c xs) (hb : Below w.heap.size w w') : RowO w' e sz A m c xs := h.keep fun k hk => hb.block k (h.lt hk)
theorem RowO.alloc (h : RowO w e sz A m c xs) (o : Obj) : RowO (w.alloc o) e sz A m c xs := h.ext ((Below.refl _ _).alloc (Nat.le_refl _) o)
theorem RowO.drew (h : RowO w e sz A m c xs) : RowO w.drew e sz A m c xs := h
theorem RowO.drewN (h : RowO w e sz A m c xs) (n : Nat) : RowO (w.drewN n) e sz A m c xs := h
theorem RowO.le (h : RowO w e sz A m c xs) : m ≤ c := by
  rcases h.2 with ⟨_, h1, h2⟩ | ⟨_, _, _, _, h1, _⟩ <;> omega
theorem RowO.ne_blk {g : Nat} {t : TypeId} {cs : Array Value} (h : RowO w e sz A m c xs) (hb : Blk w g t cs) (ht : e ≠ t) : ¬ inA A g := by
  intro hk
  rcases h.2 with ⟨rfl, _⟩ | ⟨g', off, cs', rfl, _, _, hb', _⟩
  · exact inA_none _ hk
  · rw [inA_some] at hk
    subst hk
    unfold Blk at hb hb'
    rw [hb] at hb'
    injection hb' with hb'
    injection hb' with _ ht'
    exact ht ht'.symm
theorem RowO.lit (w : World) (e : TypeId) (sz m : Nat) (cs : Array Value) (hs : cs.size = m * sz) (hm : m ≤ maxLen) {g : Nat} (hg : g = w.heap.size) : RowO (w.alloc (.cells cs e)) e sz (some ⟨g, 0, none⟩) m m cs.toList := by
  subst hg
  exact ⟨by simpa using hs, .inr ⟨_, 0, cs, rfl, Nat.le_refl _, hm, Blk.new w e cs, by omega, fun j u hu => by simpa using hu⟩⟩
/-- the first elements alone -/
theorem RowO.sub (h : RowO w e sz A m c xs) {n : Nat} {ys : List Value} (hn : n ≤ m) (hl : ys.length = n * sz) (hp : ∀ (j : Nat) (u : Value), ys[j]? = some u → xs[j]? = some u) : RowO w e sz A n c ys := by
  refine ⟨hl, ?_⟩
  rcases h.2 with ⟨h1, h2, h3⟩ | ⟨g, off, cs, h1, h2, h3, h4, h5, h6⟩
  · exact .inl ⟨h1, by omega, h3⟩
  · exact .inr ⟨g, off, cs, h1, by omega, h3, h4, h5, fun j u hu => h6 j u (hp j u hu)⟩
end

/-! ### append -/
section
variable {P : Program} (w : World)
theorem run_appO (t ty e : TypeId) (z : Value) (sz bytes : Nat) (ht : P.underlying t = some (.slice e)) (hi : (P.info? e).map (fun i => (i.zero, i.size, i.bytes)) = some (some z, sz, bytes)) (hzs : z.cells.size = sz)
    (A : Option Addr) (n c : Nat) (xs : List Value) (hown : RowO w e sz A n c xs) (A2 : Option Addr) (m c2 : Nat) (news : List Value) (hm : news.length = m * sz) (hr : Rd w A2 news) (h1 : ∀ u ∈ news, u.oneCell' = true) (h0 : A2 = none → m = 0)
    (h63 : n + m ≤ maxLen) (hbytes : (n + m) * bytes ≤ 140737488355328) :
    ∃ A' c' w', (Builtin.append_ #[t, t] ty #[.slice A n c, .slice A2 m c2]).run P w = .ok (.slice A' (n + m) c') w' ∧ RowO w' e sz A' (n + m) c' (xs ++ news) ∧ Only (inA A) w w' ∧ (∀ k, inA A' k → inA A k ∨ (w.heap.size ≤ k ∧ k < w'.heap.size)) := by
  obtain ⟨i, hinf, hz, hsz, hby⟩ := info_parts hi
  clear hi
  subst hsz hby
  have hsmall : n + m ≤ 9223372036854775807 := by simp only [maxLen] at h63; omega
  have src : Src P i.size t (.slice A2 m c2) m news w := by
    rcases A2 with _ | ad
    · obtain rfl := h0 rfl
      have hnil : news = [] := List.eq_nil_of_length_eq_zero (by simpa using hm)
      subst hnil
      exact Src.ofNil w ht c2
    · exact Src.ofSlice w ht ad m c2 news hm (fun j u hu => by
        obtain ⟨ad', h, hc⟩ := hr j u hu
        injection h with h
        subst h
        exact hc) h1
  have hlen : (xs ++ news).length = (n + m) * i.size := by rw [List.length_append, hown.1, hm, Nat.add_mul]
  by_cases hroom : n + m ≤ c
  · rcases hown.2 with ⟨rfl, rfl, rfl⟩ | ⟨g, off, cs, rfl, hnc, hcm, hb, hsize, hcell⟩
    · have hn0 : m = 0 := by omega
      subst hn0
      have hnil : news = [] := List.eq_nil_of_length_eq_zero (by simpa using hm)
      subst hnil
      refine ⟨none, 0, w, ?_, by rw [List.append_nil]; exact hown, Only.refl _ _, fun k hk => .inl hk⟩
      have hl := src.len w
      have hcl := src.cells
      have hl' : Builtin.lenOf (.slice A2 0 c2) = pure 0 := rfl
      rw [Nat.add_zero]
      unfold Builtin.append_
      simp [run_underlying ht, sizeOf, typeInfo, hinf, hl', hcl]
    · have hfit : off + n * i.size + news.length ≤ cs.size := by
        have h2 : (n + m) * i.size ≤ c * i.size := Nat.mul_le_mul_right _ hroom
        rw [Nat.add_mul] at h2
        omega
      have hcs : ∀ j, j < news.length → (w.cell? ⟨g, off + n * i.size + j, none⟩).isSome = true := fun j hj => by
        rw [hb.cell]; simp; omega
      have hfr : ∀ j, j < news.length → w.frozen? ⟨g, off + n * i.size + j, none⟩ = false := fun j _ => hb.free _
      have hrun := run_append_room_src (P := P) w t t ty e i ht hinf g off n c (.slice A2 m c2) m news src hroom hcs hfr
      obtain ⟨cs', hb', hs', hin, hout⟩ := Blk.setCells news (off + n * i.size) hb hfit
      refine ⟨_, _, _, hrun, ⟨hlen, .inr ⟨g, off, cs', rfl, hroom, hcm, hb', by omega, fun j u hu => ?_⟩⟩, (Only.refl _ w).setCells (.inl ((inA_some _ _ _ _).2 rfl)) _ _, fun k hk => .inl hk⟩
      rw [List.getElem?_append] at hu
      split at hu
      · rename_i hj
        rw [hown.1] at hj
        rw [hout (off + j) (.inl (by omega))]
        exact hcell j u hu
      · rename_i hj
        have := hin _ u hu
        rw [hown.1] at hj this
        rwa [show off + n * i.size + (j - n * i.size) = off + j by omega] at this
  · have hold : (Builtin.firstCells i.size n (.slice A n c)).run P w.drew = .ok xs.toArray w.drew := by
      rcases hown.2 with ⟨rfl, rfl, rfl⟩ | ⟨g, off, cs, rfl, hnc, hcm, hb, hsize, hcell⟩
      · have hnil : xs = [] := List.eq_nil_of_length_eq_zero (by simpa using hown.1)
        subst hnil
        exact run_firstCells_none w.drew i.size 0 0 0
      · refine run_firstCells_some w.drew i.size n ⟨g, off, none⟩ n c xs hown.1 (fun j u hu => ?_)
        rw [Addr.add_mid, (Blk.drew hb).cell]
        exact hcell j u hu
    have hrun := run_append_grow_src (P := P) w t t ty e i z ht hinf hz A n c xs hold (.slice A2 m c2) m news src (by omega) (by omega) (growslice_fits (by omega) hbytes)
    have hge := grownCap_ge w (n + m) c e
    have hcm : grownCap w (n + m) c e ≤ maxLen := grownCap_le_maxLen w (n + m) c e h63
    refine ⟨_, _, _, hrun, ⟨hlen, .inr ⟨w.heap.size, 0, _, rfl, hge, hcm, heap_alloc_new w.drew _, ?_, fun j u hu => ?_⟩⟩, ((Only.refl _ w).drew).alloc _, fun k hk => .inr ?_⟩
    · simp only [Array.size_append, List.size_toArray, size_zeroCells, hzs, hlen, ← Nat.add_mul]
      rw [Nat.zero_add]
      exact Nat.le_of_eq (congrArg (· * i.size) (by omega))
    · have hj := (List.getElem?_eq_some_iff.1 hu).1
      rw [Nat.zero_add, Array.getElem?_append_left (by simpa using hj)]
      simpa using hu
    · rw [inA_some] at hk
      subst hk
      simp

theorem wp_appO {o : Oper} {a : Act} {K : Act → World → Prop} {Q : Exit → Act → World → Prop} (s x : Operand) (t : TypeId)
    (ho : o.op = .call { callee := .builtin .append, args := #[s, x], argTypes := #[t, t] })
    (e : TypeId) (z : Value) (sz bytes : Nat) (ht : P.underlying t = some (.slice e)) (hi : (P.info? e).map (fun i => (i.zero, i.size, i.bytes)) = some (some z, sz, bytes)) (hzs : z.cells.size = sz)
    (A : Option Addr) (n c : Nat) (xs : List Value) (hs : a.eval s = .slice A n c) (hown : RowO w e sz A n c xs)
    (A2 : Option Addr) (m c2 : Nat) (news : List Value) (hx : a.eval x = .slice A2 m c2) (hm : news.length = m * sz) (hr : Rd w A2 news) (h1 : ∀ u ∈ news, u.oneCell' = true) (h0 : A2 = none → m = 0)
    (h63 : n + m ≤ maxLen) (hbytes : (n + m) * bytes ≤ 140737488355328)
    (h : ∀ A' c' w', RowO w' e sz A' (n + m) c' (xs ++ news) → Only (inA A) w w' → (∀ k, inA A' k → inA A k ∨ (w.heap.size ≤ k ∧ k < w'.heap.size)) → K (a.put o.dst (.slice A' (n + m) c')) w') : o.wp P a w K Q := by
  obtain ⟨A', c', w', hrun, h2, h3, h4⟩ := run_appO (P := P) w t o.type e z sz bytes ht hi hzs A n c xs hown A2 m c2 news hm hr h1 h0 h63 hbytes
  unfold Oper.wp execOp
  simp only [ho, resolve, invoke, builtin, Sem.run_bind, Sem.run_pure, Result.andThen_ok, List.map_toArray, List.map_cons, List.map_nil, hs, hx, hrun]
  exact h A' c' w' h2 h3 h4

theorem wpList_appO {ops : Array Oper} {rest : List Oper} {o : Oper} {a : Act} {Q : Exit → Act → World → Prop} (hgd : o.guard = none) (s x : Operand) (t : TypeId)
    (ho : o.op = .call { callee := .builtin .append, args := #[s, x], argTypes := #[t, t] })
    (e : TypeId) (z : Value) (sz bytes : Nat) (ht : P.underlying t = some (.slice e)) (hi : (P.info? e).map (fun i => (i.zero, i.size, i.bytes)) = some (some z, sz, bytes)) (hzs : z.cells.size = sz)
    (A : Option Addr) (n c : Nat) (xs : List Value) (hs : a.eval s = .slice A n c) (hown : RowO w e sz A n c xs)
    (A2 : Option Addr) (m c2 : Nat) (news : List Value) (hx : a.eval x = .slice A2 m c2) (hm : news.length = m * sz) (hr : Rd w A2 news) (h1 : ∀ u ∈ news, u.oneCell' = true) (h0 : A2 = none → m = 0)
    (h63 : n + m ≤ maxLen) (hbytes : (n + m) * bytes ≤ 140737488355328)
    (h : ∀ A' c' w', RowO w' e sz A' (n + m) c' (xs ++ news) → Only (inA A) w w' → (∀ k, inA A' k → inA A k ∨ (w.heap.size ≤ k ∧ k < w'.heap.size)) → wpList P ops Q rest (a.put o.dst (.slice A' (n + m) c')) w') : wpList P ops Q (o :: rest) a w :=
  wpList_plain hgd fun _ hK => wp_appO w s x t ho e z sz bytes ht hi hzs A n c xs hs hown A2 m c2 news hx hm hr h1 h0 h63 hbytes fun A' c' w' h2 h3 h4 => hK _ _ (h A' c' w' h2 h3 h4)

/-- at a step of a region that draws its order -/
theorem step_appO {ops : Array Oper} {o : Oper} {a : Act} {K : Act → World → Prop} {Q : Exit → Act → World → Prop} {E : Prop} (hgd : o.guard = none) (s x : Operand) (t : TypeId)
    (ho : o.op = .call { callee := .builtin .append, args := #[s, x], argTypes := #[t, t] })
    (e : TypeId) (z : Value) (sz bytes : Nat) (ht : P.underlying t = some (.slice e)) (hi : (P.info? e).map (fun i => (i.zero, i.size, i.bytes)) = some (some z, sz, bytes)) (hzs : z.cells.size = sz)
    (A : Option Addr) (n c : Nat) (xs : List Value) (hs : a.eval s = .slice A n c) (hown : RowO w e sz A n c xs)
    (A2 : Option Addr) (m c2 : Nat) (news : List Value) (hx : a.eval x = .slice A2 m c2) (hm : news.length = m * sz) (hr : Rd w A2 news) (h1 : ∀ u ∈ news, u.oneCell' = true) (h0 : A2 = none → m = 0)
    (h63 : n + m ≤ maxLen) (hbytes : (n + m) * bytes ≤ 140737488355328)
    (h : ∀ A' c' w', RowO w' e sz A' (n + m) c' (xs ++ news) → Only (inA A) w w' → (∀ k, inA A' k → inA A k ∨ (w.heap.size ≤ k ∧ k < w'.heap.size)) → K (a.put o.dst (.slice A' (n + m) c')) w') :
    if Region.wanted o (yielded ops a.tmps) = true then Oper.wp P o a w K Q else E := by
  have hw : Region.wanted o (yielded ops a.tmps) = true := by simp [Region.wanted, hgd]
  rw [if_pos hw]
  exact wp_appO w s x t ho e z sz bytes ht hi hzs A n c xs hs hown A2 m c2 news hx hm hr h1 h0 h63 hbytes h
end
end Go.Proofs.YtbokimeojhkgmaaDoor

/-
  Rows that were made anew; addresses at a place of a block; small words on worlds. No statement of the seat is proved here.
-/
namespace Go.Proofs.YtbokimeojhkgmaaDoor
open Go Go.RowKit
set_option maxRecDepth 100000

/-- a row that was made since 'w' -/
def NewO (w w' : World) (e : TypeId) (sz : Nat) (A : Option Addr) (m c : Nat) (xs : List Value) : Prop := RowO w' e sz A m c xs ∧ Below w.heap.size w w' ∧ ∀ k, inA A k → w.heap.size ≤ k
section
variable {w w1 w2 w3 : World} {e : TypeId} {sz : Nat} {A A' : Option Addr} {m n c c' : Nat} {xs ys : List Value}
theorem NewO.start (w : World) (e : TypeId) (sz : Nat) : NewO w w e sz none 0 0 [] := ⟨RowO.none_ _ _ _, Below.refl _ _, fun k hk => absurd hk (inA_none k)⟩
theorem NewO.row (h : NewO w w1 e sz A m c xs) : RowO w1 e sz A m c xs := h.1
theorem NewO.bel (h : NewO w w1 e sz A m c xs) : Below w.heap.size w w1 := h.2.1
theorem NewO.ext (h : NewO w w1 e sz A m c xs) (hb : Below w1.heap.size w1 w2) : NewO w w2 e sz A m c xs := ⟨h.1.ext hb, ext_trans h.2.1 hb, h.2.2⟩
theorem NewO.grow (h : NewO w w1 e sz A m c xs) (hb : Below w1.heap.size w1 w2) (hr : RowO w3 e sz A' n c' ys) (ho : Only (inA A) w2 w3) (hA : ∀ k, inA A' k → inA A k ∨ (w2.heap.size ≤ k ∧ k < w3.heap.size)) : NewO w w3 e sz A' n c' ys := by
  have h1 := h.2.1.size
  have h2 := hb.size
  refine ⟨hr, (ext_trans h.2.1 hb).trans (ho.below (fun i hi => h.2.2 i hi) (by omega)), fun k hk => ?_⟩
  rcases hA k hk with hk | hk
  · exact h.2.2 k hk
  · omega
theorem NewO.rd (h : NewO w w1 e sz A m c xs) : Rd w1 A xs := h.1.rd
theorem NewO.back {w0 : World} (h : NewO w w1 e sz A m c xs) (hb : Below w0.heap.size w0 w) : NewO w0 w1 e sz A m c xs := ⟨h.1, hb.trans (h.2.1.mono hb.size), fun k hk => Nat.le_trans hb.size (h.2.2 k hk)⟩
end

/-- an address at a place of a block -/
def Flat (A : Option Addr) : Prop := ∀ ad, A = some ad → ∃ g o, ad = ⟨g, o, none⟩
theorem RowO.flat {w : World} {e : TypeId} {sz : Nat} {A : Option Addr} {m c : Nat} {xs : List Value} (h : RowO w e sz A m c xs) : Flat A := fun ad e' => by
  rcases h.2 with ⟨h1, _⟩ | ⟨g, o, _, h1, _⟩
  · rw [h1] at e'; cases e'
  · rw [h1] at e'; injection e' with e'; exact ⟨g, o, e'.symm⟩
theorem RowO.addr {w : World} {e : TypeId} {sz : Nat} {A : Option Addr} {m c : Nat} {xs : List Value} (h : RowO w e sz A m c xs) (h0 : 0 < m) : ∃ g o, A = some ⟨g, o, none⟩ := by
  rcases h.2 with ⟨_, h1, _⟩ | ⟨g, o, _, h1, _⟩
  · omega
  · exact ⟨g, o, h1⟩
theorem RowO.free {w : World} {e : TypeId} {sz : Nat} {g o m c : Nat} {xs : List Value} (h : RowO w e sz (some ⟨g, o, none⟩) m c xs) (j : Nat) : w.frozen? ⟨g, j, none⟩ = false := by
  rcases h.2 with ⟨h1, _⟩ | ⟨g', o', cs, h1, h2, h3, h4, h5, h6⟩
  · cases h1
  · injection h1 with h1
    injection h1 with h1 h1' _
    subst h1 h1'
    exact h4.free j
theorem RowO.set {w : World} {e : TypeId} {sz : Nat} {g o m c : Nat} {xs : List Value} (h : RowO w e sz (some ⟨g, o, none⟩) m c xs) (j : Nat) (hj : j < xs.length) (u : Value) : RowO (w.setCell ⟨g, o + j, none⟩ u) e sz (some ⟨g, o, none⟩) m c (xs.set j u) := by
  refine ⟨by rw [List.length_set]; exact h.1, ?_⟩
  rcases h.2 with ⟨h1, _⟩ | ⟨g', o', cs, h1, h2, h3, h4, h5, h6⟩
  · cases h1
  · injection h1 with h1
    injection h1 with h1 h1' _
    subst h1 h1'
    refine .inr ⟨g, o, cs.setIfInBounds (o + j) u, rfl, h2, h3, h4.put (o + j) u, by simpa using h5, fun i v hv => ?_⟩
    rw [List.getElem?_set] at hv
    split at hv
    · rename_i hij
      subst hij
      have hlt : o + j < cs.size := by
        have := h6 j _ (List.getElem?_eq_getElem hj)
        exact (Array.getElem?_eq_some_iff.1 this).1
      rw [Array.getElem?_setIfInBounds_self_of_lt hlt]; exact hv
    · rename_i hij
      rw [Array.getElem?_setIfInBounds_ne (by omega)]
      exact h6 i v hv
theorem NewO.set {w w1 : World} {e : TypeId} {sz : Nat} {g o m c : Nat} {xs : List Value} (h : NewO w w1 e sz (some ⟨g, o, none⟩) m c xs) (j : Nat) (hj : j < xs.length) (u : Value) : NewO w (w1.setCell ⟨g, o + j, none⟩ u) e sz (some ⟨g, o, none⟩) m c (xs.set j u) :=
  ⟨h.1.set j hj u, ⟨h.2.1.os, h.2.1.tape, h.2.1.output, by simpa [World.setCell] using h.2.1.size, fun i hi => (Below.heap_setCell w1 ⟨g, o + j, none⟩ u i (by
    have := h.2.2 g ((inA_some _ _ _ _).2 rfl)
    show i ≠ g
    omega)).trans (h.2.1.block i hi)⟩, h.2.2⟩

theorem ext2 (w : World) (a b : Obj) : Below w.heap.size w ((w.alloc a).alloc b) := ((Below.refl _ _).alloc (Nat.le_refl _) _).alloc (by simp) _
theorem ext_alloc {a w : World} (h : Below a.heap.size a w) (o : Obj) : Below a.heap.size a (w.alloc o) := h.alloc h.size o
theorem ext_drew {a w : World} (h : Below a.heap.size a w) : Below a.heap.size a w.drew := ext_drewN h 1
theorem cell_only {S : Nat → Prop} {w w' : World} {p : Addr} {v : Value} (h : w.cell? p = some v) (ho : Only S w w') (hn : ¬ S p.block) : w'.cell? p = some v :=
  (World.cell?_of_block (ho.block _ (World.block_lt_of_cell? w _ h) hn)).trans h
theorem take_snoc {α : Type} (l : List α) (k : Nat) (h : k < l.length) : l.take (k + 1) = l.take k ++ [l[k]] := by
  rw [List.take_add_one, List.getElem?_eq_getElem h]; rfl
/-! ### cells, each element of so many -/
theorem flat_at {β : Type} (enc : β → List Value) (sz : Nat) (h : ∀ b, (enc b).length = sz) : ∀ (l : List β) (k j : Nat) (hk : k < l.length), j < sz → (l.flatMap enc)[k * sz + j]? = (enc l[k])[j]?
  | a :: r, 0, j, hk, hj => by
    rw [List.flatMap_cons, List.getElem?_append_left (by rw [h]; omega)]
    simp
  | a :: r, k + 1, j, hk, hj => by
    simp only [List.length_cons] at hk
    rw [List.flatMap_cons, List.getElem?_append_right (by rw [h, Nat.add_mul]; omega), h, show (k + 1) * sz + j - sz = k * sz + j by rw [Nat.add_mul]; omega]
    rw [flat_at enc sz h r k j (by omega) hj]
    rfl
theorem flat_len {β : Type} (enc : β → List Value) (sz : Nat) (h : ∀ b, (enc b).length = sz) (l : List β) : (l.flatMap enc).length = l.length * sz := by
  induction l with
  | nil => simp
  | cons a r ih => rw [List.flatMap_cons, List.length_append, h, ih, List.length_cons, Nat.add_mul]; omega
/-- append of one element onto a row that was made anew -/
theorem wpList_app_new {P : Program} {w : World} {ops : Array Oper} {rest : List Oper} {o : Oper} {a : Act} {Q : Exit → Act → World → Prop} (hgd : o.guard = none) (s x : Operand) (t : TypeId)
    (ho : o.op = .call { callee := .builtin .append, args := #[s, x], argTypes := #[t, t] })
    (e : TypeId) (z : Value) (sz bytes : Nat) (ht : P.underlying t = some (.slice e)) (hi : (P.info? e).map (fun i => (i.zero, i.size, i.bytes)) = some (some z, sz, bytes)) (hzs : z.cells.size = sz)
    {w0 wr : World} (A : Option Addr) (n c : Nat) (xs : List Value) (hN : NewO w0 wr e sz A n c xs) (hb : Below wr.heap.size wr w) (hs : a.eval s = .slice A n c)
    (ad : Addr) (c2 : Nat) (news : List Value) (hx : a.eval x = .slice (some ad) 1 c2) (hm : news.length = 1 * sz) (hr : Rd w (some ad) news) (h1 : ∀ u ∈ news, u.oneCell' = true)
    (h63 : n + 1 ≤ maxLen) (hbytes : (n + 1) * bytes ≤ 140737488355328)
    (h : ∀ A' c' w', NewO w0 w' e sz A' (n + 1) c' (xs ++ news) → Below w0.heap.size w0 w' → wpList P ops Q rest (a.put o.dst (.slice A' (n + 1) c')) w') : wpList P ops Q (o :: rest) a w :=
  wpList_appO w hgd s x t ho e z sz bytes ht hi hzs A n c xs hs (hN.row.ext hb) (some ad) 1 c2 news hx hm hr h1 (fun h => by cases h) h63 hbytes fun A' c' w' hr' ho' hA' => by
    have h2 := hN.grow hb hr' ho' hA'
    exact h A' c' w' h2 h2.bel
end Go.Proofs.YtbokimeojhkgmaaDoor

/-
  How a law's contract closes its statement; what an int's and a byte's datum says. No statement of the seat is proved here.
-/
namespace Go.Proofs.YtbokimeojhkgmaaDoor
open Go Go.ChangeShapes Go.WideShapes Go.ChangeAt Go.RowKit

theorem own : ownKnob Tryd.prog.godebug = none := by kernel_rfl
theorem laidOut : laidOutB Tryd.prog = true := by kernel_rfl

theorem int_of_wf {v : Int} (h : (Lit.int .i64 v).wf = true) : isInt v := by
  have h1 : IntKind.i64.min = -9223372036854775808 := rfl
  have h2 : IntKind.i64.max = 9223372036854775807 := rfl
  simp only [Lit.wf, Bool.and_eq_true, decide_eq_true_eq] at h
  unfold isInt
  omega
theorem u8_of_wf {v : Int} (h : (Lit.int .u8 v).wf = true) : 0 ≤ v ∧ v ≤ 255 := by
  have h1 : IntKind.u8.min = 0 := rfl
  have h2 : IntKind.u8.max = 255 := rfl
  simp only [Lit.wf, Bool.and_eq_true, decide_eq_true_eq] at h
  omega

/-! ### How a contract closes a statement -/
section
variable {H : Type} {enc : TypeId × Value → H}
theorem below_trodAll {P : Program} (hl : laidOutB P = true) {W W' : World} (hb : Below W.heap.size W W') : ∀ {ts : List TypeId} {vs : List Value} {ds : List (DataW H)} {ps : List MemPlace},
    (∀ t ∈ ts, P.readableRec t = true ∧ t < P.types.size) → DataW.TrodAll enc P W 0 (fun _ => true) true ts vs ds ps → (∀ x ∈ ps, x.block < W.heap.size) → DataW.TrodAll enc P W' 0 (fun b => decide (b < W.heap.size)) true ts vs ds ps
  | [], [], [], _, _, h, _ => h
  | t :: ts, v :: vs, d :: ds, _, hr, h, hlt => by
    obtain ⟨p, q, h1, h2, rfl⟩ := h
    exact ⟨p, q, Below.trod hl (hr t (by simp)).1 (hr t (by simp)).2 h1 hb (fun x hx => hlt x (by simp [hx])), below_trodAll hl hb (fun t' ht => hr t' (by simp [ht])) h2 (fun x hx => hlt x (by simp [hx])), rfl⟩
  | [], [], _ :: _, _, _, h, _ => h.elim
  | [], _ :: _, _, _, _, h, _ => h.elim
  | _ :: _, [], _, _, _, h, _ => h.elim
  | _ :: _, _ :: _, [], _, _, h, _ => h.elim

/-- a law that returned true, and left all that was there as it was -/
theorem law_post {f : Func} {s : ChangeSpec} {W W' : World} {args : Array Value} {ds gs : List (DataW H)} {before : List MemPlace} (hvars : s.vars = []) (hf : f.resultTypes = #[4])
    (hread : f.params.toList.all (fun t => Tryd.prog.readableRec t && decide (t < Tryd.prog.types.size)) = true)
    (hs : (s.fn H ds).results = [.lit (.bool true)] ∧ (s.fn H ds).args = ds ∧ (s.fn H ds).vars = []) (hW : DataW.Whole enc Tryd.prog f.params.toList s.vars false W args.toList ds gs before) (hb : Below W.heap.size W W') :
    s.post enc Tryd.prog f false true false false W args (.bool true) W' := by
  have hW' := hW
  have hlt : ∀ x ∈ before, x.block < W.heap.size := fun x hx => by simpa using hW'.lt x hx
  obtain ⟨p, q, hA, hV, he, _, _⟩ := hW
  rw [hvars] at hV
  obtain ⟨hg, hq⟩ := trodVars_none hV
  have hx : ds ++ gs = ds := by rw [hg, List.append_nil]
  refine ⟨ds, gs, before, [] ++ [], p, [], hW', ?_, ?_, ?_, hb.frame _, fun h => by cases h⟩
  · rw [hx, hs.1, hf]
    exact trodAll_cons_mk (shut_bool Tryd.underlying4 _) trodAll_mk0
  · rw [hx, hs.2.1]
    refine below_trodAll laidOut hb (fun t ht => ?_) hA (fun x hx => hlt x (by rw [he]; simp [hx]))
    have := List.all_eq_true.1 hread t ht
    simpa using this
  · rw [hx, hs.2.2, hvars]
    rfl
end

/-- a world for the witness: the settled one -/
noncomputable def plainWorld (os : Os) : World := World.holding Tryd.prog os ⟨#[], #[], []⟩
end Go.Proofs.YtbokimeojhkgmaaDoor

/-
  strconv's FormatInt in base 36, and Name. No statement of the seat is proved here.
-/
namespace Go.Proofs.YtbokimeojhkgmaaDoor
open Go Go.RowKit
set_option maxRecDepth 100000

theorem zero65 (w : World) : (zeroValue 118).run Tryd.prog w = .ok (.agg (Array.replicate 65 (.int .u8 0))) w := by kernel_rfl
theorem put_ {wr : World} {g q : Nat} {t : TypeId} {cs : Array Value} {D : List UInt8} {u : UInt8} (h : Blk wr g t cs) (hd : cs.toList.drop (q + 1) = D.map bv) (hs : cs.size = 65) (hq : q < 65) :
    ∃ cs' : Array Value, Blk (wr.setCell ⟨g, q, none⟩ (bv u)) g t cs' ∧ cs'.size = 65 ∧ cs'.toList.drop q = (u :: D).map bv := by
  refine ⟨cs.setIfInBounds q (bv u), h.put q _, by simpa using hs, ?_⟩
  have hl : q < cs.toList.length := by simpa [hs] using hq
  rw [Array.toList_setIfInBounds, List.drop_set]
  rw [if_neg (by omega), Nat.sub_self, List.drop_eq_getElem_cons hl, List.set_cons_zero, hd]
  rfl
/-- bytes as a text -/
theorem conv_text (w : World) (ad : Addr) (n c : Nat) (bs : List UInt8) (hn : n = bs.length) (hr : Rd w (some ad) (bs.map bv)) :
    (convert 26 9 (.slice (some ad) n c)).run Tryd.prog w = .ok (.string ⟨bs.toArray⟩) w := by
  subst hn
  refine run_convert_bytes_back w _ _ 5 ad c bs Tryd.underlying26 Tryd.underlying5 Tryd.underlying9 (fun j hj => ?_)
  obtain ⟨ad', h1, h2⟩ := hr j (bv bs[j]) (by simp [hj])
  injection h1 with h1
  subst h1
  exact h2
theorem add_none (g q j : Nat) : (⟨g, q, none⟩ : Addr).add j = ⟨g, q + j, none⟩ := by
  unfold Addr.add
  split <;> simp_all
/-- the rest of the buffer as a slice -/
theorem slice65 (W : World) (g q : Nat) (hq : q < 65) : (Instr.sliceAt 118 (.pointer (some ⟨g, 0, none⟩)) (some (.int .i64 (q : Int))) none none).run Tryd.prog W = .ok (.slice (some ⟨g, q, none⟩) (65 - q) (65 - q)) W := by
  have ha : Tryd.prog.arrayLen 118 = 65 := by kernel_rfl
  have he : Tryd.prog.elem 118 = 5 := by kernel_rfl
  have hz : (sizeOf 5).run Tryd.prog W = .ok 1 W := by kernel_rfl
  rw [run_sliceAt_array_l W 118 _ (by rw [ha, he]; exact Tryd.underlying118) .i64 (q : Int) (by omega) (by rw [ha]; omega), he, ha, hz]
  show Result.ok (slicedAt _ _ _ _ _) W = _
  unfold slicedAt
  rw [Int.toNat_natCast, if_neg (by omega)]
  simp only [Nat.mul_one, add_none, Nat.zero_add]
set_option maxHeartbeats 2000000 in
theorem formatBits_any (n : Nat) (w : World) (hn : n ≤ 34359738368) :
    Calls Tryd.prog 69 #[.slice none 0 0, .int .u64 (n : Int), .int .i64 36, .bool false, .bool false] w fun e w' => e = .returned (.tuple #[.slice none 0 0, strV (d36 n)]) ∧ Below w.heap.size w w' := by
  have hni : (n : Int) ≤ 34359738368 := by omega
  obtain ⟨Z, hZ⟩ : ∃ Z : Array Value, Z = Array.replicate 65 (.int .u8 0) := ⟨_, rfl⟩
  have hzv : ∀ W, (zeroValue 118).run Tryd.prog W = .ok (.agg Z) W := fun W => by rw [hZ]; exact zero65 W
  have hZs : Z.size = 65 := by rw [hZ]; simp
  have hB := Blk.new w 118 Z
  have hb1 : Below w.heap.size w (w.alloc (.cells Z 118)) := ext_alloc (Below.refl _ _) _
  clear hZ
  have hpow : (bits .and .i64 36 35 == 0) = false := by kernel_rfl
  go_enter Tryd.func69, Tryd.ntmps69
  go_wp2
  go_loopw [1, 13] (fun u i wr => ∃ (k m : Nat) (D : List UInt8) (cs : Array Value), u = .int .u64 (k : Int) ∧ i = .int .i64 (m : Int) ∧ k ≤ n ∧ D.length + (d36 k).length = (d36 n).length ∧ D.length + m = 65 ∧ Hid (d36 k ++ D = d36 n) ∧ cs.size = 65 ∧ Hid (cs.toList.drop m = D.map bv) ∧ Hid (Blk wr w.heap.size 118 cs) ∧ Hid (Below w.heap.size w wr)) (fun u _ _ => (intOf u).toNat)
  case atStart => exact ⟨n, 65, [], Z, rfl, rfl, Nat.le_refl _, by simp, by simp, Lib.hid (by simp), hZs, Lib.hid (by simp [hZs]), Lib.hid hB, Lib.hid hb1⟩
  case round =>
    obtain ⟨k, m, D, cs, rfl, rfl, hk, hl, hm, HD, hcs, Hcs, HB, Hb⟩ := hrel
    have hdn := d36_seven hn
    have hdk := d36_pos k
    have hm58 : 58 ≤ m := by omega
    have hm65 : m ≤ 65 := by omega
    obtain ⟨q, rfl⟩ : ∃ q, m = q + 1 := ⟨m - 1, by omega⟩
    have d1 := HB.out.free q
    obtain ⟨y, d0⟩ : ∃ y, wr.cell? ⟨w.heap.size, q, none⟩ = some y := ⟨cs[q]'(by omega), by rw [HB.out.cell q]; exact Array.getElem?_eq_getElem (by omega)⟩
    have hq65 : q < 65 := by omega
    clear hdn hm58 hm65
    by_cases hlt : k < 36
    · have hki : (k : Int) < 36 := by omega
      have hdg : ((digits36[k]'hlt).toNat : Int) = (digB k).toNat := congrArg (fun b : UInt8 => (b.toNat : Int)) (digits_at hlt)
      unfold digits36 at hdg
      obtain ⟨cs', hB', hs', hc'⟩ := put_ (u := digB k) HB.out Hcs.out hcs hq65
      have hsl := fun W => slice65 W w.heap.size q hq65
      have hD' : digB k :: D = d36 n := by rw [← HD.out, d36_small hlt]; rfl
      rw [hD'] at hc'
      have hln : 65 - q = (d36 n).length := by rw [← hD', List.length_cons]; omega
      have hcv := conv_text (wr.setCell ⟨w.heap.size, q, none⟩ (bv (digB k))) ⟨w.heap.size, q, none⟩ (65 - q) (65 - q) (d36 n) hln (fun j u hj => by
        refine ⟨_, rfl, ?_⟩
        rw [add_none, hB'.cell, ← Array.getElem?_toList, ← List.getElem?_drop, hc']
        exact hj)
      obtain ⟨Y, hY⟩ : ∃ Y : ByteArray, (⟨(d36 n).toArray⟩ : ByteArray) = Y := ⟨_, rfl⟩
      rw [hY] at hcv
      have HR : Hid (strV (d36 n) = .string Y) := Lib.hid (by unfold strV; rw [hY])
      have Hb2 : Hid (Below w.heap.size w (wr.setCell ⟨w.heap.size, q, none⟩ (bv (digB k)))) := Lib.hid (Hb.out.setCell (p := ⟨w.heap.size, q, none⟩) (Nat.le_refl _) _)
      unfold bv at hcv Hb2
      clear hl hm HB hB' hs' hc' hcs Hcs HD hD' hY hln
      go_wp2
      go_ret2
      rw [HR.out]
      exact ⟨rfl, Hb2.out⟩
    · have hki : ¬ (k : Int) < 36 := by omega
      have h1 : 36 ≤ (k : Int) := by omega
      have hmo : (k : Int) - (k : Int) / 36 * 36 = ((k % 36 : Nat) : Int) := by omega
      have hdv : (k : Int) / 36 = ((k / 36 : Nat) : Int) := by omega
      have hml : k % 36 < 36 := Nat.mod_lt _ (by omega)
      have hkk : k - k / 36 * 36 < 36 := by omega
      have hdg : ((digits36[k - k / 36 * 36]'hkk).toNat : Int) = (digB (k % 36)).toNat := by
        have e : k - k / 36 * 36 = k % 36 := by omega
        rw [← e]
        exact congrArg (fun b : UInt8 => (b.toNat : Int)) (digits_at hkk)
      unfold digits36 at hdg
      obtain ⟨cs', hB', hs', hc'⟩ := put_ (u := digB (k % 36)) HB.out Hcs.out hcs hq65
      have hbig := d36_big hlt
      have hD' : d36 (k / 36) ++ (digB (k % 36) :: D) = d36 n := by rw [← HD.out, hbig, List.append_assoc]; rfl
      have hlen : (digB (k % 36) :: D).length + (d36 (k / 36)).length = (d36 n).length := by
        have := congrArg List.length hD'
        rw [List.length_append] at this
        omega
      have Hb2 : Hid (Below w.heap.size w (wr.setCell ⟨w.heap.size, q, none⟩ (bv (digB (k % 36))))) := Lib.hid (Hb.out.setCell (p := ⟨w.heap.size, q, none⟩) (Nat.le_refl _) _)
      have HB' := Lib.hid hB'
      have Hc' := Lib.hid hc'
      have HDD := Lib.hid hD'
      have Hlen := Lib.hid hlen
      unfold bv at HB' Hb2
      have Hmo := Lib.hid hmo
      have Hdv := Lib.hid hdv
      clear HB hB' hc' hcs Hcs HD hD' hlen hbig hmo hdv
      go_wp2
      go_roundw
      case rel =>
        iterate 20 apply Exists.intro
        refine ⟨?rel2, rfl⟩
        exact ⟨k / 36, q, digB (k % 36) :: D, cs', rfl, rfl, by omega, Hlen.out, by simp only [List.length_cons]; omega, HDD, hs', Hc', HB', Hb2⟩
      case measure => simp [intOf]; omega
end Go.Proofs.YtbokimeojhkgmaaDoor

/-
  Names: the program's and the reference's. No statement of the seat is proved here.
-/
namespace Go.Proofs.YtbokimeojhkgmaaDoor
open Go Go.RowKit
set_option maxRecDepth 100000

set_option maxHeartbeats 1000000 in
theorem formatInt_any (n : Nat) (w : World) (hn : n ≤ 34359738368) :
    Calls Tryd.prog 59 #[.int .i64 (n : Int), .int .i64 36] w fun e w' => e = .returned (strV (d36 n)) ∧ Below w.heap.size w w' := by
  have hni : (n : Int) ≤ 34359738368 := by omega
  have hni0 : 0 ≤ (n : Int) := by omega
  have Hf := Lib.hid (formatBits_any n w hn)
  go_enter Tryd.func59, Tryd.ntmps59
  go_wp2_with fail
  refine Hf.out.mono ?_
  rintro e w2 ⟨rfl, hb⟩
  have Hb := Lib.hid hb
  obtain ⟨Y, hY⟩ : ∃ Y : ByteArray, (⟨(d36 n).toArray⟩ : ByteArray) = Y := ⟨_, rfl⟩
  have HR : Hid (strV (d36 n) = .string Y) := Lib.hid (by unfold strV; rw [hY])
  rw [HR.out]
  clear hY hb Hf
  go_wp2
  go_ret
  refine ⟨?_, Hb.out⟩
  rw [HR.out]
  rfl

set_option maxHeartbeats 1000000 in
theorem formatInt2_any (n : Nat) (w : World) (hn : n ≤ 34359738368) :
    Calls Tryd.prog 40 #[.int .i64 (n : Int), .int .i64 36] w fun e w' => e = .returned (strV (d36 n)) ∧ Below w.heap.size w w' := by
  have hni : (n : Int) ≤ 34359738368 := by omega
  have hni0 : 0 ≤ (n : Int) := by omega
  have Hf := Lib.hid (formatInt_any n w hn)
  go_enter Tryd.func40, Tryd.ntmps40
  go_wp2_with fail
  refine Hf.out.mono ?_
  rintro e w2 ⟨rfl, hb⟩
  have Hb := Lib.hid hb
  obtain ⟨Y, hY⟩ : ∃ Y : ByteArray, (⟨(d36 n).toArray⟩ : ByteArray) = Y := ⟨_, rfl⟩
  have HR : Hid (strV (d36 n) = .string Y) := Lib.hid (by unfold strV; rw [hY])
  rw [HR.out]
  clear hY hb Hf
  go_wp2
  go_ret
  refine ⟨?_, Hb.out⟩
  rw [HR.out]
  rfl

/-- a name: the kind and the number's digits, or nothing -/
def nameW (k : Nat) (n : Int) : List UInt8 := if 97 ≤ k ∧ k ≤ 122 ∧ 0 ≤ n ∧ n ≤ 34359738368 then k.toUInt8 :: d36 n.toNat else []
theorem nameW_in {k n : Nat} (h1 : 97 ≤ k) (h2 : k ≤ 122) (h3 : n ≤ 34359738368) : nameW k n = k.toUInt8 :: d36 n := by
  unfold nameW
  rw [if_pos ⟨h1, h2, by omega, by omega⟩]
  rfl
theorem nameW_out {k : Nat} {n : Int} (h : ¬ (97 ≤ k ∧ k ≤ 122 ∧ 0 ≤ n ∧ n ≤ 34359738368)) : nameW k n = [] := by
  unfold nameW
  rw [if_neg h]
theorem encode_low {k : Nat} (h : k < 128) : Utf8.encode (k : Int) = ⟨#[k.toUInt8]⟩ := by
  have : ∀ k : Fin 128, Utf8.encode (k.val : Int) = ⟨#[k.val.toUInt8]⟩ := by decide
  exact this ⟨k, h⟩
def SaysName (k : Nat) (n : Int) (w : World) (e : Ending) (w' : World) : Prop := e = .returned (strV (nameW k n)) ∧ Below w.heap.size w w'

set_option maxHeartbeats 2000000 in
theorem name_any (k : Nat) (n : Int) (w : World) (hk : k < 256) : Calls Tryd.prog 19 #[.int .u8 (k : Int), .int .i64 n] w (SaysName k n w) := by
  by_cases h : 97 ≤ k ∧ k ≤ 122 ∧ 0 ≤ n ∧ n ≤ 34359738368
  · obtain ⟨h1, h2, h3, h4⟩ := h
    obtain ⟨m, rfl⟩ : ∃ m : Nat, n = m := ⟨n.toNat, by omega⟩
    have g1 : ¬ (k : Int) < 97 := by omega
    have g2 : ¬ (k : Int) > 122 := by omega
    have g3 : ¬ (m : Int) > 34359738368 := by omega
    obtain ⟨U, hU⟩ : ∃ U : ByteArray, (⟨#[k.toUInt8]⟩ : ByteArray) = U := ⟨_, rfl⟩
    have hcv : ∀ W, (convert 5 9 (.int .u8 (k : Int))).run Tryd.prog W = .ok (.string U) W := fun W => by
      rw [run_convert_int_string W _ _ .u8 (k : Int) (by rw [Tryd.underlying5]; rfl) Tryd.underlying9, encode_low (by omega), hU]
    have hUs : (U.size : Int) ≤ 8388608 := by rw [← hU]; exact Int.ofNat_le.2 (show 1 ≤ 8388608 by omega)
    have Hf := Lib.hid (formatInt2_any m w (by omega))
    have HN := Lib.hid (nameW_in h1 h2 (show m ≤ 34359738368 by omega))
    go_enter Tryd.func19, Tryd.ntmps19
    go_wp2_with fail
    refine Hf.out.mono ?_
    rintro e w2 ⟨rfl, hb⟩
    have Hb := Lib.hid hb
    obtain ⟨Y, hY⟩ : ∃ Y : ByteArray, (⟨(d36 m).toArray⟩ : ByteArray) = Y := ⟨_, rfl⟩
    have HR : Hid (strV (d36 m) = .string Y) := Lib.hid (by unfold strV; rw [hY])
    have HS : Hid (strV (nameW k m) = .string (U ++ Y)) := Lib.hid (by
      rw [HN.out, ← hY, ← hU]
      unfold strV
      exact congrArg Value.string (ByteArray.mk_append_mk [k.toUInt8] (d36 m)).symm)
    have hYs : (Y.size : Int) ≤ 8388608 := by
      have := d36_seven (show m ≤ 34359738368 by omega)
      rw [← hY]
      show (((d36 m).toArray.size : Nat) : Int) ≤ _
      rw [List.size_toArray]
      omega
    rw [HR.out]
    clear hY hb Hf HN hU
    go_wp2
    go_ret
    refine ⟨?_, Hb.out⟩
    rw [HS.out]
    rfl
  · have HN := Lib.hid (nameW_out h)
    go_enter Tryd.func19, Tryd.ntmps19
    go_wp2
    all_goals
      go_ret
      refine ⟨?_, Below.refl _ _⟩
      rw [HN.out]
      rfl
end Go.Proofs.YtbokimeojhkgmaaDoor

/-
  Names: the reference's. No statement of the seat is proved here.
-/
namespace Go.Proofs.YtbokimeojhkgmaaDoor
open Go Go.RowKit
set_option maxRecDepth 100000

theorem cut_digits {k : Nat} (h : k < 36) : digits36.extract k (k + 1) = ⟨#[digB k]⟩ := by
  have : ∀ k : Fin 36, (digits36.extract k.val (k.val + 1)).data.toList = [digB k.val] := by decide
  have := this ⟨k, h⟩
  cases hx : digits36.extract k (k + 1) with
  | mk d =>
    rw [hx] at this
    congr 1
    rw [← Array.toList_inj]
    exact this
theorem sub_digits {k : Nat} (h : k < 36) (W : World) : (Instr.sliceAt 9 (.string digits36) (some (.int .i64 (k : Int))) (some (.int .i64 ((k : Int) + 1))) none).run Tryd.prog W = .ok (.string ⟨#[digB k]⟩) W := by
  have hs : digits36.size = 36 := rfl
  rw [run_sliceAt_string W 9 _ _ _ _ Tryd.underlying9, run_slice_string W 9 digits36 .i64 .i64 (k : Int) ((k : Int) + 1) Tryd.underlying9 (by omega) (by omega) (by rw [hs]; omega)]
  rw [Int.toNat_natCast, show ((k : Int) + 1).toNat = k + 1 from by omega, cut_digits h]

/-- a call that only draws, behind draws -/
theorem calls_quiet0 {P : Program} {f : FuncId} {args : Array Value} {v : Value} (h : ∀ W, Calls P f args W fun e w' => e = .returned v ∧ ∃ q, w' = W.drewN q) (w : World) (n : Nat) :
    Calls P f args (w.drewN n) fun e w' => e = .returned v ∧ ∃ m, w' = w.drewN m := (h _).mono fun _ _ ⟨he, q, hw⟩ => ⟨he, n + q, by rw [hw, World.drewN_drewN]⟩
theorem calls_quietW {P : Program} {f : FuncId} {args : Array Value} {v : Value} (h : ∀ W, Calls P f args W fun e w' => e = .returned v ∧ ∃ q, w' = W.drewN q) (w : World) (a n : Nat) :
    Calls P f args (w.drewN (a + n)) fun e w' => e = .returned v ∧ ∃ m, w' = w.drewN (a + m) := (h _).mono fun _ _ ⟨he, q, hw⟩ => ⟨he, n + q, by rw [hw, World.drewN_drewN, Nat.add_assoc]⟩

set_option maxHeartbeats 1000000 in
theorem rdigits_any : ∀ (n : Nat), n ≤ 34359738368 → ∀ w : World,
    Calls Tryd.prog 41 #[.int .i64 (n : Int)] w fun e w' => e = .returned (strV (d36 n)) ∧ ∃ q, w' = w.drewN q := by
  intro n
  induction n using Nat.strongRecOn with
  | ind n ih =>
    intro hn w
    by_cases hs : n < 36
    · have hni : (n : Int) < 36 := by omega
      have hn0 : 0 ≤ (n : Int) := by omega
      have HR := Lib.hid (d36_small hs)
      have hsl := fun W => sub_digits hs W
      unfold digits36 at hsl
      clear ih
      go_enter Tryd.func41, Tryd.ntmps41
      go_wp2
      go_ret
      refine ⟨?_, 0, rfl⟩
      rw [HR.out]
      rfl
    · have hni : ¬ (n : Int) < 36 := by omega
      have hn0 : 0 ≤ (n : Int) := by omega
      have Hd := Lib.hid (ih (n / 36) (by omega) (by omega))
      have HR := Lib.hid (d36_big hs)
      have hsl := fun W => sub_digits (Nat.mod_lt n (show 36 > 0 by omega)) W
      unfold digits36 at hsl
      obtain ⟨U, hU⟩ : ∃ U : ByteArray, (⟨#[digB (n % 36)]⟩ : ByteArray) = U := ⟨_, rfl⟩
      have hUs : (U.size : Int) ≤ 8388608 := by rw [← hU]; exact Int.ofNat_le.2 (show 1 ≤ 8388608 by omega)
      rw [hU] at hsl
      rw [show ((n % 36 : Nat) : Int) = (n : Int) % 36 from by omega] at hsl
      obtain ⟨Y, hY⟩ : ∃ Y : ByteArray, (⟨(d36 (n / 36)).toArray⟩ : ByteArray) = Y := ⟨_, rfl⟩
      have hYs : (Y.size : Int) ≤ 8388608 := by
        have := d36_seven (show n / 36 ≤ 34359738368 by omega)
        rw [← hY]
        show (((d36 (n / 36)).toArray.size : Nat) : Int) ≤ _
        rw [List.size_toArray]
        omega
      have HS : Hid (strV (d36 n) = .string (Y ++ U)) := Lib.hid (by
        rw [HR.out, ← hY, ← hU]
        unfold strV
        exact congrArg Value.string (ByteArray.mk_append_mk (d36 (n / 36)) [digB (n % 36)]).symm)
      unfold strV at Hd
      rw [hY, show ((n / 36 : Nat) : Int) = (n : Int) / 36 from by omega] at Hd
      have hmo : (n : Int).tmod 36 = ((n % 36 : Nat) : Int) := by rw [Int.tmod_eq_emod_of_nonneg hn0]; omega
      have hdv : (n : Int).tdiv 36 = ((n / 36 : Nat) : Int) := by rw [Int.tdiv_eq_ediv_of_nonneg hn0]; omega
      clear ih hU hY HR
      go_enter Tryd.func41, Tryd.ntmps41
      go_wp2
      go_quiet ((go_at_call 41; with_reducible exact calls_quiet0 Hd.out _ _))
      go_wp2
      go_ret
      refine ⟨?_, _, rfl⟩
      rw [HS.out]
      rfl
end Go.Proofs.YtbokimeojhkgmaaDoor

/-
  A word of the hand walks of regions (region.py). No statement of the seat is proved here.
-/
namespace Go.Proofs.YtbokimeojhkgmaaDoor
open Go Go.RowKit
theorem take_list {α : Type} {l r : List α} {i : Nat} {x : α} (h : l.drop i = x :: r) : (l.toArray)[i]? = some x := by
  have := congrArg List.head? h
  rw [List.head?_drop] at this
  simpa using this
/-- at a step of a region that draws its order: a conversion whose run is known -/
theorem step_convW {P : Program} {w : World} {ops : Array Oper} {o : Oper} {a : Act} {K : Act → World → Prop} {Q : Exit → Act → World → Prop} {E : Prop} (hgd : o.guard = none) (s t : TypeId) (x : Operand)
    (ho : o.op = .convert s t x) (v r : Value) (hx : a.eval x = v) (hrun : (convert s t v).run P w = .ok r w) (h : K (a.put o.dst r) w) :
    if Region.wanted o (yielded ops a.tmps) = true then Oper.wp P o a w K Q else E := by
  have hw : Region.wanted o (yielded ops a.tmps) = true := by simp [Region.wanted, hgd]
  rw [if_pos hw]
  unfold Oper.wp execOp
  simp only [ho, Sem.run_bind, Sem.run_pure, Result.andThen_ok, hx, hrun]
  exact h
/-- append, as a step of a region that draws its order -/
theorem step_appT {P : Program} {w : World} {fp : Nat → Prop} {ops : Array Oper} {o : Oper} {a : Act} {K : Act → World → Prop} {Q : Exit → Act → World → Prop} {E : Prop} (hgd : o.guard = none) (s x : Operand) (t : TypeId)
    (ho : o.op = .call { callee := .builtin .append, args := #[s, x], argTypes := #[t, t] })
    (e : TypeId) (z : Value) (bytes : Nat) (ht : P.underlying t = some (.slice e)) (hi : (P.info? e).map (fun i => (i.zero, i.size, i.bytes)) = some (some z, 1, bytes)) (hzs : z.cells.size = 1)
    (A : Option Addr) (n c : Nat) (xs : List Value) (hs : a.eval s = .slice A n c) (hn : n = xs.length) (hown : Own w fp e A c xs)
    (A2 : Option Addr) (m c2 : Nat) (news : List Value) (hx : a.eval x = .slice A2 m c2) (hm : m = news.length) (hr : Rd w A2 news) (h1 : ∀ u ∈ news, u.oneCell' = true)
    (h63 : n + m ≤ maxLen) (hbytes : (n + m) * bytes ≤ 140737488355328)
    (h : ∀ A' c' w', Own w' (More fp w w') e A' c' (xs ++ news) → Only fp w w' → K (a.put o.dst (.slice A' (n + m) c')) w') :
    if Region.wanted o (yielded ops a.tmps) = true then Oper.wp P o a w K Q else E := by
  have hw : Region.wanted o (yielded ops a.tmps) = true := by simp [Region.wanted, hgd]
  rw [if_pos hw]
  exact wp_app w s x t ho e z bytes ht hi hzs A n c xs hs hn hown A2 m c2 news hx hm hr h1 h63 hbytes h

end Go.Proofs.YtbokimeojhkgmaaDoor

/-
  Names: the reference's Name. No statement of the seat is proved here.
-/
namespace Go.Proofs.YtbokimeojhkgmaaDoor
open Go Go.RowKit
set_option maxRecDepth 100000

theorem conv_kind {k : Nat} (hk : k < 256) (W : World) (g : Nat) (h : Rd W (some ⟨g, 0, none⟩) [.int .u8 (k : Int)]) :
    (convert 26 9 (.slice (some ⟨g, 0, none⟩) 1 1)).run Tryd.prog W = .ok (.string ⟨#[k.toUInt8]⟩) W := by
  refine conv_text W ⟨g, 0, none⟩ 1 1 [k.toUInt8] rfl ?_
  have hb : bv k.toUInt8 = .int .u8 (k : Int) := by
    unfold bv
    rw [show k.toUInt8.toNat = k from by simp; omega]
  rw [List.map_cons, hb]
  exact h

set_option maxHeartbeats 2000000 in
theorem rname_any (k : Nat) (n : Int) (w : World) (hk : k < 256) : Calls Tryd.prog 20 #[.int .u8 (k : Int), .int .i64 n] w (SaysName k n w) := by
  by_cases h : 97 ≤ k ∧ k ≤ 122 ∧ 0 ≤ n ∧ n ≤ 34359738368
  · obtain ⟨h1, h2, h3, h4⟩ := h
    obtain ⟨m, rfl⟩ : ∃ m : Nat, n = m := ⟨n.toNat, by omega⟩
    have g1 : ¬ (k : Int) < 97 := by omega
    have g2 : ¬ (k : Int) > 122 := by omega
    have g3 : ¬ (m : Int) > 34359738368 := by omega
    have hcv0 := conv_kind hk
    obtain ⟨U, hU⟩ : ∃ U : ByteArray, (⟨#[k.toUInt8]⟩ : ByteArray) = U := ⟨_, rfl⟩
    rw [hU] at hcv0
    have Hcv := Lib.hid hcv0
    have hUs : (U.size : Int) ≤ 8388608 := by rw [← hU]; exact Int.ofNat_le.2 (show 1 ≤ 8388608 by omega)
    have Hd := Lib.hid (rdigits_any m (by omega))
    have HN := Lib.hid (nameW_in h1 h2 (show m ≤ 34359738368 by omega))
    obtain ⟨Y, hY⟩ : ∃ Y : ByteArray, (⟨(d36 m).toArray⟩ : ByteArray) = Y := ⟨_, rfl⟩
    have HS : Hid (strV (nameW k m) = .string (U ++ Y)) := Lib.hid (by
      rw [HN.out, ← hY, ← hU]
      unfold strV
      exact congrArg Value.string (ByteArray.mk_append_mk [k.toUInt8] (d36 m)).symm)
    have hYs : (Y.size : Int) ≤ 8388608 := by
      have := d36_seven (show m ≤ 34359738368 by omega)
      rw [← hY]
      show (((d36 m).toArray.size : Nat) : Int) ≤ _
      rw [List.size_toArray]
      omega
    have hsum : ¬ 9223372036854775807 < U.size + Y.size := by omega
    unfold strV at Hd
    rw [hY] at Hd
    clear hY hU HN hcv0
    go_enter Tryd.func20, Tryd.ntmps20
    go_wp2
    refine wp_region_held_drew (S := fun _ => True) (by kernel_rfl) ?_ (fun hHeld => ?_)
    · trivial
    refine wpAnyH_take (i := 0) (v := ?_) (take_list rfl) (by kernel_rfl) (by kernel_rfl) (by kernel_rfl) (fun _ _ _ h => h) (Or.inl ⟨by rfl, ?_⟩) (by assumption) ?_
    rotate_left
    · intro w hSw
      try dsimp only at hSw
      first | (go_simp; done) | (go_simp; with_reducible rfl)
    try simp only [Act.put, List.setIfInBounds_toArray, List.set_cons_zero, List.set_cons_succ]
    refine wpAnyH_take (i := 3) (v := ?_) (take_list rfl) (by kernel_rfl) (by kernel_rfl) (by kernel_rfl) (fun _ _ _ h => h) (Or.inl ⟨by rfl, ?_⟩) (by assumption) ?_
    rotate_left
    · intro w hSw
      try dsimp only at hSw
      first | (go_simp; done) | (go_simp; with_reducible rfl)
    try simp only [Act.put, List.setIfInBounds_toArray, List.set_cons_zero, List.set_cons_succ]
    refine wpAnyH_ready (rs := [1, 4]) (by kernel_rfl) (by simp) ?_
    refine AllReadyH.cons (take_list rfl) (fun K hK => ?_) ?_
    · skip
      go_simp
      refine hK.out _ _ ?_ (fun hHeld => ?_)
      · try dsimp only
        try trivial
      clear hK K
      refine wpAnyH_ready (rs := [2, 4]) (by kernel_rfl) (by simp) ?_
      refine AllReadyH.cons (take_list rfl) (fun K hK => ?_) ?_
      · skip
        refine step_convW rfl 26 9 (.tmp 20) rfl _ (.string U) rfl (Hcv.out _ _ (by repeat (first | exact Rd.lit_at _ _ _ (by simp) | apply Rd.drewN | apply Rd.drew))) ?_
        refine hK.out _ _ ?_ (fun hHeld => ?_)
        · try dsimp only
          try trivial
        clear hK K
        refine wpAnyH_ready (rs := [4]) (by kernel_rfl) (by simp) ?_
        refine AllReadyH.cons (take_list rfl) (fun K hK => ?_) ?_
        · skip
          go_simp
          refine (Hd.out _).mono ?_
          rintro e wx ⟨rfl, nx, rfl⟩
          dsimp only
          refine hK.out _ _ ?_ (fun hHeld => ?_)
          · try dsimp only
            try trivial
          clear hK K
          refine wpAnyH_take (i := 5) (v := ?_) (take_list rfl) (by kernel_rfl) (by kernel_rfl) (by kernel_rfl) (fun _ _ _ h => h) (Or.inl ⟨by rfl, ?_⟩) (by assumption) ?_
          rotate_left
          · intro w hSw
            try dsimp only at hSw
            first | (go_simp; done) | (go_simp; with_reducible rfl)
          try simp only [Act.put, List.setIfInBounds_toArray, List.set_cons_zero, List.set_cons_succ]
          refine wpAnyH_take (i := 6) (v := ?_) (take_list rfl) (by kernel_rfl) (by kernel_rfl) (by kernel_rfl) (fun _ _ _ h => h) (Or.inl ⟨by rfl, ?_⟩) (by assumption) ?_
          rotate_left
          · intro w hSw
            try dsimp only at hSw
            first | (go_simp; done) | (go_simp; with_reducible rfl)
          try simp only [Act.put, List.setIfInBounds_toArray, List.set_cons_zero, List.set_cons_succ]
          refine wpAnyH_done (by kernel_rfl) ?_ _
          go_wp2
          go_ret
          refine ⟨?_, ?_⟩
          · rw [HS.out]
            rfl
          · repeat (first | exact Below.refl _ _ | apply ext_alloc | apply ext_drewN | apply ext_drew)
        exact AllReadyH.nil
      refine AllReadyH.cons (take_list rfl) (fun K hK => ?_) ?_
      · skip
        go_simp
        refine (Hd.out _).mono ?_
        rintro e wx ⟨rfl, nx, rfl⟩
        dsimp only
        refine hK.out _ _ ?_ (fun hHeld => ?_)
        · try dsimp only
          try trivial
        clear hK K
        refine wpAnyH_ready (rs := [2]) (by kernel_rfl) (by simp) ?_
        refine AllReadyH.cons (take_list rfl) (fun K hK => ?_) ?_
        · skip
          refine step_convW rfl 26 9 (.tmp 20) rfl _ (.string U) rfl (Hcv.out _ _ (by repeat (first | exact Rd.lit_at _ _ _ (by simp) | apply Rd.drewN | apply Rd.drew))) ?_
          refine hK.out _ _ ?_ (fun hHeld => ?_)
          · try dsimp only
            try trivial
          clear hK K
          refine wpAnyH_take (i := 5) (v := ?_) (take_list rfl) (by kernel_rfl) (by kernel_rfl) (by kernel_rfl) (fun _ _ _ h => h) (Or.inl ⟨by rfl, ?_⟩) (by assumption) ?_
          rotate_left
          · intro w hSw
            try dsimp only at hSw
            first | (go_simp; done) | (go_simp; with_reducible rfl)
          try simp only [Act.put, List.setIfInBounds_toArray, List.set_cons_zero, List.set_cons_succ]
          refine wpAnyH_take (i := 6) (v := ?_) (take_list rfl) (by kernel_rfl) (by kernel_rfl) (by kernel_rfl) (fun _ _ _ h => h) (Or.inl ⟨by rfl, ?_⟩) (by assumption) ?_
          rotate_left
          · intro w hSw
            try dsimp only at hSw
            first | (go_simp; done) | (go_simp; with_reducible rfl)
          try simp only [Act.put, List.setIfInBounds_toArray, List.set_cons_zero, List.set_cons_succ]
          refine wpAnyH_done (by kernel_rfl) ?_ _
          go_wp2
          go_ret
          refine ⟨?_, ?_⟩
          · rw [HS.out]
            rfl
          · repeat (first | exact Below.refl _ _ | apply ext_alloc | apply ext_drewN | apply ext_drew)
        exact AllReadyH.nil
      exact AllReadyH.nil
    refine AllReadyH.cons (take_list rfl) (fun K hK => ?_) ?_
    · skip
      go_simp
      refine (Hd.out _).mono ?_
      rintro e wx ⟨rfl, nx, rfl⟩
      dsimp only
      refine hK.out _ _ ?_ (fun hHeld => ?_)
      · try dsimp only
        try trivial
      clear hK K
      refine wpAnyH_ready (rs := [1]) (by kernel_rfl) (by simp) ?_
      refine AllReadyH.cons (take_list rfl) (fun K hK => ?_) ?_
      · skip
        go_simp
        refine hK.out _ _ ?_ (fun hHeld => ?_)
        · try dsimp only
          try trivial
        clear hK K
        refine wpAnyH_ready (rs := [2]) (by kernel_rfl) (by simp) ?_
        refine AllReadyH.cons (take_list rfl) (fun K hK => ?_) ?_
        · skip
          refine step_convW rfl 26 9 (.tmp 20) rfl _ (.string U) rfl (Hcv.out _ _ (by repeat (first | exact Rd.lit_at _ _ _ (by simp) | apply Rd.drewN | apply Rd.drew))) ?_
          refine hK.out _ _ ?_ (fun hHeld => ?_)
          · try dsimp only
            try trivial
          clear hK K
          refine wpAnyH_take (i := 5) (v := ?_) (take_list rfl) (by kernel_rfl) (by kernel_rfl) (by kernel_rfl) (fun _ _ _ h => h) (Or.inl ⟨by rfl, ?_⟩) (by assumption) ?_
          rotate_left
          · intro w hSw
            try dsimp only at hSw
            first | (go_simp; done) | (go_simp; with_reducible rfl)
          try simp only [Act.put, List.setIfInBounds_toArray, List.set_cons_zero, List.set_cons_succ]
          refine wpAnyH_take (i := 6) (v := ?_) (take_list rfl) (by kernel_rfl) (by kernel_rfl) (by kernel_rfl) (fun _ _ _ h => h) (Or.inl ⟨by rfl, ?_⟩) (by assumption) ?_
          rotate_left
          · intro w hSw
            try dsimp only at hSw
            first | (go_simp; done) | (go_simp; with_reducible rfl)
          try simp only [Act.put, List.setIfInBounds_toArray, List.set_cons_zero, List.set_cons_succ]
          refine wpAnyH_done (by kernel_rfl) ?_ _
          go_wp2
          go_ret
          refine ⟨?_, ?_⟩
          · rw [HS.out]
            rfl
          · repeat (first | exact Below.refl _ _ | apply ext_alloc | apply ext_drewN | apply ext_drew)
        exact AllReadyH.nil
      exact AllReadyH.nil
    exact AllReadyH.nil
  · have HN := Lib.hid (nameW_out h)
    go_enter Tryd.func20, Tryd.ntmps20
    go_wp2
    all_goals
      go_ret
      refine ⟨?_, Below.refl _ _⟩
      rw [HN.out]
      rfl
end Go.Proofs.YtbokimeojhkgmaaDoor

/-
  strconv's ParseInt at a number's digits. No statement of the seat is proved here.
-/
namespace Go.Proofs.YtbokimeojhkgmaaDoor
open Go Go.RowKit
set_option maxRecDepth 100000

/-- a byte of the 36 digits as a number -/
def digN (c : UInt8) : Nat := if c.toNat < 58 then c.toNat - 48 else c.toNat - 87
def valD (xs : List UInt8) : Nat := xs.foldl (fun n c => n * 36 + digN c) 0
theorem digN_digB {k : Nat} (h : k < 36) : digN (digB k) = k := by
  have : ∀ k : Fin 36, digN (digB k.val) = k.val := by decide
  exact this ⟨k, h⟩
theorem digB_num {k : Nat} (h : k < 10) : (digB k).toNat = 48 + k := by
  have : ∀ k : Fin 10, (digB k.val).toNat = 48 + k.val := by decide
  exact this ⟨k, h⟩
theorem digB_let {k : Nat} (h0 : ¬ k < 10) (h : k < 36) : (digB k).toNat = 87 + k := by
  have : ∀ k : Fin 36, ¬ k.val < 10 → (digB k.val).toNat = 87 + k.val := by decide
  exact this ⟨k, h⟩ h0
theorem valD_snoc (xs : List UInt8) (c : UInt8) : valD (xs ++ [c]) = valD xs * 36 + digN c := by
  unfold valD
  rw [List.foldl_append]
  rfl
theorem valD_d36 : ∀ n, valD (d36 n) = n := by
  intro n
  induction n using Nat.strongRecOn with
  | ind n ih =>
    by_cases h : n < 36
    · rw [d36_small h]
      show 0 * 36 + digN (digB n) = n
      rw [digN_digB h]
      omega
    · rw [d36_big h, valD_snoc, ih (n / 36) (by omega), digN_digB (Nat.mod_lt _ (by omega))]
      omega
def AllD (xs : List UInt8) : Prop := ∀ c ∈ xs, ∃ k, k < 36 ∧ c = digB k
theorem allD_d36 : ∀ n, AllD (d36 n) := by
  intro n
  induction n using Nat.strongRecOn with
  | ind n ih =>
    by_cases h : n < 36
    · rw [d36_small h]
      intro c hc
      simp at hc
      exact ⟨n, h, hc⟩
    · rw [d36_big h]
      intro c hc
      rw [List.mem_append] at hc
      rcases hc with hc | hc
      · exact ih (n / 36) (by omega) c hc
      · simp at hc
        exact ⟨n % 36, Nat.mod_lt _ (by omega), hc⟩
theorem valD_lt : ∀ (xs : List UInt8), AllD xs → valD xs < 36 ^ xs.length := by
  intro xs
  have go : ∀ (m : Nat) (xs : List UInt8), xs.length = m → AllD xs → valD xs < 36 ^ m := by
    intro m
    induction m with
    | zero => intro xs hx _; rw [List.eq_nil_of_length_eq_zero hx]; decide
    | succ m ih =>
      intro xs hx h
      have hx0 : xs ≠ [] := by intro e; rw [e] at hx; simp at hx
      have hsp := List.dropLast_concat_getLast hx0
      have h1 := ih xs.dropLast (by rw [List.length_dropLast]; omega) (fun c hc => h c (List.dropLast_subset _ hc))
      obtain ⟨k, hk, he⟩ := h (xs.getLast hx0) (List.getLast_mem hx0)
      rw [← hsp, valD_snoc, he, digN_digB hk, Nat.pow_succ]
      omega
  exact go _ xs rfl
theorem or_low (c : Nat) (h1 : 97 ≤ c) (h2 : c ≤ 122) : bits .or .u8 (c : Int) 32 = (c : Int) := by
  have : ∀ k : Fin 123, 97 ≤ k.val → bits .or .u8 (k.val : Int) 32 = (k.val : Int) := by decide
  exact this ⟨c, by omega⟩ h1
theorem str_bytes (w : World) (bs : List UInt8) : ∃ ad c w1, (convert 9 26 (.string ⟨bs.toArray⟩)).run Tryd.prog w = .ok (.slice (some ad) bs.length c) w1 ∧ Rd w1 (some ad) (bs.map bv) ∧ Below w.heap.size w w1 := by
  have h := run_bytes_of_string (P := Tryd.prog) w 9 26 5 ⟨bs.toArray⟩ Tryd.underlying9 Tryd.underlying26 Tryd.underlying5
  refine ⟨_, _, _, h, ?_, ?_⟩
  · intro j u hu
    refine ⟨_, rfl, ?_⟩
    refine World.news_of_block (heap_alloc_new w.drew _) j u ?_
    unfold bytesRow
    have hj : j < bs.length := by have := (List.getElem?_eq_some_iff.1 hu).1; simpa using this
    rw [Array.getElem?_toList, Array.getElem?_append_left (by simpa using hj), Array.getElem?_map]
    simp only [List.getElem?_map] at hu
    simpa [bv] using hu
  · exact ext_alloc (ext_drew (Below.refl _ _)) _

set_option maxHeartbeats 2000000 in
theorem parseU_any (xs : List UInt8) (w : World) (h0 : 0 < xs.length) (hl : xs.length ≤ 7) (hd : AllD xs) :
    Calls Tryd.prog 61 #[strV xs, .int .i64 36, .int .i64 64] w fun e w' => e = .returned (.tuple #[.int .u64 (valD xs : Int), .nilIface]) ∧ Below w.heap.size w w' := by
  unfold strV
  have hem : xs.isEmpty = false := by cases xs with | nil => simp at h0 | cons a b => rfl
  have hmx : IntKind.u64.wrap (IntKind.u64.wrap 18446744073709551616 - 1) = 18446744073709551615 := by kernel_rfl
  obtain ⟨ad, cc, w1, hcv, hrd, hb⟩ := str_bytes w xs
  have Hrd := Lib.hid hrd
  have Hb := Lib.hid hb
  clear hrd hb
  go_enter Tryd.func61, Tryd.ntmps61
  go_wp2
  generalize hC : (512409557603043101 : Int) = C
  generalize hM : (18446744073709551615 : Int) = M
  have HCM : Hid (C = 512409557603043101 ∧ M = 18446744073709551615) := Lib.hid ⟨hC.symm, hM.symm⟩
  clear hC hM hmx hcv
  go_loopw [12, 13, 101] (fun ub n i wr => ∃ k : Nat, k ≤ xs.length ∧ ub = .bool false ∧ i = .int .i64 (k : Int) ∧ n = .int .u64 (valD (xs.take k) : Int) ∧ Hid (Below w1.heap.size w1 wr)) (fun _ _ i _ => xs.length - (intOf i).toNat)
  case atStart => exact ⟨0, Nat.zero_le _, rfl, rfl, rfl, Lib.hid (Below.refl _ _)⟩
  case round =>
    obtain ⟨k, hk, rfl, rfl, rfl, Hr⟩ := hrel
    by_cases hlt : k < xs.length
    · have hki : (k : Int) < (xs.length : Int) := by omega
      have hN := valD_lt (xs.take k) (fun c hc => hd c (List.mem_of_mem_take hc))
      have hN2 : valD (xs.take k) < 36 ^ 7 := Nat.lt_of_lt_of_le hN (Nat.pow_le_pow_right (by omega) (by rw [List.length_take]; omega))
      obtain ⟨N, hNe⟩ : ∃ N, valD (xs.take k) = N := ⟨_, rfl⟩
      have HT : Hid (valD (xs.take (k + 1)) = N * 36 + digN xs[k]) := Lib.hid (by rw [take_snoc xs k hlt, valD_snoc, hNe])
      rw [hNe] at hN2 ⊢
      have hN3 : N < 78364164096 := hN2
      obtain ⟨ad', e1, hc⟩ := (Hrd.out.ext Hr.out).at_ (k := k) (by simpa using hlt)
      injection e1 with e1
      subst e1
      rw [List.getElem_map] at hc
      obtain ⟨d, hd36, he⟩ := hd xs[k] (List.getElem_mem hlt)
      rw [he, digN_digB hd36] at HT
      rw [he] at hc
      unfold bv at hc
      obtain ⟨c, hcc⟩ : ∃ c, (digB d).toNat = c := ⟨_, rfl⟩
      rw [hcc] at hc
      clear hN hN2 hNe he
      have hNi : (N : Int) < 78364164096 := by omega
      by_cases h10 : d < 10
      · rw [digB_num h10] at hcc
        obtain rfl : d = c - 48 := by omega
        have hc1 : 48 ≤ c := by omega
        have hc2 : c ≤ 57 := by omega
        have hc1i : 48 ≤ (c : Int) := by omega
        have hc2i : (c : Int) ≤ 57 := by omega
        have hw1 : IntKind.u8.wrap ((c : Int) - 48) = (c : Int) - 48 := by rw [IntKind.wrap_u8]; omega
        have f1 : (N : Int) < C := by have := HCM.out.1; omega
        have f2 : IntKind.u64.wrap ((N : Int) * 36) = (N : Int) * 36 := by rw [IntKind.wrap_u64]; omega
        have f3 : IntKind.u64.wrap ((N : Int) * 36 + ((c : Int) - 48)) = (N : Int) * 36 + ((c : Int) - 48) := by rw [IntKind.wrap_u64]; omega
        have f4 : (N : Int) * 36 ≤ (N : Int) * 36 + ((c : Int) - 48) := by omega
        have f5 : (N : Int) * 36 + ((c : Int) - 48) ≤ M := by have := HCM.out.2; omega
        have f6 : (c : Int) - 48 < 36 := by omega
        clear hNi hN3
        have HT2 : Hid ((valD (xs.take (k + 1)) : Int) = (N : Int) * 36 + ((c : Int) - 48)) := Lib.hid (by rw [HT.out]; omega)
        clear HT hcc hd36 h10
        go_wp2
        go_roundw
        case rel => exact ⟨k + 1, by omega, rfl, by go_num, by rw [HT2.out], Hr⟩
        case measure => simp [intOf]; omega
      · rw [digB_let h10 hd36] at hcc
        obtain rfl : d = c - 87 := by omega
        have hc1 : 97 ≤ c := by omega
        have hc2 : c ≤ 122 := by omega
        have hor := or_low c hc1 hc2
        have hc1i : 97 ≤ (c : Int) := by omega
        have hc2i : (c : Int) ≤ 122 := by omega
        have hw1 : IntKind.u8.wrap ((c : Int) - 97) = (c : Int) - 97 := by rw [IntKind.wrap_u8]; omega
        have hw2 : IntKind.u8.wrap ((c : Int) - 97 + 10) = (c : Int) - 97 + 10 := by rw [IntKind.wrap_u8]; omega
        have f1 : (N : Int) < C := by have := HCM.out.1; omega
        have f2 : IntKind.u64.wrap ((N : Int) * 36) = (N : Int) * 36 := by rw [IntKind.wrap_u64]; omega
        have f3 : IntKind.u64.wrap ((N : Int) * 36 + ((c : Int) - 97 + 10)) = (N : Int) * 36 + ((c : Int) - 97 + 10) := by rw [IntKind.wrap_u64]; omega
        have f4 : (N : Int) * 36 ≤ (N : Int) * 36 + ((c : Int) - 97 + 10) := by omega
        have f5 : (N : Int) * 36 + ((c : Int) - 97 + 10) ≤ M := by have := HCM.out.2; omega
        have f6 : (c : Int) - 97 + 10 < 36 := by omega
        clear hNi hN3
        have HT2 : Hid ((valD (xs.take (k + 1)) : Int) = (N : Int) * 36 + ((c : Int) - 97 + 10)) := Lib.hid (by rw [HT.out]; omega)
        clear HT hcc hd36 h10
        go_wp2
        go_roundw
        case rel => exact ⟨k + 1, by omega, rfl, by go_num, by rw [HT2.out], Hr⟩
        case measure => simp [intOf]; omega
    · obtain rfl : k = xs.length := by omega
      rw [List.take_length]
      have Hb2 := Lib.hid (ext_trans Hb.out Hr.out)
      go_wp2
      go_ret2
      exact ⟨rfl, Hb2.out⟩
end Go.Proofs.YtbokimeojhkgmaaDoor

/-
  Names: Number at a name. No statement of the seat is proved here.
-/
namespace Go.Proofs.YtbokimeojhkgmaaDoor
open Go Go.RowKit
set_option maxRecDepth 100000

set_option maxHeartbeats 2000000 in
theorem parseI_any (xs : List UInt8) (w : World) (h0 : 0 < xs.length) (hl : xs.length ≤ 7) (hd : AllD xs) :
    Calls Tryd.prog 57 #[strV xs, .int .i64 36, .int .i64 64] w fun e w' => e = .returned (.tuple #[.int .i64 (valD xs : Int), .nilIface]) ∧ Below w.heap.size w w' := by
  have HU := Lib.hid (parseU_any xs w h0 hl hd)
  have hN := valD_lt xs hd
  have hN2 : valD xs < 36 ^ 7 := Nat.lt_of_lt_of_le hN (Nat.pow_le_pow_right (by omega) hl)
  obtain ⟨N, hNe⟩ : ∃ N, valD xs = N := ⟨_, rfl⟩
  rw [hNe] at HU hN2 ⊢
  have hN3 : N < 78364164096 := hN2
  have hNi : (N : Int) < 78364164096 := by omega
  unfold strV at HU ⊢
  have hem : xs.isEmpty = false := by cases xs with | nil => simp at h0 | cons a b => rfl
  have hsz : (⟨xs.toArray⟩ : ByteArray).size = xs.length := rfl
  obtain ⟨d, hd36, he⟩ := hd xs[0] (List.getElem_mem h0)
  have hc0 : ((digB d).toNat : Int) ≠ 43 ∧ ((digB d).toNat : Int) ≠ 45 := by
    by_cases h10 : d < 10
    · rw [digB_num h10]; omega
    · rw [digB_let h10 hd36]; omega
  obtain ⟨c, hcc⟩ : ∃ c : Int, ((digB d).toNat : Int) = c := ⟨_, rfl⟩
  rw [hcc] at hc0
  have hci : (((⟨xs.toArray⟩ : ByteArray)[0]'(by rw [hsz]; exact h0)).toNat : Int) = c := by rw [← hcc, ← he]; rfl
  have hc1 : (c == 43) = false := by simp [hc0.1]
  have hc2 : (c == 45) = false := by simp [hc0.2]
  have hw1 : IntKind.i64.wrap (N : Int) = (N : Int) := IntWalk.i64_in _ (by omega)
  obtain ⟨M, hM⟩ : ∃ M, IntKind.u64.wrap 9223372036854775808 = M := ⟨_, rfl⟩
  have hMv : M = 9223372036854775808 := by rw [← hM]; kernel_rfl
  have hNM : (N : Int) < M := by omega
  clear hN hN2 hN3 hNe he hcc hc0 hMv hNi
  go_enter Tryd.func57, Tryd.ntmps57
  go_wp2_with fail
  refine HU.out.mono ?_
  rintro e w2 ⟨rfl, hb⟩
  have Hb := Lib.hid hb
  clear hb HU
  go_wp2
  go_ret2
  exact ⟨rfl, Hb.out⟩

set_option maxHeartbeats 2000000 in
theorem parseI2_any (xs : List UInt8) (w : World) (h0 : 0 < xs.length) (hl : xs.length ≤ 7) (hd : AllD xs) :
    Calls Tryd.prog 39 #[strV xs, .int .i64 36, .int .i64 64] w fun e w' => e = .returned (.tuple #[.int .i64 (valD xs : Int), .nilIface]) ∧ Below w.heap.size w w' := by
  have HI := Lib.hid (parseI_any xs w h0 hl hd)
  obtain ⟨N, hNe⟩ : ∃ N, valD xs = N := ⟨_, rfl⟩
  rw [hNe] at HI ⊢
  unfold strV at HI ⊢
  clear hNe hd
  go_enter Tryd.func39, Tryd.ntmps39
  go_wp2_with fail
  refine HI.out.mono ?_
  rintro e w2 ⟨rfl, hb⟩
  have Hb := Lib.hid hb
  clear hb HI
  go_wp2
  go_ret2
  exact ⟨rfl, Hb.out⟩

theorem tail_str (c : UInt8) (D : List UInt8) (W : World) : (Instr.sliceAt 9 (.string ⟨(c :: D).toArray⟩) (some (.int .i64 1)) none none).run Tryd.prog W = .ok (.string ⟨D.toArray⟩) W := by
  have hs : (⟨(c :: D).toArray⟩ : ByteArray).size = D.length + 1 := rfl
  rw [run_sliceAt_string W 9 _ _ _ _ Tryd.underlying9, run_slice_string_l W 9 _ Tryd.underlying9 .i64 1 (by omega) (by rw [hs]; omega)]
  congr 2
  apply ByteArray.ext
  rw [ByteArray.data_extract]
  apply Array.toList_inj.1
  rw [hs]
  simp

set_option maxHeartbeats 2000000 in
theorem number_any (k n : Nat) (w : World) (h1 : 97 ≤ k) (h2 : k ≤ 122) (hn : n ≤ 34359738368) :
    Calls Tryd.prog 17 #[strV (nameW k n)] w fun e w' => e = .returned (.tuple #[.int .u8 (k : Int), .int .i64 (n : Int), .bool true]) ∧ Below w.heap.size w w' := by
  have HI := Lib.hid fun W => parseI2_any (d36 n) W (by have := d36_pos n; omega) (d36_seven hn) (allD_d36 n)
  rw [valD_d36] at HI
  have HN := Lib.hid fun W => name_any k n W (by omega)
  unfold SaysName at HN
  rw [nameW_in h1 h2 hn] at HN ⊢
  have hkk : k.toUInt8.toNat = k := by simp; omega
  have hsl := fun W => tail_str k.toUInt8 (d36 n) W
  have hci : (((⟨(k.toUInt8 :: d36 n).toArray⟩ : ByteArray)[0]'(by show 0 < (d36 n).length + 1; omega)).toNat : Int) = (k : Int) := by
    show ((k.toUInt8).toNat : Int) = _
    rw [hkk]
  have hw1 : IntKind.i64.wrap (n : Int) = (n : Int) := IntWalk.i64_in _ (by omega)
  unfold strV at HI HN ⊢
  obtain ⟨Y, hY⟩ : ∃ Y : ByteArray, (⟨(d36 n).toArray⟩ : ByteArray) = Y := ⟨_, rfl⟩
  rw [hY] at hsl HI
  have hsz : (⟨(k.toUInt8 :: d36 n).toArray⟩ : ByteArray).size = (d36 n).length + 1 := rfl
  obtain ⟨Z, hZ⟩ : ∃ Z : ByteArray, (⟨(k.toUInt8 :: d36 n).toArray⟩ : ByteArray) = Z := ⟨_, rfl⟩
  have hZ0 : (Z.toList == []) = false := by rw [← hZ]; simp
  have hZs : 1 ≤ Z.size := by rw [← hZ, hsz]; omega
  have hci2 : ((Z[0]'hZs).toNat : Int) = (k : Int) := by subst hZ; exact hci
  rw [hZ] at hsl HN ⊢
  clear hci hY hsz hZ hkk hn
  go_enter Tryd.func17, Tryd.ntmps17
  go_wp2_with fail
  refine (HI.out _).mono ?_
  rintro e w2 ⟨rfl, hb⟩
  have Hb := Lib.hid hb
  clear hb HI
  go_wp2_with fail
  refine (HN.out _).mono ?_
  rintro e w3 ⟨rfl, hb⟩
  have Hb3 := Lib.hid (ext_trans Hb.out hb)
  clear hb HN
  go_wp2
  go_ret3
  exact ⟨rfl, Hb3.out⟩
end Go.Proofs.YtbokimeojhkgmaaDoor

/-
  Names: the reference's Number at any text. No statement of the seat is proved here.
-/
namespace Go.Proofs.YtbokimeojhkgmaaDoor
open Go Go.RowKit
set_option maxRecDepth 100000

/-- what Number says of a text -/
def numW : List UInt8 → Nat × Nat × Bool
  | [] => (0, 0, false)
  | k :: D => if nameW k.toNat (valD D) = k :: D then (k.toNat, valD D, true) else (0, 0, false)
def numV (r : Nat × Nat × Bool) : Value := .tuple #[.int .u8 (r.1 : Int), .int .i64 (r.2.1 : Int), .bool r.2.2]
theorem nameW_tail {k : Nat} {v : Int} {c : UInt8} {D : List UInt8} (h : nameW k v = c :: D) : ∃ n : Nat, n ≤ 34359738368 ∧ D = d36 n := by
  by_cases hc : 97 ≤ k ∧ k ≤ 122 ∧ 0 ≤ v ∧ v ≤ 34359738368
  · obtain ⟨n, rfl⟩ : ∃ n : Nat, v = n := ⟨v.toNat, by omega⟩
    rw [nameW_in hc.1 hc.2.1 (by omega)] at h
    injection h with _ h
    exact ⟨n, by omega, h.symm⟩
  · rw [nameW_out hc] at h
    cases h
theorem numW_bad {k : UInt8} {D : List UInt8} (h : ¬ AllD D ∨ D.length = 0 ∨ 7 < D.length) : numW (k :: D) = (0, 0, false) := by
  show (if nameW k.toNat (valD D) = k :: D then (k.toNat, valD D, true) else (0, 0, false)) = _
  rw [if_neg]
  intro he
  obtain ⟨n, hn, rfl⟩ := nameW_tail he
  have := d36_pos n
  have := d36_seven hn
  rcases h with h | h | h
  · exact h (allD_d36 n)
  · omega
  · omega
theorem num_digit (c : UInt8) : (48 ≤ c.toNat ∧ c.toNat ≤ 57 → (∃ k, k < 36 ∧ c = digB k) ∧ digN c = c.toNat - 48) ∧ (97 ≤ c.toNat ∧ c.toNat ≤ 122 → (∃ k, k < 36 ∧ c = digB k) ∧ digN c = c.toNat - 87) ∧
    (¬ (48 ≤ c.toNat ∧ c.toNat ≤ 57) → ¬ (97 ≤ c.toNat ∧ c.toNat ≤ 122) → ∀ k, k < 36 → c ≠ digB k) := by
  refine ⟨fun h => ⟨⟨c.toNat - 48, by omega, ?_⟩, ?_⟩, fun h => ⟨⟨c.toNat - 87, by omega, ?_⟩, ?_⟩, fun h1 h2 k hk he => ?_⟩
  · apply UInt8.toNat_inj.1
    rw [digB_num (by omega)]
    omega
  · unfold digN
    rw [if_pos (by omega)]
  · apply UInt8.toNat_inj.1
    rw [digB_let (by omega) (by omega)]
    omega
  · unfold digN
    rw [if_neg (by omega)]
  · by_cases h10 : k < 10
    · have := digB_num h10
      rw [← he] at this
      omega
    · have := digB_let h10 hk
      rw [← he] at this
      omega

set_option maxHeartbeats 2000000 in
theorem rnumber_any (s : List UInt8) (hs : s.length ≤ 1000) (w : World) : Calls Tryd.prog 18 #[strV s] w fun e w' => e = .returned (numV (numW s)) ∧ Below w.heap.size w w' := by
  rcases s with _ | ⟨k, D⟩
  · unfold strV
    go_enter Tryd.func18, Tryd.ntmps18
    go_wp2
    go_ret3
    exact ⟨rfl, Below.refl _ _⟩
  have hlen : (k :: D).length = D.length + 1 := rfl
  have hsz : (⟨(k :: D).toArray⟩ : ByteArray).size = D.length + 1 := rfl
  by_cases hd0 : D.length = 0 ∨ 8 < D.length
  · have HN := Lib.hid (numW_bad (k := k) (D := D) (by omega))
    unfold strV
    obtain ⟨Z, hZ⟩ : ∃ Z : ByteArray, (⟨(k :: D).toArray⟩ : ByteArray) = Z := ⟨_, rfl⟩
    rw [hZ] at hsz ⊢
    obtain ⟨z, hz⟩ : ∃ z, Z.size = z := ⟨_, rfl⟩
    rcases hd0 with h | h
    · have h1 : (Z.size : Int) < 2 := by omega
      clear hsz hZ hz hs hlen h
      go_enter Tryd.func18, Tryd.ntmps18
      go_wp2
      go_ret3
      rw [HN.out]
      exact ⟨rfl, Below.refl _ _⟩
    · have h1 : 2 ≤ (Z.size : Int) := by omega
      have h2 : 9 < (Z.size : Int) := by omega
      clear hsz hZ hz hs hlen h
      go_enter Tryd.func18, Tryd.ntmps18
      go_wp2
      go_ret3
      rw [HN.out]
      exact ⟨rfl, Below.refl _ _⟩
  have hl1 : 1 ≤ D.length := by omega
  have hl8 : D.length ≤ 8 := by omega
  have HR := Lib.hid fun W => rname_any k.toNat (valD D) W k.toNat_lt
  unfold SaysName at HR
  have hix : ∀ (j : Nat) (h : j < D.length), (((⟨(k :: D).toArray⟩ : ByteArray)[j + 1]'(by rw [hsz]; omega)).toNat) = (D[j]).toNat := fun j h => rfl
  have hi0 : ((((⟨(k :: D).toArray⟩ : ByteArray)[0]'(by rw [hsz]; omega)).toNat : Nat) : Int) = (k.toNat : Int) := rfl
  unfold strV at HR ⊢
  have HV : Hid (∀ V : ByteArray, (⟨(nameW k.toNat (valD D)).toArray⟩ : ByteArray) = V → (nameW k.toNat (valD D) = k :: D → V = ⟨(k :: D).toArray⟩) ∧ (nameW k.toNat (valD D) ≠ k :: D → (V.toList == (⟨(k :: D).toArray⟩ : ByteArray).toList) = false)) := Lib.hid (fun V hV => by
    subst hV
    refine ⟨fun h => by rw [h], fun h => ?_⟩
    rw [beq_eq_false_iff_ne]
    intro he
    apply h
    simpa using he)
  obtain ⟨Z, hZ⟩ : ∃ Z : ByteArray, (⟨(k :: D).toArray⟩ : ByteArray) = Z := ⟨_, rfl⟩
  have hsz2 : Z.size = D.length + 1 := by rw [← hZ]; exact hsz
  have hix2 : ∀ (j : Nat) (h : j < D.length) (hz : j + 1 < Z.size), (Z[j + 1]'hz).toNat = (D[j]).toNat := by subst hZ; exact fun j h _ => hix j h
  have hz0 : 0 < Z.size := by omega
  have hi02 : (((Z[0]'hz0).toNat : Nat) : Int) = (k.toNat : Int) := by subst hZ; exact hi0
  rw [hZ] at HV ⊢
  have Hix := Lib.hid hix2
  have h1 : 2 ≤ (Z.size : Int) := by omega
  have h2 : (Z.size : Int) ≤ 9 := by omega
  have Hsz := Lib.hid hsz2
  clear hix hi0 hZ hsz hix2 hs hlen hd0 hsz2
  go_enter Tryd.func18, Tryd.ntmps18
  go_wp2
  go_loopw [5, 6] (fun n i wr => ∃ j : Nat, i = .int .i64 ((j : Int) + 1) ∧ n = .int .i64 (valD (D.take j) : Int) ∧ Hid (j ≤ D.length) ∧ Hid (AllD (D.take j)) ∧ wr = w) (fun _ i _ => D.length + 1 - (intOf i).toNat)
  case atStart => exact ⟨0, rfl, rfl, Lib.hid (Nat.zero_le _), Lib.hid (fun c hc => by simp at hc), rfl⟩
  case round =>
    obtain ⟨j, rfl, rfl, Hj, Hd, rfl⟩ := hrel
    by_cases hlt : j < D.length
    · have hji : (j : Int) + 1 < (Z.size : Int) := by have := Hsz.out; omega
      have hjn : j + 1 < Z.size := by have := Hsz.out; omega
      have hN := valD_lt (D.take j) Hd.out
      have hN2 : valD (D.take j) < 36 ^ 8 := Nat.lt_of_lt_of_le hN (Nat.pow_le_pow_right (by omega) (by rw [List.length_take]; omega))
      obtain ⟨N, hNe⟩ : ∃ N, valD (D.take j) = N := ⟨_, rfl⟩
      have HT : Hid (valD (D.take (j + 1)) = N * 36 + digN D[j]) := Lib.hid (by rw [take_snoc D j hlt, valD_snoc, hNe])
      have HA : Hid ((∃ d, d < 36 ∧ D[j] = digB d) → AllD (D.take (j + 1))) := Lib.hid (fun h c hc => by
        rw [take_snoc D j hlt, List.mem_append] at hc
        rcases hc with hc | hc
        · exact Hd.out c hc
        · simp at hc
          rw [hc]
          exact h)
      rw [hNe] at hN2 ⊢
      have hN3 : N < 2821109907456 := hN2
      obtain ⟨c, hc⟩ : ∃ c, D[j].toNat = c := ⟨_, rfl⟩
      have hci : (((Z[j + 1]'hjn).toNat : Nat) : Int) = (c : Int) := by rw [← hc, Hix.out j hlt hjn]
      have HD := Lib.hid (num_digit D[j])
      rw [hc] at HD
      have hc256 : c < 256 := by rw [← hc]; exact D[j].toNat_lt
      have HB : Hid (¬ AllD D ∨ ∃ d, d < 36 ∧ D[j] = digB d) := Lib.hid (by
        by_cases h : ∃ d, d < 36 ∧ D[j] = digB d
        · exact .inr h
        · exact .inl (fun hA => h (hA _ (List.getElem_mem hlt))))
      clear hN hN2 hNe hc
      by_cases hA : 48 ≤ c ∧ c ≤ 57
      · obtain ⟨g1, g2⟩ := hA
        have g1i : 48 ≤ (c : Int) := by omega
        have g2i : (c : Int) ≤ 57 := by omega
        have f1 : IntKind.i64.wrap (36 * (N : Int)) = 36 * (N : Int) := IntWalk.i64_in _ (by omega)
        have f2 : IntKind.i64.wrap (36 * (N : Int) + (c : Int)) = 36 * (N : Int) + (c : Int) := IntWalk.i64_in _ (by omega)
        have f3 : IntKind.i64.wrap (36 * (N : Int) + (c : Int) - 48) = 36 * (N : Int) + (c : Int) - 48 := IntWalk.i64_in _ (by omega)
        obtain ⟨q1, q2⟩ := HD.out.1 ⟨g1, g2⟩
        have HT2 : Hid ((valD (D.take (j + 1)) : Int) = 36 * (N : Int) + (c : Int) - 48) := Lib.hid (by rw [HT.out, q2]; omega)
        have HA2 := Lib.hid (HA.out q1)
        clear q1 q2 HT HD HB HA hN3
        go_wp2
        go_roundw
        case rel => exact ⟨j + 1, by go_num, by rw [HT2.out], Lib.hid (by omega), HA2, trivial⟩
        case measure => simp [intOf]; omega
      · by_cases hB : 97 ≤ c ∧ c ≤ 122
        · obtain ⟨g1, g2⟩ := hB
          have g1i : 97 ≤ (c : Int) := by omega
          have g2i : (c : Int) ≤ 122 := by omega
          have f1 : IntKind.i64.wrap (36 * (N : Int)) = 36 * (N : Int) := IntWalk.i64_in _ (by omega)
          have f2 : IntKind.i64.wrap (36 * (N : Int) + (c : Int)) = 36 * (N : Int) + (c : Int) := IntWalk.i64_in _ (by omega)
          have f3 : IntKind.i64.wrap (36 * (N : Int) + (c : Int) - 97) = 36 * (N : Int) + (c : Int) - 97 := IntWalk.i64_in _ (by omega)
          have f4 : IntKind.i64.wrap (36 * (N : Int) + (c : Int) - 97 + 10) = 36 * (N : Int) + (c : Int) - 97 + 10 := IntWalk.i64_in _ (by omega)
          obtain ⟨q1, q2⟩ := HD.out.2.1 ⟨g1, g2⟩
          have HT2 : Hid ((valD (D.take (j + 1)) : Int) = 36 * (N : Int) + (c : Int) - 97 + 10) := Lib.hid (by rw [HT.out, q2]; omega)
          have HA2 := Lib.hid (HA.out q1)
          clear q1 q2 HT HD HB HA hN3 hA
          go_wp2
          go_roundw
          case rel => exact ⟨j + 1, by go_num, by rw [HT2.out], Lib.hid (by omega), HA2, trivial⟩
          case measure => simp [intOf]; omega
        · have hbad : ¬ AllD D := by
            rcases HB.out with h | ⟨d, hd, he⟩
            · exact h
            · exact absurd he (HD.out.2.2 hA hB d hd)
          have HN := Lib.hid (numW_bad (k := k) (.inl hbad))
          have hsp : c < 48 ∨ (57 < c ∧ c < 97) ∨ 122 < c := by omega
          clear hbad HT HD HB HA hN3 hA hB
          rcases hsp with h | ⟨h, h'⟩ | h
          · have h3 : (c : Int) < 48 := by omega
            clear h
            go_wp2
            go_ret3
            rw [HN.out]
            exact ⟨rfl, Below.refl _ _⟩
          · have h3 : 57 < (c : Int) := by omega
            have h4 : (c : Int) < 97 := by omega
            clear h h'
            go_wp2
            go_ret3
            rw [HN.out]
            exact ⟨rfl, Below.refl _ _⟩
          · have h3 : 122 < (c : Int) := by omega
            clear h
            go_wp2
            go_ret3
            rw [HN.out]
            exact ⟨rfl, Below.refl _ _⟩
    · have hjn : ¬ (j : Int) + 1 < (Z.size : Int) := by have := Hsz.out; omega
      obtain rfl : j = D.length := by have := Hj.out; omega
      rw [List.take_length]
      obtain ⟨V, hV⟩ : ∃ V : ByteArray, (⟨(nameW k.toNat (valD D)).toArray⟩ : ByteArray) = V := ⟨_, rfl⟩
      obtain ⟨hv1, hv2⟩ := HV.out V hV
      rw [hV] at HR
      have hz : 0 < Z.size := by have := Hsz.out; omega
      by_cases he : nameW k.toNat (valD D) = k :: D
      · have HN : Hid (numW (k :: D) = (k.toNat, valD D, true)) := Lib.hid (by show (if nameW k.toNat (valD D) = k :: D then (k.toNat, valD D, true) else (0, 0, false)) = _; rw [if_pos he])
        obtain rfl := hv1 he
        clear hv1 hv2 he hV
        go_wp2_with fail
        refine (HR.out _).mono ?_
        rintro e w2 ⟨rfl, hb⟩
        have Hb := Lib.hid hb
        clear hb HR
        go_wp2
        go_ret3
        rw [HN.out]
        exact ⟨rfl, Hb.out⟩
      · have HN : Hid (numW (k :: D) = (0, 0, false)) := Lib.hid (by show (if nameW k.toNat (valD D) = k :: D then (k.toNat, valD D, true) else (0, 0, false)) = _; rw [if_neg he])
        have hne := hv2 he
        clear hv1 hv2 he hV
        go_wp2_with fail
        refine (HR.out _).mono ?_
        rintro e w2 ⟨rfl, hb⟩
        have Hb := Lib.hid hb
        clear hb HR
        go_wp2
        go_ret3
        rw [HN.out]
        exact ⟨rfl, Hb.out⟩
end Go.Proofs.YtbokimeojhkgmaaDoor
