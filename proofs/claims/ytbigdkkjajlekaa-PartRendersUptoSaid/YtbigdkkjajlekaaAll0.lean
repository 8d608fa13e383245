/-
  Texts of this claim, joined (part 0): contracts and lemmas that the last text goes by. No statement of the seat is proved here.
-/
import Derived.WalkKit
import Derived.Deep.Draws
import Derived.Deep.QuietTactic
import Derived.BigQuiet
import Derived.Maps.AppendAt
import Derived.Deep.AppendLies
import Derived.OneCell
import Derived.Lib.Hide
import Derived.Test.YtbigdkkjajlekaaRows
import Derived.ProofKit
import Derived.OpenShut
import Derived.Deep.DeepHandedRow
import Derived.Deep.Matrix
import Derived.LaidLaws
import Derived.Deep.MidRow
import Derived.Deep.AppendSrc
import Derived.Deep.RegionHeld3
import Derived.Deep.RegionWith
import Derived.Deep.DeepCutAuto
import Derived.Deep.DeepMust
import Derived.Laws.IdiomStrings
set_option linter.unusedVariables false
set_option linter.unusedSimpArgs false
/-
  Words for memory, for every later text: what a piece of memory holds ('Rd'), what the call owns ('Own'), what may turn ('Only'), and append onto what is owned. No statement of the seat is proved here.
-/
namespace Go.Proofs.Ytbigdkkjajlekaa
open Go Go.RowKit

/-- a byte as a cell -/
def bv (u : UInt8) : Value := .int .u8 (u.toNat : Int)
theorem bv_one (u : UInt8) : (bv u).oneCell' = true := rfl
theorem bvs_one (l : List UInt8) : ∀ u ∈ l.map bv, u.oneCell' = true := by
  intro u hu
  obtain ⟨x, _, rfl⟩ := List.mem_map.1 hu
  rfl

/-- a number as a cell; what an int bears -/
def iv (v : Int) : Value := .int .i64 v
def isInt (v : Int) : Prop := -9223372036854775808 ≤ v ∧ v ≤ 9223372036854775807

/-! ### What may turn -/
structure Only (S : Nat → Prop) (w w' : World) : Prop where
  os : w'.os = w.os
  tape : w'.tape = w.tape
  output : w'.output = w.output
  size : w.heap.size ≤ w'.heap.size
  block : ∀ k, k < w.heap.size → ¬ S k → w'.heap[k]? = w.heap[k]?

section
variable {S T : Nat → Prop} {a b c w w' : World}
theorem Only.refl (S : Nat → Prop) (w : World) : Only S w w := ⟨rfl, rfl, rfl, Nat.le_refl _, fun _ _ _ => rfl⟩
theorem Only.trans (h : Only S a b) (k : Only T b c) (hs : ∀ i, i < a.heap.size → T i → S i) : Only S a c :=
  ⟨k.os.trans h.os, k.tape.trans h.tape, k.output.trans h.output, Nat.le_trans h.size k.size,
    fun i hi hn => (k.block i (Nat.lt_of_lt_of_le hi h.size) (fun ht => hn (hs i hi ht))).trans (h.block i hi hn)⟩
theorem Only.mono (h : Only S a b) (hs : ∀ i, i < a.heap.size → S i → T i) : Only T a b :=
  ⟨h.os, h.tape, h.output, h.size, fun i hi hn => h.block i hi (fun x => hn (hs i hi x))⟩
theorem Only.drew (h : Only S a w) : Only S a w.drew := ⟨h.os, h.tape, h.output, h.size, h.block⟩
theorem Only.drewN (h : Only S a w) (n : Nat) : Only S a (w.drewN n) := ⟨h.os, h.tape, h.output, h.size, h.block⟩
theorem Only.alloc (h : Only S a w) (o : Obj) : Only S a (w.alloc o) :=
  ⟨h.os, h.tape, h.output, Nat.le_trans h.size (by simp), fun i hi hn => (Below.heap_alloc w o i (Nat.lt_of_lt_of_le hi h.size)).trans (h.block i hi hn)⟩
theorem Only.setCell (h : Only S a w) {p : Addr} (hp : S p.block ∨ a.heap.size ≤ p.block) (u : Value) : Only S a (w.setCell p u) :=
  ⟨h.os, h.tape, h.output, by simpa [World.setCell] using h.size, fun i hi hn => (Below.heap_setCell w p u i (by
    rintro rfl
    rcases hp with hp | hp
    · exact hn hp
    · omega)).trans (h.block i hi hn)⟩
theorem Only.grown (h : Only S a w) {row : Option Nat} (hg : w.grownBy w' row) (hr : ∀ k, row = some k → k < a.heap.size → S k) : Only S a w' :=
  ⟨hg.os.trans h.os, hg.tape.trans h.tape, hg.output.trans h.output, Nat.le_trans h.size hg.size,
    fun i hi hn => (hg.block i (Nat.lt_of_lt_of_le hi h.size) (fun e => hn (hr i e.symm hi))).trans (h.block i hi hn)⟩
theorem Only.below {B : Nat} (h : Only S a b) (hs : ∀ i, S i → B ≤ i) (hB : B ≤ a.heap.size) : Below B a b :=
  ⟨h.os, h.tape, h.output, h.size, fun i hi => h.block i (by omega) (fun x => by have := hs i x; omega)⟩
theorem Only.of_below {B : Nat} (h : Below B a b) (hs : ∀ i, B ≤ i → i < a.heap.size → S i) : Only S a b :=
  ⟨h.os, h.tape, h.output, h.size, fun i hi hn => h.block i (by
    rcases Nat.lt_or_ge i B with hl | hl
    · exact hl
    · exact absurd (hs i hl hi) hn)⟩
theorem Only.of_ext (h : Below a.heap.size a b) : Only S a b := Only.of_below h (fun i h1 h2 => by omega)
end

/-- all that was there is as it was, from world to world -/
theorem ext_trans {a b c : World} (h : Below a.heap.size a b) (k : Below b.heap.size b c) : Below a.heap.size a c := h.trans (k.mono h.size)
theorem ext_drewN {B : Nat} {a w : World} (h : Below B a w) (n : Nat) : Below B a (w.drewN n) := ⟨h.os, h.tape, h.output, h.size, h.block⟩

/-! ### What memory holds -/
/-- From address 'A' on there lie the cells 'xs'. -/
def Rd (w : World) (A : Option Addr) (xs : List Value) : Prop := ∀ (j : Nat) (u : Value), xs[j]? = some u → ∃ ad, A = some ad ∧ w.cell? (ad.add j) = some u

theorem block_add (a : Addr) (n : Nat) : (a.add n).block = a.block := by unfold Addr.add; split <;> rfl
theorem add_add_ (a : Addr) (i j : Nat) : (a.add i).add j = a.add (i + j) := by
  unfold Addr.add
  by_cases hi : i = 0 <;> by_cases hj : j = 0 <;> simp [hi, hj, Nat.add_assoc]

section
variable {S : Nat → Prop} {w w' : World} {A : Option Addr} {xs : List Value}
theorem Rd.nil (w : World) (A : Option Addr) : Rd w A [] := fun j u h => by simp at h
theorem Rd.at_ (h : Rd w A xs) {k : Nat} (hk : k < xs.length) : ∃ ad, A = some ad ∧ w.cell? (ad.add k) = some xs[k] := h k _ (List.getElem?_eq_getElem hk)
theorem Rd.keep (h : Rd w A xs) (hk : ∀ ad, A = some ad → ad.block < w.heap.size → w'.heap[ad.block]? = w.heap[ad.block]?) : Rd w' A xs := fun j u hu => by
  obtain ⟨ad, e, hc⟩ := h j u hu
  have hb := World.block_lt_of_cell? w _ hc
  rw [block_add] at hb
  exact ⟨ad, e, (World.cell?_of_block (by rw [block_add]; exact hk ad e hb)).trans hc⟩
theorem Rd.ext (h : Rd w A xs) (hb : Below w.heap.size w w') : Rd w' A xs := h.keep fun _ _ hl => hb.block _ hl
theorem Rd.only (h : Rd w A xs) (ho : Only S w w') (hn : ∀ ad, A = some ad → xs ≠ [] → ¬ S ad.block) : Rd w' A xs := by
  rcases xs with _ | ⟨x, r⟩
  · exact Rd.nil _ _
  · exact h.keep fun ad e hl => ho.block _ hl (hn ad e (by simp))
theorem Rd.drew (h : Rd w A xs) : Rd w.drew A xs := h
theorem Rd.drewN (h : Rd w A xs) (n : Nat) : Rd (w.drewN n) A xs := h
theorem Rd.undrewN {n : Nat} (h : Rd (w.drewN n) A xs) : Rd w A xs := h
theorem Rd.alloc (h : Rd w A xs) (o : Obj) : Rd (w.alloc o) A xs := h.keep fun _ _ hl => Below.heap_alloc w o _ hl
theorem Rd.setCell (h : Rd w A xs) {p : Addr} (hn : ∀ ad, A = some ad → ad.block ≠ p.block) (u : Value) : Rd (w.setCell p u) A xs := h.keep fun ad e _ => Below.heap_setCell w p u _ (hn ad e)
theorem Rd.take (h : Rd w A xs) (k : Nat) : Rd w A (xs.take k) := fun j u hu => h j u (by
  rw [List.getElem?_take] at hu
  split at hu
  · exact hu
  · cases hu)
/-- behind a cut in front: the model's own form of the address -/
theorem Rd.cut (h : Rd w A xs) {k cap : Nat} (hc : xs.length ≤ cap) : Rd w (if cap = k then A else A.map (·.add (k * 1))) (xs.drop k) := fun j u hu => by
  rw [List.getElem?_drop] at hu
  obtain ⟨ad, rfl, hcell⟩ := h _ u hu
  have hl : k + j < xs.length := (List.getElem?_eq_some_iff.1 hu).1
  rw [if_neg (by omega)]
  refine ⟨ad.add (k * 1), rfl, ?_⟩
  rw [add_add_, Nat.mul_one]
  exact hcell
theorem Rd.lit (w : World) (cs : Array Value) (t : TypeId) : Rd (w.alloc (.cells cs t)) (some ⟨w.heap.size, 0, none⟩) cs.toList := fun j u hu =>
  ⟨_, rfl, World.news_of_block (heap_alloc_new w _) j u hu⟩
theorem Rd.lit_at (w : World) (cs : Array Value) (t : TypeId) {fr : Nat × Nat} {g : Nat} (hg : g = w.heap.size) : Rd (w.alloc (.cells cs t fr)) (some ⟨g, 0, none⟩) cs.toList := by
  subst hg
  exact fun j u hu => ⟨_, rfl, World.news_of_block (heap_alloc_new w _) j u hu⟩
theorem Rd.blk {g : Nat} {cs : Array Value} {t : TypeId} {fr : Nat × Nat} (h : w.heap[g]? = some (.cells cs t fr)) : Rd w (some ⟨g, 0, none⟩) cs.toList := fun j u hu =>
  ⟨_, rfl, World.news_of_block h j u hu⟩
end

/-! ### A block that is known whole -/
def Blk (w : World) (g : Nat) (t : TypeId) (cs : Array Value) : Prop := w.heap[g]? = some (.cells cs t (0, 0))
section
variable {S : Nat → Prop} {w w' : World} {g : Nat} {t : TypeId} {cs : Array Value}
theorem Blk.lt (h : Blk w g t cs) : g < w.heap.size := lt_of_block h
theorem Blk.cell (h : Blk w g t cs) (i : Nat) : w.cell? ⟨g, i, none⟩ = cs[i]? := cell_of_row w g i cs t (0, 0) h
theorem Blk.free (h : Blk w g t cs) (i : Nat) : w.frozen? ⟨g, i, none⟩ = false := frozen_of_row w g i cs t h
theorem Blk.new (w : World) (t : TypeId) (cs : Array Value) : Blk (w.alloc (.cells cs t)) w.heap.size t cs := heap_alloc_new w _
theorem Blk.drew (h : Blk w g t cs) : Blk w.drew g t cs := h
theorem Blk.drewN (h : Blk w g t cs) (n : Nat) : Blk (w.drewN n) g t cs := h
theorem Blk.alloc (h : Blk w g t cs) (o : Obj) : Blk (w.alloc o) g t cs := (Below.heap_alloc w o g h.lt).trans h
theorem Blk.only (h : Blk w g t cs) (ho : Only S w w') (hn : ¬ S g) : Blk w' g t cs := (ho.block g h.lt hn).trans h
theorem Blk.ext (h : Blk w g t cs) (hb : Below w.heap.size w w') : Blk w' g t cs := (hb.block g h.lt).trans h
theorem Blk.far (h : Blk w g t cs) {p : Addr} (hp : g ≠ p.block) (u : Value) : Blk (w.setCell p u) g t cs := (Below.heap_setCell w p u g hp).trans h
theorem Blk.put (h : Blk w g t cs) (i : Nat) (u : Value) : Blk (w.setCell ⟨g, i, none⟩ u) g t (cs.setIfInBounds i u) := heap_setCell_same w g i cs t u h
end

/-! ### A row that the call owns -/
/-- The slice of address 'A' and capacity 'c' is a row of the call's own that holds 'xs'; its block is one of 'fp'. -/
def Own (w : World) (fp : Nat → Prop) (e : TypeId) (A : Option Addr) (c : Nat) (xs : List Value) : Prop :=
  w.ownsRow 0 e 1 (.slice A xs.length c) xs.length xs ∧ ∀ ad, A = some ad → fp ad.block

/-- what was in 'fp', and what has been made from 'w' to 'w'' -/
def More (fp : Nat → Prop) (w w' : World) : Nat → Prop := fun k => fp k ∨ (w.heap.size ≤ k ∧ k < w'.heap.size)

section
variable {S fp fp' : Nat → Prop} {w w' : World} {e : TypeId} {A : Option Addr} {c : Nat} {xs : List Value}
theorem Own.cap (h : Own w fp e A c xs) : xs.length ≤ c := by
  rcases h.1.2 with ⟨h1, h2⟩ | ⟨g, cap, cur, h1, _, _, hc, _⟩
  · injection h1; omega
  · injection h1; omega
theorem Own.some_ (h : Own w fp e A c xs) : (A = none ∧ c = 0 ∧ xs = []) ∨ ∃ g, A = some ⟨g, 0, none⟩ ∧ fp g ∧ g < w.heap.size := by
  rcases h.1.2 with ⟨h1, h2⟩ | ⟨g, cap, cur, h1, _, hg, hc, _⟩
  · injection h1 with a1 a2 a3
    exact .inl ⟨a1, a3, List.eq_nil_of_length_eq_zero h2⟩
  · injection h1 with a1 a2 a3
    exact .inr ⟨g, a1, h.2 _ a1, lt_of_block hg⟩
theorem Own.rd (h : Own w fp e A c xs) : Rd w A xs := by
  rcases h.some_ with ⟨rfl, rfl, rfl⟩ | ⟨g, rfl, _, _⟩
  · exact Rd.nil _ _
  · exact fun j u hu => ⟨_, rfl, h.1.cells (g := g) rfl j u hu⟩
theorem Own.none_ (w : World) (fp : Nat → Prop) (e : TypeId) : Own w fp e none 0 [] := ⟨World.ownsRow_nil w 0 e 1, fun _ h => by cases h⟩
theorem Own.mono (h : Own w fp e A c xs) (hs : ∀ k, fp k → k < w.heap.size → fp' k) : Own w fp' e A c xs := by
  refine ⟨h.1, fun ad e' => ?_⟩
  rcases h.some_ with ⟨rfl, _⟩ | ⟨g, rfl, hg, hl⟩
  · cases e'
  · injection e' with e'; subst e'; exact hs _ hg hl
theorem Own.only (h : Own w fp e A c xs) (ho : Only S w w') (hn : ∀ k, fp k → ¬ S k) : Own w' fp e A c xs := by
  refine ⟨⟨h.1.1, ?_⟩, h.2⟩
  rcases h.1.2 with h1 | ⟨g, cap, cur, h1, hb, hg, r⟩
  · exact .inl h1
  · refine .inr ⟨g, cap, cur, h1, hb, ?_, r⟩
    injection h1 with a1 a2 a3
    rw [ho.block g (lt_of_block hg) (hn _ (h.2 _ a1))]
    exact hg
theorem Own.ext (h : Own w fp e A c xs) (hb : Below w.heap.size w w') : Own w' fp e A c xs := by
  refine ⟨⟨h.1.1, ?_⟩, h.2⟩
  rcases h.1.2 with h1 | ⟨g, cap, cur, h1, hb', hg, r⟩
  · exact .inl h1
  · exact .inr ⟨g, cap, cur, h1, hb', (hb.block g (lt_of_block hg)).trans hg, r⟩
theorem Own.drew (h : Own w fp e A c xs) : Own w.drew fp e A c xs := h
theorem Own.drewN (h : Own w fp e A c xs) (n : Nat) : Own (w.drewN n) fp e A c xs := h
theorem Own.alloc (h : Own w fp e A c xs) (o : Obj) : Own (w.alloc o) fp e A c xs := h.ext ((Below.refl _ _).alloc (Nat.le_refl _) o)
theorem Own.setCell (h : Own w fp e A c xs) {p : Addr} (hn : ∀ ad, A = some ad → ad.block ≠ p.block) (u : Value) : Own (w.setCell p u) fp e A c xs := by
  refine ⟨ownsRow_setCell_other h.1 ?_ u, h.2⟩
  rcases A with _ | ad
  · simp [Value.ownBlock]
  · simpa [Value.ownBlock] using hn ad rfl
/-- rows of one element type and a block of another one are apart -/
theorem Own.ne_blk {g : Nat} {t : TypeId} {cs : Array Value} (h : Own w fp e A c xs) (hb : Blk w g t cs) (ht : e ≠ t) : ∀ ad, A = some ad → ad.block ≠ g := by
  rintro ad rfl rfl
  rcases h.1.2 with ⟨h1, _⟩ | ⟨g', cap, cur, h1, _, hg, _⟩
  · injection h1 with h1; cases h1
  · injection h1 with h1 _ _
    injection h1 with h1
    subst h1
    unfold Blk at hb
    rw [hg] at hb
    injection hb with hb
    injection hb with _ ht'
    exact ht ht'
theorem Own.lit (w : World) (fp : Nat → Prop) (cs : Array Value) (e : TypeId) (hm : cs.size ≤ maxLen) (hf : fp w.heap.size) : Own (w.alloc (.cells cs e)) fp e (some ⟨w.heap.size, 0, none⟩) cs.size cs.toList := by
  refine ⟨?_, fun ad h => by injection h with h; subst h; exact hf⟩
  have h := World.ownsRow_lit (base := 0) (e := e) (size := 1) w cs cs.size (Nat.zero_le _) hm (by simp)
  simpa using h
end

/-! ### growth, step by step -/
section
variable {fp : Nat → Prop} {a b b' c : World}
theorem More.join (h1 : a.heap.size ≤ b.heap.size) (h2 : b.heap.size ≤ b'.heap.size) (h3 : b'.heap.size ≤ c.heap.size) {k : Nat} (hk : More (More fp a b) b' c k) : More fp a c k := by
  rcases hk with (hk | hk) | hk
  · exact .inl hk
  · exact .inr (by omega)
  · exact .inr (by omega)
theorem Only.join (h : Only fp a b') (h2 : Only (More fp a b) b' c) : Only fp a c := h.trans h2 (fun k hk hm => by
  rcases hm with hm | hm
  · exact hm
  · omega)
theorem Own.join {e : TypeId} {A : Option Addr} {n : Nat} {xs : List Value} (h1 : a.heap.size ≤ b.heap.size) (h2 : b.heap.size ≤ b'.heap.size) (h3 : b'.heap.size ≤ c.heap.size) (h : Own c (More (More fp a b) b' c) e A n xs) : Own c (More fp a c) e A n xs :=
  h.mono fun _ hk _ => More.join h1 h2 h3 hk
end

/-! ### Memory that is read, apart from 'fp'; rows of bytes -/
def RdF (fp : Nat → Prop) (w : World) (A : Option Addr) (xs : List Value) : Prop := Rd w A xs ∧ ∀ ad, A = some ad → xs ≠ [] → ¬ fp ad.block

def RowsF (fp : Nat → Prop) (w : World) (A : Option Addr) (xss : List (List UInt8)) : Prop :=
  ∃ vs, RdF fp w A vs ∧ vs.length = xss.length ∧ ∀ (j : Nat) (v : Value) (xs : List UInt8), vs[j]? = some v → xss[j]? = some xs → ∃ B c, v = .slice B xs.length c ∧ xs.length ≤ c ∧ RdF fp w B (xs.map bv)

section
variable {fp fp' : Nat → Prop} {w w' : World} {A : Option Addr} {xs : List Value} {xss : List (List UInt8)}
theorem RdF.only (h : RdF fp w A xs) (ho : Only fp w w') : RdF fp w' A xs := ⟨h.1.only ho h.2, h.2⟩
theorem RdF.of (h : Rd w A xs) : RdF (fun _ => False) w A xs := ⟨h, fun _ _ _ x => x⟩
/-- what is read lies below what is new -/
theorem RdF.fresh (h : Rd w A xs) (hf : ∀ k, fp k → w.heap.size ≤ k) : RdF fp w A xs := by
  refine ⟨h, fun ad e hne hk => ?_⟩
  rcases xs with _ | ⟨x, r⟩
  · exact hne rfl
  · obtain ⟨ad', e', hc⟩ := h 0 x rfl
    rw [e] at e'; injection e' with e'; subst e'
    have hb := World.block_lt_of_cell? w _ hc
    rw [block_add] at hb
    have := hf _ hk
    omega
theorem RdF.weak (h : RdF fp w A xs) (hs : ∀ k, fp' k → fp k) : RdF fp' w A xs := ⟨h.1, fun ad e hn x => h.2 ad e hn (hs _ x)⟩
theorem RowsF.only (h : RowsF fp w A xss) (ho : Only fp w w') : RowsF fp w' A xss := by
  obtain ⟨vs, h1, h2, h3⟩ := h
  refine ⟨vs, h1.only ho, h2, fun j v xs hv hx => ?_⟩
  obtain ⟨B, c, e, hc, hr⟩ := h3 j v xs hv hx
  exact ⟨B, c, e, hc, hr.only ho⟩
theorem RowsF.weak (h : RowsF fp w A xss) (hs : ∀ k, fp' k → fp k) : RowsF fp' w A xss := by
  obtain ⟨vs, h1, h2, h3⟩ := h
  refine ⟨vs, h1.weak hs, h2, fun j v xs hv hx => ?_⟩
  obtain ⟨B, c, e, hc, hr⟩ := h3 j v xs hv hx
  exact ⟨B, c, e, hc, hr.weak hs⟩
theorem RowsF.ext (h : RowsF fp w A xss) (hb : Below w.heap.size w w') : RowsF fp w' A xss := h.only (Only.of_ext hb)
/-- row number k -/
theorem RowsF.at_ (h : RowsF fp w A xss) {k : Nat} (hk : k < xss.length) :
    ∃ ad B c, A = some ad ∧ w.cell? (ad.add k) = some (.slice B xss[k].length c) ∧ xss[k].length ≤ c ∧ RdF fp w B (xss[k].map bv) := by
  obtain ⟨vs, h1, h2, h3⟩ := h
  obtain ⟨ad, e, hc⟩ := h1.1.at_ (k := k) (by omega)
  obtain ⟨B, c, e2, hl, hr⟩ := h3 k _ _ (List.getElem?_eq_getElem (by omega)) (List.getElem?_eq_getElem hk)
  exact ⟨ad, B, c, e, by rw [hc, e2], hl, hr⟩
theorem RdF.more (h : RdF fp w A xs) (ho : Only fp w w') : RdF (More fp w w') w' A xs := by
  refine ⟨h.1.only ho h.2, fun ad e hn hm => ?_⟩
  rcases hm with hm | hm
  · exact h.2 ad e hn hm
  · rcases xs with _ | ⟨x, r⟩
    · exact hn rfl
    · obtain ⟨ad', e', hc⟩ := h.1 0 x rfl
      rw [e] at e'
      injection e' with e'
      subst e'
      have hb := World.block_lt_of_cell? w _ hc
      rw [block_add] at hb
      omega
theorem RowsF.more (h : RowsF fp w A xss) (ho : Only fp w w') : RowsF (More fp w w') w' A xss := by
  obtain ⟨vs, h1, h2, h3⟩ := h
  refine ⟨vs, h1.more ho, h2, fun j v xs hv hx => ?_⟩
  obtain ⟨B, c, e, hc, hr⟩ := h3 j v xs hv hx
  exact ⟨B, c, e, hc, hr.more ho⟩
/-- cells that were just laid -/
theorem RdF.lit (w : World) (cs : Array Value) (t : TypeId) {fr : Nat × Nat} {g : Nat} (hg : g = w.heap.size) (hf : ¬ fp g) : RdF fp (w.alloc (.cells cs t fr)) (some ⟨g, 0, none⟩) cs.toList :=
  ⟨Rd.lit_at w cs t hg, fun ad e _ => by injection e with e; subst e; exact hf⟩
theorem RdF.alloc (h : RdF fp w A xs) (o : Obj) : RdF fp (w.alloc o) A xs := ⟨h.1.alloc o, h.2⟩
/-- a list of one row, of two rows, that was just laid -/
theorem RowsF.one {xs : List UInt8} {B : Option Addr} {c : Nat} (h : RdF fp w B (xs.map bv)) (hc : xs.length ≤ c) (t : TypeId) {g : Nat} (hg : g = w.heap.size) (hf : ¬ fp g) :
    RowsF fp (w.alloc (.cells #[.slice B xs.length c] t)) (some ⟨g, 0, none⟩) [xs] := by
  subst hg
  refine ⟨[.slice B xs.length c], ⟨Rd.lit w #[.slice B xs.length c] t, fun ad e _ => by injection e with e; subst e; exact hf⟩, rfl, fun j v ys hv hx => ?_⟩
  match j, hv, hx with
  | 0, hv, hx =>
    simp at hv hx
    subst hv hx
    exact ⟨B, c, rfl, hc, h.alloc _⟩
theorem RowsF.two {xs ys : List UInt8} {B D : Option Addr} {c d : Nat} (h : RdF fp w B (xs.map bv)) (hc : xs.length ≤ c) (h2 : RdF fp w D (ys.map bv)) (hd : ys.length ≤ d) (t : TypeId) {g : Nat} (hg : g = w.heap.size) (hf : ¬ fp g) :
    RowsF fp (w.alloc (.cells #[.slice B xs.length c, .slice D ys.length d] t)) (some ⟨g, 0, none⟩) [xs, ys] := by
  subst hg
  refine ⟨[.slice B xs.length c, .slice D ys.length d], ⟨Rd.lit w #[.slice B xs.length c, .slice D ys.length d] t, fun ad e _ => by injection e with e; subst e; exact hf⟩, rfl, fun j v zs hv hx => ?_⟩
  match j, hv, hx with
  | 0, hv, hx =>
    simp at hv hx
    subst hv hx
    exact ⟨B, c, rfl, hc, h.alloc _⟩
  | 1, hv, hx =>
    simp at hv hx
    subst hv hx
    exact ⟨D, d, rfl, hd, h2.alloc _⟩
theorem only_none (h : Only (fun _ => False) w w') : Below w.heap.size w w' := h.below (fun _ h => h.elim) (Nat.le_refl _)
end

/-! ### append onto what is owned; the source nil, empty or not -/
section
variable {P : Program} (w : World) {fp : Nat → Prop}
theorem run_app (t ty e : TypeId) (z : Value) (bytes : Nat) (ht : P.underlying t = some (.slice e)) (hi : (P.info? e).map (fun i => (i.zero, i.size, i.bytes)) = some (some z, 1, bytes)) (hzs : z.cells.size = 1)
    (A : Option Addr) (n c : Nat) (xs : List Value) (hn : n = xs.length) (hown : Own w fp e A c xs) (A2 : Option Addr) (m c2 : Nat) (news : List Value) (hm : m = news.length) (hr : Rd w A2 news) (h1 : ∀ u ∈ news, u.oneCell' = true)
    (h63 : n + m ≤ maxLen) (hbytes : (n + m) * bytes ≤ 140737488355328) :
    ∃ A' c' w', (Builtin.append_ #[t, t] ty #[.slice A n c, .slice A2 m c2]).run P w = .ok (.slice A' (n + m) c') w' ∧ Own w' (More fp w w') e A' c' (xs ++ news) ∧ Only fp w w' := by
  obtain ⟨i, hi, hz, hsz, hby⟩ := info_parts hi
  subst hn hm
  have same : ∀ (_ : news = []) (_ : (Builtin.append_ #[t, t] ty #[.slice A xs.length c, .slice A2 news.length c2]).run P w = .ok (.slice A xs.length c) w),
      ∃ A' c' w', (Builtin.append_ #[t, t] ty #[.slice A xs.length c, .slice A2 news.length c2]).run P w = .ok (.slice A' (xs.length + news.length) c') w' ∧ Own w' (More fp w w') e A' c' (xs ++ news) ∧ Only fp w w' := by
    intro hnil hrun
    subst hnil
    exact ⟨A, c, w, hrun, by rw [List.append_nil]; exact hown.mono (fun k hk _ => Or.inl hk), Only.refl _ _⟩
  rcases A2 with _ | ad
  · have hnil : news = [] := by
      rcases news with _ | ⟨u, r⟩
      · rfl
      · obtain ⟨ad, h, _⟩ := hr 0 u rfl
        cases h
    refine same hnil ?_
    subst hnil
    rcases hown.1.2 with ⟨h2, _⟩ | ⟨g, cap, cur, h2, _, _, hnc, _⟩
    · rw [h2]; simp [Builtin.append_, run_underlying ht, sizeOf, typeInfo, hi, Builtin.lenOf, Builtin.firstCells]
    · rw [h2]; simp [Builtin.append_, run_underlying ht, sizeOf, typeInfo, hi, Builtin.lenOf, Builtin.firstCells, hnc, storeCells]
  · have hcells : ∀ j u, news[j]? = some u → w.cell? (ad.add j) = some u := by
      intro j u hu
      obtain ⟨ad', h, hc⟩ := hr j u hu
      injection h with h
      subst h
      exact hc
    obtain ⟨v', w', hrun, h2, h3, _, h5⟩ := run_append_own_at (P := P) w 0 t ty e i z 1 bytes ht hi hz hsz hby hzs (by omega) (.slice A xs.length c) xs.length xs hown.1 ad news.length c2 news (by simp) hcells h1 h63 hbytes (Nat.zero_le _)
    have ho : Only fp w w' := by
      refine (Only.refl fp w).grown h3 (fun k hk _ => ?_)
      rcases A with _ | a0
      · simp [Value.ownBlock] at hk
      · simp [Value.ownBlock] at hk
        subst hk
        exact hown.2 _ rfl
    have key : ∀ A' c', v' = .slice A' (xs.length + news.length) c' → Own w' (More fp w w') e A' c' (xs ++ news) := by
      rintro A' c' rfl
      refine ⟨by simpa using h2, fun ad' e' => ?_⟩
      subst e'
      have hl := h2.lt ad'.block rfl
      rcases h5 with h5 | h5
      · rcases A with _ | a0
        · simp [Value.ownBlock] at h5
        · simp [Value.ownBlock] at h5
          rw [h5]
          exact .inl (hown.2 _ rfl)
      · simp [Value.ownBlock] at h5
        exact .inr ⟨by omega, hl.2⟩
    rcases h2.2 with ⟨hv, h0⟩ | ⟨g, cap, cur, hv, _⟩
    · subst hv
      exact ⟨none, 0, w', by rw [hrun, h0], key none 0 (by rw [h0]), ho⟩
    · subst hv
      exact ⟨_, _, w', hrun, key _ _ rfl, ho⟩

theorem wp_app {o : Oper} {a : Act} {K : Act → World → Prop} {Q : Exit → Act → World → Prop} (s x : Operand) (t : TypeId)
    (ho : o.op = .call { callee := .builtin .append, args := #[s, x], argTypes := #[t, t] })
    (e : TypeId) (z : Value) (bytes : Nat) (ht : P.underlying t = some (.slice e)) (hi : (P.info? e).map (fun i => (i.zero, i.size, i.bytes)) = some (some z, 1, bytes)) (hzs : z.cells.size = 1)
    (A : Option Addr) (n c : Nat) (xs : List Value) (hs : a.eval s = .slice A n c) (hn : n = xs.length) (hown : Own w fp e A c xs)
    (A2 : Option Addr) (m c2 : Nat) (news : List Value) (hx : a.eval x = .slice A2 m c2) (hm : m = news.length) (hr : Rd w A2 news) (h1 : ∀ u ∈ news, u.oneCell' = true)
    (h63 : n + m ≤ maxLen) (hbytes : (n + m) * bytes ≤ 140737488355328)
    (h : ∀ A' c' w', Own w' (More fp w w') e A' c' (xs ++ news) → Only fp w w' → K (a.put o.dst (.slice A' (n + m) c')) w') : o.wp P a w K Q := by
  obtain ⟨A', c', w', hrun, h2, h3⟩ := run_app (P := P) w t o.type e z bytes ht hi hzs A n c xs hn hown A2 m c2 news hm hr h1 h63 hbytes
  unfold Oper.wp execOp
  simp only [ho, resolve, invoke, builtin, Sem.run_bind, Sem.run_pure, Result.andThen_ok, List.map_toArray, List.map_cons, List.map_nil, hs, hx, hrun]
  exact h A' c' w' h2 h3

theorem wpList_app {ops : Array Oper} {rest : List Oper} {o : Oper} {a : Act} {Q : Exit → Act → World → Prop} (hgd : o.guard = none) (s x : Operand) (t : TypeId)
    (ho : o.op = .call { callee := .builtin .append, args := #[s, x], argTypes := #[t, t] })
    (e : TypeId) (z : Value) (bytes : Nat) (ht : P.underlying t = some (.slice e)) (hi : (P.info? e).map (fun i => (i.zero, i.size, i.bytes)) = some (some z, 1, bytes)) (hzs : z.cells.size = 1)
    (A : Option Addr) (n c : Nat) (xs : List Value) (hs : a.eval s = .slice A n c) (hn : n = xs.length) (hown : Own w fp e A c xs)
    (A2 : Option Addr) (m c2 : Nat) (news : List Value) (hx : a.eval x = .slice A2 m c2) (hm : m = news.length) (hr : Rd w A2 news) (h1 : ∀ u ∈ news, u.oneCell' = true)
    (h63 : n + m ≤ maxLen) (hbytes : (n + m) * bytes ≤ 140737488355328)
    (h : ∀ A' c' w', Own w' (More fp w w') e A' c' (xs ++ news) → Only fp w w' → wpList P ops Q rest (a.put o.dst (.slice A' (n + m) c')) w') : wpList P ops Q (o :: rest) a w :=
  wpList_plain hgd fun _ hK => wp_app w s x t ho e z bytes ht hi hzs A n c xs hs hn hown A2 m c2 news hx hm hr h1 h63 hbytes fun A' c' w' h2 h3 => hK _ _ (h A' c' w' h2 h3)
end
end Go.Proofs.Ytbigdkkjajlekaa

/-
  What the arguments of the laws read as, in this seat's words for memory (numbers, bytes); how a law's contract closes its statement. No statement of the seat is proved here.
-/
namespace Go.Proofs.Ytbigdkkjajlekaa
open Go Go.ChangeShapes Go.WideShapes Go.ChangeAt Go.RowKit

theorem own : ownKnob Try.prog.godebug = none := by kernel_rfl
theorem laidOut : laidOutB Try.prog = true := by kernel_rfl
theorem cells_u8 : Try.prog.cellsOf 5 = 1 := by kernel_rfl
theorem cells_int : Try.prog.cellsOf 3 = 1 := by kernel_rfl

section
variable {H : Type} {enc : TypeId × Value → H} {W : World} {base : Nat}
theorem bv_of {z : Int} (h : (Lit.int .u8 z).wf = true) : Value.int .u8 z = bv z.toNat.toUInt8 := by
  have h1 : IntKind.u8.min = 0 := rfl
  have h2 : IntKind.u8.max = 255 := rfl
  simp only [Lit.wf, Bool.and_eq_true, decide_eq_true_eq] at h
  unfold bv
  rw [show (z.toNat.toUInt8.toNat : Int) = z by simp [Nat.toUInt8, UInt8.toNat_ofNat']; omega]

/-- the bytes that numbers are -/
def toBytes (zs : List Int) : List UInt8 := zs.map fun z => z.toNat.toUInt8

theorem rd_bytes {a : Addr} {len : Nat} {zs : List Int} (hl : len ≤ zs.length) (hc : ∀ i, i < zs.length → W.cell? (a.add i) = some (.int .u8 (zs.getD i 0))) (hw : ∀ n ∈ zs, (Lit.int .u8 n).wf = true) :
    Rd W (some a) ((toBytes (zs.take len)).map bv) := by
  intro j u hu
  have hj : j < len := by
    have := (List.getElem?_eq_some_iff.1 hu).1
    simp [toBytes] at this; omega
  refine ⟨a, rfl, ?_⟩
  rw [hc j (by omega), ← hu]
  have hz : zs.getD j 0 = zs[j]'(by omega) := by simp [List.getD, show j < zs.length by omega]
  rw [hz, bv_of (hw _ (List.getElem_mem _))]
  simp [toBytes, hj, show j < zs.length by omega]

set_option maxRecDepth 100000 in
theorem arg_bytes {v : Value} {d : DataW H} {p : List MemPlace} (hv : Value.okWide Try.prog W .any base 58 v) (h : DataW.Trod enc Try.prog W 0 (fun _ => true) true 58 v d p) :
    ∃ (A : Option Addr) (n c : Nat) (xs : List UInt8), v = .slice A n c ∧ n = xs.length ∧ xs.length ≤ c ∧ c ≤ maxLen ∧ Rd W A (xs.map bv) := by
  obtain ⟨a0, len, cap, rfl⟩ := okWide_slice Try.underlying58 hv
  obtain ⟨fuel, hf⟩ := h
  rcases open_ints Try.underlying58 Try.underlying5 cells_u8 hf with ⟨hcs, hx⟩ | ⟨a, len', cap', zs, hcs, _, hl, hm, hz, hx, hcell, hwz⟩
  · simp [Value.cells] at hcs
    obtain ⟨rfl, rfl, rfl⟩ := hcs
    exact ⟨none, 0, 0, [], rfl, rfl, Nat.le_refl _, Nat.zero_le _, Rd.nil _ _⟩
  · simp [Value.cells] at hcs
    obtain ⟨rfl, rfl, rfl⟩ := hcs
    simp only [if_true] at hz
    exact ⟨some a, len, cap, toBytes (zs.take len), rfl, by simp [toBytes]; omega, by simp [toBytes]; omega, hm, rd_bytes (by omega) hcell hwz⟩

end

theorem int_of_wf {v : Int} (h : (Lit.int .i64 v).wf = true) : isInt v := by
  have h1 : IntKind.i64.min = -9223372036854775808 := rfl
  have h2 : IntKind.i64.max = 9223372036854775807 := rfl
  simp only [Lit.wf, Bool.and_eq_true, decide_eq_true_eq] at h
  unfold isInt
  omega
theorem u8_of_wf {v : Int} (h : (Lit.int .u8 v).wf = true) : 0 ≤ v ∧ v ≤ 255 := by
  have h1 : IntKind.u8.min = 0 := rfl
  have h2 : IntKind.u8.max = 255 := rfl
  simp only [Lit.wf, Bool.and_eq_true, decide_eq_true_eq] at h
  omega

/-! ### How a contract closes a statement -/
section
variable {H : Type} {enc : TypeId × Value → H}
theorem below_trodAll {P : Program} (hl : laidOutB P = true) {W W' : World} (hb : Below W.heap.size W W') : ∀ {ts : List TypeId} {vs : List Value} {ds : List (DataW H)} {ps : List MemPlace},
    (∀ t ∈ ts, P.readableRec t = true ∧ t < P.types.size) → DataW.TrodAll enc P W 0 (fun _ => true) true ts vs ds ps → (∀ x ∈ ps, x.block < W.heap.size) → DataW.TrodAll enc P W' 0 (fun b => decide (b < W.heap.size)) true ts vs ds ps
  | [], [], [], _, _, h, _ => h
  | t :: ts, v :: vs, d :: ds, _, hr, h, hlt => by
    obtain ⟨p, q, h1, h2, rfl⟩ := h
    exact ⟨p, q, Below.trod hl (hr t (by simp)).1 (hr t (by simp)).2 h1 hb (fun x hx => hlt x (by simp [hx])), below_trodAll hl hb (fun t' ht => hr t' (by simp [ht])) h2 (fun x hx => hlt x (by simp [hx])), rfl⟩
  | [], [], _ :: _, _, _, h, _ => h.elim
  | [], _ :: _, _, _, _, h, _ => h.elim
  | _ :: _, [], _, _, _, h, _ => h.elim
  | _ :: _, _ :: _, [], _, _, h, _ => h.elim

/-- a law that returned true, and left all that was there as it was -/
theorem law_post {f : Func} {s : ChangeSpec} {W W' : World} {args : Array Value} {ds gs : List (DataW H)} {before : List MemPlace} (hvars : s.vars = []) (hf : f.resultTypes = #[4])
    (hread : f.params.toList.all (fun t => Try.prog.readableRec t && decide (t < Try.prog.types.size)) = true)
    (hs : (s.fn H ds).results = [.lit (.bool true)] ∧ (s.fn H ds).args = ds ∧ (s.fn H ds).vars = []) (hW : DataW.Whole enc Try.prog f.params.toList s.vars false W args.toList ds gs before) (hb : Below W.heap.size W W') :
    s.post enc Try.prog f false true false false W args (.bool true) W' := by
  have hW' := hW
  have hlt : ∀ x ∈ before, x.block < W.heap.size := fun x hx => by simpa using hW'.lt x hx
  obtain ⟨p, q, hA, hV, he, _, _⟩ := hW
  rw [hvars] at hV
  obtain ⟨hg, hq⟩ := trodVars_none hV
  have hx : ds ++ gs = ds := by rw [hg, List.append_nil]
  refine ⟨ds, gs, before, [] ++ [], p, [], hW', ?_, ?_, ?_, hb.frame _, fun h => by cases h⟩
  · rw [hx, hs.1, hf]
    exact trodAll_cons_mk (shut_bool Try.underlying4 _) trodAll_mk0
  · rw [hx, hs.2.1]
    refine below_trodAll laidOut hb (fun t ht => ?_) hA (fun x hx => hlt x (by rw [he]; simp [hx]))
    have := List.all_eq_true.1 hread t ht
    simpa using this
  · rw [hx, hs.2.2, hvars]
    rfl
end

/-- a world for the witness: the settled one -/
noncomputable def plainWorld (os : Os) : World := World.holding Try.prog os ⟨#[], #[], []⟩
end Go.Proofs.Ytbigdkkjajlekaa

/-
  The mathematics of templates: parts, tokens, how alike they are, what they are merged, what varies, what is rendered. No Go here.
-/
namespace Go.Proofs.Ytbigdkkjajlekaa

structure Prt where
  any : Bool
  text : List UInt8
  deriving Inhabited, DecidableEq
structure Tok where
  kind : Int
  text : List UInt8
  deriving Inhabited, DecidableEq
def dot : Prt := ⟨true, []⟩
/-- does a kind's text vary? -/
def varies (k : Int) : Bool := decide (0 ≤ k) && decide (k ≤ 5)
def ofT (t : Tok) : Prt := if varies t.kind then dot else ⟨false, t.text⟩
def ofL (l : List Tok) : List Prt := l.map ofT
def fitB (p : Prt) (t : Tok) : Bool := p.any || decide (p.text = t.text)
def alikeN (ps : List Prt) (ts : List Tok) : Nat := (ps.zip ts).countP fun x => fitB x.1 x.2
def alikeI (ps : List Prt) (ts : List Tok) : Int := if ps.length = ts.length then (alikeN ps ts : Int) else -1
def fitsB (ps : List Prt) (ts : List Tok) : Bool := decide (alikeI ps ts = (ps.length : Int))
def wildN (ps : List Prt) : Nat := ps.countP (·.any)
def merge1 (p : Prt) (t : Option Tok) : Prt := if p.any then dot else match t with | some t => if p.text = t.text then p else dot | none => p
def mergeL : List Prt → List Tok → List Prt
  | [], _ => []
  | p :: r, ts => merge1 p ts.head? :: mergeL r ts.tail
def varsZ (z : List (Prt × Tok)) : List (List UInt8) := (z.filter (·.1.any)).map (·.2.text)
def varsL (ps : List Prt) (ts : List Tok) : List (List UInt8) := varsZ (ps.zip ts)
def wildTo (ps : List Prt) (k : Nat) : Nat := wildN (ps.take k)
def rTo (ps : List Prt) (vs : List (List UInt8)) : Nat → List UInt8
  | 0 => []
  | k + 1 => rTo ps vs k ++ (match ps[k]? with | some p => if p.any then vs.getD (wildTo ps k) [] else p.text | none => [])
def renderL (ps : List Prt) (vs : List (List UInt8)) : List UInt8 := rTo ps vs ps.length
def joinTo (ts : List Tok) (k : Nat) : List UInt8 := ((ts.take k).map (·.text)).flatten
def joinL (ts : List Tok) : List UInt8 := joinTo ts ts.length
def wP (p : Prt) : Nat := p.text.length + 1
def wT (t : Tok) : Nat := t.text.length + 1
def sumP (ps : List Prt) (k : Nat) : Nat := ((ps.take k).map wP).sum
def sumT (ts : List Tok) (k : Nat) : Nat := ((ts.take k).map wT).sum

theorem take_snoc' {α : Type} (l : List α) (k : Nat) (h : k < l.length) : l.take (k + 1) = l.take k ++ [l[k]] := List.take_succ_eq_append_getElem h
theorem ofL_take (l : List Tok) (k : Nat) (h : k < l.length) : (ofL l).take (k + 1) = (ofL l).take k ++ [ofT l[k]] := by
  unfold ofL
  rw [take_snoc' _ _ (by simpa using h)]; simp
theorem ofL_len (l : List Tok) : (ofL l).length = l.length := by simp [ofL]
theorem zip_len {ps : List Prt} {ts : List Tok} (h : ps.length = ts.length) : (ps.zip ts).length = ps.length := by simp; omega
/-- how alike the first k are -/
def alikeTo (ps : List Prt) (ts : List Tok) (k : Nat) : Nat := ((ps.zip ts).take k).countP fun x => fitB x.1 x.2
theorem alikeTo_succ (ps : List Prt) (ts : List Tok) (k : Nat) (h1 : k < ps.length) (h2 : k < ts.length) : alikeTo ps ts (k + 1) = alikeTo ps ts k + if fitB ps[k] ts[k] then 1 else 0 := by
  unfold alikeTo
  rw [take_snoc' _ _ (by simp; omega), List.countP_append]
  simp [List.countP_cons]
theorem alikeTo_le (ps : List Prt) (ts : List Tok) (k : Nat) : alikeTo ps ts k ≤ k := by
  unfold alikeTo
  refine Nat.le_trans List.countP_le_length ?_
  simp; omega
theorem alikeTo_all (ps : List Prt) (ts : List Tok) (h : ps.length = ts.length) : alikeTo ps ts ps.length = alikeN ps ts := by
  unfold alikeTo alikeN
  rw [List.take_of_length_le (by simp; omega)]
theorem alikeN_le (ps : List Prt) (ts : List Tok) : alikeN ps ts ≤ ps.length := by
  unfold alikeN
  refine Nat.le_trans List.countP_le_length ?_
  simp; omega
theorem wildTo_succ (ps : List Prt) (k : Nat) (h : k < ps.length) : wildTo ps (k + 1) = wildTo ps k + if ps[k].any then 1 else 0 := by
  unfold wildTo wildN
  rw [take_snoc' _ _ h, List.countP_append]
  simp [List.countP_cons]
theorem wildTo_le (ps : List Prt) (k : Nat) : wildTo ps k ≤ k := by
  unfold wildTo wildN
  refine Nat.le_trans List.countP_le_length ?_
  simp; omega
theorem wildTo_all (ps : List Prt) : wildTo ps ps.length = wildN ps := by unfold wildTo; rw [List.take_length]
theorem wildTo_mono (ps : List Prt) (k : Nat) : wildTo ps k ≤ wildN ps := by
  unfold wildTo wildN
  have h : ps = ps.take k ++ ps.drop k := (List.take_append_drop k ps).symm
  conv => rhs; rw [h, List.countP_append]
  omega
theorem wildTo_lt (ps : List Prt) (k : Nat) (h : k < ps.length) (ha : ps[k].any = true) : wildTo ps k < wildN ps := by
  have h1 := wildTo_succ ps k h
  have h2 := wildTo_mono ps (k + 1)
  rw [if_pos ha] at h1
  omega
theorem mergeL_len : ∀ (ps : List Prt) (ts : List Tok), (mergeL ps ts).length = ps.length
  | [], _ => rfl
  | p :: r, ts => by simp [mergeL, mergeL_len r]
theorem mergeL_at : ∀ (ps : List Prt) (ts : List Tok) (k : Nat) (h : k < ps.length), (mergeL ps ts)[k]'(by rw [mergeL_len]; exact h) = merge1 ps[k] ts[k]?
  | p :: r, ts, 0, h => by simp [mergeL, List.head?_eq_getElem?]
  | p :: r, ts, k + 1, h => by
    simp only [List.length_cons] at h
    simp only [mergeL, List.getElem_cons_succ]
    rw [mergeL_at r ts.tail k (by omega), List.getElem?_tail]
theorem mergeL_take (ps : List Prt) (ts : List Tok) (k : Nat) (h : k < ps.length) : (mergeL ps ts).take (k + 1) = (mergeL ps ts).take k ++ [merge1 ps[k] ts[k]?] := by
  rw [take_snoc' _ _ (by rw [mergeL_len]; exact h), mergeL_at _ _ _ h]
/-- what varies among the first k -/
def varsTo (ps : List Prt) (ts : List Tok) (k : Nat) : List (List UInt8) := varsZ ((ps.zip ts).take k)
theorem varsTo_succ (ps : List Prt) (ts : List Tok) (k : Nat) (h1 : k < ps.length) (h2 : k < ts.length) : varsTo ps ts (k + 1) = varsTo ps ts k ++ if ps[k].any then [ts[k].text] else [] := by
  unfold varsTo varsZ
  rw [take_snoc' _ _ (by simp; omega), List.filter_append, List.map_append]
  congr 1
  simp only [List.getElem_zip, List.filter_cons, List.filter_nil]
  split <;> rfl
theorem varsTo_all (ps : List Prt) (ts : List Tok) (k : Nat) (h : ps.length ≤ k ∨ ts.length ≤ k) : varsTo ps ts k = varsL ps ts := by
  unfold varsTo varsL
  rw [List.take_of_length_le (by simp; omega)]
theorem varsTo_len (ps : List Prt) (ts : List Tok) (k : Nat) : (varsTo ps ts k).length ≤ k := by
  unfold varsTo varsZ
  rw [List.length_map]
  refine Nat.le_trans (List.length_filter_le _ _) ?_
  simp; omega
theorem rTo_succ (ps : List Prt) (vs : List (List UInt8)) (k : Nat) (h : k < ps.length) : rTo ps vs (k + 1) = rTo ps vs k ++ if ps[k].any then vs.getD (wildTo ps k) [] else ps[k].text := by
  rw [rTo, List.getElem?_eq_getElem h]
theorem joinTo_succ (ts : List Tok) (k : Nat) (h : k < ts.length) : joinTo ts (k + 1) = joinTo ts k ++ ts[k].text := by
  unfold joinTo
  rw [take_snoc' _ _ h, List.map_append, List.flatten_append]; simp only [List.map_cons, List.map_nil, List.flatten_cons, List.flatten_nil, List.append_nil]
theorem joinTo_len (ts : List Tok) (k : Nat) : (joinTo ts k).length ≤ sumT ts k := by
  unfold joinTo sumT
  generalize ts.take k = l
  induction l with
  | nil => simp
  | cons a r ih => simp only [List.map_cons, List.flatten_cons, List.length_append, List.sum_cons, wT]; omega
theorem sumP_succ (ps : List Prt) (k : Nat) (h : k < ps.length) : sumP ps (k + 1) = sumP ps k + (ps[k].text.length + 1) := by
  unfold sumP
  rw [take_snoc' _ _ h, List.map_append, List.sum_append]; simp only [List.map_cons, List.map_nil, List.sum_cons, List.sum_nil, wP, Nat.add_zero]
theorem sumT_succ (ps : List Tok) (k : Nat) (h : k < ps.length) : sumT ps (k + 1) = sumT ps k + (ps[k].text.length + 1) := by
  unfold sumT
  rw [take_snoc' _ _ h, List.map_append, List.sum_append]; simp only [List.map_cons, List.map_nil, List.sum_cons, List.sum_nil, wT, Nat.add_zero]
theorem sumP_ge (ps : List Prt) (k : Nat) (h : k ≤ ps.length) : k ≤ sumP ps k := by
  induction k with
  | zero => omega
  | succ k ih => rw [sumP_succ ps k (by omega)]; have := ih (by omega); omega
theorem sumT_ge (ps : List Tok) (k : Nat) (h : k ≤ ps.length) : k ≤ sumT ps k := by
  induction k with
  | zero => omega
  | succ k ih => rw [sumT_succ ps k (by omega)]; have := ih (by omega); omega
theorem sumP_mono (ps : List Prt) (k : Nat) : sumP ps k ≤ sumP ps ps.length := by
  unfold sumP
  conv => rhs; rw [List.take_length, ← List.take_append_drop k ps, List.map_append, List.sum_append]
  omega
theorem sumT_mono (ps : List Tok) (k : Nat) : sumT ps k ≤ sumT ps ps.length := by
  unfold sumT
  conv => rhs; rw [List.take_length, ← List.take_append_drop k ps, List.map_append, List.sum_append]
  omega
def wideB (ps : List Prt) : Bool := decide (1500 < sumP ps ps.length)
def longB (ts : List Tok) : Bool := decide (1500 < sumT ts ts.length)

/-! ### what the laws say -/
theorem varies_iff (k : Int) : varies k = true ↔ 0 ≤ k ∧ k ≤ 5 := by simp [varies]
theorem fitB_of (t : Tok) : fitB (ofT t) t = true := by
  unfold fitB ofT
  split <;> simp [dot]
theorem alikeN_all (ps : List Prt) (ts : List Tok) (h : ps.length = ts.length) : alikeN ps ts = ps.length ↔ ∀ k (h1 : k < ps.length) (h2 : k < ts.length), fitB ps[k] ts[k] = true := by
  unfold alikeN
  refine (show (ps.zip ts).countP (fun x => fitB x.1 x.2) = ps.length ↔ (ps.zip ts).countP (fun x => fitB x.1 x.2) = (ps.zip ts).length by rw [zip_len h]).trans ?_
  rw [List.countP_eq_length]
  constructor
  · intro hh k h1 h2
    have := hh ((ps.zip ts)[k]'(by simp; omega)) (List.getElem_mem _)
    simpa using this
  · intro hh x hx
    obtain ⟨k, hk, rfl⟩ := List.getElem_of_mem hx
    simp only [List.length_zip] at hk
    simp only [List.getElem_zip]
    exact hh k (by omega) (by omega)
theorem fits_iff (ps : List Prt) (ts : List Tok) : fitsB ps ts = true ↔ ps.length = ts.length ∧ ∀ k (h1 : k < ps.length) (h2 : k < ts.length), fitB ps[k] ts[k] = true := by
  unfold fitsB alikeI
  rw [decide_eq_true_iff]
  by_cases h : ps.length = ts.length
  · rw [if_pos h, ← alikeN_all _ _ h]
    constructor
    · intro e; exact ⟨h, by omega⟩
    · rintro ⟨_, e⟩; rw [e]
  · rw [if_neg h]
    constructor
    · intro e; omega
    · rintro ⟨e, _⟩; exact absurd e h
theorem fits_of (l : List Tok) : fitsB (ofL l) l = true := by
  rw [fits_iff]
  refine ⟨ofL_len l, fun k h1 h2 => ?_⟩
  simp only [ofL, List.getElem_map]
  exact fitB_of _
theorem varsL_len (ps : List Prt) (ts : List Tok) (h : ps.length = ts.length) : (varsL ps ts).length = wildN ps := by
  unfold varsL varsZ wildN
  rw [List.length_map, ← List.countP_eq_length_filter]
  have e : ps = (ps.zip ts).map (·.1) := by rw [List.map_fst_zip]; omega
  conv => rhs; rw [e, List.countP_map]
  rfl
theorem filter_at {α : Type} (f : α → Bool) : ∀ (z : List α) (k : Nat) (h : k < z.length), f z[k] = true → (z.filter f)[(z.take k).countP f]? = some z[k]
  | a :: r, 0, h, hf => by
    simp only [List.getElem_cons_zero] at hf
    simp [List.filter_cons, hf]
  | a :: r, k + 1, h, hf => by
    simp only [List.length_cons] at h
    simp only [List.getElem_cons_succ] at hf
    have ih := filter_at f r k (by omega) hf
    simp only [List.take_succ_cons, List.countP_cons, List.filter_cons, List.getElem_cons_succ]
    by_cases ha : f a = true
    · simp only [ha, if_true, List.getElem?_cons_succ]; exact ih
    · simp only [ha, if_false, Nat.add_zero, Bool.false_eq_true]; exact ih
theorem vars_at (ps : List Prt) (ts : List Tok) (k : Nat) (h1 : k < ps.length) (h2 : k < ts.length) (ha : ps[k].any = true) (hl : ps.length = ts.length) : (varsL ps ts).getD (wildTo ps k) [] = ts[k].text := by
  have h := filter_at (fun x : Prt × Tok => x.1.any) (ps.zip ts) k (by simp; omega) (by simpa using ha)
  have e : ((ps.zip ts).take k).countP (fun x => x.1.any) = wildTo ps k := by
    unfold wildTo wildN
    have e1 : ps.take k = ((ps.zip ts).take k).map (·.1) := by
      rw [List.map_take, List.map_fst_zip (by omega)]
    rw [e1, List.countP_map]
    rfl
  rw [e] at h
  unfold varsL varsZ
  rw [List.getD_eq_getElem?_getD, List.getElem?_map, h]
  simp
theorem render_back (ps : List Prt) (ts : List Tok) (hf : fitsB ps ts = true) : renderL ps (varsL ps ts) = joinL ts := by
  obtain ⟨hl, hk⟩ := (fits_iff ps ts).1 hf
  have key : ∀ k, k ≤ ps.length → rTo ps (varsL ps ts) k = joinTo ts k := by
    intro k
    induction k with
    | zero => intro _; rfl
    | succ k ih =>
      intro h
      rw [rTo_succ _ _ _ (by omega), joinTo_succ _ _ (by omega), ih (by omega)]
      congr 1
      have hfit := hk k (by omega) (by omega)
      by_cases ha : ps[k].any = true
      · rw [if_pos ha]
        exact vars_at ps ts k (by omega) (by omega) ha hl
      · rw [if_neg ha]
        unfold fitB at hfit
        simpa [ha] using hfit
  unfold renderL joinL
  rw [key _ (Nat.le_refl _), hl]
theorem merge1_some (p : Prt) (t : Tok) : merge1 p (some t) = if fitB p t && !p.any then p else dot := by
  unfold merge1 fitB
  by_cases ha : p.any = true
  · simp [ha]
  · by_cases he : p.text = t.text <;> simp [ha, he]
theorem merge_any (p : Prt) (t : Tok) : (merge1 p (some t)).any = (p.any || !decide (p.text = t.text)) := by
  unfold merge1
  by_cases ha : p.any = true
  · simp [ha, dot]
  · by_cases he : p.text = t.text
    · simp [ha, he]
    · simp [ha, he, dot]
theorem merge_text (p : Prt) (t : Tok) (h : (merge1 p (some t)).any = true) : (merge1 p (some t)).text = [] := by
  unfold merge1 at h ⊢
  by_cases ha : p.any = true
  · simp [ha, dot]
  · by_cases he : p.text = t.text
    · simp [ha, he] at h
    · simp [ha, he, dot]
theorem fit_merge (p : Prt) (t u : Tok) (h : fitB p u = true ∨ u = t) : fitB (merge1 p (some t)) u = true := by
  unfold merge1
  by_cases ha : p.any = true
  · simp [ha, dot, fitB]
  · by_cases he : p.text = t.text
    · rcases h with h | rfl
      · simp [ha, he]; simpa [fitB, ha, he] using h
      · simp [ha, he, fitB]
    · simp [ha, he, dot, fitB]
theorem merge_fits (ps : List Prt) (ts us : List Tok) (hl : ps.length = ts.length) (h : fitsB ps us = true ∨ us = ts) : fitsB (mergeL ps ts) us = true := by
  have hlu : ps.length = us.length := by
    rcases h with h | rfl
    · exact ((fits_iff ps us).1 h).1
    · exact hl
  rw [fits_iff]
  refine ⟨by rw [mergeL_len]; exact hlu, fun k h1 h2 => ?_⟩
  rw [mergeL_len] at h1
  rw [mergeL_at _ _ _ h1, List.getElem?_eq_getElem (by omega)]
  refine fit_merge _ _ _ ?_
  rcases h with h | rfl
  · exact .inl (((fits_iff ps us).1 h).2 k h1 h2)
  · exact .inr rfl
theorem merge_again1 (p : Prt) (t : Tok) : merge1 (merge1 p (some t)) (some t) = merge1 p (some t) := by
  unfold merge1
  by_cases ha : p.any = true
  · simp [ha, dot]
  · by_cases he : p.text = t.text
    · simp [ha, he]
    · simp [ha, he, dot]
theorem merge_again (ps : List Prt) (ts : List Tok) (hl : ps.length = ts.length) : mergeL (mergeL ps ts) ts = mergeL ps ts := by
  refine List.ext_getElem (by simp [mergeL_len]) fun k h1 h2 => ?_
  rw [mergeL_len, mergeL_len] at h1
  rw [mergeL_at _ _ k (by rw [mergeL_len]; exact h1), mergeL_at _ _ k h1, List.getElem?_eq_getElem (by omega)]
  exact merge_again1 _ _
theorem merge1_eq (p : Prt) (t : Tok) : merge1 p (some t) = if p.any = true then dot else if p.text = t.text then p else dot := rfl
theorem merge_comm1 (p : Prt) (t u : Tok) : merge1 (merge1 p (some t)) (some u) = merge1 (merge1 p (some u)) (some t) := by
  simp only [merge1_eq]
  by_cases ha : p.any = true
  · simp [ha, dot]
  · have ha' : p.any = false := by simpa using ha
    have hd : dot.any = true := rfl
    by_cases he : p.text = t.text <;> by_cases hf : p.text = u.text
    · rw [if_neg ha, if_pos he, if_neg ha, if_pos hf, if_neg ha, if_pos he]
    · rw [if_neg ha, if_pos he, if_neg ha, if_neg hf, if_pos hd]
    · rw [if_neg ha, if_neg he, if_pos hd, if_neg ha, if_pos hf, if_neg ha, if_neg he]
    · rw [if_neg ha, if_neg he, if_pos hd, if_neg ha, if_neg hf, if_pos hd]
theorem merge_comm (ps : List Prt) (ts us : List Tok) (h1 : ps.length = ts.length) (h2 : ps.length = us.length) : mergeL (mergeL ps ts) us = mergeL (mergeL ps us) ts := by
  refine List.ext_getElem (by simp [mergeL_len]) fun k k1 k2 => ?_
  rw [mergeL_len, mergeL_len] at k1
  rw [mergeL_at (mergeL ps ts) us k (by rw [mergeL_len]; exact k1), mergeL_at (mergeL ps us) ts k (by rw [mergeL_len]; exact k1), mergeL_at ps ts k k1, mergeL_at ps us k k1, List.getElem?_eq_getElem (by omega), List.getElem?_eq_getElem (by omega)]
  exact merge_comm1 _ _ _
theorem merge_wild : ∀ (ps : List Prt) (ts : List Tok), wildN ps ≤ wildN (mergeL ps ts)
  | [], _ => Nat.le_refl _
  | p :: r, ts => by
    have ih := merge_wild r ts.tail
    unfold wildN at ih ⊢
    simp only [mergeL, List.countP_cons]
    have : p.any = true → (merge1 p ts.head?).any = true := fun h => by unfold merge1; simp [h, dot]
    by_cases h : p.any = true
    · simp [h, this h]; exact ih
    · simp [h]; omega
end Go.Proofs.Ytbigdkkjajlekaa

/-
  Rows of elements of many cells that lie anywhere in a block of the call's own ('RowO'), append onto them, and stores of many cells. No statement of the seat is proved here.
-/
namespace Go.Proofs.Ytbigdkkjajlekaa
open Go Go.RowKit

/-- the block of an address -/
def inA (A : Option Addr) (k : Nat) : Prop := ∃ ad, A = some ad ∧ ad.block = k
theorem inA_none (k : Nat) : ¬ inA none k := fun ⟨_, h, _⟩ => by cases h
theorem inA_some (g o k : Nat) (s : Option Nat) : inA (some ⟨g, o, s⟩) k ↔ g = k := ⟨fun ⟨_, h, e⟩ => by injection h with h; subst h; exact e, fun e => ⟨_, rfl, e⟩⟩

/-! ### Only: stores of many cells -/
section
variable {S T : Nat → Prop} {a w w' : World}
theorem Only.setCells (h : Only S a w) {b : Nat} (hb : S b ∨ a.heap.size ≤ b) : ∀ (vs : List Value) (o : Nat), Only S a (w.setCells b o vs) := by
  intro vs
  induction vs generalizing w with
  | nil => intro o; exact h
  | cons v r ih => intro o; exact ih (h.setCell (p := ⟨b, o, none⟩) hb v) (o + 1)
theorem Blk.setCells_far {g : Nat} {t : TypeId} {cs : Array Value} {b : Nat} (hn : g ≠ b) : ∀ (vs : List Value) (o : Nat) {w : World}, Blk w g t cs → Blk (w.setCells b o vs) g t cs
  | [], _, _, h => h
  | v :: r, o, w, h => Blk.setCells_far hn r (o + 1) (h.far (p := ⟨b, o, none⟩) hn v)
theorem Blk.setCells {g : Nat} {t : TypeId} : ∀ (vs : List Value) (o : Nat) {w : World} {cs : Array Value}, Blk w g t cs → o + vs.length ≤ cs.size →
    ∃ cs', Blk (w.setCells g o vs) g t cs' ∧ cs'.size = cs.size ∧ (∀ j u, vs[j]? = some u → cs'[o + j]? = some u) ∧ ∀ k, (k < o ∨ o + vs.length ≤ k) → cs'[k]? = cs[k]?
  | [], o, w, cs, h, _ => ⟨cs, h, rfl, fun j u hu => by simp at hu, fun _ _ => rfl⟩
  | v :: r, o, w, cs, h, hl => by
    simp only [List.length_cons] at hl
    obtain ⟨cs', h1, h2, h3, h4⟩ := Blk.setCells r (o + 1) (h.put o v) (by simp; omega)
    refine ⟨cs', h1, by simpa using h2, fun j u hu => ?_, fun k hk => ?_⟩
    · rcases j with _ | j
      · simp at hu
        subst hu
        rw [h4 (o + 0) (.inl (by omega))]
        simp [show o < cs.size by omega]
      · have := h3 j u (by simpa using hu)
        rwa [show o + 1 + j = o + (j + 1) by omega] at this
    · simp only [List.length_cons] at hk
      rw [h4 k (by omega), Array.getElem?_setIfInBounds]
      split
      · omega
      · rfl
end

/-- a whole block anew -/
theorem Blk.whole {g : Nat} {t : TypeId} {w : World} {cs : Array Value} (h : Blk w g t cs) (vs : List Value) (hl : vs.length = cs.size) : Blk (w.setCells g 0 vs) g t vs.toArray := by
  obtain ⟨cs', h1, h2, h3, _⟩ := Blk.setCells vs 0 h (by omega)
  have : cs' = vs.toArray := by
    apply Array.ext_getElem?
    intro k
    rcases Nat.lt_or_ge k vs.length with hk | hk
    · have := h3 k vs[k] (List.getElem?_eq_getElem hk)
      rw [Nat.zero_add] at this
      rw [this]; simp [hk]
    · rw [Array.getElem?_eq_none (by omega), Array.getElem?_eq_none (by simpa using hk)]
  rw [← this]
  exact h1
theorem Blk.there {g : Nat} {t : TypeId} {w : World} {cs : Array Value} (h : Blk w g t cs) (o n : Nat) (hl : o + n ≤ cs.size) : w.there g o n := fun j hj => ⟨by rw [h.cell]; simp; omega, h.free _⟩
theorem below_setCells {B : Nat} {a : World} {b : Nat} (hb : B ≤ b) : ∀ (vs : List Value) (o : Nat) {w : World}, Below B a w → Below B a (w.setCells b o vs)
  | [], _, _, h => h
  | v :: r, o, w, h => below_setCells hb r (o + 1) (w := w.setCell ⟨b, o, none⟩ v) ⟨h.os, h.tape, h.output, by simpa [World.setCell] using h.size, fun i hi => (Below.heap_setCell w ⟨b, o, none⟩ v i (by show i ≠ b; omega)).trans (h.block i hi)⟩

/-! ### A row anywhere in a block -/
def RowO (w : World) (e : TypeId) (sz : Nat) (A : Option Addr) (m c : Nat) (xs : List Value) : Prop :=
  xs.length = m * sz ∧ ((A = none ∧ m = 0 ∧ c = 0) ∨ ∃ g off cs, A = some ⟨g, off, none⟩ ∧ m ≤ c ∧ c ≤ maxLen ∧ Blk w g e cs ∧ off + c * sz ≤ cs.size ∧ ∀ j u, xs[j]? = some u → cs[off + j]? = some u)

section
variable {S : Nat → Prop} {w w' : World} {e : TypeId} {sz : Nat} {A : Option Addr} {m c : Nat} {xs : List Value}
theorem RowO.none_ (w : World) (e : TypeId) (sz : Nat) : RowO w e sz none 0 0 [] := ⟨by simp, .inl ⟨rfl, rfl, rfl⟩⟩
theorem RowO.rd (h : RowO w e sz A m c xs) : Rd w A xs := by
  rcases h.2 with ⟨rfl, rfl, rfl⟩ | ⟨g, off, cs, rfl, _, _, hb, _, hc⟩
  · have : xs = [] := List.eq_nil_of_length_eq_zero (by simpa using h.1)
    subst this
    exact Rd.nil _ _
  · exact fun j u hu => ⟨_, rfl, by rw [Addr.add_mid, hb.cell]; exact hc j u hu⟩
theorem RowO.lt (h : RowO w e sz A m c xs) {k : Nat} (hk : inA A k) : k < w.heap.size := by
  rcases h.2 with ⟨rfl, _⟩ | ⟨g, off, cs, rfl, _, _, hb, _⟩
  · exact absurd hk (inA_none k)
  · rw [inA_some] at hk; subst hk; exact hb.lt
theorem RowO.keep (h : RowO w e sz A m c xs) (hk : ∀ k, inA A k → w'.heap[k]? = w.heap[k]?) : RowO w' e sz A m c xs := by
  refine ⟨h.1, ?_⟩
  rcases h.2 with h1 | ⟨g, off, cs, rfl, h1, h2, hb, h3⟩
  · exact .inl h1
  · exact .inr ⟨g, off, cs, rfl, h1, h2, (hk g ((inA_some _ _ _ _).2 rfl)).trans hb, h3⟩
theorem RowO.only (h : RowO w e sz A m c xs) (ho : Only S w w') (hn : ∀ k, inA A k → ¬ S k) : RowO w' e sz A m c xs := h.keep fun k hk => ho.block k (h.lt hk) (hn k hk)
theorem RowO.ext (h : RowO w e sz A m c xs) (hb : Below w.heap.size w w') : RowO w' e sz A m c xs := h.keep fun k hk => hb.block k (h.lt hk)
theorem RowO.alloc (h : RowO w e sz A m c xs) (o : Obj) : RowO (w.alloc o) e sz A m c xs := h.ext ((Below.refl _ _).alloc (Nat.le_refl _) o)
theorem RowO.drew (h : RowO w e sz A m c xs) : RowO w.drew e sz A m c xs := h
theorem RowO.drewN (h : RowO w e sz A m c xs) (n : Nat) : RowO (w.drewN n) e sz A m c xs := h
theorem RowO.le (h : RowO w e sz A m c xs) : m ≤ c := by
  rcases h.2 with ⟨_, h1, h2⟩ | ⟨_, _, _, _, h1, _⟩ <;> omega
theorem RowO.ne_blk {g : Nat} {t : TypeId} {cs : Array Value} (h : RowO w e sz A m c xs) (hb : Blk w g t cs) (ht : e ≠ t) : ¬ inA A g := by
  intro hk
  rcases h.2 with ⟨rfl, _⟩ | ⟨g', off, cs', rfl, _, _, hb', _⟩
  · exact inA_none _ hk
  · rw [inA_some] at hk
    subst hk
    unfold Blk at hb hb'
    rw [hb] at hb'
    injection hb' with hb'
    injection hb' with _ ht'
    exact ht ht'.symm
theorem RowO.lit (w : World) (e : TypeId) (sz m : Nat) (cs : Array Value) (hs : cs.size = m * sz) (hm : m ≤ maxLen) {g : Nat} (hg : g = w.heap.size) : RowO (w.alloc (.cells cs e)) e sz (some ⟨g, 0, none⟩) m m cs.toList := by
  subst hg
  exact ⟨by simpa using hs, .inr ⟨_, 0, cs, rfl, Nat.le_refl _, hm, Blk.new w e cs, by omega, fun j u hu => by simpa using hu⟩⟩
/-- the first elements alone -/
theorem RowO.sub (h : RowO w e sz A m c xs) {n : Nat} {ys : List Value} (hn : n ≤ m) (hl : ys.length = n * sz) (hp : ∀ (j : Nat) (u : Value), ys[j]? = some u → xs[j]? = some u) : RowO w e sz A n c ys := by
  refine ⟨hl, ?_⟩
  rcases h.2 with ⟨h1, h2, h3⟩ | ⟨g, off, cs, h1, h2, h3, h4, h5, h6⟩
  · exact .inl ⟨h1, by omega, h3⟩
  · exact .inr ⟨g, off, cs, h1, by omega, h3, h4, h5, fun j u hu => h6 j u (hp j u hu)⟩
end

/-! ### append -/
section
variable {P : Program} (w : World)
theorem run_appO (t ty e : TypeId) (z : Value) (sz bytes : Nat) (ht : P.underlying t = some (.slice e)) (hi : (P.info? e).map (fun i => (i.zero, i.size, i.bytes)) = some (some z, sz, bytes)) (hzs : z.cells.size = sz)
    (A : Option Addr) (n c : Nat) (xs : List Value) (hown : RowO w e sz A n c xs) (A2 : Option Addr) (m c2 : Nat) (news : List Value) (hm : news.length = m * sz) (hr : Rd w A2 news) (h1 : ∀ u ∈ news, u.oneCell' = true) (h0 : A2 = none → m = 0)
    (h63 : n + m ≤ maxLen) (hbytes : (n + m) * bytes ≤ 140737488355328) :
    ∃ A' c' w', (Builtin.append_ #[t, t] ty #[.slice A n c, .slice A2 m c2]).run P w = .ok (.slice A' (n + m) c') w' ∧ RowO w' e sz A' (n + m) c' (xs ++ news) ∧ Only (inA A) w w' ∧ (∀ k, inA A' k → inA A k ∨ (w.heap.size ≤ k ∧ k < w'.heap.size)) := by
  obtain ⟨i, hinf, hz, hsz, hby⟩ := info_parts hi
  clear hi
  subst hsz hby
  have hsmall : n + m ≤ 9223372036854775807 := by simp only [maxLen] at h63; omega
  have src : Src P i.size t (.slice A2 m c2) m news w := by
    rcases A2 with _ | ad
    · obtain rfl := h0 rfl
      have hnil : news = [] := List.eq_nil_of_length_eq_zero (by simpa using hm)
      subst hnil
      exact Src.ofNil w ht c2
    · exact Src.ofSlice w ht ad m c2 news hm (fun j u hu => by
        obtain ⟨ad', h, hc⟩ := hr j u hu
        injection h with h
        subst h
        exact hc) h1
  have hlen : (xs ++ news).length = (n + m) * i.size := by rw [List.length_append, hown.1, hm, Nat.add_mul]
  by_cases hroom : n + m ≤ c
  · rcases hown.2 with ⟨rfl, rfl, rfl⟩ | ⟨g, off, cs, rfl, hnc, hcm, hb, hsize, hcell⟩
    · have hn0 : m = 0 := by omega
      subst hn0
      have hnil : news = [] := List.eq_nil_of_length_eq_zero (by simpa using hm)
      subst hnil
      refine ⟨none, 0, w, ?_, by rw [List.append_nil]; exact hown, Only.refl _ _, fun k hk => .inl hk⟩
      have hl := src.len w
      have hcl := src.cells
      have hl' : Builtin.lenOf (.slice A2 0 c2) = pure 0 := rfl
      rw [Nat.add_zero]
      unfold Builtin.append_
      simp [run_underlying ht, sizeOf, typeInfo, hinf, hl', hcl]
    · have hfit : off + n * i.size + news.length ≤ cs.size := by
        have h2 : (n + m) * i.size ≤ c * i.size := Nat.mul_le_mul_right _ hroom
        rw [Nat.add_mul] at h2
        omega
      have hcs : ∀ j, j < news.length → (w.cell? ⟨g, off + n * i.size + j, none⟩).isSome = true := fun j hj => by
        rw [hb.cell]; simp; omega
      have hfr : ∀ j, j < news.length → w.frozen? ⟨g, off + n * i.size + j, none⟩ = false := fun j _ => hb.free _
      have hrun := run_append_room_src (P := P) w t t ty e i ht hinf g off n c (.slice A2 m c2) m news src hroom hcs hfr
      obtain ⟨cs', hb', hs', hin, hout⟩ := Blk.setCells news (off + n * i.size) hb hfit
      refine ⟨_, _, _, hrun, ⟨hlen, .inr ⟨g, off, cs', rfl, hroom, hcm, hb', by omega, fun j u hu => ?_⟩⟩, (Only.refl _ w).setCells (.inl ((inA_some _ _ _ _).2 rfl)) _ _, fun k hk => .inl hk⟩
      rw [List.getElem?_append] at hu
      split at hu
      · rename_i hj
        rw [hown.1] at hj
        rw [hout (off + j) (.inl (by omega))]
        exact hcell j u hu
      · rename_i hj
        have := hin _ u hu
        rw [hown.1] at hj this
        rwa [show off + n * i.size + (j - n * i.size) = off + j by omega] at this
  · have hold : (Builtin.firstCells i.size n (.slice A n c)).run P w.drew = .ok xs.toArray w.drew := by
      rcases hown.2 with ⟨rfl, rfl, rfl⟩ | ⟨g, off, cs, rfl, hnc, hcm, hb, hsize, hcell⟩
      · have hnil : xs = [] := List.eq_nil_of_length_eq_zero (by simpa using hown.1)
        subst hnil
        exact run_firstCells_none w.drew i.size 0 0 0
      · refine run_firstCells_some w.drew i.size n ⟨g, off, none⟩ n c xs hown.1 (fun j u hu => ?_)
        rw [Addr.add_mid, (Blk.drew hb).cell]
        exact hcell j u hu
    have hrun := run_append_grow_src (P := P) w t t ty e i z ht hinf hz A n c xs hold (.slice A2 m c2) m news src (by omega) (by omega) (growslice_fits (by omega) hbytes)
    have hge := grownCap_ge w (n + m) c e
    have hcm : grownCap w (n + m) c e ≤ maxLen := grownCap_le_maxLen w (n + m) c e h63
    refine ⟨_, _, _, hrun, ⟨hlen, .inr ⟨w.heap.size, 0, _, rfl, hge, hcm, heap_alloc_new w.drew _, ?_, fun j u hu => ?_⟩⟩, ((Only.refl _ w).drew).alloc _, fun k hk => .inr ?_⟩
    · simp only [Array.size_append, List.size_toArray, size_zeroCells, hzs, hlen, ← Nat.add_mul]
      rw [Nat.zero_add]
      exact Nat.le_of_eq (congrArg (· * i.size) (by omega))
    · have hj := (List.getElem?_eq_some_iff.1 hu).1
      rw [Nat.zero_add, Array.getElem?_append_left (by simpa using hj)]
      simpa using hu
    · rw [inA_some] at hk
      subst hk
      simp

theorem wp_appO {o : Oper} {a : Act} {K : Act → World → Prop} {Q : Exit → Act → World → Prop} (s x : Operand) (t : TypeId)
    (ho : o.op = .call { callee := .builtin .append, args := #[s, x], argTypes := #[t, t] })
    (e : TypeId) (z : Value) (sz bytes : Nat) (ht : P.underlying t = some (.slice e)) (hi : (P.info? e).map (fun i => (i.zero, i.size, i.bytes)) = some (some z, sz, bytes)) (hzs : z.cells.size = sz)
    (A : Option Addr) (n c : Nat) (xs : List Value) (hs : a.eval s = .slice A n c) (hown : RowO w e sz A n c xs)
    (A2 : Option Addr) (m c2 : Nat) (news : List Value) (hx : a.eval x = .slice A2 m c2) (hm : news.length = m * sz) (hr : Rd w A2 news) (h1 : ∀ u ∈ news, u.oneCell' = true) (h0 : A2 = none → m = 0)
    (h63 : n + m ≤ maxLen) (hbytes : (n + m) * bytes ≤ 140737488355328)
    (h : ∀ A' c' w', RowO w' e sz A' (n + m) c' (xs ++ news) → Only (inA A) w w' → (∀ k, inA A' k → inA A k ∨ (w.heap.size ≤ k ∧ k < w'.heap.size)) → K (a.put o.dst (.slice A' (n + m) c')) w') : o.wp P a w K Q := by
  obtain ⟨A', c', w', hrun, h2, h3, h4⟩ := run_appO (P := P) w t o.type e z sz bytes ht hi hzs A n c xs hown A2 m c2 news hm hr h1 h0 h63 hbytes
  unfold Oper.wp execOp
  simp only [ho, resolve, invoke, builtin, Sem.run_bind, Sem.run_pure, Result.andThen_ok, List.map_toArray, List.map_cons, List.map_nil, hs, hx, hrun]
  exact h A' c' w' h2 h3 h4

theorem wpList_appO {ops : Array Oper} {rest : List Oper} {o : Oper} {a : Act} {Q : Exit → Act → World → Prop} (hgd : o.guard = none) (s x : Operand) (t : TypeId)
    (ho : o.op = .call { callee := .builtin .append, args := #[s, x], argTypes := #[t, t] })
    (e : TypeId) (z : Value) (sz bytes : Nat) (ht : P.underlying t = some (.slice e)) (hi : (P.info? e).map (fun i => (i.zero, i.size, i.bytes)) = some (some z, sz, bytes)) (hzs : z.cells.size = sz)
    (A : Option Addr) (n c : Nat) (xs : List Value) (hs : a.eval s = .slice A n c) (hown : RowO w e sz A n c xs)
    (A2 : Option Addr) (m c2 : Nat) (news : List Value) (hx : a.eval x = .slice A2 m c2) (hm : news.length = m * sz) (hr : Rd w A2 news) (h1 : ∀ u ∈ news, u.oneCell' = true) (h0 : A2 = none → m = 0)
    (h63 : n + m ≤ maxLen) (hbytes : (n + m) * bytes ≤ 140737488355328)
    (h : ∀ A' c' w', RowO w' e sz A' (n + m) c' (xs ++ news) → Only (inA A) w w' → (∀ k, inA A' k → inA A k ∨ (w.heap.size ≤ k ∧ k < w'.heap.size)) → wpList P ops Q rest (a.put o.dst (.slice A' (n + m) c')) w') : wpList P ops Q (o :: rest) a w :=
  wpList_plain hgd fun _ hK => wp_appO w s x t ho e z sz bytes ht hi hzs A n c xs hs hown A2 m c2 news hx hm hr h1 h0 h63 hbytes fun A' c' w' h2 h3 h4 => hK _ _ (h A' c' w' h2 h3 h4)

/-- at a step of a region that draws its order -/
theorem step_appO {ops : Array Oper} {o : Oper} {a : Act} {K : Act → World → Prop} {Q : Exit → Act → World → Prop} {E : Prop} (hgd : o.guard = none) (s x : Operand) (t : TypeId)
    (ho : o.op = .call { callee := .builtin .append, args := #[s, x], argTypes := #[t, t] })
    (e : TypeId) (z : Value) (sz bytes : Nat) (ht : P.underlying t = some (.slice e)) (hi : (P.info? e).map (fun i => (i.zero, i.size, i.bytes)) = some (some z, sz, bytes)) (hzs : z.cells.size = sz)
    (A : Option Addr) (n c : Nat) (xs : List Value) (hs : a.eval s = .slice A n c) (hown : RowO w e sz A n c xs)
    (A2 : Option Addr) (m c2 : Nat) (news : List Value) (hx : a.eval x = .slice A2 m c2) (hm : news.length = m * sz) (hr : Rd w A2 news) (h1 : ∀ u ∈ news, u.oneCell' = true) (h0 : A2 = none → m = 0)
    (h63 : n + m ≤ maxLen) (hbytes : (n + m) * bytes ≤ 140737488355328)
    (h : ∀ A' c' w', RowO w' e sz A' (n + m) c' (xs ++ news) → Only (inA A) w w' → (∀ k, inA A' k → inA A k ∨ (w.heap.size ≤ k ∧ k < w'.heap.size)) → K (a.put o.dst (.slice A' (n + m) c')) w') :
    if Region.wanted o (yielded ops a.tmps) = true then Oper.wp P o a w K Q else E := by
  have hw : Region.wanted o (yielded ops a.tmps) = true := by simp [Region.wanted, hgd]
  rw [if_pos hw]
  exact wp_appO w s x t ho e z sz bytes ht hi hzs A n c xs hs hown A2 m c2 news hx hm hr h1 h0 h63 hbytes h
end
end Go.Proofs.Ytbigdkkjajlekaa

/-
  Rows that were made anew; addresses at a place of a block; small words on worlds. No statement of the seat is proved here.
-/
namespace Go.Proofs.Ytbigdkkjajlekaa
open Go Go.RowKit
set_option maxRecDepth 100000

/-- a row that was made since 'w' -/
def NewO (w w' : World) (e : TypeId) (sz : Nat) (A : Option Addr) (m c : Nat) (xs : List Value) : Prop := RowO w' e sz A m c xs ∧ Below w.heap.size w w' ∧ ∀ k, inA A k → w.heap.size ≤ k
section
variable {w w1 w2 w3 : World} {e : TypeId} {sz : Nat} {A A' : Option Addr} {m n c c' : Nat} {xs ys : List Value}
theorem NewO.start (w : World) (e : TypeId) (sz : Nat) : NewO w w e sz none 0 0 [] := ⟨RowO.none_ _ _ _, Below.refl _ _, fun k hk => absurd hk (inA_none k)⟩
theorem NewO.row (h : NewO w w1 e sz A m c xs) : RowO w1 e sz A m c xs := h.1
theorem NewO.bel (h : NewO w w1 e sz A m c xs) : Below w.heap.size w w1 := h.2.1
theorem NewO.ext (h : NewO w w1 e sz A m c xs) (hb : Below w1.heap.size w1 w2) : NewO w w2 e sz A m c xs := ⟨h.1.ext hb, ext_trans h.2.1 hb, h.2.2⟩
theorem NewO.grow (h : NewO w w1 e sz A m c xs) (hb : Below w1.heap.size w1 w2) (hr : RowO w3 e sz A' n c' ys) (ho : Only (inA A) w2 w3) (hA : ∀ k, inA A' k → inA A k ∨ (w2.heap.size ≤ k ∧ k < w3.heap.size)) : NewO w w3 e sz A' n c' ys := by
  have h1 := h.2.1.size
  have h2 := hb.size
  refine ⟨hr, (ext_trans h.2.1 hb).trans (ho.below (fun i hi => h.2.2 i hi) (by omega)), fun k hk => ?_⟩
  rcases hA k hk with hk | hk
  · exact h.2.2 k hk
  · omega
theorem NewO.rd (h : NewO w w1 e sz A m c xs) : Rd w1 A xs := h.1.rd
theorem NewO.back {w0 : World} (h : NewO w w1 e sz A m c xs) (hb : Below w0.heap.size w0 w) : NewO w0 w1 e sz A m c xs := ⟨h.1, hb.trans (h.2.1.mono hb.size), fun k hk => Nat.le_trans hb.size (h.2.2 k hk)⟩
end

/-- an address at a place of a block -/
def Flat (A : Option Addr) : Prop := ∀ ad, A = some ad → ∃ g o, ad = ⟨g, o, none⟩
theorem RowO.flat {w : World} {e : TypeId} {sz : Nat} {A : Option Addr} {m c : Nat} {xs : List Value} (h : RowO w e sz A m c xs) : Flat A := fun ad e' => by
  rcases h.2 with ⟨h1, _⟩ | ⟨g, o, _, h1, _⟩
  · rw [h1] at e'; cases e'
  · rw [h1] at e'; injection e' with e'; exact ⟨g, o, e'.symm⟩
theorem RowO.addr {w : World} {e : TypeId} {sz : Nat} {A : Option Addr} {m c : Nat} {xs : List Value} (h : RowO w e sz A m c xs) (h0 : 0 < m) : ∃ g o, A = some ⟨g, o, none⟩ := by
  rcases h.2 with ⟨_, h1, _⟩ | ⟨g, o, _, h1, _⟩
  · omega
  · exact ⟨g, o, h1⟩
theorem RowO.free {w : World} {e : TypeId} {sz : Nat} {g o m c : Nat} {xs : List Value} (h : RowO w e sz (some ⟨g, o, none⟩) m c xs) (j : Nat) : w.frozen? ⟨g, j, none⟩ = false := by
  rcases h.2 with ⟨h1, _⟩ | ⟨g', o', cs, h1, h2, h3, h4, h5, h6⟩
  · cases h1
  · injection h1 with h1
    injection h1 with h1 h1' _
    subst h1 h1'
    exact h4.free j
theorem RowO.set {w : World} {e : TypeId} {sz : Nat} {g o m c : Nat} {xs : List Value} (h : RowO w e sz (some ⟨g, o, none⟩) m c xs) (j : Nat) (hj : j < xs.length) (u : Value) : RowO (w.setCell ⟨g, o + j, none⟩ u) e sz (some ⟨g, o, none⟩) m c (xs.set j u) := by
  refine ⟨by rw [List.length_set]; exact h.1, ?_⟩
  rcases h.2 with ⟨h1, _⟩ | ⟨g', o', cs, h1, h2, h3, h4, h5, h6⟩
  · cases h1
  · injection h1 with h1
    injection h1 with h1 h1' _
    subst h1 h1'
    refine .inr ⟨g, o, cs.setIfInBounds (o + j) u, rfl, h2, h3, h4.put (o + j) u, by simpa using h5, fun i v hv => ?_⟩
    rw [List.getElem?_set] at hv
    split at hv
    · rename_i hij
      subst hij
      have hlt : o + j < cs.size := by
        have := h6 j _ (List.getElem?_eq_getElem hj)
        exact (Array.getElem?_eq_some_iff.1 this).1
      rw [Array.getElem?_setIfInBounds_self_of_lt hlt]; exact hv
    · rename_i hij
      rw [Array.getElem?_setIfInBounds_ne (by omega)]
      exact h6 i v hv
theorem NewO.set {w w1 : World} {e : TypeId} {sz : Nat} {g o m c : Nat} {xs : List Value} (h : NewO w w1 e sz (some ⟨g, o, none⟩) m c xs) (j : Nat) (hj : j < xs.length) (u : Value) : NewO w (w1.setCell ⟨g, o + j, none⟩ u) e sz (some ⟨g, o, none⟩) m c (xs.set j u) :=
  ⟨h.1.set j hj u, ⟨h.2.1.os, h.2.1.tape, h.2.1.output, by simpa [World.setCell] using h.2.1.size, fun i hi => (Below.heap_setCell w1 ⟨g, o + j, none⟩ u i (by
    have := h.2.2 g ((inA_some _ _ _ _).2 rfl)
    show i ≠ g
    omega)).trans (h.2.1.block i hi)⟩, h.2.2⟩

theorem ext2 (w : World) (a b : Obj) : Below w.heap.size w ((w.alloc a).alloc b) := ((Below.refl _ _).alloc (Nat.le_refl _) _).alloc (by simp) _
theorem ext_alloc {a w : World} (h : Below a.heap.size a w) (o : Obj) : Below a.heap.size a (w.alloc o) := h.alloc h.size o
theorem ext_drew {a w : World} (h : Below a.heap.size a w) : Below a.heap.size a w.drew := ext_drewN h 1
theorem cell_only {S : Nat → Prop} {w w' : World} {p : Addr} {v : Value} (h : w.cell? p = some v) (ho : Only S w w') (hn : ¬ S p.block) : w'.cell? p = some v :=
  (World.cell?_of_block (ho.block _ (World.block_lt_of_cell? w _ h) hn)).trans h
theorem take_snoc {α : Type} (l : List α) (k : Nat) (h : k < l.length) : l.take (k + 1) = l.take k ++ [l[k]] := by
  rw [List.take_add_one, List.getElem?_eq_getElem h]; rfl
/-- append of one element onto a row that was made anew -/
theorem wpList_app_new {P : Program} {w : World} {ops : Array Oper} {rest : List Oper} {o : Oper} {a : Act} {Q : Exit → Act → World → Prop} (hgd : o.guard = none) (s x : Operand) (t : TypeId)
    (ho : o.op = .call { callee := .builtin .append, args := #[s, x], argTypes := #[t, t] })
    (e : TypeId) (z : Value) (sz bytes : Nat) (ht : P.underlying t = some (.slice e)) (hi : (P.info? e).map (fun i => (i.zero, i.size, i.bytes)) = some (some z, sz, bytes)) (hzs : z.cells.size = sz)
    {w0 wr : World} (A : Option Addr) (n c : Nat) (xs : List Value) (hN : NewO w0 wr e sz A n c xs) (hb : Below wr.heap.size wr w) (hs : a.eval s = .slice A n c)
    (ad : Addr) (c2 : Nat) (news : List Value) (hx : a.eval x = .slice (some ad) 1 c2) (hm : news.length = 1 * sz) (hr : Rd w (some ad) news) (h1 : ∀ u ∈ news, u.oneCell' = true)
    (h63 : n + 1 ≤ maxLen) (hbytes : (n + 1) * bytes ≤ 140737488355328)
    (h : ∀ A' c' w', NewO w0 w' e sz A' (n + 1) c' (xs ++ news) → Below w0.heap.size w0 w' → wpList P ops Q rest (a.put o.dst (.slice A' (n + 1) c')) w') : wpList P ops Q (o :: rest) a w :=
  wpList_appO w hgd s x t ho e z sz bytes ht hi hzs A n c xs hs (hN.row.ext hb) (some ad) 1 c2 news hx hm hr h1 (fun h => by cases h) h63 hbytes fun A' c' w' hr' ho' hA' => by
    have h2 := hN.grow hb hr' ho' hA'
    exact h A' c' w' h2 h2.bel
end Go.Proofs.Ytbigdkkjajlekaa

/-
  Texts of bytes as values. No statement of the seat is proved here.
-/
namespace Go.Proofs.Ytbigdkkjajlekaa
open Go Go.RowKit

/-- a text of these bytes -/
def strV (bs : List UInt8) : Value := .string ⟨bs.toArray⟩
theorem strV_inj {a b : List UInt8} : (⟨a.toArray⟩ : ByteArray) = ⟨b.toArray⟩ ↔ a = b := ⟨fun h => by injection h with h; simpa using h, fun h => by rw [h]⟩
end Go.Proofs.Ytbigdkkjajlekaa

/-
  Parts and tokens in memory: rows of two cells each. No statement of the seat is proved here.
-/
namespace Go.Proofs.Ytbigdkkjajlekaa
open Go Go.RowKit
set_option maxRecDepth 100000

def encP (p : Prt) : List Value := [.bool p.any, strV p.text]
def encT (t : Tok) : List Value := [.int .i64 t.kind, strV t.text]
def cellsP (l : List Prt) : List Value := l.flatMap encP
def cellsT (l : List Tok) : List Value := l.flatMap encT
theorem flat_at {β : Type} (enc : β → List Value) (sz : Nat) (h : ∀ b, (enc b).length = sz) : ∀ (l : List β) (k j : Nat) (hk : k < l.length), j < sz → (l.flatMap enc)[k * sz + j]? = (enc l[k])[j]?
  | a :: r, 0, j, hk, hj => by
    rw [List.flatMap_cons, List.getElem?_append_left (by rw [h]; omega)]
    simp
  | a :: r, k + 1, j, hk, hj => by
    simp only [List.length_cons] at hk
    rw [List.flatMap_cons, List.getElem?_append_right (by rw [h, Nat.add_mul]; omega), h, show (k + 1) * sz + j - sz = k * sz + j by rw [Nat.add_mul]; omega]
    rw [flat_at enc sz h r k j (by omega) hj]
    rfl
theorem flat_len {β : Type} (enc : β → List Value) (sz : Nat) (h : ∀ b, (enc b).length = sz) (l : List β) : (l.flatMap enc).length = l.length * sz := by
  induction l with
  | nil => simp
  | cons a r ih => rw [List.flatMap_cons, List.length_append, h, ih, List.length_cons, Nat.add_mul]; omega
theorem cellsP_len (l : List Prt) : (cellsP l).length = l.length * 2 := flat_len encP 2 (fun _ => rfl) l
theorem cellsT_len (l : List Tok) : (cellsT l).length = l.length * 2 := flat_len encT 2 (fun _ => rfl) l
theorem cellsP_snoc (l : List Prt) (p : Prt) : cellsP (l ++ [p]) = cellsP l ++ encP p := by unfold cellsP; rw [List.flatMap_append]; simp
theorem cellsP_one (l : List Prt) : ∀ u ∈ cellsP l, u.oneCell' = true := fun u hu => by
  obtain ⟨p, _, hp⟩ := List.mem_flatMap.1 hu
  simp only [encP, List.mem_cons, List.not_mem_nil, or_false] at hp
  rcases hp with rfl | rfl <;> rfl

/-- parts lie from an address on -/
structure PartsAt (w : World) (A : Option Addr) (l : List Prt) : Prop where
  rd : Rd w A (cellsP l)
  flat : l ≠ [] → Flat A
structure ToksAt (w : World) (A : Option Addr) (l : List Tok) : Prop where
  rd : Rd w A (cellsT l)
  flat : l ≠ [] → Flat A
section
variable {w w' : World} {A : Option Addr} {l : List Prt} {ts : List Tok}
theorem PartsAt.ext (h : PartsAt w A l) (hb : Below w.heap.size w w') : PartsAt w' A l := ⟨h.rd.ext hb, h.flat⟩
theorem ToksAt.ext (h : ToksAt w A ts) (hb : Below w.heap.size w w') : ToksAt w' A ts := ⟨h.rd.ext hb, h.flat⟩
theorem PartsAt.at_ (h : PartsAt w A l) {k : Nat} (hk : k < l.length) : ∃ g o, A = some ⟨g, o, none⟩ ∧ w.cell? ⟨g, o + k * 2, none⟩ = some (.bool l[k].any) ∧ w.cell? ⟨g, o + k * 2 + 1, none⟩ = some (strV l[k].text) := by
  have h0 := flat_at encP 2 (fun _ => rfl) l k 0 hk (by omega)
  have h1 := flat_at encP 2 (fun _ => rfl) l k 1 hk (by omega)
  obtain ⟨ad, e, c0⟩ := h.rd (k * 2 + 0) (.bool l[k].any) h0
  obtain ⟨ad', e', c1⟩ := h.rd (k * 2 + 1) (strV l[k].text) h1
  rw [e] at e'; injection e' with e'; subst e'
  obtain ⟨g, o, rfl⟩ := h.flat (by intro hl; rw [hl] at hk; simp at hk) ad e
  rw [Addr.add_mid] at c0 c1
  refine ⟨g, o, e, c0, ?_⟩
  rw [← Nat.add_assoc] at c1
  exact c1
theorem ToksAt.at_ (h : ToksAt w A ts) {k : Nat} (hk : k < ts.length) : ∃ g o, A = some ⟨g, o, none⟩ ∧ w.cell? ⟨g, o + k * 2, none⟩ = some (.int .i64 ts[k].kind) ∧ w.cell? ⟨g, o + k * 2 + 1, none⟩ = some (strV ts[k].text) := by
  have h0 := flat_at encT 2 (fun _ => rfl) ts k 0 hk (by omega)
  have h1 := flat_at encT 2 (fun _ => rfl) ts k 1 hk (by omega)
  obtain ⟨ad, e, c0⟩ := h.rd (k * 2 + 0) (.int .i64 ts[k].kind) h0
  obtain ⟨ad', e', c1⟩ := h.rd (k * 2 + 1) (strV ts[k].text) h1
  rw [e] at e'; injection e' with e'; subst e'
  obtain ⟨g, o, rfl⟩ := h.flat (by intro hl; rw [hl] at hk; simp at hk) ad e
  rw [Addr.add_mid] at c0 c1
  refine ⟨g, o, e, c0, ?_⟩
  rw [← Nat.add_assoc] at c1
  exact c1
theorem parts_new {n c : Nat} (h : NewO w w' 51 2 A n c (cellsP l)) : PartsAt w' A l := ⟨h.rd, fun _ => h.row.flat⟩
end
/-- a row of parts that was made anew -/
def NewP (w w' : World) (A : Option Addr) (c : Nat) (l : List Prt) : Prop := NewO w w' 51 2 A l.length c (cellsP l)
theorem NewP.at_ {w w' : World} {A : Option Addr} {c : Nat} {l : List Prt} (h : NewP w w' A c l) : PartsAt w' A l := parts_new h
theorem NewP.bel {w w' : World} {A : Option Addr} {c : Nat} {l : List Prt} (h : NewP w w' A c l) : Below w.heap.size w w' := NewO.bel h

theorem info_part : (Try.prog.info? 51).map (fun i => (i.zero, i.size, i.bytes)) = some (some (.agg #[.bool false, .string ⟨#[]⟩]), 2, 24) := by kernel_rfl
theorem size_part {ds : Array Value} (h : ds.size = 2) : (Try.prog.info? 51).map (·.size) = some ds.size := by rw [h]; kernel_rfl
def zeroP : Array Value := #[.bool false, .string ⟨#[]⟩]
theorem make_parts (W : World) (n : Nat) (h : n ≤ 1000000) (z : Array Value) (hz : z = zeroP) : (Instr.makeSlice 23 (.int .i64 (n : Int)) (.int .i64 (n : Int))).run Try.prog W =
    .ok (.slice (some ⟨W.heap.size, 0, none⟩) n n) (W.alloc (.cells (madeCells z (n * 2)) 51)) := by
  subst hz
  obtain ⟨i, hi, hz, hsz, hby⟩ := info_parts info_part
  have hr := run_make (P := Try.prog) W 23 51 i _ Try.underlying23 hi hz .i64 .i64 (n : Int) (n : Int) (by omega) (by omega) (by rw [hby]; omega) (by omega)
  simp only [Int.toNat_natCast, hsz] at hr
  exact hr
/-- block 'g' holds these parts, and room for more: 'n' in all -/
def FillP (w : World) (g n : Nat) (l : List Prt) : Prop := ∃ cs : Array Value, Blk w g 51 cs ∧ cs.size = n * 2 ∧ ∀ (j : Nat) (u : Value), (cellsP l)[j]? = some u → cs[j]? = some u
section
variable {T : Nat → Prop} {w w' : World} {g n : Nat} {l : List Prt}
theorem FillP.start (w : World) (n : Nat) : FillP (w.alloc (.cells (madeCells zeroP (n * 2)) 51)) w.heap.size n [] :=
  ⟨_, Blk.new _ _ _, by simp [madeCells], fun j u h => by simp [cellsP] at h⟩
theorem FillP.lt (h : FillP w g n l) : g < w.heap.size := by obtain ⟨cs, h1, _⟩ := h; exact h1.lt
theorem FillP.ext (h : FillP w g n l) (hb : Below w.heap.size w w') : FillP w' g n l := by
  obtain ⟨cs, h1, h2, h3⟩ := h
  exact ⟨cs, h1.ext hb, h2, h3⟩
theorem FillP.put {x : Prt} (h : FillP w g n l) (hl : l.length < n) : FillP (w.setCells g (l.length * 2) (encP x)) g n (l ++ [x]) := by
  obtain ⟨cs, h1, h2, h3⟩ := h
  obtain ⟨cs', k1, k2, k3, k4⟩ := Blk.setCells (encP x) (l.length * 2) h1 (by rw [h2]; show l.length * 2 + 2 ≤ _; omega)
  refine ⟨cs', k1, k2.trans h2, fun j u hu => ?_⟩
  rw [cellsP_snoc, List.getElem?_append, cellsP_len] at hu
  split at hu
  · rename_i hj
    rw [k4 j (.inl hj)]
    exact h3 j u hu
  · rename_i hj
    have := k3 _ u hu
    rwa [show l.length * 2 + (j - l.length * 2) = j by omega] at this
theorem FillP.whole (h : FillP w g n l) (hl : l.length = n) (hm : n ≤ maxLen) (w0 : World) (hb : Below w0.heap.size w0 w) (hg : w0.heap.size ≤ g) : NewP w0 w (some ⟨g, 0, none⟩) n l := by
  obtain ⟨cs, h1, h2, h3⟩ := h
  subst hl
  refine ⟨⟨cellsP_len l, .inr ⟨g, 0, cs, rfl, Nat.le_refl _, hm, h1, by omega, fun j u hu => by rw [Nat.zero_add]; exact h3 j u hu⟩⟩, hb, fun k hk => ?_⟩
  rw [inA_some] at hk
  omega
end
theorem wpList_store_part {ops : Array Oper} {rest : List Oper} {op : Oper} {a : Act} {w : World} {Q : Exit → Act → World → Prop} (hgd : op.guard = none) (x y : Operand) (ho : op.op = .store 51 x y)
    (g o : Nat) (hx : a.eval x = .pointer (some ⟨g, o, none⟩)) {p : Prt} (hy : a.eval y = .agg #[.bool p.any, strV p.text])
    {n : Nat} {l : List Prt} (hF : FillP w g n l) (hoo : o = l.length * 2) (hl : l.length < n)
    (h : ∀ w', FillP w' g n (l ++ [p]) → Only (fun k => k = g) w w' → wpList Try.prog ops Q rest (a.put op.dst undef) w') : wpList Try.prog ops Q (op :: rest) a w := by
  subst hoo
  refine wpList_store_mid hgd 51 x y ho g _ #[.bool p.any, strV p.text] hx hy ?_ (size_part rfl) (by simp [Value.oneCell', strV]) (h _ (hF.put hl) ((Only.refl (fun k => k = g) w).setCells (.inl rfl) _ _))
  obtain ⟨cs, h2, h3, _⟩ := hF
  exact h2.there _ _ (by rw [h3]; show l.length * 2 + 2 ≤ _; omega)
theorem wpList_store_part2 {ops : Array Oper} {rest : List Oper} {op : Oper} {a : Act} {w : World} {Q : Exit → Act → World → Prop} (hgd : op.guard = none) (x y : Operand) (ho : op.op = .store 51 x y)
    (g o : Nat) (hx : a.eval x = .pointer (some ⟨g, o, none⟩)) {p : Prt} {b : Bool} {Z : ByteArray} (hy : a.eval y = .agg #[.bool b, .string Z]) (hp : encP p = [.bool b, .string Z])
    {n : Nat} {l : List Prt} (hF : FillP w g n l) (hoo : o = l.length * 2) (hl : l.length < n)
    (h : ∀ w', FillP w' g n (l ++ [p]) → Only (fun k => k = g) w w' → wpList Try.prog ops Q rest (a.put op.dst undef) w') : wpList Try.prog ops Q (op :: rest) a w := by
  refine wpList_store_part hgd x y ho g o hx (p := p) ?_ hF hoo hl h
  simp only [encP, List.cons.injEq, and_true] at hp
  rw [hy, hp.1, hp.2]
/-- a whole part into a variable -/
theorem wpList_store_pvar {ops : Array Oper} {rest : List Oper} {op : Oper} {a : Act} {w : World} {Q : Exit → Act → World → Prop} (hgd : op.guard = none) (x y : Operand) (ho : op.op = .store 51 x y)
    (g : Nat) (hx : a.eval x = .pointer (some ⟨g, 0, none⟩)) {b : Bool} {Z : ByteArray} (hy : a.eval y = .agg #[.bool b, .string Z]) {cs : Array Value} (hB : Blk w g 51 cs) (hs : cs.size = 2)
    (h : ∀ w', Blk w' g 51 #[.bool b, .string Z] → Only (fun k => k = g) w w' → wpList Try.prog ops Q rest (a.put op.dst undef) w') : wpList Try.prog ops Q (op :: rest) a w := by
  refine wpList_store_mid hgd 51 x y ho g 0 #[.bool b, .string Z] hx hy (hB.there 0 _ (by rw [hs]; show 0 + 2 ≤ 2; omega)) (size_part rfl) (by simp [Value.oneCell']) (h _ ?_ ((Only.refl (fun k => k = g) w).setCells (.inl rfl) _ _))
  have := hB.whole [.bool b, .string Z] (by rw [hs]; rfl)
  simpa using this
/-- two texts are one, or not, as a walk spells it -/
theorem str_cases (xs ys : List UInt8) : ∃ Y Z : ByteArray, strV xs = .string Y ∧ strV ys = .string Z ∧ ((xs = ys ∧ Y = Z) ∨ (xs ≠ ys ∧ (Y.toList == Z.toList) = false)) := by
  refine ⟨_, _, rfl, rfl, ?_⟩
  by_cases h : xs = ys
  · exact .inl ⟨h, by rw [h]⟩
  · refine .inr ⟨h, ?_⟩
    rw [beq_eq_false_iff_ne, ByteArray.toList_mk, ByteArray.toList_mk]
    exact h
theorem str_hide (xs : List UInt8) : ∃ Z : ByteArray, strV xs = .string Z ∧ Z.size = xs.length := ⟨_, rfl, by simp [ByteArray.size]⟩
theorem ret_bool {a b : Bool} (h : a = b) : Ending.returned (.bool a) = .returned (.bool b) := by rw [h]
theorem ret_i64 {a b : Int} (h : a = b) : Ending.returned (.int .i64 a) = .returned (.int .i64 b) := by rw [h]
end Go.Proofs.Ytbigdkkjajlekaa

/-
  The contracts of the laws' helpers wide and long. No statement of the seat is proved here.
-/
namespace Go.Proofs.Ytbigdkkjajlekaa
open Go Go.RowKit
set_option maxRecDepth 100000

set_option maxHeartbeats 1000000 in
theorem wide_any (A : Option Addr) (n c : Nat) (l : List Prt) (w : World) (hn : n = l.length) (h : PartsAt w A l) (hs : ∀ p ∈ l, p.text.length ≤ 140737488355328) (hl : l.length ≤ 140737488355328) :
    Calls Try.prog 8 #[.slice A n c] w fun e w' => e = .returned (.bool (wideB l)) ∧ w' = w := by
  subst hn
  have hli : (l.length : Int) ≤ 140737488355328 := by omega
  go_enter Try.func8, Try.ntmps8
  go_wp2
  go_loop [3, 4] (fun s i => ∃ k m : Nat, k ≤ l.length ∧ m ≤ 1500 ∧ i = .int .i64 (k : Int) ∧ s = .int .i64 (m : Int) ∧ Hid (m = sumP l k)) (fun _ i => l.length - (intOf i).toNat)
  case atStart => exact ⟨0, 0, Nat.zero_le _, Nat.zero_le _, rfl, rfl, Lib.hid (by simp [sumP])⟩
  case round =>
    obtain ⟨k, m, hk, hm, rfl, rfl, Hm⟩ := hrel
    by_cases hlt : k < l.length
    · obtain ⟨g, o, rfl, c0, c1⟩ := h.at_ hlt
      obtain ⟨Z, hZ, hz⟩ := str_hide l[k].text
      rw [hZ] at c1
      clear hZ c0
      have hz1 : Z.size ≤ 140737488355328 := by rw [hz]; exact hs _ (List.getElem_mem _)
      have Hs := Lib.hid (sumP_succ l k hlt)
      have Hz := Lib.hid hz
      clear hz
      have hki : (k : Int) < (l.length : Int) := by omega
      by_cases hg : 1500 < m + 1 + Z.size
      · have hgi : (1500 : Int) < (m : Int) + 1 + (Z.size : Int) := by omega
        have hb : true = wideB l := (decide_eq_true (by
          have h1 := sumP_mono l (k + 1)
          have h2 := Hs.out; have h3 := Hm.out; have h4 := Hz.out
          omega)).symm
        have Hb := Lib.hid hb
        clear hb
        go_wp2
        go_ret
        exact ⟨ret_bool Hb.out, rfl⟩
      · have hgi : ¬ (1500 : Int) < (m : Int) + 1 + (Z.size : Int) := by omega
        go_wp2
        go_round
        case rel => exact ⟨k + 1, m + 1 + Z.size, by omega, by omega, by go_num, by go_num, Lib.hid (by have h2 := Hs.out; have h3 := Hm.out; have h4 := Hz.out; omega)⟩
        case measure => simp [intOf]; omega
    · obtain rfl : k = l.length := by omega
      have hb : false = wideB l := (decide_eq_false (by have h3 := Hm.out; omega)).symm
      have Hb := Lib.hid hb
      clear hb
      go_wp2
      go_ret
      exact ⟨ret_bool Hb.out, rfl⟩

set_option maxHeartbeats 1000000 in
theorem long_any (A : Option Addr) (n c : Nat) (l : List Tok) (w : World) (hn : n = l.length) (h : ToksAt w A l) (hs : ∀ p ∈ l, p.text.length ≤ 140737488355328) (hl : l.length ≤ 140737488355328) :
    Calls Try.prog 9 #[.slice A n c] w fun e w' => e = .returned (.bool (longB l)) ∧ w' = w := by
  subst hn
  have hli : (l.length : Int) ≤ 140737488355328 := by omega
  go_enter Try.func9, Try.ntmps9
  go_wp2
  go_loop [3, 4] (fun s i => ∃ k m : Nat, k ≤ l.length ∧ m ≤ 1500 ∧ i = .int .i64 (k : Int) ∧ s = .int .i64 (m : Int) ∧ Hid (m = sumT l k)) (fun _ i => l.length - (intOf i).toNat)
  case atStart => exact ⟨0, 0, Nat.zero_le _, Nat.zero_le _, rfl, rfl, Lib.hid (by simp [sumT])⟩
  case round =>
    obtain ⟨k, m, hk, hm, rfl, rfl, Hm⟩ := hrel
    by_cases hlt : k < l.length
    · obtain ⟨g, o, rfl, c0, c1⟩ := h.at_ hlt
      obtain ⟨Z, hZ, hz⟩ := str_hide l[k].text
      rw [hZ] at c1
      clear hZ c0
      have hz1 : Z.size ≤ 140737488355328 := by rw [hz]; exact hs _ (List.getElem_mem _)
      have Hs := Lib.hid (sumT_succ l k hlt)
      have Hz := Lib.hid hz
      clear hz
      have hki : (k : Int) < (l.length : Int) := by omega
      by_cases hg : 1500 < m + 1 + Z.size
      · have hgi : (1500 : Int) < (m : Int) + 1 + (Z.size : Int) := by omega
        have hb : true = longB l := (decide_eq_true (by
          have h1 := sumT_mono l (k + 1)
          have h2 := Hs.out; have h3 := Hm.out; have h4 := Hz.out
          omega)).symm
        have Hb := Lib.hid hb
        clear hb
        go_wp2
        go_ret
        exact ⟨ret_bool Hb.out, rfl⟩
      · have hgi : ¬ (1500 : Int) < (m : Int) + 1 + (Z.size : Int) := by omega
        go_wp2
        go_round
        case rel => exact ⟨k + 1, m + 1 + Z.size, by omega, by omega, by go_num, by go_num, Lib.hid (by have h2 := Hs.out; have h3 := Hm.out; have h4 := Hz.out; omega)⟩
        case measure => simp [intOf]; omega
    · obtain rfl : k = l.length := by omega
      have hb : false = longB l := (decide_eq_false (by have h3 := Hm.out; omega)).symm
      have Hb := Lib.hid hb
      clear hb
      go_wp2
      go_ret
      exact ⟨ret_bool Hb.out, rfl⟩
end Go.Proofs.Ytbigdkkjajlekaa

/-
  The contracts of Wild, Alike, Same, Fits, the program's and the reference's. No statement of the seat is proved here.
-/
namespace Go.Proofs.Ytbigdkkjajlekaa
open Go Go.RowKit
set_option maxRecDepth 100000

set_option maxHeartbeats 1000000 in
theorem wild_any (A : Option Addr) (n c : Nat) (l : List Prt) (w : World) (hn : n = l.length) (h : PartsAt w A l) (hl : l.length ≤ 1000000) :
    Calls Try.prog 21 #[.slice A n c] w fun e w' => e = .returned (.int .i64 (wildN l : Int)) ∧ Below w.heap.size w w' := by
  subst hn
  have hli : (l.length : Int) ≤ 1000000 := by omega
  go_enter Try.func21, Try.ntmps21
  go_wp2
  go_loopw [3, 8] (fun s i wr => ∃ k m : Nat, k ≤ l.length ∧ m ≤ k ∧ i = .int .i64 (k : Int) ∧ s = .int .i64 (m : Int) ∧ Hid (m = wildTo l k) ∧ Hid (Below w.heap.size w wr)) (fun _ i _ => l.length - (intOf i).toNat)
  case atStart => exact ⟨0, 0, Nat.zero_le _, Nat.zero_le _, rfl, rfl, Lib.hid (by simp [wildTo, wildN]), Lib.hid (Below.refl _ _)⟩
  case round =>
    obtain ⟨k, m, hk, hm, rfl, rfl, Hm, Hb⟩ := hrel
    by_cases hlt : k < l.length
    · obtain ⟨g, o, rfl, c0, c1⟩ := (h.ext Hb.out).at_ hlt
      obtain ⟨Z, hZ, hz⟩ := str_hide l[k].text
      rw [hZ] at c1
      clear hZ hz
      have Hs := Lib.hid (wildTo_succ l k hlt)
      have hki : (k : Int) < (l.length : Int) := by omega
      cases hA : l[k].any
      · rw [hA] at c0
        have HA := Lib.hid hA
        clear hA
        go_wp2
        go_roundw
        case rel => exact ⟨k + 1, m, by omega, by omega, by go_num, by go_num, Lib.hid (by rw [Hs.out, HA.out, Hm.out]; rfl), Lib.hid (by first | exact ext_alloc Hb.out _ | exact Hb.out)⟩
        case measure => simp [intOf]; omega
      · rw [hA] at c0
        have HA := Lib.hid hA
        clear hA
        go_wp2
        go_roundw
        case rel => exact ⟨k + 1, m + 1, by omega, by omega, by go_num, by go_num, Lib.hid (by rw [Hs.out, HA.out, Hm.out]; rfl), Lib.hid (by first | exact ext_alloc Hb.out _ | exact Hb.out)⟩
        case measure => simp [intOf]; omega
    · obtain rfl : k = l.length := by omega
      have hb : (m : Int) = (wildN l : Int) := by rw [Hm.out, wildTo_all]
      have HB := Lib.hid hb
      clear hb
      go_wp2
      go_ret
      exact ⟨ret_i64 HB.out, Hb.out⟩

set_option maxHeartbeats 1000000 in
theorem rwild_any (A : Option Addr) (n c : Nat) (l : List Prt) (w : World) (hn : n = l.length) (h : PartsAt w A l) (hl : l.length ≤ 1000000) :
    Calls Try.prog 22 #[.slice A n c] w fun e w' => e = .returned (.int .i64 (wildN l : Int)) ∧ Below w.heap.size w w' := by
  subst hn
  have hli : (l.length : Int) ≤ 1000000 := by omega
  go_enter Try.func22, Try.ntmps22
  go_wp2
  go_loopw [3, 4] (fun s i wr => ∃ k m : Nat, k ≤ l.length ∧ m ≤ k ∧ i = .int .i64 (k : Int) ∧ s = .int .i64 (m : Int) ∧ Hid (m = wildTo l k) ∧ Hid (Below w.heap.size w wr)) (fun _ i _ => l.length - (intOf i).toNat)
  case atStart => exact ⟨0, 0, Nat.zero_le _, Nat.zero_le _, rfl, rfl, Lib.hid (by simp [wildTo, wildN]), Lib.hid (Below.refl _ _)⟩
  case round =>
    obtain ⟨k, m, hk, hm, rfl, rfl, Hm, Hb⟩ := hrel
    by_cases hlt : k < l.length
    · obtain ⟨g, o, rfl, c0, c1⟩ := (h.ext Hb.out).at_ hlt
      obtain ⟨Z, hZ, hz⟩ := str_hide l[k].text
      rw [hZ] at c1
      clear hZ hz
      have Hs := Lib.hid (wildTo_succ l k hlt)
      have hki : (k : Int) < (l.length : Int) := by omega
      cases hA : l[k].any
      · rw [hA] at c0
        have HA := Lib.hid hA
        clear hA
        go_wp2
        go_roundw
        case rel => exact ⟨k + 1, m, by omega, by omega, by go_num, by go_num, Lib.hid (by rw [Hs.out, HA.out, Hm.out]; rfl), Lib.hid (by first | exact ext_alloc Hb.out _ | exact Hb.out)⟩
        case measure => simp [intOf]; omega
      · rw [hA] at c0
        have HA := Lib.hid hA
        clear hA
        go_wp2
        go_roundw
        case rel => exact ⟨k + 1, m + 1, by omega, by omega, by go_num, by go_num, Lib.hid (by rw [Hs.out, HA.out, Hm.out]; rfl), Lib.hid (by first | exact ext_alloc Hb.out _ | exact Hb.out)⟩
        case measure => simp [intOf]; omega
    · obtain rfl : k = l.length := by omega
      have hb : (m : Int) = (wildN l : Int) := by rw [Hm.out, wildTo_all]
      have HB := Lib.hid hb
      clear hb
      go_wp2
      go_ret
      exact ⟨ret_i64 HB.out, Hb.out⟩
end Go.Proofs.Ytbigdkkjajlekaa

/-
  The contracts of Alike, Fits, Same, the program's and the reference's; the laws' texts. No statement of the seat is proved here.
-/
namespace Go.Proofs.Ytbigdkkjajlekaa
open Go Go.RowKit
set_option maxRecDepth 100000
theorem fitB_any {p : Prt} {t : Tok} (h : p.any = true) : fitB p t = true := by simp [fitB, h]
theorem fitB_no {p : Prt} {t : Tok} (h : p.any = false) : fitB p t = decide (p.text = t.text) := by simp [fitB, h]

set_option maxHeartbeats 2000000 in
theorem alike_any (A : Option Addr) (n c : Nat) (l : List Prt) (B : Option Addr) (n2 d : Nat) (ts : List Tok) (w : World) (hn : n = l.length) (hn2 : n2 = ts.length) (h : PartsAt w A l) (h2 : ToksAt w B ts) (hl : l.length ≤ 1000000) (hl2 : ts.length ≤ 1000000) :
    Calls Try.prog 14 #[.slice A n c, .slice B n2 d] w fun e w' => e = .returned (.int .i64 (alikeI l ts)) ∧ Below w.heap.size w w' := by
  subst hn hn2
  have hli : (l.length : Int) ≤ 1000000 := by omega
  have hli2 : (ts.length : Int) ≤ 1000000 := by omega
  by_cases hne : l.length = ts.length
  · have hr : alikeI l ts = (alikeN l ts : Int) := if_pos hne
    rw [hr]
    have Hne := Lib.hid hne
    have hnei : (l.length : Int) = (ts.length : Int) := by omega
    clear hr hne
    go_enter Try.func14, Try.ntmps14
    go_wp2
    have HneI := Lib.hid hnei
    clear hnei
    go_loopw [5, 15] (fun s i wr => ∃ k m : Nat, k ≤ l.length ∧ m ≤ k ∧ i = .int .i64 (k : Int) ∧ s = .int .i64 (m : Int) ∧ Hid (m = alikeTo l ts k) ∧ Hid (Below w.heap.size w wr)) (fun _ i _ => l.length - (intOf i).toNat)
    case atStart => exact ⟨0, 0, Nat.zero_le _, Nat.zero_le _, rfl, rfl, Lib.hid (by simp [alikeTo]), Lib.hid (Below.refl _ _)⟩
    case round =>
      obtain ⟨k, m, hk, hm, rfl, rfl, Hm, Hb⟩ := hrel
      by_cases hlt : k < l.length
      · have hlt2 : k < ts.length := by have := Hne.out; omega
        obtain ⟨g, o, rfl, c0, c1⟩ := (h.ext Hb.out).at_ hlt
        obtain ⟨g2, o2, rfl, c2, c3⟩ := (h2.ext Hb.out).at_ hlt2
        have Hs := Lib.hid (alikeTo_succ l ts k hlt hlt2)
        have hki : (k : Int) < (l.length : Int) := by omega
        have hki2 : (k : Int) < (ts.length : Int) := by omega
        have hk0 : (0 : Int) ≤ (k : Int) := by omega
        clear c2
        obtain ⟨Y, Z, hY, hZ, hc⟩ := str_cases l[k].text ts[k].text
        rw [hY] at c1
        rw [hZ] at c3
        clear hY hZ
        cases hA : l[k].any
        · rw [hA] at c0
          rcases hc with ⟨he, rfl⟩ | ⟨he, hf⟩
          · have HA : Hid (fitB l[k] ts[k] = true) := Lib.hid (by rw [fitB_no hA]; exact decide_eq_true he)
            clear hA he
            have q3 : (wr.alloc (Obj.cells #[.bool false, .string Y] 51)).cell? ⟨g2, o2 + k * 2 + 1, none⟩ = some (.string Y) := (World.cell?_of_block (Below.heap_alloc wr _ g2 (World.block_lt_of_cell? wr _ c3))).trans c3
            go_wp2
            go_quiet (fail)
            go_wp2
            go_roundw
            case rel => exact ⟨k + 1, m + 1, by omega, by omega, by go_num, by go_num, Lib.hid (by rw [Hs.out, HA.out, Hm.out]; rfl), Lib.hid (by first | exact ext_drewN (ext_alloc Hb.out _) _ | exact ext_drewN Hb.out _)⟩
            case measure => simp [intOf]; omega
          · have HA : Hid (fitB l[k] ts[k] = false) := Lib.hid (by rw [fitB_no hA]; exact decide_eq_false he)
            clear hA he
            have q3 : (wr.alloc (Obj.cells #[.bool false, .string Y] 51)).cell? ⟨g2, o2 + k * 2 + 1, none⟩ = some (.string Z) := (World.cell?_of_block (Below.heap_alloc wr _ g2 (World.block_lt_of_cell? wr _ c3))).trans c3
            go_wp2
            go_quiet (fail)
            go_wp2
            go_roundw
            case rel => exact ⟨k + 1, m + 0, by omega, by omega, by go_num, by go_num, Lib.hid (by rw [Hs.out, HA.out, Hm.out]; rfl), Lib.hid (by first | exact ext_drewN (ext_alloc Hb.out _) _ | exact ext_drewN Hb.out _)⟩
            case measure => simp [intOf]; omega
        · rw [hA] at c0
          have HA : Hid (fitB l[k] ts[k] = true) := Lib.hid (fitB_any hA)
          clear hA hc
          go_wp2
          go_quiet (fail)
          go_wp2
          go_roundw
          case rel => exact ⟨k + 1, m + 1, by omega, by omega, by go_num, by go_num, Lib.hid (by rw [Hs.out, HA.out, Hm.out]; rfl), Lib.hid (by first | exact ext_drewN (ext_alloc Hb.out _) _ | exact ext_drewN Hb.out _)⟩
          case measure => simp [intOf]; omega
      · obtain rfl : k = l.length := by omega
        have hb : (m : Int) = (alikeN l ts : Int) := by rw [Hm.out, alikeTo_all l ts Hne.out]
        have HB := Lib.hid hb
        have hx : ¬ (l.length : Int) < (ts.length : Int) := by have := Hne.out; omega
        clear hb
        go_wp2
        go_ret
        exact ⟨ret_i64 HB.out, Hb.out⟩
  · have hr : alikeI l ts = -1 := if_neg hne
    rw [hr]
    have hnei : ¬ (l.length : Int) = (ts.length : Int) := by omega
    clear hr
    go_enter Try.func14, Try.ntmps14
    go_wp2
    go_ret
    exact ⟨rfl, Below.refl _ _⟩

set_option maxHeartbeats 2000000 in
theorem ralike_any (A : Option Addr) (n c : Nat) (l : List Prt) (B : Option Addr) (n2 d : Nat) (ts : List Tok) (w : World) (hn : n = l.length) (hn2 : n2 = ts.length) (h : PartsAt w A l) (h2 : ToksAt w B ts) (hl : l.length ≤ 1000000) (hl2 : ts.length ≤ 1000000) :
    Calls Try.prog 10 #[.slice A n c, .slice B n2 d] w fun e w' => e = .returned (.int .i64 (alikeI l ts)) ∧ Below w.heap.size w w' := by
  subst hn hn2
  have hli : (l.length : Int) ≤ 1000000 := by omega
  have hli2 : (ts.length : Int) ≤ 1000000 := by omega
  by_cases hne : l.length = ts.length
  · have hr : alikeI l ts = (alikeN l ts : Int) := if_pos hne
    rw [hr]
    have Hne := Lib.hid hne
    have hnei : (l.length : Int) = (ts.length : Int) := by omega
    clear hr hne
    go_enter Try.func10, Try.ntmps10
    go_wp2
    have HneI := Lib.hid hnei
    clear hnei
    go_loopw [5, 6] (fun s i wr => ∃ k m : Nat, k ≤ l.length ∧ m ≤ k ∧ i = .int .i64 (k : Int) ∧ s = .int .i64 (m : Int) ∧ Hid (m = alikeTo l ts k) ∧ Hid (Below w.heap.size w wr)) (fun _ i _ => l.length - (intOf i).toNat)
    case atStart => exact ⟨0, 0, Nat.zero_le _, Nat.zero_le _, rfl, rfl, Lib.hid (by simp [alikeTo]), Lib.hid (Below.refl _ _)⟩
    case round =>
      obtain ⟨k, m, hk, hm, rfl, rfl, Hm, Hb⟩ := hrel
      by_cases hlt : k < l.length
      · have hlt2 : k < ts.length := by have := Hne.out; omega
        obtain ⟨g, o, rfl, c0, c1⟩ := (h.ext Hb.out).at_ hlt
        obtain ⟨g2, o2, rfl, c2, c3⟩ := (h2.ext Hb.out).at_ hlt2
        have Hs := Lib.hid (alikeTo_succ l ts k hlt hlt2)
        have hki : (k : Int) < (l.length : Int) := by omega
        have hki2 : (k : Int) < (ts.length : Int) := by omega
        have hk0 : (0 : Int) ≤ (k : Int) := by omega
        clear c2
        obtain ⟨Y, Z, hY, hZ, hc⟩ := str_cases l[k].text ts[k].text
        rw [hY] at c1
        rw [hZ] at c3
        clear hY hZ
        cases hA : l[k].any
        · rw [hA] at c0
          rcases hc with ⟨he, rfl⟩ | ⟨he, hf⟩
          · have HA : Hid (fitB l[k] ts[k] = true) := Lib.hid (by rw [fitB_no hA]; exact decide_eq_true he)
            clear hA he
            go_wp2
            go_quiet (fail)
            go_wp2
            go_roundw
            case rel => exact ⟨k + 1, m + 1, by omega, by omega, by go_num, by go_num, Lib.hid (by rw [Hs.out, HA.out, Hm.out]; rfl), Lib.hid (by first | exact ext_drewN (ext_alloc Hb.out _) _ | exact ext_drewN Hb.out _)⟩
            case measure => simp [intOf]; omega
          · have HA : Hid (fitB l[k] ts[k] = false) := Lib.hid (by rw [fitB_no hA]; exact decide_eq_false he)
            clear hA he
            go_wp2
            go_quiet (fail)
            go_wp2
            go_roundw
            case rel => exact ⟨k + 1, m + 0, by omega, by omega, by go_num, by go_num, Lib.hid (by rw [Hs.out, HA.out, Hm.out]; rfl), Lib.hid (by first | exact ext_drewN (ext_alloc Hb.out _) _ | exact ext_drewN Hb.out _)⟩
            case measure => simp [intOf]; omega
        · rw [hA] at c0
          have HA : Hid (fitB l[k] ts[k] = true) := Lib.hid (fitB_any hA)
          clear hA hc
          go_wp2
          go_quiet (fail)
          go_wp2
          go_roundw
          case rel => exact ⟨k + 1, m + 1, by omega, by omega, by go_num, by go_num, Lib.hid (by rw [Hs.out, HA.out, Hm.out]; rfl), Lib.hid (by first | exact ext_drewN (ext_alloc Hb.out _) _ | exact ext_drewN Hb.out _)⟩
          case measure => simp [intOf]; omega
      · obtain rfl : k = l.length := by omega
        have hb : (m : Int) = (alikeN l ts : Int) := by rw [Hm.out, alikeTo_all l ts Hne.out]
        have HB := Lib.hid hb
        have hx : ¬ (l.length : Int) < (ts.length : Int) := by have := Hne.out; omega
        clear hb
        go_wp2
        go_ret
        exact ⟨ret_i64 HB.out, Hb.out⟩
  · have hr : alikeI l ts = -1 := if_neg hne
    rw [hr]
    have hnei : ¬ (l.length : Int) = (ts.length : Int) := by omega
    clear hr
    go_enter Try.func10, Try.ntmps10
    go_wp2
    go_ret
    exact ⟨rfl, Below.refl _ _⟩
end Go.Proofs.Ytbigdkkjajlekaa

/-
  The contracts of Same (and slices.Equal below it), the reference's Same, Fits; the laws' texts. No statement of the seat is proved here.
-/
namespace Go.Proofs.Ytbigdkkjajlekaa
open Go Go.RowKit
set_option maxRecDepth 100000
theorem prt_eq {p q : Prt} (h1 : p.any = q.any) (h2 : p.text = q.text) : p = q := by cases p; cases q; simp_all
/-- what an equality of lists tells -/
def SaysEq (b : Bool) (w : World) (e : Ending) (w' : World) : Prop := e = .returned (.bool b) ∧ Below w.heap.size w w'

set_option maxHeartbeats 2000000 in
theorem equal_any (A : Option Addr) (n c : Nat) (l : List Prt) (B : Option Addr) (n2 d : Nat) (m : List Prt) (w : World) (hn : n = l.length) (hn2 : n2 = m.length) (h : PartsAt w A l) (h2 : PartsAt w B m) (hl : l.length ≤ 1000000) (hl2 : m.length ≤ 1000000) :
    Calls Try.prog 30 #[.slice A n c, .slice B n2 d] w (SaysEq (decide (l = m)) w) := by
  subst hn hn2
  have hli : (l.length : Int) ≤ 1000000 := by omega
  have hli2 : (m.length : Int) ≤ 1000000 := by omega
  by_cases hne : l.length = m.length
  · have Hne := Lib.hid hne
    rw [← hne]
    clear hne hl2 hli2
    go_enter Try.func30, Try.ntmps30
    go_wp2
    go_loopw [13] (fun i wr => ∃ k : Nat, k ≤ l.length ∧ i = .int .i64 (k : Int) ∧ Hid (l.take k = m.take k) ∧ Hid (Below w.heap.size w wr)) (fun i _ => l.length - (intOf i).toNat)
    case atStart => exact ⟨0, Nat.zero_le _, rfl, Lib.hid (by simp), Lib.hid (Below.refl _ _)⟩
    case round =>
      obtain ⟨k, hk, rfl, Heq, Hb⟩ := hrel
      by_cases hlt : k < l.length
      · have hlt2 : k < m.length := by have := Hne.out; omega
        obtain ⟨g, o, rfl, c0, c1⟩ := (h.ext Hb.out).at_ hlt
        obtain ⟨g2, o2, rfl, c2, c3⟩ := (h2.ext Hb.out).at_ hlt2
        have hki : (k : Int) < (l.length : Int) := by omega
        have hki2 : (k : Int) < (m.length : Int) := by omega
        have hk0 : (0 : Int) ≤ (k : Int) := by omega
        have hdif : l[k] ≠ m[k] → false = decide (l = m) := fun hx => (decide_eq_false (fun h => hx (by simp only [h]))).symm
        have Hdif := Lib.hid hdif
        clear hdif
        obtain ⟨Y, Z, hY, hZ, hc⟩ := str_cases l[k].text m[k].text
        rw [hY] at c1
        rw [hZ] at c3
        clear hY hZ
        by_cases hAB : l[k].any = m[k].any
        · rcases hc with ⟨he, rfl⟩ | ⟨he, hf⟩
          · have HE : Hid (l[k] = m[k]) := Lib.hid (prt_eq hAB he)
            rw [← hAB] at c2
            clear hAB he
            cases hA : l[k].any <;> rw [hA] at c0 c2 <;> clear hA
            all_goals
              go_wp2
              go_quiet (fail)
              go_wp2
              go_roundw
              case rel => exact ⟨k + 1, by omega, by go_num, Lib.hid (by rw [take_snoc' _ _ hlt, take_snoc' _ _ hlt2, Heq.out, HE.out]), Lib.hid (ext_drewN Hb.out _)⟩
              case measure => simp [intOf]; omega
          · have HD : Hid (false = decide (l = m)) := Lib.hid (Hdif.out (fun e => he (by rw [e])))
            rw [← hAB] at c2
            clear hAB he
            cases hA : l[k].any <;> rw [hA] at c0 c2 <;> clear hA
            all_goals
              go_wp2
              go_quiet (fail)
              go_wp2
              go_ret
              exact ⟨ret_bool HD.out, ext_drewN Hb.out _⟩
        · have HD : Hid (false = decide (l = m)) := Lib.hid (Hdif.out (fun e => hAB (by rw [e])))
          clear hc
          cases hA : l[k].any <;> cases hB : m[k].any
          · exact absurd (hA.trans hB.symm) hAB
          · rw [hA] at c0
            rw [hB] at c2
            clear hA hB hAB
            go_wp2
            go_quiet (fail)
            go_wp2
            go_ret
            exact ⟨ret_bool HD.out, ext_drewN Hb.out _⟩
          · rw [hA] at c0
            rw [hB] at c2
            clear hA hB hAB
            go_wp2
            go_quiet (fail)
            go_wp2
            go_ret
            exact ⟨ret_bool HD.out, ext_drewN Hb.out _⟩
          · exact absurd (hA.trans hB.symm) hAB
      · obtain rfl : k = l.length := by omega
        have hb : true = decide (l = m) := (decide_eq_true (by have := Heq.out; rwa [List.take_length, Hne.out, List.take_length] at this)).symm
        have HB := Lib.hid hb
        clear hb
        go_wp2
        go_ret
        exact ⟨ret_bool HB.out, Hb.out⟩
  · have hd : false = decide (l = m) := (decide_eq_false (fun h => hne (by rw [h]))).symm
    have hnei : ¬ (l.length : Int) = (m.length : Int) := by omega
    have HD := Lib.hid hd
    clear hd
    go_enter Try.func30, Try.ntmps30
    go_wp2
    go_ret
    exact ⟨ret_bool HD.out, Below.refl _ _⟩

set_option maxHeartbeats 2000000 in
theorem rsame_any (A : Option Addr) (n c : Nat) (l : List Prt) (B : Option Addr) (n2 d : Nat) (m : List Prt) (w : World) (hn : n = l.length) (hn2 : n2 = m.length) (h : PartsAt w A l) (h2 : PartsAt w B m) (hl : l.length ≤ 1000000) (hl2 : m.length ≤ 1000000) :
    Calls Try.prog 11 #[.slice A n c, .slice B n2 d] w (SaysEq (decide (l = m)) w) := by
  subst hn hn2
  have hli : (l.length : Int) ≤ 1000000 := by omega
  have hli2 : (m.length : Int) ≤ 1000000 := by omega
  by_cases hne : l.length = m.length
  · have Hne := Lib.hid hne
    rw [← hne]
    clear hne hl2 hli2
    go_enter Try.func11, Try.ntmps11
    go_wp2
    go_loopw [5] (fun i wr => ∃ k : Nat, k ≤ l.length ∧ i = .int .i64 (k : Int) ∧ Hid (l.take k = m.take k) ∧ Hid (Below w.heap.size w wr)) (fun i _ => l.length - (intOf i).toNat)
    case atStart => exact ⟨0, Nat.zero_le _, rfl, Lib.hid (by simp), Lib.hid (Below.refl _ _)⟩
    case round =>
      obtain ⟨k, hk, rfl, Heq, Hb⟩ := hrel
      by_cases hlt : k < l.length
      · have hlt2 : k < m.length := by have := Hne.out; omega
        obtain ⟨g, o, rfl, c0, c1⟩ := (h.ext Hb.out).at_ hlt
        obtain ⟨g2, o2, rfl, c2, c3⟩ := (h2.ext Hb.out).at_ hlt2
        have hki : (k : Int) < (l.length : Int) := by omega
        have hki2 : (k : Int) < (m.length : Int) := by omega
        have hk0 : (0 : Int) ≤ (k : Int) := by omega
        have hdif : l[k] ≠ m[k] → false = decide (l = m) := fun hx => (decide_eq_false (fun h => hx (by simp only [h]))).symm
        have Hdif := Lib.hid hdif
        clear hdif
        obtain ⟨Y, Z, hY, hZ, hc⟩ := str_cases l[k].text m[k].text
        rw [hY] at c1
        rw [hZ] at c3
        clear hY hZ
        by_cases hAB : l[k].any = m[k].any
        · rcases hc with ⟨he, rfl⟩ | ⟨he, hf⟩
          · have HE : Hid (l[k] = m[k]) := Lib.hid (prt_eq hAB he)
            rw [← hAB] at c2
            clear hAB he
            cases hA : l[k].any <;> rw [hA] at c0 c2 <;> clear hA
            all_goals
              go_wp2
              go_quiet (fail)
              go_wp2
              go_roundw
              case rel => exact ⟨k + 1, by omega, by go_num, Lib.hid (by rw [take_snoc' _ _ hlt, take_snoc' _ _ hlt2, Heq.out, HE.out]), Lib.hid (ext_drewN Hb.out _)⟩
              case measure => simp [intOf]; omega
          · have HD : Hid (false = decide (l = m)) := Lib.hid (Hdif.out (fun e => he (by rw [e])))
            rw [← hAB] at c2
            clear hAB he
            cases hA : l[k].any <;> rw [hA] at c0 c2 <;> clear hA
            all_goals
              go_wp2
              go_quiet (fail)
              go_wp2
              go_ret
              exact ⟨ret_bool HD.out, ext_drewN Hb.out _⟩
        · have HD : Hid (false = decide (l = m)) := Lib.hid (Hdif.out (fun e => hAB (by rw [e])))
          clear hc
          cases hA : l[k].any <;> cases hB : m[k].any
          · exact absurd (hA.trans hB.symm) hAB
          · rw [hA] at c0
            rw [hB] at c2
            clear hA hB hAB
            go_wp2
            go_quiet (fail)
            go_wp2
            go_ret
            exact ⟨ret_bool HD.out, ext_drewN Hb.out _⟩
          · rw [hA] at c0
            rw [hB] at c2
            clear hA hB hAB
            go_wp2
            go_quiet (fail)
            go_wp2
            go_ret
            exact ⟨ret_bool HD.out, ext_drewN Hb.out _⟩
          · exact absurd (hA.trans hB.symm) hAB
      · obtain rfl : k = l.length := by omega
        have hb : true = decide (l = m) := (decide_eq_true (by have := Heq.out; rwa [List.take_length, Hne.out, List.take_length] at this)).symm
        have HB := Lib.hid hb
        clear hb
        go_wp2
        go_ret
        exact ⟨ret_bool HB.out, Hb.out⟩
  · have hd : false = decide (l = m) := (decide_eq_false (fun h => hne (by rw [h]))).symm
    have hnei : ¬ (l.length : Int) = (m.length : Int) := by omega
    have HD := Lib.hid hd
    clear hd
    go_enter Try.func11, Try.ntmps11
    go_wp2
    go_ret
    exact ⟨ret_bool HD.out, Below.refl _ _⟩

theorem same_any (A : Option Addr) (n c : Nat) (l : List Prt) (B : Option Addr) (n2 d : Nat) (m : List Prt) (w : World) (hn : n = l.length) (hn2 : n2 = m.length) (h : PartsAt w A l) (h2 : PartsAt w B m) (hl : l.length ≤ 1000000) (hl2 : m.length ≤ 1000000) :
    Calls Try.prog 23 #[.slice A n c, .slice B n2 d] w (SaysEq (decide (l = m)) w) := by
  subst hn hn2
  have HC := fun W (hb : Below w.heap.size w W) => equal_any A _ c l B _ d m W rfl rfl (h.ext hb) (h2.ext hb) hl hl2
  go_enter Try.func23, Try.ntmps23
  go_wp2_with fail
  refine (HC _ (Below.refl _ _)).mono ?_
  rintro e w1 ⟨rfl, hb⟩
  have Hb := Lib.hid hb
  clear hb
  go_wp2
  go_ret
  exact ⟨rfl, Hb.out⟩
theorem fits_any (A : Option Addr) (n c : Nat) (l : List Prt) (B : Option Addr) (n2 d : Nat) (ts : List Tok) (w : World) (hn : n = l.length) (hn2 : n2 = ts.length) (h : PartsAt w A l) (h2 : ToksAt w B ts) (hl : l.length ≤ 1000000) (hl2 : ts.length ≤ 1000000) :
    Calls Try.prog 15 #[.slice A n c, .slice B n2 d] w (SaysEq (fitsB l ts) w) := by
  by_cases hf : alikeI l ts = (l.length : Int)
  · have HF : Hid (true = fitsB l ts) := Lib.hid (decide_eq_true hf).symm
    subst hn hn2
    have HC := alike_any A _ c l B _ d ts w rfl rfl h h2 hl hl2
    rw [hf] at HC
    clear hf
    go_enter Try.func15, Try.ntmps15
    go_wp2_with fail
    refine HC.mono ?_
    rintro e w1 ⟨rfl, hb⟩
    have Hb := Lib.hid hb
    clear hb
    go_wp2
    go_ret
    exact ⟨ret_bool HF.out, Hb.out⟩
  · have HF : Hid (false = fitsB l ts) := Lib.hid (decide_eq_false hf).symm
    subst hn hn2
    have HC := alike_any A _ c l B _ d ts w rfl rfl h h2 hl hl2
    generalize alikeI l ts = z at hf HC
    go_enter Try.func15, Try.ntmps15
    go_wp2_with fail
    refine HC.mono ?_
    rintro e w1 ⟨rfl, hb⟩
    have Hb := Lib.hid hb
    clear hb
    go_wp2
    go_ret
    exact ⟨ret_bool ((beq_eq_false_iff_ne.2 hf).trans HF.out), Hb.out⟩

theorem rd_str {w : World} {A : Option Addr} {xs : List (List UInt8)} (h : Rd w A (xs.map strV)) {k : Nat} (hk : k < xs.length) : ∃ ad, A = some ad ∧ w.cell? (ad.add k) = some (strV xs[k]) := by
  have := h k (strV xs[k]) (by rw [List.getElem?_map, List.getElem?_eq_getElem hk]; rfl)
  exact this
set_option maxRecDepth 100000 in
set_option maxHeartbeats 2000000 in
theorem texts_any {w : World} (A : Option Addr) (c : Nat) (xs : List (List UInt8)) (hA : Rd w A (xs.map strV)) (B : Option Addr) (d : Nat) (ys : List (List UInt8)) (hB : Rd w B (ys.map strV)) (h1 : xs.length ≤ 1000000) (h2 : ys.length ≤ 1000000) :
    Calls Try.prog 18 #[.slice A xs.length c, .slice B ys.length d] w (SaysEq (decide (xs = ys)) w) := by
  by_cases hl : xs.length = ys.length
  · have hli : (xs.length : Int) = (ys.length : Int) := by omega
    rw [← hl]
    have Hl := Lib.hid hl
    have hn : (xs.length : Int) ≤ 1000000 := by omega
    clear hl hli h2
    go_enter Try.func18, Try.ntmps18
    go_wp2
    go_loopw [5] (fun i wr => ∃ k : Nat, k ≤ xs.length ∧ i = .int .i64 (k : Int) ∧ xs.take k = ys.take k ∧ Below w.heap.size w wr) (fun i _ => xs.length - (intOf i).toNat)
    case atStart => exact ⟨0, Nat.zero_le _, rfl, by simp, Below.refl _ _⟩
    case round =>
      obtain ⟨k, hk, rfl, heq, hb⟩ := hrel
      have Heq := Lib.hid heq
      clear heq
      by_cases hlt : k < xs.length
      · have hlt2 : k < ys.length := by have := Hl.out; omega
        have hki : (k : Int) < (xs.length : Int) := by omega
        obtain ⟨ad, rfl, q1⟩ := rd_str (hA.ext hb) hlt
        obtain ⟨ad2, rfl, q2⟩ := rd_str (hB.ext hb) hlt2
        obtain ⟨Y, Z, e1, e2, hc⟩ := str_cases xs[k] ys[k]
        rw [e1] at q1
        rw [e2] at q2
        clear e1 e2
        have hk2 : (k : Int) < (ys.length : Int) := by omega
        rcases hc with ⟨he, rfl⟩ | ⟨hne, hf⟩
        · have He := Lib.hid he
          clear he
          go_wp2_with fail
          go_quiet (fail)
          go_wp2
          go_roundw
          case rel => exact ⟨k + 1, by omega, by go_num, by rw [List.take_succ_eq_append_getElem hlt, List.take_succ_eq_append_getElem hlt2, Heq.out, He.out], ext_drewN hb _⟩
          case measure => simp [intOf]; omega
        · have hd : decide (xs = ys) = false := decide_eq_false (fun h => hne (by simp only [h]))
          have Hd := Lib.hid hd
          clear hne hd
          go_wp2_with fail
          go_quiet (fail)
          go_wp2
          go_ret
          exact ⟨by rw [Hd.out]; rfl, ext_drewN hb _⟩
      · obtain rfl : k = xs.length := by omega
        have hd : decide (xs = ys) = true := decide_eq_true (by
          have h3 := Heq.out
          rw [List.take_length, Hl.out, List.take_length] at h3
          exact h3)
        have Hd := Lib.hid hd
        clear hd
        go_wp2
        go_ret
        exact ⟨by rw [Hd.out]; rfl, hb⟩
  · have hd : decide (xs = ys) = false := decide_eq_false (fun h => hl (by rw [h]))
    have hli : ¬ (xs.length : Int) = (ys.length : Int) := by omega
    rw [hd]
    clear hd
    go_enter Try.func18, Try.ntmps18
    go_wp2
    go_ret
    exact ⟨rfl, Below.refl _ _⟩

end Go.Proofs.Ytbigdkkjajlekaa

/-
  The contracts of ofOne and Of, the program's and the reference's. No statement of the seat is proved here.
-/
namespace Go.Proofs.Ytbigdkkjajlekaa
open Go Go.RowKit
set_option maxRecDepth 100000

theorem results_part {fn : Func} {t : Tmp} (h : fn.results = #[.cell t 51]) (tmps : Array Value) (w : World) (g : Nat) (e : TypeId) (cs : Array Value) (hc : cs.size = 2)
    (ht : tmps.getD t undef = .pointer (some ⟨g, 0, none⟩)) (hb : Blk w g e cs) : (results fn tmps).run Try.prog w = .ok (.agg cs) w := by
  have hl := run_loadVar_row (P := Try.prog) w g e 51 cs (0, 0) _ hb Try.underlying51 rfl (size_part hc)
  rw [Array.getD_eq_getD_getElem?] at ht
  simp [results, h, ht, asAddr, hl]
theorem blk_at (w : World) (t : TypeId) (cs : Array Value) {g : Nat} (hg : g = w.heap.size) : Blk (w.alloc (.cells cs t)) g t cs := by subst hg; exact Blk.new w t cs
theorem ofT_yes {t : Tok} (h : varies t.kind = true) : ofT t = dot := by unfold ofT; rw [if_pos h]
theorem ofT_no {t : Tok} (h : varies t.kind = false) : ofT t = ⟨false, t.text⟩ := by unfold ofT; rw [if_neg (by rw [h]; decide)]
def partV (p : Prt) : Value := .agg #[.bool p.any, strV p.text]
def SaysPart (p : Prt) (w : World) (e : Ending) (w' : World) : Prop := e = .returned (partV p) ∧ Below w.heap.size w w'

set_option maxHeartbeats 1000000 in
theorem ofone_any (t : Tok) (w : World) :
    Calls Try.prog 28 #[.agg #[.int .i64 t.kind, strV t.text]] w (SaysPart (ofT t) w) := by
  obtain ⟨Z, hZ, -⟩ := str_hide t.text
  by_cases hv : varies t.kind = true
  · have hp : SaysPart dot w = SaysPart (ofT t) w := by rw [ofT_yes hv]
    rw [← hp, hZ]
    have h5 := (varies_iff _).1 hv
    obtain ⟨k, hk⟩ : ∃ k, t.kind = k := ⟨_, rfl⟩
    rw [hk] at h5 ⊢
    clear hp hk hv hZ
    obtain rfl | rfl | rfl | rfl | rfl | rfl : k = 0 ∨ k = 1 ∨ k = 2 ∨ k = 3 ∨ k = 4 ∨ k = 5 := by omega
    all_goals
      clear h5
      go_enter Try.func28, Try.ntmps28
      go_wp2
      exact bodyPost_ret (v := partV dot) (results_part rfl _ _ _ 51 #[.bool true, .string ⟨#[]⟩] rfl rfl (blk_at _ _ _ (by simp))) rfl ⟨rfl, ext2 _ _ _⟩
  · have hv' : varies t.kind = false := by simpa using hv
    have hp : SaysPart ⟨false, t.text⟩ w = SaysPart (ofT t) w := by rw [ofT_no hv']
    have h5 : ¬ (0 ≤ t.kind ∧ t.kind ≤ 5) := fun h => hv ((varies_iff _).2 h)
    rw [← hp]
    unfold SaysPart partV
    dsimp only
    rw [hZ]
    obtain ⟨k, hk⟩ : ∃ k, t.kind = k := ⟨_, rfl⟩
    rw [hk] at h5 ⊢
    clear hp hk hv hv' hZ
    have k0 : ¬ k = 0 := by omega
    have k1 : ¬ k = 1 := by omega
    have k2 : ¬ k = 2 := by omega
    have k3 : ¬ k = 3 := by omega
    have k4 : ¬ k = 4 := by omega
    have k5 : ¬ k = 5 := by omega
    clear h5
    go_enter Try.func28, Try.ntmps28
    go_wp2
    exact bodyPost_ret (v := .agg #[.bool false, .string Z]) (results_part rfl _ _ _ 51 #[.bool false, .string Z] rfl rfl (blk_at _ _ _ (by simp))) rfl ⟨rfl, ext2 _ _ _⟩
end Go.Proofs.Ytbigdkkjajlekaa
