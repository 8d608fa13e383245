/-
  Texts of this claim, joined (part 0): contracts and lemmas that the last text goes by. No statement of the seat is proved here.
-/
import Derived.WalkKit
import Derived.Deep.Draws
import Derived.Deep.QuietTactic
import Derived.BigQuiet
import Derived.Maps.AppendAt
import Derived.Deep.AppendLies
import Derived.OneCell
import Derived.Lib.Hide
import Derived.Deep.MidRow
import Derived.Deep.AppendSrc
import Derived.Test.YtgphmflcfcjipaaDoorRows
import Derived.Deep.DeepMust
import Derived.ProofKit
import Derived.OpenShut
import Derived.Deep.DeepHandedRow
import Derived.Deep.Matrix
import Derived.LaidLaws
import Derived.Test.YtgphmflcfcjipaaDoorCards
import Derived.Test.YtgphmflcfcjipaaDoorTie
import Derived.ChangeArms
set_option linter.unusedVariables false
set_option linter.unusedSimpArgs false
/-
  Words for memory, for every later text: what a piece of memory holds ('Rd'), what the call owns ('Own'), what may turn ('Only'), and append onto what is owned. No statement of the seat is proved here.
-/
namespace Go.Proofs.YtgphmflcfcjipaaDoor
open Go Go.RowKit

/-- a byte as a cell -/
def bv (u : UInt8) : Value := .int .u8 (u.toNat : Int)
theorem bv_one (u : UInt8) : (bv u).oneCell' = true := rfl
theorem bvs_one (l : List UInt8) : ∀ u ∈ l.map bv, u.oneCell' = true := by
  intro u hu
  obtain ⟨x, _, rfl⟩ := List.mem_map.1 hu
  rfl

/-- a number as a cell; what an int bears -/
def iv (v : Int) : Value := .int .i64 v
def isInt (v : Int) : Prop := -9223372036854775808 ≤ v ∧ v ≤ 9223372036854775807

/-! ### What may turn -/
structure Only (S : Nat → Prop) (w w' : World) : Prop where
  os : w'.os = w.os
  tape : w'.tape = w.tape
  output : w'.output = w.output
  size : w.heap.size ≤ w'.heap.size
  block : ∀ k, k < w.heap.size → ¬ S k → w'.heap[k]? = w.heap[k]?

section
variable {S T : Nat → Prop} {a b c w w' : World}
theorem Only.refl (S : Nat → Prop) (w : World) : Only S w w := ⟨rfl, rfl, rfl, Nat.le_refl _, fun _ _ _ => rfl⟩
theorem Only.trans (h : Only S a b) (k : Only T b c) (hs : ∀ i, i < a.heap.size → T i → S i) : Only S a c :=
  ⟨k.os.trans h.os, k.tape.trans h.tape, k.output.trans h.output, Nat.le_trans h.size k.size,
    fun i hi hn => (k.block i (Nat.lt_of_lt_of_le hi h.size) (fun ht => hn (hs i hi ht))).trans (h.block i hi hn)⟩
theorem Only.mono (h : Only S a b) (hs : ∀ i, i < a.heap.size → S i → T i) : Only T a b :=
  ⟨h.os, h.tape, h.output, h.size, fun i hi hn => h.block i hi (fun x => hn (hs i hi x))⟩
theorem Only.drew (h : Only S a w) : Only S a w.drew := ⟨h.os, h.tape, h.output, h.size, h.block⟩
theorem Only.drewN (h : Only S a w) (n : Nat) : Only S a (w.drewN n) := ⟨h.os, h.tape, h.output, h.size, h.block⟩
theorem Only.alloc (h : Only S a w) (o : Obj) : Only S a (w.alloc o) :=
  ⟨h.os, h.tape, h.output, Nat.le_trans h.size (by simp), fun i hi hn => (Below.heap_alloc w o i (Nat.lt_of_lt_of_le hi h.size)).trans (h.block i hi hn)⟩
theorem Only.setCell (h : Only S a w) {p : Addr} (hp : S p.block ∨ a.heap.size ≤ p.block) (u : Value) : Only S a (w.setCell p u) :=
  ⟨h.os, h.tape, h.output, by simpa [World.setCell] using h.size, fun i hi hn => (Below.heap_setCell w p u i (by
    rintro rfl
    rcases hp with hp | hp
    · exact hn hp
    · omega)).trans (h.block i hi hn)⟩
theorem Only.grown (h : Only S a w) {row : Option Nat} (hg : w.grownBy w' row) (hr : ∀ k, row = some k → k < a.heap.size → S k) : Only S a w' :=
  ⟨hg.os.trans h.os, hg.tape.trans h.tape, hg.output.trans h.output, Nat.le_trans h.size hg.size,
    fun i hi hn => (hg.block i (Nat.lt_of_lt_of_le hi h.size) (fun e => hn (hr i e.symm hi))).trans (h.block i hi hn)⟩
theorem Only.below {B : Nat} (h : Only S a b) (hs : ∀ i, S i → B ≤ i) (hB : B ≤ a.heap.size) : Below B a b :=
  ⟨h.os, h.tape, h.output, h.size, fun i hi => h.block i (by omega) (fun x => by have := hs i x; omega)⟩
theorem Only.of_below {B : Nat} (h : Below B a b) (hs : ∀ i, B ≤ i → i < a.heap.size → S i) : Only S a b :=
  ⟨h.os, h.tape, h.output, h.size, fun i hi hn => h.block i (by
    rcases Nat.lt_or_ge i B with hl | hl
    · exact hl
    · exact absurd (hs i hl hi) hn)⟩
theorem Only.of_ext (h : Below a.heap.size a b) : Only S a b := Only.of_below h (fun i h1 h2 => by omega)
end

/-- all that was there is as it was, from world to world -/
theorem ext_trans {a b c : World} (h : Below a.heap.size a b) (k : Below b.heap.size b c) : Below a.heap.size a c := h.trans (k.mono h.size)
theorem ext_drewN {B : Nat} {a w : World} (h : Below B a w) (n : Nat) : Below B a (w.drewN n) := ⟨h.os, h.tape, h.output, h.size, h.block⟩

/-! ### What memory holds -/
/-- From address 'A' on there lie the cells 'xs'. -/
def Rd (w : World) (A : Option Addr) (xs : List Value) : Prop := ∀ (j : Nat) (u : Value), xs[j]? = some u → ∃ ad, A = some ad ∧ w.cell? (ad.add j) = some u

theorem block_add (a : Addr) (n : Nat) : (a.add n).block = a.block := by unfold Addr.add; split <;> rfl
theorem add_add_ (a : Addr) (i j : Nat) : (a.add i).add j = a.add (i + j) := by
  unfold Addr.add
  by_cases hi : i = 0 <;> by_cases hj : j = 0 <;> simp [hi, hj, Nat.add_assoc]

section
variable {S : Nat → Prop} {w w' : World} {A : Option Addr} {xs : List Value}
theorem Rd.nil (w : World) (A : Option Addr) : Rd w A [] := fun j u h => by simp at h
theorem Rd.at_ (h : Rd w A xs) {k : Nat} (hk : k < xs.length) : ∃ ad, A = some ad ∧ w.cell? (ad.add k) = some xs[k] := h k _ (List.getElem?_eq_getElem hk)
theorem Rd.keep (h : Rd w A xs) (hk : ∀ ad, A = some ad → ad.block < w.heap.size → w'.heap[ad.block]? = w.heap[ad.block]?) : Rd w' A xs := fun j u hu => by
  obtain ⟨ad, e, hc⟩ := h j u hu
  have hb := World.block_lt_of_cell? w _ hc
  rw [block_add] at hb
  exact ⟨ad, e, (World.cell?_of_block (by rw [block_add]; exact hk ad e hb)).trans hc⟩
theorem Rd.ext (h : Rd w A xs) (hb : Below w.heap.size w w') : Rd w' A xs := h.keep fun _ _ hl => hb.block _ hl
theorem Rd.only (h : Rd w A xs) (ho : Only S w w') (hn : ∀ ad, A = some ad → xs ≠ [] → ¬ S ad.block) : Rd w' A xs := by
  rcases xs with _ | ⟨x, r⟩
  · exact Rd.nil _ _
  · exact h.keep fun ad e hl => ho.block _ hl (hn ad e (by simp))
theorem Rd.drew (h : Rd w A xs) : Rd w.drew A xs := h
theorem Rd.drewN (h : Rd w A xs) (n : Nat) : Rd (w.drewN n) A xs := h
theorem Rd.undrewN {n : Nat} (h : Rd (w.drewN n) A xs) : Rd w A xs := h
theorem Rd.alloc (h : Rd w A xs) (o : Obj) : Rd (w.alloc o) A xs := h.keep fun _ _ hl => Below.heap_alloc w o _ hl
theorem Rd.setCell (h : Rd w A xs) {p : Addr} (hn : ∀ ad, A = some ad → ad.block ≠ p.block) (u : Value) : Rd (w.setCell p u) A xs := h.keep fun ad e _ => Below.heap_setCell w p u _ (hn ad e)
theorem Rd.take (h : Rd w A xs) (k : Nat) : Rd w A (xs.take k) := fun j u hu => h j u (by
  rw [List.getElem?_take] at hu
  split at hu
  · exact hu
  · cases hu)
/-- behind a cut in front: the model's own form of the address -/
theorem Rd.cut (h : Rd w A xs) {k cap : Nat} (hc : xs.length ≤ cap) : Rd w (if cap = k then A else A.map (·.add (k * 1))) (xs.drop k) := fun j u hu => by
  rw [List.getElem?_drop] at hu
  obtain ⟨ad, rfl, hcell⟩ := h _ u hu
  have hl : k + j < xs.length := (List.getElem?_eq_some_iff.1 hu).1
  rw [if_neg (by omega)]
  refine ⟨ad.add (k * 1), rfl, ?_⟩
  rw [add_add_, Nat.mul_one]
  exact hcell
theorem Rd.lit (w : World) (cs : Array Value) (t : TypeId) : Rd (w.alloc (.cells cs t)) (some ⟨w.heap.size, 0, none⟩) cs.toList := fun j u hu =>
  ⟨_, rfl, World.news_of_block (heap_alloc_new w _) j u hu⟩
theorem Rd.lit_at (w : World) (cs : Array Value) (t : TypeId) {fr : Nat × Nat} {g : Nat} (hg : g = w.heap.size) : Rd (w.alloc (.cells cs t fr)) (some ⟨g, 0, none⟩) cs.toList := by
  subst hg
  exact fun j u hu => ⟨_, rfl, World.news_of_block (heap_alloc_new w _) j u hu⟩
theorem Rd.blk {g : Nat} {cs : Array Value} {t : TypeId} {fr : Nat × Nat} (h : w.heap[g]? = some (.cells cs t fr)) : Rd w (some ⟨g, 0, none⟩) cs.toList := fun j u hu =>
  ⟨_, rfl, World.news_of_block h j u hu⟩
end

/-! ### A block that is known whole -/
def Blk (w : World) (g : Nat) (t : TypeId) (cs : Array Value) : Prop := w.heap[g]? = some (.cells cs t (0, 0))
section
variable {S : Nat → Prop} {w w' : World} {g : Nat} {t : TypeId} {cs : Array Value}
theorem Blk.lt (h : Blk w g t cs) : g < w.heap.size := lt_of_block h
theorem Blk.cell (h : Blk w g t cs) (i : Nat) : w.cell? ⟨g, i, none⟩ = cs[i]? := cell_of_row w g i cs t (0, 0) h
theorem Blk.free (h : Blk w g t cs) (i : Nat) : w.frozen? ⟨g, i, none⟩ = false := frozen_of_row w g i cs t h
theorem Blk.new (w : World) (t : TypeId) (cs : Array Value) : Blk (w.alloc (.cells cs t)) w.heap.size t cs := heap_alloc_new w _
theorem Blk.drew (h : Blk w g t cs) : Blk w.drew g t cs := h
theorem Blk.drewN (h : Blk w g t cs) (n : Nat) : Blk (w.drewN n) g t cs := h
theorem Blk.alloc (h : Blk w g t cs) (o : Obj) : Blk (w.alloc o) g t cs := (Below.heap_alloc w o g h.lt).trans h
theorem Blk.only (h : Blk w g t cs) (ho : Only S w w') (hn : ¬ S g) : Blk w' g t cs := (ho.block g h.lt hn).trans h
theorem Blk.ext (h : Blk w g t cs) (hb : Below w.heap.size w w') : Blk w' g t cs := (hb.block g h.lt).trans h
theorem Blk.far (h : Blk w g t cs) {p : Addr} (hp : g ≠ p.block) (u : Value) : Blk (w.setCell p u) g t cs := (Below.heap_setCell w p u g hp).trans h
theorem Blk.put (h : Blk w g t cs) (i : Nat) (u : Value) : Blk (w.setCell ⟨g, i, none⟩ u) g t (cs.setIfInBounds i u) := heap_setCell_same w g i cs t u h
end

/-! ### A row that the call owns -/
/-- The slice of address 'A' and capacity 'c' is a row of the call's own that holds 'xs'; its block is one of 'fp'. -/
def Own (w : World) (fp : Nat → Prop) (e : TypeId) (A : Option Addr) (c : Nat) (xs : List Value) : Prop :=
  w.ownsRow 0 e 1 (.slice A xs.length c) xs.length xs ∧ ∀ ad, A = some ad → fp ad.block

/-- what was in 'fp', and what has been made from 'w' to 'w'' -/
def More (fp : Nat → Prop) (w w' : World) : Nat → Prop := fun k => fp k ∨ (w.heap.size ≤ k ∧ k < w'.heap.size)

section
variable {S fp fp' : Nat → Prop} {w w' : World} {e : TypeId} {A : Option Addr} {c : Nat} {xs : List Value}
theorem Own.cap (h : Own w fp e A c xs) : xs.length ≤ c := by
  rcases h.1.2 with ⟨h1, h2⟩ | ⟨g, cap, cur, h1, _, _, hc, _⟩
  · injection h1; omega
  · injection h1; omega
theorem Own.some_ (h : Own w fp e A c xs) : (A = none ∧ c = 0 ∧ xs = []) ∨ ∃ g, A = some ⟨g, 0, none⟩ ∧ fp g ∧ g < w.heap.size := by
  rcases h.1.2 with ⟨h1, h2⟩ | ⟨g, cap, cur, h1, _, hg, hc, _⟩
  · injection h1 with a1 a2 a3
    exact .inl ⟨a1, a3, List.eq_nil_of_length_eq_zero h2⟩
  · injection h1 with a1 a2 a3
    exact .inr ⟨g, a1, h.2 _ a1, lt_of_block hg⟩
theorem Own.rd (h : Own w fp e A c xs) : Rd w A xs := by
  rcases h.some_ with ⟨rfl, rfl, rfl⟩ | ⟨g, rfl, _, _⟩
  · exact Rd.nil _ _
  · exact fun j u hu => ⟨_, rfl, h.1.cells (g := g) rfl j u hu⟩
theorem Own.none_ (w : World) (fp : Nat → Prop) (e : TypeId) : Own w fp e none 0 [] := ⟨World.ownsRow_nil w 0 e 1, fun _ h => by cases h⟩
theorem Own.mono (h : Own w fp e A c xs) (hs : ∀ k, fp k → k < w.heap.size → fp' k) : Own w fp' e A c xs := by
  refine ⟨h.1, fun ad e' => ?_⟩
  rcases h.some_ with ⟨rfl, _⟩ | ⟨g, rfl, hg, hl⟩
  · cases e'
  · injection e' with e'; subst e'; exact hs _ hg hl
theorem Own.only (h : Own w fp e A c xs) (ho : Only S w w') (hn : ∀ k, fp k → ¬ S k) : Own w' fp e A c xs := by
  refine ⟨⟨h.1.1, ?_⟩, h.2⟩
  rcases h.1.2 with h1 | ⟨g, cap, cur, h1, hb, hg, r⟩
  · exact .inl h1
  · refine .inr ⟨g, cap, cur, h1, hb, ?_, r⟩
    injection h1 with a1 a2 a3
    rw [ho.block g (lt_of_block hg) (hn _ (h.2 _ a1))]
    exact hg
theorem Own.ext (h : Own w fp e A c xs) (hb : Below w.heap.size w w') : Own w' fp e A c xs := by
  refine ⟨⟨h.1.1, ?_⟩, h.2⟩
  rcases h.1.2 with h1 | ⟨g, cap, cur, h1, hb', hg, r⟩
  · exact .inl h1
  · exact .inr ⟨g, cap, cur, h1, hb', (hb.block g (lt_of_block hg)).trans hg, r⟩
theorem Own.drew (h : Own w fp e A c xs) : Own w.drew fp e A c xs := h
theorem Own.drewN (h : Own w fp e A c xs) (n : Nat) : Own (w.drewN n) fp e A c xs := h
theorem Own.alloc (h : Own w fp e A c xs) (o : Obj) : Own (w.alloc o) fp e A c xs := h.ext ((Below.refl _ _).alloc (Nat.le_refl _) o)
theorem Own.setCell (h : Own w fp e A c xs) {p : Addr} (hn : ∀ ad, A = some ad → ad.block ≠ p.block) (u : Value) : Own (w.setCell p u) fp e A c xs := by
  refine ⟨ownsRow_setCell_other h.1 ?_ u, h.2⟩
  rcases A with _ | ad
  · simp [Value.ownBlock]
  · simpa [Value.ownBlock] using hn ad rfl
/-- rows of one element type and a block of another one are apart -/
theorem Own.ne_blk {g : Nat} {t : TypeId} {cs : Array Value} (h : Own w fp e A c xs) (hb : Blk w g t cs) (ht : e ≠ t) : ∀ ad, A = some ad → ad.block ≠ g := by
  rintro ad rfl rfl
  rcases h.1.2 with ⟨h1, _⟩ | ⟨g', cap, cur, h1, _, hg, _⟩
  · injection h1 with h1; cases h1
  · injection h1 with h1 _ _
    injection h1 with h1
    subst h1
    unfold Blk at hb
    rw [hg] at hb
    injection hb with hb
    injection hb with _ ht'
    exact ht ht'
theorem Own.lit (w : World) (fp : Nat → Prop) (cs : Array Value) (e : TypeId) (hm : cs.size ≤ maxLen) (hf : fp w.heap.size) : Own (w.alloc (.cells cs e)) fp e (some ⟨w.heap.size, 0, none⟩) cs.size cs.toList := by
  refine ⟨?_, fun ad h => by injection h with h; subst h; exact hf⟩
  have h := World.ownsRow_lit (base := 0) (e := e) (size := 1) w cs cs.size (Nat.zero_le _) hm (by simp)
  simpa using h
end

/-! ### growth, step by step -/
section
variable {fp : Nat → Prop} {a b b' c : World}
theorem More.join (h1 : a.heap.size ≤ b.heap.size) (h2 : b.heap.size ≤ b'.heap.size) (h3 : b'.heap.size ≤ c.heap.size) {k : Nat} (hk : More (More fp a b) b' c k) : More fp a c k := by
  rcases hk with (hk | hk) | hk
  · exact .inl hk
  · exact .inr (by omega)
  · exact .inr (by omega)
theorem Only.join (h : Only fp a b') (h2 : Only (More fp a b) b' c) : Only fp a c := h.trans h2 (fun k hk hm => by
  rcases hm with hm | hm
  · exact hm
  · omega)
theorem Own.join {e : TypeId} {A : Option Addr} {n : Nat} {xs : List Value} (h1 : a.heap.size ≤ b.heap.size) (h2 : b.heap.size ≤ b'.heap.size) (h3 : b'.heap.size ≤ c.heap.size) (h : Own c (More (More fp a b) b' c) e A n xs) : Own c (More fp a c) e A n xs :=
  h.mono fun _ hk _ => More.join h1 h2 h3 hk
end

/-! ### Memory that is read, apart from 'fp'; rows of bytes -/
def RdF (fp : Nat → Prop) (w : World) (A : Option Addr) (xs : List Value) : Prop := Rd w A xs ∧ ∀ ad, A = some ad → xs ≠ [] → ¬ fp ad.block

def RowsF (fp : Nat → Prop) (w : World) (A : Option Addr) (xss : List (List UInt8)) : Prop :=
  ∃ vs, RdF fp w A vs ∧ vs.length = xss.length ∧ ∀ (j : Nat) (v : Value) (xs : List UInt8), vs[j]? = some v → xss[j]? = some xs → ∃ B c, v = .slice B xs.length c ∧ xs.length ≤ c ∧ RdF fp w B (xs.map bv)

section
variable {fp fp' : Nat → Prop} {w w' : World} {A : Option Addr} {xs : List Value} {xss : List (List UInt8)}
theorem RdF.only (h : RdF fp w A xs) (ho : Only fp w w') : RdF fp w' A xs := ⟨h.1.only ho h.2, h.2⟩
theorem RdF.of (h : Rd w A xs) : RdF (fun _ => False) w A xs := ⟨h, fun _ _ _ x => x⟩
/-- what is read lies below what is new -/
theorem RdF.fresh (h : Rd w A xs) (hf : ∀ k, fp k → w.heap.size ≤ k) : RdF fp w A xs := by
  refine ⟨h, fun ad e hne hk => ?_⟩
  rcases xs with _ | ⟨x, r⟩
  · exact hne rfl
  · obtain ⟨ad', e', hc⟩ := h 0 x rfl
    rw [e] at e'; injection e' with e'; subst e'
    have hb := World.block_lt_of_cell? w _ hc
    rw [block_add] at hb
    have := hf _ hk
    omega
theorem RdF.weak (h : RdF fp w A xs) (hs : ∀ k, fp' k → fp k) : RdF fp' w A xs := ⟨h.1, fun ad e hn x => h.2 ad e hn (hs _ x)⟩
theorem RowsF.only (h : RowsF fp w A xss) (ho : Only fp w w') : RowsF fp w' A xss := by
  obtain ⟨vs, h1, h2, h3⟩ := h
  refine ⟨vs, h1.only ho, h2, fun j v xs hv hx => ?_⟩
  obtain ⟨B, c, e, hc, hr⟩ := h3 j v xs hv hx
  exact ⟨B, c, e, hc, hr.only ho⟩
theorem RowsF.weak (h : RowsF fp w A xss) (hs : ∀ k, fp' k → fp k) : RowsF fp' w A xss := by
  obtain ⟨vs, h1, h2, h3⟩ := h
  refine ⟨vs, h1.weak hs, h2, fun j v xs hv hx => ?_⟩
  obtain ⟨B, c, e, hc, hr⟩ := h3 j v xs hv hx
  exact ⟨B, c, e, hc, hr.weak hs⟩
theorem RowsF.ext (h : RowsF fp w A xss) (hb : Below w.heap.size w w') : RowsF fp w' A xss := h.only (Only.of_ext hb)
/-- row number k -/
theorem RowsF.at_ (h : RowsF fp w A xss) {k : Nat} (hk : k < xss.length) :
    ∃ ad B c, A = some ad ∧ w.cell? (ad.add k) = some (.slice B xss[k].length c) ∧ xss[k].length ≤ c ∧ RdF fp w B (xss[k].map bv) := by
  obtain ⟨vs, h1, h2, h3⟩ := h
  obtain ⟨ad, e, hc⟩ := h1.1.at_ (k := k) (by omega)
  obtain ⟨B, c, e2, hl, hr⟩ := h3 k _ _ (List.getElem?_eq_getElem (by omega)) (List.getElem?_eq_getElem hk)
  exact ⟨ad, B, c, e, by rw [hc, e2], hl, hr⟩
theorem RdF.more (h : RdF fp w A xs) (ho : Only fp w w') : RdF (More fp w w') w' A xs := by
  refine ⟨h.1.only ho h.2, fun ad e hn hm => ?_⟩
  rcases hm with hm | hm
  · exact h.2 ad e hn hm
  · rcases xs with _ | ⟨x, r⟩
    · exact hn rfl
    · obtain ⟨ad', e', hc⟩ := h.1 0 x rfl
      rw [e] at e'
      injection e' with e'
      subst e'
      have hb := World.block_lt_of_cell? w _ hc
      rw [block_add] at hb
      omega
theorem RowsF.more (h : RowsF fp w A xss) (ho : Only fp w w') : RowsF (More fp w w') w' A xss := by
  obtain ⟨vs, h1, h2, h3⟩ := h
  refine ⟨vs, h1.more ho, h2, fun j v xs hv hx => ?_⟩
  obtain ⟨B, c, e, hc, hr⟩ := h3 j v xs hv hx
  exact ⟨B, c, e, hc, hr.more ho⟩
/-- cells that were just laid -/
theorem RdF.lit (w : World) (cs : Array Value) (t : TypeId) {fr : Nat × Nat} {g : Nat} (hg : g = w.heap.size) (hf : ¬ fp g) : RdF fp (w.alloc (.cells cs t fr)) (some ⟨g, 0, none⟩) cs.toList :=
  ⟨Rd.lit_at w cs t hg, fun ad e _ => by injection e with e; subst e; exact hf⟩
theorem RdF.alloc (h : RdF fp w A xs) (o : Obj) : RdF fp (w.alloc o) A xs := ⟨h.1.alloc o, h.2⟩
/-- a list of one row, of two rows, that was just laid -/
theorem RowsF.one {xs : List UInt8} {B : Option Addr} {c : Nat} (h : RdF fp w B (xs.map bv)) (hc : xs.length ≤ c) (t : TypeId) {g : Nat} (hg : g = w.heap.size) (hf : ¬ fp g) :
    RowsF fp (w.alloc (.cells #[.slice B xs.length c] t)) (some ⟨g, 0, none⟩) [xs] := by
  subst hg
  refine ⟨[.slice B xs.length c], ⟨Rd.lit w #[.slice B xs.length c] t, fun ad e _ => by injection e with e; subst e; exact hf⟩, rfl, fun j v ys hv hx => ?_⟩
  match j, hv, hx with
  | 0, hv, hx =>
    simp at hv hx
    subst hv hx
    exact ⟨B, c, rfl, hc, h.alloc _⟩
theorem RowsF.two {xs ys : List UInt8} {B D : Option Addr} {c d : Nat} (h : RdF fp w B (xs.map bv)) (hc : xs.length ≤ c) (h2 : RdF fp w D (ys.map bv)) (hd : ys.length ≤ d) (t : TypeId) {g : Nat} (hg : g = w.heap.size) (hf : ¬ fp g) :
    RowsF fp (w.alloc (.cells #[.slice B xs.length c, .slice D ys.length d] t)) (some ⟨g, 0, none⟩) [xs, ys] := by
  subst hg
  refine ⟨[.slice B xs.length c, .slice D ys.length d], ⟨Rd.lit w #[.slice B xs.length c, .slice D ys.length d] t, fun ad e _ => by injection e with e; subst e; exact hf⟩, rfl, fun j v zs hv hx => ?_⟩
  match j, hv, hx with
  | 0, hv, hx =>
    simp at hv hx
    subst hv hx
    exact ⟨B, c, rfl, hc, h.alloc _⟩
  | 1, hv, hx =>
    simp at hv hx
    subst hv hx
    exact ⟨D, d, rfl, hd, h2.alloc _⟩
theorem only_none (h : Only (fun _ => False) w w') : Below w.heap.size w w' := h.below (fun _ h => h.elim) (Nat.le_refl _)
end

/-! ### append onto what is owned; the source nil, empty or not -/
section
variable {P : Program} (w : World) {fp : Nat → Prop}
theorem run_app (t ty e : TypeId) (z : Value) (bytes : Nat) (ht : P.underlying t = some (.slice e)) (hi : (P.info? e).map (fun i => (i.zero, i.size, i.bytes)) = some (some z, 1, bytes)) (hzs : z.cells.size = 1)
    (A : Option Addr) (n c : Nat) (xs : List Value) (hn : n = xs.length) (hown : Own w fp e A c xs) (A2 : Option Addr) (m c2 : Nat) (news : List Value) (hm : m = news.length) (hr : Rd w A2 news) (h1 : ∀ u ∈ news, u.oneCell' = true)
    (h63 : n + m ≤ maxLen) (hbytes : (n + m) * bytes ≤ 140737488355328) :
    ∃ A' c' w', (Builtin.append_ #[t, t] ty #[.slice A n c, .slice A2 m c2]).run P w = .ok (.slice A' (n + m) c') w' ∧ Own w' (More fp w w') e A' c' (xs ++ news) ∧ Only fp w w' := by
  obtain ⟨i, hi, hz, hsz, hby⟩ := info_parts hi
  subst hn hm
  have same : ∀ (_ : news = []) (_ : (Builtin.append_ #[t, t] ty #[.slice A xs.length c, .slice A2 news.length c2]).run P w = .ok (.slice A xs.length c) w),
      ∃ A' c' w', (Builtin.append_ #[t, t] ty #[.slice A xs.length c, .slice A2 news.length c2]).run P w = .ok (.slice A' (xs.length + news.length) c') w' ∧ Own w' (More fp w w') e A' c' (xs ++ news) ∧ Only fp w w' := by
    intro hnil hrun
    subst hnil
    exact ⟨A, c, w, hrun, by rw [List.append_nil]; exact hown.mono (fun k hk _ => Or.inl hk), Only.refl _ _⟩
  rcases A2 with _ | ad
  · have hnil : news = [] := by
      rcases news with _ | ⟨u, r⟩
      · rfl
      · obtain ⟨ad, h, _⟩ := hr 0 u rfl
        cases h
    refine same hnil ?_
    subst hnil
    rcases hown.1.2 with ⟨h2, _⟩ | ⟨g, cap, cur, h2, _, _, hnc, _⟩
    · rw [h2]; simp [Builtin.append_, run_underlying ht, sizeOf, typeInfo, hi, Builtin.lenOf, Builtin.firstCells]
    · rw [h2]; simp [Builtin.append_, run_underlying ht, sizeOf, typeInfo, hi, Builtin.lenOf, Builtin.firstCells, hnc, storeCells]
  · have hcells : ∀ j u, news[j]? = some u → w.cell? (ad.add j) = some u := by
      intro j u hu
      obtain ⟨ad', h, hc⟩ := hr j u hu
      injection h with h
      subst h
      exact hc
    obtain ⟨v', w', hrun, h2, h3, _, h5⟩ := run_append_own_at (P := P) w 0 t ty e i z 1 bytes ht hi hz hsz hby hzs (by omega) (.slice A xs.length c) xs.length xs hown.1 ad news.length c2 news (by simp) hcells h1 h63 hbytes (Nat.zero_le _)
    have ho : Only fp w w' := by
      refine (Only.refl fp w).grown h3 (fun k hk _ => ?_)
      rcases A with _ | a0
      · simp [Value.ownBlock] at hk
      · simp [Value.ownBlock] at hk
        subst hk
        exact hown.2 _ rfl
    have key : ∀ A' c', v' = .slice A' (xs.length + news.length) c' → Own w' (More fp w w') e A' c' (xs ++ news) := by
      rintro A' c' rfl
      refine ⟨by simpa using h2, fun ad' e' => ?_⟩
      subst e'
      have hl := h2.lt ad'.block rfl
      rcases h5 with h5 | h5
      · rcases A with _ | a0
        · simp [Value.ownBlock] at h5
        · simp [Value.ownBlock] at h5
          rw [h5]
          exact .inl (hown.2 _ rfl)
      · simp [Value.ownBlock] at h5
        exact .inr ⟨by omega, hl.2⟩
    rcases h2.2 with ⟨hv, h0⟩ | ⟨g, cap, cur, hv, _⟩
    · subst hv
      exact ⟨none, 0, w', by rw [hrun, h0], key none 0 (by rw [h0]), ho⟩
    · subst hv
      exact ⟨_, _, w', hrun, key _ _ rfl, ho⟩

theorem wp_app {o : Oper} {a : Act} {K : Act → World → Prop} {Q : Exit → Act → World → Prop} (s x : Operand) (t : TypeId)
    (ho : o.op = .call { callee := .builtin .append, args := #[s, x], argTypes := #[t, t] })
    (e : TypeId) (z : Value) (bytes : Nat) (ht : P.underlying t = some (.slice e)) (hi : (P.info? e).map (fun i => (i.zero, i.size, i.bytes)) = some (some z, 1, bytes)) (hzs : z.cells.size = 1)
    (A : Option Addr) (n c : Nat) (xs : List Value) (hs : a.eval s = .slice A n c) (hn : n = xs.length) (hown : Own w fp e A c xs)
    (A2 : Option Addr) (m c2 : Nat) (news : List Value) (hx : a.eval x = .slice A2 m c2) (hm : m = news.length) (hr : Rd w A2 news) (h1 : ∀ u ∈ news, u.oneCell' = true)
    (h63 : n + m ≤ maxLen) (hbytes : (n + m) * bytes ≤ 140737488355328)
    (h : ∀ A' c' w', Own w' (More fp w w') e A' c' (xs ++ news) → Only fp w w' → K (a.put o.dst (.slice A' (n + m) c')) w') : o.wp P a w K Q := by
  obtain ⟨A', c', w', hrun, h2, h3⟩ := run_app (P := P) w t o.type e z bytes ht hi hzs A n c xs hn hown A2 m c2 news hm hr h1 h63 hbytes
  unfold Oper.wp execOp
  simp only [ho, resolve, invoke, builtin, Sem.run_bind, Sem.run_pure, Result.andThen_ok, List.map_toArray, List.map_cons, List.map_nil, hs, hx, hrun]
  exact h A' c' w' h2 h3

theorem wpList_app {ops : Array Oper} {rest : List Oper} {o : Oper} {a : Act} {Q : Exit → Act → World → Prop} (hgd : o.guard = none) (s x : Operand) (t : TypeId)
    (ho : o.op = .call { callee := .builtin .append, args := #[s, x], argTypes := #[t, t] })
    (e : TypeId) (z : Value) (bytes : Nat) (ht : P.underlying t = some (.slice e)) (hi : (P.info? e).map (fun i => (i.zero, i.size, i.bytes)) = some (some z, 1, bytes)) (hzs : z.cells.size = 1)
    (A : Option Addr) (n c : Nat) (xs : List Value) (hs : a.eval s = .slice A n c) (hn : n = xs.length) (hown : Own w fp e A c xs)
    (A2 : Option Addr) (m c2 : Nat) (news : List Value) (hx : a.eval x = .slice A2 m c2) (hm : m = news.length) (hr : Rd w A2 news) (h1 : ∀ u ∈ news, u.oneCell' = true)
    (h63 : n + m ≤ maxLen) (hbytes : (n + m) * bytes ≤ 140737488355328)
    (h : ∀ A' c' w', Own w' (More fp w w') e A' c' (xs ++ news) → Only fp w w' → wpList P ops Q rest (a.put o.dst (.slice A' (n + m) c')) w') : wpList P ops Q (o :: rest) a w :=
  wpList_plain hgd fun _ hK => wp_app w s x t ho e z bytes ht hi hzs A n c xs hs hn hown A2 m c2 news hx hm hr h1 h63 hbytes fun A' c' w' h2 h3 => hK _ _ (h A' c' w' h2 h3)
end
end Go.Proofs.YtgphmflcfcjipaaDoor

/-
  Texts of bytes as values. No statement of the seat is proved here.
-/
namespace Go.Proofs.YtgphmflcfcjipaaDoor
open Go Go.RowKit

/-- a text of these bytes -/
def strV (bs : List UInt8) : Value := .string ⟨bs.toArray⟩
theorem strV_inj {a b : List UInt8} : (⟨a.toArray⟩ : ByteArray) = ⟨b.toArray⟩ ↔ a = b := ⟨fun h => by injection h with h; simpa using h, fun h => by rw [h]⟩
end Go.Proofs.YtgphmflcfcjipaaDoor

/-
  Rows of elements of many cells that lie anywhere in a block of the call's own ('RowO'), append onto them, and stores of many cells. No statement of the seat is proved here.
-/
namespace Go.Proofs.YtgphmflcfcjipaaDoor
open Go Go.RowKit

/-- the block of an address -/
def inA (A : Option Addr) (k : Nat) : Prop := ∃ ad, A = some ad ∧ ad.block = k
theorem inA_none (k : Nat) : ¬ inA none k := fun ⟨_, h, _⟩ => by cases h
theorem inA_some (g o k : Nat) (s : Option Nat) : inA (some ⟨g, o, s⟩) k ↔ g = k := ⟨fun ⟨_, h, e⟩ => by injection h with h; subst h; exact e, fun e => ⟨_, rfl, e⟩⟩

/-! ### Only: stores of many cells -/
section
variable {S T : Nat → Prop} {a w w' : World}
theorem Only.setCells (h : Only S a w) {b : Nat} (hb : S b ∨ a.heap.size ≤ b) : ∀ (vs : List Value) (o : Nat), Only S a (w.setCells b o vs) := by
  intro vs
  induction vs generalizing w with
  | nil => intro o; exact h
  | cons v r ih => intro o; exact ih (h.setCell (p := ⟨b, o, none⟩) hb v) (o + 1)
theorem Blk.setCells_far {g : Nat} {t : TypeId} {cs : Array Value} {b : Nat} (hn : g ≠ b) : ∀ (vs : List Value) (o : Nat) {w : World}, Blk w g t cs → Blk (w.setCells b o vs) g t cs
  | [], _, _, h => h
  | v :: r, o, w, h => Blk.setCells_far hn r (o + 1) (h.far (p := ⟨b, o, none⟩) hn v)
theorem Blk.setCells {g : Nat} {t : TypeId} : ∀ (vs : List Value) (o : Nat) {w : World} {cs : Array Value}, Blk w g t cs → o + vs.length ≤ cs.size →
    ∃ cs', Blk (w.setCells g o vs) g t cs' ∧ cs'.size = cs.size ∧ (∀ j u, vs[j]? = some u → cs'[o + j]? = some u) ∧ ∀ k, (k < o ∨ o + vs.length ≤ k) → cs'[k]? = cs[k]?
  | [], o, w, cs, h, _ => ⟨cs, h, rfl, fun j u hu => by simp at hu, fun _ _ => rfl⟩
  | v :: r, o, w, cs, h, hl => by
    simp only [List.length_cons] at hl
    obtain ⟨cs', h1, h2, h3, h4⟩ := Blk.setCells r (o + 1) (h.put o v) (by simp; omega)
    refine ⟨cs', h1, by simpa using h2, fun j u hu => ?_, fun k hk => ?_⟩
    · rcases j with _ | j
      · simp at hu
        subst hu
        rw [h4 (o + 0) (.inl (by omega))]
        simp [show o < cs.size by omega]
      · have := h3 j u (by simpa using hu)
        rwa [show o + 1 + j = o + (j + 1) by omega] at this
    · simp only [List.length_cons] at hk
      rw [h4 k (by omega), Array.getElem?_setIfInBounds]
      split
      · omega
      · rfl
end

/-- a whole block anew -/
theorem Blk.whole {g : Nat} {t : TypeId} {w : World} {cs : Array Value} (h : Blk w g t cs) (vs : List Value) (hl : vs.length = cs.size) : Blk (w.setCells g 0 vs) g t vs.toArray := by
  obtain ⟨cs', h1, h2, h3, _⟩ := Blk.setCells vs 0 h (by omega)
  have : cs' = vs.toArray := by
    apply Array.ext_getElem?
    intro k
    rcases Nat.lt_or_ge k vs.length with hk | hk
    · have := h3 k vs[k] (List.getElem?_eq_getElem hk)
      rw [Nat.zero_add] at this
      rw [this]; simp [hk]
    · rw [Array.getElem?_eq_none (by omega), Array.getElem?_eq_none (by simpa using hk)]
  rw [← this]
  exact h1
theorem Blk.there {g : Nat} {t : TypeId} {w : World} {cs : Array Value} (h : Blk w g t cs) (o n : Nat) (hl : o + n ≤ cs.size) : w.there g o n := fun j hj => ⟨by rw [h.cell]; simp; omega, h.free _⟩
theorem below_setCells {B : Nat} {a : World} {b : Nat} (hb : B ≤ b) : ∀ (vs : List Value) (o : Nat) {w : World}, Below B a w → Below B a (w.setCells b o vs)
  | [], _, _, h => h
  | v :: r, o, w, h => below_setCells hb r (o + 1) (w := w.setCell ⟨b, o, none⟩ v) ⟨h.os, h.tape, h.output, by simpa [World.setCell] using h.size, fun i hi => (Below.heap_setCell w ⟨b, o, none⟩ v i (by show i ≠ b; omega)).trans (h.block i hi)⟩

/-! ### A row anywhere in a block -/
def RowO (w : World) (e : TypeId) (sz : Nat) (A : Option Addr) (m c : Nat) (xs : List Value) : Prop :=
  xs.length = m * sz ∧ ((A = none ∧ m = 0 ∧ c = 0) ∨ ∃ g off cs, A = some ⟨g, off, none⟩ ∧ m ≤ c ∧ c ≤ maxLen ∧ Blk w g e cs ∧ off + c * sz ≤ cs.size ∧ ∀ j u, xs[j]? = some u → cs[off + j]? = some u)

section
variable {S : Nat → Prop} {w w' : World} {e : TypeId} {sz : Nat} {A : Option Addr} {m c : Nat} {xs : List Value}
theorem RowO.none_ (w : World) (e : TypeId) (sz : Nat) : RowO w e sz none 0 0 [] := ⟨by simp, .inl ⟨rfl, rfl, rfl⟩⟩
theorem RowO.rd (h : RowO w e sz A m c xs) : Rd w A xs := by
  rcases h.2 with ⟨rfl, rfl, rfl⟩ | ⟨g, off, cs, rfl, _, _, hb, _, hc⟩
  · have : xs = [] := List.eq_nil_of_length_eq_zero (by simpa using h.1)
    subst this
    exact Rd.nil _ _
  · exact fun j u hu => ⟨_, rfl, by rw [Addr.add_mid, hb.cell]; exact hc j u hu⟩
theorem RowO.lt (h : RowO w e sz A m c xs) {k : Nat} (hk : inA A k) : k < w.heap.size := by
  rcases h.2 with ⟨rfl, _⟩ | ⟨g, off, cs, rfl, _, _, hb, _⟩
  · exact absurd hk (inA_none k)
  · rw [inA_some] at hk; subst hk; exact hb.lt
theorem RowO.keep (h : RowO w e sz A m c xs) (hk : ∀ k, inA A k → w'.heap[k]? = w.heap[k]?) : RowO w' e sz A m c xs := by
  refine ⟨h.1, ?_⟩
  rcases h.2 with h1 | ⟨g, off, cs, rfl, h1, h2, hb, h3⟩
  · exact .inl h1
  · exact .inr ⟨g, off, cs, rfl, h1, h2, (hk g ((inA_some _ _ _ _).2 rfl)).trans hb, h3⟩
theorem RowO.only (h : RowO w e sz A m c xs) (ho : Only S w w') (hn : ∀ k, inA A k → ¬ S k) : RowO w' e sz A m c xs := h.keep fun k hk => ho.block k (h.lt hk) (hn k hk)
theorem RowO.ext (h : RowO w e sz A m c xs) (hb : Below w.heap.size w w') : RowO w' e sz A m c xs := h.keep fun k hk => hb.block k (h.lt hk)
theorem RowO.alloc (h : RowO w e sz A m c xs) (o : Obj) : RowO (w.alloc o) e sz A m c xs := h.ext ((Below.refl _ _).alloc (Nat.le_refl _) o)
theorem RowO.drew (h : RowO w e sz A m c xs) : RowO w.drew e sz A m c xs := h
theorem RowO.drewN (h : RowO w e sz A m c xs) (n : Nat) : RowO (w.drewN n) e sz A m c xs := h
theorem RowO.le (h : RowO w e sz A m c xs) : m ≤ c := by
  rcases h.2 with ⟨_, h1, h2⟩ | ⟨_, _, _, _, h1, _⟩ <;> omega
theorem RowO.ne_blk {g : Nat} {t : TypeId} {cs : Array Value} (h : RowO w e sz A m c xs) (hb : Blk w g t cs) (ht : e ≠ t) : ¬ inA A g := by
  intro hk
  rcases h.2 with ⟨rfl, _⟩ | ⟨g', off, cs', rfl, _, _, hb', _⟩
  · exact inA_none _ hk
  · rw [inA_some] at hk
    subst hk
    unfold Blk at hb hb'
    rw [hb] at hb'
    injection hb' with hb'
    injection hb' with _ ht'
    exact ht ht'.symm
theorem RowO.lit (w : World) (e : TypeId) (sz m : Nat) (cs : Array Value) (hs : cs.size = m * sz) (hm : m ≤ maxLen) {g : Nat} (hg : g = w.heap.size) : RowO (w.alloc (.cells cs e)) e sz (some ⟨g, 0, none⟩) m m cs.toList := by
  subst hg
  exact ⟨by simpa using hs, .inr ⟨_, 0, cs, rfl, Nat.le_refl _, hm, Blk.new w e cs, by omega, fun j u hu => by simpa using hu⟩⟩
/-- the first elements alone -/
theorem RowO.sub (h : RowO w e sz A m c xs) {n : Nat} {ys : List Value} (hn : n ≤ m) (hl : ys.length = n * sz) (hp : ∀ (j : Nat) (u : Value), ys[j]? = some u → xs[j]? = some u) : RowO w e sz A n c ys := by
  refine ⟨hl, ?_⟩
  rcases h.2 with ⟨h1, h2, h3⟩ | ⟨g, off, cs, h1, h2, h3, h4, h5, h6⟩
  · exact .inl ⟨h1, by omega, h3⟩
  · exact .inr ⟨g, off, cs, h1, by omega, h3, h4, h5, fun j u hu => h6 j u (hp j u hu)⟩
end

/-! ### append -/
section
variable {P : Program} (w : World)
theorem run_appO (t ty e : TypeId) (z : Value) (sz bytes : Nat) (ht : P.underlying t = some (.slice e)) (hi : (P.info? e).map (fun i => (i.zero, i.size, i.bytes)) = some (some z, sz, bytes)) (hzs : z.cells.size = sz)
    (A : Option Addr) (n c : Nat) (xs : List Value) (hown : RowO w e sz A n c xs) (A2 : Option Addr) (m c2 : Nat) (news : List Value) (hm : news.length = m * sz) (hr : Rd w A2 news) (h1 : ∀ u ∈ news, u.oneCell' = true) (h0 : A2 = none → m = 0)
    (h63 : n + m ≤ maxLen) (hbytes : (n + m) * bytes ≤ 140737488355328) :
    ∃ A' c' w', (Builtin.append_ #[t, t] ty #[.slice A n c, .slice A2 m c2]).run P w = .ok (.slice A' (n + m) c') w' ∧ RowO w' e sz A' (n + m) c' (xs ++ news) ∧ Only (inA A) w w' ∧ (∀ k, inA A' k → inA A k ∨ (w.heap.size ≤ k ∧ k < w'.heap.size)) := by
  obtain ⟨i, hinf, hz, hsz, hby⟩ := info_parts hi
  clear hi
  subst hsz hby
  have hsmall : n + m ≤ 9223372036854775807 := by simp only [maxLen] at h63; omega
  have src : Src P i.size t (.slice A2 m c2) m news w := by
    rcases A2 with _ | ad
    · obtain rfl := h0 rfl
      have hnil : news = [] := List.eq_nil_of_length_eq_zero (by simpa using hm)
      subst hnil
      exact Src.ofNil w ht c2
    · exact Src.ofSlice w ht ad m c2 news hm (fun j u hu => by
        obtain ⟨ad', h, hc⟩ := hr j u hu
        injection h with h
        subst h
        exact hc) h1
  have hlen : (xs ++ news).length = (n + m) * i.size := by rw [List.length_append, hown.1, hm, Nat.add_mul]
  by_cases hroom : n + m ≤ c
  · rcases hown.2 with ⟨rfl, rfl, rfl⟩ | ⟨g, off, cs, rfl, hnc, hcm, hb, hsize, hcell⟩
    · have hn0 : m = 0 := by omega
      subst hn0
      have hnil : news = [] := List.eq_nil_of_length_eq_zero (by simpa using hm)
      subst hnil
      refine ⟨none, 0, w, ?_, by rw [List.append_nil]; exact hown, Only.refl _ _, fun k hk => .inl hk⟩
      have hl := src.len w
      have hcl := src.cells
      have hl' : Builtin.lenOf (.slice A2 0 c2) = pure 0 := rfl
      rw [Nat.add_zero]
      unfold Builtin.append_
      simp [run_underlying ht, sizeOf, typeInfo, hinf, hl', hcl]
    · have hfit : off + n * i.size + news.length ≤ cs.size := by
        have h2 : (n + m) * i.size ≤ c * i.size := Nat.mul_le_mul_right _ hroom
        rw [Nat.add_mul] at h2
        omega
      have hcs : ∀ j, j < news.length → (w.cell? ⟨g, off + n * i.size + j, none⟩).isSome = true := fun j hj => by
        rw [hb.cell]; simp; omega
      have hfr : ∀ j, j < news.length → w.frozen? ⟨g, off + n * i.size + j, none⟩ = false := fun j _ => hb.free _
      have hrun := run_append_room_src (P := P) w t t ty e i ht hinf g off n c (.slice A2 m c2) m news src hroom hcs hfr
      obtain ⟨cs', hb', hs', hin, hout⟩ := Blk.setCells news (off + n * i.size) hb hfit
      refine ⟨_, _, _, hrun, ⟨hlen, .inr ⟨g, off, cs', rfl, hroom, hcm, hb', by omega, fun j u hu => ?_⟩⟩, (Only.refl _ w).setCells (.inl ((inA_some _ _ _ _).2 rfl)) _ _, fun k hk => .inl hk⟩
      rw [List.getElem?_append] at hu
      split at hu
      · rename_i hj
        rw [hown.1] at hj
        rw [hout (off + j) (.inl (by omega))]
        exact hcell j u hu
      · rename_i hj
        have := hin _ u hu
        rw [hown.1] at hj this
        rwa [show off + n * i.size + (j - n * i.size) = off + j by omega] at this
  · have hold : (Builtin.firstCells i.size n (.slice A n c)).run P w.drew = .ok xs.toArray w.drew := by
      rcases hown.2 with ⟨rfl, rfl, rfl⟩ | ⟨g, off, cs, rfl, hnc, hcm, hb, hsize, hcell⟩
      · have hnil : xs = [] := List.eq_nil_of_length_eq_zero (by simpa using hown.1)
        subst hnil
        exact run_firstCells_none w.drew i.size 0 0 0
      · refine run_firstCells_some w.drew i.size n ⟨g, off, none⟩ n c xs hown.1 (fun j u hu => ?_)
        rw [Addr.add_mid, (Blk.drew hb).cell]
        exact hcell j u hu
    have hrun := run_append_grow_src (P := P) w t t ty e i z ht hinf hz A n c xs hold (.slice A2 m c2) m news src (by omega) (by omega) (growslice_fits (by omega) hbytes)
    have hge := grownCap_ge w (n + m) c e
    have hcm : grownCap w (n + m) c e ≤ maxLen := grownCap_le_maxLen w (n + m) c e h63
    refine ⟨_, _, _, hrun, ⟨hlen, .inr ⟨w.heap.size, 0, _, rfl, hge, hcm, heap_alloc_new w.drew _, ?_, fun j u hu => ?_⟩⟩, ((Only.refl _ w).drew).alloc _, fun k hk => .inr ?_⟩
    · simp only [Array.size_append, List.size_toArray, size_zeroCells, hzs, hlen, ← Nat.add_mul]
      rw [Nat.zero_add]
      exact Nat.le_of_eq (congrArg (· * i.size) (by omega))
    · have hj := (List.getElem?_eq_some_iff.1 hu).1
      rw [Nat.zero_add, Array.getElem?_append_left (by simpa using hj)]
      simpa using hu
    · rw [inA_some] at hk
      subst hk
      simp

theorem wp_appO {o : Oper} {a : Act} {K : Act → World → Prop} {Q : Exit → Act → World → Prop} (s x : Operand) (t : TypeId)
    (ho : o.op = .call { callee := .builtin .append, args := #[s, x], argTypes := #[t, t] })
    (e : TypeId) (z : Value) (sz bytes : Nat) (ht : P.underlying t = some (.slice e)) (hi : (P.info? e).map (fun i => (i.zero, i.size, i.bytes)) = some (some z, sz, bytes)) (hzs : z.cells.size = sz)
    (A : Option Addr) (n c : Nat) (xs : List Value) (hs : a.eval s = .slice A n c) (hown : RowO w e sz A n c xs)
    (A2 : Option Addr) (m c2 : Nat) (news : List Value) (hx : a.eval x = .slice A2 m c2) (hm : news.length = m * sz) (hr : Rd w A2 news) (h1 : ∀ u ∈ news, u.oneCell' = true) (h0 : A2 = none → m = 0)
    (h63 : n + m ≤ maxLen) (hbytes : (n + m) * bytes ≤ 140737488355328)
    (h : ∀ A' c' w', RowO w' e sz A' (n + m) c' (xs ++ news) → Only (inA A) w w' → (∀ k, inA A' k → inA A k ∨ (w.heap.size ≤ k ∧ k < w'.heap.size)) → K (a.put o.dst (.slice A' (n + m) c')) w') : o.wp P a w K Q := by
  obtain ⟨A', c', w', hrun, h2, h3, h4⟩ := run_appO (P := P) w t o.type e z sz bytes ht hi hzs A n c xs hown A2 m c2 news hm hr h1 h0 h63 hbytes
  unfold Oper.wp execOp
  simp only [ho, resolve, invoke, builtin, Sem.run_bind, Sem.run_pure, Result.andThen_ok, List.map_toArray, List.map_cons, List.map_nil, hs, hx, hrun]
  exact h A' c' w' h2 h3 h4

theorem wpList_appO {ops : Array Oper} {rest : List Oper} {o : Oper} {a : Act} {Q : Exit → Act → World → Prop} (hgd : o.guard = none) (s x : Operand) (t : TypeId)
    (ho : o.op = .call { callee := .builtin .append, args := #[s, x], argTypes := #[t, t] })
    (e : TypeId) (z : Value) (sz bytes : Nat) (ht : P.underlying t = some (.slice e)) (hi : (P.info? e).map (fun i => (i.zero, i.size, i.bytes)) = some (some z, sz, bytes)) (hzs : z.cells.size = sz)
    (A : Option Addr) (n c : Nat) (xs : List Value) (hs : a.eval s = .slice A n c) (hown : RowO w e sz A n c xs)
    (A2 : Option Addr) (m c2 : Nat) (news : List Value) (hx : a.eval x = .slice A2 m c2) (hm : news.length = m * sz) (hr : Rd w A2 news) (h1 : ∀ u ∈ news, u.oneCell' = true) (h0 : A2 = none → m = 0)
    (h63 : n + m ≤ maxLen) (hbytes : (n + m) * bytes ≤ 140737488355328)
    (h : ∀ A' c' w', RowO w' e sz A' (n + m) c' (xs ++ news) → Only (inA A) w w' → (∀ k, inA A' k → inA A k ∨ (w.heap.size ≤ k ∧ k < w'.heap.size)) → wpList P ops Q rest (a.put o.dst (.slice A' (n + m) c')) w') : wpList P ops Q (o :: rest) a w :=
  wpList_plain hgd fun _ hK => wp_appO w s x t ho e z sz bytes ht hi hzs A n c xs hs hown A2 m c2 news hx hm hr h1 h0 h63 hbytes fun A' c' w' h2 h3 h4 => hK _ _ (h A' c' w' h2 h3 h4)

/-- at a step of a region that draws its order -/
theorem step_appO {ops : Array Oper} {o : Oper} {a : Act} {K : Act → World → Prop} {Q : Exit → Act → World → Prop} {E : Prop} (hgd : o.guard = none) (s x : Operand) (t : TypeId)
    (ho : o.op = .call { callee := .builtin .append, args := #[s, x], argTypes := #[t, t] })
    (e : TypeId) (z : Value) (sz bytes : Nat) (ht : P.underlying t = some (.slice e)) (hi : (P.info? e).map (fun i => (i.zero, i.size, i.bytes)) = some (some z, sz, bytes)) (hzs : z.cells.size = sz)
    (A : Option Addr) (n c : Nat) (xs : List Value) (hs : a.eval s = .slice A n c) (hown : RowO w e sz A n c xs)
    (A2 : Option Addr) (m c2 : Nat) (news : List Value) (hx : a.eval x = .slice A2 m c2) (hm : news.length = m * sz) (hr : Rd w A2 news) (h1 : ∀ u ∈ news, u.oneCell' = true) (h0 : A2 = none → m = 0)
    (h63 : n + m ≤ maxLen) (hbytes : (n + m) * bytes ≤ 140737488355328)
    (h : ∀ A' c' w', RowO w' e sz A' (n + m) c' (xs ++ news) → Only (inA A) w w' → (∀ k, inA A' k → inA A k ∨ (w.heap.size ≤ k ∧ k < w'.heap.size)) → K (a.put o.dst (.slice A' (n + m) c')) w') :
    if Region.wanted o (yielded ops a.tmps) = true then Oper.wp P o a w K Q else E := by
  have hw : Region.wanted o (yielded ops a.tmps) = true := by simp [Region.wanted, hgd]
  rw [if_pos hw]
  exact wp_appO w s x t ho e z sz bytes ht hi hzs A n c xs hs hown A2 m c2 news hx hm hr h1 h0 h63 hbytes h
end
end Go.Proofs.YtgphmflcfcjipaaDoor

/-
  Rows that were made anew; addresses at a place of a block; small words on worlds. No statement of the seat is proved here.
-/
namespace Go.Proofs.YtgphmflcfcjipaaDoor
open Go Go.RowKit
set_option maxRecDepth 100000

/-- a row that was made since 'w' -/
def NewO (w w' : World) (e : TypeId) (sz : Nat) (A : Option Addr) (m c : Nat) (xs : List Value) : Prop := RowO w' e sz A m c xs ∧ Below w.heap.size w w' ∧ ∀ k, inA A k → w.heap.size ≤ k
section
variable {w w1 w2 w3 : World} {e : TypeId} {sz : Nat} {A A' : Option Addr} {m n c c' : Nat} {xs ys : List Value}
theorem NewO.start (w : World) (e : TypeId) (sz : Nat) : NewO w w e sz none 0 0 [] := ⟨RowO.none_ _ _ _, Below.refl _ _, fun k hk => absurd hk (inA_none k)⟩
theorem NewO.row (h : NewO w w1 e sz A m c xs) : RowO w1 e sz A m c xs := h.1
theorem NewO.bel (h : NewO w w1 e sz A m c xs) : Below w.heap.size w w1 := h.2.1
theorem NewO.ext (h : NewO w w1 e sz A m c xs) (hb : Below w1.heap.size w1 w2) : NewO w w2 e sz A m c xs := ⟨h.1.ext hb, ext_trans h.2.1 hb, h.2.2⟩
theorem NewO.grow (h : NewO w w1 e sz A m c xs) (hb : Below w1.heap.size w1 w2) (hr : RowO w3 e sz A' n c' ys) (ho : Only (inA A) w2 w3) (hA : ∀ k, inA A' k → inA A k ∨ (w2.heap.size ≤ k ∧ k < w3.heap.size)) : NewO w w3 e sz A' n c' ys := by
  have h1 := h.2.1.size
  have h2 := hb.size
  refine ⟨hr, (ext_trans h.2.1 hb).trans (ho.below (fun i hi => h.2.2 i hi) (by omega)), fun k hk => ?_⟩
  rcases hA k hk with hk | hk
  · exact h.2.2 k hk
  · omega
theorem NewO.rd (h : NewO w w1 e sz A m c xs) : Rd w1 A xs := h.1.rd
theorem NewO.back {w0 : World} (h : NewO w w1 e sz A m c xs) (hb : Below w0.heap.size w0 w) : NewO w0 w1 e sz A m c xs := ⟨h.1, hb.trans (h.2.1.mono hb.size), fun k hk => Nat.le_trans hb.size (h.2.2 k hk)⟩
end

/-- an address at a place of a block -/
def Flat (A : Option Addr) : Prop := ∀ ad, A = some ad → ∃ g o, ad = ⟨g, o, none⟩
theorem RowO.flat {w : World} {e : TypeId} {sz : Nat} {A : Option Addr} {m c : Nat} {xs : List Value} (h : RowO w e sz A m c xs) : Flat A := fun ad e' => by
  rcases h.2 with ⟨h1, _⟩ | ⟨g, o, _, h1, _⟩
  · rw [h1] at e'; cases e'
  · rw [h1] at e'; injection e' with e'; exact ⟨g, o, e'.symm⟩
theorem RowO.addr {w : World} {e : TypeId} {sz : Nat} {A : Option Addr} {m c : Nat} {xs : List Value} (h : RowO w e sz A m c xs) (h0 : 0 < m) : ∃ g o, A = some ⟨g, o, none⟩ := by
  rcases h.2 with ⟨_, h1, _⟩ | ⟨g, o, _, h1, _⟩
  · omega
  · exact ⟨g, o, h1⟩
theorem RowO.free {w : World} {e : TypeId} {sz : Nat} {g o m c : Nat} {xs : List Value} (h : RowO w e sz (some ⟨g, o, none⟩) m c xs) (j : Nat) : w.frozen? ⟨g, j, none⟩ = false := by
  rcases h.2 with ⟨h1, _⟩ | ⟨g', o', cs, h1, h2, h3, h4, h5, h6⟩
  · cases h1
  · injection h1 with h1
    injection h1 with h1 h1' _
    subst h1 h1'
    exact h4.free j
theorem RowO.set {w : World} {e : TypeId} {sz : Nat} {g o m c : Nat} {xs : List Value} (h : RowO w e sz (some ⟨g, o, none⟩) m c xs) (j : Nat) (hj : j < xs.length) (u : Value) : RowO (w.setCell ⟨g, o + j, none⟩ u) e sz (some ⟨g, o, none⟩) m c (xs.set j u) := by
  refine ⟨by rw [List.length_set]; exact h.1, ?_⟩
  rcases h.2 with ⟨h1, _⟩ | ⟨g', o', cs, h1, h2, h3, h4, h5, h6⟩
  · cases h1
  · injection h1 with h1
    injection h1 with h1 h1' _
    subst h1 h1'
    refine .inr ⟨g, o, cs.setIfInBounds (o + j) u, rfl, h2, h3, h4.put (o + j) u, by simpa using h5, fun i v hv => ?_⟩
    rw [List.getElem?_set] at hv
    split at hv
    · rename_i hij
      subst hij
      have hlt : o + j < cs.size := by
        have := h6 j _ (List.getElem?_eq_getElem hj)
        exact (Array.getElem?_eq_some_iff.1 this).1
      rw [Array.getElem?_setIfInBounds_self_of_lt hlt]; exact hv
    · rename_i hij
      rw [Array.getElem?_setIfInBounds_ne (by omega)]
      exact h6 i v hv
theorem NewO.set {w w1 : World} {e : TypeId} {sz : Nat} {g o m c : Nat} {xs : List Value} (h : NewO w w1 e sz (some ⟨g, o, none⟩) m c xs) (j : Nat) (hj : j < xs.length) (u : Value) : NewO w (w1.setCell ⟨g, o + j, none⟩ u) e sz (some ⟨g, o, none⟩) m c (xs.set j u) :=
  ⟨h.1.set j hj u, ⟨h.2.1.os, h.2.1.tape, h.2.1.output, by simpa [World.setCell] using h.2.1.size, fun i hi => (Below.heap_setCell w1 ⟨g, o + j, none⟩ u i (by
    have := h.2.2 g ((inA_some _ _ _ _).2 rfl)
    show i ≠ g
    omega)).trans (h.2.1.block i hi)⟩, h.2.2⟩

theorem ext2 (w : World) (a b : Obj) : Below w.heap.size w ((w.alloc a).alloc b) := ((Below.refl _ _).alloc (Nat.le_refl _) _).alloc (by simp) _
theorem ext_alloc {a w : World} (h : Below a.heap.size a w) (o : Obj) : Below a.heap.size a (w.alloc o) := h.alloc h.size o
theorem ext_drew {a w : World} (h : Below a.heap.size a w) : Below a.heap.size a w.drew := ext_drewN h 1
theorem cell_only {S : Nat → Prop} {w w' : World} {p : Addr} {v : Value} (h : w.cell? p = some v) (ho : Only S w w') (hn : ¬ S p.block) : w'.cell? p = some v :=
  (World.cell?_of_block (ho.block _ (World.block_lt_of_cell? w _ h) hn)).trans h
theorem take_snoc {α : Type} (l : List α) (k : Nat) (h : k < l.length) : l.take (k + 1) = l.take k ++ [l[k]] := by
  rw [List.take_add_one, List.getElem?_eq_getElem h]; rfl
/-! ### cells, each element of so many -/
theorem flat_at {β : Type} (enc : β → List Value) (sz : Nat) (h : ∀ b, (enc b).length = sz) : ∀ (l : List β) (k j : Nat) (hk : k < l.length), j < sz → (l.flatMap enc)[k * sz + j]? = (enc l[k])[j]?
  | a :: r, 0, j, hk, hj => by
    rw [List.flatMap_cons, List.getElem?_append_left (by rw [h]; omega)]
    simp
  | a :: r, k + 1, j, hk, hj => by
    simp only [List.length_cons] at hk
    rw [List.flatMap_cons, List.getElem?_append_right (by rw [h, Nat.add_mul]; omega), h, show (k + 1) * sz + j - sz = k * sz + j by rw [Nat.add_mul]; omega]
    rw [flat_at enc sz h r k j (by omega) hj]
    rfl
theorem flat_len {β : Type} (enc : β → List Value) (sz : Nat) (h : ∀ b, (enc b).length = sz) (l : List β) : (l.flatMap enc).length = l.length * sz := by
  induction l with
  | nil => simp
  | cons a r ih => rw [List.flatMap_cons, List.length_append, h, ih, List.length_cons, Nat.add_mul]; omega
/-- append of one element onto a row that was made anew -/
theorem wpList_app_new {P : Program} {w : World} {ops : Array Oper} {rest : List Oper} {o : Oper} {a : Act} {Q : Exit → Act → World → Prop} (hgd : o.guard = none) (s x : Operand) (t : TypeId)
    (ho : o.op = .call { callee := .builtin .append, args := #[s, x], argTypes := #[t, t] })
    (e : TypeId) (z : Value) (sz bytes : Nat) (ht : P.underlying t = some (.slice e)) (hi : (P.info? e).map (fun i => (i.zero, i.size, i.bytes)) = some (some z, sz, bytes)) (hzs : z.cells.size = sz)
    {w0 wr : World} (A : Option Addr) (n c : Nat) (xs : List Value) (hN : NewO w0 wr e sz A n c xs) (hb : Below wr.heap.size wr w) (hs : a.eval s = .slice A n c)
    (ad : Addr) (c2 : Nat) (news : List Value) (hx : a.eval x = .slice (some ad) 1 c2) (hm : news.length = 1 * sz) (hr : Rd w (some ad) news) (h1 : ∀ u ∈ news, u.oneCell' = true)
    (h63 : n + 1 ≤ maxLen) (hbytes : (n + 1) * bytes ≤ 140737488355328)
    (h : ∀ A' c' w', NewO w0 w' e sz A' (n + 1) c' (xs ++ news) → Below w0.heap.size w0 w' → wpList P ops Q rest (a.put o.dst (.slice A' (n + 1) c')) w') : wpList P ops Q (o :: rest) a w :=
  wpList_appO w hgd s x t ho e z sz bytes ht hi hzs A n c xs hs (hN.row.ext hb) (some ad) 1 c2 news hx hm hr h1 (fun h => by cases h) h63 hbytes fun A' c' w' hr' ho' hA' => by
    have h2 := hN.grow hb hr' ho' hA'
    exact h A' c' w' h2 h2.bel
end Go.Proofs.YtgphmflcfcjipaaDoor

/-
  The table of the kinds: names and patterns. No Go here.
-/
namespace Go.Proofs.YtgphmflcfcjipaaDoor
open Go Go.RowKit
set_option maxRecDepth 100000

def namesU : List (List UInt8) := [[115, 116, 97, 109, 112], [105, 112], [109, 97, 99], [104, 101, 120], [110, 117, 109, 98, 101, 114], [113, 117, 111, 116, 101, 100], [119, 111, 114, 100], [98, 108, 97, 110, 107], [111, 116, 104, 101, 114]]
def patsU : List (List UInt8) := [[91, 48, 45, 57, 93, 123, 52, 125, 92, 120, 50, 100, 91, 48, 45, 57, 93, 123, 50, 125, 92, 120, 50, 100, 91, 48, 45, 57, 93, 123, 50, 125, 84, 91, 48, 45, 57, 93, 123, 50, 125, 58, 91, 48, 45, 57, 93, 123, 50, 125, 58, 91, 48, 45, 57, 93, 123, 50, 125], [91, 48, 45, 57, 93, 123, 49, 44, 51, 125, 40, 92, 46, 91, 48, 45, 57, 93, 123, 49, 44, 51, 125, 41, 123, 51, 125], [91, 48, 45, 57, 97, 45, 102, 93, 123, 50, 125, 40, 58, 91, 48, 45, 57, 97, 45, 102, 93, 123, 50, 125, 41, 123, 53, 125], [48, 120, 91, 48, 45, 57, 97, 45, 102, 65, 45, 70, 93, 43], [92, 45, 63, 91, 48, 45, 57, 93, 43, 40, 92, 46, 91, 48, 45, 57, 93, 43, 41, 63], [34, 40, 91, 94, 34, 92, 92, 93, 124, 92, 92, 46, 41, 42, 34], [91, 65, 45, 90, 97, 45, 122, 95, 93, 91, 65, 45, 90, 97, 45, 122, 48, 45, 57, 95, 93, 42], [91, 32, 92, 116, 93, 43], [46]]
theorem namesU_len : namesU.length = 9 := by decide
theorem patsU_len : patsU.length = 9 := by decide
def nameU (k : Int) : List UInt8 := if 0 ≤ k ∧ k < 9 then namesU.getD k.toNat [] else []
def patU (k : Int) : List UInt8 := if 0 ≤ k ∧ k < 9 then patsU.getD k.toNat [] else []
/-- a name's number -/
def kindU (s : List UInt8) : Option Nat := namesU.findIdx? (fun x => decide (x = s))
def kindI (s : List UInt8) : Int := match kindU s with | some k => (k : Int) | none => -1
def kindB (s : List UInt8) : Bool := (kindU s).isSome
theorem kindU_some (s : List UInt8) (k : Nat) (h : k < namesU.length) (he : namesU[k] = s) (hn : ∀ j (hj : j < k), namesU[j]'(by omega) ≠ s) : kindU s = some k := by
  unfold kindU
  rw [List.findIdx?_eq_some_iff_getElem]
  exact ⟨h, by simpa using he, fun j hj => by simpa using hn j hj⟩
theorem kindU_none (s : List UInt8) (hn : ∀ j (hj : j < namesU.length), namesU[j] ≠ s) : kindU s = none := by
  unfold kindU
  rw [List.findIdx?_eq_none_iff]
  intro x hx
  obtain ⟨j, hj, rfl⟩ := List.getElem_of_mem hx
  simpa using hn j hj
/-- the table's cells -/
def encR (x : List UInt8 × List UInt8) : List Value := [strV x.1, strV x.2]
def tabL : List Value := (namesU.zip patsU).flatMap encR
def tabZ : List (List UInt8 × List UInt8) := namesU.zip patsU
theorem tabZ_len : tabZ.length = 9 := by decide
theorem tabZ_at (k : Nat) (h : k < tabZ.length) : tabZ[k] = (namesU[k]'(by rw [tabZ_len] at h; rw [namesU_len]; exact h), patsU[k]'(by rw [tabZ_len] at h; rw [patsU_len]; exact h)) := List.getElem_zip
/-- the table is there -/
def TabR (W : World) : Prop := ∀ (j : Nat) (u : Value), tabL[j]? = some u → W.cell? ⟨0, j, none⟩ = some u
theorem TabR.ext {w w' : World} (h : TabR w) (hb : Below w.heap.size w w') : TabR w' := fun j u hu => by
  have h1 := h j u hu
  exact (World.cell?_of_block (hb.block _ (World.block_lt_of_cell? w _ h1))).trans h1
theorem TabR.at_ {w : World} (h : TabR w) {k : Nat} (hk : k < 9) : w.cell? ⟨0, k * 2, none⟩ = some (strV (namesU[k]'(by rw [namesU_len]; exact hk))) ∧ w.cell? ⟨0, k * 2 + 1, none⟩ = some (strV (patsU[k]'(by rw [patsU_len]; exact hk))) := by
  have hz : k < tabZ.length := by rw [tabZ_len]; exact hk
  have e := tabZ_at k hz
  have h0 := flat_at encR 2 (fun _ => rfl) tabZ k 0 hz (by omega)
  have h1 := flat_at encR 2 (fun _ => rfl) tabZ k 1 hz (by omega)
  rw [e] at h0 h1
  exact ⟨h _ _ h0, h _ _ h1⟩
end Go.Proofs.YtgphmflcfcjipaaDoor

/-
  The contracts of ofKind, Name, Pattern, Kind, and of the reference's Name, Pattern, Kind. No statement of the seat is proved here.
-/
namespace Go.Proofs.YtgphmflcfcjipaaDoor
open Go Go.RowKit
set_option maxRecDepth 100000

theorem blk_at (w : World) (t : TypeId) (cs : Array Value) {g : Nat} (hg : g = w.heap.size) : Blk (w.alloc (.cells cs t)) g t cs := by subst hg; exact Blk.new w t cs
theorem str_hide (xs : List UInt8) : ∃ Z : ByteArray, strV xs = .string Z ∧ Z.size = xs.length := ⟨_, rfl, by simp [ByteArray.size]⟩
theorem size_rule {ds : Array Value} (h : ds.size = 2) : (Tryd.prog.info? 28).map (·.size) = some ds.size := by rw [h]; kernel_rfl
theorem results_rule {fn : Func} {t : Tmp} (h : fn.results = #[.cell t 28]) (tmps : Array Value) (w : World) (g : Nat) (e : TypeId) (cs : Array Value) (hc : cs.size = 2)
    (ht : tmps.getD t undef = .pointer (some ⟨g, 0, none⟩)) (hb : Blk w g e cs) : (results fn tmps).run Tryd.prog w = .ok (.agg cs) w := by
  have hl := run_loadVar_row (P := Tryd.prog) w g e 28 cs (0, 0) _ hb Tryd.underlying28 rfl (size_rule hc)
  rw [Array.getD_eq_getD_getElem?] at ht
  simp [results, h, ht, asAddr, hl]
theorem nameU_in {k : Nat} (h : k < 9) : nameU (k : Int) = namesU[k]'(by rw [namesU_len]; exact h) := by
  unfold nameU
  rw [if_pos ⟨by omega, by omega⟩, Int.toNat_natCast, List.getD_eq_getElem?_getD, List.getElem?_eq_getElem]; rfl
theorem patU_in {k : Nat} (h : k < 9) : patU (k : Int) = patsU[k]'(by rw [patsU_len]; exact h) := by
  unfold patU
  rw [if_pos ⟨by omega, by omega⟩, Int.toNat_natCast, List.getD_eq_getElem?_getD, List.getElem?_eq_getElem]; rfl
theorem nameU_out {k : Int} (h : ¬ (0 ≤ k ∧ k < 9)) : nameU k = [] := if_neg h
theorem patU_out {k : Int} (h : ¬ (0 ≤ k ∧ k < 9)) : patU k = [] := if_neg h
def SaysRule (k : Int) (w : World) (e : Ending) (w' : World) : Prop := e = .returned (.agg #[strV (nameU k), strV (patU k)]) ∧ Below w.heap.size w w'
set_option maxHeartbeats 1000000 in
theorem ofkind_any (k : Int) (w : World) (ht : TabR w) : Calls Tryd.prog 11 #[.int .i64 k] w (SaysRule k w) := by
  by_cases h0 : 0 ≤ k
  · by_cases h9 : k < 9
    · obtain ⟨n, rfl⟩ : ∃ n : Nat, k = (n : Int) := ⟨k.toNat, by omega⟩
      have hn : n < 9 := by omega
      obtain ⟨c0, c1⟩ := (ht.ext (ext_alloc (Below.refl w.heap.size w) (Obj.cells #[.string ⟨#[]⟩, .string ⟨#[]⟩] 28))).at_ hn
      unfold SaysRule
      rw [nameU_in hn, patU_in hn]
      obtain ⟨Y, hY, -⟩ := str_hide (namesU[n]'(by rw [namesU_len]; exact hn))
      obtain ⟨Z, hZ, -⟩ := str_hide (patsU[n]'(by rw [patsU_len]; exact hn))
      rw [hY] at c0 ⊢
      rw [hZ] at c1 ⊢
      clear hY hZ
      go_enter Tryd.func11, Tryd.ntmps11
      go_wp2
      exact bodyPost_ret (v := .agg #[.string Y, .string Z]) (results_rule rfl _ _ _ 28 #[.string Y, .string Z] rfl rfl (blk_at _ _ _ rfl)) rfl ⟨rfl, ext_alloc (Below.refl _ _) _⟩
    · unfold SaysRule
      rw [nameU_out (by omega), patU_out (by omega)]
      go_enter Tryd.func11, Tryd.ntmps11
      go_wp2
      exact bodyPost_ret (v := .agg #[.string ⟨#[]⟩, .string ⟨#[]⟩]) (results_rule rfl _ _ _ 28 #[.string ⟨#[]⟩, .string ⟨#[]⟩] rfl rfl (blk_at _ _ _ rfl)) rfl ⟨rfl, ext_alloc (Below.refl _ _) _⟩
  · unfold SaysRule
    rw [nameU_out (by omega), patU_out (by omega)]
    go_enter Tryd.func11, Tryd.ntmps11
    go_wp2
    exact bodyPost_ret (v := .agg #[.string ⟨#[]⟩, .string ⟨#[]⟩]) (results_rule rfl _ _ _ 28 #[.string ⟨#[]⟩, .string ⟨#[]⟩] rfl rfl (blk_at _ _ _ rfl)) rfl ⟨rfl, ext_alloc (Below.refl _ _) _⟩
theorem fld0 (Y Z : ByteArray) (W : World) : (Instr.field 28 (.agg #[.string Y, .string Z]) 0).run Tryd.prog W = .ok (.string Y) W := by kernel_rfl
theorem fld1 (Y Z : ByteArray) (W : World) : (Instr.field 28 (.agg #[.string Y, .string Z]) 1).run Tryd.prog W = .ok (.string Z) W := by kernel_rfl
def SaysStr (s : List UInt8) (w : World) (e : Ending) (w' : World) : Prop := e = .returned (strV s) ∧ Below w.heap.size w w'
theorem name_any (k : Int) (w : World) (ht : TabR w) : Calls Tryd.prog 6 #[.int .i64 k] w (SaysStr (nameU k) w) := by
  have HO := ofkind_any k w ht
  unfold SaysRule at HO
  unfold SaysStr
  obtain ⟨Y, hY, -⟩ := str_hide (nameU k)
  obtain ⟨Z, hZ, -⟩ := str_hide (patU k)
  rw [hY] at HO ⊢
  rw [hZ] at HO
  clear hY hZ
  have hf := fld0 Y Z
  go_enter Tryd.func6, Tryd.ntmps6
  go_wp2_with fail
  refine HO.mono ?_
  rintro e w1 ⟨rfl, hb⟩
  have Hb := Lib.hid hb
  clear hb
  go_wp2
  go_ret
  exact ⟨rfl, Hb.out⟩
theorem pat_any (k : Int) (w : World) (ht : TabR w) : Calls Tryd.prog 8 #[.int .i64 k] w (SaysStr (patU k) w) := by
  have HO := ofkind_any k w ht
  unfold SaysRule at HO
  unfold SaysStr
  obtain ⟨Y, hY, -⟩ := str_hide (nameU k)
  obtain ⟨Z, hZ, -⟩ := str_hide (patU k)
  rw [hY] at HO
  rw [hZ] at HO ⊢
  clear hY hZ
  have hf := fld1 Y Z
  go_enter Tryd.func8, Tryd.ntmps8
  go_wp2_with fail
  refine HO.mono ?_
  rintro e w1 ⟨rfl, hb⟩
  have Hb := Lib.hid hb
  clear hb
  go_wp2
  go_ret
  exact ⟨rfl, Hb.out⟩

/-! ### Kind -/
theorem index_tab (C : Array Value) (hC : C = tabL.toArray) (k : Nat) (hk : k < 9) : ∀ W, (Instr.index 29 (.agg C) (.int .i64 (k : Int))).run Tryd.prog W = .ok (.agg #[strV (namesU[k]'(by rw [namesU_len]; exact hk)), strV (patsU[k]'(by rw [patsU_len]; exact hk))]) W := by
  intro W
  subst hC
  have h0 : (Instr.index 29 (.agg tabL.toArray) (.int .i64 0)).run Tryd.prog W = .ok (.agg #[strV (namesU[0]'(by decide)), strV (patsU[0]'(by decide))]) W := by kernel_rfl
  have h1 : (Instr.index 29 (.agg tabL.toArray) (.int .i64 1)).run Tryd.prog W = .ok (.agg #[strV (namesU[1]'(by decide)), strV (patsU[1]'(by decide))]) W := by kernel_rfl
  have h2 : (Instr.index 29 (.agg tabL.toArray) (.int .i64 2)).run Tryd.prog W = .ok (.agg #[strV (namesU[2]'(by decide)), strV (patsU[2]'(by decide))]) W := by kernel_rfl
  have h3 : (Instr.index 29 (.agg tabL.toArray) (.int .i64 3)).run Tryd.prog W = .ok (.agg #[strV (namesU[3]'(by decide)), strV (patsU[3]'(by decide))]) W := by kernel_rfl
  have h4 : (Instr.index 29 (.agg tabL.toArray) (.int .i64 4)).run Tryd.prog W = .ok (.agg #[strV (namesU[4]'(by decide)), strV (patsU[4]'(by decide))]) W := by kernel_rfl
  have h5 : (Instr.index 29 (.agg tabL.toArray) (.int .i64 5)).run Tryd.prog W = .ok (.agg #[strV (namesU[5]'(by decide)), strV (patsU[5]'(by decide))]) W := by kernel_rfl
  have h6 : (Instr.index 29 (.agg tabL.toArray) (.int .i64 6)).run Tryd.prog W = .ok (.agg #[strV (namesU[6]'(by decide)), strV (patsU[6]'(by decide))]) W := by kernel_rfl
  have h7 : (Instr.index 29 (.agg tabL.toArray) (.int .i64 7)).run Tryd.prog W = .ok (.agg #[strV (namesU[7]'(by decide)), strV (patsU[7]'(by decide))]) W := by kernel_rfl
  have h8 : (Instr.index 29 (.agg tabL.toArray) (.int .i64 8)).run Tryd.prog W = .ok (.agg #[strV (namesU[8]'(by decide)), strV (patsU[8]'(by decide))]) W := by kernel_rfl
  match k, hk with
  | 0, _ => exact h0
  | 1, _ => exact h1
  | 2, _ => exact h2
  | 3, _ => exact h3
  | 4, _ => exact h4
  | 5, _ => exact h5
  | 6, _ => exact h6
  | 7, _ => exact h7
  | 8, _ => exact h8
theorem tabL_one : tabL.toArray.all (·.oneCell') = true := by
  rw [List.all_toArray, List.all_eq_true]
  intro u hu
  obtain ⟨x, _, hx⟩ := List.mem_flatMap.1 hu
  simp only [encR, List.mem_cons, List.not_mem_nil, or_false] at hx
  rcases hx with rfl | rfl <;> rfl
theorem wpList_load_tab {ops : Array Oper} {rest : List Oper} {op : Oper} {a : Act} {w : World} {Q : Exit → Act → World → Prop} (hgd : op.guard = none) (x : Operand) (ho : op.op = .load 29 x)
    (hx : a.eval x = .pointer (some ⟨0, 0, none⟩)) (hT : TabR w) (h : wpList Tryd.prog ops Q rest (a.put op.dst (.agg tabL.toArray)) w) : wpList Tryd.prog ops Q (op :: rest) a w :=
  wpList_load_mid hgd 29 x ho 0 0 hx tabL _ (fun j v hv => by rw [Nat.zero_add]; exact hT j v hv) Tryd.underlying29 rfl (by kernel_rfl) h
def SaysKind (s : List UInt8) (w : World) (e : Ending) (w' : World) : Prop := e = .returned (.tuple #[.int .i64 (kindI s), .bool (kindB s)]) ∧ Below w.heap.size w w'
theorem says_some {s : List UInt8} {k : Nat} (h : kindU s = some k) (w : World) : SaysKind s w = fun e w' => e = .returned (.tuple #[.int .i64 (k : Int), .bool true]) ∧ Below w.heap.size w w' := by
  funext e w'; unfold SaysKind kindI kindB; rw [h]; rfl
theorem says_none {s : List UInt8} (h : kindU s = none) (w : World) : SaysKind s w = fun e w' => e = .returned (.tuple #[.int .i64 (-1), .bool false]) ∧ Below w.heap.size w w' := by
  funext e w'; unfold SaysKind kindI kindB; rw [h]; rfl
theorem eq_cases (xs : List UInt8) (s : ByteArray) : ∃ Y : ByteArray, strV xs = .string Y ∧ ((xs = s.data.toList ∧ Y = s) ∨ (xs ≠ s.data.toList ∧ (Y.toList == s.toList) = false)) := by
  refine ⟨_, rfl, ?_⟩
  by_cases h : xs = s.data.toList
  · exact .inl ⟨h, by rw [h]⟩
  · refine .inr ⟨h, ?_⟩
    obtain ⟨s⟩ := s
    rw [beq_eq_false_iff_ne, ByteArray.toList_mk, ByteArray.toList_mk]
    exact h
set_option maxHeartbeats 2000000 in
theorem kind_any (s : ByteArray) (w : World) (ht : TabR w) : Calls Tryd.prog 4 #[.string s] w (SaysKind s.data.toList w) := by
  have hnl := namesU_len
  obtain ⟨C, hC⟩ : ∃ C, C = tabL.toArray := ⟨_, rfl⟩
  have HI := Lib.hid (index_tab C hC)
  have HC := Lib.hid hC
  have Hnl := Lib.hid hnl
  clear hC hnl
  go_enter Tryd.func4, Tryd.ntmps4
  go_wp2_with (refine wpList_load_tab rfl _ rfl rfl ht ?_; rw [← HC.out])
  go_loopw [7] (fun i wr => ∃ k : Nat, k ≤ 9 ∧ i = .int .i64 (k : Int) ∧ Hid (∀ j (hj : j < k) (hl : j < namesU.length), namesU[j] ≠ s.data.toList) ∧ Hid (Below w.heap.size w wr)) (fun i _ => 9 - (intOf i).toNat)
  case atStart => exact ⟨0, by omega, rfl, Lib.hid (fun j hj => absurd hj (by omega)), Lib.hid (Below.refl _ _)⟩
  case round =>
    obtain ⟨k, hk, rfl, Hn, Hb⟩ := hrel
    by_cases hlt : k < 9
    · have hki : (k : Int) < 9 := by omega
      have hkl : k < namesU.length := by have := Hnl.out; omega
      have hidx := HI.out k hlt
      obtain ⟨Y, hY, hc⟩ := eq_cases namesU[k] s
      obtain ⟨Z, hZ, -⟩ := str_hide (patsU[k]'(by rw [patsU_len]; exact hlt))
      rw [hY, hZ] at hidx
      clear hY hZ
      rcases hc with ⟨he, rfl⟩ | ⟨he, hf⟩
      · have hsome : kindU Y.data.toList = some k := kindU_some _ k hkl he (fun j hj => Hn.out j hj (by omega))
        have HS := Lib.hid (says_some hsome w)
        clear hsome he
        go_wp2
        go_ret2
        show SaysKind Y.data.toList w _ _
        rw [HS.out]
        exact ⟨rfl, ext_alloc Hb.out _⟩
      · have Hn2 : Hid (∀ j (hj : j < k + 1) (hl : j < namesU.length), namesU[j] ≠ s.data.toList) := Lib.hid (fun j hj hl => by
          by_cases hjk : j < k
          · exact Hn.out j hjk hl
          · obtain rfl : j = k := by omega
            exact he)
        clear he
        go_wp2
        go_roundw
        case rel => exact ⟨k + 1, by omega, by go_num, Hn2, Lib.hid (ext_alloc Hb.out _)⟩
        case measure => simp [intOf]; omega
    · obtain rfl : k = 9 := by omega
      have hnone : kindU s.data.toList = none := kindU_none _ (fun j hj => Hn.out j (by have := Hnl.out; omega) hj)
      have HS := Lib.hid (says_none hnone w)
      clear hnone
      go_wp2
      go_ret2
      show SaysKind s.data.toList w _ _
      rw [HS.out]
      exact ⟨rfl, Hb.out⟩
end Go.Proofs.YtgphmflcfcjipaaDoor

/-
  The contracts of the reference's Name, Pattern, Kind; known. No statement of the seat is proved here.
-/
namespace Go.Proofs.YtgphmflcfcjipaaDoor
open Go Go.RowKit
set_option maxRecDepth 100000

def nameC : Array Value := #[.string ⟨#[115, 116, 97, 109, 112]⟩, .string ⟨#[105, 112]⟩, .string ⟨#[109, 97, 99]⟩, .string ⟨#[104, 101, 120]⟩, .string ⟨#[110, 117, 109, 98, 101, 114]⟩, .string ⟨#[113, 117, 111, 116, 101, 100]⟩, .string ⟨#[119, 111, 114, 100]⟩, .string ⟨#[98, 108, 97, 110, 107]⟩, .string ⟨#[111, 116, 104, 101, 114]⟩]
theorem nameC_at (n : Nat) (h : n < 9) : nameC[n]? = some (strV (namesU[n]'(by rw [namesU_len]; exact h))) := by
  match n, h with
  | 0, _ | 1, _ | 2, _ | 3, _ | 4, _ | 5, _ | 6, _ | 7, _ | 8, _ => rfl
set_option maxHeartbeats 1000000 in
theorem rname_any (k : Int) (w : World) : Calls Tryd.prog 7 #[.int .i64 k] w (SaysStr (nameU k) w) := by
  by_cases h0 : 0 ≤ k
  · by_cases h9 : k < 9
    · obtain ⟨n, rfl⟩ : ∃ n : Nat, k = (n : Int) := ⟨k.toNat, by omega⟩
      have hn : n < 9 := by omega
      unfold SaysStr
      rw [nameU_in hn]
      have c0 : (w.alloc (Obj.cells #[.string ⟨#[115, 116, 97, 109, 112]⟩, .string ⟨#[105, 112]⟩, .string ⟨#[109, 97, 99]⟩, .string ⟨#[104, 101, 120]⟩, .string ⟨#[110, 117, 109, 98, 101, 114]⟩, .string ⟨#[113, 117, 111, 116, 101, 100]⟩, .string ⟨#[119, 111, 114, 100]⟩, .string ⟨#[98, 108, 97, 110, 107]⟩, .string ⟨#[111, 116, 104, 101, 114]⟩] 9)).cell? ⟨w.heap.size, n, none⟩ = some (strV (namesU[n]'(by rw [namesU_len]; exact hn))) := ((Blk.new w 9 nameC).cell n).trans (nameC_at n hn)
      obtain ⟨Y, hY, -⟩ := str_hide (namesU[n]'(by rw [namesU_len]; exact hn))
      rw [hY] at c0 ⊢
      clear hY
      go_enter Tryd.func7, Tryd.ntmps7
      go_wp2
      go_ret
      exact ⟨rfl, ext_alloc (Below.refl _ _) _⟩
    · unfold SaysStr
      rw [nameU_out (by omega)]
      go_enter Tryd.func7, Tryd.ntmps7
      go_wp2
      go_ret
      exact ⟨rfl, ext_alloc (Below.refl _ _) _⟩
  · unfold SaysStr
    rw [nameU_out (by omega)]
    go_enter Tryd.func7, Tryd.ntmps7
    go_wp2
    go_ret
    exact ⟨rfl, ext_alloc (Below.refl _ _) _⟩

def patC : Array Value := #[.string ⟨#[91, 48, 45, 57, 93, 123, 52, 125, 92, 120, 50, 100, 91, 48, 45, 57, 93, 123, 50, 125, 92, 120, 50, 100, 91, 48, 45, 57, 93, 123, 50, 125, 84, 91, 48, 45, 57, 93, 123, 50, 125, 58, 91, 48, 45, 57, 93, 123, 50, 125, 58, 91, 48, 45, 57, 93, 123, 50, 125]⟩, .string ⟨#[91, 48, 45, 57, 93, 123, 49, 44, 51, 125, 40, 92, 46, 91, 48, 45, 57, 93, 123, 49, 44, 51, 125, 41, 123, 51, 125]⟩, .string ⟨#[91, 48, 45, 57, 97, 45, 102, 93, 123, 50, 125, 40, 58, 91, 48, 45, 57, 97, 45, 102, 93, 123, 50, 125, 41, 123, 53, 125]⟩, .string ⟨#[48, 120, 91, 48, 45, 57, 97, 45, 102, 65, 45, 70, 93, 43]⟩, .string ⟨#[92, 45, 63, 91, 48, 45, 57, 93, 43, 40, 92, 46, 91, 48, 45, 57, 93, 43, 41, 63]⟩, .string ⟨#[34, 40, 91, 94, 34, 92, 92, 93, 124, 92, 92, 46, 41, 42, 34]⟩, .string ⟨#[91, 65, 45, 90, 97, 45, 122, 95, 93, 91, 65, 45, 90, 97, 45, 122, 48, 45, 57, 95, 93, 42]⟩, .string ⟨#[91, 32, 92, 116, 93, 43]⟩, .string ⟨#[46]⟩]
theorem patC_at (n : Nat) (h : n < 9) : patC[n]? = some (strV (patsU[n]'(by rw [patsU_len]; exact h))) := by
  match n, h with
  | 0, _ | 1, _ | 2, _ | 3, _ | 4, _ | 5, _ | 6, _ | 7, _ | 8, _ => rfl
set_option maxHeartbeats 1000000 in
theorem rpat_any (k : Int) (w : World) : Calls Tryd.prog 9 #[.int .i64 k] w (SaysStr (patU k) w) := by
  by_cases h0 : 0 ≤ k
  · by_cases h9 : k < 9
    · obtain ⟨n, rfl⟩ : ∃ n : Nat, k = (n : Int) := ⟨k.toNat, by omega⟩
      have hn : n < 9 := by omega
      unfold SaysStr
      rw [patU_in hn]
      have c0 : (w.alloc (Obj.cells #[.string ⟨#[91, 48, 45, 57, 93, 123, 52, 125, 92, 120, 50, 100, 91, 48, 45, 57, 93, 123, 50, 125, 92, 120, 50, 100, 91, 48, 45, 57, 93, 123, 50, 125, 84, 91, 48, 45, 57, 93, 123, 50, 125, 58, 91, 48, 45, 57, 93, 123, 50, 125, 58, 91, 48, 45, 57, 93, 123, 50, 125]⟩, .string ⟨#[91, 48, 45, 57, 93, 123, 49, 44, 51, 125, 40, 92, 46, 91, 48, 45, 57, 93, 123, 49, 44, 51, 125, 41, 123, 51, 125]⟩, .string ⟨#[91, 48, 45, 57, 97, 45, 102, 93, 123, 50, 125, 40, 58, 91, 48, 45, 57, 97, 45, 102, 93, 123, 50, 125, 41, 123, 53, 125]⟩, .string ⟨#[48, 120, 91, 48, 45, 57, 97, 45, 102, 65, 45, 70, 93, 43]⟩, .string ⟨#[92, 45, 63, 91, 48, 45, 57, 93, 43, 40, 92, 46, 91, 48, 45, 57, 93, 43, 41, 63]⟩, .string ⟨#[34, 40, 91, 94, 34, 92, 92, 93, 124, 92, 92, 46, 41, 42, 34]⟩, .string ⟨#[91, 65, 45, 90, 97, 45, 122, 95, 93, 91, 65, 45, 90, 97, 45, 122, 48, 45, 57, 95, 93, 42]⟩, .string ⟨#[91, 32, 92, 116, 93, 43]⟩, .string ⟨#[46]⟩] 9)).cell? ⟨w.heap.size, n, none⟩ = some (strV (patsU[n]'(by rw [patsU_len]; exact hn))) := ((Blk.new w 9 patC).cell n).trans (patC_at n hn)
      obtain ⟨Y, hY, -⟩ := str_hide (patsU[n]'(by rw [patsU_len]; exact hn))
      rw [hY] at c0 ⊢
      clear hY
      go_enter Tryd.func9, Tryd.ntmps9
      go_wp2
      go_ret
      exact ⟨rfl, ext_alloc (Below.refl _ _) _⟩
    · unfold SaysStr
      rw [patU_out (by omega)]
      go_enter Tryd.func9, Tryd.ntmps9
      go_wp2
      go_ret
      exact ⟨rfl, ext_alloc (Below.refl _ _) _⟩
  · unfold SaysStr
    rw [patU_out (by omega)]
    go_enter Tryd.func9, Tryd.ntmps9
    go_wp2
    go_ret
    exact ⟨rfl, ext_alloc (Below.refl _ _) _⟩

set_option maxHeartbeats 2000000 in
theorem rkind_any (s : ByteArray) (w : World) : Calls Tryd.prog 5 #[.string s] w (SaysKind s.data.toList w) := by
  have Hnl := Lib.hid namesU_len
  go_enter Tryd.func5, Tryd.ntmps5
  go_wp2
  go_loopw [4] (fun i wr => ∃ k : Nat, k ≤ 9 ∧ i = .int .i64 (k : Int) ∧ Hid (∀ j (hj : j < k) (hl : j < namesU.length), namesU[j] ≠ s.data.toList) ∧ Hid (Below w.heap.size w wr)) (fun i _ => 9 - (intOf i).toNat)
  case atStart => exact ⟨0, by omega, rfl, Lib.hid (fun j hj => absurd hj (by omega)), Lib.hid (Below.refl _ _)⟩
  case round =>
    obtain ⟨k, hk, rfl, Hn, Hb⟩ := hrel
    by_cases hlt : k < 9
    · have hki : (k : Int) < 9 := by omega
      have hkl : k < namesU.length := by have := Hnl.out; omega
      have HC := rname_any (k : Int) wr
      unfold SaysStr at HC
      rw [nameU_in hlt] at HC
      obtain ⟨Y, hY, hc⟩ := eq_cases namesU[k] s
      rw [hY] at HC
      have HCh := Lib.hid HC
      clear hY HC
      rcases hc with ⟨he, rfl⟩ | ⟨he, hf⟩
      · have hsome : kindU Y.data.toList = some k := kindU_some _ k hkl he (fun j hj => Hn.out j hj (by omega))
        have HS := Lib.hid (says_some hsome w)
        clear hsome he
        go_wp2_with fail
        refine HCh.out.mono ?_
        rintro e w2 ⟨rfl, hb2⟩
        have Hb2 := Lib.hid (ext_trans Hb.out hb2)
        clear hb2
        go_wp2
        go_ret2
        show SaysKind Y.data.toList w _ _
        rw [HS.out]
        exact ⟨rfl, Hb2.out⟩
      · have Hn2 : Hid (∀ j (hj : j < k + 1) (hl : j < namesU.length), namesU[j] ≠ s.data.toList) := Lib.hid (fun j hj hl => by
          by_cases hjk : j < k
          · exact Hn.out j hjk hl
          · obtain rfl : j = k := by omega
            exact he)
        clear he
        go_wp2_with fail
        refine HCh.out.mono ?_
        rintro e w2 ⟨rfl, hb2⟩
        have Hb2 := Lib.hid (ext_trans Hb.out hb2)
        clear hb2
        go_wp2
        go_roundw
        case rel => exact ⟨k + 1, by omega, by go_num, Hn2, Hb2⟩
        case measure => simp [intOf]; omega
    · obtain rfl : k = 9 := by omega
      have hnone : kindU s.data.toList = none := kindU_none _ (fun j hj => Hn.out j (by have := Hnl.out; omega) hj)
      have HS := Lib.hid (says_none hnone w)
      clear hnone
      go_wp2
      go_ret2
      show SaysKind s.data.toList w _ _
      rw [HS.out]
      exact ⟨rfl, Hb.out⟩
set_option maxHeartbeats 1000000 in
theorem known12_any (w : World) (ht : TabR w) : Calls Tryd.prog 10 #[] w fun e w' => e = .returned (.bool true) ∧ Below w.heap.size w w' := by
  have HK := kind_any ⟨#[105, 112]⟩ w ht
  rw [says_some (k := 1) (by decide)] at HK
  have Ht := Lib.hid ht
  clear ht
  go_enter Tryd.func10, Tryd.ntmps10
  go_wp2_with fail
  refine HK.mono ?_
  rintro e w1 ⟨rfl, hb⟩
  have Hb := Lib.hid hb
  have HN := name_any 8 w1 (Ht.out.ext hb)
  unfold SaysStr at HN
  rw [show strV (nameU 8) = .string ⟨#[111, 116, 104, 101, 114]⟩ from rfl] at HN
  have HNh := Lib.hid HN
  clear hb HN
  go_wp2_with fail
  refine HNh.out.mono ?_
  rintro e w2 ⟨rfl, hb2⟩
  have Hb2 := Lib.hid (ext_trans Hb.out hb2)
  clear hb2
  go_wp2
  go_ret
  exact ⟨rfl, Hb2.out⟩
set_option maxHeartbeats 2000000 in
theorem table_any (k : Int) (s : ByteArray) (w : World) (hs : s.size ≤ maxLen) (ht : TabR w) : Calls Tryd.prog 3 #[.int .i64 k, .string s] w fun e w' => e = .returned (.bool true) ∧ Below w.heap.size w w' := by
  unfold maxLen at hs
  by_cases h1 : 100 < s.size
  · have h1i : (100 : Int) < (s.size : Int) := by omega
    go_enter Tryd.func3, Tryd.ntmps3
    go_wp2
    go_ret
    exact ⟨rfl, Below.refl _ _⟩
  have h1i : (s.size : Int) ≤ 100 := by omega
  have HT := Lib.hid (fun W (hb : Below w.heap.size w W) => ht.ext hb)
  have HK := Lib.hid (fun W (hb : Below w.heap.size w W) => kind_any s W (HT.out W hb))
  have HRK := Lib.hid (fun W => rkind_any s W)
  have HN := Lib.hid (fun W (hb : Below w.heap.size w W) => name_any k W (HT.out W hb))
  have HRN := Lib.hid (fun W => rname_any k W)
  have HP := Lib.hid (fun W (hb : Below w.heap.size w W) => pat_any k W (HT.out W hb))
  have HRP := Lib.hid (fun W => rpat_any k W)
  have HKn := Lib.hid (fun W (hb : Below w.heap.size w W) => known12_any W (HT.out W hb))
  unfold SaysKind at HK HRK
  unfold SaysStr at HN HRN HP HRP
  generalize kindI s.data.toList = ki at HK HRK
  generalize kindB s.data.toList = kb at HK HRK
  obtain ⟨Y, hY, -⟩ := str_hide (nameU k)
  obtain ⟨Z, hZ, -⟩ := str_hide (patU k)
  rw [hY] at HN HRN
  rw [hZ] at HP HRP
  clear hY hZ h1
  go_enter Tryd.func3, Tryd.ntmps3
  go_wp2_with fail
  refine (HK.out _ (Below.refl _ _)).mono ?_
  rintro e w1 ⟨rfl, hb1⟩
  have Hb1 := Lib.hid (hb1)
  clear hb1
  go_wp2_with fail
  refine (HRK.out _).mono ?_
  rintro e w2 ⟨rfl, hb2⟩
  have Hb2 := Lib.hid (ext_trans Hb1.out hb2)
  clear hb2
  go_wp2_with fail
  refine (HN.out _ Hb2.out).mono ?_
  rintro e w3 ⟨rfl, hb3⟩
  have Hb3 := Lib.hid (ext_trans Hb2.out hb3)
  clear hb3
  go_wp2_with fail
  refine (HRN.out _).mono ?_
  rintro e w4 ⟨rfl, hb4⟩
  have Hb4 := Lib.hid (ext_trans Hb3.out hb4)
  clear hb4
  go_wp2_with fail
  refine (HP.out _ Hb4.out).mono ?_
  rintro e w5 ⟨rfl, hb5⟩
  have Hb5 := Lib.hid (ext_trans Hb4.out hb5)
  clear hb5
  go_wp2_with fail
  refine (HRP.out _).mono ?_
  rintro e w6 ⟨rfl, hb6⟩
  have Hb6 := Lib.hid (ext_trans Hb5.out hb6)
  clear hb6
  go_wp2_with fail
  refine (HKn.out _ Hb6.out).mono ?_
  rintro e w7 ⟨rfl, hb7⟩
  have Hb7 := Lib.hid (ext_trans Hb6.out hb7)
  clear hb7
  go_wp2
  go_ret
  exact ⟨rfl, Hb7.out⟩
end Go.Proofs.YtgphmflcfcjipaaDoor

/-
  How a law's contract closes its statement; what an int's and a byte's datum says. No statement of the seat is proved here.
-/
namespace Go.Proofs.YtgphmflcfcjipaaDoor
open Go Go.ChangeShapes Go.WideShapes Go.ChangeAt Go.RowKit

theorem own : ownKnob Tryd.prog.godebug = none := by kernel_rfl
theorem laidOut : laidOutB Tryd.prog = true := by kernel_rfl

theorem int_of_wf {v : Int} (h : (Lit.int .i64 v).wf = true) : isInt v := by
  have h1 : IntKind.i64.min = -9223372036854775808 := rfl
  have h2 : IntKind.i64.max = 9223372036854775807 := rfl
  simp only [Lit.wf, Bool.and_eq_true, decide_eq_true_eq] at h
  unfold isInt
  omega
theorem u8_of_wf {v : Int} (h : (Lit.int .u8 v).wf = true) : 0 ≤ v ∧ v ≤ 255 := by
  have h1 : IntKind.u8.min = 0 := rfl
  have h2 : IntKind.u8.max = 255 := rfl
  simp only [Lit.wf, Bool.and_eq_true, decide_eq_true_eq] at h
  omega

/-! ### How a contract closes a statement -/
section
variable {H : Type} {enc : TypeId × Value → H}
theorem below_trodAll {P : Program} (hl : laidOutB P = true) {W W' : World} (hb : Below W.heap.size W W') : ∀ {ts : List TypeId} {vs : List Value} {ds : List (DataW H)} {ps : List MemPlace},
    (∀ t ∈ ts, P.readableRec t = true ∧ t < P.types.size) → DataW.TrodAll enc P W 0 (fun _ => true) true ts vs ds ps → (∀ x ∈ ps, x.block < W.heap.size) → DataW.TrodAll enc P W' 0 (fun b => decide (b < W.heap.size)) true ts vs ds ps
  | [], [], [], _, _, h, _ => h
  | t :: ts, v :: vs, d :: ds, _, hr, h, hlt => by
    obtain ⟨p, q, h1, h2, rfl⟩ := h
    exact ⟨p, q, Below.trod hl (hr t (by simp)).1 (hr t (by simp)).2 h1 hb (fun x hx => hlt x (by simp [hx])), below_trodAll hl hb (fun t' ht => hr t' (by simp [ht])) h2 (fun x hx => hlt x (by simp [hx])), rfl⟩
  | [], [], _ :: _, _, _, h, _ => h.elim
  | [], _ :: _, _, _, _, h, _ => h.elim
  | _ :: _, [], _, _, _, h, _ => h.elim
  | _ :: _, _ :: _, [], _, _, h, _ => h.elim

/-- a law that returned true, and left all that was there as it was -/
theorem law_post {f : Func} {s : ChangeSpec} {W W' : World} {args : Array Value} {ds gs : List (DataW H)} {before : List MemPlace} (hvars : s.vars = []) (hf : f.resultTypes = #[4])
    (hread : f.params.toList.all (fun t => Tryd.prog.readableRec t && decide (t < Tryd.prog.types.size)) = true)
    (hs : (s.fn H ds).results = [.lit (.bool true)] ∧ (s.fn H ds).args = ds ∧ (s.fn H ds).vars = []) (hW : DataW.Whole enc Tryd.prog f.params.toList s.vars false W args.toList ds gs before) (hb : Below W.heap.size W W') :
    s.post enc Tryd.prog f false true false false W args (.bool true) W' := by
  have hW' := hW
  have hlt : ∀ x ∈ before, x.block < W.heap.size := fun x hx => by simpa using hW'.lt x hx
  obtain ⟨p, q, hA, hV, he, _, _⟩ := hW
  rw [hvars] at hV
  obtain ⟨hg, hq⟩ := trodVars_none hV
  have hx : ds ++ gs = ds := by rw [hg, List.append_nil]
  refine ⟨ds, gs, before, [] ++ [], p, [], hW', ?_, ?_, ?_, hb.frame _, fun h => by cases h⟩
  · rw [hx, hs.1, hf]
    exact trodAll_cons_mk (shut_bool Tryd.underlying4 _) trodAll_mk0
  · rw [hx, hs.2.1]
    refine below_trodAll laidOut hb (fun t ht => ?_) hA (fun x hx => hlt x (by rw [he]; simp [hx]))
    have := List.all_eq_true.1 hread t ht
    simpa using this
  · rw [hx, hs.2.2, hvars]
    rfl
end

/-- a world for the witness: the settled one -/
noncomputable def plainWorld (os : Os) : World := World.holding Tryd.prog os ⟨#[], #[], []⟩
end Go.Proofs.YtgphmflcfcjipaaDoor

/-
  The table of the kinds out of 'laid'; the world for the witness. No statement of the seat is proved here.
-/
namespace Go.Proofs.YtgphmflcfcjipaaDoor
open Go Go.ChangeShapes Go.WideShapes Go.ChangeAt Go.RowKit
set_option maxRecDepth 100000

theorem gAll : Tryd.prog.globalNamed "winnower/rules.all" = some 0 := by kernel_rfl
theorem gAllType : (Tryd.prog.globals[0]?).map (·.type) = some 29 := by kernel_rfl
theorem cells_rule : Tryd.prog.cellsOf 28 = 2 := by kernel_rfl
theorem cells_all : Tryd.prog.cellsOf 29 = 18 := by kernel_rfl
theorem cells_st : Tryd.prog.cellsOf 9 = 1 := by kernel_rfl
def theLaid : List (String × DataW Unit) := [("winnower/rules.all", Rows.laid_winnower_rules_all)]
def datR {H : Type} (x : List UInt8 × List UInt8) : DataW H := .agg [.lit (.string x.1), .lit (.string x.2)]
theorem laid_eq : (Rows.laid_winnower_rules_all : DataW Unit) = .agg (tabZ.map datR) := rfl
theorem tab_of_laid {W : World} (h : laidMetH Tryd.prog theLaid W) : TabR W := by
  have h' : laidMet Tryd.prog theLaid W := h
  obtain ⟨ps, ⟨g', t', cs, fuel, p, q, hg', ht', hvar, hd, _, _⟩, _⟩ := h'
  obtain rfl := Option.some.inj (gAll.symm.trans hg')
  obtain rfl := Option.some.inj (gAllType.symm.trans ht')
  obtain ⟨cl, hcl0⟩ : ∃ cl, cs.toList = cl := ⟨_, rfl⟩
  rw [hcl0] at hd
  obtain ⟨xs, m, _, hx, hcl, hxl, hat⟩ := DataW.trod_array Tryd.underlying29 hd
  rw [cells_all] at hcl
  rw [cells_rule] at hat
  have hdat : xs.map (·.1) = tabZ.map datR := by
    have h1 := congrArg Prod.fst hx
    dsimp only at h1
    rw [laid_eq] at h1
    injection h1 with h1
    exact h1.symm
  have key : ∀ k (hk : k < 9) (j : Nat), j < 2 → cl[k * 2 + j]? = (encR (tabZ[k]'(by rw [tabZ_len]; exact hk)))[j]? := by
    intro k hk j hj
    have hz : k < tabZ.length := by rw [tabZ_len]; exact hk
    have h0 := hat k hk
    have hxk : xs[k]? = some (xs[k]'(by omega)) := List.getElem?_eq_getElem (by omega)
    have hx1 : (xs[k]'(by omega)).1 = datR tabZ[k] := by
      have := congrArg (·[k]?) hdat
      simp only [List.getElem?_map, hxk, List.getElem?_eq_getElem hz, Option.map_some, Option.some.injEq] at this
      exact this
    rw [hxk] at h0
    have e0 : cl[k * 2]? = some (cl[k * 2]'(by omega)) := List.getElem?_eq_getElem (by omega)
    have e1 : cl[k * 2 + 1]? = some (cl[k * 2 + 1]'(by omega)) := List.getElem?_eq_getElem (by omega)
    have hch : (cl.drop (k * 2)).take 2 = [cl[k * 2]'(by omega), cl[k * 2 + 1]'(by omega)] := by
      rw [List.drop_eq_getElem_cons (by omega), List.drop_eq_getElem_cons (by omega)]
      rfl
    rw [hch] at h0
    obtain ⟨ys, n', hn', hy, hlen, hyl, hg⟩ := DataW.trod_struct Tryd.underlying28 h0
    match ys, hyl with
    | [y0, y1], _ =>
      have g0 := hg 0 _ rfl
      have g1 := hg 1 _ rfl
      simp only [cells_st, List.drop_zero, List.drop_succ_cons, List.take_succ_cons, List.take_zero, List.getElem?_cons_zero, List.getElem?_cons_succ] at g0 g1
      obtain ⟨s0, q0, r0, m0⟩ := DataW.trod_string Tryd.underlying9 g0
      obtain ⟨s1, q1, r1, m1⟩ := DataW.trod_string Tryd.underlying9 g1
      injection q0 with q0
      injection q1 with q1
      have hagg := congrArg Prod.fst hy
      dsimp only at hagg
      rw [hx1] at hagg
      unfold datR at hagg
      injection hagg with hagg
      simp only [List.map_cons, List.map_nil, List.cons.injEq, and_true] at hagg
      rw [r0, r1] at hagg
      obtain ⟨a0, a1⟩ := hagg
      injection a0 with a0
      injection a0 with a0
      injection a1 with a1
      injection a1 with a1
      match j, hj with
      | 0, _ =>
        rw [Nat.add_zero, e0, q0]
        simp [encR, strV, a0]
      | 1, _ =>
        rw [e1, q1]
        simp [encR, strV, a1]
  intro j u hu
  have hj : j < 18 := by
    have := (List.getElem?_eq_some_iff.1 hu).1
    have h2 : tabL.length = 18 := by decide
    omega
  have hv := World.var?_cell gAll hvar j
  rw [hv]
  have h1 := key (j / 2) (by omega) (j % 2) (by omega)
  have h2 := flat_at encR 2 (fun _ => rfl) tabZ (j / 2) (j % 2) (by rw [tabZ_len]; omega) (by omega)
  rw [show j / 2 * 2 + j % 2 = j by omega] at h1 h2
  rw [← Array.getElem?_toList, hcl0, h1, ← h2]
  exact hu

noncomputable def laidWorld (os : Os) : World :=
  { World.holding Tryd.prog os ⟨#[], #[], []⟩ with heap := (World.holding Tryd.prog os ⟨#[], #[], []⟩).heap.modify 0 fun
      | .cells _ t frozen => .cells #[.string ⟨#[115, 116, 97, 109, 112]⟩, .string ⟨#[91, 48, 45, 57, 93, 123, 52, 125, 92, 120, 50, 100, 91, 48, 45, 57, 93, 123, 50, 125, 92, 120, 50, 100, 91, 48, 45, 57, 93, 123, 50, 125, 84, 91, 48, 45, 57, 93, 123, 50, 125, 58, 91, 48, 45, 57, 93, 123, 50, 125, 58, 91, 48, 45, 57, 93, 123, 50, 125]⟩, .string ⟨#[105, 112]⟩, .string ⟨#[91, 48, 45, 57, 93, 123, 49, 44, 51, 125, 40, 92, 46, 91, 48, 45, 57, 93, 123, 49, 44, 51, 125, 41, 123, 51, 125]⟩, .string ⟨#[109, 97, 99]⟩, .string ⟨#[91, 48, 45, 57, 97, 45, 102, 93, 123, 50, 125, 40, 58, 91, 48, 45, 57, 97, 45, 102, 93, 123, 50, 125, 41, 123, 53, 125]⟩, .string ⟨#[104, 101, 120]⟩, .string ⟨#[48, 120, 91, 48, 45, 57, 97, 45, 102, 65, 45, 70, 93, 43]⟩, .string ⟨#[110, 117, 109, 98, 101, 114]⟩, .string ⟨#[92, 45, 63, 91, 48, 45, 57, 93, 43, 40, 92, 46, 91, 48, 45, 57, 93, 43, 41, 63]⟩, .string ⟨#[113, 117, 111, 116, 101, 100]⟩, .string ⟨#[34, 40, 91, 94, 34, 92, 92, 93, 124, 92, 92, 46, 41, 42, 34]⟩, .string ⟨#[119, 111, 114, 100]⟩, .string ⟨#[91, 65, 45, 90, 97, 45, 122, 95, 93, 91, 65, 45, 90, 97, 45, 122, 48, 45, 57, 95, 93, 42]⟩, .string ⟨#[98, 108, 97, 110, 107]⟩, .string ⟨#[91, 32, 92, 116, 93, 43]⟩, .string ⟨#[111, 116, 104, 101, 114]⟩, .string ⟨#[46]⟩] t frozen
      | o => o }
end Go.Proofs.YtgphmflcfcjipaaDoor
