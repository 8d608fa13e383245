/-
  Texts of this claim, joined (part 0): contracts and lemmas that the last text goes by. No statement of the seat is proved here.
-/
import Derived.WalkKit
import Derived.Deep.Draws
import Derived.Deep.QuietTactic
import Derived.BigQuiet
import Derived.Maps.AppendAt
import Derived.Deep.AppendLies
import Derived.OneCell
import Derived.Lib.Hide
import Derived.Test.YtpjgkacekelkdaaGreatDoorRows
import Derived.Laws.IdiomStrings
set_option linter.unusedVariables false
set_option linter.unusedSimpArgs false
/-
  Words for memory, for every later text: what a piece of memory holds ('Rd'), what the call owns ('Own'), what may turn ('Only'), and append onto what is owned. No statement of the seat is proved here.
-/
namespace Go.Proofs.YtpjgkacekelkdaaGreatDoor
open Go Go.RowKit

/-- a byte as a cell -/
def bv (u : UInt8) : Value := .int .u8 (u.toNat : Int)
theorem bv_one (u : UInt8) : (bv u).oneCell' = true := rfl
theorem bvs_one (l : List UInt8) : ∀ u ∈ l.map bv, u.oneCell' = true := by
  intro u hu
  obtain ⟨x, _, rfl⟩ := List.mem_map.1 hu
  rfl

/-- a number as a cell; what an int bears -/
def iv (v : Int) : Value := .int .i64 v
def isInt (v : Int) : Prop := -9223372036854775808 ≤ v ∧ v ≤ 9223372036854775807

/-! ### What may turn -/
structure Only (S : Nat → Prop) (w w' : World) : Prop where
  os : w'.os = w.os
  tape : w'.tape = w.tape
  output : w'.output = w.output
  size : w.heap.size ≤ w'.heap.size
  block : ∀ k, k < w.heap.size → ¬ S k → w'.heap[k]? = w.heap[k]?

section
variable {S T : Nat → Prop} {a b c w w' : World}
theorem Only.refl (S : Nat → Prop) (w : World) : Only S w w := ⟨rfl, rfl, rfl, Nat.le_refl _, fun _ _ _ => rfl⟩
theorem Only.trans (h : Only S a b) (k : Only T b c) (hs : ∀ i, i < a.heap.size → T i → S i) : Only S a c :=
  ⟨k.os.trans h.os, k.tape.trans h.tape, k.output.trans h.output, Nat.le_trans h.size k.size,
    fun i hi hn => (k.block i (Nat.lt_of_lt_of_le hi h.size) (fun ht => hn (hs i hi ht))).trans (h.block i hi hn)⟩
theorem Only.mono (h : Only S a b) (hs : ∀ i, i < a.heap.size → S i → T i) : Only T a b :=
  ⟨h.os, h.tape, h.output, h.size, fun i hi hn => h.block i hi (fun x => hn (hs i hi x))⟩
theorem Only.drew (h : Only S a w) : Only S a w.drew := ⟨h.os, h.tape, h.output, h.size, h.block⟩
theorem Only.drewN (h : Only S a w) (n : Nat) : Only S a (w.drewN n) := ⟨h.os, h.tape, h.output, h.size, h.block⟩
theorem Only.alloc (h : Only S a w) (o : Obj) : Only S a (w.alloc o) :=
  ⟨h.os, h.tape, h.output, Nat.le_trans h.size (by simp), fun i hi hn => (Below.heap_alloc w o i (Nat.lt_of_lt_of_le hi h.size)).trans (h.block i hi hn)⟩
theorem Only.setCell (h : Only S a w) {p : Addr} (hp : S p.block ∨ a.heap.size ≤ p.block) (u : Value) : Only S a (w.setCell p u) :=
  ⟨h.os, h.tape, h.output, by simpa [World.setCell] using h.size, fun i hi hn => (Below.heap_setCell w p u i (by
    rintro rfl
    rcases hp with hp | hp
    · exact hn hp
    · omega)).trans (h.block i hi hn)⟩
theorem Only.grown (h : Only S a w) {row : Option Nat} (hg : w.grownBy w' row) (hr : ∀ k, row = some k → k < a.heap.size → S k) : Only S a w' :=
  ⟨hg.os.trans h.os, hg.tape.trans h.tape, hg.output.trans h.output, Nat.le_trans h.size hg.size,
    fun i hi hn => (hg.block i (Nat.lt_of_lt_of_le hi h.size) (fun e => hn (hr i e.symm hi))).trans (h.block i hi hn)⟩
theorem Only.below {B : Nat} (h : Only S a b) (hs : ∀ i, S i → B ≤ i) (hB : B ≤ a.heap.size) : Below B a b :=
  ⟨h.os, h.tape, h.output, h.size, fun i hi => h.block i (by omega) (fun x => by have := hs i x; omega)⟩
theorem Only.of_below {B : Nat} (h : Below B a b) (hs : ∀ i, B ≤ i → i < a.heap.size → S i) : Only S a b :=
  ⟨h.os, h.tape, h.output, h.size, fun i hi hn => h.block i (by
    rcases Nat.lt_or_ge i B with hl | hl
    · exact hl
    · exact absurd (hs i hl hi) hn)⟩
theorem Only.of_ext (h : Below a.heap.size a b) : Only S a b := Only.of_below h (fun i h1 h2 => by omega)
end

/-- all that was there is as it was, from world to world -/
theorem ext_trans {a b c : World} (h : Below a.heap.size a b) (k : Below b.heap.size b c) : Below a.heap.size a c := h.trans (k.mono h.size)
theorem ext_drewN {B : Nat} {a w : World} (h : Below B a w) (n : Nat) : Below B a (w.drewN n) := ⟨h.os, h.tape, h.output, h.size, h.block⟩

/-! ### What memory holds -/
/-- From address 'A' on there lie the cells 'xs'. -/
def Rd (w : World) (A : Option Addr) (xs : List Value) : Prop := ∀ (j : Nat) (u : Value), xs[j]? = some u → ∃ ad, A = some ad ∧ w.cell? (ad.add j) = some u

theorem block_add (a : Addr) (n : Nat) : (a.add n).block = a.block := by unfold Addr.add; split <;> rfl
theorem add_add_ (a : Addr) (i j : Nat) : (a.add i).add j = a.add (i + j) := by
  unfold Addr.add
  by_cases hi : i = 0 <;> by_cases hj : j = 0 <;> simp [hi, hj, Nat.add_assoc]

section
variable {S : Nat → Prop} {w w' : World} {A : Option Addr} {xs : List Value}
theorem Rd.nil (w : World) (A : Option Addr) : Rd w A [] := fun j u h => by simp at h
theorem Rd.at_ (h : Rd w A xs) {k : Nat} (hk : k < xs.length) : ∃ ad, A = some ad ∧ w.cell? (ad.add k) = some xs[k] := h k _ (List.getElem?_eq_getElem hk)
theorem Rd.keep (h : Rd w A xs) (hk : ∀ ad, A = some ad → ad.block < w.heap.size → w'.heap[ad.block]? = w.heap[ad.block]?) : Rd w' A xs := fun j u hu => by
  obtain ⟨ad, e, hc⟩ := h j u hu
  have hb := World.block_lt_of_cell? w _ hc
  rw [block_add] at hb
  exact ⟨ad, e, (World.cell?_of_block (by rw [block_add]; exact hk ad e hb)).trans hc⟩
theorem Rd.ext (h : Rd w A xs) (hb : Below w.heap.size w w') : Rd w' A xs := h.keep fun _ _ hl => hb.block _ hl
theorem Rd.only (h : Rd w A xs) (ho : Only S w w') (hn : ∀ ad, A = some ad → xs ≠ [] → ¬ S ad.block) : Rd w' A xs := by
  rcases xs with _ | ⟨x, r⟩
  · exact Rd.nil _ _
  · exact h.keep fun ad e hl => ho.block _ hl (hn ad e (by simp))
theorem Rd.drew (h : Rd w A xs) : Rd w.drew A xs := h
theorem Rd.drewN (h : Rd w A xs) (n : Nat) : Rd (w.drewN n) A xs := h
theorem Rd.undrewN {n : Nat} (h : Rd (w.drewN n) A xs) : Rd w A xs := h
theorem Rd.alloc (h : Rd w A xs) (o : Obj) : Rd (w.alloc o) A xs := h.keep fun _ _ hl => Below.heap_alloc w o _ hl
theorem Rd.setCell (h : Rd w A xs) {p : Addr} (hn : ∀ ad, A = some ad → ad.block ≠ p.block) (u : Value) : Rd (w.setCell p u) A xs := h.keep fun ad e _ => Below.heap_setCell w p u _ (hn ad e)
theorem Rd.take (h : Rd w A xs) (k : Nat) : Rd w A (xs.take k) := fun j u hu => h j u (by
  rw [List.getElem?_take] at hu
  split at hu
  · exact hu
  · cases hu)
/-- behind a cut in front: the model's own form of the address -/
theorem Rd.cut (h : Rd w A xs) {k cap : Nat} (hc : xs.length ≤ cap) : Rd w (if cap = k then A else A.map (·.add (k * 1))) (xs.drop k) := fun j u hu => by
  rw [List.getElem?_drop] at hu
  obtain ⟨ad, rfl, hcell⟩ := h _ u hu
  have hl : k + j < xs.length := (List.getElem?_eq_some_iff.1 hu).1
  rw [if_neg (by omega)]
  refine ⟨ad.add (k * 1), rfl, ?_⟩
  rw [add_add_, Nat.mul_one]
  exact hcell
theorem Rd.lit (w : World) (cs : Array Value) (t : TypeId) : Rd (w.alloc (.cells cs t)) (some ⟨w.heap.size, 0, none⟩) cs.toList := fun j u hu =>
  ⟨_, rfl, World.news_of_block (heap_alloc_new w _) j u hu⟩
theorem Rd.lit_at (w : World) (cs : Array Value) (t : TypeId) {fr : Nat × Nat} {g : Nat} (hg : g = w.heap.size) : Rd (w.alloc (.cells cs t fr)) (some ⟨g, 0, none⟩) cs.toList := by
  subst hg
  exact fun j u hu => ⟨_, rfl, World.news_of_block (heap_alloc_new w _) j u hu⟩
theorem Rd.blk {g : Nat} {cs : Array Value} {t : TypeId} {fr : Nat × Nat} (h : w.heap[g]? = some (.cells cs t fr)) : Rd w (some ⟨g, 0, none⟩) cs.toList := fun j u hu =>
  ⟨_, rfl, World.news_of_block h j u hu⟩
end

/-! ### A block that is known whole -/
def Blk (w : World) (g : Nat) (t : TypeId) (cs : Array Value) : Prop := w.heap[g]? = some (.cells cs t (0, 0))
section
variable {S : Nat → Prop} {w w' : World} {g : Nat} {t : TypeId} {cs : Array Value}
theorem Blk.lt (h : Blk w g t cs) : g < w.heap.size := lt_of_block h
theorem Blk.cell (h : Blk w g t cs) (i : Nat) : w.cell? ⟨g, i, none⟩ = cs[i]? := cell_of_row w g i cs t (0, 0) h
theorem Blk.free (h : Blk w g t cs) (i : Nat) : w.frozen? ⟨g, i, none⟩ = false := frozen_of_row w g i cs t h
theorem Blk.new (w : World) (t : TypeId) (cs : Array Value) : Blk (w.alloc (.cells cs t)) w.heap.size t cs := heap_alloc_new w _
theorem Blk.drew (h : Blk w g t cs) : Blk w.drew g t cs := h
theorem Blk.drewN (h : Blk w g t cs) (n : Nat) : Blk (w.drewN n) g t cs := h
theorem Blk.alloc (h : Blk w g t cs) (o : Obj) : Blk (w.alloc o) g t cs := (Below.heap_alloc w o g h.lt).trans h
theorem Blk.only (h : Blk w g t cs) (ho : Only S w w') (hn : ¬ S g) : Blk w' g t cs := (ho.block g h.lt hn).trans h
theorem Blk.ext (h : Blk w g t cs) (hb : Below w.heap.size w w') : Blk w' g t cs := (hb.block g h.lt).trans h
theorem Blk.far (h : Blk w g t cs) {p : Addr} (hp : g ≠ p.block) (u : Value) : Blk (w.setCell p u) g t cs := (Below.heap_setCell w p u g hp).trans h
theorem Blk.put (h : Blk w g t cs) (i : Nat) (u : Value) : Blk (w.setCell ⟨g, i, none⟩ u) g t (cs.setIfInBounds i u) := heap_setCell_same w g i cs t u h
end

/-! ### A row that the call owns -/
/-- The slice of address 'A' and capacity 'c' is a row of the call's own that holds 'xs'; its block is one of 'fp'. -/
def Own (w : World) (fp : Nat → Prop) (e : TypeId) (A : Option Addr) (c : Nat) (xs : List Value) : Prop :=
  w.ownsRow 0 e 1 (.slice A xs.length c) xs.length xs ∧ ∀ ad, A = some ad → fp ad.block

/-- what was in 'fp', and what has been made from 'w' to 'w'' -/
def More (fp : Nat → Prop) (w w' : World) : Nat → Prop := fun k => fp k ∨ (w.heap.size ≤ k ∧ k < w'.heap.size)

section
variable {S fp fp' : Nat → Prop} {w w' : World} {e : TypeId} {A : Option Addr} {c : Nat} {xs : List Value}
theorem Own.cap (h : Own w fp e A c xs) : xs.length ≤ c := by
  rcases h.1.2 with ⟨h1, h2⟩ | ⟨g, cap, cur, h1, _, _, hc, _⟩
  · injection h1; omega
  · injection h1; omega
theorem Own.some_ (h : Own w fp e A c xs) : (A = none ∧ c = 0 ∧ xs = []) ∨ ∃ g, A = some ⟨g, 0, none⟩ ∧ fp g ∧ g < w.heap.size := by
  rcases h.1.2 with ⟨h1, h2⟩ | ⟨g, cap, cur, h1, _, hg, hc, _⟩
  · injection h1 with a1 a2 a3
    exact .inl ⟨a1, a3, List.eq_nil_of_length_eq_zero h2⟩
  · injection h1 with a1 a2 a3
    exact .inr ⟨g, a1, h.2 _ a1, lt_of_block hg⟩
theorem Own.rd (h : Own w fp e A c xs) : Rd w A xs := by
  rcases h.some_ with ⟨rfl, rfl, rfl⟩ | ⟨g, rfl, _, _⟩
  · exact Rd.nil _ _
  · exact fun j u hu => ⟨_, rfl, h.1.cells (g := g) rfl j u hu⟩
theorem Own.none_ (w : World) (fp : Nat → Prop) (e : TypeId) : Own w fp e none 0 [] := ⟨World.ownsRow_nil w 0 e 1, fun _ h => by cases h⟩
theorem Own.mono (h : Own w fp e A c xs) (hs : ∀ k, fp k → k < w.heap.size → fp' k) : Own w fp' e A c xs := by
  refine ⟨h.1, fun ad e' => ?_⟩
  rcases h.some_ with ⟨rfl, _⟩ | ⟨g, rfl, hg, hl⟩
  · cases e'
  · injection e' with e'; subst e'; exact hs _ hg hl
theorem Own.only (h : Own w fp e A c xs) (ho : Only S w w') (hn : ∀ k, fp k → ¬ S k) : Own w' fp e A c xs := by
  refine ⟨⟨h.1.1, ?_⟩, h.2⟩
  rcases h.1.2 with h1 | ⟨g, cap, cur, h1, hb, hg, r⟩
  · exact .inl h1
  · refine .inr ⟨g, cap, cur, h1, hb, ?_, r⟩
    injection h1 with a1 a2 a3
    rw [ho.block g (lt_of_block hg) (hn _ (h.2 _ a1))]
    exact hg
theorem Own.ext (h : Own w fp e A c xs) (hb : Below w.heap.size w w') : Own w' fp e A c xs := by
  refine ⟨⟨h.1.1, ?_⟩, h.2⟩
  rcases h.1.2 with h1 | ⟨g, cap, cur, h1, hb', hg, r⟩
  · exact .inl h1
  · exact .inr ⟨g, cap, cur, h1, hb', (hb.block g (lt_of_block hg)).trans hg, r⟩
theorem Own.drew (h : Own w fp e A c xs) : Own w.drew fp e A c xs := h
theorem Own.drewN (h : Own w fp e A c xs) (n : Nat) : Own (w.drewN n) fp e A c xs := h
theorem Own.alloc (h : Own w fp e A c xs) (o : Obj) : Own (w.alloc o) fp e A c xs := h.ext ((Below.refl _ _).alloc (Nat.le_refl _) o)
theorem Own.setCell (h : Own w fp e A c xs) {p : Addr} (hn : ∀ ad, A = some ad → ad.block ≠ p.block) (u : Value) : Own (w.setCell p u) fp e A c xs := by
  refine ⟨ownsRow_setCell_other h.1 ?_ u, h.2⟩
  rcases A with _ | ad
  · simp [Value.ownBlock]
  · simpa [Value.ownBlock] using hn ad rfl
/-- rows of one element type and a block of another one are apart -/
theorem Own.ne_blk {g : Nat} {t : TypeId} {cs : Array Value} (h : Own w fp e A c xs) (hb : Blk w g t cs) (ht : e ≠ t) : ∀ ad, A = some ad → ad.block ≠ g := by
  rintro ad rfl rfl
  rcases h.1.2 with ⟨h1, _⟩ | ⟨g', cap, cur, h1, _, hg, _⟩
  · injection h1 with h1; cases h1
  · injection h1 with h1 _ _
    injection h1 with h1
    subst h1
    unfold Blk at hb
    rw [hg] at hb
    injection hb with hb
    injection hb with _ ht'
    exact ht ht'
theorem Own.lit (w : World) (fp : Nat → Prop) (cs : Array Value) (e : TypeId) (hm : cs.size ≤ maxLen) (hf : fp w.heap.size) : Own (w.alloc (.cells cs e)) fp e (some ⟨w.heap.size, 0, none⟩) cs.size cs.toList := by
  refine ⟨?_, fun ad h => by injection h with h; subst h; exact hf⟩
  have h := World.ownsRow_lit (base := 0) (e := e) (size := 1) w cs cs.size (Nat.zero_le _) hm (by simp)
  simpa using h
end

/-! ### growth, step by step -/
section
variable {fp : Nat → Prop} {a b b' c : World}
theorem More.join (h1 : a.heap.size ≤ b.heap.size) (h2 : b.heap.size ≤ b'.heap.size) (h3 : b'.heap.size ≤ c.heap.size) {k : Nat} (hk : More (More fp a b) b' c k) : More fp a c k := by
  rcases hk with (hk | hk) | hk
  · exact .inl hk
  · exact .inr (by omega)
  · exact .inr (by omega)
theorem Only.join (h : Only fp a b') (h2 : Only (More fp a b) b' c) : Only fp a c := h.trans h2 (fun k hk hm => by
  rcases hm with hm | hm
  · exact hm
  · omega)
theorem Own.join {e : TypeId} {A : Option Addr} {n : Nat} {xs : List Value} (h1 : a.heap.size ≤ b.heap.size) (h2 : b.heap.size ≤ b'.heap.size) (h3 : b'.heap.size ≤ c.heap.size) (h : Own c (More (More fp a b) b' c) e A n xs) : Own c (More fp a c) e A n xs :=
  h.mono fun _ hk _ => More.join h1 h2 h3 hk
end

/-! ### Memory that is read, apart from 'fp'; rows of bytes -/
def RdF (fp : Nat → Prop) (w : World) (A : Option Addr) (xs : List Value) : Prop := Rd w A xs ∧ ∀ ad, A = some ad → xs ≠ [] → ¬ fp ad.block

def RowsF (fp : Nat → Prop) (w : World) (A : Option Addr) (xss : List (List UInt8)) : Prop :=
  ∃ vs, RdF fp w A vs ∧ vs.length = xss.length ∧ ∀ (j : Nat) (v : Value) (xs : List UInt8), vs[j]? = some v → xss[j]? = some xs → ∃ B c, v = .slice B xs.length c ∧ xs.length ≤ c ∧ RdF fp w B (xs.map bv)

section
variable {fp fp' : Nat → Prop} {w w' : World} {A : Option Addr} {xs : List Value} {xss : List (List UInt8)}
theorem RdF.only (h : RdF fp w A xs) (ho : Only fp w w') : RdF fp w' A xs := ⟨h.1.only ho h.2, h.2⟩
theorem RdF.of (h : Rd w A xs) : RdF (fun _ => False) w A xs := ⟨h, fun _ _ _ x => x⟩
/-- what is read lies below what is new -/
theorem RdF.fresh (h : Rd w A xs) (hf : ∀ k, fp k → w.heap.size ≤ k) : RdF fp w A xs := by
  refine ⟨h, fun ad e hne hk => ?_⟩
  rcases xs with _ | ⟨x, r⟩
  · exact hne rfl
  · obtain ⟨ad', e', hc⟩ := h 0 x rfl
    rw [e] at e'; injection e' with e'; subst e'
    have hb := World.block_lt_of_cell? w _ hc
    rw [block_add] at hb
    have := hf _ hk
    omega
theorem RdF.weak (h : RdF fp w A xs) (hs : ∀ k, fp' k → fp k) : RdF fp' w A xs := ⟨h.1, fun ad e hn x => h.2 ad e hn (hs _ x)⟩
theorem RowsF.only (h : RowsF fp w A xss) (ho : Only fp w w') : RowsF fp w' A xss := by
  obtain ⟨vs, h1, h2, h3⟩ := h
  refine ⟨vs, h1.only ho, h2, fun j v xs hv hx => ?_⟩
  obtain ⟨B, c, e, hc, hr⟩ := h3 j v xs hv hx
  exact ⟨B, c, e, hc, hr.only ho⟩
theorem RowsF.weak (h : RowsF fp w A xss) (hs : ∀ k, fp' k → fp k) : RowsF fp' w A xss := by
  obtain ⟨vs, h1, h2, h3⟩ := h
  refine ⟨vs, h1.weak hs, h2, fun j v xs hv hx => ?_⟩
  obtain ⟨B, c, e, hc, hr⟩ := h3 j v xs hv hx
  exact ⟨B, c, e, hc, hr.weak hs⟩
theorem RowsF.ext (h : RowsF fp w A xss) (hb : Below w.heap.size w w') : RowsF fp w' A xss := h.only (Only.of_ext hb)
/-- row number k -/
theorem RowsF.at_ (h : RowsF fp w A xss) {k : Nat} (hk : k < xss.length) :
    ∃ ad B c, A = some ad ∧ w.cell? (ad.add k) = some (.slice B xss[k].length c) ∧ xss[k].length ≤ c ∧ RdF fp w B (xss[k].map bv) := by
  obtain ⟨vs, h1, h2, h3⟩ := h
  obtain ⟨ad, e, hc⟩ := h1.1.at_ (k := k) (by omega)
  obtain ⟨B, c, e2, hl, hr⟩ := h3 k _ _ (List.getElem?_eq_getElem (by omega)) (List.getElem?_eq_getElem hk)
  exact ⟨ad, B, c, e, by rw [hc, e2], hl, hr⟩
theorem RdF.more (h : RdF fp w A xs) (ho : Only fp w w') : RdF (More fp w w') w' A xs := by
  refine ⟨h.1.only ho h.2, fun ad e hn hm => ?_⟩
  rcases hm with hm | hm
  · exact h.2 ad e hn hm
  · rcases xs with _ | ⟨x, r⟩
    · exact hn rfl
    · obtain ⟨ad', e', hc⟩ := h.1 0 x rfl
      rw [e] at e'
      injection e' with e'
      subst e'
      have hb := World.block_lt_of_cell? w _ hc
      rw [block_add] at hb
      omega
theorem RowsF.more (h : RowsF fp w A xss) (ho : Only fp w w') : RowsF (More fp w w') w' A xss := by
  obtain ⟨vs, h1, h2, h3⟩ := h
  refine ⟨vs, h1.more ho, h2, fun j v xs hv hx => ?_⟩
  obtain ⟨B, c, e, hc, hr⟩ := h3 j v xs hv hx
  exact ⟨B, c, e, hc, hr.more ho⟩
/-- cells that were just laid -/
theorem RdF.lit (w : World) (cs : Array Value) (t : TypeId) {fr : Nat × Nat} {g : Nat} (hg : g = w.heap.size) (hf : ¬ fp g) : RdF fp (w.alloc (.cells cs t fr)) (some ⟨g, 0, none⟩) cs.toList :=
  ⟨Rd.lit_at w cs t hg, fun ad e _ => by injection e with e; subst e; exact hf⟩
theorem RdF.alloc (h : RdF fp w A xs) (o : Obj) : RdF fp (w.alloc o) A xs := ⟨h.1.alloc o, h.2⟩
/-- a list of one row, of two rows, that was just laid -/
theorem RowsF.one {xs : List UInt8} {B : Option Addr} {c : Nat} (h : RdF fp w B (xs.map bv)) (hc : xs.length ≤ c) (t : TypeId) {g : Nat} (hg : g = w.heap.size) (hf : ¬ fp g) :
    RowsF fp (w.alloc (.cells #[.slice B xs.length c] t)) (some ⟨g, 0, none⟩) [xs] := by
  subst hg
  refine ⟨[.slice B xs.length c], ⟨Rd.lit w #[.slice B xs.length c] t, fun ad e _ => by injection e with e; subst e; exact hf⟩, rfl, fun j v ys hv hx => ?_⟩
  match j, hv, hx with
  | 0, hv, hx =>
    simp at hv hx
    subst hv hx
    exact ⟨B, c, rfl, hc, h.alloc _⟩
theorem RowsF.two {xs ys : List UInt8} {B D : Option Addr} {c d : Nat} (h : RdF fp w B (xs.map bv)) (hc : xs.length ≤ c) (h2 : RdF fp w D (ys.map bv)) (hd : ys.length ≤ d) (t : TypeId) {g : Nat} (hg : g = w.heap.size) (hf : ¬ fp g) :
    RowsF fp (w.alloc (.cells #[.slice B xs.length c, .slice D ys.length d] t)) (some ⟨g, 0, none⟩) [xs, ys] := by
  subst hg
  refine ⟨[.slice B xs.length c, .slice D ys.length d], ⟨Rd.lit w #[.slice B xs.length c, .slice D ys.length d] t, fun ad e _ => by injection e with e; subst e; exact hf⟩, rfl, fun j v zs hv hx => ?_⟩
  match j, hv, hx with
  | 0, hv, hx =>
    simp at hv hx
    subst hv hx
    exact ⟨B, c, rfl, hc, h.alloc _⟩
  | 1, hv, hx =>
    simp at hv hx
    subst hv hx
    exact ⟨D, d, rfl, hd, h2.alloc _⟩
theorem only_none (h : Only (fun _ => False) w w') : Below w.heap.size w w' := h.below (fun _ h => h.elim) (Nat.le_refl _)
end

/-! ### append onto what is owned; the source nil, empty or not -/
section
variable {P : Program} (w : World) {fp : Nat → Prop}
theorem run_app (t ty e : TypeId) (z : Value) (bytes : Nat) (ht : P.underlying t = some (.slice e)) (hi : (P.info? e).map (fun i => (i.zero, i.size, i.bytes)) = some (some z, 1, bytes)) (hzs : z.cells.size = 1)
    (A : Option Addr) (n c : Nat) (xs : List Value) (hn : n = xs.length) (hown : Own w fp e A c xs) (A2 : Option Addr) (m c2 : Nat) (news : List Value) (hm : m = news.length) (hr : Rd w A2 news) (h1 : ∀ u ∈ news, u.oneCell' = true)
    (h63 : n + m ≤ maxLen) (hbytes : (n + m) * bytes ≤ 140737488355328) :
    ∃ A' c' w', (Builtin.append_ #[t, t] ty #[.slice A n c, .slice A2 m c2]).run P w = .ok (.slice A' (n + m) c') w' ∧ Own w' (More fp w w') e A' c' (xs ++ news) ∧ Only fp w w' := by
  obtain ⟨i, hi, hz, hsz, hby⟩ := info_parts hi
  subst hn hm
  have same : ∀ (_ : news = []) (_ : (Builtin.append_ #[t, t] ty #[.slice A xs.length c, .slice A2 news.length c2]).run P w = .ok (.slice A xs.length c) w),
      ∃ A' c' w', (Builtin.append_ #[t, t] ty #[.slice A xs.length c, .slice A2 news.length c2]).run P w = .ok (.slice A' (xs.length + news.length) c') w' ∧ Own w' (More fp w w') e A' c' (xs ++ news) ∧ Only fp w w' := by
    intro hnil hrun
    subst hnil
    exact ⟨A, c, w, hrun, by rw [List.append_nil]; exact hown.mono (fun k hk _ => Or.inl hk), Only.refl _ _⟩
  rcases A2 with _ | ad
  · have hnil : news = [] := by
      rcases news with _ | ⟨u, r⟩
      · rfl
      · obtain ⟨ad, h, _⟩ := hr 0 u rfl
        cases h
    refine same hnil ?_
    subst hnil
    rcases hown.1.2 with ⟨h2, _⟩ | ⟨g, cap, cur, h2, _, _, hnc, _⟩
    · rw [h2]; simp [Builtin.append_, run_underlying ht, sizeOf, typeInfo, hi, Builtin.lenOf, Builtin.firstCells]
    · rw [h2]; simp [Builtin.append_, run_underlying ht, sizeOf, typeInfo, hi, Builtin.lenOf, Builtin.firstCells, hnc, storeCells]
  · have hcells : ∀ j u, news[j]? = some u → w.cell? (ad.add j) = some u := by
      intro j u hu
      obtain ⟨ad', h, hc⟩ := hr j u hu
      injection h with h
      subst h
      exact hc
    obtain ⟨v', w', hrun, h2, h3, _, h5⟩ := run_append_own_at (P := P) w 0 t ty e i z 1 bytes ht hi hz hsz hby hzs (by omega) (.slice A xs.length c) xs.length xs hown.1 ad news.length c2 news (by simp) hcells h1 h63 hbytes (Nat.zero_le _)
    have ho : Only fp w w' := by
      refine (Only.refl fp w).grown h3 (fun k hk _ => ?_)
      rcases A with _ | a0
      · simp [Value.ownBlock] at hk
      · simp [Value.ownBlock] at hk
        subst hk
        exact hown.2 _ rfl
    have key : ∀ A' c', v' = .slice A' (xs.length + news.length) c' → Own w' (More fp w w') e A' c' (xs ++ news) := by
      rintro A' c' rfl
      refine ⟨by simpa using h2, fun ad' e' => ?_⟩
      subst e'
      have hl := h2.lt ad'.block rfl
      rcases h5 with h5 | h5
      · rcases A with _ | a0
        · simp [Value.ownBlock] at h5
        · simp [Value.ownBlock] at h5
          rw [h5]
          exact .inl (hown.2 _ rfl)
      · simp [Value.ownBlock] at h5
        exact .inr ⟨by omega, hl.2⟩
    rcases h2.2 with ⟨hv, h0⟩ | ⟨g, cap, cur, hv, _⟩
    · subst hv
      exact ⟨none, 0, w', by rw [hrun, h0], key none 0 (by rw [h0]), ho⟩
    · subst hv
      exact ⟨_, _, w', hrun, key _ _ rfl, ho⟩

theorem wp_app {o : Oper} {a : Act} {K : Act → World → Prop} {Q : Exit → Act → World → Prop} (s x : Operand) (t : TypeId)
    (ho : o.op = .call { callee := .builtin .append, args := #[s, x], argTypes := #[t, t] })
    (e : TypeId) (z : Value) (bytes : Nat) (ht : P.underlying t = some (.slice e)) (hi : (P.info? e).map (fun i => (i.zero, i.size, i.bytes)) = some (some z, 1, bytes)) (hzs : z.cells.size = 1)
    (A : Option Addr) (n c : Nat) (xs : List Value) (hs : a.eval s = .slice A n c) (hn : n = xs.length) (hown : Own w fp e A c xs)
    (A2 : Option Addr) (m c2 : Nat) (news : List Value) (hx : a.eval x = .slice A2 m c2) (hm : m = news.length) (hr : Rd w A2 news) (h1 : ∀ u ∈ news, u.oneCell' = true)
    (h63 : n + m ≤ maxLen) (hbytes : (n + m) * bytes ≤ 140737488355328)
    (h : ∀ A' c' w', Own w' (More fp w w') e A' c' (xs ++ news) → Only fp w w' → K (a.put o.dst (.slice A' (n + m) c')) w') : o.wp P a w K Q := by
  obtain ⟨A', c', w', hrun, h2, h3⟩ := run_app (P := P) w t o.type e z bytes ht hi hzs A n c xs hn hown A2 m c2 news hm hr h1 h63 hbytes
  unfold Oper.wp execOp
  simp only [ho, resolve, invoke, builtin, Sem.run_bind, Sem.run_pure, Result.andThen_ok, List.map_toArray, List.map_cons, List.map_nil, hs, hx, hrun]
  exact h A' c' w' h2 h3

theorem wpList_app {ops : Array Oper} {rest : List Oper} {o : Oper} {a : Act} {Q : Exit → Act → World → Prop} (hgd : o.guard = none) (s x : Operand) (t : TypeId)
    (ho : o.op = .call { callee := .builtin .append, args := #[s, x], argTypes := #[t, t] })
    (e : TypeId) (z : Value) (bytes : Nat) (ht : P.underlying t = some (.slice e)) (hi : (P.info? e).map (fun i => (i.zero, i.size, i.bytes)) = some (some z, 1, bytes)) (hzs : z.cells.size = 1)
    (A : Option Addr) (n c : Nat) (xs : List Value) (hs : a.eval s = .slice A n c) (hn : n = xs.length) (hown : Own w fp e A c xs)
    (A2 : Option Addr) (m c2 : Nat) (news : List Value) (hx : a.eval x = .slice A2 m c2) (hm : m = news.length) (hr : Rd w A2 news) (h1 : ∀ u ∈ news, u.oneCell' = true)
    (h63 : n + m ≤ maxLen) (hbytes : (n + m) * bytes ≤ 140737488355328)
    (h : ∀ A' c' w', Own w' (More fp w w') e A' c' (xs ++ news) → Only fp w w' → wpList P ops Q rest (a.put o.dst (.slice A' (n + m) c')) w') : wpList P ops Q (o :: rest) a w :=
  wpList_plain hgd fun _ hK => wp_app w s x t ho e z bytes ht hi hzs A n c xs hs hn hown A2 m c2 news hx hm hr h1 h63 hbytes fun A' c' w' h2 h3 => hK _ _ (h A' c' w' h2 h3)
end
end Go.Proofs.YtpjgkacekelkdaaGreatDoor

/-
  Texts of bytes as values. No statement of the seat is proved here.
-/
namespace Go.Proofs.YtpjgkacekelkdaaGreatDoor
open Go Go.RowKit

/-- a text of these bytes -/
def strV (bs : List UInt8) : Value := .string ⟨bs.toArray⟩
theorem strV_inj {a b : List UInt8} : (⟨a.toArray⟩ : ByteArray) = ⟨b.toArray⟩ ↔ a = b := ⟨fun h => by injection h with h; simpa using h, fun h => by rw [h]⟩
end Go.Proofs.YtpjgkacekelkdaaGreatDoor

/-
  Plain mathematics of octet: a number's digits to the base 128. No Go here.
-/
namespace Go.Proofs.YtpjgkacekelkdaaGreatDoor

/-- a number as bytes: seven binary digits a byte, the lowest first -/
def dig (n : Nat) : List UInt8 := if n < 128 then [n.toUInt8] else (n % 128 + 128).toUInt8 :: dig (n / 128)
termination_by n

theorem dig_lt {n : Nat} (h : n < 128) : dig n = [n.toUInt8] := by rw [dig, if_pos h]
theorem dig_ge {n : Nat} (h : ¬ n < 128) : dig n = (n % 128 + 128).toUInt8 :: dig (n / 128) := by rw [dig, if_neg h]
theorem dig_pos (n : Nat) : 0 < (dig n).length := by
  rw [dig]; split <;> simp

/-- so many bytes at the most -/
theorem dig_len : ∀ (k n : Nat), n < 128 ^ k → 0 < k → (dig n).length ≤ k
  | 0, _, _, h => absurd h (by omega)
  | k + 1, n, h, _ => by
    by_cases hn : n < 128
    · rw [dig_lt hn]; simp
    · rw [dig_ge hn]
      have hk : 0 < k := by
        rcases k with _ | k
        · simp at h; omega
        · omega
      have h2 : n / 128 < 128 ^ k := by
        rw [Nat.pow_succ] at h
        exact Nat.div_lt_of_lt_mul (by rw [Nat.mul_comm]; exact h)
      have := dig_len k (n / 128) h2 hk
      simp only [List.length_cons]
      omega

/-- a number brought into the bounds of what may be laid -/
def clamp (v : Int) : Nat := (min (max v 0) 4611686018427387904).toNat
theorem clamp_le (v : Int) : clamp v ≤ 4611686018427387904 := by unfold clamp; omega
theorem clamp_of_nat {n : Nat} (h : n ≤ 4611686018427387904) : clamp (n : Int) = n := by unfold clamp; omega
theorem dig_clamp_len (v : Int) : (dig (clamp v)).length ≤ 9 := dig_len 9 _ (by have := clamp_le v; have : (128 : Nat) ^ 9 = 9223372036854775808 := rfl; omega) (by omega)

/-- how many bytes the rest has: none, if nothing is left -/
def dlen (k : Nat) : Nat := if k = 0 then 0 else (dig k).length
theorem dig_len_eq (m : Nat) : (dig m).length = 1 + dlen (m / 128) := by
  by_cases h : m < 128
  · rw [dig_lt h, dlen, if_pos (by omega)]; rfl
  · rw [dig_ge h, dlen, if_neg (by omega), List.length_cons]; omega
theorem dlen_pos {k : Nat} (h : 0 < k) : dlen k = 1 + dlen (k / 128) := by rw [dlen, if_neg (by omega), dig_len_eq]
/-- the first byte tells whether the number is below 128 -/
theorem dig_first (m : Nat) (h : ¬ m < 128) : ∃ u r, dig m = u :: r ∧ 128 ≤ u.toNat ∧ r = dig (m / 128) := by
  refine ⟨_, _, dig_ge h, ?_, rfl⟩
  simp [Nat.toUInt8, UInt8.toNat_ofNat']; omega
/-- the last byte of several is not 0 -/
theorem dig_last : ∀ (n m : Nat), m ≤ n → 0 < m → ∃ p u, dig m = p ++ [u] ∧ 0 < u.toNat
  | 0, m, h, h0 => by omega
  | n + 1, m, h, h0 => by
    by_cases hm : m < 128
    · exact ⟨[], m.toUInt8, by rw [dig_lt hm]; rfl, by simp [Nat.toUInt8, UInt8.toNat_ofNat']; omega⟩
    · obtain ⟨p, u, e, hu⟩ := dig_last n (m / 128) (by omega) (by omega)
      exact ⟨_ :: p, u, by rw [dig_ge hm, e]; rfl, hu⟩

/-! ### the number at the beginning of bytes -/
def scan : Nat → Nat → List UInt8 → Option (Nat × Nat)
  | _, _, [] => none
  | i, n, c :: r =>
    if i = 9 then none
    else if 127 < c.toNat then scan (i + 1) (n + c.toNat % 128 * 128 ^ i) r
    else if 4611686018427387904 < n + c.toNat % 128 * 128 ^ i ∨ (0 < i ∧ c.toNat = 0) then none
    else some (n + c.toNat % 128 * 128 ^ i, i + 1)
def num? (bs : List UInt8) : Option (Nat × Nat) := scan 0 0 bs
def resN (r : Option (Nat × Nat)) : Nat := (r.getD (0, 0)).1
def resK (r : Option (Nat × Nat)) : Nat := (r.getD (0, 0)).2
/-- what is left behind a number, and whether there was none -/
def restOf (bs : List UInt8) : Option (Nat × Nat) → List UInt8
  | some (_, k) => bs.drop k
  | none => []
def badOf : Option (Nat × Nat) → Bool
  | some _ => false
  | none => true

/-- a number that was laid is met again -/
theorem scan_dig : ∀ (k n i a : Nat) (r : List UInt8), n ≤ k → (i = 0 ∨ 0 < n) → a + n * 128 ^ i ≤ 4611686018427387904 → scan i a (dig n ++ r) = some (a + n * 128 ^ i, i + (dig n).length)
  | k, n, i, a, r, hk, h0, hle => by
    have hi : i ≤ 8 := by
      rcases h0 with h0 | h0
      · omega
      · rcases Nat.lt_or_ge i 9 with h | h
        · omega
        · have h1 : 128 ^ 9 ≤ 128 ^ i := Nat.pow_le_pow_right (by omega) h
          have h2 : 1 * 128 ^ i ≤ n * 128 ^ i := Nat.mul_le_mul_right _ h0
          have h3 : (128 : Nat) ^ 9 = 9223372036854775808 := rfl
          omega
    by_cases hn : n < 128
    · have e : n.toUInt8.toNat = n := by simp [Nat.toUInt8, UInt8.toNat_ofNat']; omega
      rw [dig_lt hn]
      simp only [List.singleton_append, scan, e]
      rw [if_neg (by omega), if_neg (by omega), Nat.mod_eq_of_lt hn, if_neg (by omega)]
      simp
    · have e : (n % 128 + 128).toUInt8.toNat = n % 128 + 128 := by simp [Nat.toUInt8, UInt8.toNat_ofNat']; omega
      have e2 : (n % 128 + 128) % 128 = n % 128 := by omega
      have e3 : a + n % 128 * 128 ^ i + n / 128 * 128 ^ (i + 1) = a + n * 128 ^ i := by
        have h1 : n * 128 ^ i = (n % 128 + 128 * (n / 128)) * 128 ^ i := by rw [Nat.mod_add_div]
        rw [h1, Nat.add_mul, Nat.pow_succ, Nat.mul_comm 128 (n / 128), Nat.mul_assoc (n / 128), Nat.mul_comm 128]
        omega
      rw [dig_ge hn]
      simp only [List.cons_append, scan, e]
      rw [if_neg (by omega), if_pos (by omega), e2, scan_dig (n / 128) (n / 128) (i + 1) _ r (Nat.le_refl _) (.inr (by omega)) (by rw [e3]; exact hle), e3]
      simp only [List.length_cons]
      congr 2; omega
termination_by _ n => n
theorem num_dig (n : Nat) (r : List UInt8) (h : n ≤ 4611686018427387904) : num? (dig n ++ r) = some (n, (dig n).length) := by
  have := scan_dig n n 0 0 r (Nat.le_refl _) (.inl rfl) (by simpa using h)
  simpa [num?] using this

/-! ### the check sum, four digits at a time -/
def tab (i : Nat) : Nat := [0, 498536548, 997073096, 651767980, 1994146192, 1802195444, 1303535960, 1342533948, 3988292384, 4027552580, 3604390888, 3412177804, 2607071920, 2262029012, 2685067896, 3183342108].getD i 0
theorem tab_lt (i : Nat) : tab i < 4294967296 := by
  have h : ∀ j, j < 16 → tab j < 4294967296 := by decide
  by_cases hi : i < 16
  · exact h i hi
  · unfold tab; rw [List.getD_eq_getElem?_getD, List.getElem?_eq_none (by simp; omega)]; decide
def nib (s : Nat) : Nat := s / 16 ^^^ tab (s % 16)
theorem nib_lt {s : Nat} (h : s < 4294967296) : nib s < 4294967296 :=
  Nat.xor_lt_two_pow (n := 32) (by have : s / 16 < 2 ^ 32 := by omega
                                   exact this) (tab_lt _)
def crcB (s : Nat) (b : UInt8) : Nat := nib (nib (s ^^^ b.toNat))
theorem xorb_lt {s : Nat} (h : s < 4294967296) (b : UInt8) : s ^^^ b.toNat < 4294967296 :=
  Nat.xor_lt_two_pow (n := 32) h (by have := b.toNat_lt; have : (2 : Nat) ^ 32 = 4294967296 := rfl; omega)
theorem crcB_lt {s : Nat} (h : s < 4294967296) (b : UInt8) : crcB s b < 4294967296 := nib_lt (nib_lt (xorb_lt h b))
def crcL (s : Nat) (bs : List UInt8) : Nat := bs.foldl crcB s
theorem crcL_lt (bs : List UInt8) : ∀ {s : Nat}, s < 4294967296 → crcL s bs < 4294967296 := by
  induction bs with
  | nil => intro s h; exact h
  | cons b r ih => intro s h; exact ih (crcB_lt h b)
theorem crcL_append (s : Nat) (a b : List UInt8) : crcL s (a ++ b) = crcL (crcL s a) b := List.foldl_append
theorem crcL_snoc (s : Nat) (a : List UInt8) (b : UInt8) : crcL s (a ++ [b]) = crcB (crcL s a) b := by rw [crcL_append]; rfl
theorem crcL_take_succ (s : Nat) (xs : List UInt8) (k : Nat) (h : k < xs.length) : crcL s (xs.take (k + 1)) = crcB (crcL s (xs.take k)) xs[k] := by
  rw [List.take_succ_eq_append_getElem h, crcL_snoc]
/-- the check sum of bytes -/
def sumOf (bs : List UInt8) : Nat := 4294967295 - crcL 4294967295 bs
theorem sumOf_known : sumOf [49, 50, 51, 52, 53, 54, 55, 56, 57] = 3421780262 := by decide

end Go.Proofs.YtpjgkacekelkdaaGreatDoor

/-
  The contracts of package octet's Writer: Raw, num, Nums, Bytes, Out. No statement of the seat is proved here.
-/
namespace Go.Proofs.YtpjgkacekelkdaaGreatDoor
open Go Go.RowKit

theorem info_u8 : (Tryz.prog.info? 5).map (fun i => (i.zero, i.size, i.bytes)) = some (some (.int .u8 0), 1, 1) := by kernel_rfl

/-- A Writer in block 'g', which has laid the cells 'xs'; what it owns lies in 'fp'. -/
def Wr (w : World) (fp : Nat → Prop) (g : Nat) (xs : List Value) : Prop :=
  fp g ∧ ∃ A c, Blk w g 55 #[.slice A xs.length c] ∧ Own w fp 5 A c xs

section
variable {S fp fp' : Nat → Prop} {w w' : World} {g : Nat} {xs : List Value}
theorem Wr.mono (h : Wr w fp g xs) (hs : ∀ k, fp k → k < w.heap.size → fp' k) : Wr w fp' g xs := by
  obtain ⟨h1, A, c, hb, ho⟩ := h
  exact ⟨hs _ h1 hb.lt, A, c, hb, ho.mono hs⟩
theorem Wr.only (h : Wr w fp g xs) (ho : Only S w w') (hn : ∀ k, fp k → ¬ S k) : Wr w' fp g xs := by
  obtain ⟨h1, A, c, hb, hown⟩ := h
  exact ⟨h1, A, c, hb.only ho (hn _ h1), hown.only ho hn⟩
theorem Wr.ext (h : Wr w fp g xs) (hb : Below w.heap.size w w') : Wr w' fp g xs := by
  obtain ⟨h1, A, c, hb1, hown⟩ := h
  exact ⟨h1, A, c, hb1.ext hb, hown.ext hb⟩
theorem Wr.drewN (h : Wr w fp g xs) (n : Nat) : Wr (w.drewN n) fp g xs := h
theorem Wr.alloc (h : Wr w fp g xs) (o : Obj) : Wr (w.alloc o) fp g xs := h.ext ((Below.refl _ _).alloc (Nat.le_refl _) o)
theorem Wr.lt (h : Wr w fp g xs) : g < w.heap.size := by
  obtain ⟨_, _, _, hb, _⟩ := h
  exact hb.lt
theorem Wr.new (w : World) (fp : Nat → Prop) (hf : fp w.heap.size) : Wr (w.alloc (.cells #[.slice none 0 0] 55)) fp w.heap.size [] :=
  ⟨hf, none, 0, Blk.new w _ _, Own.none_ _ _ _⟩
end

theorem raw_nil (v : Value) (w : World) : Calls Tryz.prog 52 #[.pointer none, v] w fun e w' => e = .returned (.tuple #[]) ∧ w = w' := by
  go_enter Tryz.func52, Tryz.ntmps52
  go_wp2
  go_end0
  exact ⟨rfl, rfl⟩

/-- what a Writer is behind an append to its row and the store of it -/
theorem Wr.step {fp : Nat → Prop} {g : Nat} {A A' : Option Addr} {c c' : Nat} {xs ys : List Value} {w w1 : World} (hg : fp g) (hblk : Blk w g 55 #[.slice A xs.length c])
    (ho : Only (fun k => fp k ∧ k ≠ g) w w1) (hown : Own w1 (More (fun k => fp k ∧ k ≠ g) w w1) 5 A' c' ys) :
    Wr (w1.setCell ⟨g, 0, none⟩ (.slice A' ys.length c')) (More fp w (w1.setCell ⟨g, 0, none⟩ (.slice A' ys.length c'))) g ys ∧ Only fp w (w1.setCell ⟨g, 0, none⟩ (.slice A' ys.length c')) := by
  have hb1 : Blk w1 g 55 #[.slice A xs.length c] := hblk.only ho (fun h => h.2 rfl)
  refine ⟨⟨.inl hg, A', c', hb1.put 0 _, ?_⟩, (ho.mono (fun _ _ h => h.1)).setCell (.inl hg) _⟩
  refine (hown.setCell (hown.ne_blk hb1 (by decide)) _).mono (fun k hk _ => ?_)
  rcases hk with hk | hk
  · exact .inl hk.1
  · exact .inr (by simpa [World.setCell] using hk)

set_option maxHeartbeats 400000 in
theorem raw_any (fp : Nat → Prop) (g : Nat) (A2 : Option Addr) (m c2 : Nat) (xs news : List Value) (w : World) (hw : Wr w fp g xs) (hm : m = news.length) (hr : Rd w A2 news) (h1 : ∀ u ∈ news, u.oneCell' = true)
    (hb : xs.length + news.length ≤ 1099511627776) :
    Calls Tryz.prog 52 #[.pointer (some ⟨g, 0, none⟩), .slice A2 m c2] w fun e w' => e = .returned (.tuple #[]) ∧ Wr w' (More fp w w') g (xs ++ news) ∧ Only fp w w' := by
  obtain ⟨hg, A, c, hblk, hown⟩ := hw
  have h0 := hblk.cell 0
  simp only [List.getElem?_toArray, List.getElem?_cons_zero] at h0
  have f0 := hblk.free 0
  have hk1 : xs.length + m ≤ maxLen := by unfold maxLen; omega
  have hk2 : (xs.length + m) * 1 ≤ 140737488355328 := by omega
  have hown' : Own w (fun k => fp k ∧ k ≠ g) 5 A c xs := ⟨hown.1, fun ad e => ⟨hown.2 ad e, hown.ne_blk hblk (by decide) ad e⟩⟩
  have hm' := Lib.hid hm
  clear hm
  go_enter Tryz.func52, Tryz.ntmps52
  go_wp2_with (at_builtin
               refine wpList_app _ rfl (.tmp 10) (.tmp 11) _ rfl _ _ 1 Tryz.underlying26 info_u8 rfl A _ c xs rfl rfl hown' A2 m c2 news rfl hm'.out hr h1 hk1 hk2 ?_
               intro A' c' w1 hown1 honly1
               have hb1 := hblk.only honly1 (fun h => h.2 rfl)
               have g0 : w1.cell? ⟨g, 0, none⟩ = some (.slice A xs.length c) := hb1.cell 0
               have g1 : w1.frozen? ⟨g, 0, none⟩ = false := hb1.free 0)
  go_end0
  refine ⟨rfl, ?_⟩
  have key := Wr.step hg hblk honly1 hown1
  rw [List.length_append, ← hm'.out] at key
  exact key

theorem Wr.join {fp : Nat → Prop} {a b b' c : World} {g : Nat} {xs : List Value} (h1 : a.heap.size ≤ b.heap.size) (h2 : b.heap.size ≤ b'.heap.size) (h3 : b'.heap.size ≤ c.heap.size) (h : Wr c (More (More fp a b) b' c) g xs) : Wr c (More fp a c) g xs :=
  h.mono fun _ hk _ => More.join h1 h2 h3 hk
end Go.Proofs.YtpjgkacekelkdaaGreatDoor

/-
  The contract of octet's Join. No statement of the seat is proved here.
-/
namespace Go.Proofs.YtpjgkacekelkdaaGreatDoor
open Go Go.RowKit

/-- bytes in a list of the call's own, which was made between two worlds -/
def New (w w' : World) (A : Option Addr) (c : Nat) (bs : List UInt8) : Prop := Own w' (fun k => w.heap.size ≤ k ∧ k < w'.heap.size) 5 A c (bs.map bv)

theorem make_bytes (W : World) (t : Nat) (h : t ≤ 1099511627776) : (Instr.makeSlice 26 (.int .i64 0) (.int .i64 (t : Int))).run Tryz.prog W =
    .ok (.slice (some ⟨W.heap.size, 0, none⟩) 0 t) (W.alloc (.cells (madeCells #[.int .u8 0] (t * 1)) 5)) := by
  obtain ⟨i, hi, hz, hsz, hby⟩ := info_parts info_u8
  have hr := run_make (P := Tryz.prog) W 26 5 i _ Tryz.underlying26 hi hz .i64 .i64 ((0 : Nat) : Int) t (by omega) (by omega) (by rw [hby]; omega) (by omega)
  simp only [Int.toNat_natCast, hsz] at hr
  exact hr

theorem flat_take_succ (xss : List (List UInt8)) (k : Nat) (h : k < xss.length) : (xss.take (k + 1)).flatten = (xss.take k).flatten ++ xss[k] := by
  rw [List.take_succ_eq_append_getElem h, List.flatten_append]; simp
theorem flat_take_le (xss : List (List UInt8)) (k : Nat) : (xss.take k).flatten.length ≤ xss.flatten.length := by
  have h : xss.flatten = (xss.take k).flatten ++ (xss.drop k).flatten := by rw [← List.flatten_append, List.take_append_drop]
  rw [h, List.length_append]; omega
/-- the bytes of the first k rows; how many they are: under a name, so that the walk leaves them alone -/
def upTo (xss : List (List UInt8)) (k : Nat) : List UInt8 := (xss.take k).flatten
def lenTo (xss : List (List UInt8)) (k : Nat) : Nat := (upTo xss k).length
theorem lenTo_zero (xss : List (List UInt8)) : lenTo xss 0 = 0 := rfl
theorem upTo_succ (xss : List (List UInt8)) (k : Nat) (h : k < xss.length) : upTo xss (k + 1) = upTo xss k ++ xss[k] := flat_take_succ xss k h
theorem lenTo_succ (xss : List (List UInt8)) (k : Nat) (h : k < xss.length) : lenTo xss (k + 1) = lenTo xss k + xss[k].length := by unfold lenTo; rw [upTo_succ xss k h, List.length_append]
theorem lenTo_le (xss : List (List UInt8)) (k : Nat) : lenTo xss k ≤ xss.flatten.length := flat_take_le xss k
theorem upTo_all (xss : List (List UInt8)) : upTo xss xss.length = xss.flatten := by unfold upTo; rw [List.take_length]
theorem lenTo_all (xss : List (List UInt8)) : lenTo xss xss.length = xss.flatten.length := by unfold lenTo; rw [upTo_all]

theorem New.start (w : World) (n : Nat) (h : n ≤ 1099511627776) : New w (w.alloc (.cells (madeCells #[.int .u8 0] n) 5)) (some ⟨w.heap.size, 0, none⟩) n [] := by
  refine ⟨?_, fun ad h => by injection h with h; subst h; simp⟩
  exact World.ownsRow_made w _ n (Nat.zero_le _) (by unfold maxLen; omega) (by simp [madeCells])
theorem New.grow {w w1 w2 : World} {A : Option Addr} {c : Nat} {bs cs : List UInt8} (hb : Below w.heap.size w w1) (h : Own w2 (More (fun k => w.heap.size ≤ k ∧ k < w1.heap.size) w1 w2) 5 A c (bs.map bv ++ cs.map bv)) (ho : Only (fun k => w.heap.size ≤ k ∧ k < w1.heap.size) w1 w2) :
    New w w2 A c (bs ++ cs) ∧ Below w.heap.size w w2 := by
  have h1 := hb.size
  have h2 := ho.size
  refine ⟨?_, hb.trans (ho.below (fun _ h => h.1) hb.size)⟩
  unfold New
  rw [List.map_append]
  refine h.mono (fun _ hk _ => ?_)
  rcases hk with hk | hk <;> omega
/-- .. a literal laid in between -/
theorem New.grow1 {w w1 w2 : World} {A : Option Addr} {c : Nat} {bs cs : List UInt8} {o : Obj} (hb : Below w.heap.size w w1) (h : Own w2 (More (fun k => w.heap.size ≤ k ∧ k < w1.heap.size) (w1.alloc o) w2) 5 A c (bs.map bv ++ cs.map bv)) (ho : Only (fun k => w.heap.size ≤ k ∧ k < w1.heap.size) (w1.alloc o) w2) :
    New w w2 A c (bs ++ cs) ∧ Below w.heap.size w w2 := by
  have h1 := hb.size
  have h2 := ho.size
  rw [World.size_alloc] at h2
  refine ⟨?_, (hb.alloc h1 o).trans (ho.below (fun _ h => h.1) (by rw [World.size_alloc]; omega))⟩
  unfold New
  rw [List.map_append]
  refine h.mono (fun _ hk _ => ?_)
  rcases hk with hk | hk
  · omega
  · rw [World.size_alloc] at hk; omega
theorem New.ext {w w1 w2 : World} {A : Option Addr} {c : Nat} {bs : List UInt8} (h : New w w1 A c bs) (hb : Below w1.heap.size w1 w2) : New w w2 A c bs :=
  (Own.ext h hb).mono (fun _ hk _ => ⟨hk.1, Nat.lt_of_lt_of_le hk.2 hb.size⟩)

theorem New.rd {w w1 : World} {A : Option Addr} {c : Nat} {bs : List UInt8} (h : New w w1 A c bs) : Rd w1 A (bs.map bv) := Own.rd h
theorem New.back {w w0 w1 : World} {A : Option Addr} {c : Nat} {bs : List UInt8} (h : New w w1 A c bs) (hs : w0.heap.size ≤ w.heap.size) : New w0 w1 A c bs :=
  Own.mono h (fun _ hk _ => ⟨Nat.le_trans hs hk.1, hk.2⟩)

set_option maxHeartbeats 1000000 in
theorem join_any (A : Option Addr) (n c : Nat) (xss : List (List UInt8)) (bs : List UInt8) (w : World) (hn : n = xss.length) (hbs : xss.flatten = bs) (hr : RowsF (fun _ => False) w A xss) (hb : bs.length ≤ 1099511627776) (hb2 : xss.length ≤ 1099511627776) :
    Calls Tryz.prog 54 #[.slice A n c] w fun e w' => ∃ A' c', e = .returned (.slice A' bs.length c') ∧ New w w' A' c' bs ∧ Below w.heap.size w w' := by
  subst hn
  have hmk := fun W => make_bytes W bs.length hb
  have hall := lenTo_all xss
  have hle := lenTo_le xss
  rw [hbs] at hall hle
  have Hbs := Lib.hid hbs
  have Hall := Lib.hid hall
  have Hle := Lib.hid hle
  clear hall hbs hle
  go_enter Tryz.func54, Tryz.ntmps54
  go_wp2
  go_loop [3, 11] (fun s i => ∃ k : Nat, k ≤ xss.length ∧ i = .int .i64 (k : Int) ∧ s = .int .i64 (lenTo xss k : Int)) (fun _ i => xss.length - (intOf i).toNat)
  case atStart => exact ⟨0, Nat.zero_le _, rfl, by rw [lenTo_zero]; rfl⟩
  case round =>
    obtain ⟨k, hk, rfl, rfl⟩ := hrel
    have hle := Hle.out k
    by_cases hlt : k < xss.length
    · obtain ⟨ad, B, cb, rfl, hcell, hl, hrd⟩ := hr.at_ hlt
      have hsucc := Lib.hid (lenTo_succ xss k hlt)
      have hle' := Hle.out (k + 1)
      rw [lenTo_succ xss k hlt] at hle'
      go_wp2
      go_round
      case rel => exact ⟨k + 1, by omega, by go_num, by rw [hsucc.out]; go_num⟩
      case measure => simp [intOf]; omega
    · obtain rfl : k = xss.length := by omega
      rw [Hall.out]
      clear hle
      go_wp2
      go_loopw [6, 24] (fun s i w1 => ∃ (k : Nat) (A' : Option Addr) (c' : Nat), k ≤ xss.length ∧ i = .int .i64 (k : Int) ∧ s = .slice A' (lenTo xss k) c' ∧ New w w1 A' c' (upTo xss k) ∧ Below w.heap.size w w1) (fun _ i _ => xss.length - (intOf i).toNat)
      case atStart => exact ⟨0, _, _, Nat.zero_le _, rfl, rfl, by first | exact New.start w bs.length hb | (rw [Nat.mul_one]; exact New.start w bs.length hb), (Below.refl _ _).alloc (Nat.le_refl _) _⟩
      case round =>
        obtain ⟨k, A', c', hk, rfl, rfl, hnew, hbel⟩ := hrel
        by_cases hlt : k < xss.length
        · obtain ⟨ad, B, cb, rfl, hcell, hl, hrd⟩ := (hr.ext hbel).at_ hlt
          have hsucc := Lib.hid (lenTo_succ xss k hlt)
          have usucc := Lib.hid (upTo_succ xss k hlt)
          have hle' := Hle.out (k + 1)
          rw [lenTo_succ xss k hlt] at hle'
          have hk1 : lenTo xss k + xss[k].length ≤ maxLen := by unfold maxLen; omega
          have hk2 : (lenTo xss k + xss[k].length) * 1 ≤ 140737488355328 := by omega
          have hl0 := Lib.hid (show lenTo xss k = ((upTo xss k).map bv).length by rw [List.length_map]; rfl)
          have hl1 := Lib.hid (show xss[k].length = (xss[k].map bv).length by rw [List.length_map])
          go_wp2_with (at_builtin
                       refine wpList_app _ rfl (.tmp 28) (.tmp 29) _ rfl _ _ 1 Tryz.underlying26 info_u8 rfl A' (lenTo xss k) c' _ rfl ?_ hnew B _ cb (xss[k].map bv) rfl ?_ hrd.1 (bvs_one _) hk1 hk2 ?_
                       · rw [List.length_map]; rfl
                       · rw [List.length_map]
                       intro A2 c2 w2 hown2 honly2)
          go_roundw
          case rel =>
            obtain ⟨g1, g2⟩ := New.grow hbel hown2 honly2
            exact ⟨k + 1, A2, c2, by omega, by go_num, by rw [hsucc.out], by rw [usucc.out]; exact g1, g2⟩
          case measure => simp [intOf]; omega
        · obtain rfl : k = xss.length := by omega
          rw [Hall.out]
          go_wp2
          go_ret
          refine ⟨A', c', rfl, ?_, hbel⟩
          rw [upTo_all, Hbs.out] at hnew
          exact hnew
end Go.Proofs.YtpjgkacekelkdaaGreatDoor

/-
  A text as a row of bytes in new memory; what was laid, and its sum (package exact). No statement of the seat is proved here.
-/
namespace Go.Proofs.YtpjgkacekelkdaaGreatDoor
open Go Go.RowKit
set_option maxRecDepth 100000

theorem str_row (w : World) (bs : List UInt8) : ∃ c w1, (convert 9 26 (.string ⟨bs.toArray⟩)).run Tryz.prog w = .ok (.slice (some ⟨w.heap.size, 0, none⟩) bs.length c) w1 ∧ bs.length ≤ c ∧ Rd w1 (some ⟨w.heap.size, 0, none⟩) (bs.map bv) ∧ Below w.heap.size w w1 ∧ w1.heap.size = w.heap.size + 1 := by
  have h := run_bytes_of_string (P := Tryz.prog) w 9 26 5 ⟨bs.toArray⟩ Tryz.underlying9 Tryz.underlying26 Tryz.underlying5
  refine ⟨_, _, h, ?_, ?_, ?_, ?_⟩
  · exact grownCap_ge w bs.length 0 5
  · intro j u hu
    refine ⟨_, rfl, ?_⟩
    refine World.news_of_block (heap_alloc_new w.drew _) j u ?_
    unfold bytesRow
    have hj : j < bs.length := by have := (List.getElem?_eq_some_iff.1 hu).1; simpa using this
    rw [Array.getElem?_toList, Array.getElem?_append_left (by simpa using hj), Array.getElem?_map]
    simp only [List.getElem?_map] at hu
    simpa [bv] using hu
  · exact ((Below.refl _ _).drew).alloc (Nat.le_refl _) _
  · simp
end Go.Proofs.YtpjgkacekelkdaaGreatDoor

/-
  The contracts of octet's NewReader and of Reader's Good, Bad, Raw. No statement of the seat is proved here.
-/
namespace Go.Proofs.YtpjgkacekelkdaaGreatDoor
open Go Go.RowKit

/-- A Reader in block 'g': 'bs' is left of it; has it erred?; what it holds lies in 'fp'. -/
def Rdr (w : World) (fp : Nat → Prop) (g : Nat) (bs : List UInt8) (bad : Bool) : Prop :=
  fp g ∧ (bad = true → bs = []) ∧ ∃ A c, Blk w g 106 #[.slice A bs.length c, .bool bad] ∧ Rd w A (bs.map bv) ∧ (∀ ad, A = some ad → bs ≠ [] → fp ad.block ∧ ad.block ≠ g) ∧ bs.length ≤ c

section
variable {S fp fp' : Nat → Prop} {w w' : World} {g : Nat} {bs : List UInt8} {bad : Bool}
theorem Rdr.lt (h : Rdr w fp g bs bad) : g < w.heap.size := by
  obtain ⟨_, _, _, _, hb, _⟩ := h
  exact hb.lt
theorem Rdr.only (h : Rdr w fp g bs bad) (ho : Only S w w') (hn : ∀ k, fp k → ¬ S k) : Rdr w' fp g bs bad := by
  obtain ⟨h1, h2, A, c, hb, hr, ha, hc⟩ := h
  exact ⟨h1, h2, A, c, hb.only ho (hn _ h1), hr.only ho (fun ad e hne => hn _ (ha ad e (by intro h; exact hne (by rw [h]; rfl))).1), ha, hc⟩
theorem Rdr.ext (h : Rdr w fp g bs bad) (hb : Below w.heap.size w w') : Rdr w' fp g bs bad := by
  obtain ⟨h1, h2, A, c, hb1, hr, ha, hc⟩ := h
  exact ⟨h1, h2, A, c, hb1.ext hb, hr.ext hb, ha, hc⟩
theorem Rdr.drewN (h : Rdr w fp g bs bad) (n : Nat) : Rdr (w.drewN n) fp g bs bad := h
theorem Rdr.mono (h : Rdr w fp g bs bad) (hs : ∀ k, fp k → k < w.heap.size → fp' k) : Rdr w fp' g bs bad := by
  obtain ⟨h1, h2, A, c, hb1, hr, ha, hc⟩ := h
  refine ⟨hs _ h1 hb1.lt, h2, A, c, hb1, hr, fun ad e hne => ?_, hc⟩
  obtain ⟨ad', e', hcell⟩ := hr.at_ (k := 0) (by have := List.length_pos_iff.2 hne; simpa using this)
  rw [e] at e'; injection e' with e'; subst e'
  have hl := World.block_lt_of_cell? w _ hcell
  rw [block_add] at hl
  exact ⟨hs _ (ha ad e hne).1 hl, (ha ad e hne).2⟩
end

theorem rgood (fp : Nat → Prop) (g : Nat) (bs : List UInt8) (bad : Bool) (w : World) (h : Rdr w fp g bs bad) :
    Calls Tryz.prog 63 #[.pointer (some ⟨g, 0, none⟩)] w fun e w' => e = .returned (.bool (!bad)) ∧ w = w' := by
  obtain ⟨_, _, A, c, hb, _⟩ := h
  have h1 := hb.cell 1
  simp only [List.getElem?_toArray, List.getElem?_cons_zero, List.getElem?_cons_succ] at h1
  go_enter Tryz.func63, Tryz.ntmps63
  go_wp2
  go_ret
  exact ⟨rfl, rfl⟩
theorem rbad (fp : Nat → Prop) (g : Nat) (bs : List UInt8) (bad : Bool) (w : World) (h : Rdr w fp g bs bad) :
    Calls Tryz.prog 65 #[.pointer (some ⟨g, 0, none⟩)] w fun e w' => e = .returned (.tuple #[]) ∧ Rdr w' fp g [] true ∧ Only (fun k => k = g) w w' := by
  obtain ⟨hg, _, A, c, hb, _⟩ := h
  have h0 := hb.cell 0
  have h1 := hb.cell 1
  simp only [List.getElem?_toArray, List.getElem?_cons_zero, List.getElem?_cons_succ] at h0 h1
  have f0 := hb.free 0
  have f1 := hb.free 1
  go_enter Tryz.func65, Tryz.ntmps65
  go_wp2
  go_end0
  refine ⟨rfl, ⟨hg, fun _ => rfl, none, 0, (hb.put 0 _).put 1 _, Rd.nil _ _, (fun ad e => by cases e), Nat.le_refl _⟩, ?_⟩
  exact ((Only.refl (fun k => k = g) w).setCell (p := ⟨g, 0, none⟩) (.inl rfl) _).setCell (p := ⟨g, 1, none⟩) (.inl rfl) _

theorem Rd.add {w : World} {A : Option Addr} {xs : List Value} (h : Rd w A xs) (k : Nat) : Rd w (A.map fun x => x.add k) (xs.drop k) := fun j u hu => by
  rw [List.getElem?_drop] at hu
  obtain ⟨ad, rfl, hc⟩ := h _ u hu
  exact ⟨ad.add k, rfl, by rw [add_add_]; exact hc⟩

/-- the Reader takes what stands at the beginning: k bytes are gone -/
theorem Rdr.cut {fp : Nat → Prop} {w : World} {g k d : Nat} {bs : List UInt8} {A B : Option Addr} {c : Nat} (hg : fp g) (hb : Blk w g 106 #[.slice A bs.length c, .bool false]) (hr : Rd w A (bs.map bv)) (ha : ∀ ad, A = some ad → bs ≠ [] → fp ad.block ∧ ad.block ≠ g) (hc : bs.length ≤ c) (hk : k ≤ bs.length)
    (hB : c = k ∨ B = A.map (fun x => x.add k)) (hd : bs.length - k ≤ d) : Rdr (w.setCell ⟨g, 0, none⟩ (.slice B (bs.length - k) d)) fp g (bs.drop k) false ∧ Only (fun k => k = g) w (w.setCell ⟨g, 0, none⟩ (.slice B (bs.length - k) d)) := by
  refine ⟨⟨hg, fun h => by simp at h, B, d, ?_, ?_, ?_, by rw [List.length_drop]; omega⟩, (Only.refl (fun k => k = g) w).setCell (p := ⟨g, 0, none⟩) (.inl rfl) _⟩
  · have := hb.put 0 (.slice B (bs.length - k) d)
    rw [List.length_drop]
    exact this
  · rcases hbs : bs.drop k with _ | ⟨x, r⟩
    · exact Rd.nil _ _
    · rcases hB with hB | hB
      · have : bs.drop k = [] := List.drop_eq_nil_iff.2 (by omega)
        rw [this] at hbs; cases hbs
      · subst hB
        have h1 := hr.add k
        rw [← List.map_drop, hbs] at h1
        refine h1.setCell (fun ad e => ?_) _
        have hne : bs ≠ [] := by rintro rfl; simp at hbs
        obtain ⟨a0, e0, rfl⟩ := Option.map_eq_some_iff.1 e
        rw [block_add]
        exact (ha a0 e0 hne).2
  · intro ad e hne
    have hne' : bs ≠ [] := by rintro rfl; simp at hne
    rcases hB with hB | hB
    · exact absurd (List.drop_eq_nil_iff.2 (by omega)) hne
    · rw [hB] at e
      obtain ⟨a0, e0, rfl⟩ := Option.map_eq_some_iff.1 e
      rw [block_add]
      exact ha a0 e0 hne'

set_option maxHeartbeats 1000000 in
theorem newreader (A : Option Addr) (n c : Nat) (bs : List UInt8) (w : World) (hn : n = bs.length) (hc : bs.length ≤ c) (hr : Rd w A (bs.map bv)) (hb : bs.length ≤ 1099511627776) :
    Calls Tryz.prog 33 #[.slice A n c] w fun e w' => ∃ g, e = .returned (.pointer (some ⟨g, 0, none⟩)) ∧ Rdr w' (fun k => w.heap.size ≤ k ∧ k < w'.heap.size) g bs false ∧ Below w.heap.size w w' := by
  subst hn
  go_enter Tryz.func33, Tryz.ntmps33
  go_wp2_with fail
  refine (join_any _ 1 1 [bs] bs _ rfl (by simp) (RowsF.one (RdF.of hr) hc _ rfl id) hb (by simp)).mono ?_
  rintro e w1 ⟨A1, c1, rfl, hnew, hbel⟩
  go_wp2
  go_ret
  have hs1 := hbel.size
  rw [World.size_alloc] at hs1
  refine ⟨w1.heap.size, rfl, ⟨?_, fun h => by simp at h, A1, c1, Blk.new _ _ _, hnew.rd.alloc _, fun ad e _ => ?_, ?_⟩, ?_⟩
  · rw [World.size_alloc]; omega
  · rcases Own.some_ hnew with ⟨h, _⟩ | ⟨g, h, hf, hl⟩
    · rw [h] at e; cases e
    · rw [h] at e; injection e with e; subst e
      rw [World.size_alloc] at hf ⊢
      show (_ ≤ g ∧ g < _) ∧ g ≠ _
      omega
  · have := Own.cap hnew; simpa using this
  · exact (((Below.refl _ _).alloc (Nat.le_refl _) _).trans (hbel.mono (by simp))).alloc (by omega) _

set_option maxHeartbeats 1000000 in
/-- Raw: so many bytes, or an error -/
theorem rraw_ok (fp : Nat → Prop) (g : Nat) (bs : List UInt8) (k : Nat) (w : World) (h : Rdr w fp g bs false) (hk : k ≤ bs.length) (hb : bs.length ≤ 1099511627776) :
    Calls Tryz.prog 73 #[.pointer (some ⟨g, 0, none⟩), .int .i64 (k : Int)] w fun e w' => ∃ A' c', e = .returned (.slice A' k c') ∧ New w w' A' c' (bs.take k) ∧ Rdr w' fp g (bs.drop k) false ∧ Only (fun k => k = g) w w' := by
  have h' := h
  obtain ⟨hg, _, A, c, hblk, hr, ha, hc⟩ := h
  have h0 := hblk.cell 0
  have h1 := hblk.cell 1
  simp only [List.getElem?_toArray, List.getElem?_cons_zero, List.getElem?_cons_succ] at h0 h1
  have f0 := hblk.free 0
  go_enter Tryz.func73, Tryz.ntmps73
  go_wp2_with fail
  refine (rgood fp g bs false _ h').mono ?_
  rintro e w' ⟨rfl, rfl⟩
  have htk : (bs.take k).length = k := by rw [List.length_take]; omega
  have hrow : RowsF (fun _ => False) (w.alloc (.cells #[.slice A (bs.take k).length c] 26)) (some ⟨w.heap.size, 0, none⟩) [bs.take k] :=
    RowsF.one (RdF.of (by rw [List.map_take]; exact hr.take k)) (by rw [htk]; omega) _ rfl id
  rw [htk] at hrow
  have Htk := Lib.hid htk
  clear htk
  go_wp2_with fail
  refine (join_any _ 1 1 [bs.take k] (bs.take k) _ rfl (by simp) hrow (by rw [Htk.out]; omega) (by simp)).mono ?_
  rw [Htk.out]
  rintro e w1 ⟨A1, c1, rfl, hnew, hbel⟩
  have hbel' : Below w.heap.size w w1 := ((Below.refl _ _).alloc (Nat.le_refl _) _).trans (hbel.mono (by simp))
  have hnew' : New w w1 A1 c1 (bs.take k) := hnew.back (by simp)
  have hb1 := hblk.ext hbel'
  have hr1 := hr.ext hbel'
  have g0 := hb1.cell 0
  simp only [List.getElem?_toArray, List.getElem?_cons_zero] at g0
  have g1 := hb1.free 0
  have hgl := hblk.lt
  have hfin : ∀ v, New w (w1.setCell ⟨g, 0, none⟩ v) A1 c1 (bs.take k) := fun v => by
    have h1 := Own.setCell hnew' (p := ⟨g, 0, none⟩) (fun ad e => by have := (hnew'.2 ad e).1; show ad.block ≠ g; omega) v
    exact h1.mono (fun j hj _ => ⟨hj.1, by simpa [World.setCell] using hj.2⟩)
  clear hrow hnew
  go_wp2
  · have hck : c = k := by assumption
    go_ret
    obtain ⟨q1, q2⟩ := Rdr.cut (B := A) (d := 0) hg hb1 hr1 ha hc hk (.inl hck) (by omega)
    exact ⟨A1, c1, rfl, hfin _, q1, (Only.of_ext hbel').trans q2 (fun _ _ h => h)⟩
  · go_ret
    obtain ⟨q1, q2⟩ := Rdr.cut (d := c - k) hg hb1 hr1 ha hc hk (.inr rfl) (by omega)
    exact ⟨A1, c1, rfl, hfin _, q1, (Only.of_ext hbel').trans q2 (fun _ _ h => h)⟩
theorem rraw_none (fp : Nat → Prop) (g : Nat) (bs : List UInt8) (v : Int) (w : World) (h : Rdr w fp g bs false) (_ : isInt v) (hk : v < 0 ∨ (bs.length : Int) < v) (hb : bs.length ≤ 1099511627776) :
    Calls Tryz.prog 73 #[.pointer (some ⟨g, 0, none⟩), .int .i64 v] w fun e w' => e = .returned (.slice none 0 0) ∧ Rdr w' fp g [] true ∧ Only (fun k => k = g) w w' := by
  have h' := h
  obtain ⟨hg, _, A, c, hblk, hr, ha, hc⟩ := h
  have h0 := hblk.cell 0
  simp only [List.getElem?_toArray, List.getElem?_cons_zero] at h0
  rcases hk with hk | hk
  · go_enter Tryz.func73, Tryz.ntmps73
    go_wp2_with fail
    refine (rgood fp g bs false _ h').mono ?_
    rintro e w' ⟨rfl, rfl⟩
    go_wp2_with fail
    refine (rbad fp g bs false _ h').mono ?_
    rintro e w2 ⟨rfl, hrd, ho⟩
    go_wp2
    go_ret
    exact ⟨rfl, hrd, ho⟩
  · have hk2 : ¬ v < 0 := by omega
    have hk3 : decide (v < 0) = false := decide_eq_false hk2
    go_enter Tryz.func73, Tryz.ntmps73
    go_wp2_with fail
    refine (rgood fp g bs false _ h').mono ?_
    rintro e w' ⟨rfl, rfl⟩
    go_wp2_with fail
    refine (rbad fp g bs false _ h').mono ?_
    rintro e w2 ⟨rfl, hrd, ho⟩
    go_wp2
    go_ret
    exact ⟨rfl, hrd, ho⟩
theorem rraw_dead (fp : Nat → Prop) (g : Nat) (bs : List UInt8) (v : Int) (w : World) (h : Rdr w fp g bs true) :
    Calls Tryz.prog 73 #[.pointer (some ⟨g, 0, none⟩), .int .i64 v] w fun e w' => e = .returned (.slice none 0 0) ∧ w = w' := by
  go_enter Tryz.func73, Tryz.ntmps73
  go_wp2_with fail
  refine (rgood fp g bs true _ h).mono ?_
  rintro e w' ⟨rfl, rfl⟩
  go_wp2
  go_ret
  exact ⟨rfl, rfl⟩
end Go.Proofs.YtpjgkacekelkdaaGreatDoor
