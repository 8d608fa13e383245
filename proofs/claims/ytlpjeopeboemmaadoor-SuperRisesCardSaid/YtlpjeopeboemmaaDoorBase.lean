/-
  Words for memory, for every later text: what a piece of memory holds ('Rd'), what the call owns ('Own'), what may turn ('Only'), and append onto what is owned. No statement of the seat is proved here.
-/
import Derived.WalkKit
import Derived.Deep.Draws
import Derived.Deep.QuietTactic
import Derived.BigQuiet
import Derived.Maps.AppendAt
import Derived.Deep.AppendLies
import Derived.OneCell
import Derived.Lib.Hide
namespace Go.Proofs.YtlpjeopeboemmaaDoor
open Go Go.RowKit

/-- a byte as a cell -/
def bv (u : UInt8) : Value := .int .u8 (u.toNat : Int)
theorem bv_one (u : UInt8) : (bv u).oneCell' = true := rfl
theorem bvs_one (l : List UInt8) : ∀ u ∈ l.map bv, u.oneCell' = true := by
  intro u hu
  obtain ⟨x, _, rfl⟩ := List.mem_map.1 hu
  rfl

/-- a number as a cell; what an int bears -/
def iv (v : Int) : Value := .int .i64 v
def isInt (v : Int) : Prop := -9223372036854775808 ≤ v ∧ v ≤ 9223372036854775807

/-! ### What may turn -/
structure Only (S : Nat → Prop) (w w' : World) : Prop where
  os : w'.os = w.os
  tape : w'.tape = w.tape
  output : w'.output = w.output
  size : w.heap.size ≤ w'.heap.size
  block : ∀ k, k < w.heap.size → ¬ S k → w'.heap[k]? = w.heap[k]?

section
variable {S T : Nat → Prop} {a b c w w' : World}
theorem Only.refl (S : Nat → Prop) (w : World) : Only S w w := ⟨rfl, rfl, rfl, Nat.le_refl _, fun _ _ _ => rfl⟩
theorem Only.trans (h : Only S a b) (k : Only T b c) (hs : ∀ i, i < a.heap.size → T i → S i) : Only S a c :=
  ⟨k.os.trans h.os, k.tape.trans h.tape, k.output.trans h.output, Nat.le_trans h.size k.size,
    fun i hi hn => (k.block i (Nat.lt_of_lt_of_le hi h.size) (fun ht => hn (hs i hi ht))).trans (h.block i hi hn)⟩
theorem Only.mono (h : Only S a b) (hs : ∀ i, i < a.heap.size → S i → T i) : Only T a b :=
  ⟨h.os, h.tape, h.output, h.size, fun i hi hn => h.block i hi (fun x => hn (hs i hi x))⟩
theorem Only.drew (h : Only S a w) : Only S a w.drew := ⟨h.os, h.tape, h.output, h.size, h.block⟩
theorem Only.drewN (h : Only S a w) (n : Nat) : Only S a (w.drewN n) := ⟨h.os, h.tape, h.output, h.size, h.block⟩
theorem Only.alloc (h : Only S a w) (o : Obj) : Only S a (w.alloc o) :=
  ⟨h.os, h.tape, h.output, Nat.le_trans h.size (by simp), fun i hi hn => (Below.heap_alloc w o i (Nat.lt_of_lt_of_le hi h.size)).trans (h.block i hi hn)⟩
theorem Only.setCell (h : Only S a w) {p : Addr} (hp : S p.block ∨ a.heap.size ≤ p.block) (u : Value) : Only S a (w.setCell p u) :=
  ⟨h.os, h.tape, h.output, by simpa [World.setCell] using h.size, fun i hi hn => (Below.heap_setCell w p u i (by
    rintro rfl
    rcases hp with hp | hp
    · exact hn hp
    · omega)).trans (h.block i hi hn)⟩
theorem Only.grown (h : Only S a w) {row : Option Nat} (hg : w.grownBy w' row) (hr : ∀ k, row = some k → k < a.heap.size → S k) : Only S a w' :=
  ⟨hg.os.trans h.os, hg.tape.trans h.tape, hg.output.trans h.output, Nat.le_trans h.size hg.size,
    fun i hi hn => (hg.block i (Nat.lt_of_lt_of_le hi h.size) (fun e => hn (hr i e.symm hi))).trans (h.block i hi hn)⟩
theorem Only.below {B : Nat} (h : Only S a b) (hs : ∀ i, S i → B ≤ i) (hB : B ≤ a.heap.size) : Below B a b :=
  ⟨h.os, h.tape, h.output, h.size, fun i hi => h.block i (by omega) (fun x => by have := hs i x; omega)⟩
theorem Only.of_below {B : Nat} (h : Below B a b) (hs : ∀ i, B ≤ i → i < a.heap.size → S i) : Only S a b :=
  ⟨h.os, h.tape, h.output, h.size, fun i hi hn => h.block i (by
    rcases Nat.lt_or_ge i B with hl | hl
    · exact hl
    · exact absurd (hs i hl hi) hn)⟩
theorem Only.of_ext (h : Below a.heap.size a b) : Only S a b := Only.of_below h (fun i h1 h2 => by omega)
end

/-- all that was there is as it was, from world to world -/
theorem ext_trans {a b c : World} (h : Below a.heap.size a b) (k : Below b.heap.size b c) : Below a.heap.size a c := h.trans (k.mono h.size)
theorem ext_drewN {B : Nat} {a w : World} (h : Below B a w) (n : Nat) : Below B a (w.drewN n) := ⟨h.os, h.tape, h.output, h.size, h.block⟩

/-! ### What memory holds -/
/-- From address 'A' on there lie the cells 'xs'. -/
def Rd (w : World) (A : Option Addr) (xs : List Value) : Prop := ∀ (j : Nat) (u : Value), xs[j]? = some u → ∃ ad, A = some ad ∧ w.cell? (ad.add j) = some u

theorem block_add (a : Addr) (n : Nat) : (a.add n).block = a.block := by unfold Addr.add; split <;> rfl
theorem add_add_ (a : Addr) (i j : Nat) : (a.add i).add j = a.add (i + j) := by
  unfold Addr.add
  by_cases hi : i = 0 <;> by_cases hj : j = 0 <;> simp [hi, hj, Nat.add_assoc]

section
variable {S : Nat → Prop} {w w' : World} {A : Option Addr} {xs : List Value}
theorem Rd.nil (w : World) (A : Option Addr) : Rd w A [] := fun j u h => by simp at h
theorem Rd.at_ (h : Rd w A xs) {k : Nat} (hk : k < xs.length) : ∃ ad, A = some ad ∧ w.cell? (ad.add k) = some xs[k] := h k _ (List.getElem?_eq_getElem hk)
theorem Rd.keep (h : Rd w A xs) (hk : ∀ ad, A = some ad → ad.block < w.heap.size → w'.heap[ad.block]? = w.heap[ad.block]?) : Rd w' A xs := fun j u hu => by
  obtain ⟨ad, e, hc⟩ := h j u hu
  have hb := World.block_lt_of_cell? w _ hc
  rw [block_add] at hb
  exact ⟨ad, e, (World.cell?_of_block (by rw [block_add]; exact hk ad e hb)).trans hc⟩
theorem Rd.ext (h : Rd w A xs) (hb : Below w.heap.size w w') : Rd w' A xs := h.keep fun _ _ hl => hb.block _ hl
theorem Rd.only (h : Rd w A xs) (ho : Only S w w') (hn : ∀ ad, A = some ad → xs ≠ [] → ¬ S ad.block) : Rd w' A xs := by
  rcases xs with _ | ⟨x, r⟩
  · exact Rd.nil _ _
  · exact h.keep fun ad e hl => ho.block _ hl (hn ad e (by simp))
theorem Rd.drew (h : Rd w A xs) : Rd w.drew A xs := h
theorem Rd.drewN (h : Rd w A xs) (n : Nat) : Rd (w.drewN n) A xs := h
theorem Rd.undrewN {n : Nat} (h : Rd (w.drewN n) A xs) : Rd w A xs := h
theorem Rd.alloc (h : Rd w A xs) (o : Obj) : Rd (w.alloc o) A xs := h.keep fun _ _ hl => Below.heap_alloc w o _ hl
theorem Rd.setCell (h : Rd w A xs) {p : Addr} (hn : ∀ ad, A = some ad → ad.block ≠ p.block) (u : Value) : Rd (w.setCell p u) A xs := h.keep fun ad e _ => Below.heap_setCell w p u _ (hn ad e)
theorem Rd.take (h : Rd w A xs) (k : Nat) : Rd w A (xs.take k) := fun j u hu => h j u (by
  rw [List.getElem?_take] at hu
  split at hu
  · exact hu
  · cases hu)
/-- behind a cut in front: the model's own form of the address -/
theorem Rd.cut (h : Rd w A xs) {k cap : Nat} (hc : xs.length ≤ cap) : Rd w (if cap = k then A else A.map (·.add (k * 1))) (xs.drop k) := fun j u hu => by
  rw [List.getElem?_drop] at hu
  obtain ⟨ad, rfl, hcell⟩ := h _ u hu
  have hl : k + j < xs.length := (List.getElem?_eq_some_iff.1 hu).1
  rw [if_neg (by omega)]
  refine ⟨ad.add (k * 1), rfl, ?_⟩
  rw [add_add_, Nat.mul_one]
  exact hcell
theorem Rd.lit (w : World) (cs : Array Value) (t : TypeId) : Rd (w.alloc (.cells cs t)) (some ⟨w.heap.size, 0, none⟩) cs.toList := fun j u hu =>
  ⟨_, rfl, World.news_of_block (heap_alloc_new w _) j u hu⟩
theorem Rd.lit_at (w : World) (cs : Array Value) (t : TypeId) {fr : Nat × Nat} {g : Nat} (hg : g = w.heap.size) : Rd (w.alloc (.cells cs t fr)) (some ⟨g, 0, none⟩) cs.toList := by
  subst hg
  exact fun j u hu => ⟨_, rfl, World.news_of_block (heap_alloc_new w _) j u hu⟩
theorem Rd.blk {g : Nat} {cs : Array Value} {t : TypeId} {fr : Nat × Nat} (h : w.heap[g]? = some (.cells cs t fr)) : Rd w (some ⟨g, 0, none⟩) cs.toList := fun j u hu =>
  ⟨_, rfl, World.news_of_block h j u hu⟩
end

/-! ### A block that is known whole -/
def Blk (w : World) (g : Nat) (t : TypeId) (cs : Array Value) : Prop := w.heap[g]? = some (.cells cs t (0, 0))
section
variable {S : Nat → Prop} {w w' : World} {g : Nat} {t : TypeId} {cs : Array Value}
theorem Blk.lt (h : Blk w g t cs) : g < w.heap.size := lt_of_block h
theorem Blk.cell (h : Blk w g t cs) (i : Nat) : w.cell? ⟨g, i, none⟩ = cs[i]? := cell_of_row w g i cs t (0, 0) h
theorem Blk.free (h : Blk w g t cs) (i : Nat) : w.frozen? ⟨g, i, none⟩ = false := frozen_of_row w g i cs t h
theorem Blk.new (w : World) (t : TypeId) (cs : Array Value) : Blk (w.alloc (.cells cs t)) w.heap.size t cs := heap_alloc_new w _
theorem Blk.drew (h : Blk w g t cs) : Blk w.drew g t cs := h
theorem Blk.drewN (h : Blk w g t cs) (n : Nat) : Blk (w.drewN n) g t cs := h
theorem Blk.alloc (h : Blk w g t cs) (o : Obj) : Blk (w.alloc o) g t cs := (Below.heap_alloc w o g h.lt).trans h
theorem Blk.only (h : Blk w g t cs) (ho : Only S w w') (hn : ¬ S g) : Blk w' g t cs := (ho.block g h.lt hn).trans h
theorem Blk.ext (h : Blk w g t cs) (hb : Below w.heap.size w w') : Blk w' g t cs := (hb.block g h.lt).trans h
theorem Blk.far (h : Blk w g t cs) {p : Addr} (hp : g ≠ p.block) (u : Value) : Blk (w.setCell p u) g t cs := (Below.heap_setCell w p u g hp).trans h
theorem Blk.put (h : Blk w g t cs) (i : Nat) (u : Value) : Blk (w.setCell ⟨g, i, none⟩ u) g t (cs.setIfInBounds i u) := heap_setCell_same w g i cs t u h
end

/-! ### A row that the call owns -/
/-- The slice of address 'A' and capacity 'c' is a row of the call's own that holds 'xs'; its block is one of 'fp'. -/
def Own (w : World) (fp : Nat → Prop) (e : TypeId) (A : Option Addr) (c : Nat) (xs : List Value) : Prop :=
  w.ownsRow 0 e 1 (.slice A xs.length c) xs.length xs ∧ ∀ ad, A = some ad → fp ad.block

/-- what was in 'fp', and what has been made from 'w' to 'w'' -/
def More (fp : Nat → Prop) (w w' : World) : Nat → Prop := fun k => fp k ∨ (w.heap.size ≤ k ∧ k < w'.heap.size)

section
variable {S fp fp' : Nat → Prop} {w w' : World} {e : TypeId} {A : Option Addr} {c : Nat} {xs : List Value}
theorem Own.cap (h : Own w fp e A c xs) : xs.length ≤ c := by
  rcases h.1.2 with ⟨h1, h2⟩ | ⟨g, cap, cur, h1, _, _, hc, _⟩
  · injection h1; omega
  · injection h1; omega
theorem Own.some_ (h : Own w fp e A c xs) : (A = none ∧ c = 0 ∧ xs = []) ∨ ∃ g, A = some ⟨g, 0, none⟩ ∧ fp g ∧ g < w.heap.size := by
  rcases h.1.2 with ⟨h1, h2⟩ | ⟨g, cap, cur, h1, _, hg, hc, _⟩
  · injection h1 with a1 a2 a3
    exact .inl ⟨a1, a3, List.eq_nil_of_length_eq_zero h2⟩
  · injection h1 with a1 a2 a3
    exact .inr ⟨g, a1, h.2 _ a1, lt_of_block hg⟩
theorem Own.rd (h : Own w fp e A c xs) : Rd w A xs := by
  rcases h.some_ with ⟨rfl, rfl, rfl⟩ | ⟨g, rfl, _, _⟩
  · exact Rd.nil _ _
  · exact fun j u hu => ⟨_, rfl, h.1.cells (g := g) rfl j u hu⟩
theorem Own.none_ (w : World) (fp : Nat → Prop) (e : TypeId) : Own w fp e none 0 [] := ⟨World.ownsRow_nil w 0 e 1, fun _ h => by cases h⟩
theorem Own.mono (h : Own w fp e A c xs) (hs : ∀ k, fp k → k < w.heap.size → fp' k) : Own w fp' e A c xs := by
  refine ⟨h.1, fun ad e' => ?_⟩
  rcases h.some_ with ⟨rfl, _⟩ | ⟨g, rfl, hg, hl⟩
  · cases e'
  · injection e' with e'; subst e'; exact hs _ hg hl
theorem Own.only (h : Own w fp e A c xs) (ho : Only S w w') (hn : ∀ k, fp k → ¬ S k) : Own w' fp e A c xs := by
  refine ⟨⟨h.1.1, ?_⟩, h.2⟩
  rcases h.1.2 with h1 | ⟨g, cap, cur, h1, hb, hg, r⟩
  · exact .inl h1
  · refine .inr ⟨g, cap, cur, h1, hb, ?_, r⟩
    injection h1 with a1 a2 a3
    rw [ho.block g (lt_of_block hg) (hn _ (h.2 _ a1))]
    exact hg
theorem Own.ext (h : Own w fp e A c xs) (hb : Below w.heap.size w w') : Own w' fp e A c xs := by
  refine ⟨⟨h.1.1, ?_⟩, h.2⟩
  rcases h.1.2 with h1 | ⟨g, cap, cur, h1, hb', hg, r⟩
  · exact .inl h1
  · exact .inr ⟨g, cap, cur, h1, hb', (hb.block g (lt_of_block hg)).trans hg, r⟩
theorem Own.drew (h : Own w fp e A c xs) : Own w.drew fp e A c xs := h
theorem Own.drewN (h : Own w fp e A c xs) (n : Nat) : Own (w.drewN n) fp e A c xs := h
theorem Own.alloc (h : Own w fp e A c xs) (o : Obj) : Own (w.alloc o) fp e A c xs := h.ext ((Below.refl _ _).alloc (Nat.le_refl _) o)
theorem Own.setCell (h : Own w fp e A c xs) {p : Addr} (hn : ∀ ad, A = some ad → ad.block ≠ p.block) (u : Value) : Own (w.setCell p u) fp e A c xs := by
  refine ⟨ownsRow_setCell_other h.1 ?_ u, h.2⟩
  rcases A with _ | ad
  · simp [Value.ownBlock]
  · simpa [Value.ownBlock] using hn ad rfl
/-- rows of one element type and a block of another one are apart -/
theorem Own.ne_blk {g : Nat} {t : TypeId} {cs : Array Value} (h : Own w fp e A c xs) (hb : Blk w g t cs) (ht : e ≠ t) : ∀ ad, A = some ad → ad.block ≠ g := by
  rintro ad rfl rfl
  rcases h.1.2 with ⟨h1, _⟩ | ⟨g', cap, cur, h1, _, hg, _⟩
  · injection h1 with h1; cases h1
  · injection h1 with h1 _ _
    injection h1 with h1
    subst h1
    unfold Blk at hb
    rw [hg] at hb
    injection hb with hb
    injection hb with _ ht'
    exact ht ht'
theorem Own.lit (w : World) (fp : Nat → Prop) (cs : Array Value) (e : TypeId) (hm : cs.size ≤ maxLen) (hf : fp w.heap.size) : Own (w.alloc (.cells cs e)) fp e (some ⟨w.heap.size, 0, none⟩) cs.size cs.toList := by
  refine ⟨?_, fun ad h => by injection h with h; subst h; exact hf⟩
  have h := World.ownsRow_lit (base := 0) (e := e) (size := 1) w cs cs.size (Nat.zero_le _) hm (by simp)
  simpa using h
end

/-! ### growth, step by step -/
section
variable {fp : Nat → Prop} {a b b' c : World}
theorem More.join (h1 : a.heap.size ≤ b.heap.size) (h2 : b.heap.size ≤ b'.heap.size) (h3 : b'.heap.size ≤ c.heap.size) {k : Nat} (hk : More (More fp a b) b' c k) : More fp a c k := by
  rcases hk with (hk | hk) | hk
  · exact .inl hk
  · exact .inr (by omega)
  · exact .inr (by omega)
theorem Only.join (h : Only fp a b') (h2 : Only (More fp a b) b' c) : Only fp a c := h.trans h2 (fun k hk hm => by
  rcases hm with hm | hm
  · exact hm
  · omega)
theorem Own.join {e : TypeId} {A : Option Addr} {n : Nat} {xs : List Value} (h1 : a.heap.size ≤ b.heap.size) (h2 : b.heap.size ≤ b'.heap.size) (h3 : b'.heap.size ≤ c.heap.size) (h : Own c (More (More fp a b) b' c) e A n xs) : Own c (More fp a c) e A n xs :=
  h.mono fun _ hk _ => More.join h1 h2 h3 hk
end

/-! ### Memory that is read, apart from 'fp'; rows of bytes -/
def RdF (fp : Nat → Prop) (w : World) (A : Option Addr) (xs : List Value) : Prop := Rd w A xs ∧ ∀ ad, A = some ad → xs ≠ [] → ¬ fp ad.block

def RowsF (fp : Nat → Prop) (w : World) (A : Option Addr) (xss : List (List UInt8)) : Prop :=
  ∃ vs, RdF fp w A vs ∧ vs.length = xss.length ∧ ∀ (j : Nat) (v : Value) (xs : List UInt8), vs[j]? = some v → xss[j]? = some xs → ∃ B c, v = .slice B xs.length c ∧ xs.length ≤ c ∧ RdF fp w B (xs.map bv)

section
variable {fp fp' : Nat → Prop} {w w' : World} {A : Option Addr} {xs : List Value} {xss : List (List UInt8)}
theorem RdF.only (h : RdF fp w A xs) (ho : Only fp w w') : RdF fp w' A xs := ⟨h.1.only ho h.2, h.2⟩
theorem RdF.of (h : Rd w A xs) : RdF (fun _ => False) w A xs := ⟨h, fun _ _ _ x => x⟩
/-- what is read lies below what is new -/
theorem RdF.fresh (h : Rd w A xs) (hf : ∀ k, fp k → w.heap.size ≤ k) : RdF fp w A xs := by
  refine ⟨h, fun ad e hne hk => ?_⟩
  rcases xs with _ | ⟨x, r⟩
  · exact hne rfl
  · obtain ⟨ad', e', hc⟩ := h 0 x rfl
    rw [e] at e'; injection e' with e'; subst e'
    have hb := World.block_lt_of_cell? w _ hc
    rw [block_add] at hb
    have := hf _ hk
    omega
theorem RdF.weak (h : RdF fp w A xs) (hs : ∀ k, fp' k → fp k) : RdF fp' w A xs := ⟨h.1, fun ad e hn x => h.2 ad e hn (hs _ x)⟩
theorem RowsF.only (h : RowsF fp w A xss) (ho : Only fp w w') : RowsF fp w' A xss := by
  obtain ⟨vs, h1, h2, h3⟩ := h
  refine ⟨vs, h1.only ho, h2, fun j v xs hv hx => ?_⟩
  obtain ⟨B, c, e, hc, hr⟩ := h3 j v xs hv hx
  exact ⟨B, c, e, hc, hr.only ho⟩
theorem RowsF.weak (h : RowsF fp w A xss) (hs : ∀ k, fp' k → fp k) : RowsF fp' w A xss := by
  obtain ⟨vs, h1, h2, h3⟩ := h
  refine ⟨vs, h1.weak hs, h2, fun j v xs hv hx => ?_⟩
  obtain ⟨B, c, e, hc, hr⟩ := h3 j v xs hv hx
  exact ⟨B, c, e, hc, hr.weak hs⟩
theorem RowsF.ext (h : RowsF fp w A xss) (hb : Below w.heap.size w w') : RowsF fp w' A xss := h.only (Only.of_ext hb)
/-- row number k -/
theorem RowsF.at_ (h : RowsF fp w A xss) {k : Nat} (hk : k < xss.length) :
    ∃ ad B c, A = some ad ∧ w.cell? (ad.add k) = some (.slice B xss[k].length c) ∧ xss[k].length ≤ c ∧ RdF fp w B (xss[k].map bv) := by
  obtain ⟨vs, h1, h2, h3⟩ := h
  obtain ⟨ad, e, hc⟩ := h1.1.at_ (k := k) (by omega)
  obtain ⟨B, c, e2, hl, hr⟩ := h3 k _ _ (List.getElem?_eq_getElem (by omega)) (List.getElem?_eq_getElem hk)
  exact ⟨ad, B, c, e, by rw [hc, e2], hl, hr⟩
theorem RdF.more (h : RdF fp w A xs) (ho : Only fp w w') : RdF (More fp w w') w' A xs := by
  refine ⟨h.1.only ho h.2, fun ad e hn hm => ?_⟩
  rcases hm with hm | hm
  · exact h.2 ad e hn hm
  · rcases xs with _ | ⟨x, r⟩
    · exact hn rfl
    · obtain ⟨ad', e', hc⟩ := h.1 0 x rfl
      rw [e] at e'
      injection e' with e'
      subst e'
      have hb := World.block_lt_of_cell? w _ hc
      rw [block_add] at hb
      omega
theorem RowsF.more (h : RowsF fp w A xss) (ho : Only fp w w') : RowsF (More fp w w') w' A xss := by
  obtain ⟨vs, h1, h2, h3⟩ := h
  refine ⟨vs, h1.more ho, h2, fun j v xs hv hx => ?_⟩
  obtain ⟨B, c, e, hc, hr⟩ := h3 j v xs hv hx
  exact ⟨B, c, e, hc, hr.more ho⟩
/-- cells that were just laid -/
theorem RdF.lit (w : World) (cs : Array Value) (t : TypeId) {fr : Nat × Nat} {g : Nat} (hg : g = w.heap.size) (hf : ¬ fp g) : RdF fp (w.alloc (.cells cs t fr)) (some ⟨g, 0, none⟩) cs.toList :=
  ⟨Rd.lit_at w cs t hg, fun ad e _ => by injection e with e; subst e; exact hf⟩
theorem RdF.alloc (h : RdF fp w A xs) (o : Obj) : RdF fp (w.alloc o) A xs := ⟨h.1.alloc o, h.2⟩
/-- a list of one row, of two rows, that was just laid -/
theorem RowsF.one {xs : List UInt8} {B : Option Addr} {c : Nat} (h : RdF fp w B (xs.map bv)) (hc : xs.length ≤ c) (t : TypeId) {g : Nat} (hg : g = w.heap.size) (hf : ¬ fp g) :
    RowsF fp (w.alloc (.cells #[.slice B xs.length c] t)) (some ⟨g, 0, none⟩) [xs] := by
  subst hg
  refine ⟨[.slice B xs.length c], ⟨Rd.lit w #[.slice B xs.length c] t, fun ad e _ => by injection e with e; subst e; exact hf⟩, rfl, fun j v ys hv hx => ?_⟩
  match j, hv, hx with
  | 0, hv, hx =>
    simp at hv hx
    subst hv hx
    exact ⟨B, c, rfl, hc, h.alloc _⟩
theorem RowsF.two {xs ys : List UInt8} {B D : Option Addr} {c d : Nat} (h : RdF fp w B (xs.map bv)) (hc : xs.length ≤ c) (h2 : RdF fp w D (ys.map bv)) (hd : ys.length ≤ d) (t : TypeId) {g : Nat} (hg : g = w.heap.size) (hf : ¬ fp g) :
    RowsF fp (w.alloc (.cells #[.slice B xs.length c, .slice D ys.length d] t)) (some ⟨g, 0, none⟩) [xs, ys] := by
  subst hg
  refine ⟨[.slice B xs.length c, .slice D ys.length d], ⟨Rd.lit w #[.slice B xs.length c, .slice D ys.length d] t, fun ad e _ => by injection e with e; subst e; exact hf⟩, rfl, fun j v zs hv hx => ?_⟩
  match j, hv, hx with
  | 0, hv, hx =>
    simp at hv hx
    subst hv hx
    exact ⟨B, c, rfl, hc, h.alloc _⟩
  | 1, hv, hx =>
    simp at hv hx
    subst hv hx
    exact ⟨D, d, rfl, hd, h2.alloc _⟩
theorem only_none (h : Only (fun _ => False) w w') : Below w.heap.size w w' := h.below (fun _ h => h.elim) (Nat.le_refl _)
end

/-! ### append onto what is owned; the source nil, empty or not -/
section
variable {P : Program} (w : World) {fp : Nat → Prop}
theorem run_app (t ty e : TypeId) (z : Value) (bytes : Nat) (ht : P.underlying t = some (.slice e)) (hi : (P.info? e).map (fun i => (i.zero, i.size, i.bytes)) = some (some z, 1, bytes)) (hzs : z.cells.size = 1)
    (A : Option Addr) (n c : Nat) (xs : List Value) (hn : n = xs.length) (hown : Own w fp e A c xs) (A2 : Option Addr) (m c2 : Nat) (news : List Value) (hm : m = news.length) (hr : Rd w A2 news) (h1 : ∀ u ∈ news, u.oneCell' = true)
    (h63 : n + m ≤ maxLen) (hbytes : (n + m) * bytes ≤ 140737488355328) :
    ∃ A' c' w', (Builtin.append_ #[t, t] ty #[.slice A n c, .slice A2 m c2]).run P w = .ok (.slice A' (n + m) c') w' ∧ Own w' (More fp w w') e A' c' (xs ++ news) ∧ Only fp w w' := by
  obtain ⟨i, hi, hz, hsz, hby⟩ := info_parts hi
  subst hn hm
  have same : ∀ (_ : news = []) (_ : (Builtin.append_ #[t, t] ty #[.slice A xs.length c, .slice A2 news.length c2]).run P w = .ok (.slice A xs.length c) w),
      ∃ A' c' w', (Builtin.append_ #[t, t] ty #[.slice A xs.length c, .slice A2 news.length c2]).run P w = .ok (.slice A' (xs.length + news.length) c') w' ∧ Own w' (More fp w w') e A' c' (xs ++ news) ∧ Only fp w w' := by
    intro hnil hrun
    subst hnil
    exact ⟨A, c, w, hrun, by rw [List.append_nil]; exact hown.mono (fun k hk _ => Or.inl hk), Only.refl _ _⟩
  rcases A2 with _ | ad
  · have hnil : news = [] := by
      rcases news with _ | ⟨u, r⟩
      · rfl
      · obtain ⟨ad, h, _⟩ := hr 0 u rfl
        cases h
    refine same hnil ?_
    subst hnil
    rcases hown.1.2 with ⟨h2, _⟩ | ⟨g, cap, cur, h2, _, _, hnc, _⟩
    · rw [h2]; simp [Builtin.append_, run_underlying ht, sizeOf, typeInfo, hi, Builtin.lenOf, Builtin.firstCells]
    · rw [h2]; simp [Builtin.append_, run_underlying ht, sizeOf, typeInfo, hi, Builtin.lenOf, Builtin.firstCells, hnc, storeCells]
  · have hcells : ∀ j u, news[j]? = some u → w.cell? (ad.add j) = some u := by
      intro j u hu
      obtain ⟨ad', h, hc⟩ := hr j u hu
      injection h with h
      subst h
      exact hc
    obtain ⟨v', w', hrun, h2, h3, _, h5⟩ := run_append_own_at (P := P) w 0 t ty e i z 1 bytes ht hi hz hsz hby hzs (by omega) (.slice A xs.length c) xs.length xs hown.1 ad news.length c2 news (by simp) hcells h1 h63 hbytes (Nat.zero_le _)
    have ho : Only fp w w' := by
      refine (Only.refl fp w).grown h3 (fun k hk _ => ?_)
      rcases A with _ | a0
      · simp [Value.ownBlock] at hk
      · simp [Value.ownBlock] at hk
        subst hk
        exact hown.2 _ rfl
    have key : ∀ A' c', v' = .slice A' (xs.length + news.length) c' → Own w' (More fp w w') e A' c' (xs ++ news) := by
      rintro A' c' rfl
      refine ⟨by simpa using h2, fun ad' e' => ?_⟩
      subst e'
      have hl := h2.lt ad'.block rfl
      rcases h5 with h5 | h5
      · rcases A with _ | a0
        · simp [Value.ownBlock] at h5
        · simp [Value.ownBlock] at h5
          rw [h5]
          exact .inl (hown.2 _ rfl)
      · simp [Value.ownBlock] at h5
        exact .inr ⟨by omega, hl.2⟩
    rcases h2.2 with ⟨hv, h0⟩ | ⟨g, cap, cur, hv, _⟩
    · subst hv
      exact ⟨none, 0, w', by rw [hrun, h0], key none 0 (by rw [h0]), ho⟩
    · subst hv
      exact ⟨_, _, w', hrun, key _ _ rfl, ho⟩

theorem wp_app {o : Oper} {a : Act} {K : Act → World → Prop} {Q : Exit → Act → World → Prop} (s x : Operand) (t : TypeId)
    (ho : o.op = .call { callee := .builtin .append, args := #[s, x], argTypes := #[t, t] })
    (e : TypeId) (z : Value) (bytes : Nat) (ht : P.underlying t = some (.slice e)) (hi : (P.info? e).map (fun i => (i.zero, i.size, i.bytes)) = some (some z, 1, bytes)) (hzs : z.cells.size = 1)
    (A : Option Addr) (n c : Nat) (xs : List Value) (hs : a.eval s = .slice A n c) (hn : n = xs.length) (hown : Own w fp e A c xs)
    (A2 : Option Addr) (m c2 : Nat) (news : List Value) (hx : a.eval x = .slice A2 m c2) (hm : m = news.length) (hr : Rd w A2 news) (h1 : ∀ u ∈ news, u.oneCell' = true)
    (h63 : n + m ≤ maxLen) (hbytes : (n + m) * bytes ≤ 140737488355328)
    (h : ∀ A' c' w', Own w' (More fp w w') e A' c' (xs ++ news) → Only fp w w' → K (a.put o.dst (.slice A' (n + m) c')) w') : o.wp P a w K Q := by
  obtain ⟨A', c', w', hrun, h2, h3⟩ := run_app (P := P) w t o.type e z bytes ht hi hzs A n c xs hn hown A2 m c2 news hm hr h1 h63 hbytes
  unfold Oper.wp execOp
  simp only [ho, resolve, invoke, builtin, Sem.run_bind, Sem.run_pure, Result.andThen_ok, List.map_toArray, List.map_cons, List.map_nil, hs, hx, hrun]
  exact h A' c' w' h2 h3

theorem wpList_app {ops : Array Oper} {rest : List Oper} {o : Oper} {a : Act} {Q : Exit → Act → World → Prop} (hgd : o.guard = none) (s x : Operand) (t : TypeId)
    (ho : o.op = .call { callee := .builtin .append, args := #[s, x], argTypes := #[t, t] })
    (e : TypeId) (z : Value) (bytes : Nat) (ht : P.underlying t = some (.slice e)) (hi : (P.info? e).map (fun i => (i.zero, i.size, i.bytes)) = some (some z, 1, bytes)) (hzs : z.cells.size = 1)
    (A : Option Addr) (n c : Nat) (xs : List Value) (hs : a.eval s = .slice A n c) (hn : n = xs.length) (hown : Own w fp e A c xs)
    (A2 : Option Addr) (m c2 : Nat) (news : List Value) (hx : a.eval x = .slice A2 m c2) (hm : m = news.length) (hr : Rd w A2 news) (h1 : ∀ u ∈ news, u.oneCell' = true)
    (h63 : n + m ≤ maxLen) (hbytes : (n + m) * bytes ≤ 140737488355328)
    (h : ∀ A' c' w', Own w' (More fp w w') e A' c' (xs ++ news) → Only fp w w' → wpList P ops Q rest (a.put o.dst (.slice A' (n + m) c')) w') : wpList P ops Q (o :: rest) a w :=
  wpList_plain hgd fun _ hK => wp_app w s x t ho e z bytes ht hi hzs A n c xs hs hn hown A2 m c2 news hx hm hr h1 h63 hbytes fun A' c' w' h2 h3 => hK _ _ (h A' c' w' h2 h3)
end
end Go.Proofs.YtlpjeopeboemmaaDoor
