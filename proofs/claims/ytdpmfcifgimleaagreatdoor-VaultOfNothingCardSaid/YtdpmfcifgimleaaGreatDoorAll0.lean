/-
  Texts of this claim, joined (part 0): contracts and lemmas that the last text goes by. No statement of the seat is proved here.
-/
import Derived.WalkKit
import Derived.Deep.Draws
import Derived.Deep.QuietTactic
import Derived.BigQuiet
import Derived.Maps.AppendAt
import Derived.Deep.AppendLies
import Derived.OneCell
import Derived.Lib.Hide
import Derived.Test.YtdpmfcifgimleaaGreatDoorRows
import Derived.Deep.MidRow
import Derived.Deep.AppendSrc
set_option linter.unusedVariables false
set_option linter.unusedSimpArgs false
/-
  Plain mathematics: a number as bytes, the lowest first. No Go here.
-/
namespace Go.Proofs.YtdpmfcifgimleaaGreatDoor

/-- a number as so many bytes, the lowest first -/
def lowB (k n : Nat) : List UInt8 := (List.range k).map fun i => (n / 256 ^ i).toUInt8
theorem lowB_length (k n : Nat) : (lowB k n).length = k := by simp [lowB]
theorem lowB_zero (n : Nat) : lowB 0 n = [] := rfl
theorem lowB_succ (k n : Nat) : lowB (k + 1) n = lowB k n ++ [(n / 256 ^ k).toUInt8] := by
  unfold lowB; rw [List.range_succ, List.map_append]; rfl
theorem lowB_get (k n i : Nat) (h : i < k) : (lowB k n)[i]? = some (n / 256 ^ i).toUInt8 := by
  unfold lowB; simp [h]
theorem lowB_cons : ∀ (k n : Nat), lowB (k + 1) n = n.toUInt8 :: lowB k (n / 256)
  | 0, n => by rw [lowB_succ]; simp [lowB_zero]
  | k + 1, n => by
    rw [lowB_succ, lowB_cons k, lowB_succ k (n / 256), Nat.div_div_eq_div_mul, Nat.pow_succ, Nat.mul_comm 256]; rfl

/-- the number that bytes are, the lowest first -/
def ofLow : List UInt8 → Nat
  | [] => 0
  | b :: r => b.toNat + 256 * ofLow r
theorem ofLow_snoc : ∀ (l : List UInt8) (b : UInt8), ofLow (l ++ [b]) = ofLow l + b.toNat * 256 ^ l.length
  | [], b => by simp [ofLow]
  | a :: r, b => by
    rw [List.cons_append, ofLow, ofLow, ofLow_snoc r b, List.length_cons, Nat.pow_succ, Nat.mul_add, Nat.mul_left_comm, Nat.mul_comm 256 (256 ^ r.length)]
    omega
theorem ofLow_lt : ∀ (l : List UInt8), ofLow l < 256 ^ l.length
  | [] => by simp [ofLow]
  | a :: r => by
    have := ofLow_lt r
    have ha := a.toNat_lt
    rw [ofLow, List.length_cons, Nat.pow_succ, Nat.mul_comm (256 ^ r.length)]
    omega
theorem toUInt8_toNat (n : Nat) : n.toUInt8.toNat = n % 256 := by simp [Nat.toUInt8, UInt8.toNat_ofNat']
theorem ofLow_lowB : ∀ (k n : Nat), ofLow (lowB k n) = n % 256 ^ k
  | 0, n => by simp [lowB_zero, ofLow, Nat.mod_one]
  | k + 1, n => by
    rw [lowB_cons, ofLow, ofLow_lowB k, toUInt8_toNat, Nat.pow_succ, Nat.mul_comm (256 ^ k), Nat.mod_mul]
theorem lowB_ofLow : ∀ (l : List UInt8), lowB l.length (ofLow l) = l
  | [] => rfl
  | a :: r => by
    have ha := a.toNat_lt
    rw [List.length_cons, lowB_cons, ofLow, show (a.toNat + 256 * ofLow r) / 256 = ofLow r by omega, lowB_ofLow r]
    congr 1
    apply UInt8.toNat_inj.1
    rw [toUInt8_toNat]; omega
theorem lowB_inj {k a b : Nat} (ha : a < 256 ^ k) (hb : b < 256 ^ k) (h : lowB k a = lowB k b) : a = b := by
  have e := congrArg ofLow h
  rw [ofLow_lowB, ofLow_lowB, Nat.mod_eq_of_lt ha, Nat.mod_eq_of_lt hb] at e
  exact e
theorem ofLow_take_succ (l : List UInt8) (k : Nat) (h : k < l.length) : ofLow (l.take (k + 1)) = ofLow (l.take k) + l[k].toNat * 256 ^ k := by
  rw [List.take_succ_eq_append_getElem h, ofLow_snoc, List.length_take, Nat.min_eq_left (by omega)]
theorem ofLow_drop (l : List UInt8) (k : Nat) (h : k < l.length) : ofLow (l.drop k) = l[k].toNat + 256 * ofLow (l.drop (k + 1)) := by
  rw [List.drop_eq_getElem_cons h, ofLow]
theorem ofLow_lt_of {l : List UInt8} {k : Nat} (h : l.length ≤ k) : ofLow l < 256 ^ k := Nat.lt_of_lt_of_le (ofLow_lt l) (Nat.pow_le_pow_right (by omega) h)
end Go.Proofs.YtdpmfcifgimleaaGreatDoor

/-
  Words for memory, for every later text: what a piece of memory holds ('Rd'), what the call owns ('Own'), what may turn ('Only'), and append onto what is owned. No statement of the seat is proved here.
-/
namespace Go.Proofs.YtdpmfcifgimleaaGreatDoor
open Go Go.RowKit

/-- a byte as a cell -/
def bv (u : UInt8) : Value := .int .u8 (u.toNat : Int)
theorem bv_one (u : UInt8) : (bv u).oneCell' = true := rfl
theorem bvs_one (l : List UInt8) : ∀ u ∈ l.map bv, u.oneCell' = true := by
  intro u hu
  obtain ⟨x, _, rfl⟩ := List.mem_map.1 hu
  rfl

/-- a number as a cell; what an int bears -/
def iv (v : Int) : Value := .int .i64 v
def isInt (v : Int) : Prop := -9223372036854775808 ≤ v ∧ v ≤ 9223372036854775807

/-! ### What may turn -/
structure Only (S : Nat → Prop) (w w' : World) : Prop where
  os : w'.os = w.os
  tape : w'.tape = w.tape
  output : w'.output = w.output
  size : w.heap.size ≤ w'.heap.size
  block : ∀ k, k < w.heap.size → ¬ S k → w'.heap[k]? = w.heap[k]?

section
variable {S T : Nat → Prop} {a b c w w' : World}
theorem Only.refl (S : Nat → Prop) (w : World) : Only S w w := ⟨rfl, rfl, rfl, Nat.le_refl _, fun _ _ _ => rfl⟩
theorem Only.trans (h : Only S a b) (k : Only T b c) (hs : ∀ i, i < a.heap.size → T i → S i) : Only S a c :=
  ⟨k.os.trans h.os, k.tape.trans h.tape, k.output.trans h.output, Nat.le_trans h.size k.size,
    fun i hi hn => (k.block i (Nat.lt_of_lt_of_le hi h.size) (fun ht => hn (hs i hi ht))).trans (h.block i hi hn)⟩
theorem Only.mono (h : Only S a b) (hs : ∀ i, i < a.heap.size → S i → T i) : Only T a b :=
  ⟨h.os, h.tape, h.output, h.size, fun i hi hn => h.block i hi (fun x => hn (hs i hi x))⟩
theorem Only.drew (h : Only S a w) : Only S a w.drew := ⟨h.os, h.tape, h.output, h.size, h.block⟩
theorem Only.drewN (h : Only S a w) (n : Nat) : Only S a (w.drewN n) := ⟨h.os, h.tape, h.output, h.size, h.block⟩
theorem Only.alloc (h : Only S a w) (o : Obj) : Only S a (w.alloc o) :=
  ⟨h.os, h.tape, h.output, Nat.le_trans h.size (by simp), fun i hi hn => (Below.heap_alloc w o i (Nat.lt_of_lt_of_le hi h.size)).trans (h.block i hi hn)⟩
theorem Only.setCell (h : Only S a w) {p : Addr} (hp : S p.block ∨ a.heap.size ≤ p.block) (u : Value) : Only S a (w.setCell p u) :=
  ⟨h.os, h.tape, h.output, by simpa [World.setCell] using h.size, fun i hi hn => (Below.heap_setCell w p u i (by
    rintro rfl
    rcases hp with hp | hp
    · exact hn hp
    · omega)).trans (h.block i hi hn)⟩
theorem Only.grown (h : Only S a w) {row : Option Nat} (hg : w.grownBy w' row) (hr : ∀ k, row = some k → k < a.heap.size → S k) : Only S a w' :=
  ⟨hg.os.trans h.os, hg.tape.trans h.tape, hg.output.trans h.output, Nat.le_trans h.size hg.size,
    fun i hi hn => (hg.block i (Nat.lt_of_lt_of_le hi h.size) (fun e => hn (hr i e.symm hi))).trans (h.block i hi hn)⟩
theorem Only.below {B : Nat} (h : Only S a b) (hs : ∀ i, S i → B ≤ i) (hB : B ≤ a.heap.size) : Below B a b :=
  ⟨h.os, h.tape, h.output, h.size, fun i hi => h.block i (by omega) (fun x => by have := hs i x; omega)⟩
theorem Only.of_below {B : Nat} (h : Below B a b) (hs : ∀ i, B ≤ i → i < a.heap.size → S i) : Only S a b :=
  ⟨h.os, h.tape, h.output, h.size, fun i hi hn => h.block i (by
    rcases Nat.lt_or_ge i B with hl | hl
    · exact hl
    · exact absurd (hs i hl hi) hn)⟩
theorem Only.of_ext (h : Below a.heap.size a b) : Only S a b := Only.of_below h (fun i h1 h2 => by omega)
end

/-- all that was there is as it was, from world to world -/
theorem ext_trans {a b c : World} (h : Below a.heap.size a b) (k : Below b.heap.size b c) : Below a.heap.size a c := h.trans (k.mono h.size)
theorem ext_drewN {B : Nat} {a w : World} (h : Below B a w) (n : Nat) : Below B a (w.drewN n) := ⟨h.os, h.tape, h.output, h.size, h.block⟩

/-! ### What memory holds -/
/-- From address 'A' on there lie the cells 'xs'. -/
def Rd (w : World) (A : Option Addr) (xs : List Value) : Prop := ∀ (j : Nat) (u : Value), xs[j]? = some u → ∃ ad, A = some ad ∧ w.cell? (ad.add j) = some u

theorem block_add (a : Addr) (n : Nat) : (a.add n).block = a.block := by unfold Addr.add; split <;> rfl
theorem add_add_ (a : Addr) (i j : Nat) : (a.add i).add j = a.add (i + j) := by
  unfold Addr.add
  by_cases hi : i = 0 <;> by_cases hj : j = 0 <;> simp [hi, hj, Nat.add_assoc]

section
variable {S : Nat → Prop} {w w' : World} {A : Option Addr} {xs : List Value}
theorem Rd.nil (w : World) (A : Option Addr) : Rd w A [] := fun j u h => by simp at h
theorem Rd.at_ (h : Rd w A xs) {k : Nat} (hk : k < xs.length) : ∃ ad, A = some ad ∧ w.cell? (ad.add k) = some xs[k] := h k _ (List.getElem?_eq_getElem hk)
theorem Rd.keep (h : Rd w A xs) (hk : ∀ ad, A = some ad → ad.block < w.heap.size → w'.heap[ad.block]? = w.heap[ad.block]?) : Rd w' A xs := fun j u hu => by
  obtain ⟨ad, e, hc⟩ := h j u hu
  have hb := World.block_lt_of_cell? w _ hc
  rw [block_add] at hb
  exact ⟨ad, e, (World.cell?_of_block (by rw [block_add]; exact hk ad e hb)).trans hc⟩
theorem Rd.ext (h : Rd w A xs) (hb : Below w.heap.size w w') : Rd w' A xs := h.keep fun _ _ hl => hb.block _ hl
theorem Rd.only (h : Rd w A xs) (ho : Only S w w') (hn : ∀ ad, A = some ad → xs ≠ [] → ¬ S ad.block) : Rd w' A xs := by
  rcases xs with _ | ⟨x, r⟩
  · exact Rd.nil _ _
  · exact h.keep fun ad e hl => ho.block _ hl (hn ad e (by simp))
theorem Rd.drew (h : Rd w A xs) : Rd w.drew A xs := h
theorem Rd.drewN (h : Rd w A xs) (n : Nat) : Rd (w.drewN n) A xs := h
theorem Rd.undrewN {n : Nat} (h : Rd (w.drewN n) A xs) : Rd w A xs := h
theorem Rd.alloc (h : Rd w A xs) (o : Obj) : Rd (w.alloc o) A xs := h.keep fun _ _ hl => Below.heap_alloc w o _ hl
theorem Rd.setCell (h : Rd w A xs) {p : Addr} (hn : ∀ ad, A = some ad → ad.block ≠ p.block) (u : Value) : Rd (w.setCell p u) A xs := h.keep fun ad e _ => Below.heap_setCell w p u _ (hn ad e)
theorem Rd.take (h : Rd w A xs) (k : Nat) : Rd w A (xs.take k) := fun j u hu => h j u (by
  rw [List.getElem?_take] at hu
  split at hu
  · exact hu
  · cases hu)
/-- behind a cut in front: the model's own form of the address -/
theorem Rd.cut (h : Rd w A xs) {k cap : Nat} (hc : xs.length ≤ cap) : Rd w (if cap = k then A else A.map (·.add (k * 1))) (xs.drop k) := fun j u hu => by
  rw [List.getElem?_drop] at hu
  obtain ⟨ad, rfl, hcell⟩ := h _ u hu
  have hl : k + j < xs.length := (List.getElem?_eq_some_iff.1 hu).1
  rw [if_neg (by omega)]
  refine ⟨ad.add (k * 1), rfl, ?_⟩
  rw [add_add_, Nat.mul_one]
  exact hcell
theorem Rd.lit (w : World) (cs : Array Value) (t : TypeId) : Rd (w.alloc (.cells cs t)) (some ⟨w.heap.size, 0, none⟩) cs.toList := fun j u hu =>
  ⟨_, rfl, World.news_of_block (heap_alloc_new w _) j u hu⟩
theorem Rd.lit_at (w : World) (cs : Array Value) (t : TypeId) {fr : Nat × Nat} {g : Nat} (hg : g = w.heap.size) : Rd (w.alloc (.cells cs t fr)) (some ⟨g, 0, none⟩) cs.toList := by
  subst hg
  exact fun j u hu => ⟨_, rfl, World.news_of_block (heap_alloc_new w _) j u hu⟩
theorem Rd.blk {g : Nat} {cs : Array Value} {t : TypeId} {fr : Nat × Nat} (h : w.heap[g]? = some (.cells cs t fr)) : Rd w (some ⟨g, 0, none⟩) cs.toList := fun j u hu =>
  ⟨_, rfl, World.news_of_block h j u hu⟩
end

/-! ### A block that is known whole -/
def Blk (w : World) (g : Nat) (t : TypeId) (cs : Array Value) : Prop := w.heap[g]? = some (.cells cs t (0, 0))
section
variable {S : Nat → Prop} {w w' : World} {g : Nat} {t : TypeId} {cs : Array Value}
theorem Blk.lt (h : Blk w g t cs) : g < w.heap.size := lt_of_block h
theorem Blk.cell (h : Blk w g t cs) (i : Nat) : w.cell? ⟨g, i, none⟩ = cs[i]? := cell_of_row w g i cs t (0, 0) h
theorem Blk.free (h : Blk w g t cs) (i : Nat) : w.frozen? ⟨g, i, none⟩ = false := frozen_of_row w g i cs t h
theorem Blk.new (w : World) (t : TypeId) (cs : Array Value) : Blk (w.alloc (.cells cs t)) w.heap.size t cs := heap_alloc_new w _
theorem Blk.drew (h : Blk w g t cs) : Blk w.drew g t cs := h
theorem Blk.drewN (h : Blk w g t cs) (n : Nat) : Blk (w.drewN n) g t cs := h
theorem Blk.alloc (h : Blk w g t cs) (o : Obj) : Blk (w.alloc o) g t cs := (Below.heap_alloc w o g h.lt).trans h
theorem Blk.only (h : Blk w g t cs) (ho : Only S w w') (hn : ¬ S g) : Blk w' g t cs := (ho.block g h.lt hn).trans h
theorem Blk.ext (h : Blk w g t cs) (hb : Below w.heap.size w w') : Blk w' g t cs := (hb.block g h.lt).trans h
theorem Blk.far (h : Blk w g t cs) {p : Addr} (hp : g ≠ p.block) (u : Value) : Blk (w.setCell p u) g t cs := (Below.heap_setCell w p u g hp).trans h
theorem Blk.put (h : Blk w g t cs) (i : Nat) (u : Value) : Blk (w.setCell ⟨g, i, none⟩ u) g t (cs.setIfInBounds i u) := heap_setCell_same w g i cs t u h
end

/-! ### A row that the call owns -/
/-- The slice of address 'A' and capacity 'c' is a row of the call's own that holds 'xs'; its block is one of 'fp'. -/
def Own (w : World) (fp : Nat → Prop) (e : TypeId) (A : Option Addr) (c : Nat) (xs : List Value) : Prop :=
  w.ownsRow 0 e 1 (.slice A xs.length c) xs.length xs ∧ ∀ ad, A = some ad → fp ad.block

/-- what was in 'fp', and what has been made from 'w' to 'w'' -/
def More (fp : Nat → Prop) (w w' : World) : Nat → Prop := fun k => fp k ∨ (w.heap.size ≤ k ∧ k < w'.heap.size)

section
variable {S fp fp' : Nat → Prop} {w w' : World} {e : TypeId} {A : Option Addr} {c : Nat} {xs : List Value}
theorem Own.cap (h : Own w fp e A c xs) : xs.length ≤ c := by
  rcases h.1.2 with ⟨h1, h2⟩ | ⟨g, cap, cur, h1, _, _, hc, _⟩
  · injection h1; omega
  · injection h1; omega
theorem Own.some_ (h : Own w fp e A c xs) : (A = none ∧ c = 0 ∧ xs = []) ∨ ∃ g, A = some ⟨g, 0, none⟩ ∧ fp g ∧ g < w.heap.size := by
  rcases h.1.2 with ⟨h1, h2⟩ | ⟨g, cap, cur, h1, _, hg, hc, _⟩
  · injection h1 with a1 a2 a3
    exact .inl ⟨a1, a3, List.eq_nil_of_length_eq_zero h2⟩
  · injection h1 with a1 a2 a3
    exact .inr ⟨g, a1, h.2 _ a1, lt_of_block hg⟩
theorem Own.rd (h : Own w fp e A c xs) : Rd w A xs := by
  rcases h.some_ with ⟨rfl, rfl, rfl⟩ | ⟨g, rfl, _, _⟩
  · exact Rd.nil _ _
  · exact fun j u hu => ⟨_, rfl, h.1.cells (g := g) rfl j u hu⟩
theorem Own.none_ (w : World) (fp : Nat → Prop) (e : TypeId) : Own w fp e none 0 [] := ⟨World.ownsRow_nil w 0 e 1, fun _ h => by cases h⟩
theorem Own.mono (h : Own w fp e A c xs) (hs : ∀ k, fp k → k < w.heap.size → fp' k) : Own w fp' e A c xs := by
  refine ⟨h.1, fun ad e' => ?_⟩
  rcases h.some_ with ⟨rfl, _⟩ | ⟨g, rfl, hg, hl⟩
  · cases e'
  · injection e' with e'; subst e'; exact hs _ hg hl
theorem Own.only (h : Own w fp e A c xs) (ho : Only S w w') (hn : ∀ k, fp k → ¬ S k) : Own w' fp e A c xs := by
  refine ⟨⟨h.1.1, ?_⟩, h.2⟩
  rcases h.1.2 with h1 | ⟨g, cap, cur, h1, hb, hg, r⟩
  · exact .inl h1
  · refine .inr ⟨g, cap, cur, h1, hb, ?_, r⟩
    injection h1 with a1 a2 a3
    rw [ho.block g (lt_of_block hg) (hn _ (h.2 _ a1))]
    exact hg
theorem Own.ext (h : Own w fp e A c xs) (hb : Below w.heap.size w w') : Own w' fp e A c xs := by
  refine ⟨⟨h.1.1, ?_⟩, h.2⟩
  rcases h.1.2 with h1 | ⟨g, cap, cur, h1, hb', hg, r⟩
  · exact .inl h1
  · exact .inr ⟨g, cap, cur, h1, hb', (hb.block g (lt_of_block hg)).trans hg, r⟩
theorem Own.drew (h : Own w fp e A c xs) : Own w.drew fp e A c xs := h
theorem Own.drewN (h : Own w fp e A c xs) (n : Nat) : Own (w.drewN n) fp e A c xs := h
theorem Own.alloc (h : Own w fp e A c xs) (o : Obj) : Own (w.alloc o) fp e A c xs := h.ext ((Below.refl _ _).alloc (Nat.le_refl _) o)
theorem Own.setCell (h : Own w fp e A c xs) {p : Addr} (hn : ∀ ad, A = some ad → ad.block ≠ p.block) (u : Value) : Own (w.setCell p u) fp e A c xs := by
  refine ⟨ownsRow_setCell_other h.1 ?_ u, h.2⟩
  rcases A with _ | ad
  · simp [Value.ownBlock]
  · simpa [Value.ownBlock] using hn ad rfl
/-- rows of one element type and a block of another one are apart -/
theorem Own.ne_blk {g : Nat} {t : TypeId} {cs : Array Value} (h : Own w fp e A c xs) (hb : Blk w g t cs) (ht : e ≠ t) : ∀ ad, A = some ad → ad.block ≠ g := by
  rintro ad rfl rfl
  rcases h.1.2 with ⟨h1, _⟩ | ⟨g', cap, cur, h1, _, hg, _⟩
  · injection h1 with h1; cases h1
  · injection h1 with h1 _ _
    injection h1 with h1
    subst h1
    unfold Blk at hb
    rw [hg] at hb
    injection hb with hb
    injection hb with _ ht'
    exact ht ht'
theorem Own.lit (w : World) (fp : Nat → Prop) (cs : Array Value) (e : TypeId) (hm : cs.size ≤ maxLen) (hf : fp w.heap.size) : Own (w.alloc (.cells cs e)) fp e (some ⟨w.heap.size, 0, none⟩) cs.size cs.toList := by
  refine ⟨?_, fun ad h => by injection h with h; subst h; exact hf⟩
  have h := World.ownsRow_lit (base := 0) (e := e) (size := 1) w cs cs.size (Nat.zero_le _) hm (by simp)
  simpa using h
end

/-! ### growth, step by step -/
section
variable {fp : Nat → Prop} {a b b' c : World}
theorem More.join (h1 : a.heap.size ≤ b.heap.size) (h2 : b.heap.size ≤ b'.heap.size) (h3 : b'.heap.size ≤ c.heap.size) {k : Nat} (hk : More (More fp a b) b' c k) : More fp a c k := by
  rcases hk with (hk | hk) | hk
  · exact .inl hk
  · exact .inr (by omega)
  · exact .inr (by omega)
theorem Only.join (h : Only fp a b') (h2 : Only (More fp a b) b' c) : Only fp a c := h.trans h2 (fun k hk hm => by
  rcases hm with hm | hm
  · exact hm
  · omega)
theorem Own.join {e : TypeId} {A : Option Addr} {n : Nat} {xs : List Value} (h1 : a.heap.size ≤ b.heap.size) (h2 : b.heap.size ≤ b'.heap.size) (h3 : b'.heap.size ≤ c.heap.size) (h : Own c (More (More fp a b) b' c) e A n xs) : Own c (More fp a c) e A n xs :=
  h.mono fun _ hk _ => More.join h1 h2 h3 hk
end

/-! ### Memory that is read, apart from 'fp'; rows of bytes -/
def RdF (fp : Nat → Prop) (w : World) (A : Option Addr) (xs : List Value) : Prop := Rd w A xs ∧ ∀ ad, A = some ad → xs ≠ [] → ¬ fp ad.block

def RowsF (fp : Nat → Prop) (w : World) (A : Option Addr) (xss : List (List UInt8)) : Prop :=
  ∃ vs, RdF fp w A vs ∧ vs.length = xss.length ∧ ∀ (j : Nat) (v : Value) (xs : List UInt8), vs[j]? = some v → xss[j]? = some xs → ∃ B c, v = .slice B xs.length c ∧ xs.length ≤ c ∧ RdF fp w B (xs.map bv)

section
variable {fp fp' : Nat → Prop} {w w' : World} {A : Option Addr} {xs : List Value} {xss : List (List UInt8)}
theorem RdF.only (h : RdF fp w A xs) (ho : Only fp w w') : RdF fp w' A xs := ⟨h.1.only ho h.2, h.2⟩
theorem RdF.of (h : Rd w A xs) : RdF (fun _ => False) w A xs := ⟨h, fun _ _ _ x => x⟩
/-- what is read lies below what is new -/
theorem RdF.fresh (h : Rd w A xs) (hf : ∀ k, fp k → w.heap.size ≤ k) : RdF fp w A xs := by
  refine ⟨h, fun ad e hne hk => ?_⟩
  rcases xs with _ | ⟨x, r⟩
  · exact hne rfl
  · obtain ⟨ad', e', hc⟩ := h 0 x rfl
    rw [e] at e'; injection e' with e'; subst e'
    have hb := World.block_lt_of_cell? w _ hc
    rw [block_add] at hb
    have := hf _ hk
    omega
theorem RdF.weak (h : RdF fp w A xs) (hs : ∀ k, fp' k → fp k) : RdF fp' w A xs := ⟨h.1, fun ad e hn x => h.2 ad e hn (hs _ x)⟩
theorem RowsF.only (h : RowsF fp w A xss) (ho : Only fp w w') : RowsF fp w' A xss := by
  obtain ⟨vs, h1, h2, h3⟩ := h
  refine ⟨vs, h1.only ho, h2, fun j v xs hv hx => ?_⟩
  obtain ⟨B, c, e, hc, hr⟩ := h3 j v xs hv hx
  exact ⟨B, c, e, hc, hr.only ho⟩
theorem RowsF.weak (h : RowsF fp w A xss) (hs : ∀ k, fp' k → fp k) : RowsF fp' w A xss := by
  obtain ⟨vs, h1, h2, h3⟩ := h
  refine ⟨vs, h1.weak hs, h2, fun j v xs hv hx => ?_⟩
  obtain ⟨B, c, e, hc, hr⟩ := h3 j v xs hv hx
  exact ⟨B, c, e, hc, hr.weak hs⟩
theorem RowsF.ext (h : RowsF fp w A xss) (hb : Below w.heap.size w w') : RowsF fp w' A xss := h.only (Only.of_ext hb)
/-- row number k -/
theorem RowsF.at_ (h : RowsF fp w A xss) {k : Nat} (hk : k < xss.length) :
    ∃ ad B c, A = some ad ∧ w.cell? (ad.add k) = some (.slice B xss[k].length c) ∧ xss[k].length ≤ c ∧ RdF fp w B (xss[k].map bv) := by
  obtain ⟨vs, h1, h2, h3⟩ := h
  obtain ⟨ad, e, hc⟩ := h1.1.at_ (k := k) (by omega)
  obtain ⟨B, c, e2, hl, hr⟩ := h3 k _ _ (List.getElem?_eq_getElem (by omega)) (List.getElem?_eq_getElem hk)
  exact ⟨ad, B, c, e, by rw [hc, e2], hl, hr⟩
theorem RdF.more (h : RdF fp w A xs) (ho : Only fp w w') : RdF (More fp w w') w' A xs := by
  refine ⟨h.1.only ho h.2, fun ad e hn hm => ?_⟩
  rcases hm with hm | hm
  · exact h.2 ad e hn hm
  · rcases xs with _ | ⟨x, r⟩
    · exact hn rfl
    · obtain ⟨ad', e', hc⟩ := h.1 0 x rfl
      rw [e] at e'
      injection e' with e'
      subst e'
      have hb := World.block_lt_of_cell? w _ hc
      rw [block_add] at hb
      omega
theorem RowsF.more (h : RowsF fp w A xss) (ho : Only fp w w') : RowsF (More fp w w') w' A xss := by
  obtain ⟨vs, h1, h2, h3⟩ := h
  refine ⟨vs, h1.more ho, h2, fun j v xs hv hx => ?_⟩
  obtain ⟨B, c, e, hc, hr⟩ := h3 j v xs hv hx
  exact ⟨B, c, e, hc, hr.more ho⟩
/-- cells that were just laid -/
theorem RdF.lit (w : World) (cs : Array Value) (t : TypeId) {fr : Nat × Nat} {g : Nat} (hg : g = w.heap.size) (hf : ¬ fp g) : RdF fp (w.alloc (.cells cs t fr)) (some ⟨g, 0, none⟩) cs.toList :=
  ⟨Rd.lit_at w cs t hg, fun ad e _ => by injection e with e; subst e; exact hf⟩
theorem RdF.alloc (h : RdF fp w A xs) (o : Obj) : RdF fp (w.alloc o) A xs := ⟨h.1.alloc o, h.2⟩
/-- a list of one row, of two rows, that was just laid -/
theorem RowsF.one {xs : List UInt8} {B : Option Addr} {c : Nat} (h : RdF fp w B (xs.map bv)) (hc : xs.length ≤ c) (t : TypeId) {g : Nat} (hg : g = w.heap.size) (hf : ¬ fp g) :
    RowsF fp (w.alloc (.cells #[.slice B xs.length c] t)) (some ⟨g, 0, none⟩) [xs] := by
  subst hg
  refine ⟨[.slice B xs.length c], ⟨Rd.lit w #[.slice B xs.length c] t, fun ad e _ => by injection e with e; subst e; exact hf⟩, rfl, fun j v ys hv hx => ?_⟩
  match j, hv, hx with
  | 0, hv, hx =>
    simp at hv hx
    subst hv hx
    exact ⟨B, c, rfl, hc, h.alloc _⟩
theorem RowsF.two {xs ys : List UInt8} {B D : Option Addr} {c d : Nat} (h : RdF fp w B (xs.map bv)) (hc : xs.length ≤ c) (h2 : RdF fp w D (ys.map bv)) (hd : ys.length ≤ d) (t : TypeId) {g : Nat} (hg : g = w.heap.size) (hf : ¬ fp g) :
    RowsF fp (w.alloc (.cells #[.slice B xs.length c, .slice D ys.length d] t)) (some ⟨g, 0, none⟩) [xs, ys] := by
  subst hg
  refine ⟨[.slice B xs.length c, .slice D ys.length d], ⟨Rd.lit w #[.slice B xs.length c, .slice D ys.length d] t, fun ad e _ => by injection e with e; subst e; exact hf⟩, rfl, fun j v zs hv hx => ?_⟩
  match j, hv, hx with
  | 0, hv, hx =>
    simp at hv hx
    subst hv hx
    exact ⟨B, c, rfl, hc, h.alloc _⟩
  | 1, hv, hx =>
    simp at hv hx
    subst hv hx
    exact ⟨D, d, rfl, hd, h2.alloc _⟩
theorem only_none (h : Only (fun _ => False) w w') : Below w.heap.size w w' := h.below (fun _ h => h.elim) (Nat.le_refl _)
end

/-! ### append onto what is owned; the source nil, empty or not -/
section
variable {P : Program} (w : World) {fp : Nat → Prop}
theorem run_app (t ty e : TypeId) (z : Value) (bytes : Nat) (ht : P.underlying t = some (.slice e)) (hi : (P.info? e).map (fun i => (i.zero, i.size, i.bytes)) = some (some z, 1, bytes)) (hzs : z.cells.size = 1)
    (A : Option Addr) (n c : Nat) (xs : List Value) (hn : n = xs.length) (hown : Own w fp e A c xs) (A2 : Option Addr) (m c2 : Nat) (news : List Value) (hm : m = news.length) (hr : Rd w A2 news) (h1 : ∀ u ∈ news, u.oneCell' = true)
    (h63 : n + m ≤ maxLen) (hbytes : (n + m) * bytes ≤ 140737488355328) :
    ∃ A' c' w', (Builtin.append_ #[t, t] ty #[.slice A n c, .slice A2 m c2]).run P w = .ok (.slice A' (n + m) c') w' ∧ Own w' (More fp w w') e A' c' (xs ++ news) ∧ Only fp w w' := by
  obtain ⟨i, hi, hz, hsz, hby⟩ := info_parts hi
  subst hn hm
  have same : ∀ (_ : news = []) (_ : (Builtin.append_ #[t, t] ty #[.slice A xs.length c, .slice A2 news.length c2]).run P w = .ok (.slice A xs.length c) w),
      ∃ A' c' w', (Builtin.append_ #[t, t] ty #[.slice A xs.length c, .slice A2 news.length c2]).run P w = .ok (.slice A' (xs.length + news.length) c') w' ∧ Own w' (More fp w w') e A' c' (xs ++ news) ∧ Only fp w w' := by
    intro hnil hrun
    subst hnil
    exact ⟨A, c, w, hrun, by rw [List.append_nil]; exact hown.mono (fun k hk _ => Or.inl hk), Only.refl _ _⟩
  rcases A2 with _ | ad
  · have hnil : news = [] := by
      rcases news with _ | ⟨u, r⟩
      · rfl
      · obtain ⟨ad, h, _⟩ := hr 0 u rfl
        cases h
    refine same hnil ?_
    subst hnil
    rcases hown.1.2 with ⟨h2, _⟩ | ⟨g, cap, cur, h2, _, _, hnc, _⟩
    · rw [h2]; simp [Builtin.append_, run_underlying ht, sizeOf, typeInfo, hi, Builtin.lenOf, Builtin.firstCells]
    · rw [h2]; simp [Builtin.append_, run_underlying ht, sizeOf, typeInfo, hi, Builtin.lenOf, Builtin.firstCells, hnc, storeCells]
  · have hcells : ∀ j u, news[j]? = some u → w.cell? (ad.add j) = some u := by
      intro j u hu
      obtain ⟨ad', h, hc⟩ := hr j u hu
      injection h with h
      subst h
      exact hc
    obtain ⟨v', w', hrun, h2, h3, _, h5⟩ := run_append_own_at (P := P) w 0 t ty e i z 1 bytes ht hi hz hsz hby hzs (by omega) (.slice A xs.length c) xs.length xs hown.1 ad news.length c2 news (by simp) hcells h1 h63 hbytes (Nat.zero_le _)
    have ho : Only fp w w' := by
      refine (Only.refl fp w).grown h3 (fun k hk _ => ?_)
      rcases A with _ | a0
      · simp [Value.ownBlock] at hk
      · simp [Value.ownBlock] at hk
        subst hk
        exact hown.2 _ rfl
    have key : ∀ A' c', v' = .slice A' (xs.length + news.length) c' → Own w' (More fp w w') e A' c' (xs ++ news) := by
      rintro A' c' rfl
      refine ⟨by simpa using h2, fun ad' e' => ?_⟩
      subst e'
      have hl := h2.lt ad'.block rfl
      rcases h5 with h5 | h5
      · rcases A with _ | a0
        · simp [Value.ownBlock] at h5
        · simp [Value.ownBlock] at h5
          rw [h5]
          exact .inl (hown.2 _ rfl)
      · simp [Value.ownBlock] at h5
        exact .inr ⟨by omega, hl.2⟩
    rcases h2.2 with ⟨hv, h0⟩ | ⟨g, cap, cur, hv, _⟩
    · subst hv
      exact ⟨none, 0, w', by rw [hrun, h0], key none 0 (by rw [h0]), ho⟩
    · subst hv
      exact ⟨_, _, w', hrun, key _ _ rfl, ho⟩

theorem wp_app {o : Oper} {a : Act} {K : Act → World → Prop} {Q : Exit → Act → World → Prop} (s x : Operand) (t : TypeId)
    (ho : o.op = .call { callee := .builtin .append, args := #[s, x], argTypes := #[t, t] })
    (e : TypeId) (z : Value) (bytes : Nat) (ht : P.underlying t = some (.slice e)) (hi : (P.info? e).map (fun i => (i.zero, i.size, i.bytes)) = some (some z, 1, bytes)) (hzs : z.cells.size = 1)
    (A : Option Addr) (n c : Nat) (xs : List Value) (hs : a.eval s = .slice A n c) (hn : n = xs.length) (hown : Own w fp e A c xs)
    (A2 : Option Addr) (m c2 : Nat) (news : List Value) (hx : a.eval x = .slice A2 m c2) (hm : m = news.length) (hr : Rd w A2 news) (h1 : ∀ u ∈ news, u.oneCell' = true)
    (h63 : n + m ≤ maxLen) (hbytes : (n + m) * bytes ≤ 140737488355328)
    (h : ∀ A' c' w', Own w' (More fp w w') e A' c' (xs ++ news) → Only fp w w' → K (a.put o.dst (.slice A' (n + m) c')) w') : o.wp P a w K Q := by
  obtain ⟨A', c', w', hrun, h2, h3⟩ := run_app (P := P) w t o.type e z bytes ht hi hzs A n c xs hn hown A2 m c2 news hm hr h1 h63 hbytes
  unfold Oper.wp execOp
  simp only [ho, resolve, invoke, builtin, Sem.run_bind, Sem.run_pure, Result.andThen_ok, List.map_toArray, List.map_cons, List.map_nil, hs, hx, hrun]
  exact h A' c' w' h2 h3

theorem wpList_app {ops : Array Oper} {rest : List Oper} {o : Oper} {a : Act} {Q : Exit → Act → World → Prop} (hgd : o.guard = none) (s x : Operand) (t : TypeId)
    (ho : o.op = .call { callee := .builtin .append, args := #[s, x], argTypes := #[t, t] })
    (e : TypeId) (z : Value) (bytes : Nat) (ht : P.underlying t = some (.slice e)) (hi : (P.info? e).map (fun i => (i.zero, i.size, i.bytes)) = some (some z, 1, bytes)) (hzs : z.cells.size = 1)
    (A : Option Addr) (n c : Nat) (xs : List Value) (hs : a.eval s = .slice A n c) (hn : n = xs.length) (hown : Own w fp e A c xs)
    (A2 : Option Addr) (m c2 : Nat) (news : List Value) (hx : a.eval x = .slice A2 m c2) (hm : m = news.length) (hr : Rd w A2 news) (h1 : ∀ u ∈ news, u.oneCell' = true)
    (h63 : n + m ≤ maxLen) (hbytes : (n + m) * bytes ≤ 140737488355328)
    (h : ∀ A' c' w', Own w' (More fp w w') e A' c' (xs ++ news) → Only fp w w' → wpList P ops Q rest (a.put o.dst (.slice A' (n + m) c')) w') : wpList P ops Q (o :: rest) a w :=
  wpList_plain hgd fun _ hK => wp_app w s x t ho e z bytes ht hi hzs A n c xs hs hn hown A2 m c2 news hx hm hr h1 h63 hbytes fun A' c' w' h2 h3 => hK _ _ (h A' c' w' h2 h3)
end
end Go.Proofs.YtdpmfcifgimleaaGreatDoor

/-
  Plain mathematics of octet: a number's digits to the base 128. No Go here.
-/
namespace Go.Proofs.YtdpmfcifgimleaaGreatDoor

/-- a number as bytes: seven binary digits a byte, the lowest first -/
def dig (n : Nat) : List UInt8 := if n < 128 then [n.toUInt8] else (n % 128 + 128).toUInt8 :: dig (n / 128)
termination_by n

theorem dig_lt {n : Nat} (h : n < 128) : dig n = [n.toUInt8] := by rw [dig, if_pos h]
theorem dig_ge {n : Nat} (h : ¬ n < 128) : dig n = (n % 128 + 128).toUInt8 :: dig (n / 128) := by rw [dig, if_neg h]
theorem dig_pos (n : Nat) : 0 < (dig n).length := by
  rw [dig]; split <;> simp

/-- so many bytes at the most -/
theorem dig_len : ∀ (k n : Nat), n < 128 ^ k → 0 < k → (dig n).length ≤ k
  | 0, _, _, h => absurd h (by omega)
  | k + 1, n, h, _ => by
    by_cases hn : n < 128
    · rw [dig_lt hn]; simp
    · rw [dig_ge hn]
      have hk : 0 < k := by
        rcases k with _ | k
        · simp at h; omega
        · omega
      have h2 : n / 128 < 128 ^ k := by
        rw [Nat.pow_succ] at h
        exact Nat.div_lt_of_lt_mul (by rw [Nat.mul_comm]; exact h)
      have := dig_len k (n / 128) h2 hk
      simp only [List.length_cons]
      omega

/-- a number brought into the bounds of what may be laid -/
def clamp (v : Int) : Nat := (min (max v 0) 4611686018427387904).toNat
theorem clamp_le (v : Int) : clamp v ≤ 4611686018427387904 := by unfold clamp; omega
theorem clamp_of_nat {n : Nat} (h : n ≤ 4611686018427387904) : clamp (n : Int) = n := by unfold clamp; omega
theorem dig_clamp_len (v : Int) : (dig (clamp v)).length ≤ 9 := dig_len 9 _ (by have := clamp_le v; have : (128 : Nat) ^ 9 = 9223372036854775808 := rfl; omega) (by omega)

/-- how many bytes the rest has: none, if nothing is left -/
def dlen (k : Nat) : Nat := if k = 0 then 0 else (dig k).length
theorem dig_len_eq (m : Nat) : (dig m).length = 1 + dlen (m / 128) := by
  by_cases h : m < 128
  · rw [dig_lt h, dlen, if_pos (by omega)]; rfl
  · rw [dig_ge h, dlen, if_neg (by omega), List.length_cons]; omega
theorem dlen_pos {k : Nat} (h : 0 < k) : dlen k = 1 + dlen (k / 128) := by rw [dlen, if_neg (by omega), dig_len_eq]
/-- the first byte tells whether the number is below 128 -/
theorem dig_first (m : Nat) (h : ¬ m < 128) : ∃ u r, dig m = u :: r ∧ 128 ≤ u.toNat ∧ r = dig (m / 128) := by
  refine ⟨_, _, dig_ge h, ?_, rfl⟩
  simp [Nat.toUInt8, UInt8.toNat_ofNat']; omega
/-- the last byte of several is not 0 -/
theorem dig_last : ∀ (n m : Nat), m ≤ n → 0 < m → ∃ p u, dig m = p ++ [u] ∧ 0 < u.toNat
  | 0, m, h, h0 => by omega
  | n + 1, m, h, h0 => by
    by_cases hm : m < 128
    · exact ⟨[], m.toUInt8, by rw [dig_lt hm]; rfl, by simp [Nat.toUInt8, UInt8.toNat_ofNat']; omega⟩
    · obtain ⟨p, u, e, hu⟩ := dig_last n (m / 128) (by omega) (by omega)
      exact ⟨_ :: p, u, by rw [dig_ge hm, e]; rfl, hu⟩

/-! ### the number at the beginning of bytes -/
def scan : Nat → Nat → List UInt8 → Option (Nat × Nat)
  | _, _, [] => none
  | i, n, c :: r =>
    if i = 9 then none
    else if 127 < c.toNat then scan (i + 1) (n + c.toNat % 128 * 128 ^ i) r
    else if 4611686018427387904 < n + c.toNat % 128 * 128 ^ i ∨ (0 < i ∧ c.toNat = 0) then none
    else some (n + c.toNat % 128 * 128 ^ i, i + 1)
def num? (bs : List UInt8) : Option (Nat × Nat) := scan 0 0 bs
def resN (r : Option (Nat × Nat)) : Nat := (r.getD (0, 0)).1
def resK (r : Option (Nat × Nat)) : Nat := (r.getD (0, 0)).2

/-- a number that was laid is met again -/
theorem scan_dig : ∀ (k n i a : Nat) (r : List UInt8), n ≤ k → (i = 0 ∨ 0 < n) → a + n * 128 ^ i ≤ 4611686018427387904 → scan i a (dig n ++ r) = some (a + n * 128 ^ i, i + (dig n).length)
  | k, n, i, a, r, hk, h0, hle => by
    have hi : i ≤ 8 := by
      rcases h0 with h0 | h0
      · omega
      · rcases Nat.lt_or_ge i 9 with h | h
        · omega
        · have h1 : 128 ^ 9 ≤ 128 ^ i := Nat.pow_le_pow_right (by omega) h
          have h2 : 1 * 128 ^ i ≤ n * 128 ^ i := Nat.mul_le_mul_right _ h0
          have h3 : (128 : Nat) ^ 9 = 9223372036854775808 := rfl
          omega
    by_cases hn : n < 128
    · have e : n.toUInt8.toNat = n := by simp [Nat.toUInt8, UInt8.toNat_ofNat']; omega
      rw [dig_lt hn]
      simp only [List.singleton_append, scan, e]
      rw [if_neg (by omega), if_neg (by omega), Nat.mod_eq_of_lt hn, if_neg (by omega)]
      simp
    · have e : (n % 128 + 128).toUInt8.toNat = n % 128 + 128 := by simp [Nat.toUInt8, UInt8.toNat_ofNat']; omega
      have e2 : (n % 128 + 128) % 128 = n % 128 := by omega
      have e3 : a + n % 128 * 128 ^ i + n / 128 * 128 ^ (i + 1) = a + n * 128 ^ i := by
        have h1 : n * 128 ^ i = (n % 128 + 128 * (n / 128)) * 128 ^ i := by rw [Nat.mod_add_div]
        rw [h1, Nat.add_mul, Nat.pow_succ, Nat.mul_comm 128 (n / 128), Nat.mul_assoc (n / 128), Nat.mul_comm 128]
        omega
      rw [dig_ge hn]
      simp only [List.cons_append, scan, e]
      rw [if_neg (by omega), if_pos (by omega), e2, scan_dig (n / 128) (n / 128) (i + 1) _ r (Nat.le_refl _) (.inr (by omega)) (by rw [e3]; exact hle), e3]
      simp only [List.length_cons]
      congr 2; omega
termination_by _ n => n
theorem num_dig (n : Nat) (r : List UInt8) (h : n ≤ 4611686018427387904) : num? (dig n ++ r) = some (n, (dig n).length) := by
  have := scan_dig n n 0 0 r (Nat.le_refl _) (.inl rfl) (by simpa using h)
  simpa [num?] using this

/-! ### the check sum, four digits at a time -/
def tab (i : Nat) : Nat := [0, 498536548, 997073096, 651767980, 1994146192, 1802195444, 1303535960, 1342533948, 3988292384, 4027552580, 3604390888, 3412177804, 2607071920, 2262029012, 2685067896, 3183342108].getD i 0
theorem tab_lt (i : Nat) : tab i < 4294967296 := by
  have h : ∀ j, j < 16 → tab j < 4294967296 := by decide
  by_cases hi : i < 16
  · exact h i hi
  · unfold tab; rw [List.getD_eq_getElem?_getD, List.getElem?_eq_none (by simp; omega)]; decide
def nib (s : Nat) : Nat := s / 16 ^^^ tab (s % 16)
theorem nib_lt {s : Nat} (h : s < 4294967296) : nib s < 4294967296 :=
  Nat.xor_lt_two_pow (n := 32) (by have : s / 16 < 2 ^ 32 := by omega
                                   exact this) (tab_lt _)
def crcB (s : Nat) (b : UInt8) : Nat := nib (nib (s ^^^ b.toNat))
theorem xorb_lt {s : Nat} (h : s < 4294967296) (b : UInt8) : s ^^^ b.toNat < 4294967296 :=
  Nat.xor_lt_two_pow (n := 32) h (by have := b.toNat_lt; have : (2 : Nat) ^ 32 = 4294967296 := rfl; omega)
theorem crcB_lt {s : Nat} (h : s < 4294967296) (b : UInt8) : crcB s b < 4294967296 := nib_lt (nib_lt (xorb_lt h b))
def crcL (s : Nat) (bs : List UInt8) : Nat := bs.foldl crcB s
theorem crcL_lt (bs : List UInt8) : ∀ {s : Nat}, s < 4294967296 → crcL s bs < 4294967296 := by
  induction bs with
  | nil => intro s h; exact h
  | cons b r ih => intro s h; exact ih (crcB_lt h b)
theorem crcL_append (s : Nat) (a b : List UInt8) : crcL s (a ++ b) = crcL (crcL s a) b := List.foldl_append
theorem crcL_snoc (s : Nat) (a : List UInt8) (b : UInt8) : crcL s (a ++ [b]) = crcB (crcL s a) b := by rw [crcL_append]; rfl
theorem crcL_take_succ (s : Nat) (xs : List UInt8) (k : Nat) (h : k < xs.length) : crcL s (xs.take (k + 1)) = crcB (crcL s (xs.take k)) xs[k] := by
  rw [List.take_succ_eq_append_getElem h, crcL_snoc]
/-- the check sum of bytes -/
def sumOf (bs : List UInt8) : Nat := 4294967295 - crcL 4294967295 bs
theorem sumOf_known : sumOf [49, 50, 51, 52, 53, 54, 55, 56, 57] = 3421780262 := by decide

end Go.Proofs.YtdpmfcifgimleaaGreatDoor

/-
  The contracts of package octet's Writer: Raw, num, Nums, Bytes, Out. No statement of the seat is proved here.
-/
namespace Go.Proofs.YtdpmfcifgimleaaGreatDoor
open Go Go.RowKit

theorem info_u8 : (Tryz.prog.info? 5).map (fun i => (i.zero, i.size, i.bytes)) = some (some (.int .u8 0), 1, 1) := by kernel_rfl

/-- A Writer in block 'g', which has laid the cells 'xs'; what it owns lies in 'fp'. -/
def Wr (w : World) (fp : Nat → Prop) (g : Nat) (xs : List Value) : Prop :=
  fp g ∧ ∃ A c, Blk w g 153 #[.slice A xs.length c] ∧ Own w fp 5 A c xs

section
variable {S fp fp' : Nat → Prop} {w w' : World} {g : Nat} {xs : List Value}
theorem Wr.mono (h : Wr w fp g xs) (hs : ∀ k, fp k → k < w.heap.size → fp' k) : Wr w fp' g xs := by
  obtain ⟨h1, A, c, hb, ho⟩ := h
  exact ⟨hs _ h1 hb.lt, A, c, hb, ho.mono hs⟩
theorem Wr.only (h : Wr w fp g xs) (ho : Only S w w') (hn : ∀ k, fp k → ¬ S k) : Wr w' fp g xs := by
  obtain ⟨h1, A, c, hb, hown⟩ := h
  exact ⟨h1, A, c, hb.only ho (hn _ h1), hown.only ho hn⟩
theorem Wr.ext (h : Wr w fp g xs) (hb : Below w.heap.size w w') : Wr w' fp g xs := by
  obtain ⟨h1, A, c, hb1, hown⟩ := h
  exact ⟨h1, A, c, hb1.ext hb, hown.ext hb⟩
theorem Wr.drewN (h : Wr w fp g xs) (n : Nat) : Wr (w.drewN n) fp g xs := h
theorem Wr.alloc (h : Wr w fp g xs) (o : Obj) : Wr (w.alloc o) fp g xs := h.ext ((Below.refl _ _).alloc (Nat.le_refl _) o)
theorem Wr.lt (h : Wr w fp g xs) : g < w.heap.size := by
  obtain ⟨_, _, _, hb, _⟩ := h
  exact hb.lt
theorem Wr.new (w : World) (fp : Nat → Prop) (hf : fp w.heap.size) : Wr (w.alloc (.cells #[.slice none 0 0] 153)) fp w.heap.size [] :=
  ⟨hf, none, 0, Blk.new w _ _, Own.none_ _ _ _⟩
end

theorem raw_nil (v : Value) (w : World) : Calls Tryz.prog 138 #[.pointer none, v] w fun e w' => e = .returned (.tuple #[]) ∧ w = w' := by
  go_enter Tryz.func138, Tryz.ntmps138
  go_wp2
  go_end0
  exact ⟨rfl, rfl⟩

/-- what a Writer is behind an append to its row and the store of it -/
theorem Wr.step {fp : Nat → Prop} {g : Nat} {A A' : Option Addr} {c c' : Nat} {xs ys : List Value} {w w1 : World} (hg : fp g) (hblk : Blk w g 153 #[.slice A xs.length c])
    (ho : Only (fun k => fp k ∧ k ≠ g) w w1) (hown : Own w1 (More (fun k => fp k ∧ k ≠ g) w w1) 5 A' c' ys) :
    Wr (w1.setCell ⟨g, 0, none⟩ (.slice A' ys.length c')) (More fp w (w1.setCell ⟨g, 0, none⟩ (.slice A' ys.length c'))) g ys ∧ Only fp w (w1.setCell ⟨g, 0, none⟩ (.slice A' ys.length c')) := by
  have hb1 : Blk w1 g 153 #[.slice A xs.length c] := hblk.only ho (fun h => h.2 rfl)
  refine ⟨⟨.inl hg, A', c', hb1.put 0 _, ?_⟩, (ho.mono (fun _ _ h => h.1)).setCell (.inl hg) _⟩
  refine (hown.setCell (hown.ne_blk hb1 (by decide)) _).mono (fun k hk _ => ?_)
  rcases hk with hk | hk
  · exact .inl hk.1
  · exact .inr (by simpa [World.setCell] using hk)

set_option maxHeartbeats 400000 in
theorem raw_any (fp : Nat → Prop) (g : Nat) (A2 : Option Addr) (m c2 : Nat) (xs news : List Value) (w : World) (hw : Wr w fp g xs) (hm : m = news.length) (hr : Rd w A2 news) (h1 : ∀ u ∈ news, u.oneCell' = true)
    (hb : xs.length + news.length ≤ 1099511627776) :
    Calls Tryz.prog 138 #[.pointer (some ⟨g, 0, none⟩), .slice A2 m c2] w fun e w' => e = .returned (.tuple #[]) ∧ Wr w' (More fp w w') g (xs ++ news) ∧ Only fp w w' := by
  obtain ⟨hg, A, c, hblk, hown⟩ := hw
  have h0 := hblk.cell 0
  simp only [List.getElem?_toArray, List.getElem?_cons_zero] at h0
  have f0 := hblk.free 0
  have hk1 : xs.length + m ≤ maxLen := by unfold maxLen; omega
  have hk2 : (xs.length + m) * 1 ≤ 140737488355328 := by omega
  have hown' : Own w (fun k => fp k ∧ k ≠ g) 5 A c xs := ⟨hown.1, fun ad e => ⟨hown.2 ad e, hown.ne_blk hblk (by decide) ad e⟩⟩
  have hm' := Lib.hid hm
  clear hm
  go_enter Tryz.func138, Tryz.ntmps138
  go_wp2_with (at_builtin
               refine wpList_app _ rfl (.tmp 10) (.tmp 11) _ rfl _ _ 1 Tryz.underlying57 info_u8 rfl A _ c xs rfl rfl hown' A2 m c2 news rfl hm'.out hr h1 hk1 hk2 ?_
               intro A' c' w1 hown1 honly1
               have hb1 := hblk.only honly1 (fun h => h.2 rfl)
               have g0 : w1.cell? ⟨g, 0, none⟩ = some (.slice A xs.length c) := hb1.cell 0
               have g1 : w1.frozen? ⟨g, 0, none⟩ = false := hb1.free 0)
  go_end0
  refine ⟨rfl, ?_⟩
  have key := Wr.step hg hblk honly1 hown1
  rw [List.length_append, ← hm'.out] at key
  exact key

theorem Wr.join {fp : Nat → Prop} {a b b' c : World} {g : Nat} {xs : List Value} (h1 : a.heap.size ≤ b.heap.size) (h2 : b.heap.size ≤ b'.heap.size) (h3 : b'.heap.size ≤ c.heap.size) (h : Wr c (More (More fp a b) b' c) g xs) : Wr c (More fp a c) g xs :=
  h.mono fun _ hk _ => More.join h1 h2 h3 hk
end Go.Proofs.YtdpmfcifgimleaaGreatDoor

/-
  The contract of octet's Join. No statement of the seat is proved here.
-/
namespace Go.Proofs.YtdpmfcifgimleaaGreatDoor
open Go Go.RowKit

/-- bytes in a list of the call's own, which was made between two worlds -/
def New (w w' : World) (A : Option Addr) (c : Nat) (bs : List UInt8) : Prop := Own w' (fun k => w.heap.size ≤ k ∧ k < w'.heap.size) 5 A c (bs.map bv)

theorem make_bytes (W : World) (t : Nat) (h : t ≤ 1099511627776) : (Instr.makeSlice 57 (.int .i64 0) (.int .i64 (t : Int))).run Tryz.prog W =
    .ok (.slice (some ⟨W.heap.size, 0, none⟩) 0 t) (W.alloc (.cells (madeCells #[.int .u8 0] (t * 1)) 5)) := by
  obtain ⟨i, hi, hz, hsz, hby⟩ := info_parts info_u8
  have hr := run_make (P := Tryz.prog) W 57 5 i _ Tryz.underlying57 hi hz .i64 .i64 ((0 : Nat) : Int) t (by omega) (by omega) (by rw [hby]; omega) (by omega)
  simp only [Int.toNat_natCast, hsz] at hr
  exact hr

theorem flat_take_succ (xss : List (List UInt8)) (k : Nat) (h : k < xss.length) : (xss.take (k + 1)).flatten = (xss.take k).flatten ++ xss[k] := by
  rw [List.take_succ_eq_append_getElem h, List.flatten_append]; simp
theorem flat_take_le (xss : List (List UInt8)) (k : Nat) : (xss.take k).flatten.length ≤ xss.flatten.length := by
  have h : xss.flatten = (xss.take k).flatten ++ (xss.drop k).flatten := by rw [← List.flatten_append, List.take_append_drop]
  rw [h, List.length_append]; omega
/-- the bytes of the first k rows; how many they are: under a name, so that the walk leaves them alone -/
def upTo (xss : List (List UInt8)) (k : Nat) : List UInt8 := (xss.take k).flatten
def lenTo (xss : List (List UInt8)) (k : Nat) : Nat := (upTo xss k).length
theorem lenTo_zero (xss : List (List UInt8)) : lenTo xss 0 = 0 := rfl
theorem upTo_succ (xss : List (List UInt8)) (k : Nat) (h : k < xss.length) : upTo xss (k + 1) = upTo xss k ++ xss[k] := flat_take_succ xss k h
theorem lenTo_succ (xss : List (List UInt8)) (k : Nat) (h : k < xss.length) : lenTo xss (k + 1) = lenTo xss k + xss[k].length := by unfold lenTo; rw [upTo_succ xss k h, List.length_append]
theorem lenTo_le (xss : List (List UInt8)) (k : Nat) : lenTo xss k ≤ xss.flatten.length := flat_take_le xss k
theorem upTo_all (xss : List (List UInt8)) : upTo xss xss.length = xss.flatten := by unfold upTo; rw [List.take_length]
theorem lenTo_all (xss : List (List UInt8)) : lenTo xss xss.length = xss.flatten.length := by unfold lenTo; rw [upTo_all]

theorem New.start (w : World) (n : Nat) (h : n ≤ 1099511627776) : New w (w.alloc (.cells (madeCells #[.int .u8 0] n) 5)) (some ⟨w.heap.size, 0, none⟩) n [] := by
  refine ⟨?_, fun ad h => by injection h with h; subst h; simp⟩
  exact World.ownsRow_made w _ n (Nat.zero_le _) (by unfold maxLen; omega) (by simp [madeCells])
theorem New.grow {w w1 w2 : World} {A : Option Addr} {c : Nat} {bs cs : List UInt8} (hb : Below w.heap.size w w1) (h : Own w2 (More (fun k => w.heap.size ≤ k ∧ k < w1.heap.size) w1 w2) 5 A c (bs.map bv ++ cs.map bv)) (ho : Only (fun k => w.heap.size ≤ k ∧ k < w1.heap.size) w1 w2) :
    New w w2 A c (bs ++ cs) ∧ Below w.heap.size w w2 := by
  have h1 := hb.size
  have h2 := ho.size
  refine ⟨?_, hb.trans (ho.below (fun _ h => h.1) hb.size)⟩
  unfold New
  rw [List.map_append]
  refine h.mono (fun _ hk _ => ?_)
  rcases hk with hk | hk <;> omega
/-- .. a literal laid in between -/
theorem New.grow1 {w w1 w2 : World} {A : Option Addr} {c : Nat} {bs cs : List UInt8} {o : Obj} (hb : Below w.heap.size w w1) (h : Own w2 (More (fun k => w.heap.size ≤ k ∧ k < w1.heap.size) (w1.alloc o) w2) 5 A c (bs.map bv ++ cs.map bv)) (ho : Only (fun k => w.heap.size ≤ k ∧ k < w1.heap.size) (w1.alloc o) w2) :
    New w w2 A c (bs ++ cs) ∧ Below w.heap.size w w2 := by
  have h1 := hb.size
  have h2 := ho.size
  rw [World.size_alloc] at h2
  refine ⟨?_, (hb.alloc h1 o).trans (ho.below (fun _ h => h.1) (by rw [World.size_alloc]; omega))⟩
  unfold New
  rw [List.map_append]
  refine h.mono (fun _ hk _ => ?_)
  rcases hk with hk | hk
  · omega
  · rw [World.size_alloc] at hk; omega
theorem New.ext {w w1 w2 : World} {A : Option Addr} {c : Nat} {bs : List UInt8} (h : New w w1 A c bs) (hb : Below w1.heap.size w1 w2) : New w w2 A c bs :=
  (Own.ext h hb).mono (fun _ hk _ => ⟨hk.1, Nat.lt_of_lt_of_le hk.2 hb.size⟩)

theorem New.rd {w w1 : World} {A : Option Addr} {c : Nat} {bs : List UInt8} (h : New w w1 A c bs) : Rd w1 A (bs.map bv) := Own.rd h
theorem New.back {w w0 w1 : World} {A : Option Addr} {c : Nat} {bs : List UInt8} (h : New w w1 A c bs) (hs : w0.heap.size ≤ w.heap.size) : New w0 w1 A c bs :=
  Own.mono h (fun _ hk _ => ⟨Nat.le_trans hs hk.1, hk.2⟩)

set_option maxHeartbeats 1000000 in
theorem join_any (A : Option Addr) (n c : Nat) (xss : List (List UInt8)) (bs : List UInt8) (w : World) (hn : n = xss.length) (hbs : xss.flatten = bs) (hr : RowsF (fun _ => False) w A xss) (hb : bs.length ≤ 1099511627776) (hb2 : xss.length ≤ 1099511627776) :
    Calls Tryz.prog 139 #[.slice A n c] w fun e w' => ∃ A' c', e = .returned (.slice A' bs.length c') ∧ New w w' A' c' bs ∧ Below w.heap.size w w' := by
  subst hn
  have hmk := fun W => make_bytes W bs.length hb
  have hall := lenTo_all xss
  have hle := lenTo_le xss
  rw [hbs] at hall hle
  have Hbs := Lib.hid hbs
  have Hall := Lib.hid hall
  have Hle := Lib.hid hle
  clear hall hbs hle
  go_enter Tryz.func139, Tryz.ntmps139
  go_wp2
  go_loop [3, 11] (fun s i => ∃ k : Nat, k ≤ xss.length ∧ i = .int .i64 (k : Int) ∧ s = .int .i64 (lenTo xss k : Int)) (fun _ i => xss.length - (intOf i).toNat)
  case atStart => exact ⟨0, Nat.zero_le _, rfl, by rw [lenTo_zero]; rfl⟩
  case round =>
    obtain ⟨k, hk, rfl, rfl⟩ := hrel
    have hle := Hle.out k
    by_cases hlt : k < xss.length
    · obtain ⟨ad, B, cb, rfl, hcell, hl, hrd⟩ := hr.at_ hlt
      have hsucc := Lib.hid (lenTo_succ xss k hlt)
      have hle' := Hle.out (k + 1)
      rw [lenTo_succ xss k hlt] at hle'
      go_wp2
      go_round
      case rel => exact ⟨k + 1, by omega, by go_num, by rw [hsucc.out]; go_num⟩
      case measure => simp [intOf]; omega
    · obtain rfl : k = xss.length := by omega
      rw [Hall.out]
      clear hle
      go_wp2
      go_loopw [6, 24] (fun s i w1 => ∃ (k : Nat) (A' : Option Addr) (c' : Nat), k ≤ xss.length ∧ i = .int .i64 (k : Int) ∧ s = .slice A' (lenTo xss k) c' ∧ New w w1 A' c' (upTo xss k) ∧ Below w.heap.size w w1) (fun _ i _ => xss.length - (intOf i).toNat)
      case atStart => exact ⟨0, _, _, Nat.zero_le _, rfl, rfl, by first | exact New.start w bs.length hb | (rw [Nat.mul_one]; exact New.start w bs.length hb), (Below.refl _ _).alloc (Nat.le_refl _) _⟩
      case round =>
        obtain ⟨k, A', c', hk, rfl, rfl, hnew, hbel⟩ := hrel
        by_cases hlt : k < xss.length
        · obtain ⟨ad, B, cb, rfl, hcell, hl, hrd⟩ := (hr.ext hbel).at_ hlt
          have hsucc := Lib.hid (lenTo_succ xss k hlt)
          have usucc := Lib.hid (upTo_succ xss k hlt)
          have hle' := Hle.out (k + 1)
          rw [lenTo_succ xss k hlt] at hle'
          have hk1 : lenTo xss k + xss[k].length ≤ maxLen := by unfold maxLen; omega
          have hk2 : (lenTo xss k + xss[k].length) * 1 ≤ 140737488355328 := by omega
          have hl0 := Lib.hid (show lenTo xss k = ((upTo xss k).map bv).length by rw [List.length_map]; rfl)
          have hl1 := Lib.hid (show xss[k].length = (xss[k].map bv).length by rw [List.length_map])
          go_wp2_with (at_builtin
                       refine wpList_app _ rfl (.tmp 28) (.tmp 29) _ rfl _ _ 1 Tryz.underlying57 info_u8 rfl A' (lenTo xss k) c' _ rfl ?_ hnew B _ cb (xss[k].map bv) rfl ?_ hrd.1 (bvs_one _) hk1 hk2 ?_
                       · rw [List.length_map]; rfl
                       · rw [List.length_map]
                       intro A2 c2 w2 hown2 honly2)
          go_roundw
          case rel =>
            obtain ⟨g1, g2⟩ := New.grow hbel hown2 honly2
            exact ⟨k + 1, A2, c2, by omega, by go_num, by rw [hsucc.out], by rw [usucc.out]; exact g1, g2⟩
          case measure => simp [intOf]; omega
        · obtain rfl : k = xss.length := by omega
          rw [Hall.out]
          go_wp2
          go_ret
          refine ⟨A', c', rfl, ?_, hbel⟩
          rw [upTo_all, Hbs.out] at hnew
          exact hnew
end Go.Proofs.YtdpmfcifgimleaaGreatDoor

/-
  The contract of octet's Sum. No statement of the seat is proved here.
-/
namespace Go.Proofs.YtdpmfcifgimleaaGreatDoor
open Go Go.RowKit

/-- the table of package octet lies in memory as its text lays it -/
def Tab (w : World) : Prop := ∀ i : Nat, i < 16 → w.cell? ⟨0, i, none⟩ = some (.int .u32 (tab i : Int))
theorem Tab.ext {w w' : World} (h : Tab w) (hb : Below w.heap.size w w') : Tab w' := fun i hi => by
  have hc := h i hi
  have hl := World.block_lt_of_cell? w _ hc
  exact (World.cell?_of_block (hb.block _ hl)).trans hc
theorem Tab.alloc {w : World} (h : Tab w) (o : Obj) : Tab (w.alloc o) := h.ext ((Below.refl _ _).alloc (Nat.le_refl _) o)
theorem Tab.drewN {w : World} (h : Tab w) (n : Nat) : Tab (w.drewN n) := h

def crcTo (xss : List (List UInt8)) (k : Nat) : Nat := crcL 4294967295 (upTo xss k)
theorem crcTo_lt (xss : List (List UInt8)) (k : Nat) : crcTo xss k < 4294967296 := crcL_lt _ (by decide)
theorem crcTo_succ (xss : List (List UInt8)) (k : Nat) (h : k < xss.length) : crcTo xss (k + 1) = crcL (crcTo xss k) xss[k] := by
  unfold crcTo; rw [upTo_succ xss k h, crcL_append]
def crcAt (s : Nat) (xs : List UInt8) (j : Nat) : Nat := crcL s (xs.take j)

theorem crcAt_succ (s : Nat) (xs : List UInt8) (j : Nat) (h : j < xs.length) : crcAt s xs (j + 1) = crcB (crcAt s xs j) xs[j] := crcL_take_succ s xs j h
theorem crcAt_all (s : Nat) (xs : List UInt8) : crcAt s xs xs.length = crcL s xs := by unfold crcAt; rw [List.take_length]

/-- one step of four digits, in the walk's own words -/
theorem nib_step (s : Nat) (h : s < 4294967296) (w : World) (ht : Tab w) : ∃ m t s2 : Nat, (m : Int) < 16 ∧ bits .and .u32 (s : Int) 15 = (m : Int) ∧ w.cell? ⟨0, m, none⟩ = some (.int .u32 (t : Int)) ∧
    bits .xor .u32 ((s : Int) / 16) (t : Int) = (s2 : Int) ∧ s2 = nib s := by
  refine ⟨s % 16, tab (s % 16), nib s, by omega, ?_, ht _ (by omega), ?_, rfl⟩
  · have h2 := u32_and_nat s 15 h (by omega)
    rw [nat_mask4] at h2
    exact h2
  · have h2 := u32_xor_nat (s / 16) (tab (s % 16)) (by omega) (tab_lt _)
    rw [Int.natCast_ediv] at h2
    exact h2
theorem xor_step (s : Nat) (h : s < 4294967296) (b : UInt8) : ∃ s1 : Nat, bits .xor .u32 (s : Int) ((b.toNat : Int) % 4294967296) = (s1 : Int) ∧ s1 = s ^^^ b.toNat ∧ s1 < 4294967296 := by
  refine ⟨s ^^^ b.toNat, ?_, rfl, xorb_lt h b⟩
  have hb := b.toNat_lt
  rw [show (b.toNat : Int) % 4294967296 = (b.toNat : Int) by omega]
  exact u32_xor_nat s b.toNat h (by omega)

theorem xor_ones (s : Nat) (h : s < 4294967296) : 4294967295 ^^^ s = 4294967295 - s := by
  have e : BitVec.allOnes 32 ^^^ BitVec.ofNat 32 s = ~~~ BitVec.ofNat 32 s := BitVec.allOnes_xor
  have e2 := congrArg BitVec.toNat e
  rw [BitVec.toNat_xor, BitVec.toNat_not, BitVec.toNat_ofNat, BitVec.toNat_allOnes, Nat.mod_eq_of_lt (by omega)] at e2
  have e3 : (2 : Nat) ^ 32 - 1 = 4294967295 := rfl
  rw [e3] at e2
  exact e2
theorem not_u32 (s : Nat) (h : s < 4294967296) : bits .xor .u32 IntKind.u32.max (s : Int) = ((4294967295 - s : Nat) : Int) := by
  have h1 := u32_xor_nat 4294967295 s (by omega) h
  rw [xor_ones s h] at h1
  exact h1

set_option maxHeartbeats 1000000 in
theorem sum_any (A : Option Addr) (n c : Nat) (xss : List (List UInt8)) (bs : List UInt8) (w : World) (ht : Tab w) (hn : n = xss.length) (hbs : xss.flatten = bs) (hr : RowsF (fun _ => False) w A xss) (hb : bs.length ≤ 1099511627776) (hb2 : xss.length ≤ 1099511627776) :
    Calls Tryz.prog 75 #[.slice A n c] w fun e w' => e = .returned (.int .u32 (sumOf bs : Int)) ∧ w = w' := by
  subst hn
  have Hbs := Lib.hid hbs
  have hle := lenTo_le xss
  rw [hbs] at hle
  have Hle := Lib.hid hle
  clear hbs hle
  go_enter Tryz.func75, Tryz.ntmps75
  go_wp2
  go_loop [3, 10] (fun s i => ∃ k : Nat, k ≤ xss.length ∧ i = .int .i64 (k : Int) ∧ s = .int .u32 (crcTo xss k : Int)) (fun _ i => xss.length - (intOf i).toNat)
  case atStart => exact ⟨0, Nat.zero_le _, rfl, rfl⟩
  case round =>
    obtain ⟨k, hk, rfl, rfl⟩ := hrel
    have hlt0 := crcTo_lt xss k
    by_cases hlt : k < xss.length
    · obtain ⟨ad, B, cb, rfl, hcell, hl, hrd⟩ := hr.at_ hlt
      have hsucc := Lib.hid (crcTo_succ xss k hlt)
      have hle' := Hle.out (k + 1)
      rw [lenTo_succ xss k hlt] at hle'
      have hlen : xss[k].length ≤ 1099511627776 := by omega
      clear hle'
      generalize crcTo xss k = s0 at *
      generalize xss[k] = xs at *
      go_wp2
      go_loop [3, 16] (fun s i => ∃ j : Nat, j ≤ xs.length ∧ i = .int .i64 (j : Int) ∧ s = .int .u32 (crcAt s0 xs j : Int)) (fun _ i => xs.length - (intOf i).toNat)
      case atStart => exact ⟨0, Nat.zero_le _, rfl, rfl⟩
      case round =>
        obtain ⟨j, hj, rfl, rfl⟩ := hrel
        by_cases hjl : j < xs.length
        · obtain ⟨a1, rfl, hc1⟩ := hrd.1.at_ (k := j) (by simpa using hjl)
          simp only [List.getElem_map, bv] at hc1
          have hS : crcAt s0 xs j < 4294967296 := crcL_lt _ hlt0
          have hnext := Lib.hid (crcAt_succ s0 xs j hjl)
          generalize crcAt s0 xs j = S at *
          generalize xs[j] = b at *
          obtain ⟨s1, e1, f1, l1⟩ := xor_step S hS b
          obtain ⟨m1, t1, s2, lm1, e2, c1, e3, f2⟩ := nib_step s1 l1 w ht
          have l2 : s2 < 4294967296 := by rw [f2]; exact nib_lt l1
          obtain ⟨m2, t2, s3, lm2, e4, c2, e5, f3⟩ := nib_step s2 l2 w ht
          have hfin := Lib.hid (show crcB S b = s3 by unfold crcB; rw [← f1, ← f2, ← f3])
          clear f1 f2 f3
          go_wp2
          go_round
          case rel => exact ⟨j + 1, by omega, by go_num, by rw [hnext.out, hfin.out]⟩
          case measure => simp [intOf]; omega
        · obtain rfl : j = xs.length := by omega
          have hall := crcAt_all s0 xs
          rw [hall]
          clear hall
          go_wp2
          go_round
          case rel => exact ⟨k + 1, by omega, by go_num, by rw [hsucc.out]⟩
          case measure => simp [intOf]; omega
    · obtain rfl : k = xss.length := by omega
      have hall : crcTo xss xss.length = crcL 4294967295 bs := by unfold crcTo; rw [upTo_all, Hbs.out]
      rw [hall] at hlt0 ⊢
      have hsum := Lib.hid (show bits .xor .u32 IntKind.u32.max (crcL 4294967295 bs : Int) = (sumOf bs : Int) from not_u32 _ hlt0)
      clear hall
      generalize crcL 4294967295 bs = s at *
      go_wp2
      go_ret
      exact ⟨by rw [hsum.out]; rfl, rfl⟩
end Go.Proofs.YtdpmfcifgimleaaGreatDoor

/-
  Plain mathematics of the check sum: digit by digit is four digits at a time; a byte that is another one has another sum. No Go here.
-/
namespace Go.Proofs.YtdpmfcifgimleaaGreatDoor

/-- one binary digit of the sum -/
def bit1 (s : Nat) : Nat := if s % 2 = 1 then s / 2 ^^^ 3988292384 else s / 2
def bitN : Nat → Nat → Nat
  | 0, s => s
  | n + 1, s => bitN n (bit1 s)
theorem xor_lt32 {a b : Nat} (ha : a < 4294967296) (hb : b < 4294967296) : a ^^^ b < 4294967296 := Nat.xor_lt_two_pow (n := 32) ha hb
theorem bit1_lt {s : Nat} (h : s < 4294967296) : bit1 s < 4294967296 := by
  unfold bit1
  split
  · exact xor_lt32 (by omega) (by omega)
  · omega
theorem bitN_lt : ∀ (n : Nat) {s : Nat}, s < 4294967296 → bitN n s < 4294967296
  | 0, _, h => h
  | n + 1, _, h => bitN_lt n (bit1_lt h)
theorem xor_half (a b : Nat) : (a ^^^ b) / 2 = a / 2 ^^^ b / 2 := Nat.xor_div_two_pow (n := 1)
theorem xor_odd (a b : Nat) : (a ^^^ b) % 2 = (a % 2) ^^^ (b % 2) := Nat.xor_mod_two_pow (n := 1)
/-- the step is the same on both parts of a sum without carries -/
theorem bit1_xor (a b : Nat) : bit1 (a ^^^ b) = bit1 a ^^^ bit1 b := by
  have ha : a % 2 = 0 ∨ a % 2 = 1 := by omega
  have hb : b % 2 = 0 ∨ b % 2 = 1 := by omega
  unfold bit1
  rw [xor_odd, xor_half]
  rcases ha with ha | ha <;> rcases hb with hb | hb <;> rw [ha, hb]
  · simp
  · simp [Nat.xor_assoc]
  · simp only [Nat.zero_ne_one, if_false, if_true]
    rw [show (1 ^^^ 0 : Nat) = 1 from rfl, if_pos rfl, Nat.xor_assoc, Nat.xor_comm (b / 2), ← Nat.xor_assoc]
  · rw [show (1 ^^^ 1 : Nat) = 0 from rfl, if_neg (by omega), if_pos rfl, if_pos rfl]
    have h : ∀ x y p : Nat, x ^^^ p ^^^ (y ^^^ p) = x ^^^ y := fun x y p => by
      rw [Nat.xor_assoc, ← Nat.xor_assoc p, Nat.xor_comm p y, Nat.xor_assoc y, Nat.xor_self, Nat.xor_zero]
    rw [h]
theorem bitN_xor : ∀ (n a b : Nat), bitN n (a ^^^ b) = bitN n a ^^^ bitN n b
  | 0, _, _ => rfl
  | n + 1, a, b => by unfold bitN; rw [bit1_xor, bitN_xor n]
theorem bit1_even (a : Nat) : bit1 (2 * a) = a := by unfold bit1; rw [if_neg (by omega)]; omega
theorem bitN_sixteen (a : Nat) : bitN 4 (16 * a) = a := by
  have h : ∀ x, bitN 4 x = bit1 (bit1 (bit1 (bit1 x))) := fun _ => rfl
  rw [h, show 16 * a = 2 * (2 * (2 * (2 * a))) by omega, bit1_even, bit1_even, bit1_even, bit1_even]
theorem bitN_low : ∀ i, i < 16 → bitN 4 i = tab i := by decide
theorem join16 (s : Nat) : s = 16 * (s / 16) ^^^ s % 16 := by
  have h : 16 * (s / 16) ||| s % 16 = 16 * (s / 16) + s % 16 := by
    have := Nat.two_pow_add_eq_or_of_lt (i := 4) (b := s % 16) (by omega) (s / 16)
    exact this.symm
  have h2 : 16 * (s / 16) &&& s % 16 = 0 := by
    apply Nat.eq_of_testBit_eq
    intro i
    rw [Nat.testBit_and, Nat.zero_testBit]
    by_cases hi : i < 4
    · have : (16 * (s / 16)).testBit i = false := by
        rw [show (16 : Nat) = 2 ^ 4 from rfl, Nat.testBit_two_pow_mul]
        simp; omega
      rw [this]; rfl
    · have : (s % 16).testBit i = false := Nat.testBit_lt_two_pow (by
        have : 2 ^ 4 ≤ 2 ^ i := Nat.pow_le_pow_right (by omega) (by omega)
        have h16 : (2 : Nat) ^ 4 = 16 := rfl
        omega)
      rw [this, Bool.and_false]
  apply Nat.eq_of_testBit_eq
  intro i
  have e := congrArg (·.testBit i) h
  have e2 := congrArg (·.testBit i) h2
  simp only [Nat.testBit_or, Nat.testBit_and, Nat.zero_testBit] at e e2
  rw [Nat.mul_comm 16, Nat.div_add_mod'] at e
  rw [Nat.testBit_xor, ← e]
  rw [Nat.mul_comm 16] at e2 ⊢
  generalize (s / 16 * 16).testBit i = x at *
  generalize (s % 16).testBit i = y at *
  cases x <;> cases y <;> simp_all
theorem bitN_nib (s : Nat) : bitN 4 s = nib s := by
  conv => lhs; rw [join16 s]
  rw [bitN_xor, bitN_sixteen, bitN_low _ (by omega)]; rfl
theorem bitN_add : ∀ (m n s : Nat), bitN (m + n) s = bitN n (bitN m s)
  | 0, n, s => by rw [Nat.zero_add]; rfl
  | m + 1, n, s => by rw [Nat.add_right_comm]; show bitN (m + n) (bit1 s) = _; rw [bitN_add m n]; rfl
theorem bitN_byte (s : Nat) : bitN 8 s = nib (nib s) := by rw [bitN_add 4 4, bitN_nib, bitN_nib]

theorem bitN_succ (n s : Nat) : bitN (n + 1) s = bit1 (bitN n s) := bitN_add n 1 s

/-! ### a byte that is another one has another sum -/
theorem tab_top0 : ∀ i, i < 16 → ∀ j, j < 16 → tab i / 268435456 = tab j / 268435456 → i = j := by decide
theorem tab_top (i j : Nat) (hi : i < 16) (hj : j < 16) (h : tab i / 268435456 = tab j / 268435456) : i = j := tab_top0 i hi j hj h
theorem xor_left_cancel {a b c : Nat} (h : a ^^^ c = b ^^^ c) : a = b := by
  have e := congrArg (· ^^^ c) h
  simpa [Nat.xor_assoc] using e
theorem xor_right_cancel {a b c : Nat} (h : c ^^^ a = c ^^^ b) : a = b := by rw [Nat.xor_comm c, Nat.xor_comm c] at h; exact xor_left_cancel h
theorem nib_inj {s t : Nat} (hs : s < 4294967296) (ht : t < 4294967296) (h : nib s = nib t) : s = t := by
  unfold nib at h
  have e := congrArg (· / 2 ^ 28) h
  simp only [Nat.xor_div_two_pow] at e
  have p : (2 : Nat) ^ 28 = 268435456 := rfl
  rw [p, Nat.div_eq_of_lt (show s / 16 < 268435456 by omega), Nat.div_eq_of_lt (show t / 16 < 268435456 by omega), Nat.zero_xor, Nat.zero_xor] at e
  have e2 := tab_top (s % 16) (t % 16) (by omega) (by omega) e
  rw [e2] at h
  have e3 := xor_left_cancel h
  omega
theorem crcB_inj_state {s t : Nat} {b : UInt8} (hs : s < 4294967296) (ht : t < 4294967296) (h : crcB s b = crcB t b) : s = t := by
  unfold crcB at h
  have e1 := nib_inj (nib_lt (xorb_lt hs b)) (nib_lt (xorb_lt ht b)) h
  have e2 := nib_inj (xorb_lt hs b) (xorb_lt ht b) e1
  exact xor_left_cancel e2
theorem crcB_inj_byte {s : Nat} {b c : UInt8} (hs : s < 4294967296) (h : crcB s b = crcB s c) : b = c := by
  unfold crcB at h
  have e1 := nib_inj (nib_lt (xorb_lt hs b)) (nib_lt (xorb_lt hs c)) h
  have e2 := nib_inj (xorb_lt hs b) (xorb_lt hs c) e1
  exact UInt8.toNat_inj.1 (xor_right_cancel e2)
theorem crcL_inj (bs : List UInt8) : ∀ {s t : Nat}, s < 4294967296 → t < 4294967296 → crcL s bs = crcL t bs → s = t := by
  induction bs with
  | nil => intro s t _ _ h; exact h
  | cons b r ih => intro s t hs ht h; exact crcB_inj_state hs ht (ih (crcB_lt hs b) (crcB_lt ht b) h)
theorem sum_ne (p : List UInt8) (b c : UInt8) (r : List UInt8) (h : b ≠ c) : sumOf (p ++ b :: r) ≠ sumOf (p ++ c :: r) := by
  intro e
  unfold sumOf at e
  have h0 : (4294967295 : Nat) < 4294967296 := by omega
  have l1 := crcL_lt (p ++ b :: r) h0
  have l2 := crcL_lt (p ++ c :: r) h0
  have e1 : crcL 4294967295 (p ++ b :: r) = crcL 4294967295 (p ++ c :: r) := by omega
  rw [crcL_append, crcL_append] at e1
  have lp := crcL_lt p h0
  exact h (crcB_inj_byte lp (crcL_inj r (crcB_lt lp b) (crcB_lt lp c) e1))
theorem sum_set_ne (bs : List UInt8) (j : Nat) (hj : j < bs.length) (c : UInt8) (h : bs[j] ≠ c) : sumOf (bs.set j c) ≠ sumOf bs := by
  have e1 : bs = bs.take j ++ bs[j] :: bs.drop (j + 1) := by rw [← List.drop_eq_getElem_cons hj, List.take_append_drop]
  have e2 : bs.set j c = bs.take j ++ c :: bs.drop (j + 1) := List.set_eq_take_append_cons_drop .. |>.trans (by rw [if_pos hj])
  rw [e2]
  conv => rhs; rw [e1]
  exact fun h' => sum_ne (bs.take j) bs[j] c (bs.drop (j + 1)) h h'.symm
end Go.Proofs.YtdpmfcifgimleaaGreatDoor

/-
  The contract of winnowerref1's Sum. No statement of the seat is proved here.
-/
namespace Go.Proofs.YtdpmfcifgimleaaGreatDoor
open Go Go.RowKit

theorem odd_step (s : Nat) (h : s < 4294967296) (ho : s % 2 = 1) : bits .and .u32 (s : Int) 1 = 1 ∧ bits .xor .u32 ((s : Int) / 2) 3988292384 = (bit1 s : Int) := by
  constructor
  · have h2 := u32_and_nat s 1 h (by omega)
    rw [nat_mask1, ho] at h2
    exact h2
  · have h2 := u32_xor_nat (s / 2) 3988292384 (by omega) (by omega)
    rw [Int.natCast_ediv] at h2
    rw [show bit1 s = s / 2 ^^^ 3988292384 by unfold bit1; rw [if_pos ho]]
    exact h2
theorem even_step (s : Nat) (h : s < 4294967296) (ho : ¬ s % 2 = 1) : bits .and .u32 (s : Int) 1 = 0 ∧ (s : Int) / 2 = (bit1 s : Int) := by
  constructor
  · have h2 := u32_and_nat s 1 h (by omega)
    rw [nat_mask1, show s % 2 = 0 by omega] at h2
    exact h2
  · rw [show bit1 s = s / 2 by unfold bit1; rw [if_neg ho]]; omega

set_option maxRecDepth 100000 in
set_option maxHeartbeats 2000000 in
theorem refsum_any (A : Option Addr) (n c : Nat) (xs : List UInt8) (w : World) (hn : n = xs.length) (hr : Rd w A (xs.map bv)) (hb : xs.length ≤ 1099511627776) :
    Calls Tryz.prog 110 #[.slice A n c] w fun e w' => e = .returned (.int .u32 (sumOf xs : Int)) ∧ w = w' := by
  subst hn
  have hsg : IntKind.u32.signed = false := rfl
  go_enter Tryz.func110, Tryz.ntmps110
  go_wp2
  go_loop [3, 4] (fun s i => ∃ j : Nat, j ≤ xs.length ∧ i = .int .i64 (j : Int) ∧ s = .int .u32 (crcAt 4294967295 xs j : Int)) (fun _ i => xs.length - (intOf i).toNat)
  case atStart => exact ⟨0, Nat.zero_le _, rfl, rfl⟩
  case round =>
    obtain ⟨j, hj, rfl, rfl⟩ := hrel
    have hS : crcAt 4294967295 xs j < 4294967296 := crcL_lt _ (by omega)
    by_cases hjl : j < xs.length
    · obtain ⟨a1, rfl, hc1⟩ := hr.at_ (k := j) (by simpa using hjl)
      simp only [List.getElem_map, bv] at hc1
      have hnext := Lib.hid (crcAt_succ 4294967295 xs j hjl)
      generalize crcAt 4294967295 xs j = S at *
      generalize xs[j] = b at *
      obtain ⟨s1, e1, f1, l1⟩ := xor_step S hS b
      have hfin := Lib.hid (show crcB S b = bitN 8 s1 by rw [bitN_byte, f1]; rfl)
      clear f1
      go_wp2
      go_loop [3, 5] (fun s i => ∃ k : Nat, k ≤ 8 ∧ i = .int .i64 (k : Int) ∧ s = .int .u32 (bitN k s1 : Int)) (fun _ i => 8 - (intOf i).toNat)
      case atStart => exact ⟨0, Nat.zero_le _, rfl, rfl⟩
      case round =>
        obtain ⟨k, hk, rfl, rfl⟩ := hrel
        by_cases hkl : k < 8
        · have hl := bitN_lt k l1
          have hsucc := Lib.hid (bitN_succ k s1)
          generalize bitN k s1 = t at *
          by_cases ho : t % 2 = 1
          · obtain ⟨q1, q2⟩ := odd_step t hl ho
            obtain ⟨t2, ht2⟩ : ∃ t2, t2 = bit1 t := ⟨_, rfl⟩
            rw [← ht2] at q2
            have Ht2 := Lib.hid ht2
            clear ht2 ho
            go_wp2
            go_round
            case rel => exact ⟨k + 1, by omega, by go_num, by rw [hsucc.out, ← Ht2.out]⟩
            case measure => simp [intOf]; omega
          · obtain ⟨q1, q2⟩ := even_step t hl ho
            obtain ⟨t2, ht2⟩ : ∃ t2, t2 = bit1 t := ⟨_, rfl⟩
            rw [← ht2] at q2
            have Ht2 := Lib.hid ht2
            clear ht2 ho
            go_wp2
            go_round
            case rel => exact ⟨k + 1, by omega, by go_num, by rw [hsucc.out, ← Ht2.out]⟩
            case measure => simp [intOf]; omega
        · obtain rfl : k = 8 := by omega
          go_wp2
          go_round
          case rel => exact ⟨j + 1, by omega, by go_num, by rw [hnext.out, hfin.out]⟩
          case measure => simp [intOf]; omega
    · obtain rfl : j = xs.length := by omega
      have hall := crcAt_all 4294967295 xs
      rw [hall] at hS ⊢
      have hsum := Lib.hid (show bits .xor .u32 IntKind.u32.max (crcL 4294967295 xs : Int) = (sumOf xs : Int) from not_u32 _ hS)
      clear hall
      generalize crcL 4294967295 xs = s at *
      go_wp2
      go_ret
      exact ⟨by rw [hsum.out]; rfl, rfl⟩
end Go.Proofs.YtdpmfcifgimleaaGreatDoor

/-
  The contracts of super's lowFirst and fromLow, of the reference's eight, Four and FromFour. No statement of the seat is proved here.
-/
namespace Go.Proofs.YtdpmfcifgimleaaGreatDoor
open Go Go.RowKit

theorem make_b (W : World) (t : Nat) (h : t ≤ 1099511627776) : (Instr.makeSlice 57 (.int .i64 (t : Int)) (.int .i64 (t : Int))).run Tryz.prog W =
    .ok (.slice (some ⟨W.heap.size, 0, none⟩) t t) (W.alloc (.cells (madeCells #[.int .u8 0] (t * 1)) 5)) := by
  obtain ⟨i, hi, hz, hsz, hby⟩ := info_parts info_u8
  have hr := run_make (P := Tryz.prog) W 57 5 i _ Tryz.underlying57 hi hz .i64 .i64 (t : Int) (t : Int) (by omega) (by omega) (by rw [hby]; omega) (by omega)
  simp only [Int.toNat_natCast, hsz] at hr
  exact hr
theorem made_zeros (t : Nat) : madeCells #[Value.int .u8 0] (t * 1) = ((List.replicate t (0 : UInt8)).map bv).toArray := by
  apply Array.ext
  · simp [madeCells]
  · intro i h1 h2
    simp [madeCells, bv, Nat.mod_one]

theorem made_zeros' (t : Nat) : madeCells #[Value.int .u8 0] t = ((List.replicate t (0 : UInt8)).map bv).toArray := by
  have := made_zeros t
  rw [Nat.mul_one] at this
  exact this

theorem New.of_blk {w w' : World} {g : Nat} {bs : List UInt8} (h : Blk w' g 5 (bs.map bv).toArray) (hg : w.heap.size ≤ g) (hm : bs.length ≤ maxLen) : New w w' (some ⟨g, 0, none⟩) bs.length bs := by
  refine ⟨⟨by simp, .inr ⟨g, bs.length, (bs.map bv).toArray, by simp, Nat.zero_le _, h, by simp, hm, by simp, ?_⟩⟩, fun ad e => by injection e with e; subst e; exact ⟨hg, h.lt⟩⟩
  rw [List.length_map, Nat.mul_one, List.take_of_length_le (by simp)]

theorem low_cast (n j : Nat) : Value.int .u8 ((n : Int) / 2 ^ (8 * j) % 256) = bv (n / 256 ^ j).toUInt8 := by
  unfold bv
  rw [toUInt8_toNat]
  congr 1
  have e : (256 : Nat) ^ j = 2 ^ (8 * j) := by rw [show (256 : Nat) = 2 ^ 8 from rfl, ← Nat.pow_mul]
  rw [e, Int.natCast_emod, Int.natCast_ediv, Int.natCast_pow]
  rfl
theorem set_mid (a : List UInt8) (m : Nat) (hm : 0 < m) (y : UInt8) : (((a ++ List.replicate m 0).map bv).toArray).setIfInBounds a.length (bv y) = (((a ++ [y]) ++ List.replicate (m - 1) 0).map bv).toArray := by
  obtain ⟨m, rfl⟩ : ∃ k, m = k + 1 := ⟨m - 1, by omega⟩
  rw [List.setIfInBounds_toArray, List.map_append, List.replicate_succ]
  congr 1
  simp

set_option maxHeartbeats 1000000 in
theorem lowfirst_any (n k : Nat) (w : World) (hn : n < 9223372036854775808) (hk : k ≤ 8) :
    Calls Tryz.prog 193 #[.int .i64 (n : Int), .int .i64 (k : Int)] w fun e w' => ∃ A' c', e = .returned (.slice A' k c') ∧ New w w' A' c' (lowB k n) ∧ Below w.heap.size w w' := by
  have hmk := fun W => make_b W k (by omega)
  go_enter Tryz.func193, Tryz.ntmps193
  go_wp2
  go_loopw [6, 11] (fun _ i wr => ∃ j : Nat, j ≤ k ∧ i = .int .i64 (j : Int) ∧ Below w.heap.size w wr ∧ Blk wr w.heap.size 5 ((lowB j n ++ List.replicate (k - j) 0).map bv).toArray) (fun _ i _ => k - (intOf i).toNat)
  case atStart =>
    refine ⟨0, Nat.zero_le _, rfl, (Below.refl _ _).alloc (Nat.le_refl _) _, ?_⟩
    have := Blk.new w 5 (madeCells #[.int .u8 0] k)
    rw [made_zeros'] at this ⊢
    exact this
  case round =>
    obtain ⟨j, hj, rfl, hb, hblk⟩ := hrel
    by_cases hlt : j < k
    · have hf := hblk.free j
      have hc : wr.cell? ⟨w.heap.size, j, none⟩ = some (.int .u8 0) := by
        rw [hblk.cell]
        have hl := lowB_length j n
        rw [List.getElem?_toArray, List.getElem?_map, List.getElem?_append_right (by omega), hl, Nat.sub_self, List.getElem?_replicate, if_pos (by omega)]
        rfl
      have hji : (j : Int) < (k : Int) := by omega
      have hval := Lib.hid (low_cast n j)
      have hset := set_mid (lowB j n) (k - j) (by omega) (n / 256 ^ j).toUInt8
      rw [lowB_length, ← lowB_succ, Nat.sub_sub] at hset
      have Hset := Lib.hid hset
      clear hset
      go_wp2
      go_roundw
      case rel =>
        refine ⟨j + 1, by omega, by go_num, hb.setCell (by simp) _, ?_⟩
        rw [hval.out, ← Hset.out]
        exact hblk.put j _
      case measure => simp [intOf]; omega
    · obtain rfl : j = k := by omega
      go_wp2
      go_ret
      rw [Nat.sub_self, List.replicate_zero, List.append_nil] at hblk
      have := New.of_blk (w := w) hblk (Nat.le_refl _) (by rw [lowB_length]; unfold maxLen; omega)
      rw [lowB_length] at this
      exact ⟨_, _, rfl, this, hb⟩

/-- one byte more of a number, the lowest first -/
theorem low_step (b : UInt8) (k N : Nat) (hk : k < 8) (hN : N < 256 ^ k) : ∃ s N' : Nat, IntKind.u64.wrap ((b.toNat : Int) * 2 ^ (8 * k)) = (s : Int) ∧ bits .or .u64 (N : Int) (s : Int) = (N' : Int) ∧ N' = N + b.toNat * 256 ^ k ∧ (N' : Int) ≤ 18446744073709551615 := by
  have hb := b.toNat_lt
  have e : (256 : Nat) ^ k = 2 ^ (8 * k) := by rw [show (256 : Nat) = 2 ^ 8 from rfl, ← Nat.pow_mul]
  have hm : b.toNat * 256 ^ k ≤ 255 * 256 ^ k := Nat.mul_le_mul_right _ (by omega)
  have h7 : (256 : Nat) ^ k ≤ 256 ^ 7 := Nat.pow_le_pow_right (by omega) (by omega)
  have h7' : (256 : Nat) ^ 7 = 72057594037927936 := rfl
  have hor : (N ||| b.toNat * 256 ^ k) = N + b.toNat * 256 ^ k := by
    rw [Nat.or_comm, Nat.add_comm, e, Nat.mul_comm]
    exact (Nat.two_pow_add_eq_or_of_lt (by rw [← e]; exact hN) _).symm
  refine ⟨b.toNat * 256 ^ k, N + b.toNat * 256 ^ k, ?_, ?_, rfl, by omega⟩
  · have e2 : (b.toNat : Int) * 2 ^ (8 * k) = ((b.toNat * 256 ^ k : Nat) : Int) := by
      rw [e, Int.natCast_mul, Int.natCast_pow]; rfl
    rw [e2, IntKind.wrap_u64]
    omega
  · show IntKind.u64.wrap ((BitVec.ofInt 64 (N : Int) ||| BitVec.ofInt 64 ((b.toNat * 256 ^ k : Nat) : Int)).toNat : Int) = _
    have o : ∀ a : Nat, a < 18446744073709551616 → (BitVec.ofInt 64 (a : Int)).toNat = a := fun a ha => by simp [BitVec.toNat_ofInt]; omega
    rw [BitVec.toNat_or, o N (by omega), o _ (by omega), hor, IntKind.wrap_u64]
    omega

set_option maxHeartbeats 1000000 in
theorem fromlow_any (A : Option Addr) (n c : Nat) (bs : List UInt8) (w : World) (hn : n = bs.length) (hr : Rd w A (bs.map bv)) (h8 : bs.length ≤ 8) :
    Calls Tryz.prog 152 #[.slice A n c] w fun e w' => e = .returned (.int .u64 (ofLow bs : Int)) ∧ w = w' := by
  subst hn
  go_enter Tryz.func152, Tryz.ntmps152
  go_wp2
  go_loop [3, 8] (fun s i => ∃ k N : Nat, k ≤ bs.length ∧ i = .int .i64 (k : Int) ∧ s = .int .u64 (N : Int) ∧ N = ofLow (bs.take k)) (fun _ i => bs.length - (intOf i).toNat)
  case atStart => exact ⟨0, 0, Nat.zero_le _, rfl, rfl, rfl⟩
  case round =>
    obtain ⟨k, N, hk, rfl, rfl, hN⟩ := hrel
    by_cases hlt : k < bs.length
    · obtain ⟨ad, rfl, hc1⟩ := hr.at_ (k := k) (by simpa using hlt)
      simp only [List.getElem_map, bv] at hc1
      have hsucc := ofLow_take_succ bs k hlt
      rw [← hN] at hsucc
      have hlN : N < 256 ^ k := by rw [hN]; exact ofLow_lt_of (by simp; omega)
      obtain ⟨s, N', e1, e2, e3, e4⟩ := low_step bs[k] k N (by omega) hlN
      rw [← e3] at hsucc
      have Hsucc := Lib.hid hsucc
      have HN := Lib.hid hN
      clear hsucc hN e3 hlN
      have hb255 : (bs[k].toNat : Int) ≤ 255 := by have := bs[k].toNat_lt; omega
      generalize bs[k] = b at *
      go_wp2
      go_round
      case rel => exact ⟨k + 1, N', by omega, by go_num, rfl, Hsucc.out.symm⟩
      case measure => simp [intOf]; omega
    · obtain rfl : k = bs.length := by omega
      rw [List.take_length] at hN
      subst hN
      go_wp2
      go_ret
      exact ⟨rfl, rfl⟩

/-! ### the reference's eight, Four, FromFour -/
set_option maxHeartbeats 1000000 in
theorem eight_any (n : Nat) (w : World) (hn : n < 9223372036854775808) :
    Calls Tryz.prog 140 #[.int .i64 (n : Int)] w fun e w' => ∃ A' c', e = .returned (.slice A' 8 c') ∧ New w w' A' c' (lowB 8 n) ∧ Below w.heap.size w w' := by
  go_enter Tryz.func140, Tryz.ntmps140
  go_wp2
  go_loopw [3, 4] (fun s i wr => ∃ (j : Nat) (A : Option Addr) (c : Nat), j ≤ 8 ∧ i = .int .i64 (j : Int) ∧ s = .slice A j c ∧ New w wr A c (lowB j n) ∧ Below w.heap.size w wr) (fun _ i _ => 8 - (intOf i).toNat)
  case atStart => exact ⟨0, none, 0, by omega, rfl, rfl, Own.none_ _ _ _, Below.refl _ _⟩
  case round =>
    obtain ⟨j, A, c, hj, rfl, rfl, hnew, hb⟩ := hrel
    by_cases hlt : j < 8
    · have hval := Lib.hid (low_cast n j)
      have hsucc := Lib.hid (lowB_succ j n)
      have hl := Lib.hid (show j = ((lowB j n).map bv).length by rw [List.length_map, lowB_length])
      have hk1 : j + 1 ≤ maxLen := by unfold maxLen; omega
      have hk2 : (j + 1) * 1 ≤ 140737488355328 := by omega
      go_wp2_with (at_builtin
                   refine wpList_app _ rfl (.tmp 9) (.tmp 16) _ rfl _ _ 1 Tryz.underlying57 info_u8 rfl A j c _ rfl hl.out (hnew.alloc _) (some ⟨wr.heap.size, 0, none⟩) 1 1 ([(n / 256 ^ j).toUInt8].map bv) rfl rfl ?_ (bvs_one _) hk1 hk2 ?_
                   · (show Rd _ _ [bv _]; rw [← hval.out]; exact Rd.lit _ #[_] _)
                   intro A2 c2 w2 hown2 honly2)
      go_roundw
      case rel =>
        obtain ⟨g1, g2⟩ := New.grow1 hb hown2 honly2
        exact ⟨j + 1, A2, c2, by omega, by go_num, rfl, by rw [hsucc.out]; exact g1, g2⟩
      case measure => simp [intOf]; omega
    · obtain rfl : j = 8 := by omega
      go_wp2
      go_ret
      exact ⟨A, c, rfl, hnew, hb⟩

theorem four_get (n : Nat) (hn : n < 4294967296) : ((lowB 4 n).map bv).toArray = #[.int .u8 ((n : Int) % 256), .int .u8 ((n : Int) / 256 % 256), .int .u8 ((n : Int) / 65536 % 256), .int .u8 ((n : Int) / 16777216)] := by
  have h := low_cast n
  have e : lowB 4 n = [(n / 256 ^ 0).toUInt8, (n / 256 ^ 1).toUInt8, (n / 256 ^ 2).toUInt8, (n / 256 ^ 3).toUInt8] := rfl
  rw [e]
  simp only [List.map_cons, List.map_nil]
  rw [← h 0, ← h 1, ← h 2, ← h 3, show (n : Int) / 16777216 = (n : Int) / 2 ^ (8 * 3) % 256 by omega]
  simp
theorem four_any (n : Nat) (w : World) (hn : n < 4294967296) :
    Calls Tryz.prog 141 #[.int .u32 (n : Int)] w fun e w' => ∃ A' c', e = .returned (.slice A' 4 c') ∧ New w w' A' c' (lowB 4 n) ∧ Below w.heap.size w w' := by
  have hg := Lib.hid (four_get n hn)
  go_enter Tryz.func141, Tryz.ntmps141
  go_wp2
  go_ret
  have hb : Below w.heap.size w (w.alloc (.cells ((lowB 4 n).map bv).toArray 5)) := (Below.refl _ _).alloc (Nat.le_refl _) _
  have hn' : New w (w.alloc (.cells ((lowB 4 n).map bv).toArray 5)) (some ⟨w.heap.size, 0, none⟩) 4 (lowB 4 n) := by
    have := New.of_blk (w := w) (Blk.new w 5 ((lowB 4 n).map bv).toArray) (Nat.le_refl _) (by rw [lowB_length]; unfold maxLen; omega)
    rw [lowB_length] at this
    exact this
  rw [hg.out] at hb hn'
  exact ⟨_, _, rfl, hn', hb⟩
end Go.Proofs.YtdpmfcifgimleaaGreatDoor

/-
  Rows of elements of many cells that lie anywhere in a block of the call's own ('RowO'), append onto them, and stores of many cells. No statement of the seat is proved here.
-/
namespace Go.Proofs.YtdpmfcifgimleaaGreatDoor
open Go Go.RowKit

/-- the block of an address -/
def inA (A : Option Addr) (k : Nat) : Prop := ∃ ad, A = some ad ∧ ad.block = k
theorem inA_none (k : Nat) : ¬ inA none k := fun ⟨_, h, _⟩ => by cases h
theorem inA_some (g o k : Nat) (s : Option Nat) : inA (some ⟨g, o, s⟩) k ↔ g = k := ⟨fun ⟨_, h, e⟩ => by injection h with h; subst h; exact e, fun e => ⟨_, rfl, e⟩⟩

/-! ### Only: stores of many cells -/
section
variable {S T : Nat → Prop} {a w w' : World}
theorem Only.setCells (h : Only S a w) {b : Nat} (hb : S b ∨ a.heap.size ≤ b) : ∀ (vs : List Value) (o : Nat), Only S a (w.setCells b o vs) := by
  intro vs
  induction vs generalizing w with
  | nil => intro o; exact h
  | cons v r ih => intro o; exact ih (h.setCell (p := ⟨b, o, none⟩) hb v) (o + 1)
theorem Blk.setCells_far {g : Nat} {t : TypeId} {cs : Array Value} {b : Nat} (hn : g ≠ b) : ∀ (vs : List Value) (o : Nat) {w : World}, Blk w g t cs → Blk (w.setCells b o vs) g t cs
  | [], _, _, h => h
  | v :: r, o, w, h => Blk.setCells_far hn r (o + 1) (h.far (p := ⟨b, o, none⟩) hn v)
theorem Blk.setCells {g : Nat} {t : TypeId} : ∀ (vs : List Value) (o : Nat) {w : World} {cs : Array Value}, Blk w g t cs → o + vs.length ≤ cs.size →
    ∃ cs', Blk (w.setCells g o vs) g t cs' ∧ cs'.size = cs.size ∧ (∀ j u, vs[j]? = some u → cs'[o + j]? = some u) ∧ ∀ k, (k < o ∨ o + vs.length ≤ k) → cs'[k]? = cs[k]?
  | [], o, w, cs, h, _ => ⟨cs, h, rfl, fun j u hu => by simp at hu, fun _ _ => rfl⟩
  | v :: r, o, w, cs, h, hl => by
    simp only [List.length_cons] at hl
    obtain ⟨cs', h1, h2, h3, h4⟩ := Blk.setCells r (o + 1) (h.put o v) (by simp; omega)
    refine ⟨cs', h1, by simpa using h2, fun j u hu => ?_, fun k hk => ?_⟩
    · rcases j with _ | j
      · simp at hu
        subst hu
        rw [h4 (o + 0) (.inl (by omega))]
        simp [show o < cs.size by omega]
      · have := h3 j u (by simpa using hu)
        rwa [show o + 1 + j = o + (j + 1) by omega] at this
    · simp only [List.length_cons] at hk
      rw [h4 k (by omega), Array.getElem?_setIfInBounds]
      split
      · omega
      · rfl
end

/-- a whole block anew -/
theorem Blk.whole {g : Nat} {t : TypeId} {w : World} {cs : Array Value} (h : Blk w g t cs) (vs : List Value) (hl : vs.length = cs.size) : Blk (w.setCells g 0 vs) g t vs.toArray := by
  obtain ⟨cs', h1, h2, h3, _⟩ := Blk.setCells vs 0 h (by omega)
  have : cs' = vs.toArray := by
    apply Array.ext_getElem?
    intro k
    rcases Nat.lt_or_ge k vs.length with hk | hk
    · have := h3 k vs[k] (List.getElem?_eq_getElem hk)
      rw [Nat.zero_add] at this
      rw [this]; simp [hk]
    · rw [Array.getElem?_eq_none (by omega), Array.getElem?_eq_none (by simpa using hk)]
  rw [← this]
  exact h1
theorem Blk.there {g : Nat} {t : TypeId} {w : World} {cs : Array Value} (h : Blk w g t cs) (o n : Nat) (hl : o + n ≤ cs.size) : w.there g o n := fun j hj => ⟨by rw [h.cell]; simp; omega, h.free _⟩
theorem below_setCells {B : Nat} {a : World} {b : Nat} (hb : B ≤ b) : ∀ (vs : List Value) (o : Nat) {w : World}, Below B a w → Below B a (w.setCells b o vs)
  | [], _, _, h => h
  | v :: r, o, w, h => below_setCells hb r (o + 1) (w := w.setCell ⟨b, o, none⟩ v) ⟨h.os, h.tape, h.output, by simpa [World.setCell] using h.size, fun i hi => (Below.heap_setCell w ⟨b, o, none⟩ v i (by show i ≠ b; omega)).trans (h.block i hi)⟩

/-! ### A row anywhere in a block -/
def RowO (w : World) (e : TypeId) (sz : Nat) (A : Option Addr) (m c : Nat) (xs : List Value) : Prop :=
  xs.length = m * sz ∧ ((A = none ∧ m = 0 ∧ c = 0) ∨ ∃ g off cs, A = some ⟨g, off, none⟩ ∧ m ≤ c ∧ c ≤ maxLen ∧ Blk w g e cs ∧ off + c * sz ≤ cs.size ∧ ∀ j u, xs[j]? = some u → cs[off + j]? = some u)

section
variable {S : Nat → Prop} {w w' : World} {e : TypeId} {sz : Nat} {A : Option Addr} {m c : Nat} {xs : List Value}
theorem RowO.none_ (w : World) (e : TypeId) (sz : Nat) : RowO w e sz none 0 0 [] := ⟨by simp, .inl ⟨rfl, rfl, rfl⟩⟩
theorem RowO.rd (h : RowO w e sz A m c xs) : Rd w A xs := by
  rcases h.2 with ⟨rfl, rfl, rfl⟩ | ⟨g, off, cs, rfl, _, _, hb, _, hc⟩
  · have : xs = [] := List.eq_nil_of_length_eq_zero (by simpa using h.1)
    subst this
    exact Rd.nil _ _
  · exact fun j u hu => ⟨_, rfl, by rw [Addr.add_mid, hb.cell]; exact hc j u hu⟩
theorem RowO.lt (h : RowO w e sz A m c xs) {k : Nat} (hk : inA A k) : k < w.heap.size := by
  rcases h.2 with ⟨rfl, _⟩ | ⟨g, off, cs, rfl, _, _, hb, _⟩
  · exact absurd hk (inA_none k)
  · rw [inA_some] at hk; subst hk; exact hb.lt
theorem RowO.keep (h : RowO w e sz A m c xs) (hk : ∀ k, inA A k → w'.heap[k]? = w.heap[k]?) : RowO w' e sz A m c xs := by
  refine ⟨h.1, ?_⟩
  rcases h.2 with h1 | ⟨g, off, cs, rfl, h1, h2, hb, h3⟩
  · exact .inl h1
  · exact .inr ⟨g, off, cs, rfl, h1, h2, (hk g ((inA_some _ _ _ _).2 rfl)).trans hb, h3⟩
theorem RowO.only (h : RowO w e sz A m c xs) (ho : Only S w w') (hn : ∀ k, inA A k → ¬ S k) : RowO w' e sz A m c xs := h.keep fun k hk => ho.block k (h.lt hk) (hn k hk)
theorem RowO.ext (h : RowO w e sz A m c xs) (hb : Below w.heap.size w w') : RowO w' e sz A m c xs := h.keep fun k hk => hb.block k (h.lt hk)
theorem RowO.alloc (h : RowO w e sz A m c xs) (o : Obj) : RowO (w.alloc o) e sz A m c xs := h.ext ((Below.refl _ _).alloc (Nat.le_refl _) o)
theorem RowO.drew (h : RowO w e sz A m c xs) : RowO w.drew e sz A m c xs := h
theorem RowO.drewN (h : RowO w e sz A m c xs) (n : Nat) : RowO (w.drewN n) e sz A m c xs := h
theorem RowO.le (h : RowO w e sz A m c xs) : m ≤ c := by
  rcases h.2 with ⟨_, h1, h2⟩ | ⟨_, _, _, _, h1, _⟩ <;> omega
theorem RowO.ne_blk {g : Nat} {t : TypeId} {cs : Array Value} (h : RowO w e sz A m c xs) (hb : Blk w g t cs) (ht : e ≠ t) : ¬ inA A g := by
  intro hk
  rcases h.2 with ⟨rfl, _⟩ | ⟨g', off, cs', rfl, _, _, hb', _⟩
  · exact inA_none _ hk
  · rw [inA_some] at hk
    subst hk
    unfold Blk at hb hb'
    rw [hb] at hb'
    injection hb' with hb'
    injection hb' with _ ht'
    exact ht ht'.symm
theorem RowO.lit (w : World) (e : TypeId) (sz m : Nat) (cs : Array Value) (hs : cs.size = m * sz) (hm : m ≤ maxLen) {g : Nat} (hg : g = w.heap.size) : RowO (w.alloc (.cells cs e)) e sz (some ⟨g, 0, none⟩) m m cs.toList := by
  subst hg
  exact ⟨by simpa using hs, .inr ⟨_, 0, cs, rfl, Nat.le_refl _, hm, Blk.new w e cs, by omega, fun j u hu => by simpa using hu⟩⟩
/-- the first elements alone -/
theorem RowO.sub (h : RowO w e sz A m c xs) {n : Nat} {ys : List Value} (hn : n ≤ m) (hl : ys.length = n * sz) (hp : ∀ (j : Nat) (u : Value), ys[j]? = some u → xs[j]? = some u) : RowO w e sz A n c ys := by
  refine ⟨hl, ?_⟩
  rcases h.2 with ⟨h1, h2, h3⟩ | ⟨g, off, cs, h1, h2, h3, h4, h5, h6⟩
  · exact .inl ⟨h1, by omega, h3⟩
  · exact .inr ⟨g, off, cs, h1, by omega, h3, h4, h5, fun j u hu => h6 j u (hp j u hu)⟩
end

/-! ### append -/
section
variable {P : Program} (w : World)
theorem run_appO (t ty e : TypeId) (z : Value) (sz bytes : Nat) (ht : P.underlying t = some (.slice e)) (hi : (P.info? e).map (fun i => (i.zero, i.size, i.bytes)) = some (some z, sz, bytes)) (hzs : z.cells.size = sz)
    (A : Option Addr) (n c : Nat) (xs : List Value) (hown : RowO w e sz A n c xs) (A2 : Option Addr) (m c2 : Nat) (news : List Value) (hm : news.length = m * sz) (hr : Rd w A2 news) (h1 : ∀ u ∈ news, u.oneCell' = true) (h0 : A2 = none → m = 0)
    (h63 : n + m ≤ maxLen) (hbytes : (n + m) * bytes ≤ 140737488355328) :
    ∃ A' c' w', (Builtin.append_ #[t, t] ty #[.slice A n c, .slice A2 m c2]).run P w = .ok (.slice A' (n + m) c') w' ∧ RowO w' e sz A' (n + m) c' (xs ++ news) ∧ Only (inA A) w w' ∧ (∀ k, inA A' k → inA A k ∨ (w.heap.size ≤ k ∧ k < w'.heap.size)) := by
  obtain ⟨i, hinf, hz, hsz, hby⟩ := info_parts hi
  clear hi
  subst hsz hby
  have hsmall : n + m ≤ 9223372036854775807 := by simp only [maxLen] at h63; omega
  have src : Src P i.size t (.slice A2 m c2) m news w := by
    rcases A2 with _ | ad
    · obtain rfl := h0 rfl
      have hnil : news = [] := List.eq_nil_of_length_eq_zero (by simpa using hm)
      subst hnil
      exact Src.ofNil w ht c2
    · exact Src.ofSlice w ht ad m c2 news hm (fun j u hu => by
        obtain ⟨ad', h, hc⟩ := hr j u hu
        injection h with h
        subst h
        exact hc) h1
  have hlen : (xs ++ news).length = (n + m) * i.size := by rw [List.length_append, hown.1, hm, Nat.add_mul]
  by_cases hroom : n + m ≤ c
  · rcases hown.2 with ⟨rfl, rfl, rfl⟩ | ⟨g, off, cs, rfl, hnc, hcm, hb, hsize, hcell⟩
    · have hn0 : m = 0 := by omega
      subst hn0
      have hnil : news = [] := List.eq_nil_of_length_eq_zero (by simpa using hm)
      subst hnil
      refine ⟨none, 0, w, ?_, by rw [List.append_nil]; exact hown, Only.refl _ _, fun k hk => .inl hk⟩
      have hl := src.len w
      have hcl := src.cells
      have hl' : Builtin.lenOf (.slice A2 0 c2) = pure 0 := rfl
      rw [Nat.add_zero]
      unfold Builtin.append_
      simp [run_underlying ht, sizeOf, typeInfo, hinf, hl', hcl]
    · have hfit : off + n * i.size + news.length ≤ cs.size := by
        have h2 : (n + m) * i.size ≤ c * i.size := Nat.mul_le_mul_right _ hroom
        rw [Nat.add_mul] at h2
        omega
      have hcs : ∀ j, j < news.length → (w.cell? ⟨g, off + n * i.size + j, none⟩).isSome = true := fun j hj => by
        rw [hb.cell]; simp; omega
      have hfr : ∀ j, j < news.length → w.frozen? ⟨g, off + n * i.size + j, none⟩ = false := fun j _ => hb.free _
      have hrun := run_append_room_src (P := P) w t t ty e i ht hinf g off n c (.slice A2 m c2) m news src hroom hcs hfr
      obtain ⟨cs', hb', hs', hin, hout⟩ := Blk.setCells news (off + n * i.size) hb hfit
      refine ⟨_, _, _, hrun, ⟨hlen, .inr ⟨g, off, cs', rfl, hroom, hcm, hb', by omega, fun j u hu => ?_⟩⟩, (Only.refl _ w).setCells (.inl ((inA_some _ _ _ _).2 rfl)) _ _, fun k hk => .inl hk⟩
      rw [List.getElem?_append] at hu
      split at hu
      · rename_i hj
        rw [hown.1] at hj
        rw [hout (off + j) (.inl (by omega))]
        exact hcell j u hu
      · rename_i hj
        have := hin _ u hu
        rw [hown.1] at hj this
        rwa [show off + n * i.size + (j - n * i.size) = off + j by omega] at this
  · have hold : (Builtin.firstCells i.size n (.slice A n c)).run P w.drew = .ok xs.toArray w.drew := by
      rcases hown.2 with ⟨rfl, rfl, rfl⟩ | ⟨g, off, cs, rfl, hnc, hcm, hb, hsize, hcell⟩
      · have hnil : xs = [] := List.eq_nil_of_length_eq_zero (by simpa using hown.1)
        subst hnil
        exact run_firstCells_none w.drew i.size 0 0 0
      · refine run_firstCells_some w.drew i.size n ⟨g, off, none⟩ n c xs hown.1 (fun j u hu => ?_)
        rw [Addr.add_mid, (Blk.drew hb).cell]
        exact hcell j u hu
    have hrun := run_append_grow_src (P := P) w t t ty e i z ht hinf hz A n c xs hold (.slice A2 m c2) m news src (by omega) (by omega) (growslice_fits (by omega) hbytes)
    have hge := grownCap_ge w (n + m) c e
    have hcm : grownCap w (n + m) c e ≤ maxLen := grownCap_le_maxLen w (n + m) c e h63
    refine ⟨_, _, _, hrun, ⟨hlen, .inr ⟨w.heap.size, 0, _, rfl, hge, hcm, heap_alloc_new w.drew _, ?_, fun j u hu => ?_⟩⟩, ((Only.refl _ w).drew).alloc _, fun k hk => .inr ?_⟩
    · simp only [Array.size_append, List.size_toArray, size_zeroCells, hzs, hlen, ← Nat.add_mul]
      rw [Nat.zero_add]
      exact Nat.le_of_eq (congrArg (· * i.size) (by omega))
    · have hj := (List.getElem?_eq_some_iff.1 hu).1
      rw [Nat.zero_add, Array.getElem?_append_left (by simpa using hj)]
      simpa using hu
    · rw [inA_some] at hk
      subst hk
      simp

theorem wp_appO {o : Oper} {a : Act} {K : Act → World → Prop} {Q : Exit → Act → World → Prop} (s x : Operand) (t : TypeId)
    (ho : o.op = .call { callee := .builtin .append, args := #[s, x], argTypes := #[t, t] })
    (e : TypeId) (z : Value) (sz bytes : Nat) (ht : P.underlying t = some (.slice e)) (hi : (P.info? e).map (fun i => (i.zero, i.size, i.bytes)) = some (some z, sz, bytes)) (hzs : z.cells.size = sz)
    (A : Option Addr) (n c : Nat) (xs : List Value) (hs : a.eval s = .slice A n c) (hown : RowO w e sz A n c xs)
    (A2 : Option Addr) (m c2 : Nat) (news : List Value) (hx : a.eval x = .slice A2 m c2) (hm : news.length = m * sz) (hr : Rd w A2 news) (h1 : ∀ u ∈ news, u.oneCell' = true) (h0 : A2 = none → m = 0)
    (h63 : n + m ≤ maxLen) (hbytes : (n + m) * bytes ≤ 140737488355328)
    (h : ∀ A' c' w', RowO w' e sz A' (n + m) c' (xs ++ news) → Only (inA A) w w' → (∀ k, inA A' k → inA A k ∨ (w.heap.size ≤ k ∧ k < w'.heap.size)) → K (a.put o.dst (.slice A' (n + m) c')) w') : o.wp P a w K Q := by
  obtain ⟨A', c', w', hrun, h2, h3, h4⟩ := run_appO (P := P) w t o.type e z sz bytes ht hi hzs A n c xs hown A2 m c2 news hm hr h1 h0 h63 hbytes
  unfold Oper.wp execOp
  simp only [ho, resolve, invoke, builtin, Sem.run_bind, Sem.run_pure, Result.andThen_ok, List.map_toArray, List.map_cons, List.map_nil, hs, hx, hrun]
  exact h A' c' w' h2 h3 h4

theorem wpList_appO {ops : Array Oper} {rest : List Oper} {o : Oper} {a : Act} {Q : Exit → Act → World → Prop} (hgd : o.guard = none) (s x : Operand) (t : TypeId)
    (ho : o.op = .call { callee := .builtin .append, args := #[s, x], argTypes := #[t, t] })
    (e : TypeId) (z : Value) (sz bytes : Nat) (ht : P.underlying t = some (.slice e)) (hi : (P.info? e).map (fun i => (i.zero, i.size, i.bytes)) = some (some z, sz, bytes)) (hzs : z.cells.size = sz)
    (A : Option Addr) (n c : Nat) (xs : List Value) (hs : a.eval s = .slice A n c) (hown : RowO w e sz A n c xs)
    (A2 : Option Addr) (m c2 : Nat) (news : List Value) (hx : a.eval x = .slice A2 m c2) (hm : news.length = m * sz) (hr : Rd w A2 news) (h1 : ∀ u ∈ news, u.oneCell' = true) (h0 : A2 = none → m = 0)
    (h63 : n + m ≤ maxLen) (hbytes : (n + m) * bytes ≤ 140737488355328)
    (h : ∀ A' c' w', RowO w' e sz A' (n + m) c' (xs ++ news) → Only (inA A) w w' → (∀ k, inA A' k → inA A k ∨ (w.heap.size ≤ k ∧ k < w'.heap.size)) → wpList P ops Q rest (a.put o.dst (.slice A' (n + m) c')) w') : wpList P ops Q (o :: rest) a w :=
  wpList_plain hgd fun _ hK => wp_appO w s x t ho e z sz bytes ht hi hzs A n c xs hs hown A2 m c2 news hx hm hr h1 h0 h63 hbytes fun A' c' w' h2 h3 h4 => hK _ _ (h A' c' w' h2 h3 h4)

/-- at a step of a region that draws its order -/
theorem step_appO {ops : Array Oper} {o : Oper} {a : Act} {K : Act → World → Prop} {Q : Exit → Act → World → Prop} {E : Prop} (hgd : o.guard = none) (s x : Operand) (t : TypeId)
    (ho : o.op = .call { callee := .builtin .append, args := #[s, x], argTypes := #[t, t] })
    (e : TypeId) (z : Value) (sz bytes : Nat) (ht : P.underlying t = some (.slice e)) (hi : (P.info? e).map (fun i => (i.zero, i.size, i.bytes)) = some (some z, sz, bytes)) (hzs : z.cells.size = sz)
    (A : Option Addr) (n c : Nat) (xs : List Value) (hs : a.eval s = .slice A n c) (hown : RowO w e sz A n c xs)
    (A2 : Option Addr) (m c2 : Nat) (news : List Value) (hx : a.eval x = .slice A2 m c2) (hm : news.length = m * sz) (hr : Rd w A2 news) (h1 : ∀ u ∈ news, u.oneCell' = true) (h0 : A2 = none → m = 0)
    (h63 : n + m ≤ maxLen) (hbytes : (n + m) * bytes ≤ 140737488355328)
    (h : ∀ A' c' w', RowO w' e sz A' (n + m) c' (xs ++ news) → Only (inA A) w w' → (∀ k, inA A' k → inA A k ∨ (w.heap.size ≤ k ∧ k < w'.heap.size)) → K (a.put o.dst (.slice A' (n + m) c')) w') :
    if Region.wanted o (yielded ops a.tmps) = true then Oper.wp P o a w K Q else E := by
  have hw : Region.wanted o (yielded ops a.tmps) = true := by simp [Region.wanted, hgd]
  rw [if_pos hw]
  exact wp_appO w s x t ho e z sz bytes ht hi hzs A n c xs hs hown A2 m c2 news hx hm hr h1 h0 h63 hbytes h
end
end Go.Proofs.YtdpmfcifgimleaaGreatDoor

/-
  Sectors that wait, in order; the stages of a flush and of a crash; what Write, Flush, Crash make of sectors. Numbers and lists alone: no statement of the seat is proved here.
-/
namespace Go.Proofs.YtdpmfcifgimleaaGreatDoor

abbrev Sec := List (List (List UInt8))

/-! ### The numbers below n of which p holds, in order -/
def wl (p : Nat → Bool) (n : Nat) : List Nat := (List.range n).filter p
def rk (p : Nat → Bool) (i : Nat) : Nat := (wl p i).length
theorem wl_zero (p : Nat → Bool) : wl p 0 = [] := rfl
theorem wl_succ (p : Nat → Bool) (n : Nat) : wl p (n + 1) = wl p n ++ if p n then [n] else [] := by
  unfold wl
  rw [List.range_succ, List.filter_append]
  congr 1
  cases h : p n <;> simp [h]
theorem rk_le (p : Nat → Bool) : ∀ n, rk p n ≤ n
  | 0 => Nat.le_refl _
  | n + 1 => by
    have := rk_le p n
    unfold rk at *
    rw [wl_succ, List.length_append]
    split <;> simp <;> omega
theorem rk_succ (p : Nat → Bool) (n : Nat) : rk p (n + 1) = rk p n + if p n then 1 else 0 := by
  unfold rk
  rw [wl_succ, List.length_append]
  cases p n <;> simp
theorem rk_mono (p : Nat → Bool) {i j : Nat} (h : i ≤ j) : rk p i ≤ rk p j := by
  induction j with
  | zero => obtain rfl : i = 0 := by omega
            exact Nat.le_refl _
  | succ j ih =>
    rcases Nat.lt_or_ge i (j + 1) with hi | hi
    · have := ih (by omega)
      rw [rk_succ]; omega
    · obtain rfl : i = j + 1 := by omega
      exact Nat.le_refl _
/-- number k of them -/
theorem wl_at (p : Nat → Bool) : ∀ (n k i : Nat), (wl p n)[k]? = some i → i < n ∧ p i = true ∧ rk p i = k
  | 0, k, i, h => by simp [wl_zero] at h
  | n + 1, k, i, h => by
    rw [wl_succ, List.getElem?_append] at h
    split at h
    · obtain ⟨h1, h2, h3⟩ := wl_at p n k i h
      exact ⟨by omega, h2, h3⟩
    · rename_i hk
      cases hp : p n with
      | false => rw [hp] at h; simp at h
      | true =>
        rw [hp] at h
        simp only [if_true] at h
        have h0 : k - (wl p n).length = 0 := by
          have := (List.getElem?_eq_some_iff.1 h).1
          simp at this; omega
        rw [h0] at h
        simp at h
        subst h
        exact ⟨by omega, hp, by unfold rk; omega⟩
theorem rk_inj (p : Nat → Bool) {i j : Nat} (hi : p i = true) (hj : p j = true) (h : rk p i = rk p j) : i = j := by
  rcases Nat.lt_trichotomy i j with hl | hl | hl
  · have := rk_mono p (i := i + 1) (j := j) hl
    rw [rk_succ, hi] at this; simp at this; omega
  · exact hl
  · have := rk_mono p (i := j + 1) (j := i) hl
    rw [rk_succ, hj] at this; simp at this; omega
theorem rk_lt (p : Nat → Bool) {i n : Nat} (hi : p i = true) (h : i < n) : rk p i < rk p n := by
  have := rk_mono p (i := i + 1) (j := n) h
  rw [rk_succ, hi] at this; simp at this; omega

/-! ### What waits -/
def pw (S : Sec) (i : Nat) : Bool := decide (1 < (S.getD i []).length)
def waiting (S : Sec) : List Nat := wl (pw S) S.length
theorem pw_eq {S : Sec} {i : Nat} (h : i < S.length) : pw S i = decide (1 < S[i].length) := by unfold pw; rw [List.getD_eq_getElem?_getD, List.getElem?_eq_getElem h]; rfl

/-- the first k of what waits have become one version each: F tells which -/
def stage (S : Sec) (F : Nat → List UInt8) (k : Nat) : Sec := S.mapIdx fun i vs => if 1 < vs.length ∧ rk (pw S) i < k then [F i] else vs
theorem stage_length (S : Sec) (F : Nat → List UInt8) (k : Nat) : (stage S F k).length = S.length := by simp [stage]
theorem stage_zero (S : Sec) (F : Nat → List UInt8) : stage S F 0 = S := by
  refine List.ext_getElem (stage_length S F 0) fun i h1 h2 => ?_
  simp [stage]
theorem stage_get (S : Sec) (F : Nat → List UInt8) (k i : Nat) (h : i < S.length) (h' : i < (stage S F k).length) : (stage S F k)[i] = if 1 < S[i].length ∧ rk (pw S) i < k then [F i] else S[i] := by
  simp [stage]
theorem stage_at (S : Sec) (F : Nat → List UInt8) {k i : Nat} (h : (waiting S)[k]? = some i) (hi : i < S.length) (h' : i < (stage S F k).length) : (stage S F k)[i] = S[i] := by
  obtain ⟨h1, h2, h3⟩ := wl_at _ _ _ _ h
  rw [stage_get S F k i hi h', if_neg (by omega)]
theorem stage_succ (S : Sec) (F : Nat → List UInt8) {k i : Nat} (h : (waiting S)[k]? = some i) : stage S F (k + 1) = (stage S F k).set i [F i] := by
  obtain ⟨h1, h2, h3⟩ := wl_at _ _ _ _ h
  refine List.ext_getElem (by simp [stage_length]) fun j h4 h5 => ?_
  have hj : j < S.length := by simpa [stage_length] using h4
  rw [stage_get S F (k + 1) j hj, List.getElem_set]
  by_cases e : i = j
  · subst e
    rw [pw_eq h1] at h2
    rw [if_pos rfl, if_pos ⟨by simpa using h2, by omega⟩]
  · rw [if_neg e, stage_get S F k j hj]
    by_cases h6 : 1 < S[j].length
    · have hne : rk (pw S) j ≠ k := fun h7 => e (rk_inj (pw S) h2 (by rw [pw_eq hj]; simpa using h6) (by omega))
      by_cases h8 : rk (pw S) j < k
      · rw [if_pos ⟨h6, by omega⟩, if_pos ⟨h6, h8⟩]
      · rw [if_neg (by omega), if_neg (by omega)]
    · rw [if_neg (fun x => h6 x.1), if_neg (fun x => h6 x.1)]
theorem stage_all (S : Sec) (F : Nat → List UInt8) : stage S F (waiting S).length = S.mapIdx fun i vs => if 1 < vs.length then [F i] else vs := by
  refine List.ext_getElem (by simp [stage]) fun i h1 h2 => ?_
  have hi : i < S.length := by simpa [stage] using h1
  rw [stage_get S F _ i hi]
  simp only [List.getElem_mapIdx]
  by_cases h : 1 < S[i].length
  · rw [if_pos ⟨h, rk_lt (pw S) (by rw [pw_eq hi]; simpa using h) hi⟩, if_pos h]
  · rw [if_neg (fun x => h x.1), if_neg h]

/-! ### Write, Flush, Fuse, Crash -/
def pad (bs : List UInt8) : List UInt8 := bs ++ List.replicate (64 - bs.length) 0
theorem pad_length {bs : List UInt8} (h : bs.length ≤ 64) : (pad bs).length = 64 := by simp [pad]; omega
def lastOf (vs : List (List UInt8)) : List UInt8 := vs.getLastD []
def writeCode (n : Nat) (l i : Int) (bs : List UInt8) : Int := if l = 0 then 6 else if i < 0 ∨ (n : Int) ≤ i ∨ 64 < bs.length then 1 else 0
def writeS (S : Sec) (l i : Int) (bs : List UInt8) : Sec := if writeCode S.length l i bs = 0 then S.set i.toNat (S.getD i.toNat [] ++ [pad bs]) else S
def flushS (S : Sec) : Sec := S.map fun vs => [lastOf vs]
/-- which version a pick takes -/
def pickOf (vs : List (List UInt8)) (p : Int) : List UInt8 := vs.getD ((max p 0).toNat % vs.length) []
def crashAt (S : Sec) (picks : List Int) (i : Nat) : List UInt8 := pickOf (S.getD i []) (picks.getD (rk (pw S) i) 0)
def crashS (S : Sec) (picks : List Int) : Sec := S.mapIdx fun i vs => if 1 < vs.length then [crashAt S picks i] else vs

theorem flush_stage (S : Sec) (hne : ∀ vs ∈ S, vs ≠ []) : stage S (fun i => lastOf (S.getD i [])) (waiting S).length = flushS S := by
  rw [stage_all]
  refine List.ext_getElem (by simp [flushS]) fun i h1 h2 => ?_
  have hi : i < S.length := by simpa using h1
  simp only [List.getElem_mapIdx, flushS, List.getElem_map]
  rw [List.getD_eq_getElem?_getD, List.getElem?_eq_getElem hi]
  by_cases h : 1 < S[i].length
  · rw [if_pos h]; rfl
  · rw [if_neg h]
    have h3 := hne S[i] (List.getElem_mem hi)
    match hS : S[i], h3 with
    | [v], _ => rfl
    | v :: u :: r, _ => rw [hS] at h; simp at h
theorem crash_stage (S : Sec) (picks : List Int) : stage S (crashAt S picks) (waiting S).length = crashS S picks := stage_all S _

/-- every sector has versions, each of 64 bytes -/
def Wf (S : Sec) : Prop := ∀ vs ∈ S, vs ≠ [] ∧ ∀ v ∈ vs, v.length = 64
def Small (N : Nat) (S : Sec) : Prop := ∀ vs ∈ S, vs.length ≤ N
theorem lastOf_mem {vs : List (List UInt8)} (h : vs ≠ []) : lastOf vs ∈ vs := by
  unfold lastOf
  have hl := List.length_pos_iff.2 h
  rw [List.getLastD_eq_getLast?, List.getLast?_eq_getElem?, List.getElem?_eq_getElem (by omega)]
  exact List.getElem_mem _
theorem pickOf_mem {vs : List (List UInt8)} (h : vs ≠ []) (p : Int) : pickOf vs p ∈ vs := by
  unfold pickOf
  have hl := List.length_pos_iff.2 h
  have := Nat.mod_lt (max p 0).toNat hl
  rw [List.getD_eq_getElem?_getD, List.getElem?_eq_getElem this]
  exact List.getElem_mem _
end Go.Proofs.YtdpmfcifgimleaaGreatDoor

/-
  Plain mathematics of super: sectors of a slot, what they tell, what an opened disk tells. No Go here.
-/
namespace Go.Proofs.YtdpmfcifgimleaaGreatDoor

/-- the number that a sector bears; 0: none -/
def numOf (row : List UInt8) : Nat := if ofLow (row.drop 60) = sumOf (row.take 60) ∧ ofLow (row.take 8) ≤ 1125899906842624 then ofLow (row.take 8) else 0
/-- what a slot's sectors bear, one behind the other -/
def borneOf (img : List UInt8) : List UInt8 := lowB 2 img.length ++ img ++ List.replicate (814 - img.length) 0
/-- what is summed of a sector -/
def headOf (n k : Nat) (img : List UInt8) : List UInt8 := lowB 8 n ++ [k.toUInt8] ++ ((borneOf img).drop (k * 51)).take 51
def rowOf (n k : Nat) (img : List UInt8) : List UInt8 := headOf n k img ++ lowB 4 (sumOf (headOf n k img))
def packOf (n : Nat) (img : List UInt8) : List (List UInt8) := (List.range 16).map fun k => rowOf n k img
/-- Pack: nothing, if the number or the image may not be -/
def fits (n : Int) (img : List UInt8) : Prop := 1 ≤ n ∧ n ≤ 1125899906842624 ∧ img.length ≤ 814
instance (n : Int) (img : List UInt8) : Decidable (fits n img) := by unfold fits; infer_instance
def packI (n : Int) (img : List UInt8) : List (List UInt8) := if fits n img then packOf n.toNat img else []
theorem sumOf_lt (xs : List UInt8) : sumOf xs < 4294967296 := by unfold sumOf; omega
theorem numOf_le (row : List UInt8) : numOf row ≤ 1125899906842624 := by unfold numOf; split <;> omega
/-- the sectors of a slot, as they are read -/
def slotRows (S : Sec) (k : Nat) : List (List UInt8) := (List.range 16).map fun i => lastOf (S.getD (k * 16 + i) [])
def borneR (rows : List (List UInt8)) : List UInt8 := (rows.map fun r => (r.drop 9).take 51).flatten
def sizeR (rows : List (List UInt8)) : Nat := ofLow ((borneR rows).take 2)
def imgR (rows : List (List UInt8)) : List UInt8 := if sizeR rows ≤ 814 then ((borneR rows).drop 2).take (sizeR rows) else []
/-- what a slot's sectors tell: nothing, if they are not Pack of a number and an image -/
def unpackS (rows : List (List UInt8)) : Nat × List UInt8 :=
  if rows = packI (numOf (rows.headD []) : Int) (imgR rows) then (numOf (rows.headD []), imgR rows) else (0, [])
theorem slotRows_length (S : Sec) (k : Nat) : (slotRows S k).length = 16 := by simp [slotRows]
theorem slotRows_take (S : Sec) (k i : Nat) (hi : i < 16) : (slotRows S k).take (i + 1) = (slotRows S k).take i ++ [lastOf (S.getD (k * 16 + i) [])] := by
  rw [List.take_succ_eq_append_getElem (by rw [slotRows_length]; exact hi)]
  simp [slotRows]
/-- the greatest number that any of these sectors bears, or 'm' -/
def mostR (m : Nat) (rows : List (List UInt8)) : Nat := rows.foldl (fun m r => max m (numOf r)) m
end Go.Proofs.YtdpmfcifgimleaaGreatDoor

/-
  The contracts of octet's NewReader and of Reader's Good, Bad, Raw. No statement of the seat is proved here.
-/
namespace Go.Proofs.YtdpmfcifgimleaaGreatDoor
open Go Go.RowKit

/-- A Reader in block 'g': 'bs' is left of it; has it erred?; what it holds lies in 'fp'. -/
def Rdr (w : World) (fp : Nat → Prop) (g : Nat) (bs : List UInt8) (bad : Bool) : Prop :=
  fp g ∧ (bad = true → bs = []) ∧ ∃ A c, Blk w g 224 #[.slice A bs.length c, .bool bad] ∧ Rd w A (bs.map bv) ∧ (∀ ad, A = some ad → bs ≠ [] → fp ad.block ∧ ad.block ≠ g) ∧ bs.length ≤ c

section
variable {S fp fp' : Nat → Prop} {w w' : World} {g : Nat} {bs : List UInt8} {bad : Bool}
theorem Rdr.lt (h : Rdr w fp g bs bad) : g < w.heap.size := by
  obtain ⟨_, _, _, _, hb, _⟩ := h
  exact hb.lt
theorem Rdr.only (h : Rdr w fp g bs bad) (ho : Only S w w') (hn : ∀ k, fp k → ¬ S k) : Rdr w' fp g bs bad := by
  obtain ⟨h1, h2, A, c, hb, hr, ha, hc⟩ := h
  exact ⟨h1, h2, A, c, hb.only ho (hn _ h1), hr.only ho (fun ad e hne => hn _ (ha ad e (by intro h; exact hne (by rw [h]; rfl))).1), ha, hc⟩
theorem Rdr.ext (h : Rdr w fp g bs bad) (hb : Below w.heap.size w w') : Rdr w' fp g bs bad := by
  obtain ⟨h1, h2, A, c, hb1, hr, ha, hc⟩ := h
  exact ⟨h1, h2, A, c, hb1.ext hb, hr.ext hb, ha, hc⟩
theorem Rdr.drewN (h : Rdr w fp g bs bad) (n : Nat) : Rdr (w.drewN n) fp g bs bad := h
theorem Rdr.mono (h : Rdr w fp g bs bad) (hs : ∀ k, fp k → k < w.heap.size → fp' k) : Rdr w fp' g bs bad := by
  obtain ⟨h1, h2, A, c, hb1, hr, ha, hc⟩ := h
  refine ⟨hs _ h1 hb1.lt, h2, A, c, hb1, hr, fun ad e hne => ?_, hc⟩
  obtain ⟨ad', e', hcell⟩ := hr.at_ (k := 0) (by have := List.length_pos_iff.2 hne; simpa using this)
  rw [e] at e'; injection e' with e'; subst e'
  have hl := World.block_lt_of_cell? w _ hcell
  rw [block_add] at hl
  exact ⟨hs _ (ha ad e hne).1 hl, (ha ad e hne).2⟩
end

theorem rgood (fp : Nat → Prop) (g : Nat) (bs : List UInt8) (bad : Bool) (w : World) (h : Rdr w fp g bs bad) :
    Calls Tryz.prog 120 #[.pointer (some ⟨g, 0, none⟩)] w fun e w' => e = .returned (.bool (!bad)) ∧ w = w' := by
  obtain ⟨_, _, A, c, hb, _⟩ := h
  have h1 := hb.cell 1
  simp only [List.getElem?_toArray, List.getElem?_cons_zero, List.getElem?_cons_succ] at h1
  go_enter Tryz.func120, Tryz.ntmps120
  go_wp2
  go_ret
  exact ⟨rfl, rfl⟩
theorem rbad (fp : Nat → Prop) (g : Nat) (bs : List UInt8) (bad : Bool) (w : World) (h : Rdr w fp g bs bad) :
    Calls Tryz.prog 156 #[.pointer (some ⟨g, 0, none⟩)] w fun e w' => e = .returned (.tuple #[]) ∧ Rdr w' fp g [] true ∧ Only (fun k => k = g) w w' := by
  obtain ⟨hg, _, A, c, hb, _⟩ := h
  have h0 := hb.cell 0
  have h1 := hb.cell 1
  simp only [List.getElem?_toArray, List.getElem?_cons_zero, List.getElem?_cons_succ] at h0 h1
  have f0 := hb.free 0
  have f1 := hb.free 1
  go_enter Tryz.func156, Tryz.ntmps156
  go_wp2
  go_end0
  refine ⟨rfl, ⟨hg, fun _ => rfl, none, 0, (hb.put 0 _).put 1 _, Rd.nil _ _, (fun ad e => by cases e), Nat.le_refl _⟩, ?_⟩
  exact ((Only.refl (fun k => k = g) w).setCell (p := ⟨g, 0, none⟩) (.inl rfl) _).setCell (p := ⟨g, 1, none⟩) (.inl rfl) _

theorem Rd.add {w : World} {A : Option Addr} {xs : List Value} (h : Rd w A xs) (k : Nat) : Rd w (A.map fun x => x.add k) (xs.drop k) := fun j u hu => by
  rw [List.getElem?_drop] at hu
  obtain ⟨ad, rfl, hc⟩ := h _ u hu
  exact ⟨ad.add k, rfl, by rw [add_add_]; exact hc⟩

/-- the Reader takes what stands at the beginning: k bytes are gone -/
theorem Rdr.cut {fp : Nat → Prop} {w : World} {g k d : Nat} {bs : List UInt8} {A B : Option Addr} {c : Nat} (hg : fp g) (hb : Blk w g 224 #[.slice A bs.length c, .bool false]) (hr : Rd w A (bs.map bv)) (ha : ∀ ad, A = some ad → bs ≠ [] → fp ad.block ∧ ad.block ≠ g) (hc : bs.length ≤ c) (hk : k ≤ bs.length)
    (hB : c = k ∨ B = A.map (fun x => x.add k)) (hd : bs.length - k ≤ d) : Rdr (w.setCell ⟨g, 0, none⟩ (.slice B (bs.length - k) d)) fp g (bs.drop k) false ∧ Only (fun k => k = g) w (w.setCell ⟨g, 0, none⟩ (.slice B (bs.length - k) d)) := by
  refine ⟨⟨hg, fun h => by simp at h, B, d, ?_, ?_, ?_, by rw [List.length_drop]; omega⟩, (Only.refl (fun k => k = g) w).setCell (p := ⟨g, 0, none⟩) (.inl rfl) _⟩
  · have := hb.put 0 (.slice B (bs.length - k) d)
    rw [List.length_drop]
    exact this
  · rcases hbs : bs.drop k with _ | ⟨x, r⟩
    · exact Rd.nil _ _
    · rcases hB with hB | hB
      · have : bs.drop k = [] := List.drop_eq_nil_iff.2 (by omega)
        rw [this] at hbs; cases hbs
      · subst hB
        have h1 := hr.add k
        rw [← List.map_drop, hbs] at h1
        refine h1.setCell (fun ad e => ?_) _
        have hne : bs ≠ [] := by rintro rfl; simp at hbs
        obtain ⟨a0, e0, rfl⟩ := Option.map_eq_some_iff.1 e
        rw [block_add]
        exact (ha a0 e0 hne).2
  · intro ad e hne
    have hne' : bs ≠ [] := by rintro rfl; simp at hne
    rcases hB with hB | hB
    · exact absurd (List.drop_eq_nil_iff.2 (by omega)) hne
    · rw [hB] at e
      obtain ⟨a0, e0, rfl⟩ := Option.map_eq_some_iff.1 e
      rw [block_add]
      exact ha a0 e0 hne'

set_option maxHeartbeats 1000000 in
theorem newreader (A : Option Addr) (n c : Nat) (bs : List UInt8) (w : World) (hn : n = bs.length) (hc : bs.length ≤ c) (hr : Rd w A (bs.map bv)) (hb : bs.length ≤ 1099511627776) :
    Calls Tryz.prog 118 #[.slice A n c] w fun e w' => ∃ g, e = .returned (.pointer (some ⟨g, 0, none⟩)) ∧ Rdr w' (fun k => w.heap.size ≤ k ∧ k < w'.heap.size) g bs false ∧ Below w.heap.size w w' := by
  subst hn
  go_enter Tryz.func118, Tryz.ntmps118
  go_wp2_with fail
  refine (join_any _ 1 1 [bs] bs _ rfl (by simp) (RowsF.one (RdF.of hr) hc _ rfl id) hb (by simp)).mono ?_
  rintro e w1 ⟨A1, c1, rfl, hnew, hbel⟩
  go_wp2
  go_ret
  have hs1 := hbel.size
  rw [World.size_alloc] at hs1
  refine ⟨w1.heap.size, rfl, ⟨?_, fun h => by simp at h, A1, c1, Blk.new _ _ _, hnew.rd.alloc _, fun ad e _ => ?_, ?_⟩, ?_⟩
  · rw [World.size_alloc]; omega
  · rcases Own.some_ hnew with ⟨h, _⟩ | ⟨g, h, hf, hl⟩
    · rw [h] at e; cases e
    · rw [h] at e; injection e with e; subst e
      rw [World.size_alloc] at hf ⊢
      show (_ ≤ g ∧ g < _) ∧ g ≠ _
      omega
  · have := Own.cap hnew; simpa using this
  · exact (((Below.refl _ _).alloc (Nat.le_refl _) _).trans (hbel.mono (by simp))).alloc (by omega) _

set_option maxHeartbeats 1000000 in
/-- Raw: so many bytes, or an error -/
theorem rraw_ok (fp : Nat → Prop) (g : Nat) (bs : List UInt8) (k : Nat) (w : World) (h : Rdr w fp g bs false) (hk : k ≤ bs.length) (hb : bs.length ≤ 1099511627776) :
    Calls Tryz.prog 151 #[.pointer (some ⟨g, 0, none⟩), .int .i64 (k : Int)] w fun e w' => ∃ A' c', e = .returned (.slice A' k c') ∧ New w w' A' c' (bs.take k) ∧ Rdr w' fp g (bs.drop k) false ∧ Only (fun k => k = g) w w' := by
  have h' := h
  obtain ⟨hg, _, A, c, hblk, hr, ha, hc⟩ := h
  have h0 := hblk.cell 0
  have h1 := hblk.cell 1
  simp only [List.getElem?_toArray, List.getElem?_cons_zero, List.getElem?_cons_succ] at h0 h1
  have f0 := hblk.free 0
  go_enter Tryz.func151, Tryz.ntmps151
  go_wp2_with fail
  refine (rgood fp g bs false _ h').mono ?_
  rintro e w' ⟨rfl, rfl⟩
  have htk : (bs.take k).length = k := by rw [List.length_take]; omega
  have hrow : RowsF (fun _ => False) (w.alloc (.cells #[.slice A (bs.take k).length c] 57)) (some ⟨w.heap.size, 0, none⟩) [bs.take k] :=
    RowsF.one (RdF.of (by rw [List.map_take]; exact hr.take k)) (by rw [htk]; omega) _ rfl id
  rw [htk] at hrow
  have Htk := Lib.hid htk
  clear htk
  go_wp2_with fail
  refine (join_any _ 1 1 [bs.take k] (bs.take k) _ rfl (by simp) hrow (by rw [Htk.out]; omega) (by simp)).mono ?_
  rw [Htk.out]
  rintro e w1 ⟨A1, c1, rfl, hnew, hbel⟩
  have hbel' : Below w.heap.size w w1 := ((Below.refl _ _).alloc (Nat.le_refl _) _).trans (hbel.mono (by simp))
  have hnew' : New w w1 A1 c1 (bs.take k) := hnew.back (by simp)
  have hb1 := hblk.ext hbel'
  have hr1 := hr.ext hbel'
  have g0 := hb1.cell 0
  simp only [List.getElem?_toArray, List.getElem?_cons_zero] at g0
  have g1 := hb1.free 0
  have hgl := hblk.lt
  have hfin : ∀ v, New w (w1.setCell ⟨g, 0, none⟩ v) A1 c1 (bs.take k) := fun v => by
    have h1 := Own.setCell hnew' (p := ⟨g, 0, none⟩) (fun ad e => by have := (hnew'.2 ad e).1; show ad.block ≠ g; omega) v
    exact h1.mono (fun j hj _ => ⟨hj.1, by simpa [World.setCell] using hj.2⟩)
  clear hrow hnew
  go_wp2
  · have hck : c = k := by assumption
    go_ret
    obtain ⟨q1, q2⟩ := Rdr.cut (B := A) (d := 0) hg hb1 hr1 ha hc hk (.inl hck) (by omega)
    exact ⟨A1, c1, rfl, hfin _, q1, (Only.of_ext hbel').trans q2 (fun _ _ h => h)⟩
  · go_ret
    obtain ⟨q1, q2⟩ := Rdr.cut (d := c - k) hg hb1 hr1 ha hc hk (.inr rfl) (by omega)
    exact ⟨A1, c1, rfl, hfin _, q1, (Only.of_ext hbel').trans q2 (fun _ _ h => h)⟩
theorem rraw_none (fp : Nat → Prop) (g : Nat) (bs : List UInt8) (v : Int) (w : World) (h : Rdr w fp g bs false) (_ : isInt v) (hk : v < 0 ∨ (bs.length : Int) < v) (hb : bs.length ≤ 1099511627776) :
    Calls Tryz.prog 151 #[.pointer (some ⟨g, 0, none⟩), .int .i64 v] w fun e w' => e = .returned (.slice none 0 0) ∧ Rdr w' fp g [] true ∧ Only (fun k => k = g) w w' := by
  have h' := h
  obtain ⟨hg, _, A, c, hblk, hr, ha, hc⟩ := h
  have h0 := hblk.cell 0
  simp only [List.getElem?_toArray, List.getElem?_cons_zero] at h0
  rcases hk with hk | hk
  · go_enter Tryz.func151, Tryz.ntmps151
    go_wp2_with fail
    refine (rgood fp g bs false _ h').mono ?_
    rintro e w' ⟨rfl, rfl⟩
    go_wp2_with fail
    refine (rbad fp g bs false _ h').mono ?_
    rintro e w2 ⟨rfl, hrd, ho⟩
    go_wp2
    go_ret
    exact ⟨rfl, hrd, ho⟩
  · have hk2 : ¬ v < 0 := by omega
    have hk3 : decide (v < 0) = false := decide_eq_false hk2
    go_enter Tryz.func151, Tryz.ntmps151
    go_wp2_with fail
    refine (rgood fp g bs false _ h').mono ?_
    rintro e w' ⟨rfl, rfl⟩
    go_wp2_with fail
    refine (rbad fp g bs false _ h').mono ?_
    rintro e w2 ⟨rfl, hrd, ho⟩
    go_wp2
    go_ret
    exact ⟨rfl, hrd, ho⟩
theorem rraw_dead (fp : Nat → Prop) (g : Nat) (bs : List UInt8) (v : Int) (w : World) (h : Rdr w fp g bs true) :
    Calls Tryz.prog 151 #[.pointer (some ⟨g, 0, none⟩), .int .i64 v] w fun e w' => e = .returned (.slice none 0 0) ∧ w = w' := by
  go_enter Tryz.func151, Tryz.ntmps151
  go_wp2_with fail
  refine (rgood fp g bs true _ h).mono ?_
  rintro e w' ⟨rfl, rfl⟩
  go_wp2
  go_ret
  exact ⟨rfl, rfl⟩
end Go.Proofs.YtdpmfcifgimleaaGreatDoor
