/-
  Texts of this claim, joined (part 9): contracts and lemmas that the last text goes by. No statement of the seat is proved here.
-/
import Derived.Test.YtmggajpecgnjkaaDoorAll0
import Derived.Test.YtmggajpecgnjkaaDoorAll1
import Derived.Test.YtmggajpecgnjkaaDoorAll6
import Derived.Test.YtmggajpecgnjkaaDoorAll4
import Derived.RangeFuncBox
import Derived.RangeFuncLeaves
import Derived.RangeFuncWrites
import Derived.RangeFuncNested
import Derived.Shelf.Abstract
import Derived.WalkKit
import Derived.OwnWalkIn
import Derived.TacticsInMore
import Derived.LoopNIn
import Derived.LoopIn
import Derived.Sort.QuietIn
set_option linter.unusedVariables false
set_option linter.unusedSimpArgs false
/-
  The mathematics of what an expression means: its texts; places in an expression that is written out, and what they lead to. No statement of the seat is proved here.
-/
namespace Go.Proofs.YtmggajpecgnjkaaDoor
open Go

/-! ### texts of an expression -/
def powL (P : List Nat → Prop) : Nat → List Nat → Prop
  | 0, u => u = []
  | n + 1, u => ∃ a b, u = a ++ b ∧ P a ∧ powL P n b
mutual
def inE : Ex → List Nat → Prop
  | .mk k s ks lo hi => fun u => if k = 0 then u = [] else if k = 1 then ∃ b, u = [b] ∧ hasB s b = true else if k = 2 then inSeq ks u else if k = 3 then inAlt ks u else inRep lo hi ks u
def inSeq : List Ex → List Nat → Prop
  | [] => fun u => u = []
  | x :: xs => fun u => ∃ a b, u = a ++ b ∧ inE x a ∧ inSeq xs b
def inAlt : List Ex → List Nat → Prop
  | [] => fun _ => False
  | x :: xs => fun u => inE x u ∨ inAlt xs u
def inRep (lo hi : Int) : List Ex → List Nat → Prop
  | [] => fun _ => False
  | x :: _ => fun u => ∃ n : Nat, lo ≤ (n : Int) ∧ (hi = -1 ∨ (n : Int) ≤ hi) ∧ powL (inE x) n u
end
theorem powL_add (P : List Nat → Prop) : ∀ (m n : Nat) (u : List Nat), powL P (m + n) u ↔ ∃ a b, u = a ++ b ∧ powL P m a ∧ powL P n b
  | 0, n, u => by
    rw [Nat.zero_add]
    constructor
    · intro h; exact ⟨[], u, rfl, rfl, h⟩
    · rintro ⟨a, b, rfl, rfl, h⟩; exact h
  | m + 1, n, u => by
    rw [show m + 1 + n = (m + n) + 1 by omega]
    simp only [powL, powL_add P m n]
    constructor
    · rintro ⟨a, b, rfl, ha, c, d, rfl, hc, hd⟩
      exact ⟨a ++ c, d, by rw [List.append_assoc], ⟨a, c, rfl, ha, hc⟩, hd⟩
    · rintro ⟨a, b, rfl, ⟨c, d, rfl, hc, hd⟩, hb⟩
      exact ⟨c, d ++ b, by rw [List.append_assoc], hc, d, b, rfl, hd, hb⟩
theorem powL_one (P : List Nat → Prop) (u : List Nat) : powL P 1 u ↔ P u := by
  constructor
  · rintro ⟨a, b, rfl, h, rfl⟩; rwa [List.append_nil]
  · intro h; exact ⟨u, [], by rw [List.append_nil], h, rfl⟩
theorem powL_snoc (P : List Nat → Prop) (n : Nat) (u : List Nat) : powL P (n + 1) u ↔ ∃ a b, u = a ++ b ∧ powL P n a ∧ P b := by
  rw [powL_add]
  simp only [powL_one]

/-! ### places -/
/-- a place: is it open, by which bytes is the next one reached, and which are next -/
structure Pl where
  open_ : Bool
  set : List Nat
  next : List Nat
def zeroPl : Pl := ⟨false, zeroB, []⟩
/-- what leads from a place to place 0, in so many steps at most -/
def accN (M : List Pl) : Nat → Nat → List Nat → Prop
  | 0, p, u => p = 0 ∧ u = []
  | n + 1, p, u => (p = 0 ∧ u = []) ∨ ∃ q, M[p]? = some q ∧ ((q.open_ = true ∧ ∃ x ∈ q.next, accN M n x u) ∨ (q.open_ = false ∧ ∃ c v y, u = c :: v ∧ hasB q.set c = true ∧ q.next[0]? = some y ∧ accN M n y v))
def acc (M : List Pl) (p : Nat) (u : List Nat) : Prop := ∃ n, accN M n p u
theorem accN_mono {M : List Pl} : ∀ {n m p : Nat} {u : List Nat}, accN M n p u → n ≤ m → accN M m p u
  | 0, m, p, u, h, _ => by
    cases m with
    | zero => exact h
    | succ m => exact .inl h
  | n + 1, m, p, u, h, hm => by
    obtain ⟨k, rfl⟩ : ∃ k, m = k + 1 := ⟨m - 1, by omega⟩
    rcases h with h | ⟨q, hq, h⟩
    · exact .inl h
    · refine .inr ⟨q, hq, ?_⟩
      rcases h with ⟨ho, x, hx, h⟩ | ⟨ho, c, v, y, hu, hc, hy, h⟩
      · exact .inl ⟨ho, x, hx, accN_mono h (by omega)⟩
      · exact .inr ⟨ho, c, v, y, hu, hc, hy, accN_mono h (by omega)⟩
theorem acc_zero (M : List Pl) : acc M 0 [] := ⟨0, rfl, rfl⟩
theorem acc_open {M : List Pl} {p x : Nat} {u : List Nat} {q : Pl} (hq : M[p]? = some q) (ho : q.open_ = true) (hx : x ∈ q.next) (h : acc M x u) : acc M p u := by
  obtain ⟨n, h⟩ := h
  exact ⟨n + 1, .inr ⟨q, hq, .inl ⟨ho, x, hx, h⟩⟩⟩
theorem acc_byte {M : List Pl} {p y c : Nat} {v : List Nat} {q : Pl} (hq : M[p]? = some q) (ho : q.open_ = false) (hc : hasB q.set c = true) (hy : q.next[0]? = some y) (h : acc M y v) : acc M p (c :: v) := by
  obtain ⟨n, h⟩ := h
  exact ⟨n + 1, .inr ⟨q, hq, .inr ⟨ho, c, v, y, rfl, hc, hy, h⟩⟩⟩

/-- From place 'p' on there is a text of 'P', and then what leads on from place 'b'. -/
def Leads (M : List Pl) (P : List Nat → Prop) (p b : Nat) : Prop :=
  (∀ n u, accN M n p u → ∃ a v m, m ≤ n ∧ u = a ++ v ∧ P a ∧ accN M m b v) ∧ (∀ a v, P a → acc M b v → acc M p (a ++ v))
theorem Leads.refl (M : List Pl) (p : Nat) : Leads M (fun u => u = []) p p :=
  ⟨fun n u h => ⟨[], u, n, Nat.le_refl _, rfl, rfl, h⟩, fun a v ha h => by subst ha; exact h⟩
theorem Leads.congr {M : List Pl} {P Q : List Nat → Prop} {p b : Nat} (h : Leads M P p b) (e : ∀ u, P u ↔ Q u) : Leads M Q p b :=
  ⟨fun n u hu => by
    obtain ⟨a, v, m, h1, h2, h3, h4⟩ := h.1 n u hu
    exact ⟨a, v, m, h1, h2, (e a).1 h3, h4⟩, fun a v ha hv => h.2 a v ((e a).2 ha) hv⟩
theorem Leads.trans {M : List Pl} {P Q : List Nat → Prop} {p q b : Nat} (h : Leads M P p q) (k : Leads M Q q b) : Leads M (fun u => ∃ a c, u = a ++ c ∧ P a ∧ Q c) p b := by
  constructor
  · intro n u hu
    obtain ⟨a, v, m, h1, rfl, h3, h4⟩ := h.1 n u hu
    obtain ⟨c, w, m', k1, rfl, k3, k4⟩ := k.1 m v h4
    exact ⟨a ++ c, w, m', by omega, by rw [List.append_assoc], ⟨a, c, rfl, h3, k3⟩, k4⟩
  · rintro u v ⟨a, c, rfl, ha, hc⟩ hv
    rw [List.append_assoc]
    exact h.2 a _ ha (k.2 c v hc hv)
/-- an open place that leads to what is next -/
theorem Leads.open2 {M : List Pl} {P : List Nat → Prop} {p b : Nat} {q : Pl} (hq : M[p]? = some q) (ho : q.open_ = true) (hp : p ≠ 0) (Qs : List (List Nat → Prop)) (hl : Qs.length = q.next.length)
    (h : ∀ k (hk : k < q.next.length), Leads M (Qs[k]'(by omega)) q.next[k] b) (e : ∀ u, P u ↔ ∃ Q ∈ Qs, Q u) : Leads M P p b := by
  constructor
  · intro n u hu
    cases n with
    | zero => exact absurd hu.1 hp
    | succ n =>
      rcases hu with ⟨h0, _⟩ | ⟨q', hq', hu⟩
      · exact absurd h0 hp
      · rw [hq] at hq'
        injection hq' with hq'
        subst hq'
        rcases hu with ⟨_, x, hx, hu⟩ | ⟨ho', _⟩
        · obtain ⟨k, hk, rfl⟩ := List.getElem_of_mem hx
          obtain ⟨a, v, m, h1, h2, h3, h4⟩ := (h k hk).1 n u hu
          exact ⟨a, v, m, by omega, h2, (e a).2 ⟨_, List.getElem_mem _, h3⟩, h4⟩
        · rw [ho] at ho'; cases ho'
  · intro a v ha hv
    obtain ⟨Q, hQ, ha⟩ := (e a).1 ha
    obtain ⟨k, hk, rfl⟩ := List.getElem_of_mem hQ
    exact acc_open hq ho (List.getElem_mem (by omega)) ((h k (by omega)).2 a v ha hv)
/-- a byte -/
theorem Leads.byte {M : List Pl} {p b : Nat} {s : List Nat} (hq : M[p]? = some ⟨false, s, [b]⟩) (hp : p ≠ 0) : Leads M (fun u => ∃ c, u = [c] ∧ hasB s c = true) p b := by
  constructor
  · intro n u hu
    cases n with
    | zero => exact absurd hu.1 hp
    | succ n =>
      rcases hu with ⟨h0, _⟩ | ⟨q', hq', hu⟩
      · exact absurd h0 hp
      · rw [hq] at hq'
        injection hq' with hq'
        subst hq'
        rcases hu with ⟨ho', _⟩ | ⟨_, c, v, y, rfl, hc, hy, hu⟩
        · cases ho'
        · injection hy with hy
          subst hy
          exact ⟨[c], v, n, by omega, rfl, ⟨c, rfl, hc⟩, hu⟩
  · rintro a v ⟨c, rfl, hc⟩ hv
    exact acc_byte hq rfl hc rfl hv
/-- again and again -/
theorem Leads.star {M : List Pl} {P : List Nat → Prop} {p x b : Nat} (hq : M[p]? = some ⟨true, zeroB, [x, b]⟩) (hp : p ≠ 0) (h : Leads M P x p) : Leads M (fun u => ∃ n, powL P n u) p b := by
  constructor
  · intro n
    induction n using Nat.strongRecOn with
    | ind n ih =>
      intro u hu
      cases n with
      | zero => exact absurd hu.1 hp
      | succ n =>
        rcases hu with ⟨h0, _⟩ | ⟨q', hq', hu⟩
        · exact absurd h0 hp
        · rw [hq] at hq'
          injection hq' with hq'
          subst hq'
          rcases hu with ⟨_, y, hy, hu⟩ | ⟨ho', _⟩
          · simp only [List.mem_cons, List.not_mem_nil, or_false] at hy
            rcases hy with rfl | rfl
            · obtain ⟨a, v, m, h1, rfl, h3, h4⟩ := h.1 n u hu
              obtain ⟨c, w, m', k1, rfl, ⟨j, k3⟩, k4⟩ := ih m (by omega) v h4
              exact ⟨a ++ c, w, m', by omega, by rw [List.append_assoc], ⟨j + 1, a, c, rfl, h3, k3⟩, k4⟩
            · exact ⟨[], u, n, by omega, rfl, ⟨0, rfl⟩, hu⟩
          · cases ho'
  · rintro a v ⟨n, hn⟩ hv
    induction n generalizing a with
    | zero =>
      obtain rfl : a = [] := hn
      exact acc_open hq rfl (by simp) hv
    | succ n ih =>
      obtain ⟨c, d, rfl, hc, hd⟩ := hn
      rw [List.append_assoc]
      exact acc_open hq rfl (by simp) (h.2 c _ hc (ih d hd))

/-! ### an expression, written out -/

mutual
def layE : Ex → List Pl → Nat → List Pl × Nat
  | .mk k s ks lo hi => fun M b =>
    if k = 1 then (M ++ [⟨false, s, [b]⟩], M.length)
    else if k = 2 then laySeq ks M b
    else if k = 3 then (let r := layAlt ks M b []; (r.1 ++ [⟨true, zeroB, r.2⟩], r.1.length))
    else if k = 4 then layRep lo hi ks M b
    else (M, b)
/-- the last first -/
def laySeq : List Ex → List Pl → Nat → List Pl × Nat
  | [] => fun M b => (M, b)
  | x :: xs => fun M b => let r := laySeq xs M b; layE x r.1 r.2
def layAlt : List Ex → List Pl → Nat → List Nat → List Pl × List Nat
  | [] => fun M _ acc => (M, acc)
  | x :: xs => fun M b acc => let r := layE x M b; layAlt xs r.1 b (acc ++ [r.2])
def layRep (lo hi : Int) : List Ex → List Pl → Nat → List Pl × Nat
  | [] => fun M b => (M, b)
  | x :: _ => fun M b =>
    if hi ≠ -1 then (let r := Nat.rec (motive := fun _ => List Pl × Nat) (M, b) (fun _ r => (let q := layE x r.1 r.2; (q.1 ++ [⟨true, zeroB, [q.2, b]⟩], q.1.length))) (hi - lo).toNat
      Nat.rec (motive := fun _ => List Pl × Nat) r (fun _ r => layE x r.1 r.2) lo.toNat)
    else (let q := layE x (M ++ [⟨true, zeroB, []⟩]) M.length
      let L := q.1.set M.length ⟨true, zeroB, [q.2, b]⟩
      if lo = 0 then (L, M.length) else Nat.rec (motive := fun _ => List Pl × Nat) (L, q.2) (fun _ r => layE x r.1 r.2) (lo - 1).toNat)
end
end Go.Proofs.YtmggajpecgnjkaaDoor

/-
  The mathematics of places of a text: where texts end that begin at some places. No statement of the seat is proved here.
-/
namespace Go.Proofs.YtmggajpecgnjkaaDoor
open Go

/-- the bytes from a place up to another one -/
def sub (s : List Nat) (i j : Nat) : List Nat := (s.take j).drop i
theorem sub_len {s : List Nat} {i j : Nat} (hj : j ≤ s.length) : (sub s i j).length = j - i := by
  unfold sub; rw [List.length_drop, List.length_take]; omega
theorem sub_nil {s : List Nat} {i j : Nat} (hj : j ≤ s.length) (h : sub s i j = []) : j ≤ i := by
  have := sub_len (i := i) hj
  rw [h] at this
  simp at this; omega
theorem sub_self (s : List Nat) (i : Nat) : sub s i i = [] := by
  unfold sub
  exact List.drop_of_length_le (by rw [List.length_take]; omega)
theorem sub_append {s : List Nat} {i j k : Nat} (hi : i ≤ j) (hj : j ≤ k) (hk : k ≤ s.length) : sub s i k = sub s i j ++ sub s j k := by
  unfold sub
  have e : s.take k = s.take j ++ (s.take k).drop j := by
    conv => lhs; rw [← List.take_append_drop j (s.take k)]
    rw [List.take_take, Nat.min_eq_left hj]
  conv => lhs; rw [e]
  rw [List.drop_append_of_le_length (by rw [List.length_take]; omega)]
theorem sub_split {s : List Nat} {i k : Nat} {a b : List Nat} (hk : k ≤ s.length) (hi : i ≤ k) (h : sub s i k = a ++ b) : ∃ j, i ≤ j ∧ j ≤ k ∧ sub s i j = a ∧ sub s j k = b := by
  have hl := sub_len (i := i) hk
  rw [h, List.length_append] at hl
  refine ⟨i + a.length, by omega, by omega, ?_⟩
  have e := sub_append (s := s) (i := i) (j := i + a.length) (k := k) (by omega) (by omega) hk
  rw [h] at e
  have e2 := List.append_inj e (by rw [sub_len (by omega)]; omega)
  exact ⟨e2.1.symm, e2.2.symm⟩
theorem sub_one {s : List Nat} {i : Nat} (h : i < s.length) : sub s i (i + 1) = [s[i]] := by
  unfold sub
  rw [List.take_succ_eq_append_getElem h, List.drop_append_of_le_length (by rw [List.length_take]; omega), List.drop_of_length_le (by rw [List.length_take]; omega)]
  rfl

/-- of each place of a text whether a text of 'P' that begins at one of some places ends there -/
def Sees (P : List Nat → Prop) (s : List Nat) (fr tt : List Bool) : Prop :=
  tt.length = s.length + 1 ∧ ∀ j, j ≤ s.length → (tt[j]? = some true ↔ ∃ i, i ≤ j ∧ fr[i]? = some true ∧ P (sub s i j))
def orL (a b : List Bool) : List Bool := List.zipWith (fun x y => x || y) a b
section
variable {P Q : List Nat → Prop} {s : List Nat} {fr tt a b c : List Bool}
theorem Sees.len (h : Sees P s fr tt) : tt.length = s.length + 1 := h.1
theorem Sees.congr (h : Sees P s fr tt) (e : ∀ u, P u ↔ Q u) : Sees Q s fr tt :=
  ⟨h.1, fun j hj => (h.2 j hj).trans ⟨fun ⟨i, h1, h2, h3⟩ => ⟨i, h1, h2, (e _).1 h3⟩, fun ⟨i, h1, h2, h3⟩ => ⟨i, h1, h2, (e _).2 h3⟩⟩⟩
theorem Sees.empty (h : fr.length = s.length + 1) : Sees (fun u => u = []) s fr fr :=
  ⟨h, fun j hj => ⟨fun h1 => ⟨j, Nat.le_refl _, h1, sub_self s j⟩, fun ⟨i, h1, h2, h3⟩ => by
    have := sub_nil hj h3
    obtain rfl : i = j := by omega
    exact h2⟩⟩
theorem Sees.trans (h : Sees P s a b) (k : Sees Q s b c) : Sees (fun u => ∃ x y, u = x ++ y ∧ P x ∧ Q y) s a c := by
  refine ⟨k.1, fun j hj => (k.2 j hj).trans ⟨?_, ?_⟩⟩
  · rintro ⟨i, h1, h2, h3⟩
    obtain ⟨m, m1, m2, m3⟩ := (h.2 i (by omega)).1 h2
    exact ⟨m, by omega, m2, _, _, sub_append m1 h1 hj, m3, h3⟩
  · rintro ⟨m, m1, m2, x, y, he, hx, hy⟩
    obtain ⟨i, i1, i2, i3, i4⟩ := sub_split hj m1 he
    exact ⟨i, i2, (h.2 i (by omega)).2 ⟨m, i1, m2, by rw [i3]; exact hx⟩, by rw [i4]; exact hy⟩
theorem orL_len (h : a.length = b.length) : (orL a b).length = a.length := by unfold orL; rw [List.length_zipWith]; omega
theorem orL_at (h : a.length = b.length) (j : Nat) : (orL a b)[j]? = some true ↔ a[j]? = some true ∨ b[j]? = some true := by
  unfold orL
  rw [List.getElem?_zipWith]
  rcases Nat.lt_or_ge j a.length with hl | hl
  · rw [List.getElem?_eq_getElem hl, List.getElem?_eq_getElem (by omega : j < b.length)]
    simp
  · rw [List.getElem?_eq_none hl, List.getElem?_eq_none (by omega : b.length ≤ j)]
    simp
theorem Sees.or (h : Sees P s fr a) (k : Sees Q s fr b) : Sees (fun u => P u ∨ Q u) s fr (orL a b) := by
  have hl : a.length = b.length := by rw [h.1, k.1]
  refine ⟨by rw [orL_len hl, h.1], fun j hj => ?_⟩
  rw [orL_at hl, h.2 j hj, k.2 j hj]
  constructor
  · rintro (⟨i, h1, h2, h3⟩ | ⟨i, h1, h2, h3⟩)
    · exact ⟨i, h1, h2, .inl h3⟩
    · exact ⟨i, h1, h2, .inr h3⟩
  · rintro ⟨i, h1, h2, h3 | h3⟩
    · exact .inl ⟨i, h1, h2, h3⟩
    · exact .inr ⟨i, h1, h2, h3⟩
theorem Sees.none_ (s : List Nat) (fr : List Bool) : Sees (fun _ => False) s fr (List.replicate (s.length + 1) false) :=
  ⟨by simp, fun j hj => ⟨fun h => (by rw [List.getElem?_replicate] at h; split at h <;> cases h), fun ⟨_, _, _, h⟩ => h.elim⟩⟩
/-- places that are next behind a byte of a set -/
def byteL (ws : List Nat) (s : List Nat) (fr : List Bool) : List Bool := false :: List.zipWith (fun f c => f && hasB ws c) fr s
theorem Sees.byte {ws : List Nat} (h : fr.length = s.length + 1) : Sees (fun u => ∃ c, u = [c] ∧ hasB ws c = true) s fr (byteL ws s fr) := by
  refine ⟨by simp [byteL]; omega, fun j hj => ?_⟩
  cases j with
  | zero =>
    simp only [byteL, List.getElem?_cons_zero, Option.some.injEq, Bool.false_eq_true, false_iff]
    rintro ⟨i, h1, h2, c, h3, h4⟩
    obtain rfl : i = 0 := by omega
    rw [sub_self] at h3; cases h3
  | succ j =>
    have hs : j < s.length := by omega
    simp only [byteL, List.getElem?_cons_succ, List.getElem?_zipWith]
    rw [List.getElem?_eq_getElem hs, List.getElem?_eq_getElem (by omega : j < fr.length)]
    simp only [Option.some.injEq, Bool.and_eq_true]
    constructor
    · rintro ⟨h1, h2⟩
      exact ⟨j, by omega, by rw [List.getElem?_eq_getElem (by omega)]; rw [h1], s[j], sub_one hs, h2⟩
    · rintro ⟨i, h1, h2, c, h3, h4⟩
      have hl := sub_len (i := i) (j := j + 1) (s := s) (by omega)
      rw [h3] at hl
      obtain rfl : i = j := by simp at hl; omega
      rw [sub_one hs] at h3
      injection h3 with h3 _
      rw [List.getElem?_eq_getElem (by omega)] at h2
      injection h2 with h2
      rw [h3]
      exact ⟨h2, h4⟩
theorem Sees.unique (h : Sees P s fr a) (k : Sees P s fr b) : a = b := by
  refine List.ext_getElem (by rw [h.1, k.1]) fun j h1 h2 => ?_
  have e := (h.2 j (by have := h.1; omega)).trans (k.2 j (by have := h.1; omega)).symm
  rw [List.getElem?_eq_getElem h1, List.getElem?_eq_getElem h2] at e
  simp only [Option.some.injEq] at e
  rw [Bool.eq_iff_iff]
  exact e

/-! ### any number -/
/-- so many as 'lo' at least, and 'n' at most -/
def upTo (P : List Nat → Prop) (lo n : Nat) (u : List Nat) : Prop := ∃ m, lo ≤ m ∧ m ≤ n ∧ powL P m u
theorem Sees.pow {P : List Nat → Prop} {n : Nat} (h : Sees (powL P n) s a b) (k : Sees P s b c) : Sees (powL P (n + 1)) s a c :=
  (h.trans k).congr fun u => (powL_snoc P n u).symm
theorem Sees.upTo_one {lo : Nat} (h : Sees (powL P lo) s a b) : Sees (upTo P lo lo) s a b :=
  h.congr fun u => ⟨fun h => ⟨lo, Nat.le_refl _, Nat.le_refl _, h⟩, fun ⟨m, h1, h2, h3⟩ => by
    obtain rfl : m = lo := by omega
    exact h3⟩
theorem Sees.upTo_next {lo n : Nat} (hn : lo ≤ n) (h : Sees (upTo P lo n) s a b) (k : Sees (powL P (n + 1)) s a c) : Sees (upTo P lo (n + 1)) s a (orL b c) :=
  (h.or k).congr fun u => ⟨fun h => h.elim (fun ⟨m, h1, h2, h3⟩ => ⟨m, h1, by omega, h3⟩) (fun h => ⟨n + 1, by omega, Nat.le_refl _, h⟩), fun ⟨m, h1, h2, h3⟩ => by
    rcases Nat.lt_or_ge n m with h4 | h4
    · obtain rfl : m = n + 1 := by omega
      exact .inr h3
    · exact .inl ⟨m, h1, h4, h3⟩⟩
/-- nothing new: all of them -/
theorem Sees.upTo_all {lo n : Nat} (hn : lo ≤ n) (h : Sees (upTo P lo n) s a b) (k : Sees (powL P (n + 1)) s a c) (e : orL b c = b) : Sees (fun u => ∃ m, lo ≤ m ∧ powL P m u) s a b := by
  have hbc : b.length = c.length := by rw [h.1, k.1]
  have key : ∀ m j i, lo ≤ m → i ≤ j → j ≤ s.length → a[i]? = some true → powL P m (sub s i j) → ∃ m', lo ≤ m' ∧ m' ≤ n ∧ ∃ i', i' ≤ j ∧ a[i']? = some true ∧ powL P m' (sub s i' j) := by
    intro m
    induction m with
    | zero =>
      intro j i hm hij hj ha hp
      exact ⟨0, hm, Nat.zero_le _, i, hij, ha, hp⟩
    | succ m ih =>
      intro j i hm hij hj ha hp
      rcases Nat.lt_or_ge n (m + 1) with h4 | h4
      · obtain ⟨x, y, hxy, hx, hy⟩ := (powL_snoc P m _).1 hp
        obtain ⟨k1, k2, k3, k4, k5⟩ := sub_split hj hij hxy
        obtain ⟨m', q1, q2, i', q3, q4, q5⟩ := ih k1 i (by omega) k2 (by omega) ha (by rw [k4]; exact hx)
        have hP : powL P (m' + 1) (sub s i' j) := (powL_snoc P m' _).2 ⟨sub s i' k1, sub s k1 j, sub_append q3 k3 hj, q5, by rw [k5]; exact hy⟩
        rcases Nat.lt_or_ge m' n with h5 | h5
        · exact ⟨m' + 1, by omega, h5, i', by omega, q4, hP⟩
        · obtain rfl : m' = n := by omega
          have hc : c[j]? = some true := (k.2 j hj).2 ⟨i', by omega, q4, hP⟩
          have hb : b[j]? = some true := by rw [← e, orL_at hbc]; exact .inr hc
          obtain ⟨i2, r1, r2, m2, r3, r4, r5⟩ := (h.2 j hj).1 hb
          exact ⟨m2, r3, r4, i2, r1, r2, r5⟩
      · exact ⟨m + 1, hm, h4, i, hij, ha, hp⟩
  refine ⟨h.1, fun j hj => (h.2 j hj).trans ⟨?_, ?_⟩⟩
  · rintro ⟨i, h1, h2, m, h3, _, h5⟩
    exact ⟨i, h1, h2, m, h3, h5⟩
  · rintro ⟨i, h1, h2, m, h3, h5⟩
    obtain ⟨m', q1, q2, i', q3, q4, q5⟩ := key m j i h3 h1 hj h2 h5
    exact ⟨i', q3, q4, m', q1, q2, q5⟩
/-- how many are none -/
def noL : List Bool → Nat
  | [] => 0
  | x :: l => (if x then 0 else 1) + noL l
theorem noL_le : ∀ (l : List Bool), noL l ≤ l.length
  | [] => Nat.le_refl _
  | x :: l => by have := noL_le l; simp only [noL, List.length_cons]; split <;> omega
theorem noL_or : ∀ (a b : List Bool), a.length = b.length → orL a b ≠ a → noL (orL a b) < noL a
  | [], [], _, h => absurd rfl h
  | x :: a, y :: b, hl, h => by
    have hl' : a.length = b.length := by simpa using hl
    have e : orL (x :: a) (y :: b) = (x || y) :: orL a b := rfl
    rw [e] at h ⊢
    have hle : noL (orL a b) ≤ noL a := by
      by_cases h2 : orL a b = a
      · rw [h2]; exact Nat.le_refl _
      · exact Nat.le_of_lt (noL_or a b hl' h2)
    simp only [noL]
    cases x with
    | true =>
      have h2 : orL a b ≠ a := fun h2 => h (by rw [h2]; rfl)
      have := noL_or a b hl' h2
      simpa using this
    | false =>
      cases y with
      | true => simp; omega
      | false =>
        have h2 : orL a b ≠ a := fun h2 => h (by rw [h2]; rfl)
        have := noL_or a b hl' h2
        simpa using this
end

/-! ### where texts end -/
/-- at which places texts of 'P' end that begin at place 'at' -/
def endsL (P : List Nat → Prop) [DecidablePred P] (s : List Nat) (i : Nat) : List Nat := (List.range (s.length + 1)).filter fun j => decide (i ≤ j) && decide (P (sub s i j))
/-- the places that are told -/
def tellL (tt : List Bool) : List Nat := (List.range tt.length).filter fun j => tt.getD j false
end Go.Proofs.YtmggajpecgnjkaaDoor

/-
  Places of an expression in memory; the contract of the program's add. No statement of the seat is proved here.
-/
namespace Go.Proofs.YtmggajpecgnjkaaDoor
open Go Go.RowKit
set_option maxRecDepth 100000

theorem info_place : (Tryd.prog.info? 115).map (fun i => (i.zero, i.size, i.bytes)) = some (some (.agg #[.bool false, .int .u64 0, .int .u64 0, .int .u64 0, .int .u64 0, .slice none 0 0]), 6, 64) := by kernel_rfl
/-- numbers of places in a row of the call's own that nobody writes any more -/
def IntsAt (S : Nat → Prop) (w : World) (A : Option Addr) (l : List Nat) : Prop :=
  l = [] ∨ ∃ b o, A = some ⟨b, o, none⟩ ∧ S b ∧ ∀ j (h : j < l.length), w.cell? ⟨b, o + j, none⟩ = some (.int .i64 ((l[j] : Nat) : Int))
/-- a place as cells -/
def PlAt (S : Nat → Prop) (w : World) (p : Pl) (cs : List Value) : Prop :=
  ∃ (a0 a1 a2 a3 : Nat) (B : Option Addr) (d : Nat), p.set = [a0, a1, a2, a3] ∧ SetOk [a0, a1, a2, a3] ∧ p.next.length ≤ d ∧ d ≤ maxLen ∧ cs = [.bool p.open_, .int .u64 (a0 : Int), .int .u64 (a1 : Int), .int .u64 (a2 : Int), .int .u64 (a3 : Int), .slice B p.next.length d] ∧ IntsAt S w B p.next
section
variable {S T : Nat → Prop} {w w' : World} {A : Option Addr} {l : List Nat} {p : Pl} {cs : List Value}
theorem IntsAt.keep (h : IntsAt S w A l) (hk : ∀ b, S b → b < w.heap.size → w'.heap[b]? = w.heap[b]?) (hs : ∀ b, S b → b < w.heap.size → T b) : IntsAt T w' A l := by
  rcases h with h | ⟨b, o, h1, h2, h3⟩
  · exact .inl h
  · rcases Nat.eq_zero_or_pos l.length with h0 | h0
    · exact .inl (List.eq_nil_of_length_eq_zero h0)
    · have hl := World.block_lt_of_cell? w _ (h3 0 h0)
      exact .inr ⟨b, o, h1, hs b h2 hl, fun j hj => (World.cell?_of_block (a := ⟨b, o + j, none⟩) (hk b h2 hl)).trans (h3 j hj)⟩
theorem PlAt.keep (h : PlAt S w p cs) (hk : ∀ b, S b → b < w.heap.size → w'.heap[b]? = w.heap[b]?) (hs : ∀ b, S b → b < w.heap.size → T b) : PlAt T w' p cs := by
  obtain ⟨a0, a1, a2, a3, B, d, h1, h2, h3, h4, h5, h6⟩ := h
  exact ⟨a0, a1, a2, a3, B, d, h1, h2, h3, h4, h5, h6.keep hk hs⟩
theorem PlAt.ext (h : PlAt S w p cs) (hb : Below w.heap.size w w') : PlAt S w' p cs := h.keep (fun b _ hl => hb.block b hl) (fun _ h _ => h)
theorem PlAt.mono (h : PlAt S w p cs) (hs : ∀ b, S b → b < w.heap.size → T b) : PlAt T w p cs := h.keep (fun _ _ _ => rfl) hs
theorem PlAt.size (h : PlAt S w p cs) : cs.length = 6 := by obtain ⟨a0, a1, a2, a3, B, d, h1, h2, h3, h4, rfl, h6⟩ := h; rfl
end
/-- a row of the call's own that holds these places -/
def RowP (S : Nat → Prop) (w : World) (A : Option Addr) (m c : Nat) (M : List Pl) : Prop :=
  ∃ xs, RowO w 115 6 A m c xs ∧ M.length = m ∧ ∀ k (h : k < M.length), PlAt (fun b => S b ∧ ¬ inA A b) w M[k] ((xs.drop (k * 6)).take 6)
section
variable {S T : Nat → Prop} {w w' : World} {A A' : Option Addr} {m c c' : Nat} {M : List Pl}
theorem RowP.none_ (S : Nat → Prop) (w : World) : RowP S w none 0 0 [] := ⟨[], RowO.none_ _ _ _, rfl, fun k h => absurd h (by simp)⟩
theorem RowP.keep (h : RowP S w A m c M) (hk : ∀ b, b < w.heap.size → (inA A b ∨ S b) → w'.heap[b]? = w.heap[b]?) (hs : ∀ b, S b → b < w.heap.size → T b) : RowP T w' A m c M := by
  obtain ⟨xs, h1, h2, h3⟩ := h
  exact ⟨xs, h1.keep fun k hk' => hk k (h1.lt hk') (.inl hk'), h2, fun k hk' => (h3 k hk').keep (fun b hb hl => hk b hl (.inr hb.1)) (fun b hb hl => ⟨hs b hb.1 hl, hb.2⟩)⟩
theorem RowP.ext (h : RowP S w A m c M) (hb : Below w.heap.size w w') : RowP S w' A m c M := h.keep (fun b hl _ => hb.block b hl) (fun _ h _ => h)
theorem RowP.mono (h : RowP S w A m c M) (hs : ∀ b, S b → b < w.heap.size → T b) : RowP T w A m c M := h.keep (fun _ _ _ => rfl) hs
theorem RowP.only (h : RowP S w A m c M) (ho : Only T w w') (h1 : ∀ b, T b → ¬ inA A b) (h2 : ∀ b, T b → ¬ S b) : RowP S w' A m c M :=
  h.keep (fun b hl hb => ho.block b hl fun ht => hb.elim (h1 b ht) (h2 b ht)) (fun _ h _ => h)
theorem RowP.len (h : RowP S w A m c M) : M.length = m := h.choose_spec.2.1
theorem RowP.le (h : RowP S w A m c M) : m ≤ c := h.choose_spec.1.le
theorem RowP.lt (h : RowP S w A m c M) {k : Nat} (hk : inA A k) : k < w.heap.size := h.choose_spec.1.lt hk
/-- one more -/
theorem RowP.grow {w1 : World} {x : Pl} {cs xs : List Value} (hx : PlAt (fun b => S b ∧ ¬ inA A b) w x cs) (hxs : RowO w 115 6 A m c xs) (hl : M.length = m) (hp : ∀ k (h : k < M.length), PlAt (fun b => S b ∧ ¬ inA A b) w M[k] ((xs.drop (k * 6)).take 6))
    (hr : RowO w1 115 6 A' (m + 1) c' (xs ++ cs)) (ho : Only (inA A) w w1) (hA : ∀ k, inA A' k → inA A k ∨ (w.heap.size ≤ k ∧ k < w1.heap.size)) : RowP S w1 A' (m + 1) c' (M ++ [x]) := by
  have hxl : xs.length = m * 6 := hxs.1
  have hcl := hx.size
  have key : ∀ {t : Pl} {ds : List Value}, PlAt (fun b => S b ∧ ¬ inA A b) w t ds → PlAt (fun b => S b ∧ ¬ inA A' b) w1 t ds := fun {t ds} ht =>
    ht.keep (fun b hb hl' => ho.block b hl' hb.2) (fun b hb hl' => ⟨hb.1, fun hin => (hA b hin).elim hb.2 (fun h => by omega)⟩)
  refine ⟨xs ++ cs, hr, by simp [hl], fun k hk => ?_⟩
  rw [List.length_append, List.length_singleton] at hk
  by_cases hkl : k < M.length
  · have e : ((xs ++ cs).drop (k * 6)).take 6 = (xs.drop (k * 6)).take 6 := by
      rw [List.drop_append_of_le_length (by omega), List.take_append_of_le_length (by rw [List.length_drop]; omega)]
    rw [e, List.getElem_append_left hkl]
    exact key (hp k hkl)
  · obtain rfl : k = M.length := by omega
    have e : ((xs ++ cs).drop (M.length * 6)).take 6 = cs := by
      rw [show M.length * 6 = xs.length by omega, List.drop_left, List.take_of_length_le (by omega)]
    rw [e, List.getElem_append_right (Nat.le_refl _)]
    simp only [Nat.sub_self, List.getElem_cons_zero]
    exact key hx
/-- a place, its cells one by one -/
theorem RowP.at_ (h : RowP S w A m c M) {k : Nat} (hk : k < M.length) :
    ∃ g o a0 a1 a2 a3 B d, A = some ⟨g, o, none⟩ ∧ (M[k]).set = [a0, a1, a2, a3] ∧ SetOk [a0, a1, a2, a3] ∧ (M[k]).next.length ≤ d ∧ d ≤ maxLen ∧ IntsAt (fun b => S b ∧ ¬ inA A b) w B (M[k]).next ∧ w.cell? ⟨g, o + k * 6, none⟩ = some (.bool (M[k]).open_) ∧ w.cell? ⟨g, o + k * 6 + 1, none⟩ = some (.int .u64 (a0 : Int)) ∧ w.cell? ⟨g, o + k * 6 + 2, none⟩ = some (.int .u64 (a1 : Int)) ∧
      w.cell? ⟨g, o + k * 6 + 3, none⟩ = some (.int .u64 (a2 : Int)) ∧ w.cell? ⟨g, o + k * 6 + 4, none⟩ = some (.int .u64 (a3 : Int)) ∧ w.cell? ⟨g, o + k * 6 + 5, none⟩ = some (.slice B (M[k]).next.length d) ∧ w.frozen? ⟨g, o + k * 6 + 5, none⟩ = false := by
  obtain ⟨xs, h1, h2, h3⟩ := h
  have h4 := h3 k hk
  rcases h1.2 with ⟨rfl, rfl, rfl⟩ | ⟨g, off, cs, rfl, b1, b2, b3, b4, b5⟩
  · omega
  · obtain ⟨a0, a1, a2, a3, B, d, e1, e2, e3, e4, e5, e6⟩ := h4
    have key : ∀ j u, ([.bool (M[k]).open_, .int .u64 (a0 : Int), .int .u64 (a1 : Int), .int .u64 (a2 : Int), .int .u64 (a3 : Int), .slice B (M[k]).next.length d] : List Value)[j]? = some u → w.cell? ⟨g, off + k * 6 + j, none⟩ = some u := by
      intro j u hu
      have hj : j < 6 := by have := (List.getElem?_eq_some_iff.1 hu).1; simpa using this
      rw [← e5, List.getElem?_take, if_pos hj, List.getElem?_drop] at hu
      rw [b3.cell, Nat.add_assoc]
      exact b5 _ u hu
    exact ⟨g, off, a0, a1, a2, a3, B, d, rfl, e1, e2, e3, e4, e6, key 0 _ rfl, key 1 _ rfl, key 2 _ rfl, key 3 _ rfl, key 4 _ rfl, key 5 _ rfl, b3.free _⟩
end

set_option maxHeartbeats 8000000 in
theorem add_any (S : Nat → Prop) (w : World) (g : Nat) (A : Option Addr) (m c : Nat) (M : List Pl) (h s r : Value) (p : Pl) (cs : List Value) (hB : Blk w g 112 #[.slice A m c, h, s, r]) (hrow : RowP S w A m c M) (hA : ∀ b, inA A b → b ≠ g) (hS : ∀ b, S b → b ≠ g)
    (hp : PlAt (fun b => S b ∧ ¬ inA A b) w p cs) (hm : m ≤ 1000000000) :
    Calls Tryd.prog 88 #[.pointer (some ⟨g, 0, none⟩), .agg cs.toArray] w fun e w' => e = .returned (.int .i64 (m : Int)) ∧ ∃ A' c', Blk w' g 112 #[.slice A' (m + 1) c', h, s, r] ∧ RowP S w' A' (m + 1) c' (M ++ [p]) ∧ Only (fun b => b = g ∨ inA A b) w w' ∧ (∀ b, inA A' b → inA A b ∨ (w.heap.size ≤ b ∧ b < w'.heap.size)) := by
  have hgl := hB.lt
  have hmi : (m : Int) ≤ 1000000000 := by omega
  obtain ⟨o, ws, nx⟩ := p
  obtain ⟨a0, a1, a2, a3, B, d, e1, e2, e3, e4, rfl, e6⟩ := id hp
  simp only at e1 e3 e6
  have hp0 := hp
  obtain ⟨xs, hxs, hxl, hxp⟩ := hrow
  have x0 : w.cell? ⟨g, 0, none⟩ = some (.slice A m c) := hB.cell 0
  have hlA : ∀ b, inA A b → b < w.heap.size := fun b hb => hxs.lt hb
  have hfin : ∀ (W w7 : World) (A7 : Option Addr) (c7 : Nat), Below w.heap.size w W → RowO w7 115 6 A7 (m + 1) c7 (xs ++ [.bool o, .int .u64 (a0 : Int), .int .u64 (a1 : Int), .int .u64 (a2 : Int), .int .u64 (a3 : Int), .slice B nx.length d]) → Only (inA A) W w7 → (∀ k, inA A7 k → inA A k ∨ (W.heap.size ≤ k ∧ k < w7.heap.size)) →
      Blk w7 g 112 #[.slice A m c, h, s, r] ∧ Only (fun b => b = g ∨ inA A b) w w7 ∧ RowP S w7 A7 (m + 1) c7 (M ++ [⟨o, ws, nx⟩]) ∧ (∀ b, inA A7 b → inA A b ∨ (w.heap.size ≤ b ∧ b < w7.heap.size)) ∧ w7.cell? ⟨g, 0, none⟩ = some (.slice A m c) ∧ w7.frozen? ⟨g, 0, none⟩ = false := fun W w7 A7 c7 hW hr ho hA7 => by
    have hB7 : Blk w7 g 112 #[.slice A m c, h, s, r] := (hB.ext hW).only ho (fun h => hA g h rfl)
    refine ⟨hB7, ?_, ?_, fun b hb => (hA7 b hb).imp id (fun ⟨h1, h2⟩ => ⟨Nat.le_trans hW.size h1, h2⟩), hB7.cell 0, hB7.free 0⟩
    · exact (Only.of_ext (S := fun b => b = g ∨ inA A b) hW).trans ho (fun i hi h => .inr h)
    · exact RowP.grow (x := ⟨o, ws, nx⟩) (PlAt.ext hp0 hW) (hxs.ext hW) hxl (fun k hk => (hxp k hk).ext hW) hr ho hA7
  have Hfin := Lib.hid hfin
  have hone : ∀ u ∈ ([.bool o, .int .u64 (a0 : Int), .int .u64 (a1 : Int), .int .u64 (a2 : Int), .int .u64 (a3 : Int), .slice B nx.length d] : List Value), u.oneCell' = true := by intro u hu; simp at hu; rcases hu with rfl | rfl | rfl | rfl | rfl | rfl <;> rfl
  have Hone := Lib.hid hone
  have Hm1 : Hid (m + 1 ≤ maxLen) := Lib.hid (by unfold maxLen; omega)
  have Hm2 : Hid ((m + 1) * 64 ≤ 140737488355328) := Lib.hid (by omega)
  have HA := Lib.hid hA
  have HSg := Lib.hid hS
  have HlA := Lib.hid hlA
  have hD := Blk.new w 115 #[.bool o, .int .u64 (a0 : Int), .int .u64 (a1 : Int), .int .u64 (a2 : Int), .int .u64 (a3 : Int), .slice B nx.length d]
  have HD := Lib.hid hD
  have y0 : (w.alloc (Obj.cells #[.bool o, .int .u64 (a0 : Int), .int .u64 (a1 : Int), .int .u64 (a2 : Int), .int .u64 (a3 : Int), .slice B nx.length d] 115)).cell? ⟨g, 0, none⟩ = some (.slice A m c) := (hB.alloc _).cell 0
  clear hB hp hp0 hxl hxp hfin hone hA hS e1 e2 e3 e4 e6 hD hlA
  go_enter Tryd.func88, Tryd.ntmps88
  go_wp2_with fail
  refine wp_region_held_drew (S := fun _ => True) (by kernel_rfl) ?_ (fun hHeld => ?_)
  · trivial
  refine wpAnyH_take (i := 0) (v := ?_) (take_list rfl) (by kernel_rfl) (by kernel_rfl) (by kernel_rfl) (fun _ _ _ h => h) (Or.inl ⟨by rfl, ?_⟩) (by assumption) ?_
  rotate_left
  · intro w hSw
    try dsimp only at hSw
    first | (go_simp; done) | (go_simp; with_reducible rfl)
  try simp only [Act.put, List.setIfInBounds_toArray, List.set_cons_zero, List.set_cons_succ]
  refine wpAnyH_take (i := 1) (v := ?_) (take_list rfl) (by kernel_rfl) (by kernel_rfl) (by kernel_rfl) (fun _ _ _ h => h) (Or.inl ⟨by rfl, ?_⟩) (by assumption) ?_
  rotate_left
  · intro w hSw
    try dsimp only at hSw
    first | (go_simp; done) | (go_simp; with_reducible rfl)
  try simp only [Act.put, List.setIfInBounds_toArray, List.set_cons_zero, List.set_cons_succ]
  refine wpAnyH_take (i := 2) (v := ?_) (take_list rfl) (by kernel_rfl) (by kernel_rfl) (by kernel_rfl) (fun _ _ _ h => h) (Or.inl ⟨by rfl, ?_⟩) (by assumption) ?_
  rotate_left
  · intro w hSw
    try dsimp only at hSw
    first | (go_simp; done) | (go_simp; with_reducible rfl)
  try simp only [Act.put, List.setIfInBounds_toArray, List.set_cons_zero, List.set_cons_succ]
  refine wpAnyH_take (i := 3) (v := ?_) (take_list rfl) (by kernel_rfl) (by kernel_rfl) (by kernel_rfl) (fun _ _ _ h => h) (Or.inl ⟨by rfl, ?_⟩) (by assumption) ?_
  rotate_left
  · intro w hSw
    try dsimp only at hSw
    first | (go_simp; done) | (go_simp; with_reducible rfl)
  try simp only [Act.put, List.setIfInBounds_toArray, List.set_cons_zero, List.set_cons_succ]
  refine wpAnyH_ready (rs := [4, 5]) (by kernel_rfl) (by simp) ?_
  refine AllReadyH.cons (take_list rfl) (fun K hK => ?_) ?_
  · skip
    go_simp
    refine hK.out _ _ ?_ (fun hHeld => ?_)
    · try dsimp only
      all_goals trivial
    clear hK K
    refine wpAnyH_ready (rs := [5]) (by kernel_rfl) (by simp) ?_
    refine AllReadyH.cons (take_list rfl) (fun K hK => ?_) ?_
    · skip
      go_simp
      refine hK.out _ _ ?_ (fun hHeld => ?_)
      · try dsimp only
        all_goals trivial
      clear hK K
      refine wpAnyH_ready (rs := [6]) (by kernel_rfl) (by simp) ?_
      refine AllReadyH.cons (take_list rfl) (fun K hK => ?_) ?_
      · skip
        go_simp
        refine hK.out _ _ ?_ (fun hHeld => ?_)
        · try dsimp only
          all_goals trivial
        clear hK K
        refine wpAnyH_ready (rs := [7]) (by kernel_rfl) (by simp) ?_
        refine AllReadyH.cons (take_list rfl) (fun K hK => ?_) ?_
        · skip
          refine step_appO _ rfl (.tmp 9) (.tmp 11) _ rfl _ _ 6 64 Tryd.underlying107 info_place rfl A m c xs rfl (hxs.ext (by repeat (first | apply ext_alloc | apply ext_drew | exact Below.refl _ _))) (some ⟨_, 0, none⟩) 1 1 [.bool o, .int .u64 (a0 : Int), .int .u64 (a1 : Int), .int .u64 (a2 : Int), .int .u64 (a3 : Int), .slice B nx.length d] rfl rfl (Rd.lit_at _ _ _ (by simp [World.drewN])) Hone.out (by intro h; cases h) Hm1.out Hm2.out ?_
          intro A7 c7 w7 hrow7 honly7 hA7
          obtain ⟨hB7, hO7, hR7, hA7', x7, f7⟩ := Hfin.out _ _ _ _ (by repeat (first | apply ext_alloc | apply ext_drew | exact Below.refl _ _)) hrow7 honly7 hA7
          refine hK.out _ _ ?_ (fun hHeld => ?_)
          · try dsimp only
            all_goals trivial
          clear hK K
          refine wpAnyH_take (i := 8) (v := ?_) (take_list rfl) (by kernel_rfl) (by kernel_rfl) (by kernel_rfl) (fun _ _ _ h => h) (Or.inl ⟨by rfl, ?_⟩) (by assumption) ?_
          rotate_left
          · intro w hSw
            try dsimp only at hSw
            first | (go_simp; done) | (go_simp; with_reducible rfl)
          try simp only [Act.put, List.setIfInBounds_toArray, List.set_cons_zero, List.set_cons_succ]
          refine wpAnyH_take (i := 9) (v := ?_) (take_list rfl) (by kernel_rfl) (by kernel_rfl) (by kernel_rfl) (fun _ _ _ h => h) (Or.inl ⟨by rfl, ?_⟩) (by assumption) ?_
          rotate_left
          · intro w hSw
            try dsimp only at hSw
            first | (go_simp; done) | (go_simp; with_reducible rfl)
          try simp only [Act.put, List.setIfInBounds_toArray, List.set_cons_zero, List.set_cons_succ]
          refine wpAnyH_ready (rs := [10]) (by kernel_rfl) (by simp) ?_
          refine AllReadyH.cons (take_list rfl) (fun K hK => ?_) ?_
          · skip
            go_simp
            refine hK.out _ _ ?_ (fun hHeld => ?_)
            · try dsimp only
              all_goals trivial
            clear hK K
            refine wpAnyH_done (by kernel_rfl) ?_ _
            have hB8 := hB7.put 0 (.slice A7 (m + 1) c7)
            have hgA7 : ¬ inA A7 g := fun hin => (hA7' g hin).elim (fun h => HA.out g h rfl) (fun h => by omega)
            have hO8 : Only (fun b => b = g) w7 (w7.setCell ⟨g, 0, none⟩ (.slice A7 (m + 1) c7)) := (Only.refl (fun b => b = g) w7).setCell (p := ⟨g, 0, none⟩) (.inl rfl) _
            have hx8 : (w7.setCell ⟨g, 0, none⟩ (.slice A7 (m + 1) c7)).cell? ⟨g, 0, none⟩ = some (.slice A7 (m + 1) c7) := hB8.cell 0
            go_wp2
            go_ret
            exact ⟨ret_eq (by omega), A7, c7, hB8, hR7.only hO8 (fun b hb h => by subst hb; exact hgA7 h) (fun b hb h => HSg.out b h hb), hO7.trans hO8 (fun i _ h => .inl h), fun b hb => (hA7' b hb).imp id (fun ⟨h1, h2⟩ => ⟨h1, by rw [show (w7.setCell ⟨g, 0, none⟩ (.slice A7 (m + 1) c7)).heap.size = w7.heap.size by simp [World.setCell]]; exact h2⟩)⟩
          exact AllReadyH.nil
        exact AllReadyH.nil
      exact AllReadyH.nil
    exact AllReadyH.nil
  refine AllReadyH.cons (take_list rfl) (fun K hK => ?_) ?_
  · skip
    go_simp
    refine hK.out _ _ ?_ (fun hHeld => ?_)
    · try dsimp only
      all_goals trivial
    clear hK K
    refine wpAnyH_ready (rs := [4, 6]) (by kernel_rfl) (by simp) ?_
    refine AllReadyH.cons (take_list rfl) (fun K hK => ?_) ?_
    · skip
      go_simp
      refine hK.out _ _ ?_ (fun hHeld => ?_)
      · try dsimp only
        all_goals trivial
      clear hK K
      refine wpAnyH_ready (rs := [6]) (by kernel_rfl) (by simp) ?_
      refine AllReadyH.cons (take_list rfl) (fun K hK => ?_) ?_
      · skip
        go_simp
        refine hK.out _ _ ?_ (fun hHeld => ?_)
        · try dsimp only
          all_goals trivial
        clear hK K
        refine wpAnyH_ready (rs := [7]) (by kernel_rfl) (by simp) ?_
        refine AllReadyH.cons (take_list rfl) (fun K hK => ?_) ?_
        · skip
          refine step_appO _ rfl (.tmp 9) (.tmp 11) _ rfl _ _ 6 64 Tryd.underlying107 info_place rfl A m c xs rfl (hxs.ext (by repeat (first | apply ext_alloc | apply ext_drew | exact Below.refl _ _))) (some ⟨_, 0, none⟩) 1 1 [.bool o, .int .u64 (a0 : Int), .int .u64 (a1 : Int), .int .u64 (a2 : Int), .int .u64 (a3 : Int), .slice B nx.length d] rfl rfl (Rd.lit_at _ _ _ (by simp [World.drewN])) Hone.out (by intro h; cases h) Hm1.out Hm2.out ?_
          intro A7 c7 w7 hrow7 honly7 hA7
          obtain ⟨hB7, hO7, hR7, hA7', x7, f7⟩ := Hfin.out _ _ _ _ (by repeat (first | apply ext_alloc | apply ext_drew | exact Below.refl _ _)) hrow7 honly7 hA7
          refine hK.out _ _ ?_ (fun hHeld => ?_)
          · try dsimp only
            all_goals trivial
          clear hK K
          refine wpAnyH_take (i := 8) (v := ?_) (take_list rfl) (by kernel_rfl) (by kernel_rfl) (by kernel_rfl) (fun _ _ _ h => h) (Or.inl ⟨by rfl, ?_⟩) (by assumption) ?_
          rotate_left
          · intro w hSw
            try dsimp only at hSw
            first | (go_simp; done) | (go_simp; with_reducible rfl)
          try simp only [Act.put, List.setIfInBounds_toArray, List.set_cons_zero, List.set_cons_succ]
          refine wpAnyH_take (i := 9) (v := ?_) (take_list rfl) (by kernel_rfl) (by kernel_rfl) (by kernel_rfl) (fun _ _ _ h => h) (Or.inl ⟨by rfl, ?_⟩) (by assumption) ?_
          rotate_left
          · intro w hSw
            try dsimp only at hSw
            first | (go_simp; done) | (go_simp; with_reducible rfl)
          try simp only [Act.put, List.setIfInBounds_toArray, List.set_cons_zero, List.set_cons_succ]
          refine wpAnyH_ready (rs := [10]) (by kernel_rfl) (by simp) ?_
          refine AllReadyH.cons (take_list rfl) (fun K hK => ?_) ?_
          · skip
            go_simp
            refine hK.out _ _ ?_ (fun hHeld => ?_)
            · try dsimp only
              all_goals trivial
            clear hK K
            refine wpAnyH_done (by kernel_rfl) ?_ _
            have hB8 := hB7.put 0 (.slice A7 (m + 1) c7)
            have hgA7 : ¬ inA A7 g := fun hin => (hA7' g hin).elim (fun h => HA.out g h rfl) (fun h => by omega)
            have hO8 : Only (fun b => b = g) w7 (w7.setCell ⟨g, 0, none⟩ (.slice A7 (m + 1) c7)) := (Only.refl (fun b => b = g) w7).setCell (p := ⟨g, 0, none⟩) (.inl rfl) _
            have hx8 : (w7.setCell ⟨g, 0, none⟩ (.slice A7 (m + 1) c7)).cell? ⟨g, 0, none⟩ = some (.slice A7 (m + 1) c7) := hB8.cell 0
            go_wp2
            go_ret
            exact ⟨ret_eq (by omega), A7, c7, hB8, hR7.only hO8 (fun b hb h => by subst hb; exact hgA7 h) (fun b hb h => HSg.out b h hb), hO7.trans hO8 (fun i _ h => .inl h), fun b hb => (hA7' b hb).imp id (fun ⟨h1, h2⟩ => ⟨h1, by rw [show (w7.setCell ⟨g, 0, none⟩ (.slice A7 (m + 1) c7)).heap.size = w7.heap.size by simp [World.setCell]]; exact h2⟩)⟩
          exact AllReadyH.nil
        exact AllReadyH.nil
      exact AllReadyH.nil
    refine AllReadyH.cons (take_list rfl) (fun K hK => ?_) ?_
    · skip
      go_simp
      refine hK.out _ _ ?_ (fun hHeld => ?_)
      · try dsimp only
        all_goals trivial
      clear hK K
      refine wpAnyH_ready (rs := [4]) (by kernel_rfl) (by simp) ?_
      refine AllReadyH.cons (take_list rfl) (fun K hK => ?_) ?_
      · skip
        go_simp
        refine hK.out _ _ ?_ (fun hHeld => ?_)
        · try dsimp only
          all_goals trivial
        clear hK K
        refine wpAnyH_ready (rs := [7]) (by kernel_rfl) (by simp) ?_
        refine AllReadyH.cons (take_list rfl) (fun K hK => ?_) ?_
        · skip
          refine step_appO _ rfl (.tmp 9) (.tmp 11) _ rfl _ _ 6 64 Tryd.underlying107 info_place rfl A m c xs rfl (hxs.ext (by repeat (first | apply ext_alloc | apply ext_drew | exact Below.refl _ _))) (some ⟨_, 0, none⟩) 1 1 [.bool o, .int .u64 (a0 : Int), .int .u64 (a1 : Int), .int .u64 (a2 : Int), .int .u64 (a3 : Int), .slice B nx.length d] rfl rfl (Rd.lit_at _ _ _ (by simp [World.drewN])) Hone.out (by intro h; cases h) Hm1.out Hm2.out ?_
          intro A7 c7 w7 hrow7 honly7 hA7
          obtain ⟨hB7, hO7, hR7, hA7', x7, f7⟩ := Hfin.out _ _ _ _ (by repeat (first | apply ext_alloc | apply ext_drew | exact Below.refl _ _)) hrow7 honly7 hA7
          refine hK.out _ _ ?_ (fun hHeld => ?_)
          · try dsimp only
            all_goals trivial
          clear hK K
          refine wpAnyH_take (i := 8) (v := ?_) (take_list rfl) (by kernel_rfl) (by kernel_rfl) (by kernel_rfl) (fun _ _ _ h => h) (Or.inl ⟨by rfl, ?_⟩) (by assumption) ?_
          rotate_left
          · intro w hSw
            try dsimp only at hSw
            first | (go_simp; done) | (go_simp; with_reducible rfl)
          try simp only [Act.put, List.setIfInBounds_toArray, List.set_cons_zero, List.set_cons_succ]
          refine wpAnyH_take (i := 9) (v := ?_) (take_list rfl) (by kernel_rfl) (by kernel_rfl) (by kernel_rfl) (fun _ _ _ h => h) (Or.inl ⟨by rfl, ?_⟩) (by assumption) ?_
          rotate_left
          · intro w hSw
            try dsimp only at hSw
            first | (go_simp; done) | (go_simp; with_reducible rfl)
          try simp only [Act.put, List.setIfInBounds_toArray, List.set_cons_zero, List.set_cons_succ]
          refine wpAnyH_ready (rs := [10]) (by kernel_rfl) (by simp) ?_
          refine AllReadyH.cons (take_list rfl) (fun K hK => ?_) ?_
          · skip
            go_simp
            refine hK.out _ _ ?_ (fun hHeld => ?_)
            · try dsimp only
              all_goals trivial
            clear hK K
            refine wpAnyH_done (by kernel_rfl) ?_ _
            have hB8 := hB7.put 0 (.slice A7 (m + 1) c7)
            have hgA7 : ¬ inA A7 g := fun hin => (hA7' g hin).elim (fun h => HA.out g h rfl) (fun h => by omega)
            have hO8 : Only (fun b => b = g) w7 (w7.setCell ⟨g, 0, none⟩ (.slice A7 (m + 1) c7)) := (Only.refl (fun b => b = g) w7).setCell (p := ⟨g, 0, none⟩) (.inl rfl) _
            have hx8 : (w7.setCell ⟨g, 0, none⟩ (.slice A7 (m + 1) c7)).cell? ⟨g, 0, none⟩ = some (.slice A7 (m + 1) c7) := hB8.cell 0
            go_wp2
            go_ret
            exact ⟨ret_eq (by omega), A7, c7, hB8, hR7.only hO8 (fun b hb h => by subst hb; exact hgA7 h) (fun b hb h => HSg.out b h hb), hO7.trans hO8 (fun i _ h => .inl h), fun b hb => (hA7' b hb).imp id (fun ⟨h1, h2⟩ => ⟨h1, by rw [show (w7.setCell ⟨g, 0, none⟩ (.slice A7 (m + 1) c7)).heap.size = w7.heap.size by simp [World.setCell]]; exact h2⟩)⟩
          exact AllReadyH.nil
        exact AllReadyH.nil
      exact AllReadyH.nil
    exact AllReadyH.nil
  exact AllReadyH.nil
end Go.Proofs.YtmggajpecgnjkaaDoor

/-
  The mathematics of an expression that is written out as places. No statement of the seat is proved here.
-/
namespace Go.Proofs.YtmggajpecgnjkaaDoor
open Go

/-! ### how many places there are -/
mutual
def plE : Ex → Nat
  | .mk k _ ks lo hi => if k = 1 then 1 else if k = 2 then plL ks else if k = 3 then plL ks + 1 else if k = 4 then plR lo hi ks else 0
def plL : List Ex → Nat
  | [] => 0
  | x :: xs => plE x + plL xs
def plR (lo hi : Int) : List Ex → Nat
  | [] => 0
  | x :: _ => if hi = -1 then (if lo = 0 then plE x + 1 else lo.toNat * plE x + 1) else hi.toNat * plE x + (hi - lo).toNat
end
theorem weightL_top : ∀ (l : List Ex), weightL 5000 l = 5000
  | [] => by simp [weightL]
  | x :: l => by simp only [weightL]; rw [show min 5000 (5000 + weightE x) = 5000 by omega]; exact weightL_top l
def sumW : List Ex → Nat
  | [] => 0
  | x :: l => weightE x + sumW l
theorem weightL_sum : ∀ (l : List Ex) (n : Nat), weightL n l < 5000 → weightL n l = n + sumW l
  | [], n, _ => by simp [weightL, sumW]
  | x :: l, n, h => by
    simp only [weightL] at h ⊢
    rcases Nat.lt_or_ge (n + weightE x) 5000 with h1 | h1
    · rw [show min 5000 (n + weightE x) = n + weightE x by omega] at h ⊢
      rw [weightL_sum l _ h]
      simp only [sumW]; omega
    · rw [show min 5000 (n + weightE x) = 5000 by omega, weightL_top] at h
      omega
theorem pl_weight (t : Ex) : ∀ deep, oneE deep t = true → weightE t ≤ 4000 → plE t + 1 ≤ 2 * weightE t := by
  refine ex_induct (p := fun t => ∀ deep, oneE deep t = true → weightE t ≤ 4000 → plE t + 1 ≤ 2 * weightE t) (fun k s ks lo hi ih deep h1 h2 => ?_) t
  have hmem : ∀ x ∈ ks, weightE x ≤ sumW ks := by
    intro x hx
    clear ih h1 h2
    induction ks with
    | nil => cases hx
    | cons y l ih =>
      simp only [sumW]
      rcases List.mem_cons.1 hx with rfl | hx
      · omega
      · have := ih hx; omega
  have hsum : weightL 0 ks ≤ 4000 → (∀ x ∈ ks, oneE (deep + 1) x = true) → plL ks ≤ 2 * sumW ks := by
    intro hw ho
    have hs := weightL_sum ks 0 (by omega)
    have hall : ∀ x ∈ ks, plE x + 1 ≤ 2 * weightE x := fun x hx => ih x hx _ (ho x hx) (by have := hmem x hx; omega)
    clear ih h1 h2 hmem hw hs ho
    induction ks with
    | nil => simp [plL, sumW]
    | cons x l ihl =>
      simp only [plL, sumW]
      have h1 := hall x (by simp)
      have h2 := ihl (fun y hy => hall y (by simp [hy]))
      omega
  simp only [oneE] at h1
  split at h1
  · cases h1
  rename_i hn
  split at h1
  · rename_i hk
    subst hk
    simp [plE, weightE]
    omega
  · split at h1
    · rename_i hk
      subst hk
      simp [plE, weightE]
      omega
    · split at h1
      · rename_i hk0 hk1 hk
        have hk4 : k ≠ 4 := by omega
        simp only [weightE, if_neg hk4] at h2 ⊢
        simp only [Bool.and_eq_true, decide_eq_true_eq, oneL_all, List.all_eq_true] at h1
        have h3 := hsum (by omega) h1.2
        have h4 := weightL_sum ks 0 (by omega)
        simp only [plE, if_neg hk1]
        rcases hk with hk | hk
        · subst hk; simp; omega
        · subst hk; simp; omega
      · split at h1
        · rename_i hk0 hk1 hk23 hk
          subst hk
          simp only [Bool.and_eq_true, decide_eq_true_eq, oneL_all, List.all_eq_true] at h1
          obtain ⟨⟨hl, hrep⟩, hall⟩ := h1
          match ks, hl with
          | [x], _ =>
            have ho := hall x (by simp)
            have hx5 := weightE_le x
            have hwl : weightL 0 [x] = min 5000 (weightE x) := by simp [weightL]
            simp only [weightE, if_true, hwl] at h2 ⊢
            simp only [repB, Bool.and_eq_true, Bool.or_eq_true, decide_eq_true_eq] at hrep
            have hof : 1 ≤ oftenE lo hi := by unfold oftenE; omega
            have hwx : weightE x ≤ 4000 := by
              rcases Nat.lt_or_ge 4000 (weightE x) with h9 | h9
              · have : min 5000 (weightE x) * 1 ≤ min 5000 (weightE x) * oftenE lo hi := Nat.mul_le_mul_left _ hof
                omega
              · exact h9
            rw [show min 5000 (weightE x) = weightE x by omega] at h2 ⊢
            have hcap : weightE x * oftenE lo hi ≤ 4000 := by omega
            rw [show min 5000 (weightE x * oftenE lo hi) = weightE x * oftenE lo hi by omega]
            have h3 := ih x (by simp) _ ho hwx
            simp only [plE, plR]
            have hw1 : 1 ≤ weightE x := by cases x; simp [weightE]
            simp only [show ¬ ((4 : Int) = 1) by decide, show ¬ ((4 : Int) = 2) by decide, show ¬ ((4 : Int) = 3) by decide, if_false, if_true]
            rcases hrep.2 with hh | ⟨⟨hh1, hh2⟩, hh3⟩
            · rw [if_pos hh]
              by_cases hlo : lo = 0
              · rw [if_pos hlo]
                have : weightE x * 1 ≤ weightE x * oftenE lo hi := Nat.mul_le_mul_left _ hof
                omega
              · rw [if_neg hlo]
                have hoe : oftenE lo hi = lo.toNat := by unfold oftenE; omega
                rw [hoe]
                obtain ⟨n, hn⟩ : ∃ n, lo.toNat = n := ⟨_, rfl⟩
                rw [hn]
                have hn1 : 1 ≤ n := by omega
                have h5 : n * (plE x + 1) ≤ n * (2 * weightE x) := Nat.mul_le_mul_left n h3
                have h6 : n * (plE x + 1) = n * plE x + n := by rw [Nat.mul_add, Nat.mul_one]
                have h7 : n * (2 * weightE x) = 2 * (weightE x * n) := by rw [Nat.mul_comm n, Nat.mul_assoc]
                omega
            · rw [if_neg (by omega)]
              have hoe : oftenE lo hi = hi.toNat := by unfold oftenE; omega
              rw [hoe]
              obtain ⟨n, hn⟩ : ∃ n, hi.toNat = n := ⟨_, rfl⟩
              rw [hn]
              have h5 : n * (plE x + 1) ≤ n * (2 * weightE x) := Nat.mul_le_mul_left n h3
              have h6 : n * (plE x + 1) = n * plE x + n := by rw [Nat.mul_add, Nat.mul_one]
              have h7 : n * (2 * weightE x) = 2 * (weightE x * n) := by rw [Nat.mul_comm n, Nat.mul_assoc]
              omega
        · cases h1

/-! ### what is laid -/
/-- a place that may be, where there are n -/
def OkPl (n : Nat) (q : Pl) : Prop := (∀ y ∈ q.next, y < n) ∧ (∀ c, hasB q.set c = true → 0 < q.next.length) ∧ q.next.length ≤ 1000 ∧ SetOk q.set
theorem OkPl.mono {n k : Nat} {q : Pl} (h : OkPl n q) (hk : n ≤ k) : OkPl k q := ⟨fun y hy => Nat.lt_of_lt_of_le (h.1 y hy) hk, h.2⟩
theorem has_zero (c : Nat) : hasB zeroB c = false := by
  unfold hasB wordB zeroB
  have : ∀ i : Nat, ([0, 0, 0, 0] : List Nat)[i]?.getD 0 = 0 := by
    intro i
    match i with
    | 0 => rfl
    | 1 => rfl
    | 2 => rfl
    | 3 => rfl
    | i + 4 => rfl
  simp [this]
theorem OkPl.open_ {n : Nat} {l : List Nat} (h : ∀ y ∈ l, y < n) (hl : l.length ≤ 1000) : OkPl n ⟨true, zeroB, l⟩ := ⟨h, fun c hc => (by have h2 := has_zero c; rw [show hasB zeroB c = true from hc] at h2; cases h2), hl, zero_ok⟩
/-- these places lie there -/
def Agree (K : List Pl) (m : Nat) (N : List Pl) : Prop := ∀ i, i < N.length → K[m + i]? = N[i]?
theorem Agree.left {K : List Pl} {m : Nat} {N1 N2 : List Pl} (h : Agree K m (N1 ++ N2)) : Agree K m N1 := fun i hi => by
  rw [h i (by rw [List.length_append]; omega), List.getElem?_append_left hi]
theorem Agree.right {K : List Pl} {m : Nat} {N1 N2 : List Pl} (h : Agree K m (N1 ++ N2)) : Agree K (m + N1.length) N2 := fun i hi => by
  have := h (N1.length + i) (by rw [List.length_append]; omega)
  rw [List.getElem?_append_right (by omega), Nat.add_sub_cancel_left, ← Nat.add_assoc] at this
  exact this
/-- places laid from place 'm' on, so that texts of 'P' lead from place 'p' to place 'b' -/
structure LayOk (m : Nat) (N : List Pl) (P : List Nat → Prop) (p b : Nat) : Prop where
  lt : p < m + N.length
  ok : ∀ q ∈ N, OkPl (m + N.length) q
  leads : ∀ K, Agree K m N → Leads K P p b
section
variable {m p b p1 p2 : Nat} {N N1 N2 : List Pl} {P Q P1 P2 : List Nat → Prop}
theorem LayOk.refl (hb : b < m) : LayOk m [] (fun u => u = []) b b := ⟨by simpa using hb, fun q hq => (by cases hq), fun K _ => Leads.refl K b⟩
theorem LayOk.congr (h : LayOk m N P p b) (e : ∀ u, P u ↔ Q u) : LayOk m N Q p b := ⟨h.lt, h.ok, fun K hK => (h.leads K hK).congr e⟩
theorem LayOk.byte {s : List Nat} (hs : SetOk s) (hb : b < m) : LayOk m [⟨false, s, [b]⟩] (fun u => ∃ c, u = [c] ∧ hasB s c = true) m b := by
  refine ⟨by simp, fun q hq => ?_, fun K hK => ?_⟩
  · rw [List.mem_singleton] at hq
    subst hq
    exact ⟨fun y hy => by simp at hy; subst hy; simp; omega, fun _ _ => by simp, by simp, hs⟩
  · have h0 := hK 0 (by simp)
    exact Leads.byte (by simpa using h0) (by omega)
theorem LayOk.then (h : LayOk m N1 P1 p1 b) (k : LayOk (m + N1.length) N2 P2 p2 p1) : LayOk m (N1 ++ N2) (fun u => ∃ x y, u = x ++ y ∧ P2 x ∧ P1 y) p2 b := by
  have hl : m + (N1 ++ N2).length = m + N1.length + N2.length := by rw [List.length_append]; omega
  refine ⟨by rw [hl]; exact k.lt, fun q hq => ?_, fun K hK => ?_⟩
  · rw [hl]
    rcases List.mem_append.1 hq with hq | hq
    · exact (h.ok q hq).mono (by omega)
    · exact k.ok q hq
  · exact (k.leads K hK.right).trans (h.leads K hK.left)
/-- one more copy, or nothing -/
theorem LayOk.opt (hb : b < m) (h : LayOk m N1 P1 p1 b) (k : LayOk (m + N1.length) N2 P2 p2 p1) : LayOk m (N1 ++ N2 ++ [⟨true, zeroB, [p2, b]⟩]) (fun u => u = [] ∨ ∃ x y, u = x ++ y ∧ P2 x ∧ P1 y) (m + (N1 ++ N2).length) b := by
  have h12 := h.then k
  have hl : m + (N1 ++ N2 ++ [(⟨true, zeroB, [p2, b]⟩ : Pl)]).length = m + (N1 ++ N2).length + 1 := by simp [Nat.add_assoc]
  refine ⟨by rw [hl]; omega, fun q hq => ?_, fun K hK => ?_⟩
  · rw [hl]
    rcases List.mem_append.1 hq with hq | hq
    · exact (h12.ok q hq).mono (by omega)
    · rw [List.mem_singleton] at hq
      subst hq
      refine OkPl.open_ (fun y hy => ?_) (by simp)
      simp only [List.mem_cons, List.not_mem_nil, or_false] at hy
      have := h12.lt
      rcases hy with rfl | rfl <;> omega
  · have h0 := hK.right 0 (by simp)
    rw [Nat.add_zero] at h0
    refine Leads.open2 (q := ⟨true, zeroB, [p2, b]⟩) (by simpa using h0) rfl (by omega) [fun u => ∃ x y, u = x ++ y ∧ P2 x ∧ P1 y, fun u => u = []] rfl (fun i hi => ?_) (fun u => ?_)
    · have hi2 : i < 2 := hi
      match i, hi2 with
      | 0, _ => exact h12.leads K hK.left
      | 1, _ => exact Leads.refl K b
    · simp only [List.mem_cons, List.not_mem_nil, or_false, exists_eq_or_imp, exists_eq_left]
      exact or_comm
/-- again and again: from the open place, and from the copy's -/
theorem LayOk.star (hm : 0 < m) (hb : b < m) (h : LayOk (m + 1) N P p m) : LayOk m (⟨true, zeroB, [p, b]⟩ :: N) (fun u => ∃ n, powL P n u) m b ∧ LayOk m (⟨true, zeroB, [p, b]⟩ :: N) (fun u => ∃ x y, u = x ++ y ∧ P x ∧ ∃ n, powL P n y) p b := by
  have hl : m + ((⟨true, zeroB, [p, b]⟩ : Pl) :: N).length = m + 1 + N.length := by simp; omega
  have hok : ∀ q ∈ ((⟨true, zeroB, [p, b]⟩ : Pl) :: N), OkPl (m + ((⟨true, zeroB, [p, b]⟩ : Pl) :: N).length) q := by
    intro q hq
    rw [hl]
    rcases List.mem_cons.1 hq with rfl | hq
    · refine OkPl.open_ (fun y hy => ?_) (by simp)
      simp only [List.mem_cons, List.not_mem_nil, or_false] at hy
      have := h.lt
      rcases hy with rfl | rfl <;> omega
    · exact h.ok q hq
  have hK1 : ∀ K, Agree K m ((⟨true, zeroB, [p, b]⟩ : Pl) :: N) → K[m]? = some ⟨true, zeroB, [p, b]⟩ ∧ Agree K (m + 1) N := by
    intro K hK
    refine ⟨by simpa using hK 0 (by simp), fun i hi => ?_⟩
    have := hK (i + 1) (by simp; omega)
    rw [show m + (i + 1) = m + 1 + i by omega] at this
    simpa using this
  have hs : ∀ K, Agree K m ((⟨true, zeroB, [p, b]⟩ : Pl) :: N) → Leads K (fun u => ∃ n, powL P n u) m b := fun K hK => Leads.star (hK1 K hK).1 (by omega) (h.leads K (hK1 K hK).2)
  exact ⟨⟨by rw [hl]; omega, hok, hs⟩, ⟨by rw [hl]; exact h.lt, hok, fun K hK => (h.leads K (hK1 K hK).2).trans (hs K hK)⟩⟩
/-- alternatives, so far -/
structure AltOk (m : Nat) (N : List Pl) (Ps : List (List Nat → Prop)) (ps : List Nat) (b : Nat) : Prop where
  len : Ps.length = ps.length
  lt : ∀ p ∈ ps, p < m + N.length
  ok : ∀ q ∈ N, OkPl (m + N.length) q
  leads : ∀ K, Agree K m N → ∀ k (h : k < ps.length), Leads K (Ps[k]'(by omega)) ps[k] b
theorem AltOk.nil (m b : Nat) : AltOk m [] [] [] b := ⟨rfl, fun p hp => (by cases hp), fun q hq => (by cases hq), fun K _ k hk => absurd hk (by simp)⟩
theorem AltOk.snoc {Ps : List (List Nat → Prop)} {ps : List Nat} (h : AltOk m N1 Ps ps b) (k : LayOk (m + N1.length) N2 P p b) : AltOk m (N1 ++ N2) (Ps ++ [P]) (ps ++ [p]) b := by
  have hl : m + (N1 ++ N2).length = m + N1.length + N2.length := by rw [List.length_append]; omega
  refine ⟨by simp [h.len], fun q hq => ?_, fun q hq => ?_, fun K hK i hi => ?_⟩
  · rw [hl]
    rcases List.mem_append.1 hq with hq | hq
    · have := h.lt q hq; omega
    · rw [List.mem_singleton] at hq; subst hq; exact k.lt
  · rw [hl]
    rcases List.mem_append.1 hq with hq | hq
    · exact (h.ok q hq).mono (by omega)
    · exact k.ok q hq
  · have hlen := h.len
    rcases Nat.lt_or_ge i ps.length with hi2 | hi2
    · simp only [List.getElem_append_left hi2, List.getElem_append_left (show i < Ps.length by omega)]
      exact h.leads K hK.left i hi2
    · have hie : i = ps.length := by rw [List.length_append, List.length_singleton] at hi; omega
      subst hie
      have e1 : (ps ++ [p])[ps.length]'hi = p := by simp
      have e2 : (Ps ++ [P])[ps.length]'(by simp; omega) = P := by simp [← hlen]
      rw [e1, e2]
      exact k.leads K hK.right
theorem AltOk.done {Ps : List (List Nat → Prop)} {ps : List Nat} (h : AltOk m N Ps ps b) (hm : 0 < m) (hl : ps.length ≤ 1000) : LayOk m (N ++ [⟨true, zeroB, ps⟩]) (fun u => ∃ P ∈ Ps, P u) (m + N.length) b := by
  have hlen : m + (N ++ [(⟨true, zeroB, ps⟩ : Pl)]).length = m + N.length + 1 := by simp [Nat.add_assoc]
  refine ⟨by rw [hlen]; omega, fun q hq => ?_, fun K hK => ?_⟩
  · rw [hlen]
    rcases List.mem_append.1 hq with hq | hq
    · exact (h.ok q hq).mono (by omega)
    · rw [List.mem_singleton] at hq
      subst hq
      exact OkPl.open_ (fun y hy => by have := h.lt y hy; omega) hl
  · have h0 := hK.right 0 (by simp)
    rw [Nat.add_zero] at h0
    exact Leads.open2 (q := ⟨true, zeroB, ps⟩) (by simpa using h0) rfl (by omega) Ps h.len (fun i hi => h.leads K hK.left i hi) (fun u => Iff.rfl)
end
end Go.Proofs.YtmggajpecgnjkaaDoor

/-
  Contracts of the program's copies and repeat, where that of lay is known of the kid. No statement of the seat is proved here.
-/
namespace Go.Proofs.YtmggajpecgnjkaaDoor
open Go Go.RowKit
set_option maxRecDepth 100000

/-- a walk's block and its places -/
def WA (S : Nat → Prop) (w : World) (g : Nat) (A : Option Addr) (c : Nat) (M : List Pl) (h s r : Value) : Prop :=
  Blk w g 112 #[.slice A M.length c, h, s, r] ∧ RowP S w A M.length c M ∧ (∀ b, inA A b → g < b) ∧ (∀ b, S b → b ≠ g)
/-- places were laid -/
def Grew (w : World) (g : Nat) (A : Option Addr) (w' : World) (A' : Option Addr) : Prop := Only (fun b => b = g ∨ inA A b) w w' ∧ ∀ b, inA A' b → inA A b ∨ (w.heap.size ≤ b ∧ b < w'.heap.size)
section
variable {S T : Nat → Prop} {w w1 w2 : World} {g : Nat} {A A1 A2 : Option Addr} {c : Nat} {M : List Pl} {h s r : Value}
theorem WA.ext (a : WA S w g A c M h s r) (hb : Below w.heap.size w w1) : WA S w1 g A c M h s r := ⟨a.1.ext hb, a.2.1.ext hb, a.2.2⟩
theorem WA.mono (a : WA S w g A c M h s r) (hs : ∀ b, S b → b < w.heap.size → T b) (ht : ∀ b, T b → b ≠ g) : WA T w g A c M h s r := ⟨a.1, a.2.1.mono hs, a.2.2.1, ht⟩
theorem WA.lt (a : WA S w g A c M h s r) : g < w.heap.size := a.1.lt
theorem WA.ltA (a : WA S w g A c M h s r) : ∀ b, inA A b → b < w.heap.size := fun b hb => a.2.1.lt hb
theorem WA.only (a : WA S w g A c M h s r) (ho : Only T w w1) (h1 : ∀ b, T b → b ≠ g ∧ ¬ inA A b ∧ ¬ S b) : WA S w1 g A c M h s r :=
  ⟨a.1.only ho (fun ht => (h1 g ht).1 rfl), a.2.1.only ho (fun b hb => (h1 b hb).2.1) (fun b hb => (h1 b hb).2.2), a.2.2⟩
theorem Grew.refl (w : World) (g : Nat) (A : Option Addr) : Grew w g A w A := ⟨Only.refl _ _, fun b hb => .inl hb⟩
theorem Grew.trans (a : Grew w g A w1 A1) (b : Grew w1 g A1 w2 A2) : Grew w g A w2 A2 := by
  have h1 := a.1.size
  have h2 := b.1.size
  refine ⟨a.1.trans b.1 (fun i hi hb => ?_), fun i hi => ?_⟩
  · rcases hb with hb | hb
    · exact .inl hb
    · rcases a.2 i hb with h3 | h3
      · exact .inr h3
      · omega
  · rcases b.2 i hi with h3 | h3
    · rcases a.2 i h3 with h4 | h4
      · exact .inl h4
      · exact .inr ⟨h4.1, by omega⟩
    · exact .inr ⟨by omega, h3.2⟩
theorem Grew.ext (a : Grew w g A w1 A1) (hb : Below w1.heap.size w1 w2) : Grew w g A w2 A1 := ⟨a.1.trans (Only.of_ext (S := fun b => b = g ∨ inA A b) hb) (fun _ _ h => h), fun b h => (a.2 b h).imp id (fun h => ⟨h.1, Nat.lt_of_lt_of_le h.2 hb.size⟩)⟩
theorem Grew.from_ (hb : Below w.heap.size w w1) (a : Grew w1 g A w2 A2) : Grew w g A w2 A2 := ((Grew.refl w g A).ext hb).trans a
/-- what lies apart from the walk stays -/
theorem Grew.blk (a : Grew w g A w1 A1) {b : Nat} {t : TypeId} {cs : Array Value} (hb : Blk w b t cs) (h1 : b ≠ g) (h2 : ¬ inA A b) : Blk w1 b t cs := hb.only a.1 (fun h => h.elim h1 h2)
theorem Grew.re (a : Grew w g A w1 A1) (hA : ∀ b, inA A b → g < b) {x : Ex} {cs : List Value} (hx : ReR (fun b => b < g) w x cs) : ReR (fun b => b < g) w1 x cs :=
  hx.only a.1 (fun b hb h => h.elim (fun e => by omega) (fun e => by have := hA b e; omega))
end
/-- what lay leaves -/
def LayP (S : Nat → Prop) (w : World) (g : Nat) (A : Option Addr) (M : List Pl) (h s r : Value) (n : Nat) (P : List Nat → Prop) (behind : Nat) (e : Ending) (w' : World) : Prop :=
  ∃ (p : Nat) (A' : Option Addr) (c' : Nat) (N : List Pl), e = .returned (.int .i64 (p : Int)) ∧ WA (fun b => S b ∨ w.heap.size ≤ b) w' g A' c' (M ++ N) h s r ∧ Grew w g A w' A' ∧ N.length ≤ n ∧ LayOk M.length N P p behind
/-- lay's contract, of one expression -/
def LayC (Q : Nat) (x : Ex) : Prop := ∀ (S : Nat → Prop) (w : World) (g : Nat) (A : Option Addr) (c : Nat) (M : List Pl) (h s r : Value) (cs : List Value) (behind deep : Nat), WA S w g A c M h s r → ReR (fun b => b < g) w x cs → behind < M.length → M.length + plE x ≤ Q → oneE deep x = true →
  Calls Tryd.prog 89 #[.pointer (some ⟨g, 0, none⟩), reV cs, .int .i64 (behind : Int)] w (LayP S w g A M h s r (plE x) (inE x) behind)

set_option maxHeartbeats 8000000 in
theorem laycopies_of (Q : Nat) (x : Ex) (hx : LayC Q x) (S : Nat → Prop) (w : World) (g : Nat) (A : Option Addr) (c : Nat) (M : List Pl) (h s r : Value) (cs : List Value) (n behind deep : Nat) (hW : WA S w g A c M h s r) (hr : ReR (fun b => b < g) w x cs) (hb : behind < M.length) (hn : n ≤ 32) (hp : M.length + n * plE x ≤ Q) (ho : oneE deep x = true) :
    Calls Tryd.prog 127 #[.pointer (some ⟨g, 0, none⟩), reV cs, .int .i64 (n : Int), .int .i64 (behind : Int)] w (LayP S w g A M h s r (n * plE x) (powL (inE x) n) behind) := by
  obtain ⟨k, q0, q1, q2, q3, ks, B, d, lo, hi, hxe, rfl, h1, h2, -, -, -, -, -⟩ := hr.fields
  have hgl := hW.lt
  have hni : (n : Int) ≤ 32 := by omega
  obtain ⟨w1, hw1⟩ : ∃ w1, w1 = w.alloc (Obj.cells #[.int .i64 k, .int .u64 (q0 : Int), .int .u64 (q1 : Int), .int .u64 (q2 : Int), .int .u64 (q3 : Int), .slice B ks.length d, .int .i64 lo, .int .i64 hi] 27) := ⟨_, rfl⟩
  have hb1 : Below w.heap.size w w1 := by rw [hw1]; exact (Below.refl _ _).alloc (Nat.le_refl _) _
  have hs1 : w1.heap.size = w.heap.size + 1 := by rw [hw1]; simp
  have HB1 : Hid (Blk w1 w.heap.size 27 #[.int .i64 k, .int .u64 (q0 : Int), .int .u64 (q1 : Int), .int .u64 (q2 : Int), .int .u64 (q3 : Int), .slice B ks.length d, .int .i64 lo, .int .i64 hi]) := Lib.hid (by rw [hw1]; exact Blk.new w _ _)
  have HlA := Lib.hid hW.ltA
  have HgA := Lib.hid hW.2.2.1
  have HW1 : Hid (WA (fun b => (S b ∧ b < w.heap.size) ∨ w1.heap.size ≤ b) w1 g A c (M ++ []) h s r) := Lib.hid (by
    rw [List.append_nil]
    have a := hW.mono (T := fun b => S b ∧ b < w.heap.size) (fun b hb hl => ⟨hb, hl⟩) (fun b hb => hW.2.2.2 b hb.1)
    exact (a.ext hb1).mono (fun b hb _ => .inl hb) (fun b hb => hb.elim (fun h => hW.2.2.2 b h.1) (fun h => by omega)))
  have Hr1 := Lib.hid (hr.ext hb1)
  have Hb1 := Lib.hid hb1
  have Hw1 := Lib.hid hw1
  have Hs1 := Lib.hid hs1
  have Hx := Lib.hid hx
  have Hp := Lib.hid hp
  have HL0 : Hid (LayOk M.length [] (powL (inE x) 0) behind behind) := Lib.hid (LayOk.refl hb)
  clear hW hb1 hw1 hs1 hx hxe hr hp hb
  show Calls Tryd.prog 127 #[.pointer (some ⟨g, 0, none⟩), .agg #[.int .i64 k, .int .u64 (q0 : Int), .int .u64 (q1 : Int), .int .u64 (q2 : Int), .int .u64 (q3 : Int), .slice B ks.length d, .int .i64 lo, .int .i64 hi], .int .i64 (n : Int), .int .i64 (behind : Int)] w _
  go_enter Tryd.func127, Tryd.ntmps127
  go_wp2
  rw [← Hw1.out]
  go_loopw [3, 10] (fun pv iv wr => ∃ (i p : Nat) (A1 : Option Addr) (c1 : Nat) (N : List Pl), pv = .int .i64 (p : Int) ∧ iv = .int .i64 (i : Int) ∧ i ≤ n ∧ Hid (WA (fun b => (S b ∧ b < w.heap.size) ∨ w1.heap.size ≤ b) wr g A1 c1 (M ++ N) h s r) ∧ Hid (Grew w1 g A wr A1) ∧ Hid (N.length ≤ i * plE x) ∧ Hid (LayOk M.length N (powL (inE x) i) p behind)) (fun _ iv _ => n - (intOf iv).toNat)
  case atStart => exact ⟨0, behind, A, c, [], rfl, rfl, by omega, HW1, Lib.hid (Grew.refl _ _ _), Lib.hid (by simp), HL0⟩
  case round =>
    clear HW1 HL0
    obtain ⟨i, p, A1, c1, N, rfl, rfl, hi, HW, HG, HN, HL⟩ := hrel
    have Hs : Hid (w1.heap.size ≤ wr.heap.size) := Lib.hid HG.out.1.size
    have hbx := HG.out.blk HB1.out (by omega) (fun hin => by have := HlA.out _ hin; omega)
    by_cases hlt : i < n
    · have hii : (i : Int) < (n : Int) := by omega
      have hp1 : (M ++ N).length + plE x ≤ Q := by
        have a1 := HN.out
        have a2 := Hp.out
        have a3 : (i + 1) * plE x ≤ n * plE x := Nat.mul_le_mul_right _ hlt
        rw [Nat.add_mul, Nat.one_mul] at a3
        rw [List.length_append]
        omega
      have hpl : p < (M ++ N).length := by have := HL.out.lt; rw [List.length_append]; exact this
      have HC := Lib.hid (Hx.out _ wr g A1 c1 (M ++ N) h s r _ p deep HW.out (HG.out.re HgA.out Hr1.out) hpl hp1 ho)
      have c0 := hbx.cell 0
      have c1' := hbx.cell 1
      have c2 := hbx.cell 2
      have c3 := hbx.cell 3
      have c4 := hbx.cell 4
      have c5 := hbx.cell 5
      have c6 := hbx.cell 6
      have c7 := hbx.cell 7
      clear hp1 hpl hbx
      go_wp2_with fail
      refine HC.out.mono ?_
      rintro e w3 ⟨p2, A2, c2', N2, rfl, hW2, hG2, hN2, hL2⟩
      have HW2 : Hid (WA (fun b => (S b ∧ b < w.heap.size) ∨ w1.heap.size ≤ b) w3 g A2 c2' (M ++ (N ++ N2)) h s r) := Lib.hid (by
        rw [← List.append_assoc]
        exact hW2.mono (fun b hb _ => hb.elim id (fun h => .inr (Nat.le_trans Hs.out h))) (fun b hb => hb.elim (fun h => HW.out.2.2.2 b (.inl h)) (fun h => HW.out.2.2.2 b (.inr h))))
      have HG2 := Lib.hid (HG.out.trans hG2)
      have HN2 : Hid ((N ++ N2).length ≤ (i + 1) * plE x) := Lib.hid (by rw [List.length_append, Nat.add_mul, Nat.one_mul]; have := HN.out; omega)
      have HL2 : Hid (LayOk M.length (N ++ N2) (powL (inE x) (i + 1)) p2 behind) := Lib.hid (by
        rw [List.length_append] at hL2
        exact HL.out.then hL2)
      clear hW2 hG2 hN2 hL2 HC c0 c1' c2 c3 c4 c5 c6 c7
      go_wp2
      go_roundw
      case rel => exact ⟨i + 1, p2, A2, c2', N ++ N2, rfl, by simp, by omega, HW2, HG2, HN2, HL2⟩
      case measure => simp [intOf]; omega
    · obtain rfl : i = n := by omega
      clear hbx hlt
      go_wp2
      go_ret
      exact ⟨p, A1, c1, N, rfl, HW.out.mono (fun b hb hl => hb.elim (fun h => .inl h.1) (fun h => .inr (by have := Hs1.out; omega))) (fun b hb => hb.elim (fun h => by
        by_cases hl : b < w.heap.size
        · exact HW.out.2.2.2 b (.inl ⟨h, hl⟩)
        · omega) (fun h => by omega)), Grew.from_ Hb1.out HG.out, HN.out, HL.out⟩
end Go.Proofs.YtmggajpecgnjkaaDoor

/-
  A place's next, written; numbers of places that were laid at once. No statement of the seat is proved here.
-/
namespace Go.Proofs.YtmggajpecgnjkaaDoor
open Go Go.RowKit
set_option maxRecDepth 100000

theorem RowO.putJ {w : World} {e : TypeId} {sz g off m c : Nat} {xs : List Value} (h : RowO w e sz (some ⟨g, off, none⟩) m c xs) {j : Nat} (hj : j < m * sz) (v : Value) : RowO (w.setCell ⟨g, off + j, none⟩ v) e sz (some ⟨g, off, none⟩) m c (xs.set j v) := by
  have hl := h.1
  refine ⟨by rw [List.length_set]; exact h.1, ?_⟩
  rcases h.2 with ⟨h1, _, _⟩ | ⟨g', off', cs, h1, h2, h3, hb, h5, h6⟩
  · cases h1
  · injection h1 with h1
    injection h1 with h1 h1' _
    subst h1 h1'
    have hle : m * sz ≤ c * sz := Nat.mul_le_mul_right _ h2
    refine .inr ⟨g, off, _, rfl, h2, h3, hb.put (off + j) v, by simpa using h5, fun i u hu => ?_⟩
    rw [List.getElem?_set] at hu
    rw [Array.getElem?_setIfInBounds]
    by_cases hij : j = i
    · subst hij
      rw [if_pos rfl] at hu
      split at hu
      · rw [if_pos rfl, if_pos (by omega)]; exact hu
      · cases hu
    · rw [if_neg hij] at hu
      rw [if_neg (by omega)]
      exact h6 i u hu
/-- the place of which 'next' is told anew -/
def Pl.setNext (p : Pl) (l : List Nat) : Pl := ⟨p.open_, p.set, l⟩
theorem RowP.setNext {S : Nat → Prop} {w : World} {g o m c : Nat} {M : List Pl} (h : RowP S w (some ⟨g, o, none⟩) m c M) {k : Nat} (hk : k < M.length) {B : Option Addr} {l : List Nat} {d : Nat} (hl : l.length ≤ d) (hd : d ≤ maxLen) (hi : IntsAt (fun b => S b ∧ ¬ inA (some ⟨g, o, none⟩) b) w B l) :
    RowP S (w.setCell ⟨g, o + (k * 6 + 5), none⟩ (.slice B l.length d)) (some ⟨g, o, none⟩) m c (M.set k ((M[k]).setNext l)) := by
  obtain ⟨xs, h1, h2, h3⟩ := h
  have hj : k * 6 + 5 < m * 6 := by omega
  have hxl := h1.1
  have hkeep : ∀ b, (S b ∧ ¬ inA (some ⟨g, o, none⟩) b) → b < w.heap.size → (w.setCell ⟨g, o + (k * 6 + 5), none⟩ (.slice B l.length d)).heap[b]? = w.heap[b]? := fun b hb _ => Below.heap_setCell w _ _ b (fun e => hb.2 ((inA_some _ _ _ _).2 (by exact e.symm)))
  refine ⟨xs.set (k * 6 + 5) (.slice B l.length d), h1.putJ hj _, by rw [List.length_set]; exact h2, fun i hi' => ?_⟩
  rw [List.length_set] at hi'
  rw [List.getElem_set]
  by_cases hik : k = i
  · subst hik
    rw [if_pos rfl]
    obtain ⟨a0, a1, a2, a3, B', d', e1, e2, e3, e4, e5, e6⟩ := h3 k hk
    refine ⟨a0, a1, a2, a3, B, d, e1, e2, hl, hd, ?_, hi.keep hkeep (fun b hb _ => hb)⟩
    apply List.ext_getElem?
    intro j
    have e5j := congrArg (fun q : List Value => q[j]?) e5
    simp only [List.getElem?_take, List.getElem?_drop] at e5j ⊢
    rw [List.getElem?_set]
    by_cases hj6 : j < 6
    · rw [if_pos hj6] at e5j ⊢
      match j, hj6 with
      | 0, _ => rw [if_neg (by omega), e5j]; rfl
      | 1, _ => rw [if_neg (by omega), e5j]; rfl
      | 2, _ => rw [if_neg (by omega), e5j]; rfl
      | 3, _ => rw [if_neg (by omega), e5j]; rfl
      | 4, _ => rw [if_neg (by omega), e5j]; rfl
      | 5, _ => rw [if_pos rfl, if_pos (by omega)]; rfl
    · rw [if_neg hj6]
      match j, hj6 with
      | 0, h => omega
      | 1, h => omega
      | 2, h => omega
      | 3, h => omega
      | 4, h => omega
      | 5, h => omega
      | j + 6, _ => rfl
  · rw [if_neg hik]
    have e : ((xs.set (k * 6 + 5) (.slice B l.length d)).drop (i * 6)).take 6 = (xs.drop (i * 6)).take 6 := by
      apply List.ext_getElem?
      intro j
      simp only [List.getElem?_take, List.getElem?_drop]
      by_cases hj6 : j < 6
      · rw [if_pos hj6, if_pos hj6, List.getElem?_set, if_neg (by omega)]
      · rw [if_neg hj6, if_neg hj6]
    rw [e]
    exact (h3 i hi').keep hkeep (fun b hb _ => hb)
theorem ints_two {S : Nat → Prop} {w' : World} {t : TypeId} {b p q : Nat} (hB : Blk w' b t #[.int .i64 (p : Int), .int .i64 (q : Int)]) (hS : S b) : IntsAt S w' (some ⟨b, 0, none⟩) [p, q] :=
  .inr ⟨b, 0, rfl, hS, fun j hj => by
    have hj2 : j < 2 := hj
    match j, hj2 with
    | 0, _ => exact hB.cell 0
    | 1, _ => exact hB.cell 1⟩
theorem ints_one {S : Nat → Prop} {w' : World} {t : TypeId} {b p : Nat} (hB : Blk w' b t #[.int .i64 (p : Int)]) (hS : S b) : IntsAt S w' (some ⟨b, 0, none⟩) [p] :=
  .inr ⟨b, 0, rfl, hS, fun j hj => by
    have hj2 : j < 1 := hj
    match j, hj2 with
    | 0, _ => exact hB.cell 0⟩
/-- an open place as cells -/
theorem plAt_open {S : Nat → Prop} {w : World} {B : Option Addr} {l : List Nat} {d : Nat} (hl : l.length ≤ d) (hd : d ≤ maxLen) (h : IntsAt S w B l) : PlAt S w ⟨true, zeroB, l⟩ [.bool true, .int .u64 0, .int .u64 0, .int .u64 0, .int .u64 0, .slice B l.length d] :=
  ⟨0, 0, 0, 0, B, d, rfl, zero_ok, hl, hd, rfl, h⟩
theorem plAt_set {S : Nat → Prop} {w : World} {B : Option Addr} {l : List Nat} {d a0 a1 a2 a3 : Nat} (hs : SetOk [a0, a1, a2, a3]) (hl : l.length ≤ d) (hd : d ≤ maxLen) (h : IntsAt S w B l) : PlAt S w ⟨false, [a0, a1, a2, a3], l⟩ [.bool false, .int .u64 (a0 : Int), .int .u64 (a1 : Int), .int .u64 (a2 : Int), .int .u64 (a3 : Int), .slice B l.length d] :=
  ⟨a0, a1, a2, a3, B, d, rfl, hs, hl, hd, rfl, h⟩
/-- add, in a walk's words -/
theorem add_wa {S : Nat → Prop} {w : World} {g : Nat} {A : Option Addr} {c : Nat} {M : List Pl} {h s r : Value} (hW : WA S w g A c M h s r) (p : Pl) (cs : List Value) (hp : PlAt (fun b => S b ∧ ¬ inA A b) w p cs) (hm : M.length ≤ 1000000000) :
    Calls Tryd.prog 88 #[.pointer (some ⟨g, 0, none⟩), .agg cs.toArray] w fun e w' => e = .returned (.int .i64 (M.length : Int)) ∧ ∃ A' c', WA S w' g A' c' (M ++ [p]) h s r ∧ Grew w g A w' A' := by
  have hgl := hW.lt
  refine (add_any S w g A M.length c M h s r p cs hW.1 hW.2.1 (fun b hb => by have := hW.2.2.1 b hb; omega) hW.2.2.2 hp hm).mono ?_
  rintro e w' ⟨he, A', c', h1, h2, h3, h4⟩
  have hl : (M ++ [p]).length = M.length + 1 := by simp
  refine ⟨he, A', c', ⟨by rw [hl]; exact h1, by rw [hl]; exact h2, fun b hb => (h4 b hb).elim (hW.2.2.1 b) (fun h => by omega), hW.2.2.2⟩, ⟨h3, h4⟩⟩
end Go.Proofs.YtmggajpecgnjkaaDoor

/-
  The contract of the program's repeat, where that of lay is known of the kid. No statement of the seat is proved here.
-/
namespace Go.Proofs.YtmggajpecgnjkaaDoor
open Go Go.RowKit
set_option maxRecDepth 100000

theorem rep_texts {x : Ex} {nl a : Nat} {hi : Int} (hh : hi ≠ -1) (ha : hi = (nl : Int) + (a : Int)) (u : List Nat) : (∃ y z, u = y ++ z ∧ powL (inE x) nl y ∧ upTo (inE x) 0 a z) ↔ inRep (nl : Int) hi [x] u := by
  simp only [inRep, upTo]
  constructor
  · rintro ⟨y, z, rfl, hy, m, _, hm, hz⟩
    exact ⟨nl + m, by omega, .inr (by omega), (powL_add _ _ _ _).2 ⟨y, z, rfl, hy, hz⟩⟩
  · rintro ⟨n, h1, h2, h3⟩
    have h2' : (n : Int) ≤ hi := h2.elim (fun h => absurd h hh) id
    obtain ⟨m, rfl⟩ : ∃ m, n = nl + m := ⟨n - nl, by omega⟩
    obtain ⟨y, z, rfl, hy, hz⟩ := (powL_add _ _ _ _).1 h3
    exact ⟨y, z, rfl, hy, m, Nat.zero_le _, by omega, hz⟩
theorem upTo_opt {P : List Nat → Prop} {i : Nat} (u : List Nat) : (u = [] ∨ ∃ x y, u = x ++ y ∧ P x ∧ upTo P 0 i y) ↔ upTo P 0 (i + 1) u := by
  unfold upTo
  constructor
  · rintro (rfl | ⟨x, y, rfl, hx, m, h1, h2, h3⟩)
    · exact ⟨0, Nat.le_refl _, Nat.zero_le _, rfl⟩
    · exact ⟨m + 1, Nat.zero_le _, by omega, x, y, rfl, hx, h3⟩
  · rintro ⟨m, _, h2, h3⟩
    match m, h2, h3 with
    | 0, _, h3 => exact .inl h3
    | m + 1, h2, ⟨x, y, e, hx, hy⟩ => exact .inr ⟨x, y, e, hx, m, Nat.zero_le _, by omega, hy⟩
theorem upTo_zero {P : List Nat → Prop} (u : List Nat) : u = [] ↔ upTo P 0 0 u := by
  unfold upTo
  constructor
  · intro h; exact ⟨0, Nat.le_refl _, Nat.le_refl _, h⟩
  · rintro ⟨m, _, h2, h3⟩
    obtain rfl : m = 0 := by omega
    exact h3
theorem star_texts {x : Ex} (u : List Nat) : (∃ n, powL (inE x) n u) ↔ inRep 0 (-1) [x] u := by
  simp only [inRep]
  constructor
  · rintro ⟨n, h⟩; exact ⟨n, by omega, .inl (by trivial), h⟩
  · rintro ⟨n, _, _, h⟩; exact ⟨n, h⟩
theorem plus_texts {x : Ex} (k : Nat) (u : List Nat) : (∃ y z, u = y ++ z ∧ powL (inE x) k y ∧ ∃ v t, z = v ++ t ∧ inE x v ∧ ∃ n, powL (inE x) n t) ↔ inRep ((k + 1 : Nat) : Int) (-1) [x] u := by
  simp only [inRep]
  constructor
  · rintro ⟨y, z, rfl, hy, v, t, rfl, hv, n, ht⟩
    refine ⟨k + (n + 1), by omega, .inl (by trivial), (powL_add _ _ _ _).2 ⟨y, v ++ t, rfl, hy, v, t, rfl, hv, ht⟩⟩
  · rintro ⟨n, h1, _, h3⟩
    obtain ⟨m, rfl⟩ : ∃ m, n = k + (m + 1) := ⟨n - k - 1, by omega⟩
    obtain ⟨y, z, rfl, hy, v, t, rfl, hv, ht⟩ := (powL_add _ _ _ _).1 h3
    exact ⟨y, v ++ t, rfl, hy, v, t, rfl, hv, m, ht⟩

theorem plR_ge (nl : Nat) (x : Ex) : plE x + 1 ≤ plR (nl : Int) (-1) [x] := by
  simp only [plR, if_true]
  split
  · exact Nat.le_refl _
  · rename_i h
    have : 1 * plE x ≤ (nl : Int).toNat * plE x := Nat.mul_le_mul_right _ (by omega)
    omega

set_option maxHeartbeats 16000000 in
theorem repeat_of (Q : Nat) (hQ : Q ≤ 1000000000) (x : Ex) (hx : LayC Q x) (S : Nat → Prop) (w : World) (g : Nat) (A : Option Addr) (c : Nat) (M : List Pl) (h s r : Value) (cs : List Value) (behind deep : Nat) (ws : List Nat) (lo hi : Int) (hW : WA S w g A c M h s r) (hr : ReR (fun b => b < g) w (.mk 4 ws [x] lo hi) cs) (hb : behind < M.length) (hrep : repB lo hi = true) (hp : M.length + plR lo hi [x] ≤ Q) (ho : oneE deep x = true) :
    Calls Tryd.prog 111 #[.pointer (some ⟨g, 0, none⟩), reV cs, .int .i64 (behind : Int)] w (LayP S w g A M h s r (plR lo hi [x]) (inRep lo hi [x]) behind) := by
  have hgl := hW.lt
  obtain ⟨k, q0, q1, q2, q3, ks, B, d, lo', hi', e, rfl, h1, h2, -, -, -, -, h3⟩ := hr.fields
  injection e with e1 e2 e3 e4 e5
  subst e1 e3 e4 e5
  obtain ⟨kb, ko, k', r0, r1, r2, r3, ks', B', d', lo2, hi2, rfl, -, hrk, x0, x1, x2, x3, x4, x5, x6, x7, hkb⟩ := h3.kidX (k := 0) (by simp)
  rw [Nat.zero_mul, Nat.add_zero] at x0 x1 x2 x3 x4 x5 x6 x7
  have hrk : ReR (fun b => b < g) w x [.int .i64 k', .int .u64 (r0 : Int), .int .u64 (r1 : Int), .int .u64 (r2 : Int), .int .u64 (r3 : Int), .slice B' ks'.length d', .int .i64 lo2, .int .i64 hi2] := hrk
  simp only [repB, Bool.and_eq_true, Bool.or_eq_true, decide_eq_true_eq] at hrep
  obtain ⟨nl, rfl⟩ : ∃ nl : Nat, lo = (nl : Int) := ⟨lo.toNat, by omega⟩
  have hnl : nl ≤ 32 := by omega
  have hnli : (nl : Int) ≤ 32 := by omega
  have h1' : 1 ≤ d := h1
  have h2' : d ≤ maxLen := h2
  unfold maxLen at h2'
  have hba : Below w.heap.size w (w.alloc (Obj.cells #[.int .i64 4, .int .u64 (q0 : Int), .int .u64 (q1 : Int), .int .u64 (q2 : Int), .int .u64 (q3 : Int), .slice (some ⟨kb, ko, none⟩) 1 d, .int .i64 (nl : Int), .int .i64 hi] 27)) := (Below.refl _ _).alloc (Nat.le_refl _) _
  have f := fun (ad : Addr) (v : Value) (h : w.cell? ad = some v) => (World.cell?_of_block (a := ad) (hba.block _ (World.block_lt_of_cell? w ad h))).trans h
  have y0 := f _ _ x0
  have y1 := f _ _ x1
  have y2 := f _ _ x2
  have y3 := f _ _ x3
  have y4 := f _ _ x4
  have y5 := f _ _ x5
  have y6 := f _ _ x6
  have y7 := f _ _ x7
  have hD := Blk.new (w.alloc (Obj.cells #[.int .i64 4, .int .u64 (q0 : Int), .int .u64 (q1 : Int), .int .u64 (q2 : Int), .int .u64 (q3 : Int), .slice (some ⟨kb, ko, none⟩) 1 d, .int .i64 (nl : Int), .int .i64 hi] 27)) 27 #[.int .i64 0, .int .u64 0, .int .u64 0, .int .u64 0, .int .u64 0, .slice none 0 0, .int .i64 0, .int .i64 0]
  rw [World.size_alloc] at hD
  have HV := Lib.hid ((Blk.new w 27 #[.int .i64 4, .int .u64 (q0 : Int), .int .u64 (q1 : Int), .int .u64 (q2 : Int), .int .u64 (q3 : Int), .slice (some ⟨kb, ko, none⟩) 1 d, .int .i64 (nl : Int), .int .i64 hi]).alloc (Obj.cells #[.int .i64 0, .int .u64 0, .int .u64 0, .int .u64 0, .int .u64 0, .slice none 0 0, .int .i64 0, .int .i64 0] 27))
  have hone : (#[.int .i64 k', .int .u64 (r0 : Int), .int .u64 (r1 : Int), .int .u64 (r2 : Int), .int .u64 (r3 : Int), .slice B' ks'.length d', .int .i64 lo2, .int .i64 hi2] : Array Value).all (·.oneCell') = true := by simp [Value.oneCell']
  have HlA := Lib.hid hW.ltA
  have HgA := Lib.hid hW.2.2.1
  have HSg := Lib.hid hW.2.2.2
  have Hrk := Lib.hid hrk
  have HW := Lib.hid hW
  have Hx := Lib.hid hx
  have Hp := Lib.hid hp
  have Hb := Lib.hid hb
  have Hrep := Lib.hid hrep
  have HSf : Hid (∀ b, (S b ∨ w.heap.size ≤ b) → b ≠ g) := Lib.hid (fun b hb => hb.elim (fun h => HSg.out b h) (fun h => by omega))
  clear hW hx hp hb hrep hr h1 h2 h3 hrk f hba x0 x1 x2 x3 x4 x5 x6 x7 e2
  show Calls Tryd.prog 111 #[.pointer (some ⟨g, 0, none⟩), .agg #[.int .i64 4, .int .u64 (q0 : Int), .int .u64 (q1 : Int), .int .u64 (q2 : Int), .int .u64 (q3 : Int), .slice (some ⟨kb, ko, none⟩) 1 d, .int .i64 (nl : Int), .int .i64 hi], .int .i64 (behind : Int)] w _
  by_cases hh : hi = -1
  · subst hh
    go_enter Tryd.func111, Tryd.ntmps111
    go_wp2_with (refine wpList_store_re rfl _ _ rfl (w.heap.size + 1) rfl rfl rfl rfl hone hD ?_; intro w1 hB1 ho1; have hV1 := HV.out.only ho1 (by omega); have v7 := hV1.cell 7)
    have hs1 := ho1.size
    have Hk7 : Hid (w.heap.size + 1 < w1.heap.size) := Lib.hid hB1.lt
    have hb02 : Below w.heap.size w ((w.alloc (Obj.cells #[.int .i64 4, .int .u64 (q0 : Int), .int .u64 (q1 : Int), .int .u64 (q2 : Int), .int .u64 (q3 : Int), .slice (some ⟨kb, ko, none⟩) 1 d, .int .i64 (nl : Int), .int .i64 (-1)] 27)).alloc (Obj.cells #[.int .i64 0, .int .u64 0, .int .u64 0, .int .u64 0, .int .u64 0, .slice none 0 0, .int .i64 0, .int .i64 0] 27)) := ext2 w _ _
    have Hb01 : Hid (Below w.heap.size w w1) := Lib.hid (hb02.trans (ho1.below (fun i hi => by omega) (by simp; omega)))
    have HW1 : Hid (WA (fun b => (S b ∧ b < w.heap.size) ∨ w1.heap.size ≤ b) w1 g A c M h s r) := Lib.hid (by
      have a := HW.out.mono (T := fun b => S b ∧ b < w.heap.size) (fun b hb hl => ⟨hb, hl⟩) (fun b hb => HSg.out b hb.1)
      exact (((a.ext hb02).only ho1 (fun b hb => ⟨by omega, fun hin => by have := HlA.out _ hin; omega, fun h => by omega⟩)).mono (fun b hb _ => .inl hb) (fun b hb => hb.elim (fun h => HSg.out b h.1) (fun h => by have := Hb01.out.size; omega))))
    have HS0 : Hid (∀ b, ((fun b => (S b ∧ b < w.heap.size) ∨ w1.heap.size ≤ b)) b → b ≠ g) := Lib.hid HW1.out.2.2.2
    have HK1 := Lib.hid hB1
    have HV1 := Lib.hid hV1
    have Hr1 := Lib.hid ((Hrk.out.ext hb02).only ho1 (fun b hb h => by omega))
    have Hs1 : Hid (w.heap.size ≤ w1.heap.size) := Lib.hid Hb01.out.size
    clear hs1 hb02 hB1 hV1 ho1
    clear v7 y0 y1 y2 y3 y4 y5 y6 y7 hD hone
    refine (add_wa HW1.out ⟨true, zeroB, []⟩ [.bool true, .int .u64 0, .int .u64 0, .int .u64 0, .int .u64 0, .slice none 0 0] (plAt_open (Nat.le_refl _) (by simp [maxLen]) (.inl rfl)) (by have := Hp.out; omega)).mono ?_
    rintro e w2 ⟨rfl, A2, c2, hW2, hG2⟩
    have HW2 := Lib.hid hW2
    have HG2 := Lib.hid hG2
    have Hs2 : Hid (w1.heap.size ≤ w2.heap.size) := Lib.hid hG2.1.size
    have HK2 := Lib.hid (hG2.blk HK1.out (by omega) (fun hin => by have := HlA.out _ hin; omega))
    have HV2 := Lib.hid (hG2.blk HV1.out (by omega) (fun hin => by have := HlA.out _ hin; omega))
    have Hr2 := Lib.hid (hG2.re HgA.out Hr1.out)
    have HC := Lib.hid (Hx.out _ w2 g A2 c2 (M ++ [⟨true, zeroB, []⟩]) h s r _ M.length deep hW2 Hr2.out (by simp) (by have := Hp.out; have := plR_ge nl x; rw [List.length_append, List.length_singleton]; omega) ho)
    clear hW2 hG2
    have cc0 := HK2.out.cell 0
    have cc1 := HK2.out.cell 1
    have cc2 := HK2.out.cell 2
    have cc3 := HK2.out.cell 3
    have cc4 := HK2.out.cell 4
    have cc5 := HK2.out.cell 5
    have cc6 := HK2.out.cell 6
    have cc7 := HK2.out.cell 7
    go_wp2_with fail
    refine HC.out.mono ?_
    rintro e w3 ⟨p3, A3, c3', N3, rfl, hW3, hG3, hN3, hL3⟩
    have HW3 : Hid (WA (fun b => (S b ∧ b < w.heap.size) ∨ w1.heap.size ≤ b) w3 g A3 c3' (M ++ [⟨true, zeroB, []⟩] ++ N3) h s r) := Lib.hid (hW3.mono (fun b hb _ => hb.elim id (fun h => .inr (Nat.le_trans Hs2.out h))) HS0.out)
    have HG3 := Lib.hid hG3
    have Hs3 : Hid (w2.heap.size ≤ w3.heap.size) := Lib.hid hG3.1.size
    have HlA2 := Lib.hid HW2.out.ltA
    have hne7 : ∀ b, w.heap.size ≤ b → b < w1.heap.size → ¬ inA A2 b := fun b h1 h2 hin => (HG2.out.2 b hin).elim (fun h => by have := HlA.out b h; omega) (fun h => by omega)
    have HK3 := Lib.hid (hG3.blk HK2.out (by omega) (hne7 _ (by omega) Hk7.out))
    have HV3 := Lib.hid (hG3.blk HV2.out (by omega) (hne7 _ (Nat.le_refl _) (by have := Hk7.out; omega)))
    have Hr3 := Lib.hid (hG3.re HW2.out.2.2.1 Hr2.out)
    have HN3 := Lib.hid hN3
    have HL3 := Lib.hid hL3
    clear hW3 hG3 hN3 hL3 HC cc0 cc1 cc2 cc3 cc4 cc5 cc6 cc7 hne7
    have hat := HW3.out.2.1.at_ (k := M.length) (by first | (simp; done) | (simp; omega))
    obtain ⟨gA, oA, a0, a1, a2, a3, BB, dd, rfl, -, -, -, -, -, -, -, -, -, -, z5, z6⟩ := hat
    have hW4 := HW3.out.ext ((Below.refl w3.heap.size w3).alloc (Nat.le_refl _) (Obj.cells #[.int .i64 (p3 : Int), .int .i64 (behind : Int)] 3))
    obtain ⟨w4, hw4⟩ : ∃ w4, w4 = w3.alloc (Obj.cells #[.int .i64 (p3 : Int), .int .i64 (behind : Int)] 3) := ⟨_, rfl⟩
    rw [← hw4] at hW4
    have hb34 : Below w3.heap.size w3 w4 := by rw [hw4]; exact (Below.refl _ _).alloc (Nat.le_refl _) _
    have hL4 : Blk w4 w3.heap.size 3 #[.int .i64 (p3 : Int), .int .i64 (behind : Int)] := by rw [hw4]; exact Blk.new w3 _ _
    have hlA3 : ∀ b, inA (some ⟨gA, oA, none⟩) b → b < w3.heap.size := HW3.out.ltA
    have hgA3 := HW3.out.2.2.1 gA ((inA_some _ _ _ _).2 rfl)
    have hgA3l := hlA3 gA ((inA_some _ _ _ _).2 rfl)
    have x0 : w3.cell? ⟨g, 0, none⟩ = some (.slice (some ⟨gA, oA, none⟩) (M ++ [(⟨true, zeroB, []⟩ : Pl)] ++ N3).length c3') := HW3.out.1.cell 0
    have hlen : (M ++ [(⟨true, zeroB, []⟩ : Pl)] ++ N3).length = M.length + 1 + N3.length := by rw [List.length_append, List.length_append, List.length_singleton]
    have hset := hW4.2.1.setNext (k := M.length) (by rw [hlen]; omega) (B := some ⟨w3.heap.size, 0, none⟩) (l := [p3, behind]) (d := 2) (Nat.le_refl _) (by simp [maxLen]) (ints_two (S := fun b => ((fun b => (S b ∧ b < w.heap.size) ∨ w1.heap.size ≤ b)) b ∧ ¬ inA (some ⟨gA, oA, none⟩) b) hL4 ⟨.inr (by have := Hs2.out; have := Hs3.out; omega), fun hin => by have := hlA3 _ hin; omega⟩)
    have hMset : (M ++ [(⟨true, zeroB, []⟩ : Pl)] ++ N3).set M.length (Pl.setNext ((M ++ [(⟨true, zeroB, []⟩ : Pl)] ++ N3)[M.length]'(by rw [hlen]; omega)) [p3, behind]) = M ++ (⟨true, zeroB, [p3, behind]⟩ :: N3) := by
      have e1 : (M ++ [(⟨true, zeroB, []⟩ : Pl)] ++ N3)[M.length]'(by rw [hlen]; omega) = ⟨true, zeroB, []⟩ := by simp
      rw [e1]
      rw [List.append_assoc, List.set_append_right _ _ (Nat.le_refl _)]
      simp [Pl.setNext]
    rw [hMset] at hset
    obtain ⟨w5, hw5⟩ : ∃ w5, w5 = w4.setCell ⟨gA, oA + (M.length * 6 + 5), none⟩ (.slice (some ⟨w3.heap.size, 0, none⟩) 2 2) := ⟨_, rfl⟩
    have hO5 : Only (fun b => b = gA) w4 w5 := by rw [hw5]; exact (Only.refl (fun b => b = gA) w4).setCell (p := ⟨gA, _, none⟩) (.inl rfl) _
    have hlen2 : (M ++ (⟨true, zeroB, [p3, behind]⟩ :: N3)).length = (M ++ [(⟨true, zeroB, []⟩ : Pl)] ++ N3).length := by rw [hlen, List.length_append, List.length_cons]; omega
    have HW5 : Hid (WA (fun b => (S b ∧ b < w.heap.size) ∨ w1.heap.size ≤ b) w5 g (some ⟨gA, oA, none⟩) c3' (M ++ (⟨true, zeroB, [p3, behind]⟩ :: N3)) h s r) := Lib.hid (by
      refine ⟨?_, ?_, HW3.out.2.2.1, HS0.out⟩
      · rw [hlen2]; exact hW4.1.only hO5 (by omega)
      · rw [hlen2, hw5]; exact hset)
    have HG5 : Hid (Grew w1 g A w5 (some ⟨gA, oA, none⟩)) := Lib.hid (by
      have a := HG2.out.trans HG3.out
      refine ((a.ext hb34).trans ⟨hO5.mono (fun b _ hb => .inr ((inA_some _ _ _ _).2 hb.symm)), fun b hb => .inl hb⟩))
    have hcell5 : ∃ v, w4.cell? ⟨gA, oA + M.length * 6 + 5, none⟩ = some v := ⟨_, by
      rw [hw4]; exact (World.cell?_of_block (a := ⟨gA, oA + M.length * 6 + 5, none⟩) (((Below.refl w3.heap.size w3).alloc (Nat.le_refl _) _).block gA hgA3l)).trans z5⟩
    obtain ⟨vv, hcell5⟩ := hcell5
    have hfree5 : w4.frozen? ⟨gA, oA + M.length * 6 + 5, none⟩ = false := by
      have := (hW4.2.1.at_ (k := M.length) (by rw [hlen]; omega))
      obtain ⟨gA', oA', _, _, _, _, _, _, ee, _, _, _, _, _, _, _, _, _, _, _, zf⟩ := this
      injection ee with ee
      injection ee with e1 e2 _
      subst e1 e2
      exact zf
    have HK5 := Lib.hid ((HK3.out.ext hb34).only hO5 (by have := HG3.out.2 gA ((inA_some _ _ _ _).2 rfl); have := Hs2.out; have := Hk7.out; intro e; subst e; exact this.elim (fun h => by have := HG2.out.2 _ h; exact this.elim (fun h => by have := HlA.out _ h; omega) (fun h => by omega)) (fun h => by omega)))
    have HV5 := Lib.hid ((HV3.out.ext hb34).only hO5 (by have := HG3.out.2 gA ((inA_some _ _ _ _).2 rfl); have := Hs2.out; have := Hk7.out; intro e; subst e; exact this.elim (fun h => by have := HG2.out.2 _ h; exact this.elim (fun h => by have := HlA.out _ h; omega) (fun h => by omega)) (fun h => by omega)))
    have Hr5 := Lib.hid (((Hr3.out.ext hb34).only hO5 (fun b hb h => by omega)))
    have Hw4 := Lib.hid hw4
    have Hw5 : Hid (w5 = (w3.setCell ⟨gA, oA + M.length * 6 + 5, none⟩ (.slice (some ⟨w3.heap.size, 0, none⟩) 2 2)).alloc (Obj.cells #[.int .i64 (p3 : Int), .int .i64 (behind : Int)] 3)) := Lib.hid (by rw [hw5, hw4, World.setCell_alloc_past _ _ _ _ hgA3l, Nat.add_assoc])
    have hidx : ((M.length : Nat) : Int) < (((M ++ [(⟨true, zeroB, []⟩ : Pl)] ++ N3).length : Nat) : Int) := by rw [hlen]; omega
    have hidx2 : M.length < (M ++ [(⟨true, zeroB, []⟩ : Pl)] ++ N3).length := by rw [hlen]; omega
    have hM6 : M.length ≤ 1000000000 := by have := Hp.out; omega
    obtain ⟨L3, hL3e⟩ : ∃ L3, (M ++ [(⟨true, zeroB, []⟩ : Pl)] ++ N3).length = L3 := ⟨_, rfl⟩
    rw [hL3e] at x0 hidx hidx2
    rw [hw4] at hcell5 hfree5
    clear hW4 hw4 hb34 hL4 hlA3 hlen hset hMset hw5 hO5 hlen2 hL3e z5 z6
    have hS5 : Hid (w1.heap.size ≤ w5.heap.size) := Lib.hid HG5.out.1.size
    have v6 : w5.cell? ⟨w.heap.size, 6, none⟩ = some (.int .i64 (nl : Int)) := HV5.out.cell 6
    go_upto_region 12 with fail
    rw [← Hw5.out]
    clear x0 hcell5 hfree5 hidx hidx2
    rcases Nat.eq_zero_or_pos nl with hn0 | hn0
    · subst hn0
      go_wp2
      go_ret
      exact ⟨M.length, some ⟨gA, oA, none⟩, c3', _, rfl, HW5.out.mono (fun b hb hl => hb.elim (fun h => .inl h.1) (fun h => .inr (by have := Hs1.out; omega))) HSf.out, Grew.from_ Hb01.out HG5.out, by have := HN3.out; simp [plR]; omega, (LayOk.star (by have := Hb.out; omega) Hb.out (by have := HL3.out; simpa using this)).1.congr star_texts⟩
    · obtain ⟨kk, rfl⟩ : ∃ kk, nl = kk + 1 := ⟨nl - 1, by omega⟩
      have n1 : decide (((kk + 1 : Nat) : Int) = 0) = false := by simp; omega
      have n2 : (((kk + 1 : Nat) : Int) == 0) = false := by simp; omega
      have hst := (LayOk.star (by have := Hb.out; omega) Hb.out (by have := HL3.out; simpa using this : LayOk (M.length + 1) N3 (inE x) p3 M.length)).2
      have Hst := Lib.hid hst
      have HCp : Hid (∀ v, v = (kk : Int) → Calls Tryd.prog 127 #[.pointer (some ⟨g, 0, none⟩), .agg #[.int .i64 k', .int .u64 (r0 : Int), .int .u64 (r1 : Int), .int .u64 (r2 : Int), .int .u64 (r3 : Int), .slice B' ks'.length d', .int .i64 lo2, .int .i64 hi2], .int .i64 v, .int .i64 (p3 : Int)] w5 (LayP (fun b => (S b ∧ b < w.heap.size) ∨ w1.heap.size ≤ b) w5 g (some ⟨gA, oA, none⟩) (M ++ (⟨true, zeroB, [p3, behind]⟩ :: N3)) h s r (kk * plE x) (powL (inE x) kk) p3)) := Lib.hid fun v hv => by
        subst hv
        refine laycopies_of Q x Hx.out _ w5 g _ c3' _ h s r [.int .i64 k', .int .u64 (r0 : Int), .int .u64 (r1 : Int), .int .u64 (r2 : Int), .int .u64 (r3 : Int), .slice B' ks'.length d', .int .i64 lo2, .int .i64 hi2] kk p3 deep HW5.out Hr5.out (by have := Hst.out.lt; rw [List.length_append]; exact this) (by omega) ?_ ho
        have := Hp.out
        have := HN3.out
        simp [plR] at *
        have e : (kk + 1) * plE x = kk * plE x + plE x := by rw [Nat.add_mul, Nat.one_mul]
        have hni : ¬ ((kk : Int) + 1 = 0) := by omega
        rw [if_neg hni] at *
        have e2 : ((kk : Int) + 1).toNat = kk + 1 := by omega
        rw [e2] at *
        omega
      clear hst hn0
      have cc0 := HK5.out.cell 0
      have cc1 := HK5.out.cell 1
      have cc2 := HK5.out.cell 2
      have cc3 := HK5.out.cell 3
      have cc4 := HK5.out.cell 4
      have cc5 := HK5.out.cell 5
      have cc6 := HK5.out.cell 6
      have cc7 := HK5.out.cell 7
      go_wp2_with fail
      refine (HCp.out _ (by omega)).mono ?_
      rintro e w6 ⟨p6, A6, c6', N6, rfl, hW6, hG6, hN6, hL6⟩
      clear cc0 cc1 cc2 cc3 cc4 cc5 cc6 cc7
      go_wp2
      go_ret
      refine ⟨p6, A6, c6', (⟨true, zeroB, [p3, behind]⟩ :: N3) ++ N6, rfl, ?_, Grew.from_ Hb01.out (HG5.out.trans hG6), ?_, ?_⟩
      · rw [← List.append_assoc]
        exact (hW6.mono (fun b hb _ => hb.elim id (fun h => .inr (Nat.le_trans hS5.out h))) HS0.out).mono (fun b hb hl => hb.elim (fun h => .inl h.1) (fun h => .inr (by have := Hs1.out; omega))) HSf.out
      · have := HN3.out
        have e : (kk + 1) * plE x = kk * plE x + plE x := by rw [Nat.add_mul, Nat.one_mul]
        have hni : ¬ (((kk + 1 : Nat) : Int) = 0) := by omega
        have e2 : (((kk + 1 : Nat) : Int)).toNat = kk + 1 := by omega
        simp only [plR, if_true, if_neg hni, e2, List.length_append, List.length_cons]
        omega
      · rw [List.length_append] at hL6
        exact (Hst.out.then hL6).congr (plus_texts kk)
  · have hh1 : (hi != -1) = true := by simpa using hh
    have hh2 : decide (hi = -1) = false := by simpa using hh
    have hh3 : (hi == -1) = false := by simpa using hh
    have hh4 : ¬ hi = -1 := hh
    obtain ⟨a, ha⟩ : ∃ a : Nat, hi = (nl : Int) + (a : Int) := ⟨(hi - nl).toNat, by have := Hrep.out; omega⟩
    subst ha
    have ha32 : (nl : Int) + (a : Int) ≤ 32 := by have := Hrep.out; omega
    have Hh := Lib.hid hh
    clear hh
    go_enter Tryd.func111, Tryd.ntmps111
    go_wp2_with (refine wpList_store_re rfl _ _ rfl (w.heap.size + 1) rfl rfl rfl rfl hone hD ?_; intro w1 hB1 ho1; have hV1 := HV.out.only ho1 (by omega); have v7 := hV1.cell 7; have v6 := hV1.cell 6)
    have hs1 := ho1.size
    have Hk7 : Hid (w.heap.size + 1 < w1.heap.size) := Lib.hid hB1.lt
    have hb02 : Below w.heap.size w ((w.alloc (Obj.cells #[.int .i64 4, .int .u64 (q0 : Int), .int .u64 (q1 : Int), .int .u64 (q2 : Int), .int .u64 (q3 : Int), .slice (some ⟨kb, ko, none⟩) 1 d, .int .i64 (nl : Int), .int .i64 ((nl : Int) + (a : Int))] 27)).alloc (Obj.cells #[.int .i64 0, .int .u64 0, .int .u64 0, .int .u64 0, .int .u64 0, .slice none 0 0, .int .i64 0, .int .i64 0] 27)) := ext2 w _ _
    have Hb01 : Hid (Below w.heap.size w w1) := Lib.hid (hb02.trans (ho1.below (fun i hi => by omega) (by simp; omega)))
    have HW1 : Hid (WA (fun b => (S b ∧ b < w.heap.size) ∨ w1.heap.size ≤ b) w1 g A c M h s r) := Lib.hid (by
      have a := HW.out.mono (T := fun b => S b ∧ b < w.heap.size) (fun b hb hl => ⟨hb, hl⟩) (fun b hb => HSg.out b hb.1)
      exact (((a.ext hb02).only ho1 (fun b hb => ⟨by omega, fun hin => by have := HlA.out _ hin; omega, fun h => by omega⟩)).mono (fun b hb _ => .inl hb) (fun b hb => hb.elim (fun h => HSg.out b h.1) (fun h => by have := Hb01.out.size; omega))))
    have HS0 : Hid (∀ b, ((fun b => (S b ∧ b < w.heap.size) ∨ w1.heap.size ≤ b)) b → b ≠ g) := Lib.hid HW1.out.2.2.2
    have HK1 := Lib.hid hB1
    have HV1 := Lib.hid hV1
    have Hr1 := Lib.hid ((Hrk.out.ext hb02).only ho1 (fun b hb h => by omega))
    have Hs1 : Hid (w.heap.size ≤ w1.heap.size) := Lib.hid Hb01.out.size
    clear hs1 hb02 hB1 hV1 ho1
    clear v7 v6 y0 y1 y2 y3 y4 y5 y6 y7 hD hone hh1 hh2 hh3 hh4
    have hpl : plR (nl : Int) ((nl : Int) + (a : Int)) [x] = (nl + a) * plE x + a := by
      simp only [plR, if_neg Hh.out]
      have e1 : ((nl : Int) + (a : Int)).toNat = nl + a := by omega
      have e2 : ((nl : Int) + (a : Int) - (nl : Int)).toNat = a := by omega
      rw [e1, e2]
    have Hpl := Lib.hid hpl
    clear hpl
    go_loopw [8, 24] (fun pv iv wr => ∃ (i p : Nat) (A1 : Option Addr) (c1 : Nat) (N : List Pl), pv = .int .i64 (p : Int) ∧ iv = .int .i64 (i : Int) ∧ i ≤ a ∧ Hid (WA (fun b => (S b ∧ b < w.heap.size) ∨ w1.heap.size ≤ b) wr g A1 c1 (M ++ N) h s r) ∧ Hid (Grew w1 g A wr A1) ∧ Hid (N.length ≤ i * (plE x + 1)) ∧ Hid (LayOk M.length N (upTo (inE x) 0 i) p behind)) (fun _ iv _ => a - (intOf iv).toNat)
    case atStart => exact ⟨0, behind, A, c, [], rfl, rfl, by omega, Lib.hid (by rw [List.append_nil]; exact HW1.out), Lib.hid (Grew.refl _ _ _), Lib.hid (by simp), Lib.hid ((LayOk.refl Hb.out).congr upTo_zero)⟩
    case round =>
      obtain ⟨i, p, A1, c1, N, rfl, rfl, hi, HWr, HG, HN, HL⟩ := hrel
      have Hs : Hid (w1.heap.size ≤ wr.heap.size) := Lib.hid HG.out.1.size
      have hbx := HG.out.blk HK1.out (by omega) (fun hin => by have := HlA.out _ hin; omega)
      have hbv := HG.out.blk HV1.out (by omega) (fun hin => by have := HlA.out _ hin; omega)
      have Hrr := Lib.hid (HG.out.re HgA.out Hr1.out)
      have hpl : p < (M ++ N).length := by have := HL.out.lt; rw [List.length_append]; exact this
      have cc0 := hbx.cell 0
      have cc1 := hbx.cell 1
      have cc2 := hbx.cell 2
      have cc3 := hbx.cell 3
      have cc4 := hbx.cell 4
      have cc5 := hbx.cell 5
      have cc6 := hbx.cell 6
      have cc7 := hbx.cell 7
      by_cases hlt : i < a
      · have hii : (i : Int) < (a : Int) := by omega
        have hcount : (i + 1) * (plE x + 1) ≤ a * (plE x + 1) := Nat.mul_le_mul_right _ hlt
        have hp1 : (M ++ N).length + plE x + 2 ≤ Q + 1 := by
          have a1 := HN.out
          have a2 := Hp.out
          rw [Hpl.out] at a2
          rw [Nat.add_mul i 1, Nat.one_mul] at hcount
          have e3 : a * (plE x + 1) = a * plE x + a := by rw [Nat.mul_add, Nat.mul_one]
          have e4 : (nl + a) * plE x = nl * plE x + a * plE x := by rw [Nat.add_mul]
          rw [List.length_append]
          omega
        have Hp1 := Lib.hid hp1
        have HC := Lib.hid (Hx.out _ wr g A1 c1 (M ++ N) h s r [.int .i64 k', .int .u64 (r0 : Int), .int .u64 (r1 : Int), .int .u64 (r2 : Int), .int .u64 (r3 : Int), .slice B' ks'.length d', .int .i64 lo2, .int .i64 hi2] p deep HWr.out Hrr.out hpl (by omega) ho)
        clear hp1 hpl hbx hbv hcount
        go_wp2_with fail
        refine HC.out.mono ?_
        rintro e w3 ⟨p3, A3, c3', N3, rfl, hW3, hG3, hN3, hL3⟩
        have Hs3 : Hid (wr.heap.size ≤ w3.heap.size) := Lib.hid hG3.1.size
        have HW3 : Hid (WA (fun b => (S b ∧ b < w.heap.size) ∨ w1.heap.size ≤ b) w3 g A3 c3' (M ++ (N ++ N3)) h s r) := Lib.hid (by rw [← List.append_assoc]; exact hW3.mono (fun b hb _ => hb.elim id (fun h => .inr (Nat.le_trans Hs.out h))) HS0.out)
        have HG3 := Lib.hid (HG.out.trans hG3)
        have HN3 := Lib.hid hN3
        have HL3 : Hid (LayOk (M.length + N.length) N3 (inE x) p3 p) := Lib.hid (by rw [List.length_append] at hL3; exact hL3)
        clear hW3 hG3 hN3 hL3 HC cc0 cc1 cc2 cc3 cc4 cc5 cc6 cc7
        have hb34 : Below w3.heap.size w3 (w3.alloc (Obj.cells #[.int .i64 (p3 : Int), .int .i64 (behind : Int)] 3)) := (Below.refl _ _).alloc (Nat.le_refl _) _
        have hCa := add_wa (HW3.out.ext hb34) ⟨true, zeroB, [p3, behind]⟩ [.bool true, .int .u64 0, .int .u64 0, .int .u64 0, .int .u64 0, .slice (some ⟨w3.heap.size, 0, none⟩) 2 2] (plAt_open (l := [p3, behind]) (Nat.le_refl _) (by simp [maxLen]) (ints_two (Blk.new w3 _ _) ⟨.inr (Nat.le_trans Hs.out Hs3.out), fun hin => by have := HW3.out.ltA _ hin; omega⟩)) (by have := Hp1.out; have := HN3.out; rw [← List.append_assoc, List.length_append]; omega)
        have HCa := Lib.hid hCa
        have Hb34 := Lib.hid hb34
        clear hCa hb34
        go_wp2_with fail
        refine HCa.out.mono ?_
        rintro e w5 ⟨rfl, A5, c5', hW5, hG5⟩
        have HW5 : Hid (WA (fun b => (S b ∧ b < w.heap.size) ∨ w1.heap.size ≤ b) w5 g A5 c5' (M ++ (N ++ N3 ++ [⟨true, zeroB, [p3, behind]⟩])) h s r) := Lib.hid (by rw [← List.append_assoc M]; exact hW5)
        have HG5 := Lib.hid ((HG3.out.ext Hb34.out).trans hG5)
        have HN5 : Hid ((N ++ N3 ++ [(⟨true, zeroB, [p3, behind]⟩ : Pl)]).length ≤ (i + 1) * (plE x + 1)) := Lib.hid (by
          have := HN.out
          have := HN3.out
          rw [List.length_append, List.length_append, List.length_singleton, Nat.add_mul i 1, Nat.one_mul]
          omega)
        have HL5 : Hid (LayOk M.length (N ++ N3 ++ [⟨true, zeroB, [p3, behind]⟩]) (upTo (inE x) 0 (i + 1)) (M ++ (N ++ N3)).length behind) := Lib.hid (by
          rw [show (M ++ (N ++ N3)).length = M.length + (N ++ N3).length from List.length_append]
          exact (LayOk.opt Hb.out HL.out HL3.out).congr upTo_opt)
        clear hW5 hG5 HCa
        go_wp2
        go_roundw
        case rel => exact ⟨i + 1, (M ++ (N ++ N3)).length, A5, c5', _, (by first | trivial | rfl | simp), by simp, by omega, HW5, HG5, HN5, HL5⟩
        case measure => simp [intOf]; omega
      · obtain rfl : i = a := by omega
        have v6 := hbv.cell 6
        have HCp := Lib.hid (laycopies_of Q x Hx.out _ wr g A1 c1 (M ++ N) h s r [.int .i64 k', .int .u64 (r0 : Int), .int .u64 (r1 : Int), .int .u64 (r2 : Int), .int .u64 (r3 : Int), .slice B' ks'.length d', .int .i64 lo2, .int .i64 hi2] nl p deep HWr.out Hrr.out hpl hnl (by
          have a1 := HN.out
          have a2 := Hp.out
          rw [Hpl.out] at a2
          have e3 : i * (plE x + 1) = i * plE x + i := by rw [Nat.mul_add, Nat.mul_one]
          have e4 : (nl + i) * plE x = nl * plE x + i * plE x := by rw [Nat.add_mul]
          rw [List.length_append]
          omega) ho)
        clear hbx hbv hlt hpl
        go_wp2_with fail
        refine HCp.out.mono ?_
        rintro e w6 ⟨p6, A6, c6', N6, rfl, hW6, hG6, hN6, hL6⟩
        clear cc0 cc1 cc2 cc3 cc4 cc5 cc6 cc7 v6
        go_wp2
        go_ret
        refine ⟨p6, A6, c6', N ++ N6, rfl, ?_, Grew.from_ Hb01.out (HG.out.trans hG6), ?_, ?_⟩
        · rw [← List.append_assoc]
          exact (hW6.mono (fun b hb _ => hb.elim id (fun h => .inr (Nat.le_trans Hs.out h))) HS0.out).mono (fun b hb hl => hb.elim (fun h => .inl h.1) (fun h => .inr (by have := Hs1.out; omega))) HSf.out
        · have a1 := HN.out
          have e3 : i * (plE x + 1) = i * plE x + i := by rw [Nat.mul_add, Nat.mul_one]
          have e4 : (nl + i) * plE x = nl * plE x + i * plE x := by rw [Nat.add_mul]
          rw [Hpl.out, List.length_append]
          omega
        · rw [List.length_append] at hL6
          exact (HL.out.then hL6).congr (rep_texts Hh.out rfl)
end Go.Proofs.YtmggajpecgnjkaaDoor

/-
  The contract of slices.Backward over kids. No statement of the seat is proved here.
-/
namespace Go.Proofs.YtmggajpecgnjkaaDoor
open Go Go.RowKit Go.Shelf Go.Proofs
set_option maxRecDepth 100000

attribute [local go_sem] Oper.semAt_some

/-- the last k of n, the last first -/
def dn (n k : Nat) : List Nat := (List.range k).map fun j => n - 1 - j
theorem dn_succ (n k : Nat) : dn n (k + 1) = dn n k ++ [n - 1 - k] := by simp [dn, List.range_succ]
theorem dn_length (n k : Nat) : (dn n k).length = k := by simp [dn]
/-- what the iterator reads lies as it lay -/
def KpL (Bs kb : Nat) (W W' : World) : Prop := W'.heap[Bs]? = W.heap[Bs]? ∧ W'.heap[kb]? = W.heap[kb]?
theorem KpL.trans {Bs kb : Nat} {X Y Z : World} (h : KpL Bs kb X Y) (k : KpL Bs kb Y Z) : KpL Bs kb X Z := ⟨k.1.trans h.1, k.2.trans h.2⟩
theorem KpL.cellB {Bs kb : Nat} {X Y : World} (h : KpL Bs kb X Y) (o : Nat) : Y.cell? ⟨Bs, o, none⟩ = X.cell? ⟨Bs, o, none⟩ := World.cell?_of_block (a := ⟨Bs, o, none⟩) h.1
theorem KpL.cellK {Bs kb : Nat} {X Y : World} (h : KpL Bs kb X Y) (o : Nat) : Y.cell? ⟨kb, o, none⟩ = X.cell? ⟨kb, o, none⟩ := World.cell?_of_block (a := ⟨kb, o, none⟩) h.2
theorem KpL.putObj {Bs kb : Nat} {w : World} (h1 : Bs < w.heap.size) (h2 : kb < w.heap.size) (W : World) (l : Nat) (o o' : Obj) (hl : w.heap.size ≤ l) (_ : W.heap[l]? = some o) (_ : o.isCells = false) (_ : o.isWalk = false) : KpL Bs kb W (W.putObj l o') :=
  ⟨World.putObj_heap_other (by omega), World.putObj_heap_other (by omega)⟩
theorem KpL.refl (Bs kb : Nat) (X : World) : KpL Bs kb X X := ⟨rfl, rfl⟩

theorem list_eight {l : List Value} (h : l.length = 8) : ∃ v0 v1 v2 v3 v4 v5 v6 v7, l = [v0, v1, v2, v3, v4, v5, v6, v7] := by
  match l, h with
  | [v0, v1, v2, v3, v4, v5, v6, v7], _ => exact ⟨v0, v1, v2, v3, v4, v5, v6, v7, rfl⟩
theorem backward_any (A : Option Addr) (m c : Nat) (w : World) :
    Calls Tryd.prog 110 #[.slice A m c] w fun e w' => e = .returned (.func (.func 126) #[] #[.pointer (some ⟨w.heap.size, 0, none⟩)]) ∧ w' = w.alloc (.cells #[.slice A m c] 25) := by
  go_enter Tryd.func110, Tryd.ntmps110
  go_wp2
  go_ret
  exact ⟨rfl, rfl⟩

set_option maxHeartbeats 4000000 in
theorem backward1_in (fu : Nat) (hn : 1 ≤ fu) (l Bs kb ko n c : Nat) (ck : Nat → List Value) (hc : n ≤ c) (hn' : n ≤ 1000000) (h8 : ∀ i, (ck i).length = 8) (J Jx : List Nat → World → Prop)
    (hY : ∀ pre x W, J pre W → pre.length < n → YieldAt Fence.wide (fu - 1) Tryd.prog l #[.int .i64 ((x : Nat) : Int), .agg (ck x).toArray] W fun e W' =>
      (e = .returned (.bool true) ∧ J (pre ++ [x]) W' ∧ KpL Bs kb W W') ∨ (e = .returned (.bool false) ∧ Jx (pre ++ [x]) W'))
    (W : World) (hBs : W.cell? ⟨Bs, 0, none⟩ = some (.slice (some ⟨kb, ko, none⟩) n c)) (hcs : ∀ i, i < n → ∀ j u, (ck i)[j]? = some u → W.cell? ⟨kb, ko + i * 8 + j, none⟩ = some u) (h0 : J [] W) :
    CallsIn Fence.wide fu Tryd.prog 126 #[.func (.yield l) #[] #[], .pointer (some ⟨Bs, 0, none⟩)] W fun e W' => (∃ v, e = .returned v) ∧
      ((∃ ys, ys = dn n n ∧ J ys W') ∨ (∃ pre, (∃ k, k ≤ n ∧ pre = dn n k) ∧ Jx pre W')) := by
  have Hcs := Lib.hid hcs
  have H8 := Lib.hid h8
  have HY := Lib.hid hY
  have hni : (n : Int) ≤ 1000000 := by omega
  clear hcs h8 hY
  refine callsIn_of_wp Tryd.func126 rfl trivial ?_ rfl
  simp only [Tryd.ntmps126, List.size_toArray, List.length_cons, List.length_nil, Nat.reduceAdd, Nat.reduceSub, Array.replicate_succ, Array.replicate_zero, List.push_toArray, List.append_toArray, List.nil_append, List.cons_append]
  gi_wp2
  gi_loopw [3] (fun pv wr => ∃ (k : Nat) (z : Int), k ≤ n ∧ z = (n : Int) - 1 - (k : Int) ∧ pv = .int .i64 z ∧ J (dn n k) wr ∧ KpL Bs kb W wr) (fun pv _ => match pv with | .int _ z => (z + 1).toNat | _ => 0)
  case atStart => exact ⟨0, (n : Int) - 1, Nat.zero_le _, by omega, rfl, h0, KpL.refl _ _ _⟩
  case round =>
    obtain ⟨k, z, hk, hz, rfl, hJs, hKp⟩ := hrel
    have c0 : wr.cell? ⟨Bs, 0, none⟩ = some (.slice (some ⟨kb, ko, none⟩) n c) := (hKp.cellB 0).trans hBs
    by_cases hlt : k < n
    · obtain ⟨i, rfl⟩ : ∃ i : Nat, z = (i : Int) := ⟨n - 1 - k, by omega⟩
      have hi : i = n - 1 - k := by omega
      have hin : i < n := by omega
      have hini : (i : Int) < (n : Int) := by omega
      obtain ⟨v0, v1, v2, v3, v4, v5, v6, v7, hv⟩ := list_eight (H8.out i)
      have key : ∀ j u, (ck i)[j]? = some u → wr.cell? ⟨kb, ko + i * 8 + j, none⟩ = some u := fun j u hu => (hKp.cellK (ko + i * 8 + j)).trans (Hcs.out i hin j u hu)
      rw [hv] at key
      have d0 : wr.cell? ⟨kb, ko + i * 8, none⟩ = some v0 := key 0 _ rfl
      have d1 : wr.cell? ⟨kb, ko + i * 8 + 1, none⟩ = some v1 := key 1 _ rfl
      have d2 : wr.cell? ⟨kb, ko + i * 8 + 2, none⟩ = some v2 := key 2 _ rfl
      have d3 : wr.cell? ⟨kb, ko + i * 8 + 3, none⟩ = some v3 := key 3 _ rfl
      have d4 : wr.cell? ⟨kb, ko + i * 8 + 4, none⟩ = some v4 := key 4 _ rfl
      have d5 : wr.cell? ⟨kb, ko + i * 8 + 5, none⟩ = some v5 := key 5 _ rfl
      have d6 : wr.cell? ⟨kb, ko + i * 8 + 6, none⟩ = some v6 := key 6 _ rfl
      have d7 : wr.cell? ⟨kb, ko + i * 8 + 7, none⟩ = some v7 := key 7 _ rfl
      obtain ⟨fn, tmps, assign, body, hy, hR⟩ := HY.out _ i wr hJs (by rw [dn_length]; exact hlt)
      rw [hv] at hy
      have Hz := Lib.hid hz
      have Hi := Lib.hid hi
      clear key hv hz hi
      gi_wp2
      refine hR.mono ?_
      rintro e W3 (⟨rfl, hJ3, hk3'⟩ | ⟨rfl, hJx3⟩)
      · gi_wp2
        go_roundw
        case rel => exact ⟨k + 1, (i : Int) - 1, by omega, by have := Hz.out; omega, rfl, by rw [dn_succ, ← Hi.out]; exact hJ3, hKp.trans hk3'⟩
        case measure => simp
      · gi_wp2
        refine bodyPost_ret (results_none rfl _ _ _) rfl ?_
        exact ⟨⟨_, rfl⟩, .inr ⟨_, ⟨k + 1, by omega, by rw [dn_succ, ← Hi.out]⟩, hJx3⟩⟩
    · obtain rfl : k = n := by omega
      have hzm : z = -1 := by omega
      subst hzm
      gi_wp2
      go_end0
      exact ⟨⟨_, rfl⟩, .inl ⟨_, rfl, hJs⟩⟩
theorem backward_stops (fu : Nat) (hn : 1 ≤ fu) (Bs kb ko n c : Nat) (ck : Nat → List Value) (hc : n ≤ c) (hn' : n ≤ 1000000) (h8 : ∀ i, (ck i).length = 8) (w : World) (hB1 : Bs < w.heap.size) (hk1 : kb < w.heap.size)
    (hBs : w.cell? ⟨Bs, 0, none⟩ = some (.slice (some ⟨kb, ko, none⟩) n c)) (hcs : ∀ i, i < n → ∀ j u, (ck i)[j]? = some u → w.cell? ⟨kb, ko + i * 8 + j, none⟩ = some u) :
    SeqStopsK Fence.wide fu Tryd.prog 126 #[.pointer (some ⟨Bs, 0, none⟩)] (fun x : Nat => #[.int .i64 ((x : Nat) : Int), .agg (ck x).toArray]) (KpL Bs kb) (fun ys => ys = dn n n) (fun pre => ∃ k, k ≤ n ∧ pre = dn n k) n w := by
  intro l J Jx W hW hJ _ hY h0
  have hBs' := (hW.cell (p := ⟨Bs, 0, none⟩) (by show Bs < _; omega)).trans hBs
  have hcs' : ∀ i, i < n → ∀ j u, (ck i)[j]? = some u → W.cell? ⟨kb, ko + i * 8 + j, none⟩ = some u := fun i hi j u hu => (hW.cell (p := ⟨kb, ko + i * 8 + j, none⟩) (by show kb < _; omega)).trans (hcs i hi j u hu)
  exact backward1_in fu hn l Bs kb ko n c ck hc hn' h8 J Jx hY W hBs' hcs' h0
end Go.Proofs.YtmggajpecgnjkaaDoor
