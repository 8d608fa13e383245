/-
  Texts of this claim, joined (part 5): contracts and lemmas that the last text goes by. No statement of the seat is proved here.
-/
import Derived.Test.YtpjgkacekelkdaaGreatDoorAll4
import Derived.Test.YtpjgkacekelkdaaGreatDoorAll0
import Derived.Test.YtpjgkacekelkdaaGreatDoorAll1
import Derived.Test.YtpjgkacekelkdaaGreatDoorAll2
import Derived.SizedLaws
import Derived.Deep.Slices
import Derived.Deep.MidRow
import Derived.Test.YtpjgkacekelkdaaGreatDoorRows
import Derived.ProofKit
import Derived.LaidLaws
import Derived.Lib.LaidTab
import Derived.Stop.LaidErr
import Derived.Test.YtpjgkacekelkdaaGreatDoorCards
import Derived.Test.YtpjgkacekelkdaaGreatDoorTie
set_option linter.unusedVariables false
set_option linter.unusedSimpArgs false
/-
  Arguments read element by element, and what the form's reach and bulk say of them. No statement of the seat is proved here.
-/
namespace Go.Proofs.YtpjgkacekelkdaaGreatDoor
open Go Go.ChangeShapes Go.WideShapes Go.ChangeAt Go.RowKit
set_option maxRecDepth 100000

/-! ### bulk, weights -/
theorem rb_one {H : Type} (d : DataW H) : 1 ≤ Rows.uptoBulk d := by
  cases d with
  | lit l => cases l <;> simp [Rows.uptoBulk]
  | nil => simp [Rows.uptoBulk]
  | ptr d => simp [Rows.uptoBulk]
  | slice elems spare => simp [Rows.uptoBulk]
  | agg parts => simp [Rows.uptoBulk]
  | iface t d => simp [Rows.uptoBulk]
  | map entries => simp [Rows.uptoBulk]
  | held h => simp [Rows.uptoBulk]
theorem rb_all {H : Type} (l : List (DataW H)) : Rows.uptoBulkAll l = (l.map Rows.uptoBulk).sum := by
  induction l with
  | nil => simp [Rows.uptoBulkAll]
  | cons x r ih => simp only [Rows.uptoBulkAll, List.map_cons, List.sum_cons, ih]
theorem rb_slice {H : Type} (a b : List (DataW H)) : (a.map Rows.uptoBulk).sum + 1 ≤ Rows.uptoBulk (.slice a b) := by
  simp only [Rows.uptoBulk, rb_all]
  omega
theorem rb_agg {H : Type} (a : List (DataW H)) : Rows.uptoBulk (.agg a) = (a.map Rows.uptoBulk).sum + 1 := by
  simp only [Rows.uptoBulk, rb_all]
theorem rb_str {H : Type} (s : List UInt8) : Rows.uptoBulk (DataW.lit (H := H) (.string s)) = s.length + 1 := by
  simp [Rows.uptoBulk]
theorem rb_sum {α : Type} (f g : α → Nat) : ∀ l : List α, (∀ x ∈ l, f x ≤ g x) → (l.map f).sum ≤ (l.map g).sum
  | [], _ => Nat.le_refl _
  | x :: r, h => by
    rw [List.map_cons, List.sum_cons, List.map_cons, List.sum_cons]
    have := h x (List.mem_cons_self ..)
    have := rb_sum f g r (fun y hy => h y (List.mem_cons_of_mem _ hy))
    omega
theorem rw_mem {H : Type} {P : Program} {e : TypeId} : ∀ {l : List (DataW H)} {d : DataW H}, d ∈ l → ∀ n ∈ d.weights P e, n ∈ DataW.weightsAll P e l
  | x :: r, d, hd, n, hn => by
    simp only [DataW.weightsAll, List.mem_append]
    rcases List.mem_cons.1 hd with rfl | hd
    · exact .inl hn
    · exact .inr (rw_mem hd n hn)
theorem rw_elem {H : Type} {P : Program} {t e : TypeId} {elems spare : List (DataW H)} {d : DataW H} (hu : P.underlying t = some (.slice e)) (hd : d ∈ elems) (n : Nat) (hn : n ∈ d.weights P e) : n ∈ DataW.weights P t (.slice elems spare) := by
  simp only [DataW.weights, hu, List.mem_cons, List.mem_append]
  exact .inr (.inl (rw_mem hd n hn))
theorem rw_len {H : Type} {P : Program} {t e : TypeId} {elems spare : List (DataW H)} (hu : P.underlying t = some (.slice e)) : (elems.length + spare.length) * P.bytesOf e ∈ DataW.weights P t (.slice elems spare) := by
  simp only [DataW.weights, hu, List.mem_cons, true_or]

/-- What a datum is known to weigh: of these each is among its weights; its bulk is at least so much. -/
structure Told {H : Type} (t : TypeId) (d : DataW H) (ns : List Nat) (b : Nat) : Prop where
  each : ∀ n ∈ ns, n ∈ d.weights Tryz.prog t
  bulk : b ≤ Rows.uptoBulk d
/-- .. of an argument, under the first form's reach -/
theorem Told.sized {H : Type} {ts : List TypeId} {ds : List (DataW H)} (hz : (DataW.weightsEach Tryz.prog ts ds).all (· ≤ reachBytes) = true) {j : Nat} {t : TypeId} {d : DataW H} {ns : List Nat} {b : Nat} (h : Told t d ns b) (ht : ts[j]? = some t) (hd : ds[j]? = some d) : ∀ n ∈ ns, n ≤ 140737488355328 := fun n hn => by
  have h1 := List.all_eq_true.1 hz n (DataW.weights_mem_each ht hd n (h.each n hn))
  have h2 := reachBytes_lt
  simp only [decide_eq_true_eq] at h1
  omega

/-! ### rows in memory -/
/-- A row in memory, element by element: 'R' tells the cells of each. -/
def RowR {α : Type} (R : World → List Value → α → Prop) (sz : Nat) (w : World) (A : Option Addr) (l : List α) : Prop :=
  ∀ (k : Nat) (hk : k < l.length), ∃ g o cs, A = some ⟨g, o, none⟩ ∧ cs.length = sz ∧ (∀ (j : Nat) (u : Value), cs[j]? = some u → w.cell? ⟨g, o + k * sz + j, none⟩ = some u) ∧ R w cs l[k]
/-- what is told of one world holds of each that came of it -/
def Lasts {α : Type} (R : World → List Value → α → Prop) : Prop := ∀ (w w' : World) (cs : List Value) (a : α), Below w.heap.size w w' → R w cs a → R w' cs a
section
variable {α : Type} {R : World → List Value → α → Prop} {sz : Nat} {w w' : World} {A : Option Addr} {l : List α}
theorem RowR.nil (w : World) (A : Option Addr) : RowR R sz w A [] := fun k hk => absurd hk (by simp)
theorem RowR.ext (hR : Lasts R) (h : RowR R sz w A l) (hb : Below w.heap.size w w') : RowR R sz w' A l := fun k hk => by
  obtain ⟨g, o, cs, e, hl, hc, hr⟩ := h k hk
  refine ⟨g, o, cs, e, hl, fun j u hu => ?_, hR _ _ _ _ hb hr⟩
  have h1 := hc j u hu
  have hlt := World.block_lt_of_cell? w _ h1
  exact (World.cell?_of_block (hb.block _ hlt)).trans h1
theorem RowR.lasts {sz : Nat} (hR : Lasts R) : ∀ (w w' : World) (A : Option Addr) (l : List α), Below w.heap.size w w' → RowR R sz w A l → RowR R sz w' A l := fun _ _ _ _ hb h => h.ext hR hb
end

/-! ### a slice, opened -/
section
variable {H : Type} {enc : TypeId × Value → H} {W : World}
theorem spot_none {a : Addr} {u : Value} (h : W.cell? (a.add 0) = some u) : ∃ g o, a = ⟨g, o, none⟩ := by
  obtain ⟨g, o, s⟩ := a
  cases s with
  | none => exact ⟨g, o, rfl⟩
  | some s =>
    unfold World.cell? Addr.add at h
    simp at h
    split at h <;> simp at h

/-- A slice as a row: what holds of each element that is read ('R' its cells; 'ns' what it is known to weigh, 'b' its bulk). -/
theorem read_slice {α : Type} {t e : TypeId} {sz : Nat} (R : World → List Value → α → Prop) (ns : α → List Nat) (b : α → Nat) (bytes : Nat) (ht : Tryz.prog.underlying t = some (.slice e)) (hsz : Tryz.prog.cellsOf e = sz) (hby : Tryz.prog.bytesOf e = bytes) (hpos : 0 < sz)
    (each : ∀ (n : Nat) (cs : List Value) (x : DataW H × List MemPlace), cs.length = sz → DataW.trod enc Tryz.prog W 0 (fun _ => true) true n e cs = some x → ∃ a : α, R W cs a ∧ Told e x.1 (ns a) (b a))
    {fuel : Nat} {cs : List Value} {x : DataW H × List MemPlace} (h : DataW.trod enc Tryz.prog W 0 (fun _ => true) true fuel t cs = some x) :
    ∃ (A : Option Addr) (len cap : Nat) (l : List α), cs = [.slice A len cap] ∧ len = l.length ∧ len ≤ cap ∧ cap ≤ maxLen ∧ (A = none → cap = 0) ∧ RowR R sz W A l ∧
      Told t x.1 (if cap = 0 then [] else cap * bytes :: l.flatMap ns) ((l.map b).sum + 1) := by
  rcases Deep.open_slice ht h with ⟨rfl, rfl⟩ | ⟨a, len, cap, m, n, D, Pl, rfl, _, hl, hm, hmm, rfl, hi⟩
  · exact ⟨none, 0, 0, [], rfl, rfl, Nat.le_refl _, Nat.zero_le _, fun _ => rfl, RowR.nil _ _, ⟨by simp, rb_one _⟩⟩
  · simp only [if_true] at hmm
    subst hmm
    rw [hsz] at hi
    have hex : ∀ k, k < m → ∃ (cs' : List Value) (z : α), cs'.length = sz ∧ (∀ j, j < sz → W.cell? ((a.add (k * sz)).add j) = cs'[j]?) ∧ R W cs' z ∧ Told e (D k) (ns z) (b z) := by
      intro k hk
      obtain ⟨cs', hc, htr⟩ := hi k hk
      obtain ⟨_, hcl, hat⟩ := World.cells?_some hc
      obtain ⟨z, hz, hq⟩ := each n cs' _ hcl htr
      exact ⟨cs', z, hcl, hat, hz, hq⟩
    by_cases h0 : m = 0
    · subst h0
      obtain rfl : len = 0 := by omega
      exact ⟨some a, 0, 0, [], rfl, rfl, Nat.le_refl _, Nat.zero_le _, fun _ => rfl, RowR.nil _ _, ⟨by simp, rb_one _⟩⟩
    · obtain ⟨_, z0, _⟩ := hex 0 (by omega)
      have hex2 : ∀ k, ∃ p : List Value × α, k < m → p.1.length = sz ∧ (∀ j, j < sz → W.cell? ((a.add (k * sz)).add j) = p.1[j]?) ∧ R W p.1 p.2 ∧ Told e (D k) (ns p.2) (b p.2) := fun k => by
        by_cases hk : k < m
        · obtain ⟨cs', z, h1⟩ := hex k hk
          exact ⟨(cs', z), fun _ => h1⟩
        · exact ⟨([], z0), fun h => absurd h hk⟩
      obtain ⟨T, hT⟩ := Classical.axiomOfChoice hex2
      obtain ⟨g, o, rfl⟩ : ∃ g o, a = ⟨g, o, none⟩ := by
        obtain ⟨h1, h2, _⟩ := hT 0 (by omega)
        have h3 := h2 0 hpos
        rw [add_add_, List.getElem?_eq_getElem (by omega)] at h3
        exact spot_none (by simpa using h3)
      refine ⟨some ⟨g, o, none⟩, len, m, (List.range len).map fun k => (T k).2, rfl, by simp, hl, hm, (fun h => by cases h), fun k hk => ?_, ⟨fun w hw => ?_, ?_⟩⟩
      · have hk' : k < len := by simpa using hk
        obtain ⟨h1, h2, h3, _⟩ := hT k (by omega)
        refine ⟨g, o, (T k).1, rfl, h1, fun j u hu => ?_, by simpa using h3⟩
        have hj : j < sz := by have := (List.getElem?_eq_some_iff.1 hu).1; omega
        have h4 := h2 j hj
        rw [add_add_, Addr.add_mid, hu] at h4
        rw [Nat.add_assoc]
        exact h4
      · rw [if_neg h0] at hw
        rcases List.mem_cons.1 hw with rfl | hw
        · have h5 := rw_len (H := H) (P := Tryz.prog) (elems := (List.range len).map D) (spare := (List.range (m - len)).map fun j => D (len + j)) ht
          rw [hby] at h5
          simpa [show len + (m - len) = m by omega] using h5
        · obtain ⟨z, hz, hw⟩ := List.mem_flatMap.1 hw
          obtain ⟨k, hk, rfl⟩ := List.mem_map.1 hz
          have hk' := List.mem_range.1 hk
          exact rw_elem ht (List.mem_map.2 ⟨k, hk, rfl⟩) w ((hT k (by omega)).2.2.2.each w hw)
      · refine Nat.le_trans ?_ (rb_slice _ _)
        rw [List.map_map, List.map_map]
        refine Nat.add_le_add_right (rb_sum _ _ _ (fun k hk => ?_)) 1
        have hk' := List.mem_range.1 hk
        exact (hT k (by omega)).2.2.2.bulk

/-! ### texts -/
/-- a text's one cell -/
def IsStr (_ : World) (cs : List Value) (s : List UInt8) : Prop := cs = [strV s]
theorem IsStr.lasts : Lasts IsStr := fun _ _ _ _ _ h => h
theorem rd_of_rowR {A : Option Addr} {l : List (List UInt8)} (h : RowR IsStr 1 W A l) : Rd W A (l.map strV) := fun j u hu => by
  have hj : j < l.length := by have := (List.getElem?_eq_some_iff.1 hu).1; simpa using this
  obtain ⟨g, o, cs, rfl, _, hc, rfl⟩ := h j hj
  refine ⟨_, rfl, ?_⟩
  rw [Addr.add_mid]
  have := hc 0 _ rfl
  rw [Nat.mul_one, Nat.add_zero] at this
  rw [this, ← hu]
  simp [hj]
theorem cellsR_str : Tryz.prog.cellsOf 9 = 1 := by kernel_rfl
theorem bytesR_str : Tryz.prog.bytesOf 9 = 16 := by kernel_rfl
theorem read_str {n : Nat} {cs : List Value} {x : DataW H × List MemPlace} (h : DataW.trod enc Tryz.prog W 0 (fun _ => true) true n 9 cs = some x) : ∃ s : List UInt8, IsStr W cs s ∧ Told 9 x.1 [s.length] (s.length + 1) := by
  obtain ⟨s, rfl, rfl, hm⟩ := DataW.trod_string Tryz.underlying9 h
  refine ⟨s.data.toList, by simp [IsStr, strV], ⟨fun n hn => ?_, ?_⟩⟩
  · simp only [List.mem_singleton] at hn
    subst hn
    simp [DataW.weights]
  · rw [rb_str]
    exact Nat.le_refl _
/-- a slice of texts -/
def bulkS (l : List (List UInt8)) : Nat := (l.map fun s => s.length + 1).sum
theorem read_strs {n : Nat} {cs : List Value} {x : DataW H × List MemPlace} (h : DataW.trod enc Tryz.prog W 0 (fun _ => true) true n 45 cs = some x) :
    ∃ (A : Option Addr) (len cap : Nat) (l : List (List UInt8)), cs = [.slice A len cap] ∧ len = l.length ∧ len ≤ cap ∧ cap ≤ maxLen ∧ (A = none → cap = 0) ∧ Rd W A (l.map strV) ∧
      Told 45 x.1 (if cap = 0 then [] else cap * 16 :: l.flatMap fun s => [s.length]) (bulkS l + 1) := by
  obtain ⟨A, len, cap, l, h1, h2, h3, h4, h5, h6, h7⟩ := read_slice IsStr (fun s => [s.length]) (fun s => s.length + 1) 16 Tryz.underlying45 cellsR_str bytesR_str (by omega) (fun n cs x _ hx => read_str hx) h
  exact ⟨A, len, cap, l, h1, h2, h3, h4, h5, rd_of_rowR h6, h7⟩
end
end Go.Proofs.YtpjgkacekelkdaaGreatDoor

/-
  Rows of texts that a call builds; texts compared; how much texts are. No statement of the seat is proved here.
-/
namespace Go.Proofs.YtpjgkacekelkdaaGreatDoor
open Go Go.ChangeShapes Go.WideShapes Go.ChangeAt Go.RowKit
set_option maxRecDepth 100000

theorem ne_str {xs ys : List UInt8} (h : xs ≠ ys) : ((⟨xs.toArray⟩ : ByteArray).toList == (⟨ys.toArray⟩ : ByteArray).toList) = false := by
  rw [beq_eq_false_iff_ne, ByteArray.toList_mk, ByteArray.toList_mk]
  exact h
/-- two texts are one, or not, as the walk spells it -/
theorem str_cases (xs ys : List UInt8) : ∃ Y Z : ByteArray, strV xs = .string Y ∧ strV ys = .string Z ∧ ((xs = ys ∧ Y = Z) ∨ (xs ≠ ys ∧ (Y.toList == Z.toList) = false)) := by
  refine ⟨_, _, rfl, rfl, ?_⟩
  by_cases h : xs = ys
  · exact .inl ⟨h, by rw [h]⟩
  · exact .inr ⟨h, ne_str h⟩
theorem rd_str {w : World} {A : Option Addr} {xs : List (List UInt8)} (h : Rd w A (xs.map strV)) {k : Nat} (hk : k < xs.length) : ∃ ad, A = some ad ∧ w.cell? (ad.add k) = some (strV xs[k]) := by
  have := h k (strV xs[k]) (by rw [List.getElem?_map, List.getElem?_eq_getElem hk]; rfl)
  exact this
theorem info_str : (Tryz.prog.info? 9).map (fun i => (i.zero, i.size, i.bytes)) = some (some (.string ⟨#[]⟩), 1, 16) := by kernel_rfl
theorem strVs_one (l : List (List UInt8)) : ∀ u ∈ l.map strV, u.oneCell' = true := by
  intro u hu
  obtain ⟨x, _, rfl⟩ := List.mem_map.1 hu
  rfl
/-- texts in a list of the call's own, which was made between two worlds -/
def NewS (w w' : World) (A : Option Addr) (c : Nat) (l : List (List UInt8)) : Prop := Own w' (fun k => w.heap.size ≤ k ∧ k < w'.heap.size) 9 A c (l.map strV)
section
variable {w w0 w1 w2 : World} {A : Option Addr} {c : Nat} {l m : List (List UInt8)}
theorem NewS.none_ (w w' : World) : NewS w w' none 0 [] := Own.none_ _ _ _
theorem NewS.ext (h : NewS w w1 A c l) (hb : Below w1.heap.size w1 w2) : NewS w w2 A c l := (Own.ext h hb).mono (fun _ hk _ => ⟨hk.1, Nat.lt_of_lt_of_le hk.2 hb.size⟩)
theorem NewS.rd (h : NewS w w1 A c l) : Rd w1 A (l.map strV) := Own.rd h
theorem NewS.back (h : NewS w w1 A c l) (hs : w0.heap.size ≤ w.heap.size) : NewS w0 w1 A c l := Own.mono h (fun _ hk _ => ⟨Nat.le_trans hs hk.1, hk.2⟩)
theorem NewS.grow (hb : Below w.heap.size w w1) (h : Own w2 (More (fun k => w.heap.size ≤ k ∧ k < w1.heap.size) w1 w2) 9 A c (l.map strV ++ m.map strV)) (ho : Only (fun k => w.heap.size ≤ k ∧ k < w1.heap.size) w1 w2) :
    NewS w w2 A c (l ++ m) ∧ Below w.heap.size w w2 := by
  have h1 := hb.size
  have h2 := ho.size
  refine ⟨?_, hb.trans (ho.below (fun _ h => h.1) hb.size)⟩
  unfold NewS
  rw [List.map_append]
  refine h.mono (fun _ hk _ => ?_)
  rcases hk with hk | hk <;> omega
end

theorem NewS.max {w w' : World} {A : Option Addr} {c : Nat} {l : List (List UInt8)} (h : NewS w w' A c l) : c ≤ maxLen := by
  rcases h.1.2 with ⟨h1, _⟩ | ⟨g, cap, cur, h1, _, _, _, h5, _⟩
  · injection h1 with _ _ h1; rw [h1]; exact Nat.zero_le _
  · injection h1 with _ _ h1; rw [h1]; exact h5
theorem NewS.grow1 {w w1 w2 : World} {A : Option Addr} {c : Nat} {l m : List (List UInt8)} {o : Obj} (hb : Below w.heap.size w w1) (h : Own w2 (More (fun k => w.heap.size ≤ k ∧ k < w1.heap.size) (w1.alloc o) w2) 9 A c (l.map strV ++ m.map strV)) (ho : Only (fun k => w.heap.size ≤ k ∧ k < w1.heap.size) (w1.alloc o) w2) :
    NewS w w2 A c (l ++ m) := by
  have h1 := hb.size
  have h2 := ho.size
  rw [World.size_alloc] at h2
  unfold NewS
  rw [List.map_append]
  refine h.mono (fun _ hk _ => ?_)
  rcases hk with hk | hk
  · omega
  · rw [World.size_alloc] at hk; omega

def cntL (l : List (List UInt8)) : Nat := (l.map fun s => 1 + s.length).sum
theorem cntL_take (l : List (List UInt8)) {k : Nat} (h : k < l.length) : cntL (l.take (k + 1)) = cntL (l.take k) + (1 + l[k].length) := by
  unfold cntL
  rw [List.take_succ_eq_append_getElem h, List.map_append, List.sum_append]
  simp
theorem cntL_le (l : List (List UInt8)) (k : Nat) : cntL (l.take k) ≤ cntL l := by
  conv => rhs; rw [← List.take_append_drop k l]
  unfold cntL
  rw [List.map_append, List.sum_append]
  omega
theorem cntL_len (l : List (List UInt8)) : l.length ≤ cntL l := by
  unfold cntL
  induction l with
  | nil => simp
  | cons a r ih => simp at ih ⊢; omega
theorem cntL_mem {l : List (List UInt8)} {s : List UInt8} (h : s ∈ l) : s.length ≤ cntL l := by
  unfold cntL
  induction l with
  | nil => cases h
  | cons a r ih =>
    rcases List.mem_cons.1 h with rfl | h
    · simp; omega
    · have := ih h; simp at this ⊢; omega
end Go.Proofs.YtpjgkacekelkdaaGreatDoor

/-
  The contract of octet's Sum. No statement of the seat is proved here.
-/
namespace Go.Proofs.YtpjgkacekelkdaaGreatDoor
open Go Go.RowKit

/-- the table of package octet lies in memory as its text lays it -/
def Tab (w : World) : Prop := ∀ i : Nat, i < 16 → w.cell? ⟨0, i, none⟩ = some (.int .u32 (tab i : Int))
theorem Tab.ext {w w' : World} (h : Tab w) (hb : Below w.heap.size w w') : Tab w' := fun i hi => by
  have hc := h i hi
  have hl := World.block_lt_of_cell? w _ hc
  exact (World.cell?_of_block (hb.block _ hl)).trans hc
theorem Tab.alloc {w : World} (h : Tab w) (o : Obj) : Tab (w.alloc o) := h.ext ((Below.refl _ _).alloc (Nat.le_refl _) o)
theorem Tab.drewN {w : World} (h : Tab w) (n : Nat) : Tab (w.drewN n) := h

def crcTo (xss : List (List UInt8)) (k : Nat) : Nat := crcL 4294967295 (upTo xss k)
theorem crcTo_lt (xss : List (List UInt8)) (k : Nat) : crcTo xss k < 4294967296 := crcL_lt _ (by decide)
theorem crcTo_succ (xss : List (List UInt8)) (k : Nat) (h : k < xss.length) : crcTo xss (k + 1) = crcL (crcTo xss k) xss[k] := by
  unfold crcTo; rw [upTo_succ xss k h, crcL_append]
def crcAt (s : Nat) (xs : List UInt8) (j : Nat) : Nat := crcL s (xs.take j)

theorem crcAt_succ (s : Nat) (xs : List UInt8) (j : Nat) (h : j < xs.length) : crcAt s xs (j + 1) = crcB (crcAt s xs j) xs[j] := crcL_take_succ s xs j h
theorem crcAt_all (s : Nat) (xs : List UInt8) : crcAt s xs xs.length = crcL s xs := by unfold crcAt; rw [List.take_length]

/-- one step of four digits, in the walk's own words -/
theorem nib_step (s : Nat) (h : s < 4294967296) (w : World) (ht : Tab w) : ∃ m t s2 : Nat, (m : Int) < 16 ∧ bits .and .u32 (s : Int) 15 = (m : Int) ∧ w.cell? ⟨0, m, none⟩ = some (.int .u32 (t : Int)) ∧
    bits .xor .u32 ((s : Int) / 16) (t : Int) = (s2 : Int) ∧ s2 = nib s := by
  refine ⟨s % 16, tab (s % 16), nib s, by omega, ?_, ht _ (by omega), ?_, rfl⟩
  · have h2 := u32_and_nat s 15 h (by omega)
    rw [nat_mask4] at h2
    exact h2
  · have h2 := u32_xor_nat (s / 16) (tab (s % 16)) (by omega) (tab_lt _)
    rw [Int.natCast_ediv] at h2
    exact h2
theorem xor_step (s : Nat) (h : s < 4294967296) (b : UInt8) : ∃ s1 : Nat, bits .xor .u32 (s : Int) ((b.toNat : Int) % 4294967296) = (s1 : Int) ∧ s1 = s ^^^ b.toNat ∧ s1 < 4294967296 := by
  refine ⟨s ^^^ b.toNat, ?_, rfl, xorb_lt h b⟩
  have hb := b.toNat_lt
  rw [show (b.toNat : Int) % 4294967296 = (b.toNat : Int) by omega]
  exact u32_xor_nat s b.toNat h (by omega)

theorem xor_ones (s : Nat) (h : s < 4294967296) : 4294967295 ^^^ s = 4294967295 - s := by
  have e : BitVec.allOnes 32 ^^^ BitVec.ofNat 32 s = ~~~ BitVec.ofNat 32 s := BitVec.allOnes_xor
  have e2 := congrArg BitVec.toNat e
  rw [BitVec.toNat_xor, BitVec.toNat_not, BitVec.toNat_ofNat, BitVec.toNat_allOnes, Nat.mod_eq_of_lt (by omega)] at e2
  have e3 : (2 : Nat) ^ 32 - 1 = 4294967295 := rfl
  rw [e3] at e2
  exact e2
theorem not_u32 (s : Nat) (h : s < 4294967296) : bits .xor .u32 IntKind.u32.max (s : Int) = ((4294967295 - s : Nat) : Int) := by
  have h1 := u32_xor_nat 4294967295 s (by omega) h
  rw [xor_ones s h] at h1
  exact h1

set_option maxHeartbeats 1000000 in
theorem sum_any (A : Option Addr) (n c : Nat) (xss : List (List UInt8)) (bs : List UInt8) (w : World) (ht : Tab w) (hn : n = xss.length) (hbs : xss.flatten = bs) (hr : RowsF (fun _ => False) w A xss) (hb : bs.length ≤ 1099511627776) (hb2 : xss.length ≤ 1099511627776) :
    Calls Tryz.prog 53 #[.slice A n c] w fun e w' => e = .returned (.int .u32 (sumOf bs : Int)) ∧ w = w' := by
  subst hn
  have Hbs := Lib.hid hbs
  have hle := lenTo_le xss
  rw [hbs] at hle
  have Hle := Lib.hid hle
  clear hbs hle
  go_enter Tryz.func53, Tryz.ntmps53
  go_wp2
  go_loop [3, 10] (fun s i => ∃ k : Nat, k ≤ xss.length ∧ i = .int .i64 (k : Int) ∧ s = .int .u32 (crcTo xss k : Int)) (fun _ i => xss.length - (intOf i).toNat)
  case atStart => exact ⟨0, Nat.zero_le _, rfl, rfl⟩
  case round =>
    obtain ⟨k, hk, rfl, rfl⟩ := hrel
    have hlt0 := crcTo_lt xss k
    by_cases hlt : k < xss.length
    · obtain ⟨ad, B, cb, rfl, hcell, hl, hrd⟩ := hr.at_ hlt
      have hsucc := Lib.hid (crcTo_succ xss k hlt)
      have hle' := Hle.out (k + 1)
      rw [lenTo_succ xss k hlt] at hle'
      have hlen : xss[k].length ≤ 1099511627776 := by omega
      clear hle'
      generalize crcTo xss k = s0 at *
      generalize xss[k] = xs at *
      go_wp2
      go_loop [3, 16] (fun s i => ∃ j : Nat, j ≤ xs.length ∧ i = .int .i64 (j : Int) ∧ s = .int .u32 (crcAt s0 xs j : Int)) (fun _ i => xs.length - (intOf i).toNat)
      case atStart => exact ⟨0, Nat.zero_le _, rfl, rfl⟩
      case round =>
        obtain ⟨j, hj, rfl, rfl⟩ := hrel
        by_cases hjl : j < xs.length
        · obtain ⟨a1, rfl, hc1⟩ := hrd.1.at_ (k := j) (by simpa using hjl)
          simp only [List.getElem_map, bv] at hc1
          have hS : crcAt s0 xs j < 4294967296 := crcL_lt _ hlt0
          have hnext := Lib.hid (crcAt_succ s0 xs j hjl)
          generalize crcAt s0 xs j = S at *
          generalize xs[j] = b at *
          obtain ⟨s1, e1, f1, l1⟩ := xor_step S hS b
          obtain ⟨m1, t1, s2, lm1, e2, c1, e3, f2⟩ := nib_step s1 l1 w ht
          have l2 : s2 < 4294967296 := by rw [f2]; exact nib_lt l1
          obtain ⟨m2, t2, s3, lm2, e4, c2, e5, f3⟩ := nib_step s2 l2 w ht
          have hfin := Lib.hid (show crcB S b = s3 by unfold crcB; rw [← f1, ← f2, ← f3])
          clear f1 f2 f3
          go_wp2
          go_round
          case rel => exact ⟨j + 1, by omega, by go_num, by rw [hnext.out, hfin.out]⟩
          case measure => simp [intOf]; omega
        · obtain rfl : j = xs.length := by omega
          have hall := crcAt_all s0 xs
          rw [hall]
          clear hall
          go_wp2
          go_round
          case rel => exact ⟨k + 1, by omega, by go_num, by rw [hsucc.out]⟩
          case measure => simp [intOf]; omega
    · obtain rfl : k = xss.length := by omega
      have hall : crcTo xss xss.length = crcL 4294967295 bs := by unfold crcTo; rw [upTo_all, Hbs.out]
      rw [hall] at hlt0 ⊢
      have hsum := Lib.hid (show bits .xor .u32 IntKind.u32.max (crcL 4294967295 bs : Int) = (sumOf bs : Int) from not_u32 _ hlt0)
      clear hall
      generalize crcL 4294967295 bs = s at *
      go_wp2
      go_ret
      exact ⟨by rw [hsum.out]; rfl, rfl⟩
end Go.Proofs.YtpjgkacekelkdaaGreatDoor

/-
  Plain mathematics: a number as bytes, the lowest first. No Go here.
-/
namespace Go.Proofs.YtpjgkacekelkdaaGreatDoor

/-- a number as so many bytes, the lowest first -/
def lowB (k n : Nat) : List UInt8 := (List.range k).map fun i => (n / 256 ^ i).toUInt8
theorem lowB_length (k n : Nat) : (lowB k n).length = k := by simp [lowB]
theorem lowB_zero (n : Nat) : lowB 0 n = [] := rfl
theorem lowB_succ (k n : Nat) : lowB (k + 1) n = lowB k n ++ [(n / 256 ^ k).toUInt8] := by
  unfold lowB; rw [List.range_succ, List.map_append]; rfl
theorem lowB_get (k n i : Nat) (h : i < k) : (lowB k n)[i]? = some (n / 256 ^ i).toUInt8 := by
  unfold lowB; simp [h]
theorem lowB_cons : ∀ (k n : Nat), lowB (k + 1) n = n.toUInt8 :: lowB k (n / 256)
  | 0, n => by rw [lowB_succ]; simp [lowB_zero]
  | k + 1, n => by
    rw [lowB_succ, lowB_cons k, lowB_succ k (n / 256), Nat.div_div_eq_div_mul, Nat.pow_succ, Nat.mul_comm 256]; rfl

/-- the number that bytes are, the lowest first -/
def ofLow : List UInt8 → Nat
  | [] => 0
  | b :: r => b.toNat + 256 * ofLow r
theorem ofLow_snoc : ∀ (l : List UInt8) (b : UInt8), ofLow (l ++ [b]) = ofLow l + b.toNat * 256 ^ l.length
  | [], b => by simp [ofLow]
  | a :: r, b => by
    rw [List.cons_append, ofLow, ofLow, ofLow_snoc r b, List.length_cons, Nat.pow_succ, Nat.mul_add, Nat.mul_left_comm, Nat.mul_comm 256 (256 ^ r.length)]
    omega
theorem ofLow_lt : ∀ (l : List UInt8), ofLow l < 256 ^ l.length
  | [] => by simp [ofLow]
  | a :: r => by
    have := ofLow_lt r
    have ha := a.toNat_lt
    rw [ofLow, List.length_cons, Nat.pow_succ, Nat.mul_comm (256 ^ r.length)]
    omega
theorem toUInt8_toNat (n : Nat) : n.toUInt8.toNat = n % 256 := by simp [Nat.toUInt8, UInt8.toNat_ofNat']
theorem ofLow_lowB : ∀ (k n : Nat), ofLow (lowB k n) = n % 256 ^ k
  | 0, n => by simp [lowB_zero, ofLow, Nat.mod_one]
  | k + 1, n => by
    rw [lowB_cons, ofLow, ofLow_lowB k, toUInt8_toNat, Nat.pow_succ, Nat.mul_comm (256 ^ k), Nat.mod_mul]
theorem lowB_ofLow : ∀ (l : List UInt8), lowB l.length (ofLow l) = l
  | [] => rfl
  | a :: r => by
    have ha := a.toNat_lt
    rw [List.length_cons, lowB_cons, ofLow, show (a.toNat + 256 * ofLow r) / 256 = ofLow r by omega, lowB_ofLow r]
    congr 1
    apply UInt8.toNat_inj.1
    rw [toUInt8_toNat]; omega
theorem lowB_inj {k a b : Nat} (ha : a < 256 ^ k) (hb : b < 256 ^ k) (h : lowB k a = lowB k b) : a = b := by
  have e := congrArg ofLow h
  rw [ofLow_lowB, ofLow_lowB, Nat.mod_eq_of_lt ha, Nat.mod_eq_of_lt hb] at e
  exact e
theorem ofLow_take_succ (l : List UInt8) (k : Nat) (h : k < l.length) : ofLow (l.take (k + 1)) = ofLow (l.take k) + l[k].toNat * 256 ^ k := by
  rw [List.take_succ_eq_append_getElem h, ofLow_snoc, List.length_take, Nat.min_eq_left (by omega)]
theorem ofLow_drop (l : List UInt8) (k : Nat) (h : k < l.length) : ofLow (l.drop k) = l[k].toNat + 256 * ofLow (l.drop (k + 1)) := by
  rw [List.drop_eq_getElem_cons h, ofLow]
theorem ofLow_lt_of {l : List UInt8} {k : Nat} (h : l.length ≤ k) : ofLow l < 256 ^ k := Nat.lt_of_lt_of_le (ofLow_lt l) (Nat.pow_le_pow_right (by omega) h)
end Go.Proofs.YtpjgkacekelkdaaGreatDoor

/-
  A number in four bytes. No statement of the seat is proved here.
-/
namespace Go.Proofs.YtpjgkacekelkdaaGreatDoor
open Go Go.RowKit

theorem New.of_blk {w w' : World} {g : Nat} {bs : List UInt8} (h : Blk w' g 5 (bs.map bv).toArray) (hg : w.heap.size ≤ g) (hm : bs.length ≤ maxLen) : New w w' (some ⟨g, 0, none⟩) bs.length bs := by
  refine ⟨⟨by simp, .inr ⟨g, bs.length, (bs.map bv).toArray, by simp, Nat.zero_le _, h, by simp, hm, by simp, ?_⟩⟩, fun ad e => by injection e with e; subst e; exact ⟨hg, h.lt⟩⟩
  rw [List.length_map, Nat.mul_one, List.take_of_length_le (by simp)]

theorem low_cast (n j : Nat) : Value.int .u8 ((n : Int) / 2 ^ (8 * j) % 256) = bv (n / 256 ^ j).toUInt8 := by
  unfold bv
  rw [toUInt8_toNat]
  congr 1
  have e : (256 : Nat) ^ j = 2 ^ (8 * j) := by rw [show (256 : Nat) = 2 ^ 8 from rfl, ← Nat.pow_mul]
  rw [e, Int.natCast_emod, Int.natCast_ediv, Int.natCast_pow]
  rfl
theorem four_get (n : Nat) (hn : n < 4294967296) : ((lowB 4 n).map bv).toArray = #[.int .u8 ((n : Int) % 256), .int .u8 ((n : Int) / 256 % 256), .int .u8 ((n : Int) / 65536 % 256), .int .u8 ((n : Int) / 16777216)] := by
  have h := low_cast n
  have e : lowB 4 n = [(n / 256 ^ 0).toUInt8, (n / 256 ^ 1).toUInt8, (n / 256 ^ 2).toUInt8, (n / 256 ^ 3).toUInt8] := rfl
  rw [e]
  simp only [List.map_cons, List.map_nil]
  rw [← h 0, ← h 1, ← h 2, ← h 3, show (n : Int) / 16777216 = (n : Int) / 2 ^ (8 * 3) % 256 by omega]
  simp
end Go.Proofs.YtpjgkacekelkdaaGreatDoor

/-
  Package exact's Summed: what a Writer has laid, and behind it the four bytes of its sum. No statement of the seat is proved here.
-/
namespace Go.Proofs.YtpjgkacekelkdaaGreatDoor
open Go Go.RowKit
set_option maxRecDepth 100000

/-- what has been summed, and its sum -/
def sealB (p : List UInt8) : List UInt8 := p ++ lowB 4 (sumOf p)
theorem sumOf_lt (p : List UInt8) : sumOf p < 4294967296 := by unfold sumOf; omega
theorem sealB_length (p : List UInt8) : (sealB p).length = p.length + 4 := by unfold sealB; rw [List.length_append, lowB_length]

set_option maxHeartbeats 2000000 in
theorem summed_any (fp : Nat → Prop) (g : Nat) (bs : List UInt8) (w : World) (ht : Tab w) (hw : Wr w fp g (bs.map bv)) (hb : bs.length ≤ 1073741824) :
    Calls Tryz.prog 21 #[.pointer (some ⟨g, 0, none⟩)] w fun e w' => ∃ A' c', e = .returned (.slice A' (sealB bs).length c') ∧ New w w' A' c' (sealB bs) ∧ Below w.heap.size w w' := by
  have HO := Lib.hid (out_any fp g bs w hw (by omega))
  have Ht := Lib.hid ht
  have hs := sumOf_lt bs
  have Hg := Lib.hid (four_get (sumOf bs) hs)
  clear hw ht
  obtain ⟨s, hse⟩ : ∃ s, sumOf bs = s := ⟨_, rfl⟩
  have Hs : Hid ([bs, lowB 4 s].flatten = sealB bs) := Lib.hid (by rw [← hse]; simp [sealB])
  have HL := Lib.hid (sealB_length bs)
  have HS : Hid (sumOf bs = s) := Lib.hid hse
  rw [hse] at hs Hg
  clear hse
  generalize sealB bs = Y at *
  go_enter Tryz.func21, Tryz.ntmps21
  go_wp2_with fail
  refine HO.out.mono ?_
  rintro e w1 ⟨A1, c1, rfl, hn1, hb1⟩
  have hc1 : bs.length ≤ c1 := by have := hn1.cap; simpa using this
  have Hb1 := Lib.hid hb1
  have Hn1 := Lib.hid hn1
  clear hn1 hb1 HO
  go_wp2_with fail
  refine (sum_any _ 1 1 [bs] bs _ ((Ht.out.ext Hb1.out).alloc _) rfl (by simp) (RowsF.one (RdF.of Hn1.out.rd) hc1 _ rfl id) (by omega) (by simp)).mono ?_
  rintro e w2 ⟨rfl, rfl⟩
  rw [HS.out]
  go_wp2_with fail
  rw [← Hg.out]
  refine (join_any _ 2 2 [bs, lowB 4 s] Y _ rfl Hs.out (RowsF.two (ys := lowB 4 s) (RdF.of ((Hn1.out.rd.alloc _).alloc _)) hc1 (RdF.of (by have := Rd.lit (w1.alloc (.cells #[.slice A1 bs.length c1] 26)) ((lowB 4 s).map bv).toArray 5; simpa using this)) (Nat.le_refl 4) _ (by simp) id) (by rw [HL.out]; omega) (by simp)).mono ?_
  rintro e w3 ⟨A3, c3, rfl, hn3, hb3⟩
  go_wp2
  go_ret
  exact ⟨A3, c3, rfl, hn3.back (ext_alloc (ext_alloc (ext_alloc Hb1.out _) _) _).size, ext_trans (ext_alloc (ext_alloc (ext_alloc Hb1.out _) _) _) hb3⟩
end Go.Proofs.YtpjgkacekelkdaaGreatDoor

/-
  Plain mathematics of the check sum: digit by digit is four digits at a time; a byte that is another one has another sum. No Go here.
-/
namespace Go.Proofs.YtpjgkacekelkdaaGreatDoor

/-- one binary digit of the sum -/
def bit1 (s : Nat) : Nat := if s % 2 = 1 then s / 2 ^^^ 3988292384 else s / 2
def bitN : Nat → Nat → Nat
  | 0, s => s
  | n + 1, s => bitN n (bit1 s)
theorem xor_lt32 {a b : Nat} (ha : a < 4294967296) (hb : b < 4294967296) : a ^^^ b < 4294967296 := Nat.xor_lt_two_pow (n := 32) ha hb
theorem bit1_lt {s : Nat} (h : s < 4294967296) : bit1 s < 4294967296 := by
  unfold bit1
  split
  · exact xor_lt32 (by omega) (by omega)
  · omega
theorem bitN_lt : ∀ (n : Nat) {s : Nat}, s < 4294967296 → bitN n s < 4294967296
  | 0, _, h => h
  | n + 1, _, h => bitN_lt n (bit1_lt h)
theorem xor_half (a b : Nat) : (a ^^^ b) / 2 = a / 2 ^^^ b / 2 := Nat.xor_div_two_pow (n := 1)
theorem xor_odd (a b : Nat) : (a ^^^ b) % 2 = (a % 2) ^^^ (b % 2) := Nat.xor_mod_two_pow (n := 1)
/-- the step is the same on both parts of a sum without carries -/
theorem bit1_xor (a b : Nat) : bit1 (a ^^^ b) = bit1 a ^^^ bit1 b := by
  have ha : a % 2 = 0 ∨ a % 2 = 1 := by omega
  have hb : b % 2 = 0 ∨ b % 2 = 1 := by omega
  unfold bit1
  rw [xor_odd, xor_half]
  rcases ha with ha | ha <;> rcases hb with hb | hb <;> rw [ha, hb]
  · simp
  · simp [Nat.xor_assoc]
  · simp only [Nat.zero_ne_one, if_false, if_true]
    rw [show (1 ^^^ 0 : Nat) = 1 from rfl, if_pos rfl, Nat.xor_assoc, Nat.xor_comm (b / 2), ← Nat.xor_assoc]
  · rw [show (1 ^^^ 1 : Nat) = 0 from rfl, if_neg (by omega), if_pos rfl, if_pos rfl]
    have h : ∀ x y p : Nat, x ^^^ p ^^^ (y ^^^ p) = x ^^^ y := fun x y p => by
      rw [Nat.xor_assoc, ← Nat.xor_assoc p, Nat.xor_comm p y, Nat.xor_assoc y, Nat.xor_self, Nat.xor_zero]
    rw [h]
theorem bitN_xor : ∀ (n a b : Nat), bitN n (a ^^^ b) = bitN n a ^^^ bitN n b
  | 0, _, _ => rfl
  | n + 1, a, b => by unfold bitN; rw [bit1_xor, bitN_xor n]
theorem bit1_even (a : Nat) : bit1 (2 * a) = a := by unfold bit1; rw [if_neg (by omega)]; omega
theorem bitN_sixteen (a : Nat) : bitN 4 (16 * a) = a := by
  have h : ∀ x, bitN 4 x = bit1 (bit1 (bit1 (bit1 x))) := fun _ => rfl
  rw [h, show 16 * a = 2 * (2 * (2 * (2 * a))) by omega, bit1_even, bit1_even, bit1_even, bit1_even]
theorem bitN_low : ∀ i, i < 16 → bitN 4 i = tab i := by decide
theorem join16 (s : Nat) : s = 16 * (s / 16) ^^^ s % 16 := by
  have h : 16 * (s / 16) ||| s % 16 = 16 * (s / 16) + s % 16 := by
    have := Nat.two_pow_add_eq_or_of_lt (i := 4) (b := s % 16) (by omega) (s / 16)
    exact this.symm
  have h2 : 16 * (s / 16) &&& s % 16 = 0 := by
    apply Nat.eq_of_testBit_eq
    intro i
    rw [Nat.testBit_and, Nat.zero_testBit]
    by_cases hi : i < 4
    · have : (16 * (s / 16)).testBit i = false := by
        rw [show (16 : Nat) = 2 ^ 4 from rfl, Nat.testBit_two_pow_mul]
        simp; omega
      rw [this]; rfl
    · have : (s % 16).testBit i = false := Nat.testBit_lt_two_pow (by
        have : 2 ^ 4 ≤ 2 ^ i := Nat.pow_le_pow_right (by omega) (by omega)
        have h16 : (2 : Nat) ^ 4 = 16 := rfl
        omega)
      rw [this, Bool.and_false]
  apply Nat.eq_of_testBit_eq
  intro i
  have e := congrArg (·.testBit i) h
  have e2 := congrArg (·.testBit i) h2
  simp only [Nat.testBit_or, Nat.testBit_and, Nat.zero_testBit] at e e2
  rw [Nat.mul_comm 16, Nat.div_add_mod'] at e
  rw [Nat.testBit_xor, ← e]
  rw [Nat.mul_comm 16] at e2 ⊢
  generalize (s / 16 * 16).testBit i = x at *
  generalize (s % 16).testBit i = y at *
  cases x <;> cases y <;> simp_all
theorem bitN_nib (s : Nat) : bitN 4 s = nib s := by
  conv => lhs; rw [join16 s]
  rw [bitN_xor, bitN_sixteen, bitN_low _ (by omega)]; rfl
theorem bitN_add : ∀ (m n s : Nat), bitN (m + n) s = bitN n (bitN m s)
  | 0, n, s => by rw [Nat.zero_add]; rfl
  | m + 1, n, s => by rw [Nat.add_right_comm]; show bitN (m + n) (bit1 s) = _; rw [bitN_add m n]; rfl
theorem bitN_byte (s : Nat) : bitN 8 s = nib (nib s) := by rw [bitN_add 4 4, bitN_nib, bitN_nib]

theorem bitN_succ (n s : Nat) : bitN (n + 1) s = bit1 (bitN n s) := bitN_add n 1 s

/-! ### a byte that is another one has another sum -/
theorem tab_top0 : ∀ i, i < 16 → ∀ j, j < 16 → tab i / 268435456 = tab j / 268435456 → i = j := by decide
theorem tab_top (i j : Nat) (hi : i < 16) (hj : j < 16) (h : tab i / 268435456 = tab j / 268435456) : i = j := tab_top0 i hi j hj h
theorem xor_left_cancel {a b c : Nat} (h : a ^^^ c = b ^^^ c) : a = b := by
  have e := congrArg (· ^^^ c) h
  simpa [Nat.xor_assoc] using e
theorem xor_right_cancel {a b c : Nat} (h : c ^^^ a = c ^^^ b) : a = b := by rw [Nat.xor_comm c, Nat.xor_comm c] at h; exact xor_left_cancel h
theorem nib_inj {s t : Nat} (hs : s < 4294967296) (ht : t < 4294967296) (h : nib s = nib t) : s = t := by
  unfold nib at h
  have e := congrArg (· / 2 ^ 28) h
  simp only [Nat.xor_div_two_pow] at e
  have p : (2 : Nat) ^ 28 = 268435456 := rfl
  rw [p, Nat.div_eq_of_lt (show s / 16 < 268435456 by omega), Nat.div_eq_of_lt (show t / 16 < 268435456 by omega), Nat.zero_xor, Nat.zero_xor] at e
  have e2 := tab_top (s % 16) (t % 16) (by omega) (by omega) e
  rw [e2] at h
  have e3 := xor_left_cancel h
  omega
theorem crcB_inj_state {s t : Nat} {b : UInt8} (hs : s < 4294967296) (ht : t < 4294967296) (h : crcB s b = crcB t b) : s = t := by
  unfold crcB at h
  have e1 := nib_inj (nib_lt (xorb_lt hs b)) (nib_lt (xorb_lt ht b)) h
  have e2 := nib_inj (xorb_lt hs b) (xorb_lt ht b) e1
  exact xor_left_cancel e2
theorem crcB_inj_byte {s : Nat} {b c : UInt8} (hs : s < 4294967296) (h : crcB s b = crcB s c) : b = c := by
  unfold crcB at h
  have e1 := nib_inj (nib_lt (xorb_lt hs b)) (nib_lt (xorb_lt hs c)) h
  have e2 := nib_inj (xorb_lt hs b) (xorb_lt hs c) e1
  exact UInt8.toNat_inj.1 (xor_right_cancel e2)
theorem crcL_inj (bs : List UInt8) : ∀ {s t : Nat}, s < 4294967296 → t < 4294967296 → crcL s bs = crcL t bs → s = t := by
  induction bs with
  | nil => intro s t _ _ h; exact h
  | cons b r ih => intro s t hs ht h; exact crcB_inj_state hs ht (ih (crcB_lt hs b) (crcB_lt ht b) h)
theorem sum_ne (p : List UInt8) (b c : UInt8) (r : List UInt8) (h : b ≠ c) : sumOf (p ++ b :: r) ≠ sumOf (p ++ c :: r) := by
  intro e
  unfold sumOf at e
  have h0 : (4294967295 : Nat) < 4294967296 := by omega
  have l1 := crcL_lt (p ++ b :: r) h0
  have l2 := crcL_lt (p ++ c :: r) h0
  have e1 : crcL 4294967295 (p ++ b :: r) = crcL 4294967295 (p ++ c :: r) := by omega
  rw [crcL_append, crcL_append] at e1
  have lp := crcL_lt p h0
  exact h (crcB_inj_byte lp (crcL_inj r (crcB_lt lp b) (crcB_lt lp c) e1))
theorem sum_set_ne (bs : List UInt8) (j : Nat) (hj : j < bs.length) (c : UInt8) (h : bs[j] ≠ c) : sumOf (bs.set j c) ≠ sumOf bs := by
  have e1 : bs = bs.take j ++ bs[j] :: bs.drop (j + 1) := by rw [← List.drop_eq_getElem_cons hj, List.take_append_drop]
  have e2 : bs.set j c = bs.take j ++ c :: bs.drop (j + 1) := List.set_eq_take_append_cons_drop .. |>.trans (by rw [if_pos hj])
  rw [e2]
  conv => rhs; rw [e1]
  exact fun h' => sum_ne (bs.take j) bs[j] c (bs.drop (j + 1)) h h'.symm
end Go.Proofs.YtpjgkacekelkdaaGreatDoor

/-
  Lists of texts as arguments, with what they weigh. No statement of the seat is proved here.
-/
namespace Go.Proofs.YtpjgkacekelkdaaGreatDoor
open Go Go.ChangeShapes Go.WideShapes Go.ChangeAt Go.RowKit
set_option maxRecDepth 100000
section
variable {H : Type} {enc : TypeId × Value → H} {W : World}
theorem arg_txts {base : Nat} {v : Value} {d : DataW H} {p : List MemPlace} (hv : Value.okWide Tryz.prog W .any base 45 v) (h : DataW.Trod enc Tryz.prog W 0 (fun _ => true) true 45 v d p) :
    ∃ (A : Option Addr) (n c : Nat) (l : List (List UInt8)), v = .slice A n c ∧ n = l.length ∧ l.length ≤ c ∧ c ≤ maxLen ∧ Rd W A (l.map strV) ∧ (A = none → c = 0) ∧ Told 45 d (if c = 0 then [] else c * 16 :: l.flatMap fun s => [s.length]) (bulkS l + 1) := by
  obtain ⟨a0, len, cap, rfl⟩ := okWide_slice Tryz.underlying45 hv
  obtain ⟨fuel, hf⟩ := h
  obtain ⟨A, len', cap', l, h1, rfl, h3, h4, h5, h6, h7⟩ := read_strs hf
  simp [Value.cells] at h1
  obtain ⟨rfl, rfl, rfl⟩ := h1
  exact ⟨a0, l.length, cap, l, rfl, rfl, h3, h4, h6, h5, h7⟩
end
theorem lens_txts {l : List (List UInt8)} {c M : Nat} (hc : l.length ≤ c) (h : ∀ n ∈ (if c = 0 then [] else c * 16 :: l.flatMap fun s => [s.length]), n ≤ M) : ∀ s ∈ l, s.length ≤ M := fun s hs => by
  have h0 : c ≠ 0 := by
    rintro rfl
    rw [List.eq_nil_of_length_eq_zero (by omega : l.length = 0)] at hs
    cases hs
  exact h _ (by rw [if_neg h0]; exact List.mem_cons_of_mem _ (List.mem_flatMap.2 ⟨s, hs, by simp⟩))
end Go.Proofs.YtpjgkacekelkdaaGreatDoor

/-
  The contracts of winnowerref1's Num, Nums, Bytes. No statement of the seat is proved here.
-/
namespace Go.Proofs.YtpjgkacekelkdaaGreatDoor
open Go Go.RowKit

theorem low_digit64 (n : Nat) (hn : n < 18446744073709551616) : Value.int .u8 (bits .or .u8 (bits .and .u64 (n : Int) 127 % 256) 128) = bv (n % 128 + 128).toUInt8 := by
  have h0 := u64_and_nat n 127 hn (by omega)
  rw [nat_mask7] at h0
  have h1 : bits .and .u64 (n : Int) 127 % 256 = ((n % 128 : Nat) : Int) := by
    rw [show (127 : Int) = ((127 : Nat) : Int) from rfl, h0]; omega
  have h2 : bits .or .u8 ((n % 128 : Nat) : Int) ((128 : Nat) : Int) = ((n % 128 ||| 128 : Nat) : Int) := u8_or_nat _ _ (by omega) (by omega)
  have h3 : n % 128 ||| 128 = n % 128 + 128 := by rw [Nat.or_comm, nat_join 7 128 (n % 128) rfl (by omega), Nat.add_comm]
  rw [h1]
  rw [show (128 : Int) = ((128 : Nat) : Int) from rfl, h2, h3]
  unfold bv
  rw [show (n % 128 + 128).toUInt8.toNat = n % 128 + 128 by simp [Nat.toUInt8, UInt8.toNat_ofNat']; omega]

set_option maxRecDepth 100000 in
set_option maxHeartbeats 1000000 in
theorem refnum_any (v : Int) (w : World) (hv : isInt v) :
    Calls Tryz.prog 24 #[.int .i64 v] w fun e w' => ∃ A' c', e = .returned (.slice A' (dig (clamp v)).length c') ∧ New w w' A' c' (dig (clamp v)) ∧ Below w.heap.size w w' := by
  obtain ⟨hv1, hv2⟩ := hv
  have hcase : v ≤ 0 ∨ (1 ≤ v ∧ v ≤ 4611686018427387904) ∨ 4611686018427387904 < v := by omega
  rcases hcase with ha | ⟨ha, hc⟩ | ha
  all_goals
    obtain ⟨b0, hd0⟩ : ∃ b0, decide ((0 : Int) < v) = b0 := ⟨_, rfl⟩
    have hb0 : b0 = true ∨ b0 = false := by cases b0 <;> simp
    first
      | (have e0 : b0 = true := by rw [← hd0]; exact decide_eq_true (by omega)
         rw [e0] at hd0)
      | (have e0 : b0 = false := by rw [← hd0]; exact decide_eq_false (by omega)
         rw [e0] at hd0)
    clear hb0 e0
    go_enter Tryz.func24, Tryz.ntmps24
    go_wp2
    go_loopw [3, 4] (fun r s w1 => ∃ (n : Nat) (ds : List UInt8) (A' : Option Addr) (c' : Nat), r = .int .u64 (n : Int) ∧ n ≤ 4611686018427387904 ∧ ds ++ dig n = dig (clamp v) ∧ s = .slice A' ds.length c' ∧ New w w1 A' c' ds ∧ Below w.heap.size w w1) (fun r _ _ => (intOf r).toNat)
    case atStart => exact ⟨clamp v, [], none, 0, congrArg (Value.int .u64) (by unfold clamp; omega), clamp_le v, rfl, rfl, Own.none_ _ _ _, Below.refl _ _⟩
    case round =>
      obtain ⟨n, ds, A', c', rfl, hn, he, rfl, hnew, hb⟩ := hrel
      have hl : ds.length ≤ 8 := by
        have h1 := dig_clamp_len v
        have h2 := dig_pos n
        rw [← he, List.length_append] at h1
        omega
      have hk1 : ds.length + 1 ≤ maxLen := by unfold maxLen; omega
      have hk2 : (ds.length + 1) * 1 ≤ 140737488355328 := by omega
      have He := Lib.hid he
      clear he
      by_cases hlt : n < 128
      · have hx := Lib.hid (last_digit n hlt)
        go_wp2_with (at_builtin
                     refine wpList_app _ rfl (.tmp 22) (.tmp 25) _ rfl _ _ 1 Tryz.underlying26 info_u8 rfl A' ds.length c' (ds.map bv) rfl (by rw [List.length_map]) (hnew.alloc _) (some ⟨wr.heap.size, 0, none⟩) 1 1 ([n.toUInt8].map bv) rfl rfl (by rw [last_digit n hlt]; exact Rd.lit wr #[bv n.toUInt8] _) (bvs_one _) hk1 hk2 ?_
                     intro A2 c2 w2 hown2 honly2)
        go_ret
        obtain ⟨g1, g2⟩ := New.grow1 hb hown2 honly2
        have e1 : ds ++ [n.toUInt8] = dig (clamp v) := by rw [← He.out, dig_lt hlt]
        rw [e1] at g1
        refine ⟨A2, c2, ?_, g1, g2⟩
        rw [← e1, List.length_append]; rfl
      · go_wp2_with (at_builtin
                     refine wpList_app _ rfl (.tmp 13) (.tmp 18) _ rfl _ _ 1 Tryz.underlying26 info_u8 rfl A' ds.length c' (ds.map bv) rfl (by rw [List.length_map]) (hnew.alloc _) (some ⟨wr.heap.size, 0, none⟩) 1 1 ([(n % 128 + 128).toUInt8].map bv) rfl rfl (by rw [low_digit64 n (by omega)]; exact Rd.lit wr #[bv (n % 128 + 128).toUInt8] _) (bvs_one _) hk1 hk2 ?_
                     intro A2 c2 w2 hown2 honly2)
        go_roundw
        case rel =>
          obtain ⟨g1, g2⟩ := New.grow1 hb hown2 honly2
          have g3 : ds ++ [(n % 128 + 128).toUInt8] ++ dig (n / 128) = dig (clamp v) := by rw [← He.out, dig_ge hlt]; simp
          exact ⟨n / 128, ds ++ [(n % 128 + 128).toUInt8], A2, c2, by go_num, by omega, g3, by rw [List.length_append]; rfl, g1, g2⟩
        case measure => simp [intOf]; omega

set_option maxRecDepth 100000 in
set_option maxHeartbeats 1000000 in
theorem refnums_any (A : Option Addr) (n c : Nat) (vs : List Int) (bs : List UInt8) (w : World) (hn : n = vs.length) (hbs : numsB vs = bs) (hr : Rd w A (vs.map iv)) (hi : ∀ v ∈ vs, isInt v) (hb : vs.length ≤ 1073741824) :
    Calls Tryz.prog 91 #[.slice A n c] w fun e w' => ∃ A' c', e = .returned (.slice A' bs.length c') ∧ New w w' A' c' bs ∧ Below w.heap.size w w' := by
  subst hn
  have Hbs := Lib.hid hbs
  clear hbs
  go_enter Tryz.func91, Tryz.ntmps91
  go_wp2
  go_loopw [3, 4] (fun s i w1 => ∃ (k : Nat) (ds : List UInt8) (A' : Option Addr) (c' : Nat), k ≤ vs.length ∧ i = .int .i64 (k : Int) ∧ ds = numsTo vs k ∧ s = .slice A' ds.length c' ∧ New w w1 A' c' ds ∧ Below w.heap.size w w1) (fun _ i _ => vs.length - (intOf i).toNat)
  case atStart => exact ⟨0, [], none, 0, Nat.zero_le _, rfl, rfl, rfl, Own.none_ _ _ _, Below.refl _ _⟩
  case round =>
    obtain ⟨k, ds, A', c', hk, rfl, hds, rfl, hnew, hb1⟩ := hrel
    by_cases hlt : k < vs.length
    · obtain ⟨ad, rfl, hc⟩ := (hr.ext hb1).at_ (k := k) (by simpa using hlt)
      simp only [List.getElem_map, iv] at hc
      have hik := hi vs[k] (List.getElem_mem hlt)
      have hlen := numsTo_len vs k
      rw [← hds] at hlen
      have hs := Lib.hid (show ds ++ dig (clamp vs[k]) = numsTo vs (k + 1) by rw [numsTo_succ vs k hlt, hds])
      have h9 := dig_clamp_len vs[k]
      clear hds
      generalize vs[k] = v at *
      go_wp2_with fail
      refine (refnum_any v wr hik).mono ?_
      rintro e w2 ⟨A2, c2, rfl, hnew2, hb2⟩
      generalize dig (clamp v) = ys at *
      have hk1 : ds.length + ys.length ≤ maxLen := by unfold maxLen; omega
      have hk2 : (ds.length + ys.length) * 1 ≤ 140737488355328 := by omega
      have hb2' := ext_trans hb1 hb2
      go_wp2_with (at_builtin
                   refine wpList_app _ rfl (.tmp 11) (.tmp 16) _ rfl _ _ 1 Tryz.underlying26 info_u8 rfl A' ds.length c' (ds.map bv) rfl (by rw [List.length_map]) (hnew.ext hb2) A2 ys.length c2 (ys.map bv) rfl (by rw [List.length_map]) hnew2.rd (bvs_one _) hk1 hk2 ?_
                   intro A3 c3 w3 hown3 honly3)
      go_roundw
      case rel =>
        obtain ⟨g1, g2⟩ := New.grow hb2' hown3 honly3
        exact ⟨k + 1, ds ++ ys, A3, c3, by omega, by go_num, hs.out, by rw [List.length_append], g1, g2⟩
      case measure => simp [intOf]; omega
    · obtain rfl : k = vs.length := by omega
      rw [numsTo_all, Hbs.out] at hds
      subst hds
      go_wp2
      go_ret
      exact ⟨A', c', rfl, hnew, hb1⟩

set_option maxRecDepth 100000 in
set_option maxHeartbeats 1000000 in
theorem refbytes_any (A : Option Addr) (n c : Nat) (xs : List UInt8) (bs : List UInt8) (w : World) (hn : n = xs.length) (hbs : dig xs.length ++ xs = bs) (hr : Rd w A (xs.map bv)) (hb : xs.length ≤ 1099511627776) :
    Calls Tryz.prog 25 #[.slice A n c] w fun e w' => ∃ A' c', e = .returned (.slice A' bs.length c') ∧ New w w' A' c' bs ∧ Below w.heap.size w w' := by
  subst hn
  have hcl := clamp_of_nat (n := xs.length) (by omega)
  have Hbs := Lib.hid hbs
  have h9 := dig_clamp_len (xs.length : Int)
  rw [hcl] at h9
  have Hcl := Lib.hid hcl
  clear hcl hbs
  go_enter Tryz.func25, Tryz.ntmps25
  go_wp2_with fail
  refine (refnum_any (xs.length : Int) _ ⟨by omega, by omega⟩).mono ?_
  rw [Hcl.out]
  rintro e w2 ⟨A2, c2, rfl, hnew2, hb2⟩
  generalize dig xs.length = ys at *
  have hk1 : ys.length + xs.length ≤ maxLen := by unfold maxLen; omega
  have hk2 : (ys.length + xs.length) * 1 ≤ 140737488355328 := by omega
  go_wp2_with (at_builtin
               refine wpList_app _ rfl (.tmp 5) (.tmp 6) _ rfl _ _ 1 Tryz.underlying26 info_u8 rfl A2 ys.length c2 (ys.map bv) rfl (by rw [List.length_map]) hnew2 A xs.length c (xs.map bv) rfl (by rw [List.length_map]) (hr.ext hb2) (bvs_one _) hk1 hk2 ?_
               intro A3 c3 w3 hown3 honly3)
  go_ret
  obtain ⟨g1, g2⟩ := New.grow hb2 hown3 honly3
  rw [Hbs.out] at g1
  refine ⟨A3, c3, ?_, g1, g2⟩
  rw [← Hbs.out, List.length_append]; rfl
end Go.Proofs.YtpjgkacekelkdaaGreatDoor

/-
  The contract of winnowerref1's Sum. No statement of the seat is proved here.
-/
namespace Go.Proofs.YtpjgkacekelkdaaGreatDoor
open Go Go.RowKit

theorem odd_step (s : Nat) (h : s < 4294967296) (ho : s % 2 = 1) : bits .and .u32 (s : Int) 1 = 1 ∧ bits .xor .u32 ((s : Int) / 2) 3988292384 = (bit1 s : Int) := by
  constructor
  · have h2 := u32_and_nat s 1 h (by omega)
    rw [nat_mask1, ho] at h2
    exact h2
  · have h2 := u32_xor_nat (s / 2) 3988292384 (by omega) (by omega)
    rw [Int.natCast_ediv] at h2
    rw [show bit1 s = s / 2 ^^^ 3988292384 by unfold bit1; rw [if_pos ho]]
    exact h2
theorem even_step (s : Nat) (h : s < 4294967296) (ho : ¬ s % 2 = 1) : bits .and .u32 (s : Int) 1 = 0 ∧ (s : Int) / 2 = (bit1 s : Int) := by
  constructor
  · have h2 := u32_and_nat s 1 h (by omega)
    rw [nat_mask1, show s % 2 = 0 by omega] at h2
    exact h2
  · rw [show bit1 s = s / 2 by unfold bit1; rw [if_neg ho]]; omega

set_option maxRecDepth 100000 in
set_option maxHeartbeats 2000000 in
theorem refsum_any (A : Option Addr) (n c : Nat) (xs : List UInt8) (w : World) (hn : n = xs.length) (hr : Rd w A (xs.map bv)) (hb : xs.length ≤ 1099511627776) :
    Calls Tryz.prog 27 #[.slice A n c] w fun e w' => e = .returned (.int .u32 (sumOf xs : Int)) ∧ w = w' := by
  subst hn
  have hsg : IntKind.u32.signed = false := rfl
  go_enter Tryz.func27, Tryz.ntmps27
  go_wp2
  go_loop [3, 4] (fun s i => ∃ j : Nat, j ≤ xs.length ∧ i = .int .i64 (j : Int) ∧ s = .int .u32 (crcAt 4294967295 xs j : Int)) (fun _ i => xs.length - (intOf i).toNat)
  case atStart => exact ⟨0, Nat.zero_le _, rfl, rfl⟩
  case round =>
    obtain ⟨j, hj, rfl, rfl⟩ := hrel
    have hS : crcAt 4294967295 xs j < 4294967296 := crcL_lt _ (by omega)
    by_cases hjl : j < xs.length
    · obtain ⟨a1, rfl, hc1⟩ := hr.at_ (k := j) (by simpa using hjl)
      simp only [List.getElem_map, bv] at hc1
      have hnext := Lib.hid (crcAt_succ 4294967295 xs j hjl)
      generalize crcAt 4294967295 xs j = S at *
      generalize xs[j] = b at *
      obtain ⟨s1, e1, f1, l1⟩ := xor_step S hS b
      have hfin := Lib.hid (show crcB S b = bitN 8 s1 by rw [bitN_byte, f1]; rfl)
      clear f1
      go_wp2
      go_loop [3, 5] (fun s i => ∃ k : Nat, k ≤ 8 ∧ i = .int .i64 (k : Int) ∧ s = .int .u32 (bitN k s1 : Int)) (fun _ i => 8 - (intOf i).toNat)
      case atStart => exact ⟨0, Nat.zero_le _, rfl, rfl⟩
      case round =>
        obtain ⟨k, hk, rfl, rfl⟩ := hrel
        by_cases hkl : k < 8
        · have hl := bitN_lt k l1
          have hsucc := Lib.hid (bitN_succ k s1)
          generalize bitN k s1 = t at *
          by_cases ho : t % 2 = 1
          · obtain ⟨q1, q2⟩ := odd_step t hl ho
            obtain ⟨t2, ht2⟩ : ∃ t2, t2 = bit1 t := ⟨_, rfl⟩
            rw [← ht2] at q2
            have Ht2 := Lib.hid ht2
            clear ht2 ho
            go_wp2
            go_round
            case rel => exact ⟨k + 1, by omega, by go_num, by rw [hsucc.out, ← Ht2.out]⟩
            case measure => simp [intOf]; omega
          · obtain ⟨q1, q2⟩ := even_step t hl ho
            obtain ⟨t2, ht2⟩ : ∃ t2, t2 = bit1 t := ⟨_, rfl⟩
            rw [← ht2] at q2
            have Ht2 := Lib.hid ht2
            clear ht2 ho
            go_wp2
            go_round
            case rel => exact ⟨k + 1, by omega, by go_num, by rw [hsucc.out, ← Ht2.out]⟩
            case measure => simp [intOf]; omega
        · obtain rfl : k = 8 := by omega
          go_wp2
          go_round
          case rel => exact ⟨j + 1, by omega, by go_num, by rw [hnext.out, hfin.out]⟩
          case measure => simp [intOf]; omega
    · obtain rfl : j = xs.length := by omega
      have hall := crcAt_all 4294967295 xs
      rw [hall] at hS ⊢
      have hsum := Lib.hid (show bits .xor .u32 IntKind.u32.max (crcL 4294967295 xs : Int) = (sumOf xs : Int) from not_u32 _ hS)
      clear hall
      generalize crcL 4294967295 xs = s at *
      go_wp2
      go_ret
      exact ⟨by rw [hsum.out]; rfl, rfl⟩
end Go.Proofs.YtpjgkacekelkdaaGreatDoor

/-
  A number in four bytes: the reference's Four. No statement of the seat is proved here.
-/
namespace Go.Proofs.YtpjgkacekelkdaaGreatDoor
open Go Go.RowKit

theorem four_any (n : Nat) (w : World) (hn : n < 4294967296) :
    Calls Tryz.prog 26 #[.int .u32 (n : Int)] w fun e w' => ∃ A' c', e = .returned (.slice A' 4 c') ∧ New w w' A' c' (lowB 4 n) ∧ Below w.heap.size w w' := by
  have hg := Lib.hid (four_get n hn)
  go_enter Tryz.func26, Tryz.ntmps26
  go_wp2
  go_ret
  have hb : Below w.heap.size w (w.alloc (.cells ((lowB 4 n).map bv).toArray 5)) := (Below.refl _ _).alloc (Nat.le_refl _) _
  have hn' : New w (w.alloc (.cells ((lowB 4 n).map bv).toArray 5)) (some ⟨w.heap.size, 0, none⟩) 4 (lowB 4 n) := by
    have := New.of_blk (w := w) (Blk.new w 5 ((lowB 4 n).map bv).toArray) (Nat.le_refl _) (by rw [lowB_length]; unfold maxLen; omega)
    rw [lowB_length] at this
    exact this
  rw [hg.out] at hb hn'
  exact ⟨_, _, rfl, hn', hb⟩
end Go.Proofs.YtpjgkacekelkdaaGreatDoor

/-
  A world for the witness of a card: octet's table holds what the rows list. No statement of the seat is proved here.
-/
namespace Go.Proofs.YtpjgkacekelkdaaGreatDoor
open Go Go.ChangeShapes Go.WideShapes Go.ChangeAt Go.RowKit
noncomputable def laidWorld (os : Os) : World :=
  { World.holding Tryz.prog os ⟨#[], #[], []⟩ with heap := (World.holding Tryz.prog os ⟨#[], #[], []⟩).heap.modify 0 fun
      | .cells _ t frozen => .cells #[.int .u32 0, .int .u32 498536548, .int .u32 997073096, .int .u32 651767980, .int .u32 1994146192, .int .u32 1802195444, .int .u32 1303535960, .int .u32 1342533948, .int .u32 3988292384, .int .u32 4027552580, .int .u32 3604390888, .int .u32 3412177804, .int .u32 2607071920, .int .u32 2262029012, .int .u32 2685067896, .int .u32 3183342108] t frozen
      | o => o }
end Go.Proofs.YtpjgkacekelkdaaGreatDoor

/-
  The table of package octet out of 'laid', wherever it stands in the list. No statement of the seat is proved here.
-/
namespace Go.Proofs.YtpjgkacekelkdaaGreatDoor
open Go Go.RowKit

theorem cells_u32 : Tryz.prog.cellsOf 65 = 1 := by kernel_rfl
theorem cells_tab : Tryz.prog.cellsOf 126 = 16 := by kernel_rfl
theorem gTab : Tryz.prog.globalNamed "winnower/octet.crcSteps" = some 0 := by kernel_rfl
theorem gTabType : (Tryz.prog.globals[0]?).map (·.type) = some 126 := by kernel_rfl


theorem tab_of_head {W : World} {rest : List (String × DataW Unit)} (h : laidMet Tryz.prog (("winnower/octet.crcSteps", Rows.laid_winnower_octet_crcSteps) :: rest) W) : Tab W := by
  have h1 : Lib.TabIs Tryz.prog W "winnower/octet.crcSteps" .u32 [0, 498536548, 997073096, 651767980, 1994146192, 1802195444, 1303535960, 1342533948, 3988292384, 4027552580, 3604390888, 3412177804, 2607071920, 2262029012, 2685067896, 3183342108] :=
    Lib.tabIs_of_head (rest := rest) gTab gTabType Tryz.underlying126 Tryz.underlying65 cells_u32 cells_tab h
  intro i hi
  have h2 := h1.cell gTab i (by simpa using hi)
  rw [h2]
  match i, hi with
  | 0, _ => rfl
  | 1, _ => rfl
  | 2, _ => rfl
  | 3, _ => rfl
  | 4, _ => rfl
  | 5, _ => rfl
  | 6, _ => rfl
  | 7, _ => rfl
  | 8, _ => rfl
  | 9, _ => rfl
  | 10, _ => rfl
  | 11, _ => rfl
  | 12, _ => rfl
  | 13, _ => rfl
  | 14, _ => rfl
  | 15, _ => rfl
  | n + 16, h => omega
end Go.Proofs.YtpjgkacekelkdaaGreatDoor
