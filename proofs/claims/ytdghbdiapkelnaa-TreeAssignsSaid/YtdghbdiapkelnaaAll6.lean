/-
  Texts of this claim, joined (part 6): contracts and lemmas that the last text goes by. No statement of the seat is proved here.
-/
import Derived.Test.YtdghbdiapkelnaaAll0
import Derived.Test.YtdghbdiapkelnaaAll1
import Derived.Test.YtdghbdiapkelnaaAll2
import Derived.Test.YtdghbdiapkelnaaAll3
import Derived.Test.YtdghbdiapkelnaaRows
import Derived.ProofKit
import Derived.OpenShut
import Derived.Deep.DeepHandedRow
import Derived.Deep.Matrix
import Derived.LaidLaws
import Derived.ChangeMaps5
import Derived.SizedLaws
import Derived.Deep.Slices
import Derived.Deep.MidRow
import Derived.Deep.QuietTactic
import Derived.Deep.RegionHeld3
set_option linter.unusedVariables false
set_option linter.unusedSimpArgs false
/-
  How a law's contract closes its statement; what an int's and a byte's datum says. No statement of the seat is proved here.
-/
namespace Go.Proofs.Ytdghbdiapkelnaa
open Go Go.ChangeShapes Go.WideShapes Go.ChangeAt Go.RowKit

theorem own : ownKnob Try.prog.godebug = none := by kernel_rfl
theorem laidOut : laidOutB Try.prog = true := by kernel_rfl

theorem int_of_wf {v : Int} (h : (Lit.int .i64 v).wf = true) : isInt v := by
  have h1 : IntKind.i64.min = -9223372036854775808 := rfl
  have h2 : IntKind.i64.max = 9223372036854775807 := rfl
  simp only [Lit.wf, Bool.and_eq_true, decide_eq_true_eq] at h
  unfold isInt
  omega
theorem u8_of_wf {v : Int} (h : (Lit.int .u8 v).wf = true) : 0 ≤ v ∧ v ≤ 255 := by
  have h1 : IntKind.u8.min = 0 := rfl
  have h2 : IntKind.u8.max = 255 := rfl
  simp only [Lit.wf, Bool.and_eq_true, decide_eq_true_eq] at h
  omega

/-! ### How a contract closes a statement -/
section
variable {H : Type} {enc : TypeId × Value → H}
theorem below_trodAll {P : Program} (hl : laidOutB P = true) {W W' : World} (hb : Below W.heap.size W W') : ∀ {ts : List TypeId} {vs : List Value} {ds : List (DataW H)} {ps : List MemPlace},
    (∀ t ∈ ts, P.readableRec t = true ∧ t < P.types.size) → DataW.TrodAll enc P W 0 (fun _ => true) true ts vs ds ps → (∀ x ∈ ps, x.block < W.heap.size) → DataW.TrodAll enc P W' 0 (fun b => decide (b < W.heap.size)) true ts vs ds ps
  | [], [], [], _, _, h, _ => h
  | t :: ts, v :: vs, d :: ds, _, hr, h, hlt => by
    obtain ⟨p, q, h1, h2, rfl⟩ := h
    exact ⟨p, q, Below.trod hl (hr t (by simp)).1 (hr t (by simp)).2 h1 hb (fun x hx => hlt x (by simp [hx])), below_trodAll hl hb (fun t' ht => hr t' (by simp [ht])) h2 (fun x hx => hlt x (by simp [hx])), rfl⟩
  | [], [], _ :: _, _, _, h, _ => h.elim
  | [], _ :: _, _, _, _, h, _ => h.elim
  | _ :: _, [], _, _, _, h, _ => h.elim
  | _ :: _, _ :: _, [], _, _, h, _ => h.elim

/-- a law that returned true, and left all that was there as it was -/
theorem law_post {f : Func} {s : ChangeSpec} {W W' : World} {args : Array Value} {ds gs : List (DataW H)} {before : List MemPlace} (hvars : s.vars = []) (hf : f.resultTypes = #[4])
    (hread : f.params.toList.all (fun t => Try.prog.readableRec t && decide (t < Try.prog.types.size)) = true)
    (hs : (s.fn H ds).results = [.lit (.bool true)] ∧ (s.fn H ds).args = ds ∧ (s.fn H ds).vars = []) (hW : DataW.Whole enc Try.prog f.params.toList s.vars false W args.toList ds gs before) (hb : Below W.heap.size W W') :
    s.post enc Try.prog f false true false false W args (.bool true) W' := by
  have hW' := hW
  have hlt : ∀ x ∈ before, x.block < W.heap.size := fun x hx => by simpa using hW'.lt x hx
  obtain ⟨p, q, hA, hV, he, _, _⟩ := hW
  rw [hvars] at hV
  obtain ⟨hg, hq⟩ := trodVars_none hV
  have hx : ds ++ gs = ds := by rw [hg, List.append_nil]
  refine ⟨ds, gs, before, [] ++ [], p, [], hW', ?_, ?_, ?_, hb.frame _, fun h => by cases h⟩
  · rw [hx, hs.1, hf]
    exact trodAll_cons_mk (shut_bool Try.underlying4 _) trodAll_mk0
  · rw [hx, hs.2.1]
    refine below_trodAll laidOut hb (fun t ht => ?_) hA (fun x hx => hlt x (by rw [he]; simp [hx]))
    have := List.all_eq_true.1 hread t ht
    simpa using this
  · rw [hx, hs.2.2, hvars]
    rfl
end

/-- a world for the witness: the settled one -/
noncomputable def plainWorld (os : Os) : World := World.holding Try.prog os ⟨#[], #[], []⟩
end Go.Proofs.Ytdghbdiapkelnaa

/-
  A text as an argument. No statement of the seat is proved here.
-/
namespace Go.Proofs.Ytdghbdiapkelnaa
open Go Go.RowKit
theorem str_xs (s : ByteArray) (h : s.size ≤ maxLen) : ∃ xs : List UInt8, (.string s : Value) = strV xs ∧ xs.length ≤ maxLen := ⟨s.data.toList, by unfold strV; simp, by simpa using h⟩
end Go.Proofs.Ytdghbdiapkelnaa

/-
  Arguments read element by element, and what the form's reach and bulk say of them. No statement of the seat is proved here.
-/
namespace Go.Proofs.Ytdghbdiapkelnaa
open Go Go.ChangeShapes Go.WideShapes Go.ChangeAt Go.RowKit
set_option maxRecDepth 100000

/-! ### bulk, weights -/
theorem rb_one {H : Type} (d : DataW H) : 1 ≤ Rows.uptoBulk d := by
  cases d with
  | lit l => cases l <;> simp [Rows.uptoBulk]
  | nil => simp [Rows.uptoBulk]
  | ptr d => simp [Rows.uptoBulk]
  | slice elems spare => simp [Rows.uptoBulk]
  | agg parts => simp [Rows.uptoBulk]
  | iface t d => simp [Rows.uptoBulk]
  | map entries => simp [Rows.uptoBulk]
  | held h => simp [Rows.uptoBulk]
theorem rb_all {H : Type} (l : List (DataW H)) : Rows.uptoBulkAll l = (l.map Rows.uptoBulk).sum := by
  induction l with
  | nil => simp [Rows.uptoBulkAll]
  | cons x r ih => simp only [Rows.uptoBulkAll, List.map_cons, List.sum_cons, ih]
theorem rb_slice {H : Type} (a b : List (DataW H)) : (a.map Rows.uptoBulk).sum + 1 ≤ Rows.uptoBulk (.slice a b) := by
  simp only [Rows.uptoBulk, rb_all]
  omega
theorem rb_agg {H : Type} (a : List (DataW H)) : Rows.uptoBulk (.agg a) = (a.map Rows.uptoBulk).sum + 1 := by
  simp only [Rows.uptoBulk, rb_all]
theorem rb_str {H : Type} (s : List UInt8) : Rows.uptoBulk (DataW.lit (H := H) (.string s)) = s.length + 1 := by
  simp [Rows.uptoBulk]
theorem rb_sum {α : Type} (f g : α → Nat) : ∀ l : List α, (∀ x ∈ l, f x ≤ g x) → (l.map f).sum ≤ (l.map g).sum
  | [], _ => Nat.le_refl _
  | x :: r, h => by
    rw [List.map_cons, List.sum_cons, List.map_cons, List.sum_cons]
    have := h x (List.mem_cons_self ..)
    have := rb_sum f g r (fun y hy => h y (List.mem_cons_of_mem _ hy))
    omega
theorem rw_mem {H : Type} {P : Program} {e : TypeId} : ∀ {l : List (DataW H)} {d : DataW H}, d ∈ l → ∀ n ∈ d.weights P e, n ∈ DataW.weightsAll P e l
  | x :: r, d, hd, n, hn => by
    simp only [DataW.weightsAll, List.mem_append]
    rcases List.mem_cons.1 hd with rfl | hd
    · exact .inl hn
    · exact .inr (rw_mem hd n hn)
theorem rw_elem {H : Type} {P : Program} {t e : TypeId} {elems spare : List (DataW H)} {d : DataW H} (hu : P.underlying t = some (.slice e)) (hd : d ∈ elems) (n : Nat) (hn : n ∈ d.weights P e) : n ∈ DataW.weights P t (.slice elems spare) := by
  simp only [DataW.weights, hu, List.mem_cons, List.mem_append]
  exact .inr (.inl (rw_mem hd n hn))
theorem rw_len {H : Type} {P : Program} {t e : TypeId} {elems spare : List (DataW H)} (hu : P.underlying t = some (.slice e)) : (elems.length + spare.length) * P.bytesOf e ∈ DataW.weights P t (.slice elems spare) := by
  simp only [DataW.weights, hu, List.mem_cons, true_or]

/-- What a datum is known to weigh: of these each is among its weights; its bulk is at least so much. -/
structure Told {H : Type} (t : TypeId) (d : DataW H) (ns : List Nat) (b : Nat) : Prop where
  each : ∀ n ∈ ns, n ∈ d.weights Try.prog t
  bulk : b ≤ Rows.uptoBulk d
/-- .. of an argument, under the first form's reach -/
theorem Told.sized {H : Type} {ts : List TypeId} {ds : List (DataW H)} (hz : (DataW.weightsEach Try.prog ts ds).all (· ≤ reachBytes) = true) {j : Nat} {t : TypeId} {d : DataW H} {ns : List Nat} {b : Nat} (h : Told t d ns b) (ht : ts[j]? = some t) (hd : ds[j]? = some d) : ∀ n ∈ ns, n ≤ 140737488355328 := fun n hn => by
  have h1 := List.all_eq_true.1 hz n (DataW.weights_mem_each ht hd n (h.each n hn))
  have h2 := reachBytes_lt
  simp only [decide_eq_true_eq] at h1
  omega

/-! ### rows in memory -/
/-- A row in memory, element by element: 'R' tells the cells of each. -/
def RowR {α : Type} (R : World → List Value → α → Prop) (sz : Nat) (w : World) (A : Option Addr) (l : List α) : Prop :=
  ∀ (k : Nat) (hk : k < l.length), ∃ g o cs, A = some ⟨g, o, none⟩ ∧ cs.length = sz ∧ (∀ (j : Nat) (u : Value), cs[j]? = some u → w.cell? ⟨g, o + k * sz + j, none⟩ = some u) ∧ R w cs l[k]
/-- what is told of one world holds of each that came of it -/
def Lasts {α : Type} (R : World → List Value → α → Prop) : Prop := ∀ (w w' : World) (cs : List Value) (a : α), Below w.heap.size w w' → R w cs a → R w' cs a
section
variable {α : Type} {R : World → List Value → α → Prop} {sz : Nat} {w w' : World} {A : Option Addr} {l : List α}
theorem RowR.nil (w : World) (A : Option Addr) : RowR R sz w A [] := fun k hk => absurd hk (by simp)
theorem RowR.ext (hR : Lasts R) (h : RowR R sz w A l) (hb : Below w.heap.size w w') : RowR R sz w' A l := fun k hk => by
  obtain ⟨g, o, cs, e, hl, hc, hr⟩ := h k hk
  refine ⟨g, o, cs, e, hl, fun j u hu => ?_, hR _ _ _ _ hb hr⟩
  have h1 := hc j u hu
  have hlt := World.block_lt_of_cell? w _ h1
  exact (World.cell?_of_block (hb.block _ hlt)).trans h1
theorem RowR.lasts {sz : Nat} (hR : Lasts R) : ∀ (w w' : World) (A : Option Addr) (l : List α), Below w.heap.size w w' → RowR R sz w A l → RowR R sz w' A l := fun _ _ _ _ hb h => h.ext hR hb
end

/-! ### a slice, opened -/
section
variable {H : Type} {enc : TypeId × Value → H} {W : World}
theorem spot_none {a : Addr} {u : Value} (h : W.cell? (a.add 0) = some u) : ∃ g o, a = ⟨g, o, none⟩ := by
  obtain ⟨g, o, s⟩ := a
  cases s with
  | none => exact ⟨g, o, rfl⟩
  | some s =>
    unfold World.cell? Addr.add at h
    simp at h
    split at h <;> simp at h

/-- A slice as a row: what holds of each element that is read ('R' its cells; 'ns' what it is known to weigh, 'b' its bulk). -/
theorem read_slice {α : Type} {t e : TypeId} {sz : Nat} (R : World → List Value → α → Prop) (ns : α → List Nat) (b : α → Nat) (bytes : Nat) (ht : Try.prog.underlying t = some (.slice e)) (hsz : Try.prog.cellsOf e = sz) (hby : Try.prog.bytesOf e = bytes) (hpos : 0 < sz)
    (each : ∀ (n : Nat) (cs : List Value) (x : DataW H × List MemPlace), cs.length = sz → DataW.trod enc Try.prog W 0 (fun _ => true) true n e cs = some x → ∃ a : α, R W cs a ∧ Told e x.1 (ns a) (b a))
    {fuel : Nat} {cs : List Value} {x : DataW H × List MemPlace} (h : DataW.trod enc Try.prog W 0 (fun _ => true) true fuel t cs = some x) :
    ∃ (A : Option Addr) (len cap : Nat) (l : List α), cs = [.slice A len cap] ∧ len = l.length ∧ len ≤ cap ∧ cap ≤ maxLen ∧ (A = none → cap = 0) ∧ RowR R sz W A l ∧
      Told t x.1 (if cap = 0 then [] else cap * bytes :: l.flatMap ns) ((l.map b).sum + 1) := by
  rcases Deep.open_slice ht h with ⟨rfl, rfl⟩ | ⟨a, len, cap, m, n, D, Pl, rfl, _, hl, hm, hmm, rfl, hi⟩
  · exact ⟨none, 0, 0, [], rfl, rfl, Nat.le_refl _, Nat.zero_le _, fun _ => rfl, RowR.nil _ _, ⟨by simp, rb_one _⟩⟩
  · simp only [if_true] at hmm
    subst hmm
    rw [hsz] at hi
    have hex : ∀ k, k < m → ∃ (cs' : List Value) (z : α), cs'.length = sz ∧ (∀ j, j < sz → W.cell? ((a.add (k * sz)).add j) = cs'[j]?) ∧ R W cs' z ∧ Told e (D k) (ns z) (b z) := by
      intro k hk
      obtain ⟨cs', hc, htr⟩ := hi k hk
      obtain ⟨_, hcl, hat⟩ := World.cells?_some hc
      obtain ⟨z, hz, hq⟩ := each n cs' _ hcl htr
      exact ⟨cs', z, hcl, hat, hz, hq⟩
    by_cases h0 : m = 0
    · subst h0
      obtain rfl : len = 0 := by omega
      exact ⟨some a, 0, 0, [], rfl, rfl, Nat.le_refl _, Nat.zero_le _, fun _ => rfl, RowR.nil _ _, ⟨by simp, rb_one _⟩⟩
    · obtain ⟨_, z0, _⟩ := hex 0 (by omega)
      have hex2 : ∀ k, ∃ p : List Value × α, k < m → p.1.length = sz ∧ (∀ j, j < sz → W.cell? ((a.add (k * sz)).add j) = p.1[j]?) ∧ R W p.1 p.2 ∧ Told e (D k) (ns p.2) (b p.2) := fun k => by
        by_cases hk : k < m
        · obtain ⟨cs', z, h1⟩ := hex k hk
          exact ⟨(cs', z), fun _ => h1⟩
        · exact ⟨([], z0), fun h => absurd h hk⟩
      obtain ⟨T, hT⟩ := Classical.axiomOfChoice hex2
      obtain ⟨g, o, rfl⟩ : ∃ g o, a = ⟨g, o, none⟩ := by
        obtain ⟨h1, h2, _⟩ := hT 0 (by omega)
        have h3 := h2 0 hpos
        rw [add_add_, List.getElem?_eq_getElem (by omega)] at h3
        exact spot_none (by simpa using h3)
      refine ⟨some ⟨g, o, none⟩, len, m, (List.range len).map fun k => (T k).2, rfl, by simp, hl, hm, (fun h => by cases h), fun k hk => ?_, ⟨fun w hw => ?_, ?_⟩⟩
      · have hk' : k < len := by simpa using hk
        obtain ⟨h1, h2, h3, _⟩ := hT k (by omega)
        refine ⟨g, o, (T k).1, rfl, h1, fun j u hu => ?_, by simpa using h3⟩
        have hj : j < sz := by have := (List.getElem?_eq_some_iff.1 hu).1; omega
        have h4 := h2 j hj
        rw [add_add_, Addr.add_mid, hu] at h4
        rw [Nat.add_assoc]
        exact h4
      · rw [if_neg h0] at hw
        rcases List.mem_cons.1 hw with rfl | hw
        · have h5 := rw_len (H := H) (P := Try.prog) (elems := (List.range len).map D) (spare := (List.range (m - len)).map fun j => D (len + j)) ht
          rw [hby] at h5
          simpa [show len + (m - len) = m by omega] using h5
        · obtain ⟨z, hz, hw⟩ := List.mem_flatMap.1 hw
          obtain ⟨k, hk, rfl⟩ := List.mem_map.1 hz
          have hk' := List.mem_range.1 hk
          exact rw_elem ht (List.mem_map.2 ⟨k, hk, rfl⟩) w ((hT k (by omega)).2.2.2.each w hw)
      · refine Nat.le_trans ?_ (rb_slice _ _)
        rw [List.map_map, List.map_map]
        refine Nat.add_le_add_right (rb_sum _ _ _ (fun k hk => ?_)) 1
        have hk' := List.mem_range.1 hk
        exact (hT k (by omega)).2.2.2.bulk

/-! ### texts -/
/-- a text's one cell -/
def IsStr (_ : World) (cs : List Value) (s : List UInt8) : Prop := cs = [strV s]
theorem IsStr.lasts : Lasts IsStr := fun _ _ _ _ _ h => h
theorem rd_of_rowR {A : Option Addr} {l : List (List UInt8)} (h : RowR IsStr 1 W A l) : Rd W A (l.map strV) := fun j u hu => by
  have hj : j < l.length := by have := (List.getElem?_eq_some_iff.1 hu).1; simpa using this
  obtain ⟨g, o, cs, rfl, _, hc, rfl⟩ := h j hj
  refine ⟨_, rfl, ?_⟩
  rw [Addr.add_mid]
  have := hc 0 _ rfl
  rw [Nat.mul_one, Nat.add_zero] at this
  rw [this, ← hu]
  simp [hj]
theorem cellsR_str : Try.prog.cellsOf 9 = 1 := by kernel_rfl
theorem bytesR_str : Try.prog.bytesOf 9 = 16 := by kernel_rfl
theorem read_str {n : Nat} {cs : List Value} {x : DataW H × List MemPlace} (h : DataW.trod enc Try.prog W 0 (fun _ => true) true n 9 cs = some x) : ∃ s : List UInt8, IsStr W cs s ∧ Told 9 x.1 [s.length] (s.length + 1) := by
  obtain ⟨s, rfl, rfl, hm⟩ := DataW.trod_string Try.underlying9 h
  refine ⟨s.data.toList, by simp [IsStr, strV], ⟨fun n hn => ?_, ?_⟩⟩
  · simp only [List.mem_singleton] at hn
    subst hn
    simp [DataW.weights]
  · rw [rb_str]
    exact Nat.le_refl _
/-- a slice of texts -/
def bulkS (l : List (List UInt8)) : Nat := (l.map fun s => s.length + 1).sum
theorem read_strs {n : Nat} {cs : List Value} {x : DataW H × List MemPlace} (h : DataW.trod enc Try.prog W 0 (fun _ => true) true n 29 cs = some x) :
    ∃ (A : Option Addr) (len cap : Nat) (l : List (List UInt8)), cs = [.slice A len cap] ∧ len = l.length ∧ len ≤ cap ∧ cap ≤ maxLen ∧ (A = none → cap = 0) ∧ Rd W A (l.map strV) ∧
      Told 29 x.1 (if cap = 0 then [] else cap * 16 :: l.flatMap fun s => [s.length]) (bulkS l + 1) := by
  obtain ⟨A, len, cap, l, h1, h2, h3, h4, h5, h6, h7⟩ := read_slice IsStr (fun s => [s.length]) (fun s => s.length + 1) 16 Try.underlying29 cellsR_str bytesR_str (by omega) (fun n cs x _ hx => read_str hx) h
  exact ⟨A, len, cap, l, h1, h2, h3, h4, h5, rd_of_rowR h6, h7⟩
end
end Go.Proofs.Ytdghbdiapkelnaa

/-
  What the arguments of the laws read as, in this seat's words for memory (numbers, bytes); how a law's contract closes its statement. No statement of the seat is proved here.
-/
namespace Go.Proofs.Ytdghbdiapkelnaa
open Go Go.ChangeShapes Go.WideShapes Go.ChangeAt Go.RowKit

theorem cells_u8 : Try.prog.cellsOf 5 = 1 := by kernel_rfl
theorem cells_int : Try.prog.cellsOf 3 = 1 := by kernel_rfl

section
variable {H : Type} {enc : TypeId × Value → H} {W : World} {base : Nat}
theorem bv_of {z : Int} (h : (Lit.int .u8 z).wf = true) : Value.int .u8 z = bv z.toNat.toUInt8 := by
  have h1 : IntKind.u8.min = 0 := rfl
  have h2 : IntKind.u8.max = 255 := rfl
  simp only [Lit.wf, Bool.and_eq_true, decide_eq_true_eq] at h
  unfold bv
  rw [show (z.toNat.toUInt8.toNat : Int) = z by simp [Nat.toUInt8, UInt8.toNat_ofNat']; omega]

/-- the bytes that numbers are -/
def toBytes (zs : List Int) : List UInt8 := zs.map fun z => z.toNat.toUInt8

theorem rd_bytes {a : Addr} {len : Nat} {zs : List Int} (hl : len ≤ zs.length) (hc : ∀ i, i < zs.length → W.cell? (a.add i) = some (.int .u8 (zs.getD i 0))) (hw : ∀ n ∈ zs, (Lit.int .u8 n).wf = true) :
    Rd W (some a) ((toBytes (zs.take len)).map bv) := by
  intro j u hu
  have hj : j < len := by
    have := (List.getElem?_eq_some_iff.1 hu).1
    simp [toBytes] at this; omega
  refine ⟨a, rfl, ?_⟩
  rw [hc j (by omega), ← hu]
  have hz : zs.getD j 0 = zs[j]'(by omega) := by simp [List.getD, show j < zs.length by omega]
  rw [hz, bv_of (hw _ (List.getElem_mem _))]
  simp [toBytes, hj, show j < zs.length by omega]

set_option maxRecDepth 100000 in
theorem arg_bytes {v : Value} {d : DataW H} {p : List MemPlace} (hv : Value.okWide Try.prog W .any base 48 v) (h : DataW.Trod enc Try.prog W 0 (fun _ => true) true 48 v d p) :
    ∃ (A : Option Addr) (n c : Nat) (xs : List UInt8), v = .slice A n c ∧ n = xs.length ∧ xs.length ≤ c ∧ c ≤ maxLen ∧ Rd W A (xs.map bv) := by
  obtain ⟨a0, len, cap, rfl⟩ := okWide_slice Try.underlying48 hv
  obtain ⟨fuel, hf⟩ := h
  rcases open_ints Try.underlying48 Try.underlying5 cells_u8 hf with ⟨hcs, hx⟩ | ⟨a, len', cap', zs, hcs, _, hl, hm, hz, hx, hcell, hwz⟩
  · simp [Value.cells] at hcs
    obtain ⟨rfl, rfl, rfl⟩ := hcs
    exact ⟨none, 0, 0, [], rfl, rfl, Nat.le_refl _, Nat.zero_le _, Rd.nil _ _⟩
  · simp [Value.cells] at hcs
    obtain ⟨rfl, rfl, rfl⟩ := hcs
    simp only [if_true] at hz
    exact ⟨some a, len, cap, toBytes (zs.take len), rfl, by simp [toBytes]; omega, by simp [toBytes]; omega, hm, rd_bytes (by omega) hcell hwz⟩

end

end Go.Proofs.Ytdghbdiapkelnaa

/-
  Rows of rows of tokens as arguments. No statement of the seat is proved here.
-/
namespace Go.Proofs.Ytdghbdiapkelnaa
open Go Go.ChangeShapes Go.WideShapes Go.ChangeAt Go.RowKit
set_option maxRecDepth 100000

def IsTk (_ : World) (cs : List Value) (t : Tok) : Prop := cs = [.int .i64 t.kind, strV t.text]
theorem IsTk.lasts : Lasts IsTk := fun _ _ _ _ _ h => h
def IsTks (w : World) (cs : List Value) (l : List Tok) : Prop := ∃ (B : Option Addr) (c : Nat), cs = [.slice B l.length c] ∧ ToksAt w B l ∧ l.length ≤ c ∧ c ≤ maxLen
theorem IsTks.lasts : Lasts IsTks := fun _ _ _ _ hb ⟨B, c, h1, h2, h3, h4⟩ => ⟨B, c, h1, h2.ext hb, h3, h4⟩
def lensTk (l : List Tok) : List Nat := l.map (·.text.length)
theorem toks_of {w : World} {A : Option Addr} {l : List Tok} (h : RowR IsTk 2 w A l) : ToksAt w A l := by
  refine ⟨fun j u hu => ?_, fun hne => ?_⟩
  · have hj : j < l.length * 2 := by have := (List.getElem?_eq_some_iff.1 hu).1; rwa [cellsT_len] at this
    obtain ⟨g, o, cs, e, _, hc, hr⟩ := h (j / 2) (by omega)
    have h0 := flat_at encT 2 (fun _ => rfl) l (j / 2) (j % 2) (by omega) (by omega)
    have hj2 : j / 2 * 2 + j % 2 = j := by omega
    rw [hj2] at h0
    have h1 : (cellsT l)[j]? = (encT l[j / 2])[j % 2]? := h0
    rw [hu] at h1
    unfold IsTk at hr
    refine ⟨⟨g, o, none⟩, e, ?_⟩
    rw [Addr.add_mid]
    have := hc (j % 2) u (by rw [hr]; exact h1.symm)
    rw [show o + j = o + j / 2 * 2 + j % 2 by omega]
    exact this
  · obtain ⟨g, o, cs, e, _⟩ := h 0 (List.length_pos_iff.2 hne)
    intro ad ea
    rw [e] at ea
    injection ea with ea
    exact ⟨g, o, ea.symm⟩
section
variable {H : Type} {enc : TypeId × Value → H} {W : World}
theorem cellsT_tok : Try.prog.cellsOf 62 = 2 := by kernel_rfl
theorem bytesT_tok : Try.prog.bytesOf 62 = 24 := by kernel_rfl
theorem cellsT_toks : Try.prog.cellsOf 33 = 1 := by kernel_rfl
theorem bytesT_toks : Try.prog.bytesOf 33 = 24 := by kernel_rfl
theorem cellsT_int : Try.prog.cellsOf 3 = 1 := by kernel_rfl
theorem cellsT_str : Try.prog.cellsOf 9 = 1 := by kernel_rfl
theorem read_tk {n : Nat} {cs : List Value} {x : DataW H × List MemPlace} (hl : cs.length = 2) (h : DataW.trod enc Try.prog W 0 (fun _ => true) true n 62 cs = some x) : ∃ t : Tok, IsTk W cs t ∧ Told 62 x.1 [t.text.length] 1 := by
  obtain ⟨ys, n', hn', rfl, hlen, hyl, hg⟩ := DataW.trod_struct Try.underlying62 h
  match cs, hl with
  | [e0, e1], _ =>
    match ys, hyl with
    | [y0, y1], _ =>
      have g0 := hg 0 _ rfl
      have g1 := hg 1 _ rfl
      simp only [cellsT_int, cellsT_str, List.drop_zero, List.drop_succ_cons, List.take_succ_cons, List.take_zero, List.getElem?_cons_zero, List.getElem?_cons_succ] at g0 g1
      obtain ⟨z0, q0, r0, w0⟩ := DataW.trod_int Try.underlying3 g0
      obtain ⟨s, hs, h7⟩ := read_str g1
      injection q0 with q0
      unfold IsStr at hs
      injection hs with hs
      subst q0 hs
      refine ⟨⟨z0, s⟩, rfl, ⟨fun n hn => ?_, rb_one _⟩⟩
      have h8 := h7.each n hn
      simp only [List.map_cons, List.map_nil]
      simp only [DataW.weights, Try.underlying62, DataW.weightsEach, List.map_cons, List.map_nil, List.mem_append]
      exact .inr (.inl h8)
theorem read_toks {n : Nat} {cs : List Value} {x : DataW H × List MemPlace} (h : DataW.trod enc Try.prog W 0 (fun _ => true) true n 33 cs = some x) : ∃ l : List Tok, IsTks W cs l ∧ Told 33 x.1 (lensTk l) 1 := by
  obtain ⟨A, len, cap, l, rfl, rfl, h3, h4, h5, h6, h7⟩ := read_slice IsTk (fun t => [t.text.length]) (fun _ => 1) 24 Try.underlying33 cellsT_tok bytesT_tok (by omega) (fun n cs x hl hx => read_tk hl hx) h
  refine ⟨l, ⟨A, cap, rfl, toks_of h6, h3, h4⟩, ⟨fun n hn => ?_, rb_one _⟩⟩
  have h0 : cap ≠ 0 := by
    rintro rfl
    rw [List.eq_nil_of_length_eq_zero (by omega : l.length = 0)] at hn
    cases hn
  obtain ⟨t, ht, rfl⟩ := List.mem_map.1 hn
  exact h7.each _ (by rw [if_neg h0]; exact List.mem_cons_of_mem _ (List.mem_flatMap.2 ⟨t, ht, by simp⟩))
/-- rows of tokens -/
theorem arg_tokss {base : Nat} {v : Value} {d : DataW H} {p : List MemPlace} (hv : Value.okWide Try.prog W .any base 22 v) (h : DataW.Trod enc Try.prog W 0 (fun _ => true) true 22 v d p) :
    ∃ (A : Option Addr) (n c : Nat) (l : List (List Tok)), v = .slice A n c ∧ n = l.length ∧ l.length ≤ c ∧ c ≤ maxLen ∧ RowR IsTks 1 W A l ∧ Told 22 d (if c = 0 then [] else c * 24 :: l.flatMap lensTk) ((l.map fun _ => 1).sum + 1) := by
  obtain ⟨a0, len, cap, rfl⟩ := okWide_slice Try.underlying22 hv
  obtain ⟨fuel, hf⟩ := h
  obtain ⟨A, len', cap', l, h1, rfl, h3, h4, _, h6, h7⟩ := read_slice IsTks lensTk (fun _ => 1) 24 Try.underlying22 cellsT_toks bytesT_toks (by omega) (fun n cs x _ hx => read_toks hx) hf
  simp [Value.cells] at h1
  obtain ⟨rfl, rfl, rfl⟩ := h1
  exact ⟨a0, l.length, cap, l, rfl, rfl, h3, h4, h6, h7⟩
/-- a row of tokens -/
theorem arg_toks1 {base : Nat} {v : Value} {d : DataW H} {p : List MemPlace} (hv : Value.okWide Try.prog W .any base 33 v) (h : DataW.Trod enc Try.prog W 0 (fun _ => true) true 33 v d p) :
    ∃ (A : Option Addr) (n c : Nat) (l : List Tok), v = .slice A n c ∧ n = l.length ∧ l.length ≤ c ∧ c ≤ maxLen ∧ ToksAt W A l ∧ Told 33 d (lensTk l) 1 := by
  obtain ⟨a0, len, cap, rfl⟩ := okWide_slice Try.underlying33 hv
  obtain ⟨fuel, hf⟩ := h
  obtain ⟨l, ⟨B, c, h1, h2, h3, h4⟩, h5⟩ := read_toks hf
  simp [Value.cells] at h1
  obtain ⟨rfl, rfl, rfl⟩ := h1
  exact ⟨a0, l.length, cap, l, rfl, rfl, h3, h4, h2, h5⟩
end
theorem lens_tokss {l : List (List Tok)} {c M : Nat} (hc : l.length ≤ c) (h : ∀ n ∈ (if c = 0 then [] else c * 24 :: l.flatMap lensTk), n ≤ M) : ∀ r ∈ l, ∀ t ∈ r, t.text.length ≤ M := fun r hr t ht => by
  have h0 : c ≠ 0 := by
    rintro rfl
    rw [List.eq_nil_of_length_eq_zero (by omega : l.length = 0)] at hr
    cases hr
  exact h _ (by rw [if_neg h0]; exact List.mem_cons_of_mem _ (List.mem_flatMap.2 ⟨r, hr, List.mem_map.2 ⟨t, ht, rfl⟩⟩))
theorem lens_toks {l : List Tok} {M : Nat} (h : ∀ n ∈ lensTk l, n ≤ M) : ∀ t ∈ l, t.text.length ≤ M := fun t ht => h _ (List.mem_map.2 ⟨t, ht, rfl⟩)
/-- a row of a row -/
theorem row_toks {w : World} {A : Option Addr} {l : List (List Tok)} (h : RowR IsTks 1 w A l) {k : Nat} (hk : k < l.length) : ∃ g o B c, A = some ⟨g, o, none⟩ ∧ w.cell? ⟨g, o + k, none⟩ = some (.slice B l[k].length c) ∧ ToksAt w B l[k] ∧ l[k].length ≤ c ∧ c ≤ maxLen := by
  obtain ⟨g, o, cs, e, _, hc, B, c, rfl, h1, h2, h3⟩ := h k hk
  exact ⟨g, o, B, c, e, by have := hc 0 _ rfl; simpa using this, h1, h2, h3⟩
end Go.Proofs.Ytdghbdiapkelnaa

/-
  The laws' heavy. No statement of the seat is proved here.
-/
namespace Go.Proofs.Ytdghbdiapkelnaa
open Go Go.RowKit
set_option maxRecDepth 100000

set_option maxHeartbeats 8000000 in
theorem heavyT_any (A : Option Addr) (c : Nat) (l : List (List Tok)) (w : World) (h : RowR IsTks 1 w A l) (hl : l.length ≤ maxLen) (hz : ∀ r ∈ l, ∀ t ∈ r, t.text.length ≤ 140737488355328) :
    Calls Try.prog 11 #[.slice A l.length c] w fun e w' => ∃ r : Bool, e = .returned (.bool r) ∧ w = w' ∧ (r = false → ∀ i (hi : i < l.length), i < 120 → sumT l[i] l[i].length ≤ 6000) := by
  unfold maxLen at hl
  have hli : (l.length : Int) ≤ 9223372036854775807 := by omega
  have H := Lib.hid h
  have HZ := Lib.hid hz
  clear hl h hz
  go_enter Try.func11, Try.ntmps11
  go_wp2
  go_loop [3, 4] (fun n i => ∃ (z k : Nat), k ≤ l.length ∧ i = .int .i64 (k : Int) ∧ n = .int .i64 (z : Int) ∧ z ≤ 6000 ∧ Hid (∀ j (hj : j < l.length), j < k → sumT l[j] l[j].length ≤ 6000)) (fun _ i => l.length - (intOf i).toNat)
  case atStart => exact ⟨0, 0, Nat.zero_le _, rfl, rfl, by omega, Lib.hid (fun j _ h => absurd h (by omega))⟩
  case round =>
    obtain ⟨z, k, hk, rfl, rfl, hz6, HS⟩ := hrel
    have hzi : (z : Int) ≤ 6000 := by omega
    by_cases hlt : k < l.length
    · have hki : (k : Int) < (l.length : Int) := by omega
      by_cases h120 : k < 120
      · have hk1 : (k : Int) < 120 := by omega
        obtain ⟨g, o, B, cb, rfl, u0, ht, hm1, hm2⟩ := row_toks H.out hlt
        unfold maxLen at hm2
        have hmi : (l[k].length : Int) ≤ 9223372036854775807 := by omega
        have HT := Lib.hid ht
        have HZk := Lib.hid (HZ.out _ (List.getElem_mem hlt))
        have HSk : Hid (sumT l[k] l[k].length ≤ 6000 → ∀ j (hj : j < l.length), j < k + 1 → sumT l[j] l[j].length ≤ 6000) := Lib.hid (fun h5 j hj hj2 => by
          rcases Nat.lt_succ_iff_lt_or_eq.1 hj2 with h6 | rfl
          · exact HS.out j hj h6
          · exact h5)
        clear ht hm1 hm2
        generalize l[k] = ts at *
        go_wp2
        go_loop [3, 5] (fun n i => ∃ (y q : Nat), q ≤ ts.length ∧ i = .int .i64 (q : Int) ∧ n = .int .i64 (y : Int) ∧ y ≤ 6000 ∧ Hid (sumT ts q ≤ y)) (fun _ i => ts.length - (intOf i).toNat)
        case atStart => exact ⟨z, 0, Nat.zero_le _, rfl, rfl, by omega, Lib.hid (by simp [sumT])⟩
        case round =>
          obtain ⟨y, q, hq, rfl, rfl, hy6, HY⟩ := hrel
          have hyi : (y : Int) ≤ 6000 := by omega
          by_cases hql : q < ts.length
          · have hqi : (q : Int) < (ts.length : Int) := by omega
            obtain ⟨g2, o2, rfl, v0, v1⟩ := HT.out.at_ hql
            have hlen := HZk.out _ (List.getElem_mem hql)
            have HY2 : Hid (sumT ts (q + 1) ≤ y + 1 + ts[q].text.length) := Lib.hid (by rw [sumT_succ _ _ hql]; have := HY.out; omega)
            unfold strV at v1
            obtain ⟨Z, hZ⟩ : ∃ Z : ByteArray, (⟨ts[q].text.toArray⟩ : ByteArray) = Z := ⟨_, rfl⟩
            have hzs : Z.size = ts[q].text.length := by rw [← hZ]; simp [ByteArray.size]
            rw [hZ] at v1
            rw [← hzs] at HY2 hlen
            clear hZ hzs
            have hsi : (Z.size : Int) ≤ 140737488355328 := by omega
            by_cases hbig : 6000 < (y : Int) + 1 + (Z.size : Int)
            · go_wp2
              go_ret
              first | exact .inr ⟨rfl, rfl⟩ | exact .inr ⟨rfl, rfl, fun h => by cases h⟩
            · go_wp2
              go_round
              case rel => exact ⟨y + 1 + Z.size, q + 1, by omega, by go_num, by push_cast; rfl, by omega, HY2⟩
              case measure => simp [intOf]; omega
          · obtain rfl : q = ts.length := by omega
            have HS2 := Lib.hid (HSk.out (Nat.le_trans HY.out hy6))
            go_wp2
            go_round
            case rel => exact ⟨y, k + 1, by omega, by go_num, rfl, by omega, HS2⟩
            case measure => simp [intOf]; omega
      · have hk1 : ¬ (k : Int) < 120 := by omega
        go_wp2
        go_ret
        first | exact .inl ⟨rfl, rfl, fun i hi h => HS.out i hi (by omega)⟩ | exact .inl ⟨rfl, rfl, fun _ i hi h => HS.out i hi (by omega)⟩
    · obtain rfl : k = l.length := by omega
      go_wp2
      go_ret
      first | exact .inl ⟨rfl, rfl, fun i hi _ => HS.out i hi hi⟩ | exact .inl ⟨rfl, rfl, fun _ i hi _ => HS.out i hi hi⟩
end Go.Proofs.Ytdghbdiapkelnaa

/-
  A line by its template, in memory; are two lines one (reference). No statement of the seat is proved here.
-/
namespace Go.Proofs.Ytdghbdiapkelnaa
open Go Go.RowKit
set_option maxRecDepth 100000

/-- a line by its template -/
structure Ln where
  id : Int
  vars : List (List UInt8)
theorem Ln.ext' {a b : Ln} (h1 : a.id = b.id) (h2 : a.vars = b.vars) : a = b := by cases a; cases b; simp_all
structure LnIn (w : World) (l : Ln) (B : Option Addr) (c : Nat) : Prop where
  int : isInt l.id
  le : l.vars.length ≤ c
  cap : c ≤ maxLen
  nil : B = none → c = 0
  rd : Rd w B (l.vars.map strV)
theorem LnIn.ext {w w' : World} {l : Ln} {B : Option Addr} {c : Nat} (h : LnIn w l B c) (hb : Below w.heap.size w w') : LnIn w' l B c := ⟨h.int, h.le, h.cap, h.nil, h.rd.ext hb⟩
def lnV (l : Ln) (B : Option Addr) (c : Nat) : Value := .agg #[.int .i64 l.id, .slice B l.vars.length c]
set_option maxHeartbeats 4000000 in
theorem rline_any (a b : Ln) (A B : Option Addr) (c d : Nat) (w : World) (ha : LnIn w a A c) (hb : LnIn w b B d) :
    Calls Try.prog 14 #[lnV a A c, lnV b B d] w fun e w' => ∃ r, e = .returned (.bool r) ∧ (r = true ↔ a = b) ∧ Below w.heap.size w w' := by
  obtain ⟨w0, hw0⟩ : ∃ w0, w0 = (w.alloc (.cells #[.int .i64 a.id, .slice A a.vars.length c] 31)).alloc (.cells #[.int .i64 b.id, .slice B b.vars.length d] 31) := ⟨_, rfl⟩
  have Hb0 : Hid (Below w.heap.size w w0) := Lib.hid (by rw [hw0]; exact ext2 _ _ _)
  have HX : Hid (Blk w0 w.heap.size 31 #[.int .i64 a.id, .slice A a.vars.length c]) := Lib.hid (by rw [hw0]; exact (Blk.new _ _ _).alloc _)
  have HY : Hid (Blk w0 (w.heap.size + 1) 31 #[.int .i64 b.id, .slice B b.vars.length d]) := Lib.hid (by rw [hw0, ← World.size_alloc w (.cells #[.int .i64 a.id, .slice A a.vars.length c] 31)]; exact Blk.new _ _ _)
  have Hw0 := Lib.hid hw0
  have hl1 := Nat.le_trans ha.le ha.cap
  have hl2 := Nat.le_trans hb.le hb.cap
  unfold maxLen at hl1 hl2
  have hli1 : (a.vars.length : Int) ≤ 9223372036854775807 := by omega
  have hli2 : (b.vars.length : Int) ≤ 9223372036854775807 := by omega
  have HA := Lib.hid ha.rd
  have HB := Lib.hid hb.rd
  have HE : Hid (a.id = b.id → a.vars = b.vars → a = b) := Lib.hid Ln.ext'
  by_cases h1 : a.id = b.id
  · by_cases h2 : a.vars.length = b.vars.length
    · have H2 := Lib.hid h2
      have H1 := Lib.hid h1
      unfold lnV
      rw [← h2]
      rw [← h2] at HY
      rw [← h1]
      rw [← h1] at HY
      rw [← h1, ← h2] at Hw0
      have hN : Hid (∀ k (hk : k < a.vars.length) (hk2 : k < b.vars.length), a.vars[k] ≠ b.vars[k] → a ≠ b) := Lib.hid (fun k hk hk2 hne e => hne (by simp only [e]))
      have hV : Hid (a.vars.take a.vars.length = b.vars.take a.vars.length → a = b) := Lib.hid (fun h => by
        rw [List.take_length, h2, List.take_length] at h
        exact Ln.ext' h1 h)
      generalize a.id = ai at *
      clear h1 h2 ha hb hw0 hl1 hl2 hli2 HE H1
      go_enter Try.func14, Try.ntmps14
      go_wp2
      rw [← Hw0.out]
      go_loopw [5] (fun i wr => ∃ k : Nat, k ≤ a.vars.length ∧ i = .int .i64 (k : Int) ∧ Hid (a.vars.take k = b.vars.take k) ∧ Hid (Below w0.heap.size w0 wr)) (fun i _ => a.vars.length - (intOf i).toNat)
      case atStart => exact ⟨0, Nat.zero_le _, rfl, Lib.hid (by simp), Lib.hid (Below.refl _ _)⟩
      case round =>
        obtain ⟨k, hk, rfl, Heq, Hbw⟩ := hrel
        have hX := HX.out.ext Hbw.out
        have hY := HY.out.ext Hbw.out
        have x1 := hX.cell 1
        have y1 := hY.cell 1
        simp only [List.getElem?_toArray, List.getElem?_cons_zero, List.getElem?_cons_succ] at x1 y1
        have Hbz := Lib.hid (ext_trans Hb0.out Hbw.out)
        clear hX hY
        by_cases hlt : k < a.vars.length
        · have hlt2 : k < b.vars.length := by have := H2.out; omega
          have hki : (k : Int) < (a.vars.length : Int) := by omega
          obtain ⟨ad, rfl, q1⟩ := rd_str (HA.out.ext Hbz.out) hlt
          obtain ⟨ad2, rfl, q2⟩ := rd_str (HB.out.ext Hbz.out) hlt2
          obtain ⟨Y, Z, e1, e2, hc⟩ := str_cases a.vars[k] b.vars[k]
          rw [e1] at q1
          rw [e2] at q2
          clear e1 e2
          rcases hc with ⟨he, rfl⟩ | ⟨hne, hf⟩
          · have He := Lib.hid he
            clear he
            go_wp2_with fail
            go_quiet (fail)
            go_wp2
            go_roundw
            case rel => exact ⟨k + 1, by omega, by go_num, Lib.hid (by rw [List.take_succ_eq_append_getElem hlt, List.take_succ_eq_append_getElem hlt2, Heq.out, He.out]), Lib.hid (ext_drewN Hbw.out _)⟩
            case measure => simp [intOf]; omega
          · have Hd := Lib.hid (hN.out k hlt hlt2 hne)
            clear hne
            go_wp2_with fail
            go_quiet (fail)
            go_wp2
            go_ret
            exact ⟨false, rfl, by simp [Hd.out], ext_drewN Hbz.out _⟩
        · obtain rfl : k = a.vars.length := by omega
          have Hd := Lib.hid (hV.out Heq.out)
          clear hV
          go_wp2
          go_ret
          exact ⟨true, rfl, by simp [Hd.out], Hbz.out⟩
    · have hne : a ≠ b := fun e => h2 (by rw [e])
      have Hne := Lib.hid hne
      have hli : ¬ (a.vars.length : Int) = (b.vars.length : Int) := by omega
      unfold lnV
      rw [← h1]
      generalize a.id = ai at *
      generalize a.vars.length = n at *
      generalize b.vars.length = m at *
      clear hne h1 h2 ha hb hw0 hl1 hl2 HX HY HE HA HB
      go_enter Try.func14, Try.ntmps14
      go_wp2
      go_ret
      exact ⟨false, rfl, by simp [Hne.out], ext2 _ _ _⟩
  · have hne : a ≠ b := fun e => h1 (by rw [e])
    have Hne := Lib.hid hne
    unfold lnV
    generalize a.id = ai at *
    generalize b.id = bi at *
    generalize a.vars.length = n at *
    generalize b.vars.length = m at *
    clear hne ha hb hw0 hl1 hl2 HX HY HE HA HB
    go_enter Try.func14, Try.ntmps14
    go_wp2
    go_ret
    exact ⟨false, rfl, by simp [Hne.out], ext2 _ _ _⟩
end Go.Proofs.Ytdghbdiapkelnaa

/-
  The reference's tree in memory; keys. No statement of the seat is proved here.
-/
namespace Go.Proofs.Ytdghbdiapkelnaa
open Go Go.RowKit
set_option maxRecDepth 100000

/-- a tree of the reference's: all its templates (number 0 too), its leaves; all that it owns lies in S -/
structure RTAt (S : Nat → Prop) (w : World) (g : Nat) (t : Tr) (A : Option Addr) (c : Nat) (xs : List Value) (R : Option Addr) (d : Nat) (ys : List Value) : Prop where
  blk : Blk w g 75 #[.slice A (t.ts.length + 1) c, .slice R t.lv.length d]
  own : RowO w 39 1 A (t.ts.length + 1) c xs
  rows : RowO w 84 4 R t.lv.length d ys
  tsAt : ∀ j, j ≤ t.ts.length → ∃ B e, xs[j]? = some (.slice B (tmpl t j).length e) ∧ RowO w 72 2 B (tmpl t j).length e (cellsP (tmpl t j)) ∧ ∀ k, inA B k → S k
  lvAt : ∀ j (h : j < t.lv.length), ∃ G e, ys[j * 4]? = some (natV t.lv[j].count) ∧ ys[j * 4 + 1]? = some (strV t.lv[j].a) ∧ ys[j * 4 + 2]? = some (strV t.lv[j].b) ∧ ys[j * 4 + 3]? = some (.slice G t.lv[j].gr.length e) ∧ RowO w 3 1 G t.lv[j].gr.length e (t.lv[j].gr.map natV) ∧ ∀ k, inA G k → S k
  sg : S g
  sA : ∀ k, inA A k → S k
  sR : ∀ k, inA R k → S k
  lt : ∀ k, S k → k < w.heap.size
def RTIn (S : Nat → Prop) (w : World) (g : Nat) (t : Tr) : Prop := ∃ A c xs R d ys, RTAt S w g t A c xs R d ys
section
variable {S T : Nat → Prop} {w w' : World} {g : Nat} {t : Tr} {A R : Option Addr} {c d : Nat} {xs ys : List Value}
theorem RTAt.only (h : RTAt S w g t A c xs R d ys) (ho : Only T w w') (hn : ∀ k, S k → ¬ T k) : RTAt S w' g t A c xs R d ys where
  blk := h.blk.only ho (hn _ h.sg)
  own := h.own.only ho (fun k hk => hn k (h.sA k hk))
  rows := h.rows.only ho (fun k hk => hn k (h.sR k hk))
  tsAt := fun j hj => by
    obtain ⟨B, e, h1, h2, h3⟩ := h.tsAt j hj
    exact ⟨B, e, h1, h2.only ho (fun k hk => hn k (h3 k hk)), h3⟩
  lvAt := fun j hj => by
    obtain ⟨G, e, h1, h2, h3, h4, h5, h6⟩ := h.lvAt j hj
    exact ⟨G, e, h1, h2, h3, h4, h5.only ho (fun k hk => hn k (h6 k hk)), h6⟩
  sg := h.sg
  sA := h.sA
  sR := h.sR
  lt := fun k hk => Nat.lt_of_lt_of_le (h.lt k hk) ho.size
theorem RTAt.ext (h : RTAt S w g t A c xs R d ys) (hb : Below w.heap.size w w') : RTAt S w' g t A c xs R d ys := h.only (Only.of_ext (S := fun _ => False) hb) (fun _ _ h => h)
theorem RTIn.only (h : RTIn S w g t) (ho : Only T w w') (hn : ∀ k, S k → ¬ T k) : RTIn S w' g t := by
  obtain ⟨A, c, xs, R, d, ys, h⟩ := h
  exact ⟨A, c, xs, R, d, ys, h.only ho hn⟩
theorem RTIn.ext (h : RTIn S w g t) (hb : Below w.heap.size w w') : RTIn S w' g t := h.only (Only.of_ext (S := fun _ => False) hb) (fun _ _ h => h)
theorem RTIn.lt (h : RTIn S w g t) : ∀ k, S k → k < w.heap.size := by
  obtain ⟨A, c, xs, R, d, ys, h⟩ := h
  exact h.lt
theorem RTAt.wider (h : RTAt S w g t A c xs R d ys) (hs : ∀ k, S k → T k) (hl : ∀ k, T k → k < w.heap.size) : RTAt T w g t A c xs R d ys where
  blk := h.blk
  own := h.own
  rows := h.rows
  tsAt := fun j hj => by
    obtain ⟨B, e, h1, h2, h3⟩ := h.tsAt j hj
    exact ⟨B, e, h1, h2, fun k hk => hs k (h3 k hk)⟩
  lvAt := fun j hj => by
    obtain ⟨G, e, h1, h2, h3, h4, h5, h6⟩ := h.lvAt j hj
    exact ⟨G, e, h1, h2, h3, h4, h5, fun k hk => hs k (h6 k hk)⟩
  sg := hs _ h.sg
  sA := fun k hk => hs k (h.sA k hk)
  sR := fun k hk => hs k (h.sR k hk)
  lt := hl
/-- a leaf's cells -/
theorem RTAt.leaf (h : RTAt S w g t A c xs R d ys) {j : Nat} (hj : j < t.lv.length) : ∃ gR oR G e, R = some ⟨gR, oR, none⟩ ∧ w.cell? ⟨gR, oR + j * 4, none⟩ = some (natV t.lv[j].count) ∧ w.cell? ⟨gR, oR + j * 4 + 1, none⟩ = some (strV t.lv[j].a) ∧ w.cell? ⟨gR, oR + j * 4 + 2, none⟩ = some (strV t.lv[j].b) ∧
    w.cell? ⟨gR, oR + j * 4 + 3, none⟩ = some (.slice G t.lv[j].gr.length e) ∧ ys[j * 4 + 3]? = some (.slice G t.lv[j].gr.length e) ∧ RowO w 3 1 G t.lv[j].gr.length e (t.lv[j].gr.map natV) ∧ ∀ k, inA G k → S k := by
  obtain ⟨G, e, h1, h2, h3, h4, h5, h6⟩ := h.lvAt j hj
  obtain ⟨gR, oR, hR⟩ := h.rows.addr (by omega)
  have hrd := h.rows.rd
  have key : ∀ i u, ys[i]? = some u → w.cell? ⟨gR, oR + i, none⟩ = some u := fun i u hu => by
    obtain ⟨ad, ea, hc⟩ := hrd i u hu
    rw [hR] at ea
    injection ea with ea
    rw [← ea, Addr.add_mid] at hc
    exact hc
  exact ⟨gR, oR, G, e, hR, key _ _ h1, by have := key _ _ h2; rwa [← Nat.add_assoc] at this, by have := key _ _ h3; rwa [← Nat.add_assoc] at this, by have := key _ _ h4; rwa [← Nat.add_assoc] at this, h4, h5, h6⟩
/-- a template's cell and its parts -/
theorem RTAt.tmp (h : RTAt S w g t A c xs R d ys) {j : Nat} (hj : j ≤ t.ts.length) : ∃ gA oA B e, A = some ⟨gA, oA, none⟩ ∧ w.cell? ⟨gA, oA + j, none⟩ = some (.slice B (tmpl t j).length e) ∧ RowO w 72 2 B (tmpl t j).length e (cellsP (tmpl t j)) ∧ ∀ k, inA B k → S k := by
  obtain ⟨B, e, h1, h2, h3⟩ := h.tsAt j hj
  obtain ⟨gA, oA, hA⟩ := h.own.addr (by omega)
  obtain ⟨ad, ea, hc⟩ := h.own.rd j _ h1
  rw [hA] at ea
  injection ea with ea
  rw [← ea, Addr.add_mid] at hc
  exact ⟨gA, oA, B, e, hA, hc, h2, h3⟩
end
/-! ### keys -/
def keyN (l : List Tok) (i : Nat) : List UInt8 := match l[i]? with | none => [] | some x => keyT x
theorem keyN_0 (l : List Tok) : keyN l 0 = keyA l := by cases l <;> rfl
theorem keyN_1 (l : List Tok) : keyN l 1 = keyB l := by
  match l with
  | [] => rfl
  | [_] => rfl
  | _ :: _ :: _ => rfl
set_option maxHeartbeats 1000000 in
theorem rkey_any (B : Option Addr) (d : Nat) (ts : List Tok) (i : Nat) (w : World) (h : ToksAt w B ts) (hl : ts.length ≤ 1000000) (hi : i ≤ 1000000) :
    Calls Try.prog 40 #[.slice B ts.length d, .int .i64 (i : Int)] w fun e w' => e = .returned (strV (keyN ts i)) ∧ w' = w := by
  have hli : (ts.length : Int) ≤ 1000000 := by omega
  have hii : (i : Int) ≤ 1000000 := by omega
  unfold keyN
  by_cases hlt : i < ts.length
  · have hlti : (i : Int) < (ts.length : Int) := by omega
    obtain ⟨g, o, rfl, x0, x1⟩ := h.at_ hlt
    rw [List.getElem?_eq_getElem hlt]
    dsimp only
    unfold keyT
    generalize ts[i] = t at *
    obtain ⟨k, x⟩ := t
    dsimp only at x0 x1 ⊢
    unfold strV at x1 ⊢
    clear h hl hi hlt
    by_cases h6 : k = 6
    · subst h6
      rw [if_pos (by omega)]
      go_enter Try.func40, Try.ntmps40
      go_wp2
      go_ret
      exact ⟨rfl, rfl⟩
    by_cases h7 : k = 7
    · subst h7
      rw [if_pos (by omega)]
      go_enter Try.func40, Try.ntmps40
      go_wp2
      go_ret
      exact ⟨rfl, rfl⟩
    by_cases h8 : k = 8
    · subst h8
      rw [if_pos (by omega)]
      go_enter Try.func40, Try.ntmps40
      go_wp2
      go_ret
      exact ⟨rfl, rfl⟩
    have d6 : (k == 6) = false := beq_eq_false_iff_ne.2 h6
    have d7 : (k == 7) = false := beq_eq_false_iff_ne.2 h7
    have d8 : (k == 8) = false := beq_eq_false_iff_ne.2 h8
    rw [if_neg (by omega)]
    go_enter Try.func40, Try.ntmps40
    go_wp2
    go_ret
    exact ⟨rfl, rfl⟩
  · have hlti : ¬ (i : Int) < (ts.length : Int) := by omega
    rw [List.getElem?_eq_none (by omega)]
    unfold strV
    clear h hl hi hlt
    go_enter Try.func40, Try.ntmps40
    go_wp2
    go_ret
    exact ⟨rfl, rfl⟩
theorem rkeyA (B : Option Addr) (d : Nat) (ts : List Tok) (w : World) (h : ToksAt w B ts) (hl : ts.length ≤ 1000000) :
    Calls Try.prog 40 #[.slice B ts.length d, .int .i64 0] w fun e w' => e = .returned (strV (keyA ts)) ∧ w' = w := by
  have := rkey_any B d ts 0 w h hl (by omega)
  rw [keyN_0] at this
  exact this
theorem rkeyB (B : Option Addr) (d : Nat) (ts : List Tok) (w : World) (h : ToksAt w B ts) (hl : ts.length ≤ 1000000) :
    Calls Try.prog 40 #[.slice B ts.length d, .int .i64 1] w fun e w' => e = .returned (strV (keyB ts)) ∧ w' = w := by
  have := rkey_any B d ts 1 w h hl (by omega)
  rw [keyN_1] at this
  exact this
end Go.Proofs.Ytdghbdiapkelnaa

/-
  Plain mathematics of octet: a number's digits to the base 128. No Go here.
-/
namespace Go.Proofs.Ytdghbdiapkelnaa

/-- a number as bytes: seven binary digits a byte, the lowest first -/
def dig (n : Nat) : List UInt8 := if n < 128 then [n.toUInt8] else (n % 128 + 128).toUInt8 :: dig (n / 128)
termination_by n

theorem dig_lt {n : Nat} (h : n < 128) : dig n = [n.toUInt8] := by rw [dig, if_pos h]
theorem dig_ge {n : Nat} (h : ¬ n < 128) : dig n = (n % 128 + 128).toUInt8 :: dig (n / 128) := by rw [dig, if_neg h]
theorem dig_pos (n : Nat) : 0 < (dig n).length := by
  rw [dig]; split <;> simp

/-- so many bytes at the most -/
theorem dig_len : ∀ (k n : Nat), n < 128 ^ k → 0 < k → (dig n).length ≤ k
  | 0, _, _, h => absurd h (by omega)
  | k + 1, n, h, _ => by
    by_cases hn : n < 128
    · rw [dig_lt hn]; simp
    · rw [dig_ge hn]
      have hk : 0 < k := by
        rcases k with _ | k
        · simp at h; omega
        · omega
      have h2 : n / 128 < 128 ^ k := by
        rw [Nat.pow_succ] at h
        exact Nat.div_lt_of_lt_mul (by rw [Nat.mul_comm]; exact h)
      have := dig_len k (n / 128) h2 hk
      simp only [List.length_cons]
      omega

/-- a number brought into the bounds of what may be laid -/
def clamp (v : Int) : Nat := (min (max v 0) 4611686018427387904).toNat
theorem clamp_le (v : Int) : clamp v ≤ 4611686018427387904 := by unfold clamp; omega
theorem clamp_of_nat {n : Nat} (h : n ≤ 4611686018427387904) : clamp (n : Int) = n := by unfold clamp; omega
theorem dig_clamp_len (v : Int) : (dig (clamp v)).length ≤ 9 := dig_len 9 _ (by have := clamp_le v; have : (128 : Nat) ^ 9 = 9223372036854775808 := rfl; omega) (by omega)

/-- how many bytes the rest has: none, if nothing is left -/
def dlen (k : Nat) : Nat := if k = 0 then 0 else (dig k).length
theorem dig_len_eq (m : Nat) : (dig m).length = 1 + dlen (m / 128) := by
  by_cases h : m < 128
  · rw [dig_lt h, dlen, if_pos (by omega)]; rfl
  · rw [dig_ge h, dlen, if_neg (by omega), List.length_cons]; omega
theorem dlen_pos {k : Nat} (h : 0 < k) : dlen k = 1 + dlen (k / 128) := by rw [dlen, if_neg (by omega), dig_len_eq]
/-- the first byte tells whether the number is below 128 -/
theorem dig_first (m : Nat) (h : ¬ m < 128) : ∃ u r, dig m = u :: r ∧ 128 ≤ u.toNat ∧ r = dig (m / 128) := by
  refine ⟨_, _, dig_ge h, ?_, rfl⟩
  simp [Nat.toUInt8, UInt8.toNat_ofNat']; omega
/-- the last byte of several is not 0 -/
theorem dig_last : ∀ (n m : Nat), m ≤ n → 0 < m → ∃ p u, dig m = p ++ [u] ∧ 0 < u.toNat
  | 0, m, h, h0 => by omega
  | n + 1, m, h, h0 => by
    by_cases hm : m < 128
    · exact ⟨[], m.toUInt8, by rw [dig_lt hm]; rfl, by simp [Nat.toUInt8, UInt8.toNat_ofNat']; omega⟩
    · obtain ⟨p, u, e, hu⟩ := dig_last n (m / 128) (by omega) (by omega)
      exact ⟨_ :: p, u, by rw [dig_ge hm, e]; rfl, hu⟩

/-! ### the number at the beginning of bytes -/
def scan : Nat → Nat → List UInt8 → Option (Nat × Nat)
  | _, _, [] => none
  | i, n, c :: r =>
    if i = 9 then none
    else if 127 < c.toNat then scan (i + 1) (n + c.toNat % 128 * 128 ^ i) r
    else if 4611686018427387904 < n + c.toNat % 128 * 128 ^ i ∨ (0 < i ∧ c.toNat = 0) then none
    else some (n + c.toNat % 128 * 128 ^ i, i + 1)
def num? (bs : List UInt8) : Option (Nat × Nat) := scan 0 0 bs
def resN (r : Option (Nat × Nat)) : Nat := (r.getD (0, 0)).1
def resK (r : Option (Nat × Nat)) : Nat := (r.getD (0, 0)).2
/-- what is left behind a number, and whether there was none -/
def restOf (bs : List UInt8) : Option (Nat × Nat) → List UInt8
  | some (_, k) => bs.drop k
  | none => []
def badOf : Option (Nat × Nat) → Bool
  | some _ => false
  | none => true

/-- a number that was laid is met again -/
theorem scan_dig : ∀ (k n i a : Nat) (r : List UInt8), n ≤ k → (i = 0 ∨ 0 < n) → a + n * 128 ^ i ≤ 4611686018427387904 → scan i a (dig n ++ r) = some (a + n * 128 ^ i, i + (dig n).length)
  | k, n, i, a, r, hk, h0, hle => by
    have hi : i ≤ 8 := by
      rcases h0 with h0 | h0
      · omega
      · rcases Nat.lt_or_ge i 9 with h | h
        · omega
        · have h1 : 128 ^ 9 ≤ 128 ^ i := Nat.pow_le_pow_right (by omega) h
          have h2 : 1 * 128 ^ i ≤ n * 128 ^ i := Nat.mul_le_mul_right _ h0
          have h3 : (128 : Nat) ^ 9 = 9223372036854775808 := rfl
          omega
    by_cases hn : n < 128
    · have e : n.toUInt8.toNat = n := by simp [Nat.toUInt8, UInt8.toNat_ofNat']; omega
      rw [dig_lt hn]
      simp only [List.singleton_append, scan, e]
      rw [if_neg (by omega), if_neg (by omega), Nat.mod_eq_of_lt hn, if_neg (by omega)]
      simp
    · have e : (n % 128 + 128).toUInt8.toNat = n % 128 + 128 := by simp [Nat.toUInt8, UInt8.toNat_ofNat']; omega
      have e2 : (n % 128 + 128) % 128 = n % 128 := by omega
      have e3 : a + n % 128 * 128 ^ i + n / 128 * 128 ^ (i + 1) = a + n * 128 ^ i := by
        have h1 : n * 128 ^ i = (n % 128 + 128 * (n / 128)) * 128 ^ i := by rw [Nat.mod_add_div]
        rw [h1, Nat.add_mul, Nat.pow_succ, Nat.mul_comm 128 (n / 128), Nat.mul_assoc (n / 128), Nat.mul_comm 128]
        omega
      rw [dig_ge hn]
      simp only [List.cons_append, scan, e]
      rw [if_neg (by omega), if_pos (by omega), e2, scan_dig (n / 128) (n / 128) (i + 1) _ r (Nat.le_refl _) (.inr (by omega)) (by rw [e3]; exact hle), e3]
      simp only [List.length_cons]
      congr 2; omega
termination_by _ n => n
theorem num_dig (n : Nat) (r : List UInt8) (h : n ≤ 4611686018427387904) : num? (dig n ++ r) = some (n, (dig n).length) := by
  have := scan_dig n n 0 0 r (Nat.le_refl _) (.inl rfl) (by simpa using h)
  simpa [num?] using this

/-! ### the check sum, four digits at a time -/
def tab (i : Nat) : Nat := [0, 498536548, 997073096, 651767980, 1994146192, 1802195444, 1303535960, 1342533948, 3988292384, 4027552580, 3604390888, 3412177804, 2607071920, 2262029012, 2685067896, 3183342108].getD i 0
theorem tab_lt (i : Nat) : tab i < 4294967296 := by
  have h : ∀ j, j < 16 → tab j < 4294967296 := by decide
  by_cases hi : i < 16
  · exact h i hi
  · unfold tab; rw [List.getD_eq_getElem?_getD, List.getElem?_eq_none (by simp; omega)]; decide
def nib (s : Nat) : Nat := s / 16 ^^^ tab (s % 16)
theorem nib_lt {s : Nat} (h : s < 4294967296) : nib s < 4294967296 :=
  Nat.xor_lt_two_pow (n := 32) (by have : s / 16 < 2 ^ 32 := by omega
                                   exact this) (tab_lt _)
def crcB (s : Nat) (b : UInt8) : Nat := nib (nib (s ^^^ b.toNat))
theorem xorb_lt {s : Nat} (h : s < 4294967296) (b : UInt8) : s ^^^ b.toNat < 4294967296 :=
  Nat.xor_lt_two_pow (n := 32) h (by have := b.toNat_lt; have : (2 : Nat) ^ 32 = 4294967296 := rfl; omega)
theorem crcB_lt {s : Nat} (h : s < 4294967296) (b : UInt8) : crcB s b < 4294967296 := nib_lt (nib_lt (xorb_lt h b))
def crcL (s : Nat) (bs : List UInt8) : Nat := bs.foldl crcB s
theorem crcL_lt (bs : List UInt8) : ∀ {s : Nat}, s < 4294967296 → crcL s bs < 4294967296 := by
  induction bs with
  | nil => intro s h; exact h
  | cons b r ih => intro s h; exact ih (crcB_lt h b)
theorem crcL_append (s : Nat) (a b : List UInt8) : crcL s (a ++ b) = crcL (crcL s a) b := List.foldl_append
theorem crcL_snoc (s : Nat) (a : List UInt8) (b : UInt8) : crcL s (a ++ [b]) = crcB (crcL s a) b := by rw [crcL_append]; rfl
theorem crcL_take_succ (s : Nat) (xs : List UInt8) (k : Nat) (h : k < xs.length) : crcL s (xs.take (k + 1)) = crcB (crcL s (xs.take k)) xs[k] := by
  rw [List.take_succ_eq_append_getElem h, crcL_snoc]
/-- the check sum of bytes -/
def sumOf (bs : List UInt8) : Nat := 4294967295 - crcL 4294967295 bs
theorem sumOf_known : sumOf [49, 50, 51, 52, 53, 54, 55, 56, 57] = 3421780262 := by decide

end Go.Proofs.Ytdghbdiapkelnaa

/-
  The contracts of package octet's Writer: Raw, num, Nums, Bytes, Out. No statement of the seat is proved here.
-/
namespace Go.Proofs.Ytdghbdiapkelnaa
open Go Go.RowKit

theorem info_u8 : (Try.prog.info? 5).map (fun i => (i.zero, i.size, i.bytes)) = some (some (.int .u8 0), 1, 1) := by kernel_rfl

/-- A Writer in block 'g', which has laid the cells 'xs'; what it owns lies in 'fp'. -/
def Wr (w : World) (fp : Nat → Prop) (g : Nat) (xs : List Value) : Prop :=
  fp g ∧ ∃ A c, Blk w g 89 #[.slice A xs.length c] ∧ Own w fp 5 A c xs

section
variable {S fp fp' : Nat → Prop} {w w' : World} {g : Nat} {xs : List Value}
theorem Wr.mono (h : Wr w fp g xs) (hs : ∀ k, fp k → k < w.heap.size → fp' k) : Wr w fp' g xs := by
  obtain ⟨h1, A, c, hb, ho⟩ := h
  exact ⟨hs _ h1 hb.lt, A, c, hb, ho.mono hs⟩
theorem Wr.only (h : Wr w fp g xs) (ho : Only S w w') (hn : ∀ k, fp k → ¬ S k) : Wr w' fp g xs := by
  obtain ⟨h1, A, c, hb, hown⟩ := h
  exact ⟨h1, A, c, hb.only ho (hn _ h1), hown.only ho hn⟩
theorem Wr.ext (h : Wr w fp g xs) (hb : Below w.heap.size w w') : Wr w' fp g xs := by
  obtain ⟨h1, A, c, hb1, hown⟩ := h
  exact ⟨h1, A, c, hb1.ext hb, hown.ext hb⟩
theorem Wr.drewN (h : Wr w fp g xs) (n : Nat) : Wr (w.drewN n) fp g xs := h
theorem Wr.alloc (h : Wr w fp g xs) (o : Obj) : Wr (w.alloc o) fp g xs := h.ext ((Below.refl _ _).alloc (Nat.le_refl _) o)
theorem Wr.lt (h : Wr w fp g xs) : g < w.heap.size := by
  obtain ⟨_, _, _, hb, _⟩ := h
  exact hb.lt
theorem Wr.new (w : World) (fp : Nat → Prop) (hf : fp w.heap.size) : Wr (w.alloc (.cells #[.slice none 0 0] 89)) fp w.heap.size [] :=
  ⟨hf, none, 0, Blk.new w _ _, Own.none_ _ _ _⟩
end

theorem raw_nil (v : Value) (w : World) : Calls Try.prog 76 #[.pointer none, v] w fun e w' => e = .returned (.tuple #[]) ∧ w = w' := by
  go_enter Try.func76, Try.ntmps76
  go_wp2
  go_end0
  exact ⟨rfl, rfl⟩

/-- what a Writer is behind an append to its row and the store of it -/
theorem Wr.step {fp : Nat → Prop} {g : Nat} {A A' : Option Addr} {c c' : Nat} {xs ys : List Value} {w w1 : World} (hg : fp g) (hblk : Blk w g 89 #[.slice A xs.length c])
    (ho : Only (fun k => fp k ∧ k ≠ g) w w1) (hown : Own w1 (More (fun k => fp k ∧ k ≠ g) w w1) 5 A' c' ys) :
    Wr (w1.setCell ⟨g, 0, none⟩ (.slice A' ys.length c')) (More fp w (w1.setCell ⟨g, 0, none⟩ (.slice A' ys.length c'))) g ys ∧ Only fp w (w1.setCell ⟨g, 0, none⟩ (.slice A' ys.length c')) := by
  have hb1 : Blk w1 g 89 #[.slice A xs.length c] := hblk.only ho (fun h => h.2 rfl)
  refine ⟨⟨.inl hg, A', c', hb1.put 0 _, ?_⟩, (ho.mono (fun _ _ h => h.1)).setCell (.inl hg) _⟩
  refine (hown.setCell (hown.ne_blk hb1 (by decide)) _).mono (fun k hk _ => ?_)
  rcases hk with hk | hk
  · exact .inl hk.1
  · exact .inr (by simpa [World.setCell] using hk)

set_option maxHeartbeats 400000 in
theorem raw_any (fp : Nat → Prop) (g : Nat) (A2 : Option Addr) (m c2 : Nat) (xs news : List Value) (w : World) (hw : Wr w fp g xs) (hm : m = news.length) (hr : Rd w A2 news) (h1 : ∀ u ∈ news, u.oneCell' = true)
    (hb : xs.length + news.length ≤ 1099511627776) :
    Calls Try.prog 76 #[.pointer (some ⟨g, 0, none⟩), .slice A2 m c2] w fun e w' => e = .returned (.tuple #[]) ∧ Wr w' (More fp w w') g (xs ++ news) ∧ Only fp w w' := by
  obtain ⟨hg, A, c, hblk, hown⟩ := hw
  have h0 := hblk.cell 0
  simp only [List.getElem?_toArray, List.getElem?_cons_zero] at h0
  have f0 := hblk.free 0
  have hk1 : xs.length + m ≤ maxLen := by unfold maxLen; omega
  have hk2 : (xs.length + m) * 1 ≤ 140737488355328 := by omega
  have hown' : Own w (fun k => fp k ∧ k ≠ g) 5 A c xs := ⟨hown.1, fun ad e => ⟨hown.2 ad e, hown.ne_blk hblk (by decide) ad e⟩⟩
  have hm' := Lib.hid hm
  clear hm
  go_enter Try.func76, Try.ntmps76
  go_wp2_with (at_builtin
               refine wpList_app _ rfl (.tmp 10) (.tmp 11) _ rfl _ _ 1 Try.underlying48 info_u8 rfl A _ c xs rfl rfl hown' A2 m c2 news rfl hm'.out hr h1 hk1 hk2 ?_
               intro A' c' w1 hown1 honly1
               have hb1 := hblk.only honly1 (fun h => h.2 rfl)
               have g0 : w1.cell? ⟨g, 0, none⟩ = some (.slice A xs.length c) := hb1.cell 0
               have g1 : w1.frozen? ⟨g, 0, none⟩ = false := hb1.free 0)
  go_end0
  refine ⟨rfl, ?_⟩
  have key := Wr.step hg hblk honly1 hown1
  rw [List.length_append, ← hm'.out] at key
  exact key

theorem Wr.join {fp : Nat → Prop} {a b b' c : World} {g : Nat} {xs : List Value} (h1 : a.heap.size ≤ b.heap.size) (h2 : b.heap.size ≤ b'.heap.size) (h3 : b'.heap.size ≤ c.heap.size) (h : Wr c (More (More fp a b) b' c) g xs) : Wr c (More fp a c) g xs :=
  h.mono fun _ hk _ => More.join h1 h2 h3 hk
end Go.Proofs.Ytdghbdiapkelnaa
