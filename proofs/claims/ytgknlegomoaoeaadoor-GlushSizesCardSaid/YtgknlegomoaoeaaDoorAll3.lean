/-
  Texts of this claim, joined (part 3): contracts and lemmas that the last text goes by. No statement of the seat is proved here.
-/
import Derived.Test.YtgknlegomoaoeaaDoorAll0
import Derived.Test.YtgknlegomoaoeaaDoorAll2
import Derived.Test.YtgknlegomoaoeaaDoorAll1
import Derived.Test.YtgknlegomoaoeaaDoorRows
import Derived.ProofKit
import Derived.OpenShut
import Derived.Deep.DeepHandedRow
import Derived.Deep.Matrix
import Derived.LaidLaws
import Derived.Laws.IdiomArrays
import Derived.Deep.Slices
set_option linter.unusedVariables false
set_option linter.unusedSimpArgs false
/-
  How a law's contract closes its statement; what an int's and a byte's datum says. No statement of the seat is proved here.
-/
namespace Go.Proofs.YtgknlegomoaoeaaDoor
open Go Go.ChangeShapes Go.WideShapes Go.ChangeAt Go.RowKit

theorem own : ownKnob Tryd.prog.godebug = none := by kernel_rfl
theorem laidOut : laidOutB Tryd.prog = true := by kernel_rfl

theorem int_of_wf {v : Int} (h : (Lit.int .i64 v).wf = true) : isInt v := by
  have h1 : IntKind.i64.min = -9223372036854775808 := rfl
  have h2 : IntKind.i64.max = 9223372036854775807 := rfl
  simp only [Lit.wf, Bool.and_eq_true, decide_eq_true_eq] at h
  unfold isInt
  omega
theorem u8_of_wf {v : Int} (h : (Lit.int .u8 v).wf = true) : 0 ≤ v ∧ v ≤ 255 := by
  have h1 : IntKind.u8.min = 0 := rfl
  have h2 : IntKind.u8.max = 255 := rfl
  simp only [Lit.wf, Bool.and_eq_true, decide_eq_true_eq] at h
  omega

/-! ### How a contract closes a statement -/
section
variable {H : Type} {enc : TypeId × Value → H}
theorem below_trodAll {P : Program} (hl : laidOutB P = true) {W W' : World} (hb : Below W.heap.size W W') : ∀ {ts : List TypeId} {vs : List Value} {ds : List (DataW H)} {ps : List MemPlace},
    (∀ t ∈ ts, P.readableRec t = true ∧ t < P.types.size) → DataW.TrodAll enc P W 0 (fun _ => true) true ts vs ds ps → (∀ x ∈ ps, x.block < W.heap.size) → DataW.TrodAll enc P W' 0 (fun b => decide (b < W.heap.size)) true ts vs ds ps
  | [], [], [], _, _, h, _ => h
  | t :: ts, v :: vs, d :: ds, _, hr, h, hlt => by
    obtain ⟨p, q, h1, h2, rfl⟩ := h
    exact ⟨p, q, Below.trod hl (hr t (by simp)).1 (hr t (by simp)).2 h1 hb (fun x hx => hlt x (by simp [hx])), below_trodAll hl hb (fun t' ht => hr t' (by simp [ht])) h2 (fun x hx => hlt x (by simp [hx])), rfl⟩
  | [], [], _ :: _, _, _, h, _ => h.elim
  | [], _ :: _, _, _, _, h, _ => h.elim
  | _ :: _, [], _, _, _, h, _ => h.elim
  | _ :: _, _ :: _, [], _, _, h, _ => h.elim

/-- a law that returned true, and left all that was there as it was -/
theorem law_post {f : Func} {s : ChangeSpec} {W W' : World} {args : Array Value} {ds gs : List (DataW H)} {before : List MemPlace} (hvars : s.vars = []) (hf : f.resultTypes = #[4])
    (hread : f.params.toList.all (fun t => Tryd.prog.readableRec t && decide (t < Tryd.prog.types.size)) = true)
    (hs : (s.fn H ds).results = [.lit (.bool true)] ∧ (s.fn H ds).args = ds ∧ (s.fn H ds).vars = []) (hW : DataW.Whole enc Tryd.prog f.params.toList s.vars false W args.toList ds gs before) (hb : Below W.heap.size W W') :
    s.post enc Tryd.prog f false true false false W args (.bool true) W' := by
  have hW' := hW
  have hlt : ∀ x ∈ before, x.block < W.heap.size := fun x hx => by simpa using hW'.lt x hx
  obtain ⟨p, q, hA, hV, he, _, _⟩ := hW
  rw [hvars] at hV
  obtain ⟨hg, hq⟩ := trodVars_none hV
  have hx : ds ++ gs = ds := by rw [hg, List.append_nil]
  refine ⟨ds, gs, before, [] ++ [], p, [], hW', ?_, ?_, ?_, hb.frame _, fun h => by cases h⟩
  · rw [hx, hs.1, hf]
    exact trodAll_cons_mk (shut_bool Tryd.underlying4 _) trodAll_mk0
  · rw [hx, hs.2.1]
    refine below_trodAll laidOut hb (fun t ht => ?_) hA (fun x hx => hlt x (by rw [he]; simp [hx]))
    have := List.all_eq_true.1 hread t ht
    simpa using this
  · rw [hx, hs.2.2, hvars]
    rfl
end

/-- a world for the witness: the settled one -/
noncomputable def plainWorld (os : Os) : World := World.holding Tryd.prog os ⟨#[], #[], []⟩
end Go.Proofs.YtgknlegomoaoeaaDoor

/-
  What the arguments of the laws read as, in this seat's words for memory (numbers, bytes); how a law's contract closes its statement. No statement of the seat is proved here.
-/
namespace Go.Proofs.YtgknlegomoaoeaaDoor
open Go Go.ChangeShapes Go.WideShapes Go.ChangeAt Go.RowKit

theorem cells_u8 : Tryd.prog.cellsOf 5 = 1 := by kernel_rfl
theorem cells_int : Tryd.prog.cellsOf 3 = 1 := by kernel_rfl

section
variable {H : Type} {enc : TypeId × Value → H} {W : World} {base : Nat}
theorem bv_of {z : Int} (h : (Lit.int .u8 z).wf = true) : Value.int .u8 z = bv z.toNat.toUInt8 := by
  have h1 : IntKind.u8.min = 0 := rfl
  have h2 : IntKind.u8.max = 255 := rfl
  simp only [Lit.wf, Bool.and_eq_true, decide_eq_true_eq] at h
  unfold bv
  rw [show (z.toNat.toUInt8.toNat : Int) = z by simp [Nat.toUInt8, UInt8.toNat_ofNat']; omega]

/-- the bytes that numbers are -/
def toBytes (zs : List Int) : List UInt8 := zs.map fun z => z.toNat.toUInt8

theorem rd_bytes {a : Addr} {len : Nat} {zs : List Int} (hl : len ≤ zs.length) (hc : ∀ i, i < zs.length → W.cell? (a.add i) = some (.int .u8 (zs.getD i 0))) (hw : ∀ n ∈ zs, (Lit.int .u8 n).wf = true) :
    Rd W (some a) ((toBytes (zs.take len)).map bv) := by
  intro j u hu
  have hj : j < len := by
    have := (List.getElem?_eq_some_iff.1 hu).1
    simp [toBytes] at this; omega
  refine ⟨a, rfl, ?_⟩
  rw [hc j (by omega), ← hu]
  have hz : zs.getD j 0 = zs[j]'(by omega) := by simp [List.getD, show j < zs.length by omega]
  rw [hz, bv_of (hw _ (List.getElem_mem _))]
  simp [toBytes, hj, show j < zs.length by omega]

set_option maxRecDepth 100000 in
theorem arg_bytes {v : Value} {d : DataW H} {p : List MemPlace} (hv : Value.okWide Tryd.prog W .any base 94 v) (h : DataW.Trod enc Tryd.prog W 0 (fun _ => true) true 94 v d p) :
    ∃ (A : Option Addr) (n c : Nat) (xs : List UInt8), v = .slice A n c ∧ n = xs.length ∧ xs.length ≤ c ∧ c ≤ maxLen ∧ Rd W A (xs.map bv) := by
  obtain ⟨a0, len, cap, rfl⟩ := okWide_slice Tryd.underlying94 hv
  obtain ⟨fuel, hf⟩ := h
  rcases open_ints Tryd.underlying94 Tryd.underlying5 cells_u8 hf with ⟨hcs, hx⟩ | ⟨a, len', cap', zs, hcs, _, hl, hm, hz, hx, hcell, hwz⟩
  · simp [Value.cells] at hcs
    obtain ⟨rfl, rfl, rfl⟩ := hcs
    exact ⟨none, 0, 0, [], rfl, rfl, Nat.le_refl _, Nat.zero_le _, Rd.nil _ _⟩
  · simp [Value.cells] at hcs
    obtain ⟨rfl, rfl, rfl⟩ := hcs
    simp only [if_true] at hz
    exact ⟨some a, len, cap, toBytes (zs.take len), rfl, by simp [toBytes]; omega, by simp [toBytes]; omega, hm, rd_bytes (by omega) hcell hwz⟩

end

end Go.Proofs.YtgknlegomoaoeaaDoor

/-
  Arguments that are sets of bytes. No statement of the seat is proved here.
-/
namespace Go.Proofs.YtgknlegomoaoeaaDoor
open Go Go.ChangeShapes Go.WideShapes Go.ChangeAt Go.RowKit
set_option maxRecDepth 100000


section
variable {H : Type} {enc : TypeId × Value → H} {W : World} {base : Nat}
theorem okWide_array {P : Program} {r : Reach} {t e : TypeId} {n : Nat} {v : Value} (ht : P.underlying t = some (.array n e)) (h : Value.okWide P W r base t v) : ∃ cs, v = .agg cs ∧ cs.size = P.cellsOf t := by
  simp only [Value.okWide, ht] at h
  obtain ⟨cs, h1, h2, _⟩ := h
  exact ⟨cs, h1, h2⟩
theorem cells_set : Tryd.prog.cellsOf 24 = 4 := by kernel_rfl
theorem u64_of_wf {v : Int} (h : (Lit.int .u64 v).wf = true) : ∃ n : Nat, v = (n : Int) ∧ n < 18446744073709551616 := by
  have h1 : IntKind.u64.min = 0 := rfl
  have h2 : IntKind.u64.max = 18446744073709551615 := rfl
  simp only [Lit.wf, Bool.and_eq_true, decide_eq_true_eq] at h
  exact ⟨v.toNat, by omega, by omega⟩
theorem cell_set {fuel : Nat} {cs : List Value} {x : DataW H × List MemPlace} (hl : cs.length = 4) (hf : DataW.trod enc Tryd.prog W 0 (fun _ => true) true fuel 24 cs = some x) : ∃ ws, SetOk ws ∧ cs = ws.map uv := by
  match cs, hl with
  | [c0, c1, c2, c3], _ =>
    obtain ⟨y0, y1, y2, y3, n, _, g0, g1, g2, g3⟩ := trod_array4 Tryd.underlying24 cells_w hf
    obtain ⟨z0, q0, _, w0⟩ := DataW.trod_int Tryd.underlying22 g0
    obtain ⟨z1, q1, _, w1⟩ := DataW.trod_int Tryd.underlying22 g1
    obtain ⟨z2, q2, _, w2⟩ := DataW.trod_int Tryd.underlying22 g2
    obtain ⟨z3, q3, _, w3⟩ := DataW.trod_int Tryd.underlying22 g3
    obtain ⟨n0, rfl, l0⟩ := u64_of_wf w0
    obtain ⟨n1, rfl, l1⟩ := u64_of_wf w1
    obtain ⟨n2, rfl, l2⟩ := u64_of_wf w2
    obtain ⟨n3, rfl, l3⟩ := u64_of_wf w3
    injection q0 with q0
    injection q1 with q1
    injection q2 with q2
    injection q3 with q3
    subst q0 q1 q2 q3
    exact ⟨[n0, n1, n2, n3], ⟨rfl, by simp [l0, l1, l2, l3]⟩, rfl⟩

set_option maxRecDepth 100000 in
theorem arg_set {v : Value} {d : DataW H} {p : List MemPlace} (hv : Value.okWide Tryd.prog W .any base 24 v) (h : DataW.Trod enc Tryd.prog W 0 (fun _ => true) true 24 v d p) : ∃ ws, SetOk ws ∧ v = setV ws := by
  obtain ⟨cs, rfl, hsz⟩ := okWide_array Tryd.underlying24 hv
  rw [cells_set] at hsz
  obtain ⟨fuel, hf⟩ := h
  obtain ⟨ws, hs, e⟩ := cell_set (by simp [Value.cells, hsz]) hf
  refine ⟨ws, hs, ?_⟩
  unfold setV cellsU
  rw [← e]
  simp [Value.cells]

theorem flat_of_cell {w : World} {ad : Addr} {u : Value} (h : w.cell? (ad.add 0) = some u) : ∃ g o, ad = ⟨g, o, none⟩ := by
  obtain ⟨g, o, s⟩ := ad
  cases s with
  | none => exact ⟨g, o, rfl⟩
  | some s =>
    unfold World.cell? Addr.add at h
    simp at h
    split at h <;> simp at h
theorem rd_flat {β : Type} (a : Addr) (len sz : Nat) (T : Nat → β) (enc : β → List Value) (hsz : ∀ k, k < len → (enc (T k)).length = sz) (h : ∀ k, k < len → ∀ j u, (enc (T k))[j]? = some u → W.cell? (a.add (k * sz + j)) = some u) :
    Rd W (some a) (((List.range len).map T).flatMap enc) := by
  have key : ∀ n, n ≤ len → Rd W (some a) (((List.range n).map T).flatMap enc) ∧ (((List.range n).map T).flatMap enc).length = n * sz := by
    intro n
    induction n with
    | zero => intro _; exact ⟨Rd.nil _ _, by simp⟩
    | succ n ih =>
      intro hn
      obtain ⟨h1, h2⟩ := ih (by omega)
      have e : (((List.range (n + 1)).map T).flatMap enc) = (((List.range n).map T).flatMap enc) ++ enc (T n) := by
        rw [List.range_succ, List.map_append, List.flatMap_append]
        simp
      refine ⟨fun j u hu => ?_, by rw [e, List.length_append, h2, hsz n (by omega), Nat.add_mul]; omega⟩
      rw [e, List.getElem?_append, h2] at hu
      split at hu
      · exact h1 j u hu
      · rename_i hj
        refine ⟨a, rfl, ?_⟩
        have := h n (by omega) _ u hu
        rwa [show n * sz + (j - n * sz) = j by omega] at this
  exact (key len (Nat.le_refl _)).1

end
end Go.Proofs.YtgknlegomoaoeaaDoor

/-
  Arguments that are expressions. No statement of the seat is proved here.
-/
namespace Go.Proofs.YtgknlegomoaoeaaDoor
open Go Go.ChangeShapes Go.WideShapes Go.ChangeAt Go.RowKit
set_option maxRecDepth 100000


theorem cells_re : Tryd.prog.cellsOf 27 = 8 := by kernel_rfl
theorem cells_res : Tryd.prog.cellsOf 25 = 1 := by kernel_rfl
theorem cells_set' : Tryd.prog.cellsOf 24 = 4 := by kernel_rfl
theorem cells_i : Tryd.prog.cellsOf 3 = 1 := by kernel_rfl
section
variable {H : Type} {enc : TypeId × Value → H} {W : World} {base : Nat}
set_option maxRecDepth 100000 in
/-- cells that read as data of the kind are an expression -/
theorem cell_re : ∀ (fuel : Nat) (cs : List Value) (x : DataW H × List MemPlace), DataW.trod enc Tryd.prog W 0 (fun _ => true) true fuel 27 cs = some x → ∃ t, ReR (fun _ => True) W t cs := by
  intro fuel
  induction fuel using Nat.strongRecOn with
  | ind fuel ih =>
    intro cs x h
    obtain ⟨xs, n, rfl, rfl, hcl, hxl, hf⟩ := DataW.trod_struct Tryd.underlying27 h
    rw [cells_re] at hcl
    match cs, hcl, xs, hxl with
    | [c0, c1, c2, c3, c4, c5, c6, c7], _, [x0, x1, x2, x3, x4], _ =>
      have h0 := hf 0 _ rfl
      change DataW.trod enc Tryd.prog W 0 _ true n 3 (([c0, c1, c2, c3, c4, c5, c6, c7].drop 0).take (Tryd.prog.cellsOf 3)) = some x0 at h0
      rw [cells_i] at h0
      have h1 := hf 1 _ rfl
      change DataW.trod enc Tryd.prog W 0 _ true n 24 (([c0, c1, c2, c3, c4, c5, c6, c7].drop 1).take (Tryd.prog.cellsOf 24)) = some x1 at h1
      rw [cells_set'] at h1
      have h2 := hf 2 _ rfl
      change DataW.trod enc Tryd.prog W 0 _ true n 25 (([c0, c1, c2, c3, c4, c5, c6, c7].drop 5).take (Tryd.prog.cellsOf 25)) = some x2 at h2
      rw [cells_res] at h2
      have h3 := hf 3 _ rfl
      change DataW.trod enc Tryd.prog W 0 _ true n 3 (([c0, c1, c2, c3, c4, c5, c6, c7].drop 6).take (Tryd.prog.cellsOf 3)) = some x3 at h3
      rw [cells_i] at h3
      have h4 := hf 4 _ rfl
      change DataW.trod enc Tryd.prog W 0 _ true n 3 (([c0, c1, c2, c3, c4, c5, c6, c7].drop 7).take (Tryd.prog.cellsOf 3)) = some x4 at h4
      rw [cells_i] at h4
      clear hf
      obtain ⟨k, e0, -, wk⟩ := DataW.trod_int Tryd.underlying3 h0
      obtain ⟨lo, e3, -, wlo⟩ := DataW.trod_int Tryd.underlying3 h3
      obtain ⟨hi, e4, -, whi⟩ := DataW.trod_int Tryd.underlying3 h4
      obtain ⟨ws, hs, e1⟩ := cell_set (by simp) h1
      obtain ⟨a, b, c, d, rfl⟩ := four_words hs
      simp only [List.drop, List.take, List.cons.injEq, and_true] at e0 e3 e4
      simp only [List.drop, List.take, List.map_cons, List.map_nil, List.cons.injEq, and_true, uv] at e1
      obtain ⟨rfl, rfl, rfl, rfl⟩ := e1
      subst e0 e3 e4
      have key : ∃ (ks : List Ex) (A : Option Addr) (cap : Nat), c5 = .slice A ks.length cap ∧ ks.length ≤ cap ∧ cap ≤ maxLen ∧ Kids (fun _ => True) W A ks := by
        rcases DataW.trod_slice Tryd.underlying25 h2 with ⟨he, _⟩ | ⟨ad, len, cap, elems, rest, m, rfl, he, -, _, hlc, hcm, hel, hi', -⟩
        · simp only [List.drop, List.take, List.cons.injEq, and_true] at he
          exact ⟨[], none, 0, he, Nat.le_refl _, Nat.zero_le _, fun k hk => absurd hk (by simp)⟩
        · simp only [List.drop, List.take, List.cons.injEq, and_true] at he
          rw [cells_re] at hi'
          have hk : ∀ i, ∃ t : Ex, i < len → ∃ cs', W.cells? 0 (ad.add (i * 8)) 8 = some cs' ∧ ReR (fun _ => True) W t cs' := fun i => by
            by_cases hlt : i < len
            · have h5 := hi' i hlt
              rw [List.getElem?_eq_getElem (by omega)] at h5
              obtain ⟨cs', h6, h7⟩ := Option.bind_eq_some_iff.1 h5
              obtain ⟨t, ht⟩ := ih m (by omega) cs' _ h7
              exact ⟨t, fun _ => ⟨cs', h6, ht⟩⟩
            · exact ⟨emptyE, fun h => absurd h hlt⟩
          obtain ⟨T, hT⟩ := Classical.axiomOfChoice hk
          refine ⟨(List.range len).map T, some ad, cap, by rw [he]; simp, by simpa using hlc, hcm, fun j hj => ?_⟩
          have hjl : j < len := by simpa using hj
          obtain ⟨cs', h6, h7⟩ := hT j hjl
          obtain ⟨cs0, h8, h9⟩ := hT 0 (by omega)
          obtain ⟨_, hl8, hc8⟩ := World.cells?_some h8
          obtain ⟨_, hl6, hc6⟩ := World.cells?_some h6
          have hz : W.cell? (ad.add 0) = some cs0[0] := by
            have := hc8 0 (by omega)
            rw [add_add_, Nat.zero_mul, Nat.add_zero] at this
            rw [this, List.getElem?_eq_getElem (by omega)]
          obtain ⟨g, o, rfl⟩ := flat_of_cell hz
          refine ⟨g, o, cs', rfl, trivial, fun i u hu => ?_, by simpa using h7⟩
          have hi8 : i < 8 := by have := (List.getElem?_eq_some_iff.1 hu).1; omega
          have := hc6 i hi8
          rw [Addr.add_mid, Addr.add_mid] at this
          rw [this]
          exact hu
      obtain ⟨ks, A, cap, rfl, k1, k2, k3⟩ := key
      refine ⟨.mk k [a, b, c, d] ks lo hi, ?_⟩
      rw [reR_iff]
      exact ⟨⟨int_of_wf wk, hs, int_of_wf wlo, int_of_wf whi⟩, A, cap, rfl, k1, k2, k3⟩

/-- an argument that is an expression -/
theorem arg_re {v : Value} {d : DataW H} {p : List MemPlace} (hv : Value.okWide Tryd.prog W .any base 27 v) (h : DataW.Trod enc Tryd.prog W 0 (fun _ => true) true 27 v d p) : ∃ (t : Ex) (cs : List Value), v = reV cs ∧ ReR (fun _ => True) W t cs := by
  obtain ⟨cs, rfl, hsz⟩ := okWide_struct Tryd.underlying27 hv
  obtain ⟨fuel, hf⟩ := h
  obtain ⟨t, ht⟩ := cell_re fuel _ _ hf
  exact ⟨t, cs.toList, by simp [reV], by simpa [Value.cells] using ht⟩
/-- an argument that is a list of expressions -/
theorem arg_res {v : Value} {d : DataW H} {p : List MemPlace} (hv : Value.okWide Tryd.prog W .any base 25 v) (h : DataW.Trod enc Tryd.prog W 0 (fun _ => true) true 25 v d p) :
    ∃ (A : Option Addr) (n c : Nat) (l : List Ex), v = .slice A n c ∧ n = l.length ∧ l.length ≤ c ∧ c ≤ maxLen ∧ Kids (fun _ => True) W A l := by
  obtain ⟨a0, len0, cap0, rfl⟩ := okWide_slice Tryd.underlying25 hv
  obtain ⟨fuel, hf⟩ := h
  rcases DataW.trod_slice Tryd.underlying25 hf with ⟨he, _⟩ | ⟨ad, len, cap, elems, rest, m, rfl, he, -, _, hlc, hcm, hel, hi', -⟩
  · simp [Value.cells] at he
    obtain ⟨rfl, rfl, rfl⟩ := he
    exact ⟨none, 0, 0, [], rfl, rfl, Nat.le_refl _, Nat.zero_le _, fun k hk => absurd hk (by simp)⟩
  · simp [Value.cells] at he
    obtain ⟨rfl, rfl, rfl⟩ := he
    rw [cells_re] at hi'
    have hk : ∀ i, ∃ t : Ex, i < len0 → ∃ cs', W.cells? 0 (ad.add (i * 8)) 8 = some cs' ∧ ReR (fun _ => True) W t cs' := fun i => by
      by_cases hlt : i < len0
      · have h5 := hi' i hlt
        rw [List.getElem?_eq_getElem (by omega)] at h5
        obtain ⟨cs', h6, h7⟩ := Option.bind_eq_some_iff.1 h5
        obtain ⟨t, ht⟩ := cell_re m cs' _ h7
        exact ⟨t, fun _ => ⟨cs', h6, ht⟩⟩
      · exact ⟨emptyE, fun h => absurd h hlt⟩
    obtain ⟨T, hT⟩ := Classical.axiomOfChoice hk
    refine ⟨some ad, len0, cap0, (List.range len0).map T, rfl, by simp, by simpa using hlc, hcm, fun j hj => ?_⟩
    have hjl : j < len0 := by simpa using hj
    obtain ⟨cs', h6, h7⟩ := hT j hjl
    obtain ⟨cs0, h8, h9⟩ := hT 0 (by omega)
    obtain ⟨_, hl8, hc8⟩ := World.cells?_some h8
    obtain ⟨_, hl6, hc6⟩ := World.cells?_some h6
    have hz : W.cell? (ad.add 0) = some cs0[0] := by
      have := hc8 0 (by omega)
      rw [add_add_, Nat.zero_mul, Nat.add_zero] at this
      rw [this, List.getElem?_eq_getElem (by omega)]
    obtain ⟨g, o, rfl⟩ := flat_of_cell hz
    refine ⟨g, o, cs', rfl, trivial, fun i u hu => ?_, by simpa using h7⟩
    have hi8 : i < 8 := by have := (List.getElem?_eq_some_iff.1 hu).1; omega
    have := hc6 i hi8
    rw [Addr.add_mid, Addr.add_mid] at this
    rw [this]
    exact hu
end
end Go.Proofs.YtgknlegomoaoeaaDoor

/-
  Contract of the reference's Range. No statement of the seat is proved here.
-/
namespace Go.Proofs.YtgknlegomoaoeaaDoor
open Go Go.RowKit
set_option maxRecDepth 100000


set_option maxHeartbeats 2000000 in
theorem rrange_any (lo hi : Nat) (w : World) (h1 : lo < 256) (h2 : hi < 256) :
    Calls Tryd.prog 114 #[.int .u8 (lo : Int), .int .u8 (hi : Int)] w fun e w' => e = .returned (setV (ofB (rangeB lo hi))) ∧ Below w.heap.size w w' := by
  have hz := zeros_set
  unfold setV
  go_enter Tryd.func114, Tryd.ntmps114
  go_wp2
  go_loopw [5, 6] (fun s i wr => ∃ (k : Nat) (A : Option Addr) (c : Nat), k ≤ hi + 1 - lo ∧ i = .int .i64 ((lo + k : Nat) : Int) ∧ s = .slice A k c ∧ NewO (w.alloc (Obj.cells (cellsU zeroB) 24)) wr 5 1 A k c ((fromN lo k).map nb)) (fun _ i _ => hi + 1 - (intOf i).toNat)
  case atStart => exact ⟨0, none, 0, by omega, rfl, rfl, NewO.start _ _ _⟩
  case round =>
    obtain ⟨k, A, c, hk, rfl, rfl, hN⟩ := hrel
    by_cases hlt : k < hi + 1 - lo
    · obtain ⟨b, hbe⟩ : ∃ b, lo + k = b := ⟨_, rfl⟩
      have hsn : (fromN lo (k + 1)).map nb = (fromN lo k).map nb ++ [.int .u8 (b : Int)] := by rw [fromN_succ, List.map_append, hbe]; rfl
      have Hsn := Lib.hid hsn
      rw [hbe]
      have hbl : b < 256 := by omega
      have hle : (b : Int) ≤ (hi : Int) := by omega
      have hm1 : k + 1 ≤ maxLen := by unfold maxLen; omega
      have hm2 : (k + 1) * 1 ≤ 140737488355328 := by omega
      have Hbe := Lib.hid hbe
      clear hsn hbe
      go_wp2_with (at_builtin
                   refine wpList_appO _ rfl (.tmp 15) (.tmp 18) _ rfl _ _ 1 1 Tryd.underlying94 info_u8 rfl A _ c _ rfl (hN.row.alloc _) (some ⟨wr.heap.size, 0, none⟩) 1 1 [.int .u8 (b : Int)] rfl rfl (Rd.lit _ #[.int .u8 (b : Int)] _) ?_ ?_ hm1 hm2 ?_
                   · simp; rfl
                   · intro h; cases h
                   intro A3 c3 w3 hrow3 honly3 hA3)
      have hN3 := hN.grow (ext_alloc (Below.refl _ _) _) hrow3 honly3 hA3
      go_roundw
      case rel =>
        refine ⟨k + 1, A3, c3, by omega, ?_, rfl, ?_⟩
        · have := Hbe.out
          rw [← Nat.add_assoc, this]
          go_num
        · rw [Hsn.out]; exact hN3
      case measure =>
        have := Hbe.out
        simp [intOf]; omega
    · obtain rfl : k = hi + 1 - lo := by omega
      have hgt : ¬ ((lo + (hi + 1 - lo) : Nat) : Int) ≤ (hi : Int) := by omega
      have hR := ((Blk.new w 24 (cellsU zeroB)).ext (by have := hN.bel; exact this))
      have hbel : Below w.heap.size w wr := ((Below.refl _ _).alloc (Nat.le_refl _) _).trans (hN.bel.mono (by simp))
      have hcall := rof_any A (hi + 1 - lo) c (fromN lo (hi + 1 - lo)) wr (by rw [fromN_len]) (fun b hb => by
        unfold fromN at hb
        rw [List.mem_range'_1] at hb
        omega) (by rw [fromN_len]; omega) hN.rd
      have hok : SetOk (ofB (rangeB lo hi)) := ofB_ok _
      have he : fromN lo (hi + 1 - lo) = rangeB lo hi := rfl
      rw [he] at hcall
      generalize hi + 1 - lo = m at hcall hgt ⊢
      generalize lo + m = b at hgt ⊢
      generalize hus : ofB (rangeB lo hi) = us at hcall hok
      have Hus := Lib.hid hus
      clear hus
      unfold setV at hcall
      have hi' := size_set hok
      clear he
      go_wp2_with fail
      refine hcall.mono ?_
      rintro e w2 ⟨rfl, hb2⟩
      have hR2 := hR.ext hb2
      clear hcall hR
      go_wp2_with (refine wpList_store_set rfl _ _ rfl w.heap.size rfl rfl hok zero_ok hR2 ?_; intro w3 hB3 _ _ hbel3)
      exact bodyPost_ret (results_cell rfl _ _ w.heap.size 24 _ 4 22 rfl hB3 Tryd.underlying24 hi') rfl ⟨by rw [← Hus.out], (ext_trans hbel hb2).trans (hbel3 _ (by omega))⟩
end Go.Proofs.YtgknlegomoaoeaaDoor

/-
  Contract of the reference's Join. No statement of the seat is proved here.
-/
namespace Go.Proofs.YtgknlegomoaoeaaDoor
open Go Go.RowKit
set_option maxRecDepth 100000


set_option maxHeartbeats 2000000 in
theorem rjoin_any (A : Option Addr) (n c : Nat) (l : List (List Nat)) (w : World) (hn : n = l.length) (hb : l.length ≤ 1000000) (hr : SetsR w A l) :
    Calls Tryd.prog 113 #[.slice A n c] w fun e w' => e = .returned (setV (joinB l)) ∧ Below w.heap.size w w' := by
  subst hn
  have hz := zeros_set
  have hbi : (l.length : Int) ≤ 1000000 := by omega
  unfold setV
  go_enter Tryd.func113, Tryd.ntmps113
  go_wp2
  go_loopw [4, 5] (fun i _ wr => ∃ (k : Nat) (us : List Nat), k ≤ l.length ∧ i = .int .i64 (k : Int) ∧ us = joinB (l.take k) ∧ Blk wr (w.heap.size + 1) 24 (cellsU us) ∧ Blk wr w.heap.size 24 (cellsU zeroB) ∧ Below w.heap.size w wr) (fun i _ _ => l.length - (intOf i).toNat)
  case atStart =>
    refine ⟨0, zeroB, by omega, rfl, rfl, ?_, ?_, ext2 w _ _⟩
    · have := Blk.new (w.alloc (Obj.cells (cellsU zeroB) 24)) 24 (cellsU zeroB)
      simpa using this
    · exact (Blk.new w 24 (cellsU zeroB)).alloc (Obj.cells (cellsU zeroB) 24)
  case round =>
    obtain ⟨k, us, hk, rfl, hus, hT, hR, hbel⟩ := hrel
    have husok : SetOk us := by rw [hus]; exact join_ok fun x hx => hr.ok x (List.mem_of_mem_take hx)
    by_cases hlt : k < l.length
    · have hki : (k : Int) < (l.length : Int) := by omega
      obtain ⟨g, o, rfl, hrg⟩ := hr.cells hlt
      have hx := hr.ok l[k] (List.getElem_mem hlt)
      have hsn : orB us l[k] = joinB (l.take (k + 1)) := by rw [hus, take_snoc l k hlt, joinB_snoc]
      have Hsn := Lib.hid hsn
      have Hus := Lib.hid hus
      have Hrg := Lib.hid hrg
      clear hsn hus hrg
      generalize l[k] = x at Hrg hx Hsn
      obtain ⟨wo, hwo⟩ : ∃ wo : World, wo = wr := ⟨_, rfl⟩
      subst hwo
      go_wp2
      go_loopw [5] (fun i w3 => ∃ (j : Nat) (vs : List Nat), j ≤ 4 ∧ i = .int .i64 (j : Int) ∧ SetOk vs ∧ (∀ i, i < 4 → wordB vs i = if i < j then wordB us i ||| wordB x i else wordB us i) ∧ Blk w3 (w.heap.size + 1) 24 (cellsU vs) ∧ Blk w3 w.heap.size 24 (cellsU zeroB) ∧ Below w.heap.size w w3) (fun i _ => 4 - (intOf i).toNat)
      case atStart => exact ⟨0, us, by omega, rfl, husok, fun i hi => by simp, hT, hR, hbel⟩
      case round =>
        obtain ⟨j, vs, hj, rfl, hvs, hw, hT3, hR3, hb3⟩ := hrel
        by_cases hjl : j < 4
        · have hcell : wr.cell? ⟨w.heap.size + 1, j, none⟩ = some (.int .u64 (wordB vs j : Int)) := (hT3.cell _).trans (cellsU_at hvs hjl)
          have hfree := hT3.free j
          have hji : (j : Int) < 4 := by omega
          have hcx : wr.cell? ⟨g, o + k * 4 + j, none⟩ = some (.int .u64 (wordB x j : Int)) := by
            have h1 := Hrg.out j hjl
            have hl := World.block_lt_of_cell? w _ h1
            exact (World.cell?_of_block (hb3.block _ hl)).trans h1
          have hor := or_key (wordB vs j) (wordB x j) (hvs.wlt _) (hx.wlt _)
          have hol := or_lt (hvs.wlt j) (hx.wlt j)
          have hT' := hT3.put j (.int .u64 ((wordB vs j ||| wordB x j : Nat) : Int))
          rw [cellsU_set] at hT'
          have hval : wordB vs j = wordB us j := by rw [hw j hjl, if_neg (by omega)]
          have Hval := Lib.hid hval
          have Hw := Lib.hid hw
          have HT' := Lib.hid hT'
          clear hw hT' hval hT3 hT hR hbel
          go_wp2
          go_region
          go_wp2
          go_roundw
          case rel =>
            refine ⟨j + 1, vs.set j (wordB vs j ||| wordB x j), by omega, by go_num, hvs.set _ _ hol, fun i hi => ?_, HT'.out.drew, (hR3.far (by simp) _).drew, (hb3.setCell (by simp) _).drew⟩
            rw [wordB_set hvs.len hi]
            by_cases e : j = i
            · subst e; rw [if_pos rfl, if_pos (by omega), Hval.out]
            · rw [if_neg e, Hw.out i hi]
              by_cases e2 : i < j
              · rw [if_pos e2, if_pos (by omega)]
              · rw [if_neg e2, if_neg (by omega)]
          case measure => simp [intOf]; omega
        · obtain rfl : j = 4 := by omega
          have hvs' : vs = orB us x := word_ext hvs (or_ok husok hx) fun i hi => by rw [hw i hi, if_pos hi, word_or husok hx hi]
          subst hvs'
          have hki2 : (k : Int) ≤ 1000000 := by omega
          clear hw
          go_wp2
          go_roundw
          case rel => exact ⟨k + 1, orB us x, by omega, by go_num, Hsn.out, hT3, hR3, hb3⟩
          case measure => simp [intOf]; omega
    · obtain rfl : k = l.length := by omega
      rw [List.take_length] at hus
      subst hus
      have hi := size_set husok
      go_wp2_with (first | (refine wpList_load_set rfl _ rfl (w.heap.size + 1) rfl husok hT ?_) | (refine wpList_store_set rfl _ _ rfl w.heap.size rfl rfl husok zero_ok hR ?_; intro w2 hB2 _ _ hbel2))
      exact bodyPost_ret (results_cell rfl _ _ w.heap.size 24 _ 4 22 rfl hB2 Tryd.underlying24 hi) rfl ⟨rfl, hbel.trans (hbel2 _ (by omega))⟩

end Go.Proofs.YtgknlegomoaoeaaDoor

/-
  Contract of the reference's Not. No statement of the seat is proved here.
-/
namespace Go.Proofs.YtgknlegomoaoeaaDoor
open Go Go.RowKit
set_option maxRecDepth 100000


set_option maxHeartbeats 1000000 in
theorem rnot_any (ws : List Nat) (hs : SetOk ws) (w : World) :
    Calls Tryd.prog 103 #[setV ws] w fun e w' => e = .returned (setV (notB ws)) ∧ Below w.heap.size w w' := by
  have hz := zeros_set
  have hB1 := ((Blk.new w 24 (cellsU ws)).alloc (Obj.cells (cellsU zeroB) 24)).alloc (Obj.cells (cellsU zeroB) 24)
  unfold setV
  go_enter Tryd.func103, Tryd.ntmps103
  go_wp2
  go_loopw [4] (fun i wr => ∃ (k : Nat) (us : List Nat), k ≤ 4 ∧ i = .int .i64 (k : Int) ∧ SetOk us ∧ (∀ j, j < 4 → wordB us j = if j < k then notW (wordB ws j) else wordB zeroB j) ∧ Blk wr (w.heap.size + 1 + 1) 24 (cellsU us) ∧ Blk wr (w.heap.size + 1) 24 (cellsU zeroB) ∧ Blk wr w.heap.size 24 (cellsU ws) ∧ Below w.heap.size w wr) (fun i _ => 4 - (intOf i).toNat)
  case atStart =>
    refine ⟨0, zeroB, by omega, rfl, zero_ok, fun j hj => by simp, ?_, ?_, hB1, (((Below.refl _ _).alloc (Nat.le_refl _) _).alloc (by simp) _).alloc (by simp; omega) _⟩
    · have := Blk.new ((w.alloc (Obj.cells (cellsU ws) 24)).alloc (Obj.cells (cellsU zeroB) 24)) 24 (cellsU zeroB)
      simpa using this
    · have := (Blk.new (w.alloc (Obj.cells (cellsU ws) 24)) 24 (cellsU zeroB)).alloc (Obj.cells (cellsU zeroB) 24)
      simpa using this
  case round =>
    obtain ⟨k, us, hk, rfl, hus, hw, hT, hR, hS, hbel⟩ := hrel
    by_cases hlt : k < 4
    · have hcell : wr.cell? ⟨w.heap.size + 1 + 1, k, none⟩ = some (.int .u64 (wordB us k : Int)) := (hT.cell k).trans (cellsU_at hus hlt)
      have hcell2 : wr.cell? ⟨w.heap.size, k, none⟩ = some (.int .u64 (wordB ws k : Int)) := (hS.cell k).trans (cellsU_at hs hlt)
      have hfree := hT.free k
      have hki : (k : Int) < 4 := by omega
      have hx := hs.wlt k
      have hnot := not_u64 (wordB ws k) hx
      have hnl : notW (wordB ws k) < 18446744073709551616 := by unfold notW; omega
      have hT' := hT.put k (.int .u64 (notW (wordB ws k) : Int))
      rw [cellsU_set] at hT'
      have Hw := Lib.hid hw
      have HT' := Lib.hid hT'
      have HT := Lib.hid hT
      clear hw hT' hT hB1
      go_wp2
      go_roundw
      case rel =>
        refine ⟨k + 1, us.set k (notW (wordB ws k)), by omega, by go_num, hus.set _ _ hnl, fun j hj => ?_, ?_, ?_, ?_, ?_⟩
        · rw [wordB_set hus.len hj]
          by_cases e : k = j
          · subst e; rw [if_pos rfl, if_pos (by omega)]
          · rw [if_neg e, Hw.out j hj]
            by_cases e2 : j < k
            · rw [if_pos e2, if_pos (by omega)]
            · rw [if_neg e2, if_neg (by omega)]
        · exact HT'.out
        · exact hR.far (by simp) _
        · exact hS.far (by simp; omega) _
        · exact hbel.setCell (by simp; omega) _
      case measure => simp [intOf]; omega
    · obtain rfl : k = 4 := by omega
      have hus' : us = notB ws := word_ext hus (not_ok hs) fun j hj => by rw [hw j hj, if_pos hj, word_not hs hj]
      subst hus'
      have hi := size_set hus
      clear hw hB1
      go_wp2_with (first | (refine wpList_load_set rfl _ rfl (w.heap.size + 1 + 1) rfl hus hT ?_) | (refine wpList_store_set rfl _ _ rfl (w.heap.size + 1) rfl rfl hus zero_ok hR ?_; intro w2 hB2 _ _ hbel2))
      exact bodyPost_ret (results_cell rfl _ _ (w.heap.size + 1) 24 _ 4 22 rfl hB2 Tryd.underlying24 hi) rfl ⟨rfl, hbel.trans (hbel2 _ (by omega))⟩
end Go.Proofs.YtgknlegomoaoeaaDoor

/-
  A world for the witness of the cards of stages 6 to 9: the tables hold what the rows list. No statement of the seat is proved here.
-/
namespace Go.Proofs.YtgknlegomoaoeaaDoor
open Go Go.ChangeShapes Go.WideShapes Go.ChangeAt Go.RowKit
noncomputable def laidWorld (os : Os) : World :=
  { World.holding Tryd.prog os ⟨#[], #[], []⟩ with heap := ((((World.holding Tryd.prog os ⟨#[], #[], []⟩).heap.modify 2 fun
      | .cells _ t frozen => .cells #[.int .u8 0, .int .u8 1, .int .u8 28, .int .u8 2, .int .u8 29, .int .u8 14, .int .u8 24, .int .u8 3, .int .u8 30, .int .u8 22, .int .u8 20, .int .u8 15, .int .u8 25, .int .u8 17, .int .u8 4, .int .u8 8, .int .u8 31, .int .u8 27, .int .u8 13, .int .u8 23, .int .u8 21, .int .u8 19, .int .u8 16, .int .u8 7, .int .u8 26, .int .u8 12, .int .u8 18, .int .u8 6, .int .u8 11, .int .u8 5, .int .u8 10, .int .u8 9] t frozen
      | o => o).modify 0 fun
      | .cells _ t frozen => .cells #[.int .u8 0, .int .u8 1, .int .u8 56, .int .u8 2, .int .u8 57, .int .u8 49, .int .u8 28, .int .u8 3, .int .u8 61, .int .u8 58, .int .u8 42, .int .u8 50, .int .u8 38, .int .u8 29, .int .u8 17, .int .u8 4, .int .u8 62, .int .u8 47, .int .u8 59, .int .u8 36, .int .u8 45, .int .u8 43, .int .u8 51, .int .u8 22, .int .u8 53, .int .u8 39, .int .u8 33, .int .u8 30, .int .u8 24, .int .u8 18, .int .u8 12, .int .u8 5, .int .u8 63, .int .u8 55, .int .u8 48, .int .u8 27, .int .u8 60, .int .u8 41, .int .u8 37, .int .u8 16, .int .u8 46, .int .u8 35, .int .u8 44, .int .u8 21, .int .u8 52, .int .u8 32, .int .u8 23, .int .u8 11, .int .u8 54, .int .u8 26, .int .u8 40, .int .u8 15, .int .u8 34, .int .u8 20, .int .u8 31, .int .u8 10, .int .u8 25, .int .u8 14, .int .u8 19, .int .u8 9, .int .u8 13, .int .u8 8, .int .u8 7, .int .u8 6] t frozen
      | o => o).modify 1 fun
      | .cells _ t frozen => .cells #[.int .u64 1, .int .u64 10, .int .u64 100, .int .u64 1000, .int .u64 10000, .int .u64 100000, .int .u64 1000000, .int .u64 10000000, .int .u64 100000000, .int .u64 1000000000, .int .u64 10000000000, .int .u64 100000000000, .int .u64 1000000000000, .int .u64 10000000000000, .int .u64 100000000000000, .int .u64 1000000000000000, .int .u64 10000000000000000, .int .u64 100000000000000000, .int .u64 1000000000000000000, .int .u64 10000000000000000000] t frozen
      | o => o) }
end Go.Proofs.YtgknlegomoaoeaaDoor
