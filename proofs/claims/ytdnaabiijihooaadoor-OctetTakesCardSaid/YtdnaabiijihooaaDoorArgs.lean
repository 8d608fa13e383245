/-
  What the arguments of the laws read as, in this seat's words for memory; the table of package octet; how a law's contract closes its statement. No statement of the seat is proved here.
-/
import Derived.Test.YtdnaabiijihooaaDoorSum
import Derived.Test.YtdnaabiijihooaaDoorNums
import Derived.Test.YtdnaabiijihooaaDoorCards
import Derived.Test.YtdnaabiijihooaaDoorTie
import Derived.ProofKit
import Derived.OpenShut
import Derived.Deep.DeepHandedRow
import Derived.Lib.LaidTab
import Derived.Deep.Matrix
namespace Go.Proofs.YtdnaabiijihooaaDoor
open Go Go.ChangeShapes Go.WideShapes Go.ChangeAt Go.RowKit

theorem own : ownKnob Tryd.prog.godebug = none := by kernel_rfl
theorem laidOut : laidOutB Tryd.prog = true := by kernel_rfl
theorem cells_u8 : Tryd.prog.cellsOf 5 = 1 := by kernel_rfl
theorem cells_int : Tryd.prog.cellsOf 3 = 1 := by kernel_rfl
theorem cells_bytes : Tryd.prog.cellsOf 23 = 1 := by kernel_rfl
theorem cells_u32 : Tryd.prog.cellsOf 50 = 1 := by kernel_rfl
theorem cells_tab : Tryd.prog.cellsOf 67 = 16 := by kernel_rfl
theorem gTab : Tryd.prog.globalNamed "winnower/octet.crcSteps" = some 0 := by kernel_rfl
theorem gTabType : (Tryd.prog.globals[0]?).map (·.type) = some 67 := by kernel_rfl

/-- the list of every row of this seat -/
def theLaid : List (String × DataW Unit) := [("winnower/octet.crcSteps", Rows.laid_winnower_octet_crcSteps)]

theorem tab_of_laid {W : World} (h : laidMetH Tryd.prog theLaid W) : Tab W := by
  have h1 : Lib.TabIs Tryd.prog W "winnower/octet.crcSteps" .u32 [0, 498536548, 997073096, 651767980, 1994146192, 1802195444, 1303535960, 1342533948, 3988292384, 4027552580, 3604390888, 3412177804, 2607071920, 2262029012, 2685067896, 3183342108] :=
    Lib.tabIs_of_head (rest := []) gTab gTabType Tryd.underlying67 Tryd.underlying50 cells_u32 cells_tab h
  intro i hi
  have h2 := h1.cell gTab i (by simpa using hi)
  rw [h2]
  match i, hi with
  | 0, _ => rfl
  | 1, _ => rfl
  | 2, _ => rfl
  | 3, _ => rfl
  | 4, _ => rfl
  | 5, _ => rfl
  | 6, _ => rfl
  | 7, _ => rfl
  | 8, _ => rfl
  | 9, _ => rfl
  | 10, _ => rfl
  | 11, _ => rfl
  | 12, _ => rfl
  | 13, _ => rfl
  | 14, _ => rfl
  | 15, _ => rfl
  | n + 16, h => omega

section
variable {H : Type} {enc : TypeId × Value → H} {W : World} {base : Nat}
theorem bv_of {z : Int} (h : (Lit.int .u8 z).wf = true) : Value.int .u8 z = bv z.toNat.toUInt8 := by
  have h1 : IntKind.u8.min = 0 := rfl
  have h2 : IntKind.u8.max = 255 := rfl
  simp only [Lit.wf, Bool.and_eq_true, decide_eq_true_eq] at h
  unfold bv
  rw [show (z.toNat.toUInt8.toNat : Int) = z by simp [Nat.toUInt8, UInt8.toNat_ofNat']; omega]

/-- the bytes that numbers are -/
def toBytes (zs : List Int) : List UInt8 := zs.map fun z => z.toNat.toUInt8

theorem rd_bytes {a : Addr} {len : Nat} {zs : List Int} (hl : len ≤ zs.length) (hc : ∀ i, i < zs.length → W.cell? (a.add i) = some (.int .u8 (zs.getD i 0))) (hw : ∀ n ∈ zs, (Lit.int .u8 n).wf = true) :
    Rd W (some a) ((toBytes (zs.take len)).map bv) := by
  intro j u hu
  have hj : j < len := by
    have := (List.getElem?_eq_some_iff.1 hu).1
    simp [toBytes] at this; omega
  refine ⟨a, rfl, ?_⟩
  rw [hc j (by omega), ← hu]
  have hz : zs.getD j 0 = zs[j]'(by omega) := by simp [List.getD, show j < zs.length by omega]
  rw [hz, bv_of (hw _ (List.getElem_mem _))]
  simp [toBytes, hj, show j < zs.length by omega]

theorem arg_bytes {v : Value} {d : DataW H} {p : List MemPlace} (hv : Value.okWide Tryd.prog W .any base 23 v) (h : DataW.Trod enc Tryd.prog W 0 (fun _ => true) true 23 v d p) :
    ∃ (A : Option Addr) (n c : Nat) (xs : List UInt8), v = .slice A n c ∧ n = xs.length ∧ xs.length ≤ c ∧ c ≤ maxLen ∧ Rd W A (xs.map bv) := by
  obtain ⟨a0, len, cap, rfl⟩ := okWide_slice Tryd.underlying23 hv
  obtain ⟨fuel, hf⟩ := h
  rcases open_ints Tryd.underlying23 Tryd.underlying5 cells_u8 hf with ⟨hcs, hx⟩ | ⟨a, len', cap', zs, hcs, _, hl, hm, hz, hx, hcell, hwz⟩
  · simp [Value.cells] at hcs
    obtain ⟨rfl, rfl, rfl⟩ := hcs
    exact ⟨none, 0, 0, [], rfl, rfl, Nat.le_refl _, Nat.zero_le _, Rd.nil _ _⟩
  · simp [Value.cells] at hcs
    obtain ⟨rfl, rfl, rfl⟩ := hcs
    simp only [if_true] at hz
    exact ⟨some a, len, cap, toBytes (zs.take len), rfl, by simp [toBytes]; omega, by simp [toBytes]; omega, hm, rd_bytes (by omega) hcell hwz⟩

theorem arg_ints {v : Value} {d : DataW H} {p : List MemPlace} (hv : Value.okWide Tryd.prog W .any base 22 v) (h : DataW.Trod enc Tryd.prog W 0 (fun _ => true) true 22 v d p) :
    ∃ (A : Option Addr) (n c : Nat) (vs : List Int), v = .slice A n c ∧ n = vs.length ∧ vs.length ≤ c ∧ c ≤ maxLen ∧ Rd W A (vs.map iv) ∧ ∀ x ∈ vs, isInt x := by
  obtain ⟨a0, len, cap, rfl⟩ := okWide_slice Tryd.underlying22 hv
  obtain ⟨fuel, hf⟩ := h
  rcases open_ints Tryd.underlying22 Tryd.underlying3 cells_int hf with ⟨hcs, hx⟩ | ⟨a, len', cap', zs, hcs, _, hl, hm, hz, hx, hcell, hwz⟩
  · simp [Value.cells] at hcs
    obtain ⟨rfl, rfl, rfl⟩ := hcs
    exact ⟨none, 0, 0, [], rfl, rfl, Nat.le_refl _, Nat.zero_le _, Rd.nil _ _, by simp⟩
  · simp [Value.cells] at hcs
    obtain ⟨rfl, rfl, rfl⟩ := hcs
    simp only [if_true] at hz
    refine ⟨some a, len, cap, zs.take len, rfl, by simp; omega, by simp; omega, hm, fun j u hu => ⟨a, rfl, ?_⟩, fun x hx => ?_⟩
    · have hj : j < len := by
        have := (List.getElem?_eq_some_iff.1 hu).1
        simp at this; omega
      rw [hcell j (by omega), ← hu]
      simp [List.getD, hj, show j < zs.length by omega, iv]
    · have hw := hwz x (List.mem_of_mem_take hx)
      have h1 : IntKind.i64.min = -9223372036854775808 := rfl
      have h2 : IntKind.i64.max = 9223372036854775807 := rfl
      simp only [Lit.wf, Bool.and_eq_true, decide_eq_true_eq] at hw
      unfold isInt
      omega

theorem arg_rows {v : Value} {d : DataW H} {p : List MemPlace} (hv : Value.okWide Tryd.prog W .any base 36 v) (h : DataW.Trod enc Tryd.prog W 0 (fun _ => true) true 36 v d p) :
    ∃ (A : Option Addr) (n c : Nat) (xss : List (List UInt8)), v = .slice A n c ∧ n = xss.length ∧ xss.length ≤ c ∧ c ≤ maxLen ∧ RowsF (fun _ => False) W A xss ∧ ∀ xs ∈ xss, xs.length ≤ maxLen := by
  obtain ⟨a0, len, cap, rfl⟩ := okWide_slice Tryd.underlying36 hv
  obtain ⟨fuel, hf⟩ := h
  rcases Deep.open_int_rows Tryd.underlying36 Tryd.underlying23 Tryd.underlying5 cells_bytes cells_u8 hf with ⟨hcs, hx⟩ | ⟨a, len', cap', A, L, C, Z, hcs, _, hl, hm, hx, hcell⟩
  · simp [Value.cells] at hcs
    obtain ⟨rfl, rfl, rfl⟩ := hcs
    exact ⟨none, 0, 0, [], rfl, rfl, Nat.le_refl _, Nat.zero_le _, ⟨[], RdF.of (Rd.nil _ _), rfl, fun j v xs h _ => by simp at h⟩, by simp⟩
  · simp [Value.cells] at hcs
    obtain ⟨rfl, rfl, rfl⟩ := hcs
    have hlen : ∀ r, r < cap → (toBytes ((Z r).take (L r))).length = L r := fun r hr => by
      obtain ⟨_, h2, _, h4, _⟩ := hcell r hr
      simp [toBytes]; omega
    refine ⟨some a, len, cap, (List.range len).map fun r => toBytes ((Z r).take (L r)), rfl, by simp, by simpa using hl, hm, ⟨(List.range len).map fun r => .slice (A r) (L r) (C r), RdF.of (fun j u hu => ⟨a, rfl, ?_⟩), by simp, fun j v xs hv hx => ?_⟩, fun xs hx => ?_⟩
    · have hj : j < len := by
        have := (List.getElem?_eq_some_iff.1 hu).1
        simpa using this
      rw [(hcell j (by omega)).1, ← hu]
      simp [hj]
    · have hj : j < len := by
        have := (List.getElem?_eq_some_iff.1 hx).1
        simpa using this
      simp [hj] at hv hx
      subst hv hx
      obtain ⟨h1, h2, h3, h4, h5, h6, h7⟩ := hcell j (by omega)
      refine ⟨A j, C j, by rw [hlen j (by omega)], by rw [hlen j (by omega)]; exact h2, RdF.of ?_⟩
      rcases hA : A j with _ | a'
      · have := h6 hA
        have hl0 : (toBytes ((Z j).take (L j))) = [] := List.eq_nil_of_length_eq_zero (by rw [hlen j (by omega)]; omega)
        rw [hl0]
        exact Rd.nil _ _
      · exact rd_bytes (by omega) (fun i hi => (h7 a' hA).2 i (by omega)) h5
    · obtain ⟨r, hr, rfl⟩ := List.mem_map.1 hx
      have hr' : r < len := by simpa using hr
      rw [hlen r (by omega)]
      obtain ⟨_, h2, h3, _⟩ := hcell r (by omega)
      omega
end

theorem int_of_wf {v : Int} (h : (Lit.int .i64 v).wf = true) : isInt v := by
  have h1 : IntKind.i64.min = -9223372036854775808 := rfl
  have h2 : IntKind.i64.max = 9223372036854775807 := rfl
  simp only [Lit.wf, Bool.and_eq_true, decide_eq_true_eq] at h
  unfold isInt
  omega
theorem u8_of_wf {v : Int} (h : (Lit.int .u8 v).wf = true) : 0 ≤ v ∧ v ≤ 255 := by
  have h1 : IntKind.u8.min = 0 := rfl
  have h2 : IntKind.u8.max = 255 := rfl
  simp only [Lit.wf, Bool.and_eq_true, decide_eq_true_eq] at h
  omega

/-! ### How a contract closes a statement -/
section
variable {H : Type} {enc : TypeId × Value → H}
theorem below_trodAll {P : Program} (hl : laidOutB P = true) {W W' : World} (hb : Below W.heap.size W W') : ∀ {ts : List TypeId} {vs : List Value} {ds : List (DataW H)} {ps : List MemPlace},
    (∀ t ∈ ts, P.readableRec t = true ∧ t < P.types.size) → DataW.TrodAll enc P W 0 (fun _ => true) true ts vs ds ps → (∀ x ∈ ps, x.block < W.heap.size) → DataW.TrodAll enc P W' 0 (fun b => decide (b < W.heap.size)) true ts vs ds ps
  | [], [], [], _, _, h, _ => h
  | t :: ts, v :: vs, d :: ds, _, hr, h, hlt => by
    obtain ⟨p, q, h1, h2, rfl⟩ := h
    exact ⟨p, q, Below.trod hl (hr t (by simp)).1 (hr t (by simp)).2 h1 hb (fun x hx => hlt x (by simp [hx])), below_trodAll hl hb (fun t' ht => hr t' (by simp [ht])) h2 (fun x hx => hlt x (by simp [hx])), rfl⟩
  | [], [], _ :: _, _, _, h, _ => h.elim
  | [], _ :: _, _, _, _, h, _ => h.elim
  | _ :: _, [], _, _, _, h, _ => h.elim
  | _ :: _, _ :: _, [], _, _, h, _ => h.elim

/-- a law that returned true, and left all that was there as it was -/
theorem law_post {f : Func} {s : ChangeSpec} {W W' : World} {args : Array Value} {ds gs : List (DataW H)} {before : List MemPlace} (hvars : s.vars = []) (hf : f.resultTypes = #[4])
    (hread : f.params.toList.all (fun t => Tryd.prog.readableRec t && decide (t < Tryd.prog.types.size)) = true)
    (hs : (s.fn H ds).results = [.lit (.bool true)] ∧ (s.fn H ds).args = ds ∧ (s.fn H ds).vars = []) (hW : DataW.Whole enc Tryd.prog f.params.toList s.vars false W args.toList ds gs before) (hb : Below W.heap.size W W') :
    s.post enc Tryd.prog f false true false false W args (.bool true) W' := by
  have hW' := hW
  have hlt : ∀ x ∈ before, x.block < W.heap.size := fun x hx => by simpa using hW'.lt x hx
  obtain ⟨p, q, hA, hV, he, _, _⟩ := hW
  rw [hvars] at hV
  obtain ⟨hg, hq⟩ := trodVars_none hV
  have hx : ds ++ gs = ds := by rw [hg, List.append_nil]
  refine ⟨ds, gs, before, [] ++ [], p, [], hW', ?_, ?_, ?_, hb.frame _, fun h => by cases h⟩
  · rw [hx, hs.1, hf]
    exact trodAll_cons_mk (shut_bool Tryd.underlying4 _) trodAll_mk0
  · rw [hx, hs.2.1]
    refine below_trodAll laidOut hb (fun t ht => ?_) hA (fun x hx => hlt x (by rw [he]; simp [hx]))
    have := List.all_eq_true.1 hread t ht
    simpa using this
  · rw [hx, hs.2.2, hvars]
    rfl
end

/-- A WORLD FOR THE WITNESS: the settled one, the table holding what its initialiser lays. -/
noncomputable def laidWorld (os : Os) : World :=
  { World.holding Tryd.prog os ⟨#[], #[], []⟩ with heap := (World.holding Tryd.prog os ⟨#[], #[], []⟩).heap.modify 0 fun
      | .cells _ t frozen => .cells #[.int .u32 0, .int .u32 498536548, .int .u32 997073096, .int .u32 651767980, .int .u32 1994146192, .int .u32 1802195444, .int .u32 1303535960, .int .u32 1342533948, .int .u32 3988292384, .int .u32 4027552580, .int .u32 3604390888, .int .u32 3412177804, .int .u32 2607071920, .int .u32 2262029012, .int .u32 2685067896, .int .u32 3183342108] t frozen
      | o => o }
end Go.Proofs.YtdnaabiijihooaaDoor
