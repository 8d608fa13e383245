/-
  A list of acts acs an argument; what the laws' helper long says of it. No statement of the seat is proved here.
-/
import Derived.Test.YtlpjeopeboemmaaDoorArgsG
import Derived.Test.YtlpjeopeboemmaaDoorBorn
import Derived.Test.YtlpjeopeboemmaaDoorPack
import Derived.Deep.Slices
namespace Go.Proofs.YtlpjeopeboemmaaDoor
open Go Go.ChangeShapes Go.WideShapes Go.ChangeAt Go.RowKit

/-- an act -/
structure ActD where
  kind : Int
  i : Int
  bs : List UInt8
  ps : List Int
structure ActD.ok (a : ActD) : Prop where
  kind : isInt a.kind
  i : isInt a.i
  ps : ∀ p ∈ a.ps, isInt p
  lb : a.bs.length ≤ maxLen
  lp : a.ps.length ≤ maxLen

def ActAt (w : World) (b o : Nat) (a : ActD) : Prop := ∃ B cB P cP, w.cell? ⟨b, o, none⟩ = some (.int .i64 a.kind) ∧ w.cell? ⟨b, o + 1, none⟩ = some (.int .i64 a.i) ∧ w.cell? ⟨b, o + 2, none⟩ = some (.slice B a.bs.length cB) ∧ w.cell? ⟨b, o + 3, none⟩ = some (.slice P a.ps.length cP) ∧ Bs w B a.bs.length cB a.bs ∧ Rd w P (a.ps.map iv)
def Acts (w : World) (A : Option Addr) (acs : List ActD) : Prop := ∀ k a, acs[k]? = some a → ∃ b o, A = some ⟨b, o, none⟩ ∧ ActAt w b (o + k * 4) a ∧ a.ok

theorem ActAt.ext {w w' : World} {b o : Nat} {a : ActD} (h : ActAt w b o a) (hb : Below w.heap.size w w') : ActAt w' b o a := by
  obtain ⟨B, cB, P, cP, h0, h1, h2, h3, h4, h5⟩ := h
  have hl : b < w.heap.size := World.block_lt_of_cell? w _ h0
  have hk : ∀ o', w'.cell? ⟨b, o', none⟩ = w.cell? ⟨b, o', none⟩ := fun o' => World.cell?_of_block (a := ⟨b, o', none⟩) (hb.block b hl)
  exact ⟨B, cB, P, cP, by rw [hk]; exact h0, by rw [hk]; exact h1, by rw [hk]; exact h2, by rw [hk]; exact h3, h4.ext hb, h5.ext hb⟩

section
variable {H : Type} {enc : TypeId × Value → H} {W : World} {base : Nat}
theorem cell_bytes {fuel : Nat} {cs : List Value} {x : DataW H × List MemPlace} (hf : DataW.trod enc Tryd.prog W 0 (fun _ => true) true fuel 22 cs = some x) :
    ∃ (A : Option Addr) (c : Nat) (xs : List UInt8), cs = [.slice A xs.length c] ∧ xs.length ≤ maxLen ∧ Bs W A xs.length c xs := by
  rcases open_ints Tryd.underlying22 Tryd.underlying5 cells_u8 hf with ⟨hcs, hx⟩ | ⟨a, len', cap', zs, hcs, _, hl, hm, hz, hx, hcell, hwz⟩
  · exact ⟨none, 0, [], hcs, Nat.zero_le _, rfl, Nat.le_refl _, Rd.nil _ _⟩
  · simp only [if_true] at hz
    have hlen : (toBytes (zs.take len')).length = len' := by simp [toBytes]; omega
    exact ⟨some a, cap', toBytes (zs.take len'), by rw [hlen]; exact hcs, by rw [hlen]; omega, rfl, by rw [hlen]; exact hl, rd_bytes (by omega) hcell hwz⟩
theorem cell_ints {fuel : Nat} {cs : List Value} {x : DataW H × List MemPlace} (hf : DataW.trod enc Tryd.prog W 0 (fun _ => true) true fuel 34 cs = some x) :
    ∃ (A : Option Addr) (c : Nat) (xs : List Int), cs = [.slice A xs.length c] ∧ xs.length ≤ maxLen ∧ Rd W A (xs.map iv) ∧ ∀ p ∈ xs, isInt p := by
  rcases open_ints Tryd.underlying34 Tryd.underlying3 cells_int hf with ⟨hcs, hx⟩ | ⟨a, len', cap', zs, hcs, _, hl, hm, hz, hx, hcell, hwz⟩
  · exact ⟨none, 0, [], hcs, Nat.zero_le _, Rd.nil _ _, by simp⟩
  · simp only [if_true] at hz
    have hlen : (zs.take len').length = len' := by simp; omega
    refine ⟨some a, cap', zs.take len', by rw [hlen]; exact hcs, by rw [hlen]; omega, fun j u hu => ⟨a, rfl, ?_⟩, fun x hx => int_of_wf (hwz x (List.mem_of_mem_take hx))⟩
    have hj : j < len' := by
      have := (List.getElem?_eq_some_iff.1 hu).1
      simp at this; omega
    rw [hcell j (by omega), ← hu]
    simp [List.getD, hj, show j < zs.length by omega, iv]

theorem cells_act : Tryd.prog.cellsOf 36 = 4 := by kernel_rfl
theorem cells_lb : Tryd.prog.cellsOf 22 = 1 := by kernel_rfl
theorem cells_li : Tryd.prog.cellsOf 34 = 1 := by kernel_rfl

set_option maxRecDepth 100000 in
theorem arg_acts {v : Value} {d : DataW H} {p : List MemPlace} (hv : Value.okWide Tryd.prog W .any base 23 v) (h : DataW.Trod enc Tryd.prog W 0 (fun _ => true) true 23 v d p) :
    ∃ (A : Option Addr) (n c : Nat) (acs : List ActD), v = .slice A n c ∧ n = acs.length ∧ acs.length ≤ c ∧ c ≤ maxLen ∧ Acts W A acs ∧ True := by
  obtain ⟨a0, len, cap, rfl⟩ := okWide_slice Tryd.underlying23 hv
  obtain ⟨fuel, hf⟩ := h
  rcases Deep.open_slice Tryd.underlying23 hf with ⟨hcs, hx⟩ | ⟨a, len', cap', m, n, D, Pl, hcs, _, hl, hm, hmm, hx, hi⟩
  · simp [Value.cells] at hcs
    obtain ⟨rfl, rfl, rfl⟩ := hcs
    exact ⟨none, 0, 0, [], rfl, rfl, Nat.le_refl _, Nat.zero_le _, fun k a h => by simp at h, trivial⟩
  · simp [Value.cells] at hcs
    obtain ⟨rfl, rfl, rfl⟩ := hcs
    simp only [if_true] at hmm
    rw [hmm, cells_act] at hi
    have each : ∀ k, k < cap → ∃ t : ActD, t.ok ∧ ∃ B cB P cP, W.cell? (a.add (k * 4)) = some (.int .i64 t.kind) ∧ W.cell? (a.add (k * 4 + 1)) = some (.int .i64 t.i) ∧ W.cell? (a.add (k * 4 + 2)) = some (.slice B t.bs.length cB) ∧ W.cell? (a.add (k * 4 + 3)) = some (.slice P t.ps.length cP) ∧ Bs W B t.bs.length cB t.bs ∧ Rd W P (t.ps.map iv) := by
      intro k hk
      obtain ⟨cs', hc, ht⟩ := hi k hk
      obtain ⟨_, hcl, hat⟩ := World.cells?_some hc
      obtain ⟨ys, n', hn', hy, hlen, hyl, hg⟩ := DataW.trod_struct Tryd.underlying36 ht
      match cs', hcl with
      | [e0, e1, e2, e3], _ =>
        match ys, hyl with
        | [y0, y1, y2, y3], _ =>
          have g0 := hg 0 _ rfl
          have g1 := hg 1 _ rfl
          have g2 := hg 2 _ rfl
          have g3 := hg 3 _ rfl
          simp only [cells_int, cells_lb, cells_li, List.drop_zero, List.drop_succ_cons, List.take_succ_cons, List.take_zero, List.getElem?_cons_zero, List.getElem?_cons_succ] at g0 g1 g2 g3
          obtain ⟨z0, q0, _, w0⟩ := DataW.trod_int Tryd.underlying3 g0
          obtain ⟨z1, q1, _, w1⟩ := DataW.trod_int Tryd.underlying3 g1
          obtain ⟨B, cB, bs, q2, l2, r2⟩ := cell_bytes g2
          obtain ⟨P, cP, ps, q3, l3, r3, i3⟩ := cell_ints g3
          injection q0 with q0
          injection q1 with q1
          injection q2 with q2
          injection q3 with q3
          have k0 := hat 0 (by omega)
          have k1 := hat 1 (by omega)
          have k2 := hat 2 (by omega)
          have k3 := hat 3 (by omega)
          rw [add_add_] at k0 k1 k2 k3
          refine ⟨⟨z0, z1, bs, ps⟩, ⟨int_of_wf w0, int_of_wf w1, i3, l2, l3⟩, B, cB, P, cP, ?_, ?_, ?_, ?_, r2, r3⟩
          · rw [Nat.add_zero] at k0; rw [k0, ← q0]; rfl
          · rw [k1, ← q1]; rfl
          · rw [k2, ← q2]; rfl
          · rw [k3, ← q3]; rfl
    obtain ⟨T, hT⟩ : ∃ T : Nat → ActD, ∀ k, k < cap → (T k).ok ∧ ∃ B cB P cP, W.cell? (a.add (k * 4)) = some (.int .i64 (T k).kind) ∧ W.cell? (a.add (k * 4 + 1)) = some (.int .i64 (T k).i) ∧ W.cell? (a.add (k * 4 + 2)) = some (.slice B (T k).bs.length cB) ∧ W.cell? (a.add (k * 4 + 3)) = some (.slice P (T k).ps.length cP) ∧ Bs W B (T k).bs.length cB (T k).bs ∧ Rd W P ((T k).ps.map iv) :=
      ⟨fun k => if h : k < cap then Classical.choose (each k h) else ⟨0, 0, [], []⟩, fun k hk => by simp only [dif_pos hk]; exact Classical.choose_spec (each k hk)⟩
    refine ⟨some a, len, cap, (List.range len).map T, rfl, by simp, by simpa using hl, hm, fun k t ht => ?_, trivial⟩
    have hk : k < len := by
      have := (List.getElem?_eq_some_iff.1 ht).1
      simpa using this
    have ht' : T k = t := by simpa [hk] using ht
    subst ht'
    obtain ⟨_, B0, cB0, P0, cP0, h00, _⟩ := hT 0 (by omega)
    obtain ⟨b, o, sp⟩ := a
    have hsp : sp = none := by
      rw [Nat.zero_mul] at h00
      rcases sp with _ | sp
      · rfl
      · exfalso
        unfold World.cell? Addr.add at h00
        simp at h00
        split at h00 <;> simp at h00
    subst hsp
    obtain ⟨hok, B, cB, P, cP, h0, h1, h2, h3, h4, h5⟩ := hT k (by omega)
    rw [Addr.add_mid] at h0 h1 h2 h3
    exact ⟨b, o, rfl, ⟨B, cB, P, cP, h0, by rw [Nat.add_assoc]; exact h1, by rw [Nat.add_assoc]; exact h2, by rw [Nat.add_assoc]; exact h3, h4, h5⟩, hok⟩
end

theorem Acts.block_lt {W : World} {b o : Nat} {acs : List ActD} (h : Acts W (some ⟨b, o, none⟩) acs) {k : Nat} (hk : k < acs.length) : b < W.heap.size := by
  obtain ⟨b', o', e, ⟨_, _, _, _, h0, _⟩, _⟩ := h k _ (List.getElem?_eq_getElem hk)
  injection e with e
  injection e with e1 _ _
  subst e1
  exact World.block_lt_of_cell? W _ h0

/-- what is read of an act, in a later world -/
theorem Acts.at_ {W w w1 : World} {A : Option Addr} {acs : List ActD} (h : Acts W A acs) (hb : Below W.heap.size W w) {k : Nat} (hk : k < acs.length) :
    ∃ b o B cB P cP, A = some ⟨b, o, none⟩ ∧ w.cell? ⟨b, o + k * 4, none⟩ = some (.int .i64 acs[k].kind) ∧ w.cell? ⟨b, o + k * 4 + 1, none⟩ = some (.int .i64 acs[k].i) ∧ w.cell? ⟨b, o + k * 4 + 2, none⟩ = some (.slice B acs[k].bs.length cB) ∧ w.cell? ⟨b, o + k * 4 + 3, none⟩ = some (.slice P acs[k].ps.length cP) ∧
      Bs w B acs[k].bs.length cB acs[k].bs ∧ RdF (Born W w1) w P (acs[k].ps.map iv) ∧ acs[k].ok := by
  obtain ⟨b, o, hA, ha, hok⟩ := h k _ (List.getElem?_eq_getElem hk)
  obtain ⟨B, cB, P, cP, h0, h1, h2, h3, h4, h5⟩ := ha
  have hl : b < W.heap.size := World.block_lt_of_cell? W _ h0
  have hkp : ∀ o', w.cell? ⟨b, o', none⟩ = W.cell? ⟨b, o', none⟩ := fun o' => World.cell?_of_block (a := ⟨b, o', none⟩) (hb.block b hl)
  exact ⟨b, o, B, cB, P, cP, hA, by rw [hkp]; exact h0, by rw [hkp]; exact h1, by rw [hkp]; exact h2, by rw [hkp]; exact h3, h4.ext hb, rdF_born h5 hb, hok⟩
/-- the same, the lists told where they came in -/
theorem Acts.at0 {W w : World} {A : Option Addr} {acs : List ActD} (h : Acts W A acs) (hb : Below W.heap.size W w) {k : Nat} (hk : k < acs.length) :
    ∃ b o B cB P cP, A = some ⟨b, o, none⟩ ∧ w.cell? ⟨b, o + k * 4, none⟩ = some (.int .i64 acs[k].kind) ∧ w.cell? ⟨b, o + k * 4 + 1, none⟩ = some (.int .i64 acs[k].i) ∧ w.cell? ⟨b, o + k * 4 + 2, none⟩ = some (.slice B acs[k].bs.length cB) ∧ w.cell? ⟨b, o + k * 4 + 3, none⟩ = some (.slice P acs[k].ps.length cP) ∧
      Bs W B acs[k].bs.length cB acs[k].bs ∧ Rd W P (acs[k].ps.map iv) ∧ acs[k].ok := by
  obtain ⟨b, o, hA, ha, hok⟩ := h k _ (List.getElem?_eq_getElem hk)
  obtain ⟨B, cB, P, cP, h0, h1, h2, h3, h4, h5⟩ := ha
  have hl : b < W.heap.size := World.block_lt_of_cell? W _ h0
  have hkp : ∀ o', w.cell? ⟨b, o', none⟩ = W.cell? ⟨b, o', none⟩ := fun o' => World.cell?_of_block (a := ⟨b, o', none⟩) (hb.block b hl)
  exact ⟨b, o, B, cB, P, cP, hA, by rw [hkp]; exact h0, by rw [hkp]; exact h1, by rw [hkp]; exact h2, by rw [hkp]; exact h3, h4, h5, hok⟩
end Go.Proofs.YtlpjeopeboemmaaDoor
