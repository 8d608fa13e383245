/-
  Texts of this claim, joined (part 15): contracts and lemmas that the last text goes by. No statement of the seat is proved here.
-/
import Derived.Test.YtdghbdiapkelnaaAll13
set_option linter.unusedVariables false
set_option linter.unusedSimpArgs false
/-
  A leaf's groups turned, in the reference's tree; the most alike. No statement of the seat is proved here.
-/
namespace Go.Proofs.Ytdghbdiapkelnaa
open Go Go.RowKit
set_option maxRecDepth 100000

theorem info_int15 : (Try.prog.info? 3).map (fun i => (i.zero, i.size, i.bytes)) = some (some (.int .i64 0), 1, 8) := by kernel_rfl
theorem grow_fresh15 {w0 X w4 : World} {A A4 : Option Addr} (hb : Below w0.heap.size w0 X) (ho : Only (inA A) X w4) (hA : ∀ q, inA A4 q → inA A q ∨ (X.heap.size ≤ q ∧ q < w4.heap.size)) (hn : ∀ q, inA A q → w0.heap.size ≤ q) : Below w0.heap.size w0 w4 ∧ ∀ q, inA A4 q → w0.heap.size ≤ q :=
  ⟨hb.trans (ho.below hn hb.size), fun q hq => (hA q hq).elim (hn q) (fun h => Nat.le_trans hb.size h.1)⟩
theorem natV_one (l : List Nat) : ∀ u ∈ l.map natV, u.oneCell' = true := fun u hu => by
  obtain ⟨x, _, rfl⟩ := List.mem_map.1 hu
  rfl
section
variable {S T : Nat → Prop} {w w2 w3 W : World} {g : Nat} {t : Tr} {A R A' : Option Addr} {c d c' : Nat} {xs ys : List Value}
theorem RTAt.grp (h : RTAt S w g t A c xs R d ys) {i : Nat} (hi : i < t.lv.length) {G : Option Addr} {n e : Nat} (hy : ys[i * 4 + 3]? = some (.slice G n e)) : n = t.lv[i].gr.length ∧ RowO w 3 1 G t.lv[i].gr.length e (t.lv[i].gr.map natV) ∧ ∀ k, inA G k → S k := by
  obtain ⟨G', e', h1, h2, h3, h4, h5, h6⟩ := h.lvAt i hi
  rw [hy] at h4
  injection h4 with h4
  injection h4 with h4 h7 h8
  subst h4 h7 h8
  exact ⟨rfl, h5, h6⟩
/-- a leaf's groups lie in a new row -/
theorem RTAt.regroup (h : RTAt S w g t A c xs R d ys) {i : Nat} (hi : i < t.lv.length) {gs : List Nat} {G : Option Addr} {e : Nat} {w4 : World} (hO : Only (inA R) w w4) (hr : RowO w4 84 4 R t.lv.length d (ys.set (i * 4 + 3) (.slice G gs.length e)))
    (hG : RowO w4 3 1 G gs.length e (gs.map natV)) (hGn : ∀ k, inA G k → w.heap.size ≤ k) :
    RTAt (grewS S w w4) w4 g ⟨t.ts, t.lv.set i ⟨t.lv[i].count, t.lv[i].a, t.lv[i].b, gs⟩⟩ A c xs R d (ys.set (i * 4 + 3) (.slice G gs.length e)) ∧ Only S w w4 := by
  have hgR : ¬ inA R g := h.rows.ne_blk h.blk (by decide)
  have hyl : ys.length = t.lv.length * 4 := h.rows.1
  have s1 := hO.size
  refine ⟨⟨?_, ?_, ?_, fun j hj => ?_, fun j hj => ?_, .inl h.sg, fun k hk => .inl (h.sA k hk), fun k hk => .inl (h.sR k hk), fun k hk => ?_⟩, hO.mono (fun k _ hk => h.sR k hk)⟩
  · have := h.blk.only hO hgR
    simpa using this
  · exact h.own.only hO (fun k hk hx => h.own.ne_rowT h.rows (by decide) k hk hx)
  · simpa using hr
  · obtain ⟨B', e', h1, h2, h3⟩ := h.tsAt j hj
    exact ⟨B', e', h1, h2.only hO (fun k hk hx => h2.ne_rowT h.rows (by decide) k hk hx), fun k hk => .inl (h3 k hk)⟩
  · have hjl : j < t.lv.length := by simpa using hj
    obtain ⟨G0, e0, h1, h2, h3, h4, h5, h6⟩ := h.lvAt j hjl
    by_cases hji : i = j
    · subst hji
      simp only [List.getElem_set_self]
      refine ⟨G, e, by rw [List.getElem?_set_ne (by omega)]; exact h1, by rw [List.getElem?_set_ne (by omega)]; exact h2, by rw [List.getElem?_set_ne (by omega)]; exact h3, by rw [List.getElem?_set_self (by omega)], hG, fun k hk => .inr ⟨hGn k hk, hG.lt hk⟩⟩
    · simp only [List.getElem_set_ne hji]
      refine ⟨G0, e0, by rw [List.getElem?_set_ne (by omega)]; exact h1, by rw [List.getElem?_set_ne (by omega)]; exact h2, by rw [List.getElem?_set_ne (by omega)]; exact h3, by rw [List.getElem?_set_ne (by omega)]; exact h4, h5.only hO (fun k hk hx => h5.ne_rowT h.rows (by decide) k hk hx), fun k hk => .inl (h6 k hk)⟩
  · rcases hk with hk | hk
    · have := h.lt k hk; omega
    · exact hk.2
/-- the cell of a leaf's groups may be turned -/
theorem RTAt.slot {gR oR : Nat} (h : RTAt S w g t A c xs (some ⟨gR, oR, none⟩) d ys) {i : Nat} (hi : i < t.lv.length) {w5 : World} (hb : Below w.heap.size w w5) : ∃ v, w5.cell? ⟨gR, oR + i * 4 + 3, none⟩ = some v ∧ w5.frozen? ⟨gR, oR + i * 4 + 3, none⟩ = false := by
  obtain ⟨gR2, oR2, G, e, eR, -, -, -, c3, -, -, -⟩ := (h.ext hb).leaf hi
  injection eR with eR
  injection eR with e1 e2
  subst e1 e2
  exact ⟨_, c3, (h.ext hb).rows.free _⟩
theorem RTAt.regrouped {gR oR : Nat} (h : RTAt S w g t A c xs (some ⟨gR, oR, none⟩) d ys) {i : Nat} (hi : i < t.lv.length) {gs : List Nat} {G : Option Addr} {e n : Nat} {w5 : World} (hb : Below w.heap.size w w5) (hn : n = gs.length) (hG : RowO w5 3 1 G n e (gs.map natV)) (hGn : ∀ k, inA G k → w.heap.size ≤ k) :
    RowO (w5.setCell ⟨gR, oR + i * 4 + 3, none⟩ (.slice G n e)) 84 4 (some ⟨gR, oR, none⟩) t.lv.length d (ys.set (i * 4 + 3) (.slice G gs.length e)) ∧ RowO (w5.setCell ⟨gR, oR + i * 4 + 3, none⟩ (.slice G n e)) 3 1 G gs.length e (gs.map natV) ∧ Only (inA (some ⟨gR, oR, none⟩)) w (w5.setCell ⟨gR, oR + i * 4 + 3, none⟩ (.slice G n e)) := by
  subst hn
  have hyl : ys.length = t.lv.length * 4 := h.rows.1
  have hO : Only (inA (some ⟨gR, oR, none⟩)) w5 (w5.setCell ⟨gR, oR + i * 4 + 3, none⟩ (.slice G gs.length e)) := (Only.refl _ w5).setCell (p := ⟨gR, oR + i * 4 + 3, none⟩) (.inl (by rw [inA_some])) _
  refine ⟨?_, hG.only hO (fun k hk hx => hG.ne_rowT (h.rows.ext hb) (by decide) k hk hx), (Only.of_ext (S := inA (some ⟨gR, oR, none⟩)) hb).trans hO (fun _ _ h => h)⟩
  have := (h.rows.ext hb).set (i * 4 + 3) (by omega) (.slice G gs.length e)
  rwa [← Nat.add_assoc] at this
theorem RTAt.reput {gR oR gN oN : Nat} (h : RTAt S w g t A c xs (some ⟨gR, oR, none⟩) d ys) {i : Nat} (hi : i < t.lv.length) {gr : List Nat} {e id q : Nat} {w5 : World} (r1 : RowO w5 84 4 (some ⟨gR, oR, none⟩) t.lv.length d (ys.set (i * 4 + 3) (.slice (some ⟨gN, oN, none⟩) gr.length e)))
    (r2 : RowO w5 3 1 (some ⟨gN, oN, none⟩) gr.length e (gr.map natV)) (r3 : Only (inA (some ⟨gR, oR, none⟩)) w w5) (hq : q < gr.length) (hn : w.heap.size ≤ gN) :
    RTAt (grewS S w (w5.setCell ⟨gN, oN + q, none⟩ (natV id))) (w5.setCell ⟨gN, oN + q, none⟩ (natV id)) g ⟨t.ts, t.lv.set i ⟨t.lv[i].count, t.lv[i].a, t.lv[i].b, gr.set q id⟩⟩ A c xs (some ⟨gR, oR, none⟩) d (ys.set (i * 4 + 3) (.slice (some ⟨gN, oN, none⟩) (gr.set q id).length e)) ∧ Only S w (w5.setCell ⟨gN, oN + q, none⟩ (natV id)) := by
  have hO : Only (fun k => k = gN) w5 (w5.setCell ⟨gN, oN + q, none⟩ (natV id)) := (Only.refl (fun k => k = gN) w5).setCell (p := ⟨gN, oN + q, none⟩) (.inl rfl) _
  refine h.regroup hi (r3.setCell (p := ⟨gN, oN + q, none⟩) (.inr hn) _) ?_ ?_ (fun k hk => by rw [inA_some] at hk; omega)
  · rw [List.length_set]
    exact r1.only hO (fun k hk hx => r1.ne_rowT r2 (by decide) k hk (by rw [inA_some]; exact (show k = gN from hx).symm))
  · rw [List.length_set, List.map_set]
    exact r2.set q (by rw [List.length_map]; exact hq) (natV id)
end
/-! ### the most alike, as the reference counts -/
def bI (t : Tr) (gr : List Nat) (l : List Tok) (k : Nat) : Int := if k = 0 then -1 else ((likTo t gr l k).1 : Int)
def mI (t : Tr) (gr : List Nat) (l : List Tok) (k : Nat) : Int := if k = 0 then -1 else (likTo t gr l k).2
theorem bm_step {t : Tr} {gr : List Nat} {l : List Tok} {k : Nat} (h0 : 0 ≤ alikeI (tmpl t (gr.getD k 0)) l) :
    (mI t gr l k < alikeI (tmpl t (gr.getD k 0)) l → bI t gr l (k + 1) = (k : Int) ∧ mI t gr l (k + 1) = alikeI (tmpl t (gr.getD k 0)) l) ∧ (¬ mI t gr l k < alikeI (tmpl t (gr.getD k 0)) l → bI t gr l (k + 1) = bI t gr l k ∧ mI t gr l (k + 1) = mI t gr l k) := by
  unfold bI mI
  rw [if_neg (Nat.succ_ne_zero k), if_neg (Nat.succ_ne_zero k), likTo]
  by_cases hk : k = 0
  · subst hk
    rw [if_pos rfl, if_pos rfl]
    refine ⟨fun _ => ?_, fun h => absurd (by omega) h⟩
    by_cases h1 : (likTo t gr l 0).2 < alikeI (tmpl t (gr.getD 0 0)) l
    · rw [if_pos h1]; exact ⟨rfl, rfl⟩
    · rw [if_neg h1]
      have : (likTo t gr l 0).2 = 0 := rfl
      exact ⟨rfl, by rw [this] at h1 ⊢; omega⟩
  · rw [if_neg hk, if_neg hk]
    refine ⟨fun h => ?_, fun h => ?_⟩
    · rw [if_pos h]; exact ⟨rfl, rfl⟩
    · rw [if_neg h]; exact ⟨rfl, rfl⟩
end Go.Proofs.Ytdghbdiapkelnaa
