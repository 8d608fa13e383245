/-
  Texts of this claim, joined (part 11): contracts and lemmas that the last text goes by. No statement of the seat is proved here.
-/
import Derived.Test.YtmggajpecgnjkaaDoorAll10
import Derived.Test.YtmggajpecgnjkaaDoorAll5
import Derived.Test.YtmggajpecgnjkaaDoorAll8
import Derived.Test.YtmggajpecgnjkaaDoorAll1
set_option linter.unusedVariables false
set_option linter.unusedSimpArgs false
/-
  The contract of the program's begin. No statement of the seat is proved here.
-/
namespace Go.Proofs.YtmggajpecgnjkaaDoor
open Go Go.RowKit
set_option maxRecDepth 100000

theorem info_bool : (Tryd.prog.info? 4).map (fun i => (i.zero, i.size, i.bytes)) = some (some (.bool false), 1, 1) := by kernel_rfl
theorem make_bools (W : World) (n : Nat) (h : n ≤ 1000000) : (Instr.makeSlice 110 (.int .i64 (n : Int)) (.int .i64 (n : Int))).run Tryd.prog W =
    .ok (.slice (some ⟨W.heap.size, 0, none⟩) n n) (W.alloc (.cells (madeCells #[.bool false] (n * 1)) 4)) := by
  obtain ⟨i, hi, hz, hsz, hby⟩ := info_parts info_bool
  have hr := run_make (P := Tryd.prog) W 110 4 i _ Tryd.underlying110 hi hz .i64 .i64 (n : Int) (n : Int) (by omega) (by omega) (by rw [hby]; omega) (by omega)
  simp only [Int.toNat_natCast, hsz] at hr
  exact hr
theorem made_bools (n : Nat) : (madeCells #[.bool false] (n * 1)).toList = bools (List.replicate n false) := by
  unfold madeCells bools
  apply List.ext_getElem
  · simp
  · intro i h1 h2
    simp [Nat.mod_one]
theorem accN_end {M : List Pl} (h : M[0]? = some ⟨false, zeroB, []⟩) : ∀ m v, accN M m 0 v → v = []
  | 0, v, h1 => h1.2
  | m + 1, v, h1 => by
    rcases h1 with h1 | ⟨q, hq, ⟨ho, _⟩ | ⟨_, c, v', y, _, hb, _⟩⟩
    · exact h1.2
    · rw [h] at hq; injection hq with hq; subst hq; cases ho
    · rw [h] at hq; injection hq with hq; subst hq
      have := has_zero c
      rw [show hasB zeroB c = true from hb] at this
      cases this
theorem isE_small {t : Ex} (h : isE t = true) : oneE 1 t = true ∧ nodesE t ≤ 128 ∧ plE t ≤ 2100 := by
  simp only [isE, Bool.and_eq_true, decide_eq_true_eq] at h
  have := pl_weight t 1 h.1.1.1.1 (by omega)
  exact ⟨h.1.1.1.1, h.1.1.1.2, by omega⟩
/-- what begin leaves -/
def Begun (x : Ex) (w : World) (g : Nat) (M : List Pl) (s0 : Nat) (hs : List Nat) (rs : List Bool) (W' : World) : Prop :=
  Wk (fun b => w.heap.size ≤ b ∧ b < W'.heap.size) W' g M hs rs ∧ Below w.heap.size w W' ∧ OkM M ∧ M.length ≤ 1000000 ∧ 0 < M.length ∧ (∃ q, M[0]? = some q ∧ q.open_ = false) ∧ Cl M rs ∧ HereOk M hs rs ∧ Means M rs s0 [] ∧ hs.length + noL rs ≤ M.length ∧ ∀ u, acc M s0 u ↔ inE x u

set_option maxHeartbeats 16000000 in
theorem begin_any (x : Ex) (cs : List Value) (w : World) (hr : ReR (fun _ => True) w x cs) (hx : isE x = true) :
    Calls Tryd.prog 71 #[reV cs] w fun e W' => ∃ g M s0 hs rs, e = .returned (.pointer (some ⟨g, 0, none⟩)) ∧ Begun x w g M s0 hs rs W' := by
  obtain ⟨hx1, hx2, hx3⟩ := isE_small hx
  obtain ⟨k, q0, q1, q2, q3, ks, B, d, lo, hi, -, rfl, h1, h2, -, -, -, -, -⟩ := hr.fields
  unfold maxLen at h2
  obtain ⟨w1, hw1⟩ : ∃ w1, w1 = (w.alloc (.cells #[.int .i64 k, .int .u64 (q0 : Int), .int .u64 (q1 : Int), .int .u64 (q2 : Int), .int .u64 (q3 : Int), .slice B ks.length d, .int .i64 lo, .int .i64 hi] 27)).alloc (.cells #[.slice none 0 0, .slice none 0 0, .slice none 0 0, .slice none 0 0] 112) := ⟨_, rfl⟩
  have hb1 : Below w.heap.size w w1 := by rw [hw1]; exact ext2 w _ _
  have hs1 : w1.heap.size = w.heap.size + 1 + 1 := by rw [hw1]; simp
  have hBv : Blk w1 w.heap.size 27 #[.int .i64 k, .int .u64 (q0 : Int), .int .u64 (q1 : Int), .int .u64 (q2 : Int), .int .u64 (q3 : Int), .slice B ks.length d, .int .i64 lo, .int .i64 hi] := by rw [hw1]; exact (Blk.new w _ _).alloc _
  have hBg : Blk w1 (w.heap.size + 1) 112 #[.slice none 0 0, .slice none 0 0, .slice none 0 0, .slice none 0 0] := by
    rw [hw1]
    have := Blk.new (w.alloc (.cells #[.int .i64 k, .int .u64 (q0 : Int), .int .u64 (q1 : Int), .int .u64 (q2 : Int), .int .u64 (q3 : Int), .slice B ks.length d, .int .i64 lo, .int .i64 hi] 27)) 112 #[.slice none 0 0, .slice none 0 0, .slice none 0 0, .slice none 0 0]
    rwa [World.size_alloc] at this
  have hW1 : WA (fun _ => False) w1 (w.heap.size + 1) none 0 [] (.slice none 0 0) (.slice none 0 0) (.slice none 0 0) := ⟨hBg, RowP.none_ _ _, fun b hb => absurd hb (inA_none b), fun b hb => hb.elim⟩
  have hr1 : ReR (fun b => b < w.heap.size + 1) w1 x [.int .i64 k, .int .u64 (q0 : Int), .int .u64 (q1 : Int), .int .u64 (q2 : Int), .int .u64 (q3 : Int), .slice B ks.length d, .int .i64 lo, .int .i64 hi] := (hr.mono (T := fun b => b < w.heap.size + 1) (fun b _ hl => by omega)).ext hb1
  have hadd := add_wa hW1 ⟨false, zeroB, []⟩ [.bool false, .int .u64 0, .int .u64 0, .int .u64 0, .int .u64 0, .slice none 0 0] (plAt_set (a0 := 0) (a1 := 0) (a2 := 0) (a3 := 0) zero_ok (l := []) (d := 0) (Nat.le_refl _) (by simp [maxLen]) (.inl rfl)) (by simp)
  have Hadd := Lib.hid hadd
  have Hr1 := Lib.hid hr1
  have HBv := Lib.hid hBv
  have Hb1 := Lib.hid hb1
  have Hw1 := Lib.hid hw1
  have Hs1 := Lib.hid hs1
  clear hadd hr1 hBv hBg hb1 hw1 hs1 hW1 hr
  show Calls Tryd.prog 71 #[.agg #[.int .i64 k, .int .u64 (q0 : Int), .int .u64 (q1 : Int), .int .u64 (q2 : Int), .int .u64 (q3 : Int), .slice B ks.length d, .int .i64 lo, .int .i64 hi]] w _
  go_enter Tryd.func71, Tryd.ntmps71
  go_wp2_with fail
  rw [← Hw1.out]
  refine Hadd.out.mono ?_
  rintro e w2 ⟨rfl, A2, c2, hW2, hG2⟩
  have hs2 := hG2.1.size
  have hV2 := hG2.blk HBv.out (by omega) (inA_none _)
  have hr2 := hG2.re (fun b hb => absurd hb (inA_none b)) Hr1.out
  have HC : Hid (Calls Tryd.prog 89 #[.pointer (some ⟨w.heap.size + 1, 0, none⟩), .agg #[.int .i64 k, .int .u64 (q0 : Int), .int .u64 (q1 : Int), .int .u64 (q2 : Int), .int .u64 (q3 : Int), .slice B ks.length d, .int .i64 lo, .int .i64 hi], .int .i64 0] w2 (LayP (fun _ => False) w2 (w.heap.size + 1) A2 ([] ++ [(⟨false, zeroB, []⟩ : Pl)]) (.slice none 0 0) (.slice none 0 0) (.slice none 0 0) (plE x) (inE x) 0)) := Lib.hid (lay_any x 1 hx1 hx2 hx3 (fun _ => False) w2 (w.heap.size + 1) A2 c2 ([] ++ [(⟨false, zeroB, []⟩ : Pl)]) (.slice none 0 0) (.slice none 0 0) (.slice none 0 0) [.int .i64 k, .int .u64 (q0 : Int), .int .u64 (q1 : Int), .int .u64 (q2 : Int), .int .u64 (q3 : Int), .slice B ks.length d, .int .i64 lo, .int .i64 hi] 0 1 hW2 hr2 (by simp) (by have := qOf_ge 1; simp; omega) hx1)
  have HG2 := Lib.hid hG2
  have c0 := hV2.cell 0
  have c1' := hV2.cell 1
  have c2' := hV2.cell 2
  have c3 := hV2.cell 3
  have c4 := hV2.cell 4
  have c5 := hV2.cell 5
  have c6 := hV2.cell 6
  have c7 := hV2.cell 7
  have Hs2 := Lib.hid hs2
  clear hW2 hG2 hs2 hV2 hr2
  go_wp2_with fail
  refine HC.out.mono ?_
  rintro e w3 ⟨s0, A3, c3', N, rfl, hW3, hG3, hN3, hL3⟩
  obtain ⟨M, hM⟩ : ∃ M, [] ++ [(⟨false, zeroB, []⟩ : Pl)] ++ N = M := ⟨_, rfl⟩
  rw [hM] at hW3
  have hMl : M.length = 1 + N.length := by rw [← hM]; simp; omega
  have hM0 : M[0]? = some (⟨false, zeroB, []⟩ : Pl) := by rw [← hM]; simp
  have hMn : M.length ≤ 1000000 := by omega
  have hMi : (M.length : Int) ≤ 1000000 := by omega
  have hmk := fun W => make_bools W M.length hMn
  have x0 : w3.cell? ⟨w.heap.size + 1, 0, none⟩ = some (.slice A3 M.length c3') := hW3.1.cell 0
  have x3 : w3.cell? ⟨w.heap.size + 1, 3, none⟩ = some (.slice none 0 0) := hW3.1.cell 3
  have f3 : w3.frozen? ⟨w.heap.size + 1, 3, none⟩ = false := hW3.1.free 3
  have hs3 := hG3.1.size
  have hgl3 := hW3.1.lt
  obtain ⟨O1, hO1⟩ : ∃ O1, O1 = Obj.cells (madeCells #[.bool false] (M.length * 1)) 4 := ⟨_, rfl⟩
  have hmk' : ∀ W : World, (Instr.makeSlice 110 (.int .i64 (M.length : Int)) (.int .i64 (M.length : Int))).run Tryd.prog W = .ok (.slice (some ⟨W.heap.size, 0, none⟩) M.length M.length) (W.alloc O1) := by rw [hO1]; exact hmk
  obtain ⟨w4, hw4⟩ : ∃ w4, w4 = (w3.setCell ⟨w.heap.size + 1, 3, none⟩ (.slice (some ⟨w3.heap.size, 0, none⟩) M.length M.length)).alloc O1 := ⟨_, rfl⟩
  have hsz4 : w4.heap.size = w3.heap.size + 1 := by rw [hw4]; simp [World.setCell]
  have hOset : Only (fun b => b = w.heap.size + 1) w3 w4 := by rw [hw4]; exact ((Only.refl (fun b => b = w.heap.size + 1) w3).setCell (p := ⟨w.heap.size + 1, 3, none⟩) (.inl rfl) _).alloc _
  have hB4 : Blk w4 (w.heap.size + 1) 112 #[.slice A3 M.length c3', .slice none 0 0, .slice none 0 0, .slice (some ⟨w3.heap.size, 0, none⟩) M.length M.length] := by rw [hw4]; exact (hW3.1.put 3 _).alloc _
  have hR4 : RowO w4 4 1 (some ⟨w3.heap.size, 0, none⟩) M.length M.length (bools (List.replicate M.length false)) := by
    rw [hw4, hO1, ← made_bools]
    exact RowO.lit _ 4 1 M.length _ (by simp [madeCells]) (by unfold maxLen; omega) (by simp [World.setCell])
  have hlA3 := hW3.ltA
  have hrl : (List.replicate M.length false).length = M.length := by simp
  have hS4 : WkS (fun b => w.heap.size ≤ b ∧ b < w4.heap.size) (fun b => (False ∨ w2.heap.size ≤ b) ∧ b < w3.heap.size) w4 (w.heap.size + 1) M A3 c3' none 0 (.slice none 0 0) (some ⟨w3.heap.size, 0, none⟩) M.length [] (List.replicate M.length false) := by
    have hs2 := Hs2.out
    have hs1 := Hs1.out
    refine ⟨by rw [hrl]; exact hB4, ((hW3.2.1.mono (T := fun b => (False ∨ w2.heap.size ≤ b) ∧ b < w3.heap.size) (fun b hb hl => ⟨hb, hl⟩)).only hOset (fun b h1 h2 => by have := hW3.2.2.1 b h2; omega) (fun b h1 h2 => by have := h2.1; simp at this; omega)), RowO.none_ _ _ _, by rw [hrl]; exact hR4, hrl, fun b hb => ?_, fun b hb => absurd hb (inA_none b), fun b hb => ?_, ⟨by omega, by omega⟩, fun b hb => by have := hb.2; omega⟩
    · have hb2 : w.heap.size + 1 < b ∧ b < w3.heap.size := hb.elim (fun h => ⟨by have := h.1; simp at this; omega, h.2⟩) (fun h => ⟨hW3.2.2.1 b h, hlA3 b h⟩)
      exact ⟨⟨by omega, by omega⟩, by omega, inA_none b, fun hin => by have := (inA_some _ _ _ _).1 hin; omega⟩
    · have := (inA_some _ _ _ _).1 hb
      exact ⟨⟨by omega, by omega⟩, by omega⟩
  have hOkM : OkM M := fun q hq => by
    rw [← hM, List.mem_append] at hq
    rw [hMl]
    rcases hq with hq | hq
    · simp at hq
      subst hq
      exact ⟨fun y hy => (by cases hy), fun c hc => (by have h9 := has_zero c; rw [show hasB zeroB c = true from hc] at h9; cases h9), by simp, zero_ok⟩
    · have := hL3.ok q hq
      simpa using this
  have hs0 : s0 < M.length := by have := hL3.lt; rw [hMl]; simpa using this
  have hHE := enter_any M hOkM hMn (noL (List.replicate M.length false)) _ _ w4 (w.heap.size + 1) A3 c3' none 0 (.slice none 0 0) (some ⟨w3.heap.size, 0, none⟩) M.length s0 [] (List.replicate M.length false) (Nat.le_refl _) hS4 hs0 (by rw [noL_rep]; simpa using hMn)
  have HHE := Lib.hid hHE
  have hbel : Below w.heap.size w w4 := by
    have a1 : Below w.heap.size w w2 := Hb1.out.trans (HG2.out.1.below (fun i hi => hi.elim (fun h => by omega) (fun h => absurd h (inA_none i))) Hb1.out.size)
    have a2 : Below w.heap.size w w3 := a1.trans (hG3.1.below (fun i hi => hi.elim (fun h => by omega) (fun h => (HG2.out.2 i h).elim (fun h => absurd h (inA_none i)) (fun h => by have := Hs1.out; omega))) a1.size)
    exact a2.trans (hOset.below (fun i hi => by omega) a2.size)
  have Hbel := Lib.hid hbel
  have hLead := hL3.leads M (fun i hi => by
    rw [← hM]
    have e : ([] ++ [(⟨false, zeroB, []⟩ : Pl)] : List Pl).length = 1 := rfl
    rw [List.getElem?_append_right (by rw [e]; simp), e]
    simp)
  have HLead := Lib.hid hLead
  have HOkM := Lib.hid hOkM
  have HM0 := Lib.hid hM0
  have Hw4 := Lib.hid hw4
  have Hsz4 := Lib.hid hsz4
  clear hbel hLead hHE hS4 hR4 hB4 hOset hW3 hG3 hN3 hL3 hOkM hM0 hM hw4 hMl hmk c0 c1' c2' c3 c4 c5 c6 c7 HC hrl hlA3 hO1 hsz4
  go_wp2_with fail
  rw [← Hw4.out]
  refine HHE.out.mono ?_
  rintro e w5 ⟨⟨v, rfl⟩, A5, c5, hs5, rs5, hW5, hO5, hK5, hE5, hT5⟩
  have hstart := Means.start hE5 hT5
  have Hstart := Lib.hid hstart
  have HW5 := Lib.hid hW5
  have HO5 := Lib.hid hO5
  clear hW5 hO5 hK5 hE5 hT5 hstart HHE
  go_wp2
  go_ret
  obtain ⟨k1, k2, k3, k4, k5⟩ := Hstart.out
  have hsz5 := HO5.out.size
  refine ⟨w.heap.size + 1, M, s0, hs5, rs5, rfl, ⟨_, _, A3, c3', A5, c5, none, 0, 0, [], some ⟨w3.heap.size, 0, none⟩, M.length, HW5.out, RowO.none_ _ _ _, fun b hb => absurd hb (inA_none b), fun b h => h.elim (fun h => ⟨h.1, by have := h.2; omega⟩) (fun h => ⟨by have := Hbel.out.size; omega, h.2⟩)⟩, Hbel.out.trans (HO5.out.below (fun i hi => hi.1) Hbel.out.size), HOkM.out, hMn, by omega, ⟨_, HM0.out, rfl⟩, k1, k2, k3, k4, fun u => ⟨?_, fun h => ?_⟩⟩
  · rintro ⟨n, h⟩
    obtain ⟨a, v, m, _, rfl, ha, hv⟩ := HLead.out.1 n u h
    have := accN_end HM0.out m v hv
    subst this
    rw [List.append_nil]; exact ha
  · have := HLead.out.2 u [] h (acc_zero M)
    rwa [List.append_nil] at this
end Go.Proofs.YtmggajpecgnjkaaDoor

/-
  Contracts of the program's eachEnd, Ends, Longest, Match, Null. No statement of the seat is proved here.
-/
namespace Go.Proofs.YtmggajpecgnjkaaDoor
open Go Go.RowKit
set_option maxRecDepth 100000

/-- at which places ahead of place 'j' texts of 'P' end that begin at place 'a' -/
noncomputable def endsF (P : List Nat → Prop) (s : List Nat) (a j : Nat) : List Nat := (List.range' a (j - a)).filter fun i => @decide (P (sub s a i)) (Classical.propDecidable _)
theorem endsF_self (P : List Nat → Prop) (s : List Nat) (a : Nat) : endsF P s a a = [] := by unfold endsF; simp
theorem endsF_yes {P : List Nat → Prop} {s : List Nat} {a j : Nat} (hj : a ≤ j) (h : P (sub s a j)) : endsF P s a (j + 1) = endsF P s a j ++ [j] := by
  unfold endsF
  rw [show j + 1 - a = (j - a) + 1 by omega, List.range'_concat, List.filter_append]
  congr 1
  have : a + 1 * (j - a) = j := by omega
  rw [this]
  simp [h]
theorem endsF_no {P : List Nat → Prop} {s : List Nat} {a j : Nat} (hj : a ≤ j) (h : ¬ P (sub s a j)) : endsF P s a (j + 1) = endsF P s a j := by
  unfold endsF
  rw [show j + 1 - a = (j - a) + 1 by omega, List.range'_concat, List.filter_append]
  have : a + 1 * (j - a) = j := by omega
  rw [this]
  simp [h]
theorem endsF_rest {P : List Nat → Prop} {s : List Nat} {a j : Nat} (hj : a ≤ j) : ∀ n, (∀ i, j ≤ i → i < j + n → ¬ P (sub s a i)) → endsF P s a (j + n) = endsF P s a j
  | 0, _ => rfl
  | n + 1, h => by
    rw [← Nat.add_assoc, endsF_no (by omega) (h (j + n) (by omega) (by omega))]
    exact endsF_rest hj n (fun i h1 h2 => h i h1 (by omega))
theorem endsF_mem {P : List Nat → Prop} {s : List Nat} {a j i : Nat} : i ∈ endsF P s a j ↔ a ≤ i ∧ i < j ∧ P (sub s a i) := by
  unfold endsF
  rw [List.mem_filter, List.mem_range'_1]
  simp only [decide_eq_true_eq]
  constructor
  · rintro ⟨⟨h1, h2⟩, h3⟩; exact ⟨h1, by omega, h3⟩
  · rintro ⟨h1, h2, h3⟩; exact ⟨⟨h1, by omega⟩, h3⟩
/-- where texts of an expression end -/
noncomputable def endsI (x : Ex) (s : List Nat) (at_ : Int) : List Nat := if 0 ≤ at_ ∧ at_ ≤ (s.length : Int) ∧ isE x = true then endsF (inE x) s at_.toNat (s.length + 1) else []

/-- what is told: 'T told L W': this was told so far, and L are the teller's blocks -/
structure Teller (f : FuncId) (pc : Value) (T : List Nat → (Nat → Prop) → World → Prop) : Prop where
  call : ∀ told L W (j : Nat), T told L W → j ≤ 1000000 → told.length ≤ 1000000 → Calls Tryd.prog f #[.int .i64 (j : Int), pc] W fun e W' => (∃ v, e = .returned v) ∧ ∃ L', T (told ++ [j]) L' W' ∧ Only L W W' ∧ (∀ b, L' b → L b ∨ (W.heap.size ≤ b ∧ b < W'.heap.size))
  only : ∀ told L W W' (O : Nat → Prop), T told L W → Only O W W' → (∀ b, L b → ¬ O b) → T told L W'
  lt : ∀ told L W, T told L W → ∀ b, L b → b < W.heap.size
theorem endsF_len (P : List Nat → Prop) (s : List Nat) (a j : Nat) : (endsF P s a j).length ≤ j - a := by
  unfold endsF
  exact Nat.le_trans (List.length_filter_le _ _) (by simp)

set_option maxHeartbeats 16000000 in
theorem eachEnd_long (pc : Value) (T : List Nat → (Nat → Prop) → World → Prop) (hT : Teller 59 pc T) (x : Ex) (cs : List Value) (s : ByteArray) (at_ : Int) (w : World) (L : Nat → Prop) (ht : Tab w) (hr : ReR (fun _ => True) w x cs) (hs : s.size ≤ 1000000) (h0 : T [] L w) :
    Calls Tryd.prog 58 #[reV cs, .string s, .int .i64 at_, .func (.func 59) #[] #[pc]] w fun e W' => (∃ v, e = .returned v) ∧ ∃ L', T (endsI x (natsOf s) at_) L' W' ∧ Only L w W' := by
  obtain ⟨k, q0, q1, q2, q3, ks, B, d, lo, hi, -, rfl, h1, h2, -, -, -, -, -⟩ := hr.fields
  unfold maxLen at h2
  have hsi : (s.size : Int) ≤ 1000000 := by omega
  have hln := natsOf_len s
  have hb1 : Below w.heap.size w (w.alloc (Obj.cells #[.int .i64 k, .int .u64 (q0 : Int), .int .u64 (q1 : Int), .int .u64 (q2 : Int), .int .u64 (q3 : Int), .slice B ks.length d, .int .i64 lo, .int .i64 hi] 27)) := (Below.refl _ _).alloc (Nat.le_refl _) _
  have hT1 : T [] L (w.alloc (Obj.cells #[.int .i64 k, .int .u64 (q0 : Int), .int .u64 (q1 : Int), .int .u64 (q2 : Int), .int .u64 (q3 : Int), .slice B ks.length d, .int .i64 lo, .int .i64 hi] 27)) := hT.only [] L w _ (fun _ => False) h0 ((Only.refl _ _).alloc _) (fun _ _ h => h)
  have hO1 : Only L w (w.alloc (Obj.cells #[.int .i64 k, .int .u64 (q0 : Int), .int .u64 (q1 : Int), .int .u64 (q2 : Int), .int .u64 (q3 : Int), .slice B ks.length d, .int .i64 lo, .int .i64 hi] 27)) := (Only.refl _ _).alloc _
  have HT1 := Lib.hid hT1
  have HO1 := Lib.hid hO1
  have HIs := Lib.hid (pis_any (fun _ => True) x [.int .i64 k, .int .u64 (q0 : Int), .int .u64 (q1 : Int), .int .u64 (q2 : Int), .int .u64 (q3 : Int), .slice B ks.length d, .int .i64 lo, .int .i64 hi] (w.alloc (Obj.cells #[.int .i64 k, .int .u64 (q0 : Int), .int .u64 (q1 : Int), .int .u64 (q2 : Int), .int .u64 (q3 : Int), .slice B ks.length d, .int .i64 lo, .int .i64 hi] 27)) (ht.ext hb1) (hr.ext hb1))
  have Hr1 := Lib.hid (hr.ext hb1)
  have HBv := Lib.hid (Blk.new w 27 #[.int .i64 k, .int .u64 (q0 : Int), .int .u64 (q1 : Int), .int .u64 (q2 : Int), .int .u64 (q3 : Int), .slice B ks.length d, .int .i64 lo, .int .i64 hi])
  have Hlt0 := Lib.hid (hT.lt [] L w h0)
  clear ht hr hb1 hT1 hO1 h0
  show Calls Tryd.prog 58 #[.agg #[.int .i64 k, .int .u64 (q0 : Int), .int .u64 (q1 : Int), .int .u64 (q2 : Int), .int .u64 (q3 : Int), .slice B ks.length d, .int .i64 lo, .int .i64 hi], .string s, .int .i64 at_, .func (.func 59) #[] #[pc]] w _
  by_cases hneg : at_ < 0
  · have hE : endsI x (natsOf s) at_ = [] := by unfold endsI; rw [if_neg (by omega)]
    rw [hE]
    clear hE
    have g1 : decide (at_ < 0) = true := by simpa using hneg
    go_enter Tryd.func58, Tryd.ntmps58
    go_wp2
    first | go_end0 | refine bodyPost_ret (results_none rfl _ _ _) rfl ?_
    exact ⟨⟨_, rfl⟩, L, HT1.out, HO1.out⟩
  have g1 : decide (at_ < 0) = false := by simp; omega
  have g1' : 0 ≤ at_ := by omega
  by_cases hbig : (s.size : Int) < at_
  · have hE : endsI x (natsOf s) at_ = [] := by unfold endsI; rw [if_neg (by rw [hln]; omega)]
    rw [hE]
    clear hE hneg
    have g2 : decide ((s.size : Int) < at_) = true := by simpa using hbig
    go_enter Tryd.func58, Tryd.ntmps58
    go_wp2
    first | go_end0 | refine bodyPost_ret (results_none rfl _ _ _) rfl ?_
    exact ⟨⟨_, rfl⟩, L, HT1.out, HO1.out⟩
  obtain ⟨a, rfl⟩ : ∃ a : Nat, at_ = (a : Int) := ⟨at_.toNat, by omega⟩
  have has : a ≤ s.size := by omega
  have g2 : decide ((s.size : Int) < (a : Int)) = false := by simp; omega
  have g3 : (a : Int) ≤ (s.size : Int) := by omega
  clear hneg hbig g1 g1'
  obtain ⟨I, hI⟩ : ∃ I, isE x = I := ⟨_, rfl⟩
  rw [hI] at HIs
  have HI := Lib.hid hI
  clear hI
  go_enter Tryd.func58, Tryd.ntmps58
  go_wp2_with fail
  refine HIs.out.mono ?_
  rintro e w2 ⟨rfl, hb2⟩
  have HT2 := Lib.hid (hT.only [] L _ w2 (fun _ => False) HT1.out (Only.of_ext hb2) (fun _ _ h => h))
  have HO2 : Hid (Only L w w2) := Lib.hid (HO1.out.trans (Only.of_ext (S := L) hb2) (fun _ _ h => h))
  have Hr2 := Lib.hid (Hr1.out.ext hb2)
  have hV2 := HBv.out.ext hb2
  have hsz2 := HO2.out.size
  clear hb2 HIs
  cases I with
  | false =>
    have hE : endsI x (natsOf s) (a : Int) = [] := by unfold endsI; rw [if_neg (by rw [HI.out]; simp)]
    go_wp2
    first | go_end0 | refine bodyPost_ret (results_none rfl _ _ _) rfl ?_
    rw [hE]
    exact ⟨⟨_, rfl⟩, L, HT2.out, HO2.out⟩
  | true =>
    have hE : endsI x (natsOf s) (a : Int) = endsF (inE x) (natsOf s) a (s.size + 1) := by
      unfold endsI
      rw [if_pos ⟨by omega, by rw [hln]; omega, HI.out⟩, hln]
      rfl
    have HE := Lib.hid hE
    have HBg := Lib.hid (begin_any x [.int .i64 k, .int .u64 (q0 : Int), .int .u64 (q1 : Int), .int .u64 (q2 : Int), .int .u64 (q3 : Int), .slice B ks.length d, .int .i64 lo, .int .i64 hi] w2 Hr2.out HI.out)
    have c0 := hV2.cell 0
    have c1 := hV2.cell 1
    have c2 := hV2.cell 2
    have c3 := hV2.cell 3
    have c4 := hV2.cell 4
    have c5 := hV2.cell 5
    have c6 := hV2.cell 6
    have c7 := hV2.cell 7
    clear hE hV2
    go_wp2_with fail
    refine HBg.out.mono ?_
    rintro e w3 ⟨g, M, s0, hs0, rs0, rfl, hWk, hb3, hOkM, hMn, h0M, hM0, hCl, hHe, hMe, hcn, hacc⟩
    have hln' := hln
    obtain ⟨S, hS⟩ : ∃ S, natsOf s = S := ⟨_, rfl⟩
    have hSl : S.length = s.size := by rw [← hS]; exact hln'
    have HT3 := Lib.hid (hT.only [] L w2 w3 (fun _ => False) HT2.out (Only.of_ext hb3) (fun _ _ h => h))
    have HO3 : Hid (Only L w w3) := Lib.hid (HO2.out.trans (Only.of_ext (S := L) hb3) (fun _ _ h => h))
    have HWk := Lib.hid hWk
    have HOkM := Lib.hid hOkM
    have HM0 := Lib.hid hM0
    have HCl := Lib.hid hCl
    have HHe := Lib.hid hHe
    have HMe := Lib.hid hMe
    have Hcn := Lib.hid hcn
    have Hacc := Lib.hid hacc
    have HSl := Lib.hid hSl
    have HS := Lib.hid hS
    have hlt3 := Hlt0.out
    have Hlt3 := Lib.hid hlt3
    clear hWk hb3 hOkM hM0 hCl hHe hMe hcn hacc c0 c1 c2 c3 c4 c5 c6 c7 HBg hlt3 hS hSl hln hln' HT1 HT2
    go_wp2
    go_loopw [2] (fun av wr => ∃ (j : Nat) (hs : List Nat) (rs : List Bool) (O L1 : Nat → Prop), av = .int .i64 (j : Int) ∧ a ≤ j ∧ j ≤ s.size ∧ Hid (Wk O wr g M hs rs) ∧ Hid (∀ b, O b → w.heap.size ≤ b ∧ b < wr.heap.size) ∧ Hid (Cl M rs) ∧ Hid (HereOk M hs rs) ∧ Hid (Means M rs s0 (sub S a j)) ∧ Hid (hs.length + noL rs ≤ M.length) ∧ Hid (T (endsF (inE x) S a j) L1 wr) ∧ Hid (∀ b, L1 b → ¬ O b ∧ (L b ∨ w.heap.size ≤ b)) ∧ Hid (Only L w wr)) (fun av _ => s.size + 1 - (intOf av).toNat)
    case atStart => exact ⟨a, hs0, rs0, _, L, rfl, Nat.le_refl _, has, HWk, Lib.hid (fun b h => ⟨by have := h.1; omega, h.2⟩), HCl, HHe, Lib.hid (by rw [sub_self]; exact HMe.out), Hcn, Lib.hid (by rw [endsF_self]; exact HT3.out), Lib.hid (fun b h => ⟨fun h2 => by have := Hlt3.out b h; omega, .inl h⟩), HO3⟩
    case round =>
      clear HT3 HO3 HWk HCl HHe HMe Hcn
      obtain ⟨j, hs, rs, O, L1, rfl, haj, hjs, HWk, HOb, HCl, HHe, HMe, Hcn, HT, HLO, HOn⟩ := hrel
      have hwk := HWk.out
      obtain ⟨O1, F, A, c, Ah, ch, As, ns, cs, xs, Ar, cr, hWS, -, -, -⟩ := hwk
      have HWS := Lib.hid hWS
      clear hWS
      go_wp2_with fail
      refine (lost_any _ _ wr g M _ _ _ _ _ _ _ hs rs HWS.out).mono ?_
      rintro e w5 ⟨rfl, rfl⟩
      rcases Nat.eq_zero_or_pos hs.length with hl0 | hl0
      · have hnil : hs = [] := List.eq_nil_of_length_eq_zero hl0
        subst hnil
        have hfin : endsF (inE x) S a (s.size + 1) = endsF (inE x) S a j := by
          have := endsF_rest (P := inE x) (s := S) haj (s.size + 1 - j) (fun i h1 h2 h3 => by
            have h4 := (Hacc.out _).2 h3
            rw [sub_append haj h1 (by rw [HSl.out]; omega)] at h4
            exact HMe.out.lost HCl.out HHe.out HM0.out _ h4)
          rw [show j + (s.size + 1 - j) = s.size + 1 by omega] at this
          exact this
        go_wp2
        first | go_end0 | refine bodyPost_ret (results_none rfl _ _ _) rfl ?_
        rw [HE.out, HS.out, hfin]
        exact ⟨⟨_, rfl⟩, L1, HT.out, HOn.out⟩
      · have hld : decide (hs.length = 0) = false := decide_eq_false (by omega)
        rw [hld]
        clear hld
        go_wp2_with fail
        refine (done_any _ _ w5 g M _ _ _ _ _ _ _ hs rs HWS.out h0M).mono ?_
        rintro e w6 ⟨rfl, rfl⟩
        have hdone := HMe.out.done HCl.out
        rw [Hacc.out] at hdone
        have hpcs : hs.length ≤ M.length := by have := Hcn.out; omega
        by_cases hd : tr rs 0
        · have hdd : decide (tr rs 0) = true := by simpa using hd
          have hin := hdone.1 hd
          have Hin := Lib.hid hin
          rw [hdd]
          have hCt := hT.call (endsF (inE x) S a j) L1 w6 j HT.out (by omega) (by have := endsF_len (inE x) S a j; omega)
          have HCt := Lib.hid hCt
          clear hdd hd hdone hin hCt
          go_wp2_with fail
          refine HCt.out.mono ?_
          rintro e w7 ⟨⟨v, rfl⟩, L2, hT2, hO2, hL2⟩
          have HWk7 := Lib.hid (HWk.out.only hO2 (fun b h => (HLO.out b h).1))
          have HT7 : Hid (T (endsF (inE x) S a (j + 1)) L2 w7) := Lib.hid (by rw [endsF_yes haj Hin.out]; exact hT2)
          have hsz7 := hO2.size
          have HOn7 : Hid (Only L w w7) := Lib.hid (HOn.out.trans hO2 (fun b hb h => ((HLO.out b h).2).elim id (fun h => by omega)))
          have HLO7 : Hid (∀ b, L2 b → ¬ O b ∧ (L b ∨ w.heap.size ≤ b)) := Lib.hid (fun b h => (hL2 b h).elim (HLO.out b) (fun h => ⟨fun h2 => by have := (HOb.out b h2).2; omega, .inr (by have := HOn.out.size; omega)⟩))
          have HOb7 : Hid (∀ b, O b → w.heap.size ≤ b ∧ b < w7.heap.size) := Lib.hid (fun b h => ⟨(HOb.out b h).1, by have := (HOb.out b h).2; omega⟩)
          clear hT2 hO2 hL2 HCt HWk HT HOn HLO HOb
          rcases Nat.lt_or_ge j s.size with hlt | hge
          · have hji : (j : Int) < (s.size : Int) := by omega
            have hne : ((j : Int) == (s.size : Int)) = false := by simp; omega
            have hne2 : decide ((j : Int) = (s.size : Int)) = false := by simp; omega
            have hne3 : (j == s.size) = false := by simp; omega
            have hne4 : decide (j = s.size) = false := by simp; omega
            have hne5 : ¬ j = s.size := by omega
            obtain ⟨cc, hcc⟩ : ∃ cc, (s[j]'hlt).toNat = cc := ⟨_, rfl⟩
            have hc256 : cc < 256 := by rw [← hcc]; exact (s[j]'hlt).toNat_lt
            have hSj : sub S a j ++ [cc] = sub S a (j + 1) := by
              have hjl : j < S.length := by rw [HSl.out]; exact hlt
              rw [sub_append (i := a) (j := j) (k := j + 1) haj (by omega) (by omega), sub_one hjl]
              congr 2
              rw [← hcc]
              have := natsOf_at s j hlt
              simp only [HS.out] at this
              exact this.symm
            have HSj := Lib.hid hSj
            have HC := Lib.hid (step_any M HOkM.out hMn h0M O w7 g hs rs cc hc256 HWk7.out HHe.out hpcs)
            clear hSj
            go_wp2_with fail
            refine HC.out.mono ?_
            rintro e w8 ⟨⟨v, rfl⟩, hs', rs', hWk8, hO8, hS8⟩
            have hsz8 := hO8.size
            have HWk8 := Lib.hid hWk8
            have HS8 := Lib.hid hS8
            have HT8 := Lib.hid (hT.only _ L2 w7 w8 O HT7.out hO8 (fun b h => (HLO7.out b h).1))
            have HOn8 : Hid (Only L w w8) := Lib.hid (HOn7.out.trans hO8 (fun b hb h => by have := (HOb7.out b h).1; omega))
            have hlt7 := hT.lt _ L2 w7 HT7.out
            have Hlt7 := Lib.hid hlt7
            clear hWk8 hO8 hS8 HC hlt7
            go_wp2
            go_roundw
            case rel => exact ⟨j + 1, hs', rs', _, L2, by simp, by omega, by omega, HWk8, Lib.hid (fun b h => h.elim (fun h => ⟨(HOb7.out b h).1, by have := (HOb7.out b h).2; omega⟩) (fun h => ⟨by have := HOn7.out.size; have := h.1; omega, h.2⟩)), Lib.hid HS8.out.cl, Lib.hid HS8.out.here, Lib.hid (by rw [← HSj.out]; exact HMe.out.step HCl.out HHe.out HS8.out), Lib.hid HS8.out.count, HT8, Lib.hid (fun b h => ⟨fun h2 => h2.elim (HLO7.out b h).1 (fun h2 => by have := Hlt7.out b h; omega), (HLO7.out b h).2⟩), HOn8⟩
            case measure => simp [intOf]; omega
          · obtain rfl : j = s.size := by omega
            go_wp2
            first | go_end0 | refine bodyPost_ret (results_none rfl _ _ _) rfl ?_
            rw [HE.out, HS.out]
            exact ⟨⟨_, rfl⟩, L2, HT7.out, HOn7.out⟩
        · have hdd : decide (tr rs 0) = false := by simpa using hd
          have hin : ¬ inE x (sub S a j) := fun h => hd (hdone.2 h)
          rw [hdd]
          obtain ⟨w7, hw7⟩ : ∃ w7, w7 = w6 := ⟨_, rfl⟩
          subst hw7
          have HWk7 := HWk
          have HT7 : Hid (T (endsF (inE x) S a (j + 1)) L1 w7) := Lib.hid (by rw [endsF_no haj hin]; exact HT.out)
          have HOn7 := HOn
          have HLO7 := HLO
          have HOb7 := HOb
          clear hdd hd hdone hin HWk HT HOn HLO HOb
          obtain ⟨L2, hL2⟩ : ∃ L2, L2 = L1 := ⟨_, rfl⟩
          subst hL2
          rcases Nat.lt_or_ge j s.size with hlt | hge
          · have hji : (j : Int) < (s.size : Int) := by omega
            have hne : ((j : Int) == (s.size : Int)) = false := by simp; omega
            have hne2 : decide ((j : Int) = (s.size : Int)) = false := by simp; omega
            have hne3 : (j == s.size) = false := by simp; omega
            have hne4 : decide (j = s.size) = false := by simp; omega
            have hne5 : ¬ j = s.size := by omega
            obtain ⟨cc, hcc⟩ : ∃ cc, (s[j]'hlt).toNat = cc := ⟨_, rfl⟩
            have hc256 : cc < 256 := by rw [← hcc]; exact (s[j]'hlt).toNat_lt
            have hSj : sub S a j ++ [cc] = sub S a (j + 1) := by
              have hjl : j < S.length := by rw [HSl.out]; exact hlt
              rw [sub_append (i := a) (j := j) (k := j + 1) haj (by omega) (by omega), sub_one hjl]
              congr 2
              rw [← hcc]
              have := natsOf_at s j hlt
              simp only [HS.out] at this
              exact this.symm
            have HSj := Lib.hid hSj
            have HC := Lib.hid (step_any M HOkM.out hMn h0M O w7 g hs rs cc hc256 HWk7.out HHe.out hpcs)
            clear hSj
            go_wp2_with fail
            refine HC.out.mono ?_
            rintro e w8 ⟨⟨v, rfl⟩, hs', rs', hWk8, hO8, hS8⟩
            have hsz8 := hO8.size
            have HWk8 := Lib.hid hWk8
            have HS8 := Lib.hid hS8
            have HT8 := Lib.hid (hT.only _ L2 w7 w8 O HT7.out hO8 (fun b h => (HLO7.out b h).1))
            have HOn8 : Hid (Only L w w8) := Lib.hid (HOn7.out.trans hO8 (fun b hb h => by have := (HOb7.out b h).1; omega))
            have hlt7 := hT.lt _ L2 w7 HT7.out
            have Hlt7 := Lib.hid hlt7
            clear hWk8 hO8 hS8 HC hlt7
            go_wp2
            go_roundw
            case rel => exact ⟨j + 1, hs', rs', _, L2, by simp, by omega, by omega, HWk8, Lib.hid (fun b h => h.elim (fun h => ⟨(HOb7.out b h).1, by have := (HOb7.out b h).2; omega⟩) (fun h => ⟨by have := HOn7.out.size; have := h.1; omega, h.2⟩)), Lib.hid HS8.out.cl, Lib.hid HS8.out.here, Lib.hid (by rw [← HSj.out]; exact HMe.out.step HCl.out HHe.out HS8.out), Lib.hid HS8.out.count, HT8, Lib.hid (fun b h => ⟨fun h2 => h2.elim (HLO7.out b h).1 (fun h2 => by have := Hlt7.out b h; omega), (HLO7.out b h).2⟩), HOn8⟩
            case measure => simp [intOf]; omega
          · obtain rfl : j = s.size := by omega
            go_wp2
            first | go_end0 | refine bodyPost_ret (results_none rfl _ _ _) rfl ?_
            rw [HE.out, HS.out]
            exact ⟨⟨_, rfl⟩, L2, HT7.out, HOn7.out⟩

set_option maxHeartbeats 16000000 in
theorem eachEnd_ends (pc : Value) (T : List Nat → (Nat → Prop) → World → Prop) (hT : Teller 60 pc T) (x : Ex) (cs : List Value) (s : ByteArray) (at_ : Int) (w : World) (L : Nat → Prop) (ht : Tab w) (hr : ReR (fun _ => True) w x cs) (hs : s.size ≤ 1000000) (h0 : T [] L w) :
    Calls Tryd.prog 58 #[reV cs, .string s, .int .i64 at_, .func (.func 60) #[] #[pc]] w fun e W' => (∃ v, e = .returned v) ∧ ∃ L', T (endsI x (natsOf s) at_) L' W' ∧ Only L w W' := by
  obtain ⟨k, q0, q1, q2, q3, ks, B, d, lo, hi, -, rfl, h1, h2, -, -, -, -, -⟩ := hr.fields
  unfold maxLen at h2
  have hsi : (s.size : Int) ≤ 1000000 := by omega
  have hln := natsOf_len s
  have hb1 : Below w.heap.size w (w.alloc (Obj.cells #[.int .i64 k, .int .u64 (q0 : Int), .int .u64 (q1 : Int), .int .u64 (q2 : Int), .int .u64 (q3 : Int), .slice B ks.length d, .int .i64 lo, .int .i64 hi] 27)) := (Below.refl _ _).alloc (Nat.le_refl _) _
  have hT1 : T [] L (w.alloc (Obj.cells #[.int .i64 k, .int .u64 (q0 : Int), .int .u64 (q1 : Int), .int .u64 (q2 : Int), .int .u64 (q3 : Int), .slice B ks.length d, .int .i64 lo, .int .i64 hi] 27)) := hT.only [] L w _ (fun _ => False) h0 ((Only.refl _ _).alloc _) (fun _ _ h => h)
  have hO1 : Only L w (w.alloc (Obj.cells #[.int .i64 k, .int .u64 (q0 : Int), .int .u64 (q1 : Int), .int .u64 (q2 : Int), .int .u64 (q3 : Int), .slice B ks.length d, .int .i64 lo, .int .i64 hi] 27)) := (Only.refl _ _).alloc _
  have HT1 := Lib.hid hT1
  have HO1 := Lib.hid hO1
  have HIs := Lib.hid (pis_any (fun _ => True) x [.int .i64 k, .int .u64 (q0 : Int), .int .u64 (q1 : Int), .int .u64 (q2 : Int), .int .u64 (q3 : Int), .slice B ks.length d, .int .i64 lo, .int .i64 hi] (w.alloc (Obj.cells #[.int .i64 k, .int .u64 (q0 : Int), .int .u64 (q1 : Int), .int .u64 (q2 : Int), .int .u64 (q3 : Int), .slice B ks.length d, .int .i64 lo, .int .i64 hi] 27)) (ht.ext hb1) (hr.ext hb1))
  have Hr1 := Lib.hid (hr.ext hb1)
  have HBv := Lib.hid (Blk.new w 27 #[.int .i64 k, .int .u64 (q0 : Int), .int .u64 (q1 : Int), .int .u64 (q2 : Int), .int .u64 (q3 : Int), .slice B ks.length d, .int .i64 lo, .int .i64 hi])
  have Hlt0 := Lib.hid (hT.lt [] L w h0)
  clear ht hr hb1 hT1 hO1 h0
  show Calls Tryd.prog 58 #[.agg #[.int .i64 k, .int .u64 (q0 : Int), .int .u64 (q1 : Int), .int .u64 (q2 : Int), .int .u64 (q3 : Int), .slice B ks.length d, .int .i64 lo, .int .i64 hi], .string s, .int .i64 at_, .func (.func 60) #[] #[pc]] w _
  by_cases hneg : at_ < 0
  · have hE : endsI x (natsOf s) at_ = [] := by unfold endsI; rw [if_neg (by omega)]
    rw [hE]
    clear hE
    have g1 : decide (at_ < 0) = true := by simpa using hneg
    go_enter Tryd.func58, Tryd.ntmps58
    go_wp2
    first | go_end0 | refine bodyPost_ret (results_none rfl _ _ _) rfl ?_
    exact ⟨⟨_, rfl⟩, L, HT1.out, HO1.out⟩
  have g1 : decide (at_ < 0) = false := by simp; omega
  have g1' : 0 ≤ at_ := by omega
  by_cases hbig : (s.size : Int) < at_
  · have hE : endsI x (natsOf s) at_ = [] := by unfold endsI; rw [if_neg (by rw [hln]; omega)]
    rw [hE]
    clear hE hneg
    have g2 : decide ((s.size : Int) < at_) = true := by simpa using hbig
    go_enter Tryd.func58, Tryd.ntmps58
    go_wp2
    first | go_end0 | refine bodyPost_ret (results_none rfl _ _ _) rfl ?_
    exact ⟨⟨_, rfl⟩, L, HT1.out, HO1.out⟩
  obtain ⟨a, rfl⟩ : ∃ a : Nat, at_ = (a : Int) := ⟨at_.toNat, by omega⟩
  have has : a ≤ s.size := by omega
  have g2 : decide ((s.size : Int) < (a : Int)) = false := by simp; omega
  have g3 : (a : Int) ≤ (s.size : Int) := by omega
  clear hneg hbig g1 g1'
  obtain ⟨I, hI⟩ : ∃ I, isE x = I := ⟨_, rfl⟩
  rw [hI] at HIs
  have HI := Lib.hid hI
  clear hI
  go_enter Tryd.func58, Tryd.ntmps58
  go_wp2_with fail
  refine HIs.out.mono ?_
  rintro e w2 ⟨rfl, hb2⟩
  have HT2 := Lib.hid (hT.only [] L _ w2 (fun _ => False) HT1.out (Only.of_ext hb2) (fun _ _ h => h))
  have HO2 : Hid (Only L w w2) := Lib.hid (HO1.out.trans (Only.of_ext (S := L) hb2) (fun _ _ h => h))
  have Hr2 := Lib.hid (Hr1.out.ext hb2)
  have hV2 := HBv.out.ext hb2
  have hsz2 := HO2.out.size
  clear hb2 HIs
  cases I with
  | false =>
    have hE : endsI x (natsOf s) (a : Int) = [] := by unfold endsI; rw [if_neg (by rw [HI.out]; simp)]
    go_wp2
    first | go_end0 | refine bodyPost_ret (results_none rfl _ _ _) rfl ?_
    rw [hE]
    exact ⟨⟨_, rfl⟩, L, HT2.out, HO2.out⟩
  | true =>
    have hE : endsI x (natsOf s) (a : Int) = endsF (inE x) (natsOf s) a (s.size + 1) := by
      unfold endsI
      rw [if_pos ⟨by omega, by rw [hln]; omega, HI.out⟩, hln]
      rfl
    have HE := Lib.hid hE
    have HBg := Lib.hid (begin_any x [.int .i64 k, .int .u64 (q0 : Int), .int .u64 (q1 : Int), .int .u64 (q2 : Int), .int .u64 (q3 : Int), .slice B ks.length d, .int .i64 lo, .int .i64 hi] w2 Hr2.out HI.out)
    have c0 := hV2.cell 0
    have c1 := hV2.cell 1
    have c2 := hV2.cell 2
    have c3 := hV2.cell 3
    have c4 := hV2.cell 4
    have c5 := hV2.cell 5
    have c6 := hV2.cell 6
    have c7 := hV2.cell 7
    clear hE hV2
    go_wp2_with fail
    refine HBg.out.mono ?_
    rintro e w3 ⟨g, M, s0, hs0, rs0, rfl, hWk, hb3, hOkM, hMn, h0M, hM0, hCl, hHe, hMe, hcn, hacc⟩
    have hln' := hln
    obtain ⟨S, hS⟩ : ∃ S, natsOf s = S := ⟨_, rfl⟩
    have hSl : S.length = s.size := by rw [← hS]; exact hln'
    have HT3 := Lib.hid (hT.only [] L w2 w3 (fun _ => False) HT2.out (Only.of_ext hb3) (fun _ _ h => h))
    have HO3 : Hid (Only L w w3) := Lib.hid (HO2.out.trans (Only.of_ext (S := L) hb3) (fun _ _ h => h))
    have HWk := Lib.hid hWk
    have HOkM := Lib.hid hOkM
    have HM0 := Lib.hid hM0
    have HCl := Lib.hid hCl
    have HHe := Lib.hid hHe
    have HMe := Lib.hid hMe
    have Hcn := Lib.hid hcn
    have Hacc := Lib.hid hacc
    have HSl := Lib.hid hSl
    have HS := Lib.hid hS
    have hlt3 := Hlt0.out
    have Hlt3 := Lib.hid hlt3
    clear hWk hb3 hOkM hM0 hCl hHe hMe hcn hacc c0 c1 c2 c3 c4 c5 c6 c7 HBg hlt3 hS hSl hln hln' HT1 HT2
    go_wp2
    go_loopw [2] (fun av wr => ∃ (j : Nat) (hs : List Nat) (rs : List Bool) (O L1 : Nat → Prop), av = .int .i64 (j : Int) ∧ a ≤ j ∧ j ≤ s.size ∧ Hid (Wk O wr g M hs rs) ∧ Hid (∀ b, O b → w.heap.size ≤ b ∧ b < wr.heap.size) ∧ Hid (Cl M rs) ∧ Hid (HereOk M hs rs) ∧ Hid (Means M rs s0 (sub S a j)) ∧ Hid (hs.length + noL rs ≤ M.length) ∧ Hid (T (endsF (inE x) S a j) L1 wr) ∧ Hid (∀ b, L1 b → ¬ O b ∧ (L b ∨ w.heap.size ≤ b)) ∧ Hid (Only L w wr)) (fun av _ => s.size + 1 - (intOf av).toNat)
    case atStart => exact ⟨a, hs0, rs0, _, L, rfl, Nat.le_refl _, has, HWk, Lib.hid (fun b h => ⟨by have := h.1; omega, h.2⟩), HCl, HHe, Lib.hid (by rw [sub_self]; exact HMe.out), Hcn, Lib.hid (by rw [endsF_self]; exact HT3.out), Lib.hid (fun b h => ⟨fun h2 => by have := Hlt3.out b h; omega, .inl h⟩), HO3⟩
    case round =>
      clear HT3 HO3 HWk HCl HHe HMe Hcn
      obtain ⟨j, hs, rs, O, L1, rfl, haj, hjs, HWk, HOb, HCl, HHe, HMe, Hcn, HT, HLO, HOn⟩ := hrel
      have hwk := HWk.out
      obtain ⟨O1, F, A, c, Ah, ch, As, ns, cs, xs, Ar, cr, hWS, -, -, -⟩ := hwk
      have HWS := Lib.hid hWS
      clear hWS
      go_wp2_with fail
      refine (lost_any _ _ wr g M _ _ _ _ _ _ _ hs rs HWS.out).mono ?_
      rintro e w5 ⟨rfl, rfl⟩
      rcases Nat.eq_zero_or_pos hs.length with hl0 | hl0
      · have hnil : hs = [] := List.eq_nil_of_length_eq_zero hl0
        subst hnil
        have hfin : endsF (inE x) S a (s.size + 1) = endsF (inE x) S a j := by
          have := endsF_rest (P := inE x) (s := S) haj (s.size + 1 - j) (fun i h1 h2 h3 => by
            have h4 := (Hacc.out _).2 h3
            rw [sub_append haj h1 (by rw [HSl.out]; omega)] at h4
            exact HMe.out.lost HCl.out HHe.out HM0.out _ h4)
          rw [show j + (s.size + 1 - j) = s.size + 1 by omega] at this
          exact this
        go_wp2
        first | go_end0 | refine bodyPost_ret (results_none rfl _ _ _) rfl ?_
        rw [HE.out, HS.out, hfin]
        exact ⟨⟨_, rfl⟩, L1, HT.out, HOn.out⟩
      · have hld : decide (hs.length = 0) = false := decide_eq_false (by omega)
        rw [hld]
        clear hld
        go_wp2_with fail
        refine (done_any _ _ w5 g M _ _ _ _ _ _ _ hs rs HWS.out h0M).mono ?_
        rintro e w6 ⟨rfl, rfl⟩
        have hdone := HMe.out.done HCl.out
        rw [Hacc.out] at hdone
        have hpcs : hs.length ≤ M.length := by have := Hcn.out; omega
        by_cases hd : tr rs 0
        · have hdd : decide (tr rs 0) = true := by simpa using hd
          have hin := hdone.1 hd
          have Hin := Lib.hid hin
          rw [hdd]
          have hCt := hT.call (endsF (inE x) S a j) L1 w6 j HT.out (by omega) (by have := endsF_len (inE x) S a j; omega)
          have HCt := Lib.hid hCt
          clear hdd hd hdone hin hCt
          go_wp2_with fail
          refine HCt.out.mono ?_
          rintro e w7 ⟨⟨v, rfl⟩, L2, hT2, hO2, hL2⟩
          have HWk7 := Lib.hid (HWk.out.only hO2 (fun b h => (HLO.out b h).1))
          have HT7 : Hid (T (endsF (inE x) S a (j + 1)) L2 w7) := Lib.hid (by rw [endsF_yes haj Hin.out]; exact hT2)
          have hsz7 := hO2.size
          have HOn7 : Hid (Only L w w7) := Lib.hid (HOn.out.trans hO2 (fun b hb h => ((HLO.out b h).2).elim id (fun h => by omega)))
          have HLO7 : Hid (∀ b, L2 b → ¬ O b ∧ (L b ∨ w.heap.size ≤ b)) := Lib.hid (fun b h => (hL2 b h).elim (HLO.out b) (fun h => ⟨fun h2 => by have := (HOb.out b h2).2; omega, .inr (by have := HOn.out.size; omega)⟩))
          have HOb7 : Hid (∀ b, O b → w.heap.size ≤ b ∧ b < w7.heap.size) := Lib.hid (fun b h => ⟨(HOb.out b h).1, by have := (HOb.out b h).2; omega⟩)
          clear hT2 hO2 hL2 HCt HWk HT HOn HLO HOb
          rcases Nat.lt_or_ge j s.size with hlt | hge
          · have hji : (j : Int) < (s.size : Int) := by omega
            have hne : ((j : Int) == (s.size : Int)) = false := by simp; omega
            have hne2 : decide ((j : Int) = (s.size : Int)) = false := by simp; omega
            have hne3 : (j == s.size) = false := by simp; omega
            have hne4 : decide (j = s.size) = false := by simp; omega
            have hne5 : ¬ j = s.size := by omega
            obtain ⟨cc, hcc⟩ : ∃ cc, (s[j]'hlt).toNat = cc := ⟨_, rfl⟩
            have hc256 : cc < 256 := by rw [← hcc]; exact (s[j]'hlt).toNat_lt
            have hSj : sub S a j ++ [cc] = sub S a (j + 1) := by
              have hjl : j < S.length := by rw [HSl.out]; exact hlt
              rw [sub_append (i := a) (j := j) (k := j + 1) haj (by omega) (by omega), sub_one hjl]
              congr 2
              rw [← hcc]
              have := natsOf_at s j hlt
              simp only [HS.out] at this
              exact this.symm
            have HSj := Lib.hid hSj
            have HC := Lib.hid (step_any M HOkM.out hMn h0M O w7 g hs rs cc hc256 HWk7.out HHe.out hpcs)
            clear hSj
            go_wp2_with fail
            refine HC.out.mono ?_
            rintro e w8 ⟨⟨v, rfl⟩, hs', rs', hWk8, hO8, hS8⟩
            have hsz8 := hO8.size
            have HWk8 := Lib.hid hWk8
            have HS8 := Lib.hid hS8
            have HT8 := Lib.hid (hT.only _ L2 w7 w8 O HT7.out hO8 (fun b h => (HLO7.out b h).1))
            have HOn8 : Hid (Only L w w8) := Lib.hid (HOn7.out.trans hO8 (fun b hb h => by have := (HOb7.out b h).1; omega))
            have hlt7 := hT.lt _ L2 w7 HT7.out
            have Hlt7 := Lib.hid hlt7
            clear hWk8 hO8 hS8 HC hlt7
            go_wp2
            go_roundw
            case rel => exact ⟨j + 1, hs', rs', _, L2, by simp, by omega, by omega, HWk8, Lib.hid (fun b h => h.elim (fun h => ⟨(HOb7.out b h).1, by have := (HOb7.out b h).2; omega⟩) (fun h => ⟨by have := HOn7.out.size; have := h.1; omega, h.2⟩)), Lib.hid HS8.out.cl, Lib.hid HS8.out.here, Lib.hid (by rw [← HSj.out]; exact HMe.out.step HCl.out HHe.out HS8.out), Lib.hid HS8.out.count, HT8, Lib.hid (fun b h => ⟨fun h2 => h2.elim (HLO7.out b h).1 (fun h2 => by have := Hlt7.out b h; omega), (HLO7.out b h).2⟩), HOn8⟩
            case measure => simp [intOf]; omega
          · obtain rfl : j = s.size := by omega
            go_wp2
            first | go_end0 | refine bodyPost_ret (results_none rfl _ _ _) rfl ?_
            rw [HE.out, HS.out]
            exact ⟨⟨_, rfl⟩, L2, HT7.out, HOn7.out⟩
        · have hdd : decide (tr rs 0) = false := by simpa using hd
          have hin : ¬ inE x (sub S a j) := fun h => hd (hdone.2 h)
          rw [hdd]
          obtain ⟨w7, hw7⟩ : ∃ w7, w7 = w6 := ⟨_, rfl⟩
          subst hw7
          have HWk7 := HWk
          have HT7 : Hid (T (endsF (inE x) S a (j + 1)) L1 w7) := Lib.hid (by rw [endsF_no haj hin]; exact HT.out)
          have HOn7 := HOn
          have HLO7 := HLO
          have HOb7 := HOb
          clear hdd hd hdone hin HWk HT HOn HLO HOb
          obtain ⟨L2, hL2⟩ : ∃ L2, L2 = L1 := ⟨_, rfl⟩
          subst hL2
          rcases Nat.lt_or_ge j s.size with hlt | hge
          · have hji : (j : Int) < (s.size : Int) := by omega
            have hne : ((j : Int) == (s.size : Int)) = false := by simp; omega
            have hne2 : decide ((j : Int) = (s.size : Int)) = false := by simp; omega
            have hne3 : (j == s.size) = false := by simp; omega
            have hne4 : decide (j = s.size) = false := by simp; omega
            have hne5 : ¬ j = s.size := by omega
            obtain ⟨cc, hcc⟩ : ∃ cc, (s[j]'hlt).toNat = cc := ⟨_, rfl⟩
            have hc256 : cc < 256 := by rw [← hcc]; exact (s[j]'hlt).toNat_lt
            have hSj : sub S a j ++ [cc] = sub S a (j + 1) := by
              have hjl : j < S.length := by rw [HSl.out]; exact hlt
              rw [sub_append (i := a) (j := j) (k := j + 1) haj (by omega) (by omega), sub_one hjl]
              congr 2
              rw [← hcc]
              have := natsOf_at s j hlt
              simp only [HS.out] at this
              exact this.symm
            have HSj := Lib.hid hSj
            have HC := Lib.hid (step_any M HOkM.out hMn h0M O w7 g hs rs cc hc256 HWk7.out HHe.out hpcs)
            clear hSj
            go_wp2_with fail
            refine HC.out.mono ?_
            rintro e w8 ⟨⟨v, rfl⟩, hs', rs', hWk8, hO8, hS8⟩
            have hsz8 := hO8.size
            have HWk8 := Lib.hid hWk8
            have HS8 := Lib.hid hS8
            have HT8 := Lib.hid (hT.only _ L2 w7 w8 O HT7.out hO8 (fun b h => (HLO7.out b h).1))
            have HOn8 : Hid (Only L w w8) := Lib.hid (HOn7.out.trans hO8 (fun b hb h => by have := (HOb7.out b h).1; omega))
            have hlt7 := hT.lt _ L2 w7 HT7.out
            have Hlt7 := Lib.hid hlt7
            clear hWk8 hO8 hS8 HC hlt7
            go_wp2
            go_roundw
            case rel => exact ⟨j + 1, hs', rs', _, L2, by simp, by omega, by omega, HWk8, Lib.hid (fun b h => h.elim (fun h => ⟨(HOb7.out b h).1, by have := (HOb7.out b h).2; omega⟩) (fun h => ⟨by have := HOn7.out.size; have := h.1; omega, h.2⟩)), Lib.hid HS8.out.cl, Lib.hid HS8.out.here, Lib.hid (by rw [← HSj.out]; exact HMe.out.step HCl.out HHe.out HS8.out), Lib.hid HS8.out.count, HT8, Lib.hid (fun b h => ⟨fun h2 => h2.elim (HLO7.out b h).1 (fun h2 => by have := Hlt7.out b h; omega), (HLO7.out b h).2⟩), HOn8⟩
            case measure => simp [intOf]; omega
          · obtain rfl : j = s.size := by omega
            go_wp2
            first | go_end0 | refine bodyPost_ret (results_none rfl _ _ _) rfl ?_
            rw [HE.out, HS.out]
            exact ⟨⟨_, rfl⟩, L2, HT7.out, HOn7.out⟩
end Go.Proofs.YtmggajpecgnjkaaDoor

/-
  Contracts of the program's Longest, Ends, Match, Null. No statement of the seat is proved here.
-/
namespace Go.Proofs.YtmggajpecgnjkaaDoor
open Go Go.RowKit
set_option maxRecDepth 100000

/-- the last of a list, or none -/
def lastI (l : List Nat) : Int := match l.getLast? with | none => -1 | some j => (j : Int)
theorem lastI_snoc (l : List Nat) (j : Nat) : lastI (l ++ [j]) = (j : Int) := by simp [lastI]
theorem lastI_nil : lastI [] = -1 := rfl
def TLong (b : Nat) (told : List Nat) (L : Nat → Prop) (W : World) : Prop := Blk W b 3 #[.int .i64 (lastI told)] ∧ ∀ x, L x ↔ x = b
theorem teller_long (b : Nat) : Teller 59 (.pointer (some ⟨b, 0, none⟩)) (TLong b) := by
  refine ⟨fun told L W j hT hj _ => ?_, fun told L W W' O hT ho hn => ?_, fun told L W hT x hx => ?_⟩
  · have x0 := hT.1.cell 0
    have f0 := hT.1.free 0
    have hb := hT.1.put 0 (.int .i64 (j : Int))
    have HT := Lib.hid hT
    have Hb := Lib.hid hb
    clear hT hb
    go_enter Tryd.func59, Tryd.ntmps59
    go_wp2
    first | go_end0 | refine bodyPost_ret (results_none rfl _ _ _) rfl ?_
    exact ⟨⟨_, rfl⟩, L, ⟨by rw [lastI_snoc]; exact Hb.out, HT.out.2⟩, (Only.refl L W).setCell (p := ⟨b, 0, none⟩) (.inl ((HT.out.2 b).2 rfl)) _, fun x h => .inl h⟩
  · exact ⟨hT.1.only ho (hn b ((hT.2 b).2 rfl)), hT.2⟩
  · rw [(hT.2 x).1 hx]; exact hT.1.lt
def TEnds (b : Nat) (told : List Nat) (L : Nat → Prop) (W : World) : Prop :=
  ∃ A c, Blk W b 55 #[.slice A told.length c] ∧ RowO W 3 1 A told.length c (ints told) ∧ (∀ x, L x ↔ (x = b ∨ inA A x)) ∧ ¬ inA A b
theorem teller_ends (b : Nat) : Teller 60 (.pointer (some ⟨b, 0, none⟩)) (TEnds b) := by
  refine ⟨fun told L W j hT hj hl => ?_, fun told L W W' O hT ho hn => ?_, fun told L W hT x hx => ?_⟩
  · obtain ⟨A, c, hB, hrow, hL, hA⟩ := hT
    have x0 := hB.cell 0
    have hb34 : Below W.heap.size W (W.alloc (Obj.cells #[.int .i64 (j : Int)] 3)) := (Below.refl _ _).alloc (Nat.le_refl _) _
    have Hm1 : Hid (told.length + 1 ≤ maxLen) := Lib.hid (by unfold maxLen; omega)
    have Hm2 : Hid ((told.length + 1) * 8 ≤ 140737488355328) := Lib.hid (by omega)
    have Hrow := Lib.hid hrow
    have HB := Lib.hid hB
    have HA := Lib.hid hA
    have HL := Lib.hid hL
    have Hb34 := Lib.hid hb34
    clear hrow hB hA hL hb34
    go_enter Tryd.func60, Tryd.ntmps60
    go_wp2_with (refine wpList_appO _ rfl (.tmp 3) (.tmp 5) _ rfl _ _ 1 8 Tryd.underlying55 info_int rfl A told.length c (ints told) rfl (Hrow.out.alloc _) (some ⟨W.heap.size, 0, none⟩) 1 1 [.int .i64 (j : Int)] rfl rfl (Rd.lit W #[.int .i64 (j : Int)] 3) (by intro u hu; simp at hu; subst hu; rfl) (by intro h; cases h) Hm1.out Hm2.out ?_; intro A7 c7 w7 hrow7 honly7 hA7; have hB7 := (HB.out.ext Hb34.out).only honly7 (fun h => HA.out h); have x7 := hB7.cell 0; have f7 := hB7.free 0)
    first | go_end0 | refine bodyPost_ret (results_none rfl _ _ _) rfl ?_
    have hgl := HB.out.lt
    have hA7b : ¬ inA A7 b := fun h => (hA7 b h).elim HA.out (fun h => by have := h.1; simp at this; omega)
    have hO : Only (fun x => x = b) w7 (w7.setCell ⟨b, 0, none⟩ (.slice A7 (told.length + 1) c7)) := (Only.refl (fun x => x = b) w7).setCell (p := ⟨b, 0, none⟩) (.inl rfl) _
    have hsz : (w7.setCell ⟨b, 0, none⟩ (.slice A7 (told.length + 1) c7)).heap.size = w7.heap.size := by simp [World.setCell]
    refine ⟨⟨_, rfl⟩, fun x => x = b ∨ inA A7 x, ⟨A7, c7, ?_, ?_, fun x => Iff.rfl, hA7b⟩, ?_, fun x h => h.elim (fun h => .inl ((HL.out x).2 (.inl h))) (fun h => (hA7 x h).imp (fun h => (HL.out x).2 (.inr h)) (fun h => ⟨by have := h.1; simp at this; omega, by rw [hsz]; exact h.2⟩))⟩
    · rw [List.length_append, List.length_singleton]; exact hB7.put 0 _
    · rw [List.length_append, List.length_singleton]
      have := hrow7.only hO (fun x h1 h2 => by subst h2; exact hA7b h1)
      unfold ints at this ⊢
      rw [List.map_append]
      exact this
    · exact (((Only.refl L W).alloc _).trans honly7 (fun x _ h => (HL.out x).2 (.inr h))).setCell (p := ⟨b, 0, none⟩) (.inl ((HL.out b).2 (.inl rfl))) _
  · obtain ⟨A, c, hB, hrow, hL, hA⟩ := hT
    exact ⟨A, c, hB.only ho (hn b ((hL b).2 (.inl rfl))), hrow.only ho (fun x h => hn x ((hL x).2 (.inr h))), hL, hA⟩
  · obtain ⟨A, c, hB, hrow, hL, hA⟩ := hT
    rcases (hL x).1 hx with rfl | h
    · exact hB.lt
    · exact hrow.lt h

set_option maxHeartbeats 8000000 in
theorem longest_any (x : Ex) (cs : List Value) (s : ByteArray) (at_ : Int) (w : World) (ht : Tab w) (hr : ReR (fun _ => True) w x cs) (hs : s.size ≤ 1000000) :
    Calls Tryd.prog 37 #[reV cs, .string s, .int .i64 at_] w fun e W' => e = .returned (.int .i64 (lastI (endsI x (natsOf s) at_))) ∧ Below w.heap.size w W' := by
  obtain ⟨k, q0, q1, q2, q3, ks, B, d, lo, hi, -, rfl, h1, h2, -, -, -, -, -⟩ := hr.fields
  unfold maxLen at h2
  obtain ⟨w1, hw1⟩ : ∃ w1, w1 = (w.alloc (Obj.cells #[.int .i64 k, .int .u64 (q0 : Int), .int .u64 (q1 : Int), .int .u64 (q2 : Int), .int .u64 (q3 : Int), .slice B ks.length d, .int .i64 lo, .int .i64 hi] 27)).alloc (Obj.cells #[.int .i64 (-1)] 3) := ⟨_, rfl⟩
  have hb1 : Below w.heap.size w w1 := by rw [hw1]; exact ext2 w _ _
  have hBc : Blk w1 (w.heap.size + 1) 3 #[.int .i64 (-1)] := by
    rw [hw1]
    have := Blk.new (w.alloc (Obj.cells #[.int .i64 k, .int .u64 (q0 : Int), .int .u64 (q1 : Int), .int .u64 (q2 : Int), .int .u64 (q3 : Int), .slice B ks.length d, .int .i64 lo, .int .i64 hi] 27)) 3 #[.int .i64 (-1)]
    rwa [World.size_alloc] at this
  have HC := Lib.hid (eachEnd_long (.pointer (some ⟨w.heap.size + 1, 0, none⟩)) (TLong (w.heap.size + 1)) (teller_long _) x [.int .i64 k, .int .u64 (q0 : Int), .int .u64 (q1 : Int), .int .u64 (q2 : Int), .int .u64 (q3 : Int), .slice B ks.length d, .int .i64 lo, .int .i64 hi] s at_ w1 (fun b => b = w.heap.size + 1) (ht.ext hb1) (hr.ext hb1) hs ⟨by rw [lastI_nil]; exact hBc, fun _ => Iff.rfl⟩)
  have Hw1 := Lib.hid hw1
  have Hb1 := Lib.hid hb1
  clear hBc hb1 hw1 ht hr
  show Calls Tryd.prog 37 #[.agg #[.int .i64 k, .int .u64 (q0 : Int), .int .u64 (q1 : Int), .int .u64 (q2 : Int), .int .u64 (q3 : Int), .slice B ks.length d, .int .i64 lo, .int .i64 hi], .string s, .int .i64 at_] w _
  go_enter Tryd.func37, Tryd.ntmps37
  go_wp2_with fail
  rw [← Hw1.out]
  refine HC.out.mono ?_
  rintro e w2 ⟨⟨v, rfl⟩, L', hT, hO⟩
  have x0 := hT.1.cell 0
  have HO := Lib.hid hO
  clear hT hO HC
  go_wp2
  go_ret
  exact ⟨rfl, Hb1.out.trans (HO.out.below (fun i hi => by omega) Hb1.out.size)⟩
set_option maxHeartbeats 8000000 in
theorem ends_any (x : Ex) (cs : List Value) (s : ByteArray) (at_ : Int) (w : World) (ht : Tab w) (hr : ReR (fun _ => True) w x cs) (hs : s.size ≤ 1000000) :
    Calls Tryd.prog 38 #[reV cs, .string s, .int .i64 at_] w fun e W' => (∃ A c, e = .returned (.slice A (endsI x (natsOf s) at_).length c) ∧ RowO W' 3 1 A (endsI x (natsOf s) at_).length c (ints (endsI x (natsOf s) at_))) ∧ Below w.heap.size w W' := by
  obtain ⟨k, q0, q1, q2, q3, ks, B, d, lo, hi, -, rfl, h1, h2, -, -, -, -, -⟩ := hr.fields
  unfold maxLen at h2
  obtain ⟨w1, hw1⟩ : ∃ w1, w1 = (w.alloc (Obj.cells #[.int .i64 k, .int .u64 (q0 : Int), .int .u64 (q1 : Int), .int .u64 (q2 : Int), .int .u64 (q3 : Int), .slice B ks.length d, .int .i64 lo, .int .i64 hi] 27)).alloc (Obj.cells #[.slice none 0 0] 55) := ⟨_, rfl⟩
  have hb1 : Below w.heap.size w w1 := by rw [hw1]; exact ext2 w _ _
  have hBc : Blk w1 (w.heap.size + 1) 55 #[.slice none 0 0] := by
    rw [hw1]
    have := Blk.new (w.alloc (Obj.cells #[.int .i64 k, .int .u64 (q0 : Int), .int .u64 (q1 : Int), .int .u64 (q2 : Int), .int .u64 (q3 : Int), .slice B ks.length d, .int .i64 lo, .int .i64 hi] 27)) 55 #[.slice none 0 0]
    rwa [World.size_alloc] at this
  have HC := Lib.hid (eachEnd_ends (.pointer (some ⟨w.heap.size + 1, 0, none⟩)) (TEnds (w.heap.size + 1)) (teller_ends _) x [.int .i64 k, .int .u64 (q0 : Int), .int .u64 (q1 : Int), .int .u64 (q2 : Int), .int .u64 (q3 : Int), .slice B ks.length d, .int .i64 lo, .int .i64 hi] s at_ w1 (fun b => b = w.heap.size + 1 ∨ inA none b) (ht.ext hb1) (hr.ext hb1) hs ⟨none, 0, hBc, RowO.none_ _ _ _, fun _ => Iff.rfl, inA_none _⟩)
  have Hw1 := Lib.hid hw1
  have Hb1 := Lib.hid hb1
  clear hBc hb1 hw1 ht hr
  show Calls Tryd.prog 38 #[.agg #[.int .i64 k, .int .u64 (q0 : Int), .int .u64 (q1 : Int), .int .u64 (q2 : Int), .int .u64 (q3 : Int), .slice B ks.length d, .int .i64 lo, .int .i64 hi], .string s, .int .i64 at_] w _
  go_enter Tryd.func38, Tryd.ntmps38
  go_wp2_with fail
  rw [← Hw1.out]
  refine HC.out.mono ?_
  rintro e w2 ⟨⟨v, rfl⟩, L', ⟨A, c, hB, hrow, -, -⟩, hO⟩
  have x0 := hB.cell 0
  have HO := Lib.hid hO
  have Hrow := Lib.hid hrow
  clear hB hrow hO HC
  go_wp2
  go_ret
  exact ⟨⟨A, c, rfl, Hrow.out⟩, Hb1.out.trans (HO.out.below (fun i hi => hi.elim (fun h => by omega) (fun h => absurd h (inA_none i))) Hb1.out.size)⟩

/-- is a text one of an expression's? -/
noncomputable def matchE (x : Ex) (u : List Nat) : Bool := @decide (isE x = true ∧ inE x u) (Classical.propDecidable _)
theorem matchE_iff (x : Ex) (u : List Nat) : matchE x u = true ↔ isE x = true ∧ inE x u := by unfold matchE; simp
theorem lastI_mem : ∀ (l : List Nat), lastI l = -1 ∨ ∃ j ∈ l, lastI l = (j : Int) := by
  intro l
  unfold lastI
  cases h : l.getLast? with
  | none => exact .inl rfl
  | some j => exact .inr ⟨j, List.mem_of_getLast? h, rfl⟩
theorem sub_all (u : List Nat) : sub u 0 u.length = u := by unfold sub; simp
theorem lastI_match (x : Ex) (u : List Nat) : lastI (endsI x u 0) = (u.length : Int) ↔ matchE x u = true := by
  rw [matchE_iff]
  unfold endsI
  by_cases hx : isE x = true
  · rw [if_pos ⟨by omega, by omega, hx⟩]
    by_cases hp : inE x (sub u 0 u.length)
    · rw [show ((0 : Int)).toNat = 0 from rfl, endsF_yes (Nat.zero_le _) hp, lastI_snoc]
      rw [sub_all] at hp
      exact ⟨fun _ => ⟨hx, hp⟩, fun _ => rfl⟩
    · rw [show ((0 : Int)).toNat = 0 from rfl, endsF_no (Nat.zero_le _) hp]
      rw [sub_all] at hp
      refine ⟨fun h => ?_, fun h => absurd h.2 hp⟩
      rcases lastI_mem (endsF (inE x) u 0 u.length) with h1 | ⟨j, hj, h1⟩
      · omega
      · have := (endsF_mem.1 hj).2.1
        omega
  · rw [if_neg (fun h => hx h.2.2)]
    refine ⟨fun h => ?_, fun h => absurd h.1 hx⟩
    rw [lastI_nil] at h
    omega
set_option maxHeartbeats 8000000 in
theorem match_any (x : Ex) (cs : List Value) (s : ByteArray) (w : World) (ht : Tab w) (hr : ReR (fun _ => True) w x cs) (hs : s.size ≤ 1000000) :
    Calls Tryd.prog 35 #[reV cs, .string s] w fun e W' => e = .returned (.bool (matchE x (natsOf s))) ∧ Below w.heap.size w W' := by
  obtain ⟨k, q0, q1, q2, q3, ks, B, d, lo, hi, -, rfl, h1, h2, -, -, -, -, -⟩ := hr.fields
  unfold maxLen at h2
  have hb1 : Below w.heap.size w (w.alloc (Obj.cells #[.int .i64 k, .int .u64 (q0 : Int), .int .u64 (q1 : Int), .int .u64 (q2 : Int), .int .u64 (q3 : Int), .slice B ks.length d, .int .i64 lo, .int .i64 hi] 27)) := (Below.refl _ _).alloc (Nat.le_refl _) _
  have hm := lastI_match x (natsOf s)
  rw [natsOf_len] at hm
  have HC := Lib.hid (longest_any x [.int .i64 k, .int .u64 (q0 : Int), .int .u64 (q1 : Int), .int .u64 (q2 : Int), .int .u64 (q3 : Int), .slice B ks.length d, .int .i64 lo, .int .i64 hi] s 0 _ (ht.ext hb1) (hr.ext hb1) hs)
  have Hb1 := Lib.hid hb1
  obtain ⟨z, hz⟩ : ∃ z, lastI (endsI x (natsOf s) 0) = z := ⟨_, rfl⟩
  rw [hz] at hm HC
  have Hm := Lib.hid hm
  clear hb1 hm ht hr hz
  show Calls Tryd.prog 35 #[.agg #[.int .i64 k, .int .u64 (q0 : Int), .int .u64 (q1 : Int), .int .u64 (q2 : Int), .int .u64 (q3 : Int), .slice B ks.length d, .int .i64 lo, .int .i64 hi], .string s] w _
  go_enter Tryd.func35, Tryd.ntmps35
  go_wp2_with fail
  refine HC.out.mono ?_
  rintro e w2 ⟨rfl, hb2⟩
  go_wp2
  go_ret
  refine ⟨ret_bool ?_, ext_trans Hb1.out hb2⟩
  rw [Bool.eq_iff_iff, ← Hm.out]
  simp
set_option maxHeartbeats 8000000 in
theorem null_any (x : Ex) (cs : List Value) (w : World) (ht : Tab w) (hr : ReR (fun _ => True) w x cs) :
    Calls Tryd.prog 36 #[reV cs] w fun e W' => e = .returned (.bool (matchE x [])) ∧ Below w.heap.size w W' := by
  obtain ⟨k, q0, q1, q2, q3, ks, B, d, lo, hi, -, rfl, h1, h2, -, -, -, -, -⟩ := hr.fields
  unfold maxLen at h2
  have hb1 : Below w.heap.size w (w.alloc (Obj.cells #[.int .i64 k, .int .u64 (q0 : Int), .int .u64 (q1 : Int), .int .u64 (q2 : Int), .int .u64 (q3 : Int), .slice B ks.length d, .int .i64 lo, .int .i64 hi] 27)) := (Below.refl _ _).alloc (Nat.le_refl _) _
  have HC := Lib.hid (match_any x [.int .i64 k, .int .u64 (q0 : Int), .int .u64 (q1 : Int), .int .u64 (q2 : Int), .int .u64 (q3 : Int), .slice B ks.length d, .int .i64 lo, .int .i64 hi] ⟨#[]⟩ _ (ht.ext hb1) (hr.ext hb1) (by decide))
  have Hb1 := Lib.hid hb1
  clear hb1 ht hr
  show Calls Tryd.prog 36 #[.agg #[.int .i64 k, .int .u64 (q0 : Int), .int .u64 (q1 : Int), .int .u64 (q2 : Int), .int .u64 (q3 : Int), .slice B ks.length d, .int .i64 lo, .int .i64 hi]] w _
  go_enter Tryd.func36, Tryd.ntmps36
  go_wp2_with fail
  refine HC.out.mono ?_
  rintro e w2 ⟨rfl, hb2⟩
  go_wp2
  go_ret
  exact ⟨rfl, ext_trans Hb1.out hb2⟩
end Go.Proofs.YtmggajpecgnjkaaDoor

/-
  What stage 7's laws share: the texts of a text's own expression; two rows of numbers. No statement of the seat is proved here.
-/
namespace Go.Proofs.YtmggajpecgnjkaaDoor
open Go Go.ChangeShapes Go.WideShapes Go.ChangeAt Go.RowKit
set_option maxRecDepth 100000

theorem inE_byte {b : Nat} {u : List Nat} (hu : ∀ x ∈ u, x < 256) : inE (byteE b) u ↔ u = [b] := by
  unfold byteE classE
  simp only [inE]
  rw [if_neg (by decide), if_pos trivial]
  constructor
  · rintro ⟨c, rfl, h⟩
    rw [hasB_of (hu c (by simp))] at h
    have := of_decide_eq_true h
    simp at this
    rw [this]
  · rintro rfl
    exact ⟨b, rfl, by rw [hasB_of (hu b (by simp))]; simp⟩
theorem inSeq_bytes : ∀ (l u : List Nat), (∀ x ∈ u, x < 256) → (inSeq (l.map byteE) u ↔ u = l)
  | [], u, _ => by simp only [List.map_nil, inSeq]
  | b :: l, u, hu => by
    simp only [List.map_cons, inSeq]
    constructor
    · rintro ⟨a, c, rfl, ha, hc⟩
      rw [inE_byte (fun x hx => hu x (by simp [hx]))] at ha
      rw [inSeq_bytes l c (fun x hx => hu x (by simp [hx]))] at hc
      rw [ha, hc]; rfl
    · rintro rfl
      exact ⟨[b], l, rfl, (inE_byte (fun x hx => hu x (by simp at hx; simp [hx]))).2 rfl, (inSeq_bytes l l (fun x hx => hu x (by simp [hx]))).2 rfl⟩
theorem inE_text (l u : List Nat) (hu : ∀ x ∈ u, x < 256) : inE (textX l) u ↔ u = l := by
  match l with
  | [] =>
    show inE (.mk 0 zeroB [] 0 0) u ↔ _
    simp only [inE]
    rw [if_pos trivial]
  | [b] => exact inE_byte hu
  | b :: c :: r =>
    show inE (.mk 2 zeroB ((b :: c :: r).map byteE) 0 0) u ↔ _
    simp only [inE]
    rw [if_neg (by decide), if_neg (by decide), if_pos trivial]
    exact inSeq_bytes _ u hu
theorem match_text (l u : List Nat) (hl : isE (textX l) = true) (hu : ∀ x ∈ u, x < 256) : matchE (textX l) u = decide (u = l) := by
  rw [Bool.eq_iff_iff, matchE_iff, inE_text l u hu]
  simp [hl]

/-! ### a star of one letter -/
def starA : Ex := .mk 4 zeroB [byteE 97] 0 (-1)
theorem starA_is : isE starA = true := by decide +kernel
theorem pow_all {P : List Nat → Prop} {q : Nat → Prop} (h : ∀ a, P a → ∀ x ∈ a, q x) : ∀ (n : Nat) (u : List Nat), powL P n u → ∀ x ∈ u, q x
  | 0, u, hu, x, hx => by simp only [powL] at hu; subst hu; cases hx
  | n + 1, u, hu, x, hx => by
    simp only [powL] at hu
    obtain ⟨a, b, rfl, ha, hb⟩ := hu
    rcases List.mem_append.1 hx with h1 | h1
    · exact h a ha x h1
    · exact pow_all h n b hb x h1
theorem starA_iff (u : List Nat) : inE starA u ↔ ∃ n : Nat, powL (inE (byteE 97)) n u := by
  unfold starA
  simp only [inE, inRep]
  rw [if_neg (by decide), if_neg (by decide), if_neg (by decide), if_neg (by decide)]
  constructor
  · rintro ⟨n, _, _, h⟩; exact ⟨n, h⟩
  · rintro ⟨n, h⟩; exact ⟨n, by omega, .inl (by trivial), h⟩
theorem byteA : inE (byteE 97) [97] := (inE_byte (by simp)).2 rfl
theorem starA_0 : inE starA [] := (starA_iff _).2 ⟨0, rfl⟩
theorem starA_1 : inE starA [97] := (starA_iff _).2 ⟨1, [97], [], rfl, byteA, rfl⟩
theorem starA_2 : inE starA [97, 97] := (starA_iff _).2 ⟨2, [97], [97], rfl, byteA, [97], [], rfl, byteA, rfl⟩
theorem starA_not {u : List Nat} (h98 : 98 ∈ u) : ¬ inE starA u := by
  intro h
  obtain ⟨n, h⟩ := (starA_iff _).1 h
  have h2 := pow_all (q := fun x => hasB (ofB [97]) x = true) (fun a ha x hx => by
    unfold byteE classE at ha
    simp only [inE] at ha
    rw [if_neg (by decide), if_pos trivial] at ha
    obtain ⟨c, rfl, hc⟩ := ha
    simp at hx
    rw [hx]; exact hc) n u h 98 h98
  revert h2
  decide +kernel
theorem starA_ends : endsI starA [97, 97, 98] 0 = [0, 1, 2] := by
  unfold endsI
  rw [if_pos ⟨by omega, by decide, starA_is⟩]
  show endsF (inE starA) [97, 97, 98] 0 (3 + 1) = _
  rw [endsF_no (by omega) (starA_not (by decide)), endsF_yes (j := 2) (by omega) starA_2, endsF_yes (j := 1) (by omega) starA_1, endsF_yes (j := 0) (by omega) starA_0, endsF_self]
  rfl
theorem starA_m1 : matchE starA [97, 97] = true := (matchE_iff _ _).2 ⟨starA_is, starA_2⟩
theorem starA_m2 : matchE starA [97, 98] = false := by
  rw [Bool.eq_false_iff]
  exact fun h => starA_not (by decide) ((matchE_iff _ _).1 h).2

/-! ### two rows of numbers -/
theorem ints_at {w : World} {A : Option Addr} {c : Nat} {l : List Nat} (h : RowO w 3 1 A l.length c (ints l)) {k : Nat} (hk : k < l.length) : ∃ g o, A = some ⟨g, o, none⟩ ∧ w.cell? ⟨g, o + k, none⟩ = some (.int .i64 ((l[k] : Nat) : Int)) := by
  obtain ⟨ad, rfl, had⟩ := h.rd k (.int .i64 ((l[k] : Nat) : Int)) (by unfold ints; rw [List.getElem?_map, List.getElem?_eq_getElem hk]; rfl)
  obtain ⟨ga, oa, sx⟩ := ad
  have hsx : sx = none := by
    rcases h.2 with ⟨h, _⟩ | ⟨_, _, _, e, _⟩
    · cases h
    · injection e with e; injection e
  subst hsx
  exact ⟨ga, oa, rfl, by rw [Addr.add_mid] at had; exact had⟩
set_option maxHeartbeats 2000000 in
theorem numbers_same (w : World) (A B : Option Addr) (c d : Nat) (l : List Nat) (ha : RowO w 3 1 A l.length c (ints l)) (hb : RowO w 3 1 B l.length d (ints l)) (hl : l.length ≤ 1000000) (hx : ∀ x ∈ l, x ≤ 1000000) :
    Calls Tryd.prog 57 #[.slice A l.length c, .slice B l.length d] w fun e w' => e = .returned (.bool true) ∧ Below w.heap.size w w' := by
  have hli : (l.length : Int) ≤ 1000000 := by omega
  have Ha := Lib.hid ha
  have Hb := Lib.hid hb
  have Hx := Lib.hid hx
  clear ha hb hx
  go_enter Tryd.func57, Tryd.ntmps57
  go_wp2
  go_loopw [5] (fun iv wr => ∃ (j : Nat), j ≤ l.length ∧ iv = .int .i64 (j : Int) ∧ Below w.heap.size w wr) (fun iv _ => l.length - (intOf iv).toNat)
  case atStart => exact ⟨0, Nat.zero_le _, rfl, Below.refl _ _⟩
  case round =>
    obtain ⟨j, hj, rfl, hbr⟩ := hrel
    by_cases hlt : j < l.length
    · have hji : (j : Int) < (l.length : Int) := by omega
      obtain ⟨ga, oa, rfl, xa⟩ := ints_at (Ha.out.ext hbr) hlt
      obtain ⟨gb, ob, rfl, xb⟩ := ints_at (Hb.out.ext hbr) hlt
      obtain ⟨p, hp⟩ : ∃ p, l[j] = p := ⟨_, rfl⟩
      rw [hp] at xa xb
      clear hp
      go_wp2
      go_quiet (fail)
      go_wp2
      go_roundw
      case rel => exact ⟨j + 1, by omega, by go_num, ext_trans hbr (ext_drewN (Below.refl _ _) _)⟩
      case measure => simp [intOf]; omega
    · obtain rfl : j = l.length := by omega
      go_wp2
      go_ret
      exact ⟨rfl, hbr⟩
end Go.Proofs.YtmggajpecgnjkaaDoor

/-
  What stage 7's laws know beforehand. No statement of the seat is proved here.
-/
namespace Go.Proofs.YtmggajpecgnjkaaDoor
open Go Go.ChangeShapes Go.WideShapes Go.ChangeAt Go.RowKit
set_option maxRecDepth 100000

set_option maxHeartbeats 4000000 in
theorem known7_any (w : World) (ht : Tab w) : Calls Tryd.prog 34 #[] w fun e w' => e = .returned (.bool true) ∧ Below w.heap.size w w' := by
  have hT := rtextx_any ⟨#[97]⟩ w (by decide)
  rw [show natsOf ⟨#[97]⟩ = [97] from rfl] at hT
  have HT := Lib.hid hT
  have Ht := Lib.hid ht
  clear hT ht
  go_enter Tryd.func34, Tryd.ntmps34
  go_wp2_with fail
  refine HT.out.mono ?_
  rintro e w1 ⟨cs, he, hr, hb1⟩
  have h8 := reR_arr hr
  obtain ⟨u0, u1, u2, u3, u4, u5, u6, u7, hcs⟩ := arr_eight h8.1
  have hcl : cs = [u0, u1, u2, u3, u4, u5, u6, u7] := by have := congrArg Array.toList hcs; simpa using this
  subst hcl
  have he' : e = .returned (.agg #[u0, u1, u2, u3, u4, u5, u6, u7]) := he
  subst he'
  obtain ⟨W3, hW3⟩ : ∃ W3, W3 = (w1.alloc (Obj.cells #[u0, u1, u2, u3, u4, u5, u6, u7] 27)).alloc (Obj.cells #[.int .i64 4, .int .u64 0, .int .u64 0, .int .u64 0, .int .u64 0, .slice (some ⟨w1.heap.size, 0, none⟩) 1 1, .int .i64 0, .int .i64 (-1)] 27) := ⟨_, rfl⟩
  have hb3 : Below w1.heap.size w1 W3 := by rw [hW3]; exact ext2 w1 _ _
  have hB3 : Blk W3 (w1.heap.size + 1) 27 #[.int .i64 4, .int .u64 0, .int .u64 0, .int .u64 0, .int .u64 0, .slice (some ⟨w1.heap.size, 0, none⟩) 1 1, .int .i64 0, .int .i64 (-1)] := by
    rw [hW3]
    have := Blk.new (w1.alloc (Obj.cells #[u0, u1, u2, u3, u4, u5, u6, u7] 27)) 27 #[.int .i64 4, .int .u64 0, .int .u64 0, .int .u64 0, .int .u64 0, .slice (some ⟨w1.heap.size, 0, none⟩) 1 1, .int .i64 0, .int .i64 (-1)]
    rwa [World.size_alloc] at this
  have hR : ReR (fun _ => True) W3 starA [.int .i64 4, .int .u64 0, .int .u64 0, .int .u64 0, .int .u64 0, .slice (some ⟨w1.heap.size, 0, none⟩) 1 1, .int .i64 0, .int .i64 (-1)] := by
    unfold starA
    rw [reR_iff]
    refine ⟨⟨by unfold isInt; omega, zero_ok, by unfold isInt; omega, by unfold isInt; omega⟩, some ⟨w1.heap.size, 0, none⟩, 1, rfl, Nat.le_refl _, by simp [maxLen], ?_⟩
    have h9 := (RowE.one w1 hr).kids (T := fun _ => True) (fun _ _ _ => trivial)
    rw [hW3]
    exact h9.ext ((Below.refl _ _).alloc (Nat.le_refl _) _)
  have hsz3 : W3.heap.size = w1.heap.size + 2 := by rw [hW3, World.size_alloc, World.size_alloc]
  have Hb3 := Lib.hid (ext_trans hb1 hb3)
  have HR := Lib.hid hR
  have HB3 := Lib.hid hB3
  have HW3 := Lib.hid hW3
  have Hsz := Lib.hid hsz3
  have HE := ends_any starA _ ⟨#[97, 97, 98]⟩ 0 W3 (Ht.out.ext Hb3.out) hR (by decide)
  rw [show natsOf ⟨#[97, 97, 98]⟩ = [97, 97, 98] from rfl, starA_ends] at HE
  have HE := Lib.hid HE
  clear he hr hb1 h8 hcs hb3 hB3 hR hW3 hsz3 HT
  go_wp2_with fail
  rw [← HW3.out]
  refine HE.out.mono ?_
  rintro e w4 ⟨⟨A, c, rfl, hrow⟩, hb4⟩
  have Hrow := Lib.hid hrow
  have Hb4 := Lib.hid (ext_trans Hb3.out hb4)
  have HR4 := Lib.hid (HR.out.ext hb4)
  have HB4 := Lib.hid (HB3.out.ext hb4)
  clear hrow hb4
  obtain ⟨W5, hW5⟩ : ∃ W5, W5 = w4.alloc (Obj.cells #[.int .i64 0, .int .i64 1, .int .i64 2] 3) := ⟨_, rfl⟩
  have hb45 : Below w4.heap.size w4 W5 := by rw [hW5]; exact (Below.refl _ _).alloc (Nat.le_refl _) _
  have hrow2 : RowO W5 3 1 (some ⟨w4.heap.size, 0, none⟩) 3 3 (ints [0, 1, 2]) := by
    rw [hW5]
    exact RowO.lit w4 3 1 3 #[.int .i64 0, .int .i64 1, .int .i64 2] rfl (by simp [maxLen]) rfl
  have HN := Lib.hid (numbers_same W5 A (some ⟨w4.heap.size, 0, none⟩) c 3 [0, 1, 2] (Hrow.out.ext hb45) hrow2 (by decide) (by decide))
  have Hb5 := Lib.hid (ext_trans Hb4.out hb45)
  have HR5 := Lib.hid (HR4.out.ext hb45)
  have HB5 := Lib.hid (HB4.out.ext hb45)
  have HW5 := Lib.hid hW5
  clear hW5 hb45 hrow2 Hrow
  go_wp2_with fail
  rw [← HW5.out]
  refine HN.out.mono ?_
  rintro e w6 ⟨rfl, hb6⟩
  have Hb6 := Lib.hid (ext_trans Hb5.out hb6)
  have HR6 := Lib.hid (HR5.out.ext hb6)
  have HB6 := Lib.hid (HB5.out.ext hb6)
  have HM := match_any starA _ ⟨#[97, 97]⟩ w6 (Ht.out.ext Hb6.out) HR6.out (by decide)
  rw [show natsOf ⟨#[97, 97]⟩ = [97, 97] from rfl, starA_m1] at HM
  have HM := Lib.hid HM
  clear hb6 HN
  have c0 := HB6.out.cell 0
  have c1 := HB6.out.cell 1
  have c2 := HB6.out.cell 2
  have c3 := HB6.out.cell 3
  have c4 := HB6.out.cell 4
  have c5 := HB6.out.cell 5
  have c6 := HB6.out.cell 6
  have c7 := HB6.out.cell 7
  go_wp2_with fail
  refine HM.out.mono ?_
  rintro e w7 ⟨rfl, hb7⟩
  have Hb7 := Lib.hid (ext_trans Hb6.out hb7)
  have HR7 := Lib.hid (HR6.out.ext hb7)
  have HB7 := Lib.hid (HB6.out.ext hb7)
  have HM2 := match_any starA _ ⟨#[97, 98]⟩ w7 (Ht.out.ext Hb7.out) HR7.out (by decide)
  rw [show natsOf ⟨#[97, 98]⟩ = [97, 98] from rfl, starA_m2] at HM2
  have HM2 := Lib.hid HM2
  clear hb7 HM c0 c1 c2 c3 c4 c5 c6 c7
  have c0 := HB7.out.cell 0
  have c1 := HB7.out.cell 1
  have c2 := HB7.out.cell 2
  have c3 := HB7.out.cell 3
  have c4 := HB7.out.cell 4
  have c5 := HB7.out.cell 5
  have c6 := HB7.out.cell 6
  have c7 := HB7.out.cell 7
  go_wp2_with fail
  refine HM2.out.mono ?_
  rintro e w8 ⟨rfl, hb8⟩
  go_wp2
  go_ret
  exact ⟨rfl, ext_trans Hb7.out hb8⟩
end Go.Proofs.YtmggajpecgnjkaaDoor

/-
  LangTexts, its walk: what the expression of a text means. No statement of the seat is proved here (LangTexts closes it).
-/
namespace Go.Proofs.YtmggajpecgnjkaaDoor
open Go Go.ChangeShapes Go.WideShapes Go.ChangeAt Go.RowKit
set_option maxRecDepth 100000

theorem lastI_all {l : List Nat} {n : Nat} (h : ∀ x ∈ l, x = n) (hn : n ∈ l) : lastI l = (n : Int) := by
  rcases lastI_mem l with h1 | ⟨j, hj, h1⟩
  · unfold lastI at h1
    cases hg : l.getLast? with
    | none => rw [List.getLast?_eq_none_iff] at hg; subst hg; cases hn
    | some j => rw [hg] at h1; simp at h1
  · rw [h1, h j hj]
theorem sub_pre (a b : List Nat) {i : Nat} (hi : i ≤ (a ++ b).length) : sub (a ++ b) 0 i = a ↔ i = a.length := by
  unfold sub
  rw [List.drop_zero]
  constructor
  · intro h
    have := congrArg List.length h
    rw [List.length_take] at this
    omega
  · rintro rfl; simp
theorem longest_text (a b : List Nat) (hx : isE (textX a) = true) (h : ∀ x ∈ a ++ b, x < 256) : lastI (endsI (textX a) (a ++ b) 0) = (a.length : Int) := by
  unfold endsI
  rw [if_pos ⟨by omega, by omega, hx⟩, show ((0 : Int)).toNat = 0 from rfl]
  have hs : ∀ i, ∀ x ∈ sub (a ++ b) 0 i, x < 256 := fun i x hx => h x (by unfold sub at hx; exact List.mem_of_mem_take (List.mem_of_mem_drop hx))
  refine lastI_all (fun i hi => ?_) (endsF_mem.2 ⟨by omega, by simp; omega, ?_⟩)
  · obtain ⟨-, h2, h3⟩ := endsF_mem.1 hi
    rw [inE_text _ _ (hs i)] at h3
    exact (sub_pre a b (by omega)).1 h3
  · rw [inE_text _ _ (hs _)]
    exact (sub_pre a b (by simp)).2 rfl
theorem natsOf_app (a b : ByteArray) : natsOf (a ++ b) = natsOf a ++ natsOf b := by
  unfold natsOf
  rw [← List.map_append]
  congr 1
theorem natsOf_inj {a b : ByteArray} : natsOf a = natsOf b ↔ a = b := by
  constructor
  · intro h
    have h1 : a.data.toList = b.data.toList := by
      unfold natsOf at h
      exact (List.map_inj_right (fun (x y : UInt8) (h : x.toNat = y.toNat) => UInt8.toNat_inj.1 h)).1 h
    cases a; cases b; congr 1; exact Array.toList_inj.1 h1
  · rintro rfl; rfl

theorem beq_nats (a b : ByteArray) : (a.toList == b.toList) = decide (natsOf b = natsOf a) := by
  rw [Bool.eq_iff_iff, beq_iff_eq, decide_eq_true_iff, natsOf_inj]
  obtain ⟨a⟩ := a
  obtain ⟨b⟩ := b
  rw [ByteArray.toList_mk, ByteArray.toList_mk, Array.toList_inj]
  simp [eq_comm]
theorem empty_nats (a : ByteArray) : a.toList.isEmpty = decide ([] = natsOf a) := by
  obtain ⟨a⟩ := a
  rw [ByteArray.toList_mk, Bool.eq_iff_iff, decide_eq_true_iff]
  unfold natsOf
  rw [List.isEmpty_iff]
  constructor
  · intro h
    show [] = a.toList.map _
    rw [h]; rfl
  · intro h
    exact List.map_eq_nil_iff.1 h.symm
set_option maxHeartbeats 4000000 in
theorem texts7_any (s r : ByteArray) (w : World) (ht : Tab w) (hs : s.size ≤ maxLen) (hr : r.size ≤ maxLen) :
    Calls Tryd.prog 13 #[.string s, .string r] w fun e w' => e = .returned (.bool true) ∧ Below w.heap.size w w' := by
  unfold maxLen at hs hr
  by_cases h1 : 40 < s.size
  · have h1i : (40 : Int) < (s.size : Int) := by omega
    clear ht
    go_enter Tryd.func13, Tryd.ntmps13
    go_wp2
    go_ret
    exact ⟨rfl, Below.refl _ _⟩
  have h1i : (s.size : Int) ≤ 40 := by omega
  by_cases h2 : 40 < r.size
  · have h2i : (40 : Int) < (r.size : Int) := by omega
    clear ht
    go_enter Tryd.func13, Tryd.ntmps13
    go_wp2
    go_ret
    exact ⟨rfl, Below.refl _ _⟩
  have h2i : (r.size : Int) ≤ 40 := by omega
  have HT := Lib.hid (rtextx_any s w (by omega))
  have Ht := Lib.hid ht
  have hnd : nodesE (textX (natsOf s)) ≤ 1000000 := by have := (sm_textX (natsOf s) (natsOf_lt s)).nodes; rw [natsOf_len] at this; omega
  have Hnd := Lib.hid hnd
  clear ht hnd
  go_enter Tryd.func13, Tryd.ntmps13
  go_wp2_with fail
  refine HT.out.mono ?_
  rintro e w1 ⟨cs, he, hr1, hb1⟩
  obtain ⟨k, q0, q1, q2, q3, ks, B, d, lo, hi, htx, rfl, z1, z2, -, -, -, -, -⟩ := hr1.fields
  have he' : e = .returned (.agg #[.int .i64 k, .int .u64 (q0 : Int), .int .u64 (q1 : Int), .int .u64 (q2 : Int), .int .u64 (q3 : Int), .slice B ks.length d, .int .i64 lo, .int .i64 hi]) := he
  subst he'
  have hone : (#[.int .i64 k, .int .u64 (q0 : Int), .int .u64 (q1 : Int), .int .u64 (q2 : Int), .int .u64 (q3 : Int), .slice B ks.length d, .int .i64 lo, .int .i64 hi] : Array Value).all (·.oneCell') = true := by simp [Value.oneCell']
  have Hr1 := Lib.hid hr1
  have Hb1 := Lib.hid hb1
  clear he hr1 hb1 htx HT
  go_wp2_with (have hh := hone; clear hone; refine wpList_store_re rfl _ _ rfl w1.heap.size rfl rfl rfl rfl hh (Blk.new _ _ _) ?_; intro w2 hB2 ho2; have c0 := hB2.cell 0; have c1 := hB2.cell 1; have c2 := hB2.cell 2; have c3 := hB2.cell 3; have c4 := hB2.cell 4; have c5 := hB2.cell 5; have c6 := hB2.cell 6; have c7 := hB2.cell 7)
  have hb12 : Below w1.heap.size w1 w2 := ((Below.refl _ _).alloc (Nat.le_refl _) _).trans (ho2.below (fun i hi => Nat.le_of_eq hi.symm) (by simp))
  have Hb2 := Lib.hid (ext_trans Hb1.out hb12)
  have hr2 : ReR (fun _ => True) w2 (textX (natsOf s)) _ := (Hr1.out.ext hb12).mono (fun _ _ _ => trivial)
  have Hr2 := Lib.hid hr2
  have HB2 := Lib.hid hB2
  clear hb12 hr2 hB2 ho2 Hr1 Hb1 hh
  refine (ris_any _ _ _ w2 Hr2.out Hnd.out).mono ?_
  rintro e w3 ⟨rfl, hb3⟩
  have Hb3 := Lib.hid (ext_trans Hb2.out hb3)
  have Hr3 := Lib.hid (Hr2.out.ext hb3)
  have HB3 := Lib.hid (HB2.out.ext hb3)
  clear hb3 c0 c1 c2 c3 c4 c5 c6 c7 Hb2 Hr2 HB2
  cases hx : isE (textX (natsOf s)) with
  | false =>
    clear hx
    go_wp2_with fail
    refine (known7_any w3 (Ht.out.ext Hb3.out)).mono ?_
    rintro e w4 ⟨rfl, hb4⟩
    go_wp2
    go_ret
    exact ⟨rfl, ext_trans Hb3.out hb4⟩
  | true =>
  have c0 := HB3.out.cell 0
  have c1 := HB3.out.cell 1
  have c2 := HB3.out.cell 2
  have c3 := HB3.out.cell 3
  have c4 := HB3.out.cell 4
  have c5 := HB3.out.cell 5
  have c6 := HB3.out.cell 6
  have c7 := HB3.out.cell 7
  have hM1 := match_any _ _ r w3 (Ht.out.ext Hb3.out) Hr3.out (by omega)
  rw [match_text _ _ hx (natsOf_lt r)] at hM1
  have hq1 := beq_nats s r
  obtain ⟨q1, hq⟩ : ∃ q, decide (natsOf r = natsOf s) = q := ⟨_, rfl⟩
  rw [hq] at hM1 hq1
  have HM1 := Lib.hid hM1
  have Hx := Lib.hid hx
  clear hM1 hx hq
  go_wp2_with fail
  refine HM1.out.mono ?_
  rintro e w4 ⟨rfl, hb4⟩
  have Hb4 := Lib.hid (ext_trans Hb3.out hb4)
  have Hr4 := Lib.hid (Hr3.out.ext hb4)
  have HB4 := Lib.hid (HB3.out.ext hb4)
  clear hb4 c0 c1 c2 c3 c4 c5 c6 c7 Hb3 Hr3 HB3 HM1
  have c0 := HB4.out.cell 0
  have c1 := HB4.out.cell 1
  have c2 := HB4.out.cell 2
  have c3 := HB4.out.cell 3
  have c4 := HB4.out.cell 4
  have c5 := HB4.out.cell 5
  have c6 := HB4.out.cell 6
  have c7 := HB4.out.cell 7
  have hM2 := match_any _ _ s w4 (Ht.out.ext Hb4.out) Hr4.out (by omega)
  rw [match_text _ _ Hx.out (natsOf_lt s), decide_eq_true rfl] at hM2
  have HM2 := Lib.hid hM2
  clear hM2
  go_wp2_with fail
  refine HM2.out.mono ?_
  rintro e w5 ⟨rfl, hb5⟩
  have Hb5 := Lib.hid (ext_trans Hb4.out hb5)
  have Hr5 := Lib.hid (Hr4.out.ext hb5)
  have HB5 := Lib.hid (HB4.out.ext hb5)
  clear hb5 c0 c1 c2 c3 c4 c5 c6 c7 Hb4 Hr4 HB4 HM2 hq1
  have c0 := HB5.out.cell 0
  have c1 := HB5.out.cell 1
  have c2 := HB5.out.cell 2
  have c3 := HB5.out.cell 3
  have c4 := HB5.out.cell 4
  have c5 := HB5.out.cell 5
  have c6 := HB5.out.cell 6
  have c7 := HB5.out.cell 7
  have hM3 := null_any _ _ w5 (Ht.out.ext Hb5.out) Hr5.out
  rw [match_text _ _ Hx.out (by simp)] at hM3
  have hq2 : s.toList.isEmpty = decide ([] = natsOf s) := empty_nats s
  obtain ⟨q2, hq⟩ : ∃ q, decide ([] = natsOf s) = q := ⟨_, rfl⟩
  rw [hq] at hM3 hq2
  have HM3 := Lib.hid hM3
  clear hM3 hq
  go_wp2_with fail
  refine HM3.out.mono ?_
  rintro e w6 ⟨rfl, hb6⟩
  have Hb6 := Lib.hid (ext_trans Hb5.out hb6)
  have Hr6 := Lib.hid (Hr5.out.ext hb6)
  have HB6 := Lib.hid (HB5.out.ext hb6)
  clear hb6 c0 c1 c2 c3 c4 c5 c6 c7 Hb5 Hr5 HB5 HM3
  have c0 := HB6.out.cell 0
  have c1 := HB6.out.cell 1
  have c2 := HB6.out.cell 2
  have c3 := HB6.out.cell 3
  have c4 := HB6.out.cell 4
  have c5 := HB6.out.cell 5
  have c6 := HB6.out.cell 6
  have c7 := HB6.out.cell 7
  have hM4 := longest_any _ _ (s ++ r) 0 w6 (Ht.out.ext Hb6.out) Hr6.out (by rw [ByteArray.size_append]; omega)
  rw [natsOf_app, longest_text _ _ Hx.out (by rw [← natsOf_app]; exact natsOf_lt _), natsOf_len] at hM4
  have HM4 := Lib.hid hM4
  clear hM4
  go_wp2_with fail
  refine HM4.out.mono ?_
  rintro e w7 ⟨rfl, hb7⟩
  have Hb7 := Lib.hid (ext_trans Hb6.out hb7)
  clear hb7 c0 c1 c2 c3 c4 c5 c6 c7 Hb6 Hr6 HB6 HM4 hq2
  go_wp2_with fail
  refine (known7_any w7 (Ht.out.ext Hb7.out)).mono ?_
  rintro e w8 ⟨rfl, hb8⟩
  go_wp2
  go_ret
  exact ⟨rfl, ext_trans Hb7.out hb8⟩
end Go.Proofs.YtmggajpecgnjkaaDoor

/-
  Contract of the reference's Not. No statement of the seat is proved here.
-/
namespace Go.Proofs.YtmggajpecgnjkaaDoor
open Go Go.RowKit
set_option maxRecDepth 100000


set_option maxHeartbeats 1000000 in
theorem rnot_any (ws : List Nat) (hs : SetOk ws) (w : World) :
    Calls Tryd.prog 40 #[setV ws] w fun e w' => e = .returned (setV (notB ws)) ∧ Below w.heap.size w w' := by
  have hz := zeros_set
  have hB1 := ((Blk.new w 24 (cellsU ws)).alloc (Obj.cells (cellsU zeroB) 24)).alloc (Obj.cells (cellsU zeroB) 24)
  unfold setV
  go_enter Tryd.func40, Tryd.ntmps40
  go_wp2
  go_loopw [4] (fun i wr => ∃ (k : Nat) (us : List Nat), k ≤ 4 ∧ i = .int .i64 (k : Int) ∧ SetOk us ∧ (∀ j, j < 4 → wordB us j = if j < k then notW (wordB ws j) else wordB zeroB j) ∧ Blk wr (w.heap.size + 1 + 1) 24 (cellsU us) ∧ Blk wr (w.heap.size + 1) 24 (cellsU zeroB) ∧ Blk wr w.heap.size 24 (cellsU ws) ∧ Below w.heap.size w wr) (fun i _ => 4 - (intOf i).toNat)
  case atStart =>
    refine ⟨0, zeroB, by omega, rfl, zero_ok, fun j hj => by simp, ?_, ?_, hB1, (((Below.refl _ _).alloc (Nat.le_refl _) _).alloc (by simp) _).alloc (by simp; omega) _⟩
    · have := Blk.new ((w.alloc (Obj.cells (cellsU ws) 24)).alloc (Obj.cells (cellsU zeroB) 24)) 24 (cellsU zeroB)
      simpa using this
    · have := (Blk.new (w.alloc (Obj.cells (cellsU ws) 24)) 24 (cellsU zeroB)).alloc (Obj.cells (cellsU zeroB) 24)
      simpa using this
  case round =>
    obtain ⟨k, us, hk, rfl, hus, hw, hT, hR, hS, hbel⟩ := hrel
    by_cases hlt : k < 4
    · have hcell : wr.cell? ⟨w.heap.size + 1 + 1, k, none⟩ = some (.int .u64 (wordB us k : Int)) := (hT.cell k).trans (cellsU_at hus hlt)
      have hcell2 : wr.cell? ⟨w.heap.size, k, none⟩ = some (.int .u64 (wordB ws k : Int)) := (hS.cell k).trans (cellsU_at hs hlt)
      have hfree := hT.free k
      have hki : (k : Int) < 4 := by omega
      have hx := hs.wlt k
      have hnot := not_u64 (wordB ws k) hx
      have hnl : notW (wordB ws k) < 18446744073709551616 := by unfold notW; omega
      have hT' := hT.put k (.int .u64 (notW (wordB ws k) : Int))
      rw [cellsU_set] at hT'
      have Hw := Lib.hid hw
      have HT' := Lib.hid hT'
      have HT := Lib.hid hT
      clear hw hT' hT hB1
      go_wp2
      go_roundw
      case rel =>
        refine ⟨k + 1, us.set k (notW (wordB ws k)), by omega, by go_num, hus.set _ _ hnl, fun j hj => ?_, ?_, ?_, ?_, ?_⟩
        · rw [wordB_set hus.len hj]
          by_cases e : k = j
          · subst e; rw [if_pos rfl, if_pos (by omega)]
          · rw [if_neg e, Hw.out j hj]
            by_cases e2 : j < k
            · rw [if_pos e2, if_pos (by omega)]
            · rw [if_neg e2, if_neg (by omega)]
        · exact HT'.out
        · exact hR.far (by simp) _
        · exact hS.far (by simp; omega) _
        · exact hbel.setCell (by simp; omega) _
      case measure => simp [intOf]; omega
    · obtain rfl : k = 4 := by omega
      have hus' : us = notB ws := word_ext hus (not_ok hs) fun j hj => by rw [hw j hj, if_pos hj, word_not hs hj]
      subst hus'
      have hi := size_set hus
      clear hw hB1
      go_wp2_with (first | (refine wpList_load_set rfl _ rfl (w.heap.size + 1 + 1) rfl hus hT ?_) | (refine wpList_store_set rfl _ _ rfl (w.heap.size + 1) rfl rfl hus zero_ok hR ?_; intro w2 hB2 _ _ hbel2))
      exact bodyPost_ret (results_cell rfl _ _ (w.heap.size + 1) 24 _ 4 22 rfl hB2 Tryd.underlying24 hi) rfl ⟨rfl, hbel.trans (hbel2 _ (by omega))⟩
end Go.Proofs.YtmggajpecgnjkaaDoor

/-
  LangAll, its walk: every byte, as often as one likes. No statement of the seat is proved here (LangAll closes it).
-/
namespace Go.Proofs.YtmggajpecgnjkaaDoor
open Go Go.ChangeShapes Go.WideShapes Go.ChangeAt Go.RowKit
set_option maxRecDepth 100000

def allB : List Nat := notB zeroB
theorem allB_ok : SetOk allB := not_ok zero_ok
theorem hasB_all {c : Nat} (h : c < 256) : hasB allB c = true := by
  unfold allB
  rw [hasB_not zero_ok h, hasB_zero]; rfl
theorem inE_all {u : List Nat} (hu : ∀ x ∈ u, x < 256) : inE (classE allB) u ↔ u.length = 1 := by
  unfold classE
  simp only [inE]
  rw [if_neg (by decide), if_pos trivial]
  constructor
  · rintro ⟨b, rfl, -⟩; rfl
  · intro h
    obtain ⟨b, rfl⟩ := List.length_eq_one_iff.1 h
    exact ⟨b, rfl, hasB_all (hu b (by simp))⟩
theorem pow_all_iff : ∀ (n : Nat) (u : List Nat), (∀ x ∈ u, x < 256) → (powL (inE (classE allB)) n u ↔ u.length = n)
  | 0, u, _ => by simp only [powL]; exact List.length_eq_zero_iff.symm
  | n + 1, u, hu => by
    simp only [powL]
    constructor
    · rintro ⟨a, b, rfl, ha, hb⟩
      rw [inE_all (fun x hx => hu x (by simp [hx]))] at ha
      rw [pow_all_iff n b (fun x hx => hu x (by simp [hx]))] at hb
      rw [List.length_append]; omega
    · intro h
      match u, hu, h with
      | c :: r, hu, h =>
        exact ⟨[c], r, rfl, (inE_all (fun x hx => hu x (by simp at hx; simp [hx]))).2 rfl, (pow_all_iff n r (fun x hx => hu x (by simp [hx]))).2 (by simpa using h)⟩
def starAll : Ex := .mk 4 zeroB [classE allB] 0 (-1)
def timesAll (n : Nat) : Ex := .mk 4 zeroB [classE allB] n n
theorem starAll_is : isE starAll = true := by decide +kernel
theorem timesAll_is' : ∀ i : Fin 32, isE (timesAll (i.val + 1)) = true := by decide +kernel
theorem timesAll_is {n : Nat} (h1 : 1 ≤ n) (h2 : n ≤ 32) : isE (timesAll n) = true := by
  have := timesAll_is' ⟨n - 1, by omega⟩
  rwa [show (⟨n - 1, by omega⟩ : Fin 32).val + 1 = n by show n - 1 + 1 = n; omega] at this
theorem inE_starAll (u : List Nat) (hu : ∀ x ∈ u, x < 256) : inE starAll u := by
  unfold starAll
  simp only [inE, inRep]
  rw [if_neg (by decide), if_neg (by decide), if_neg (by decide), if_neg (by decide)]
  exact ⟨u.length, by omega, .inl (by trivial), (pow_all_iff _ u hu).2 rfl⟩
theorem inE_timesAll (n : Nat) (u : List Nat) (hu : ∀ x ∈ u, x < 256) : inE (timesAll n) u ↔ u.length = n := by
  unfold timesAll
  simp only [inE, inRep]
  rw [if_neg (by decide), if_neg (by decide), if_neg (by decide), if_neg (by decide)]
  constructor
  · rintro ⟨m, h1, h2, h3⟩
    rw [pow_all_iff m u hu] at h3
    omega
  · intro h
    exact ⟨n, by omega, .inr (by omega), (pow_all_iff n u hu).2 h⟩
theorem match_starAll (u : List Nat) (hu : ∀ x ∈ u, x < 256) : matchE starAll u = true := (matchE_iff _ _).2 ⟨starAll_is, inE_starAll u hu⟩
theorem match_timesAll (n : Nat) (h1 : 1 ≤ n) (h2 : n ≤ 32) (u : List Nat) (hu : ∀ x ∈ u, x < 256) : matchE (timesAll n) u = decide ((u.length : Int) = (n : Int)) := by
  rw [Bool.eq_iff_iff, matchE_iff, inE_timesAll n u hu, decide_eq_true_iff]
  exact ⟨fun h => by rw [h.2], fun h => ⟨timesAll_is h1 h2, by omega⟩⟩
theorem ends_starAll (u : List Nat) (hu : ∀ x ∈ u, x < 256) : (endsI starAll u 0).length = u.length + 1 := by
  unfold endsI endsF
  rw [if_pos ⟨by omega, by omega, starAll_is⟩, List.filter_eq_self.2 (fun i _ => @decide_eq_true _ (Classical.propDecidable _) (inE_starAll _ (fun x hx => hu x (by unfold sub at hx; exact List.mem_of_mem_take (List.mem_of_mem_drop hx)))))]
  simp

set_option maxHeartbeats 4000000 in
theorem all7_any (s : ByteArray) (n : Int) (w : World) (ht : Tab w) (hs : s.size ≤ maxLen) (hn : isInt n) :
    Calls Tryd.prog 15 #[.string s, .int .i64 n] w fun e w' => e = .returned (.bool true) ∧ Below w.heap.size w w' := by
  unfold maxLen at hs
  by_cases h1 : 60 < s.size
  · have h1i : (60 : Int) < (s.size : Int) := by omega
    clear ht
    go_enter Tryd.func15, Tryd.ntmps15
    go_wp2
    go_ret
    exact ⟨rfl, Below.refl _ _⟩
  have h1i : (s.size : Int) ≤ 60 := by omega
  by_cases h2 : n < 1
  · clear ht
    go_enter Tryd.func15, Tryd.ntmps15
    go_wp2
    go_ret
    exact ⟨rfl, Below.refl _ _⟩
  by_cases h3 : 32 < n
  · clear ht
    go_enter Tryd.func15, Tryd.ntmps15
    go_wp2
    go_ret
    exact ⟨rfl, Below.refl _ _⟩
  obtain ⟨m, rfl⟩ : ∃ m : Nat, n = (m : Int) := ⟨n.toNat, by omega⟩
  have HN : Hid (∀ W, Calls Tryd.prog 40 #[.agg #[.int .u64 0, .int .u64 0, .int .u64 0, .int .u64 0]] W fun e w' => e = .returned (setV allB) ∧ Below W.heap.size W w') := Lib.hid fun W => rnot_any zeroB zero_ok W
  have HC0 : Hid (∀ W, Calls Tryd.prog 39 #[setV allB] W fun e w' => ∃ cs, e = .returned (reV cs) ∧ (∀ S W, ReR S W (classE allB) cs) ∧ Below W.heap.size W w') := Lib.hid fun W => rclass_any allB allB_ok W
  have Ht := Lib.hid ht
  have Hn := Lib.hid hn
  clear ht hn
  go_enter Tryd.func15, Tryd.ntmps15
  go_wp2_with fail
  refine (HN.out _).mono ?_
  rintro e w1 ⟨rfl, hb1⟩
  have Hb1 := Lib.hid hb1
  clear hb1
  go_wp2_with fail
  refine (HC0.out _).mono ?_
  rintro e w2 ⟨cs, he, hr2, hb2⟩
  obtain ⟨k, q0, q1, q2, q3, ks, B, d, lo, hi, htx, rfl, z1, z2, -, -, -, -, -⟩ := (hr2 (fun _ => True) w2).fields
  have he' : e = .returned (.agg #[.int .i64 k, .int .u64 (q0 : Int), .int .u64 (q1 : Int), .int .u64 (q2 : Int), .int .u64 (q3 : Int), .slice B ks.length d, .int .i64 lo, .int .i64 hi]) := he
  subst he'
  have hone : (#[.int .i64 k, .int .u64 (q0 : Int), .int .u64 (q1 : Int), .int .u64 (q2 : Int), .int .u64 (q3 : Int), .slice B ks.length d, .int .i64 lo, .int .i64 hi] : Array Value).all (·.oneCell') = true := by simp [Value.oneCell']
  have Hr2 := Lib.hid hr2
  have Hb2 := Lib.hid (ext_trans Hb1.out hb2)
  clear he hr2 hb2 htx HN HC0 Hb1
  go_upto_region 5 with (have hh := hone; clear hone; refine wpList_store_re rfl _ _ rfl w2.heap.size rfl rfl rfl rfl hh (Blk.new _ _ _) ?_; intro w3 hB3 ho3; have c0 := hB3.cell 0; have c1 := hB3.cell 1; have c2 := hB3.cell 2; have c3 := hB3.cell 3; have c4 := hB3.cell 4; have c5 := hB3.cell 5; have c6 := hB3.cell 6; have c7 := hB3.cell 7)
  have hb23 : Below w2.heap.size w2 w3 := ((Below.refl _ _).alloc (Nat.le_refl _) _).trans (ho3.below (fun i hi => Nat.le_of_eq hi.symm) (by simp))
  obtain ⟨W4, hW4⟩ : ∃ W4, W4 = (w3.alloc (Obj.cells #[.int .i64 k, .int .u64 (q0 : Int), .int .u64 (q1 : Int), .int .u64 (q2 : Int), .int .u64 (q3 : Int), .slice B ks.length d, .int .i64 lo, .int .i64 hi] 27)).alloc (Obj.cells #[.int .i64 4, .int .u64 0, .int .u64 0, .int .u64 0, .int .u64 0, .slice (some ⟨w3.heap.size, 0, none⟩) 1 1, .int .i64 0, .int .i64 (-1)] 27) := ⟨_, rfl⟩
  have hb34 : Below w3.heap.size w3 W4 := by rw [hW4]; exact ext2 w3 _ _
  rw [← hW4]
  have hB4 : Blk W4 w2.heap.size 27 #[.int .i64 k, .int .u64 (q0 : Int), .int .u64 (q1 : Int), .int .u64 (q2 : Int), .int .u64 (q3 : Int), .slice B ks.length d, .int .i64 lo, .int .i64 hi] := hB3.ext hb34
  have hX4 : Blk W4 (w3.heap.size + 1) 27 #[.int .i64 4, .int .u64 0, .int .u64 0, .int .u64 0, .int .u64 0, .slice (some ⟨w3.heap.size, 0, none⟩) 1 1, .int .i64 0, .int .i64 (-1)] := by
    rw [hW4]
    have := Blk.new (w3.alloc (Obj.cells #[.int .i64 k, .int .u64 (q0 : Int), .int .u64 (q1 : Int), .int .u64 (q2 : Int), .int .u64 (q3 : Int), .slice B ks.length d, .int .i64 lo, .int .i64 hi] 27)) 27 #[.int .i64 4, .int .u64 0, .int .u64 0, .int .u64 0, .int .u64 0, .slice (some ⟨w3.heap.size, 0, none⟩) 1 1, .int .i64 0, .int .i64 (-1)]
    rwa [World.size_alloc] at this
  have hR4 : ReR (fun _ => True) W4 starAll (Array.toList #[.int .i64 4, .int .u64 0, .int .u64 0, .int .u64 0, .int .u64 0, .slice (some ⟨w3.heap.size, 0, none⟩) 1 1, .int .i64 0, .int .i64 (-1)]) := by
    unfold starAll
    rw [reR_iff]
    refine ⟨⟨by unfold isInt; omega, zero_ok, by unfold isInt; omega, by unfold isInt; omega⟩, some ⟨w3.heap.size, 0, none⟩, 1, rfl, Nat.le_refl _, by simp [maxLen], ?_⟩
    have h9 := (RowE.one w3 (Hr2.out (fun _ => True) w3)).kids (T := fun _ => True) (fun _ _ _ => trivial)
    rw [hW4]
    exact h9.ext ((Below.refl _ _).alloc (Nat.le_refl _) _)
  have Hb4 := Lib.hid (ext_trans Hb2.out (ext_trans hb23 hb34))
  have HB4 := Lib.hid hB4
  have HX4 := Lib.hid hX4
  have HR4 := Lib.hid hR4
  clear hb23 hb34 hW4 hB4 hX4 hR4 hB3 ho3 hh c0 c1 c2 c3 c4 c5 c6 c7
  have c0 := HB4.out.cell 0
  have c1 := HB4.out.cell 1
  have c2 := HB4.out.cell 2
  have c3 := HB4.out.cell 3
  have c4 := HB4.out.cell 4
  have c5 := HB4.out.cell 5
  have c6 := HB4.out.cell 6
  have c7 := HB4.out.cell 7
  obtain ⟨w5, hv5⟩ : ∃ w5, w5 = (W4.alloc (Obj.cells #[.int .i64 k, .int .u64 (q0 : Int), .int .u64 (q1 : Int), .int .u64 (q2 : Int), .int .u64 (q3 : Int), .slice B ks.length d, .int .i64 lo, .int .i64 hi] 27)).alloc (Obj.cells #[.int .i64 4, .int .u64 0, .int .u64 0, .int .u64 0, .int .u64 0, .slice (some ⟨W4.heap.size, 0, none⟩) 1 1, .int .i64 (m : Int), .int .i64 (m : Int)] 27) := ⟨_, rfl⟩
  have hb45 : Below W4.heap.size W4 w5 := by rw [hv5]; exact ext2 W4 _ _
  have hY5 : Blk w5 (W4.heap.size + 1) 27 #[.int .i64 4, .int .u64 0, .int .u64 0, .int .u64 0, .int .u64 0, .slice (some ⟨W4.heap.size, 0, none⟩) 1 1, .int .i64 (m : Int), .int .i64 (m : Int)] := by
    rw [hv5]
    have := Blk.new (W4.alloc (Obj.cells #[.int .i64 k, .int .u64 (q0 : Int), .int .u64 (q1 : Int), .int .u64 (q2 : Int), .int .u64 (q3 : Int), .slice B ks.length d, .int .i64 lo, .int .i64 hi] 27)) 27 #[.int .i64 4, .int .u64 0, .int .u64 0, .int .u64 0, .int .u64 0, .slice (some ⟨W4.heap.size, 0, none⟩) 1 1, .int .i64 (m : Int), .int .i64 (m : Int)]
    rwa [World.size_alloc] at this
  have hT5 : ReR (fun _ => True) w5 (timesAll m) (Array.toList #[.int .i64 4, .int .u64 0, .int .u64 0, .int .u64 0, .int .u64 0, .slice (some ⟨W4.heap.size, 0, none⟩) 1 1, .int .i64 (m : Int), .int .i64 (m : Int)]) := by
    unfold timesAll
    rw [reR_iff]
    refine ⟨⟨by unfold isInt; omega, zero_ok, Hn.out, Hn.out⟩, some ⟨W4.heap.size, 0, none⟩, 1, rfl, Nat.le_refl _, by simp [maxLen], ?_⟩
    have h9 := (RowE.one W4 (Hr2.out (fun _ => True) W4)).kids (T := fun _ => True) (fun _ _ _ => trivial)
    rw [hv5]
    exact h9.ext ((Below.refl _ _).alloc (Nat.le_refl _) _)
  have Hb5 := Lib.hid (ext_trans Hb4.out hb45)
  have HX5 := Lib.hid (HX4.out.ext hb45)
  have HR5 := Lib.hid (HR4.out.ext hb45)
  have HY5 := Lib.hid hY5
  have HT5 := Lib.hid hT5
  clear hb45 hY5 hT5 Hb4 HB4 HX4 HR4
  go_upto_region 6 with (fail)
  rw [← hv5]
  have HV5 := Lib.hid hv5
  clear hv5 c0 c1 c2 c3 c4 c5 c6 c7
  have hlt := natsOf_lt s
  have hml := match_starAll (natsOf s) hlt
  have hll := (lastI_match starAll (natsOf s)).2 hml
  rw [natsOf_len] at hll
  have hmt := match_timesAll m (by omega) (by omega) (natsOf s) hlt
  rw [natsOf_len] at hmt
  have hle := ends_starAll (natsOf s) hlt
  rw [natsOf_len] at hle
  have Hml := Lib.hid hml
  have Hll := Lib.hid hll
  have Hmt := Lib.hid hmt
  have Hle := Lib.hid hle
  have hsm : s.size ≤ 1000000 := by omega
  clear hml hll hmt hle hlt
  have HC := Lib.hid (by have := match_any _ _ s w5 (Ht.out.ext Hb5.out) HR5.out hsm; rwa [Hml.out] at this)
  have c0 := HX5.out.cell 0
  have c1 := HX5.out.cell 1
  have c2 := HX5.out.cell 2
  have c3 := HX5.out.cell 3
  have c4 := HX5.out.cell 4
  have c5 := HX5.out.cell 5
  have c6 := HX5.out.cell 6
  have c7 := HX5.out.cell 7
  have d0 := HY5.out.cell 0
  have d1 := HY5.out.cell 1
  have d2 := HY5.out.cell 2
  have d3 := HY5.out.cell 3
  have d4 := HY5.out.cell 4
  have d5 := HY5.out.cell 5
  have d6 := HY5.out.cell 6
  have d7 := HY5.out.cell 7
  go_wp2_with fail
  refine HC.out.mono ?_
  rintro e w6 ⟨rfl, hb⟩
  have Hb6 := Lib.hid (ext_trans Hb5.out hb)
  have HR6 := Lib.hid (HR5.out.ext hb)
  have HT6 := Lib.hid (HT5.out.ext hb)
  have HX6 := Lib.hid (HX5.out.ext hb)
  have HY6 := Lib.hid (HY5.out.ext hb)
  clear hb HC Hb5 HR5 HT5 HX5 HY5
  clear c0 c1 c2 c3 c4 c5 c6 c7 d0 d1 d2 d3 d4 d5 d6 d7
  have HC := Lib.hid (by have := longest_any _ _ s 0 w6 (Ht.out.ext Hb6.out) HR6.out hsm; rwa [Hll.out] at this)
  have c0 := HX6.out.cell 0
  have c1 := HX6.out.cell 1
  have c2 := HX6.out.cell 2
  have c3 := HX6.out.cell 3
  have c4 := HX6.out.cell 4
  have c5 := HX6.out.cell 5
  have c6 := HX6.out.cell 6
  have c7 := HX6.out.cell 7
  have d0 := HY6.out.cell 0
  have d1 := HY6.out.cell 1
  have d2 := HY6.out.cell 2
  have d3 := HY6.out.cell 3
  have d4 := HY6.out.cell 4
  have d5 := HY6.out.cell 5
  have d6 := HY6.out.cell 6
  have d7 := HY6.out.cell 7
  go_wp2_with fail
  refine HC.out.mono ?_
  rintro e w7 ⟨rfl, hb⟩
  have Hb7 := Lib.hid (ext_trans Hb6.out hb)
  have HR7 := Lib.hid (HR6.out.ext hb)
  have HT7 := Lib.hid (HT6.out.ext hb)
  have HX7 := Lib.hid (HX6.out.ext hb)
  have HY7 := Lib.hid (HY6.out.ext hb)
  clear hb HC Hb6 HR6 HT6 HX6 HY6
  clear c0 c1 c2 c3 c4 c5 c6 c7 d0 d1 d2 d3 d4 d5 d6 d7
  have HC := Lib.hid (by have := match_any _ _ s w7 (Ht.out.ext Hb7.out) HT7.out hsm; rwa [Hmt.out] at this)
  have c0 := HX7.out.cell 0
  have c1 := HX7.out.cell 1
  have c2 := HX7.out.cell 2
  have c3 := HX7.out.cell 3
  have c4 := HX7.out.cell 4
  have c5 := HX7.out.cell 5
  have c6 := HX7.out.cell 6
  have c7 := HX7.out.cell 7
  have d0 := HY7.out.cell 0
  have d1 := HY7.out.cell 1
  have d2 := HY7.out.cell 2
  have d3 := HY7.out.cell 3
  have d4 := HY7.out.cell 4
  have d5 := HY7.out.cell 5
  have d6 := HY7.out.cell 6
  have d7 := HY7.out.cell 7
  go_wp2_with fail
  refine HC.out.mono ?_
  rintro e w8 ⟨rfl, hb⟩
  have Hb8 := Lib.hid (ext_trans Hb7.out hb)
  have HR8 := Lib.hid (HR7.out.ext hb)
  have HT8 := Lib.hid (HT7.out.ext hb)
  have HX8 := Lib.hid (HX7.out.ext hb)
  have HY8 := Lib.hid (HY7.out.ext hb)
  clear hb HC Hb7 HR7 HT7 HX7 HY7
  clear c0 c1 c2 c3 c4 c5 c6 c7 d0 d1 d2 d3 d4 d5 d6 d7
  have HC := Lib.hid (by have := ends_any _ _ s 0 w8 (Ht.out.ext Hb8.out) HR8.out hsm; rwa [Hle.out] at this)
  have c0 := HX8.out.cell 0
  have c1 := HX8.out.cell 1
  have c2 := HX8.out.cell 2
  have c3 := HX8.out.cell 3
  have c4 := HX8.out.cell 4
  have c5 := HX8.out.cell 5
  have c6 := HX8.out.cell 6
  have c7 := HX8.out.cell 7
  have d0 := HY8.out.cell 0
  have d1 := HY8.out.cell 1
  have d2 := HY8.out.cell 2
  have d3 := HY8.out.cell 3
  have d4 := HY8.out.cell 4
  have d5 := HY8.out.cell 5
  have d6 := HY8.out.cell 6
  have d7 := HY8.out.cell 7
  go_wp2_with fail
  refine HC.out.mono ?_
  rintro e w9 ⟨⟨A9, c9, rfl, -⟩, hb⟩
  have Hb9 := Lib.hid (ext_trans Hb8.out hb)
  have HR9 := Lib.hid (HR8.out.ext hb)
  have HT9 := Lib.hid (HT8.out.ext hb)
  have HX9 := Lib.hid (HX8.out.ext hb)
  have HY9 := Lib.hid (HY8.out.ext hb)
  clear hb HC Hb8 HR8 HT8 HX8 HY8
  clear c0 c1 c2 c3 c4 c5 c6 c7 d0 d1 d2 d3 d4 d5 d6 d7
  go_wp2_with fail
  refine (known7_any w9 (Ht.out.ext Hb9.out)).mono ?_
  rintro e w10 ⟨rfl, hb10⟩
  go_wp2
  go_ret
  exact ⟨rfl, ext_trans Hb9.out hb10⟩
end Go.Proofs.YtmggajpecgnjkaaDoor

/-
  What stage 7's laws call heavy. No statement of the seat is proved here.
-/
namespace Go.Proofs.YtmggajpecgnjkaaDoor
open Go Go.ChangeShapes Go.WideShapes Go.ChangeAt Go.RowKit
set_option maxRecDepth 100000

set_option maxHeartbeats 2000000 in
theorem weight7_any (S : Nat → Prop) (t : Ex) : ∀ (cs : List Value) (w : World) (n : Int), ReR S w t cs → 0 ≤ n → n ≤ 1000000 →
    Calls Tryd.prog 56 #[reV cs, .int .i64 n] w fun e w' => e = .returned (.int .i64 (leftE t n)) ∧ Below w.heap.size w w' := by
  refine ex_induct (p := fun t => ∀ (cs : List Value) (w : World) (n : Int), ReR S w t cs → 0 ≤ n → n ≤ 1000000 → Calls Tryd.prog 56 #[reV cs, .int .i64 n] w fun e w' => e = .returned (.int .i64 (leftE t n)) ∧ Below w.heap.size w w') (fun k s ks lo hi ih cs w n h hn0 hn => ?_) t
  rw [reR_iff] at h
  obtain ⟨h0, A, c, rfl, h1, h2, h3⟩ := h
  have hle : leftE (.mk k s ks lo hi) n = leftL ks (n - 1) := by simp [leftE]
  rw [hle]
  unfold maxLen at h2
  have Hih := Lib.hid ih
  have H3 := Lib.hid h3
  clear ih h3 h0 hle
  unfold reV reCells
  have hB := Blk.new w 27 #[.int .i64 k, .int .u64 (wordB s 0 : Int), .int .u64 (wordB s 1 : Int), .int .u64 (wordB s 2 : Int), .int .u64 (wordB s 3 : Int), .slice A ks.length c, .int .i64 lo, .int .i64 hi]
  have hkl : (ks.length : Int) ≤ 9223372036854775807 := by omega
  go_enter Tryd.func56, Tryd.ntmps56
  go_wp2
  go_loopw [1, 5] (fun nv i wr => ∃ (j : Nat) (m : Int), j ≤ ks.length ∧ i = .int .i64 (j : Int) ∧ nv = .int .i64 m ∧ m ≤ 1000000 ∧ -1 ≤ m ∧ Hid (leftL ks (n - 1) = leftL (ks.drop j) m) ∧ Blk wr w.heap.size 27 #[.int .i64 k, .int .u64 (wordB s 0 : Int), .int .u64 (wordB s 1 : Int), .int .u64 (wordB s 2 : Int), .int .u64 (wordB s 3 : Int), .slice A ks.length c, .int .i64 lo, .int .i64 hi] ∧ Below w.heap.size w wr) (fun _ i _ => ks.length - (intOf i).toNat)
  case atStart => exact ⟨0, n - 1, Nat.zero_le _, rfl, rfl, by omega, by omega, Lib.hid rfl, hB, (Below.refl _ _).alloc (Nat.le_refl _) _⟩
  case round =>
    obtain ⟨j, m, hj, rfl, rfl, hm, hm1, hL, hB, hb⟩ := hrel
    have c5 := hB.cell 5
    by_cases hlt : j < ks.length
    · have hji : (j : Int) < (ks.length : Int) := by omega
      have hd : ks.drop j = ks[j] :: ks.drop (j + 1) := List.drop_eq_getElem_cons hlt
      by_cases hm0 : 0 ≤ m
      · have hL2 := hL.out
        rw [hd] at hL2
        simp only [leftL] at hL2
        rw [if_pos hm0] at hL2
        have HL2 := Lib.hid hL2
        have hlm := (leftE_nodes ks[j] m).1
        have hlm2 := leftE_low ks[j] m hm0
        obtain ⟨g, o, u0, u1, u2, u3, u4, u5, u6, u7, rfl, hr, x0, x1, x2, x3, x4, x5, x6, x7, -⟩ := (H3.out.ext hb).kid hlt
        have Hc := Lib.hid (Hih.out _ (List.getElem_mem hlt) _ wr m hr hm0 hm)
        obtain ⟨q, hq⟩ : ∃ q, leftE ks[j] m = q := ⟨_, rfl⟩
        rw [hq] at Hc hlm hlm2 HL2
        have HB := Lib.hid hB
        clear hr hd hL hL2 hq hB
        go_wp2_with fail
        refine Hc.out.mono ?_
        rintro e w2 ⟨rfl, hb2⟩
        go_wp2
        go_roundw
        case rel => exact ⟨j + 1, q, by omega, by go_num, rfl, by omega, hlm2, HL2, HB.out.ext hb2, ext_trans hb hb2⟩
        case measure => simp [intOf]; omega
      · have hm0' : m < 0 := by omega
        have HE : Hid (leftL ks (n - 1) = m) := Lib.hid (by rw [hL.out, hd]; simp only [leftL]; rw [if_neg hm0])
        clear hd hL hm0
        go_wp2
        go_ret
        exact ⟨by rw [HE.out]; rfl, hb⟩
    · obtain rfl : j = ks.length := by omega
      have HE : Hid (leftL ks (n - 1) = m) := Lib.hid (by rw [hL.out, List.drop_length]; rfl)
      clear hL
      go_wp2
      go_ret
      exact ⟨by rw [HE.out]; rfl, hb⟩

/-- too large to be asked -/
def heavyE (x : Ex) : Bool := decide (leftE x 150 < 0) || decide (1200 < (weightE x : Int))
theorem heavyE_nodes {x : Ex} (h : heavyE x = false) : nodesE x ≤ 150 := by
  unfold heavyE at h
  rw [Bool.or_eq_false_iff] at h
  have h1 := of_decide_eq_false h.1
  have h2 := (leftE_nodes x 150).2 (by omega)
  omega
set_option maxHeartbeats 4000000 in
theorem heavy7_any (S : Nat → Prop) (x : Ex) (cs : List Value) (w : World) (hr : ReR S w x cs) :
    Calls Tryd.prog 33 #[reV cs] w fun e w' => e = .returned (.bool (heavyE x)) ∧ Below w.heap.size w w' := by
  obtain ⟨k, q0, q1, q2, q3, ks, B, d, lo, hi, -, rfl, h1, h2, -, -, -, -, -⟩ := hr.fields
  unfold maxLen at h2
  have hB := Blk.new w 27 #[.int .i64 k, .int .u64 (q0 : Int), .int .u64 (q1 : Int), .int .u64 (q2 : Int), .int .u64 (q3 : Int), .slice B ks.length d, .int .i64 lo, .int .i64 hi]
  have hb1 : Below w.heap.size w (w.alloc (Obj.cells #[.int .i64 k, .int .u64 (q0 : Int), .int .u64 (q1 : Int), .int .u64 (q2 : Int), .int .u64 (q3 : Int), .slice B ks.length d, .int .i64 lo, .int .i64 hi] 27)) := (Below.refl _ _).alloc (Nat.le_refl _) _
  have HW := Lib.hid (weight7_any S x _ _ 150 (hr.ext hb1) (by omega) (by omega))
  have Hr1 := Lib.hid (hr.ext hb1)
  have Hb1 := Lib.hid hb1
  have HB := Lib.hid hB
  have hn := leftE_nodes x 150
  have hlow := leftE_low x 150 (by omega)
  have hex : heavyE x = (decide (leftE x 150 < 0) || decide (1200 < (weightE x : Int))) := rfl
  obtain ⟨q, hq⟩ : ∃ q, leftE x 150 = q := ⟨_, rfl⟩
  rw [hq] at HW hn hlow hex
  have hq2 : q ≤ 150 := hn.1
  have Hn := Lib.hid hn.2
  obtain ⟨t, hte⟩ : ∃ t, heavyE x = t := ⟨_, rfl⟩
  rw [hte] at hex ⊢
  clear hr hb1 hB hn hq hte
  show Calls Tryd.prog 33 #[.agg #[.int .i64 k, .int .u64 (q0 : Int), .int .u64 (q1 : Int), .int .u64 (q2 : Int), .int .u64 (q3 : Int), .slice B ks.length d, .int .i64 lo, .int .i64 hi]] w _
  have Hex := Lib.hid hex
  clear hex
  go_enter Tryd.func33, Tryd.ntmps33
  go_wp2_with fail
  refine HW.out.mono ?_
  rintro e w2 ⟨rfl, hb2⟩
  by_cases h0 : q < 0
  · go_wp2
    go_ret
    exact ⟨by rw [Hex.out, decide_eq_true h0]; rfl, ext_trans Hb1.out hb2⟩
  · have hnn : nodesE x ≤ 150 := by have := Hn.out (by omega); omega
    have hwl := weightE_le x
    have HG := Lib.hid (rweight_any S x _ w2 (Hr1.out.ext hb2) (by omega))
    have HB2 := Lib.hid (HB.out.ext hb2)
    have Hb2 := Lib.hid (ext_trans Hb1.out hb2)
    obtain ⟨z, hz⟩ : ∃ z, weightE x = z := ⟨_, rfl⟩
    have Hex2 : Hid (t = decide (1200 < (z : Int))) := Lib.hid (by rw [Hex.out, decide_eq_false h0, hz]; rfl)
    rw [hz] at HG hwl
    have Hwl := Lib.hid hwl
    clear hz hb2 hwl Hex HB Hn HW
    have c0 := HB2.out.cell 0
    have c1 := HB2.out.cell 1
    have c2 := HB2.out.cell 2
    have c3 := HB2.out.cell 3
    have c4 := HB2.out.cell 4
    have c5 := HB2.out.cell 5
    have c6 := HB2.out.cell 6
    have c7 := HB2.out.cell 7
    go_wp2_with fail
    refine HG.out.mono ?_
    rintro e w3 ⟨rfl, hb3⟩
    go_wp2
    go_ret
    exact ⟨ret_bool (by rw [Hex2.out, show decide (q < 0) = false from decide_eq_false (by omega), Bool.false_or]), ext_trans Hb2.out hb3⟩
end Go.Proofs.YtmggajpecgnjkaaDoor

/-
  LangShifts, its walk: what stands ahead only shifts. No statement of the seat is proved here (LangShifts closes it).
-/
namespace Go.Proofs.YtmggajpecgnjkaaDoor
open Go Go.ChangeShapes Go.WideShapes Go.ChangeAt Go.RowKit
set_option maxRecDepth 100000

theorem sub_shift (p s : List Nat) (i : Nat) : sub (p ++ s) p.length (p.length + i) = sub s 0 i := by
  unfold sub
  rw [List.take_length_add_append, List.drop_left, List.drop_zero]
theorem endsF_shift (P : List Nat → Prop) (p s : List Nat) : ∀ j, endsF P (p ++ s) p.length (p.length + j) = (endsF P s 0 j).map (· + p.length)
  | 0 => by rw [Nat.add_zero, endsF_self, endsF_self]; rfl
  | j + 1 => by
    have ih := endsF_shift P p s j
    by_cases h : P (sub s 0 j)
    · rw [show p.length + (j + 1) = (p.length + j) + 1 by omega, endsF_yes (by omega) (by rw [sub_shift]; exact h), endsF_yes (by omega) h, ih, List.map_append, List.map_singleton, Nat.add_comm j]
    · rw [show p.length + (j + 1) = (p.length + j) + 1 by omega, endsF_no (by omega) (by rw [sub_shift]; exact h), endsF_no (by omega) h, ih]
theorem endsI_shift (x : Ex) (p s : List Nat) : endsI x (p ++ s) (p.length : Int) = (endsI x s 0).map (· + p.length) := by
  unfold endsI
  by_cases hx : isE x = true
  · rw [if_pos ⟨by omega, by simp; omega, hx⟩, if_pos ⟨by omega, by omega, hx⟩, Int.toNat_natCast, List.length_append, Nat.add_assoc]
    exact endsF_shift _ p s _
  · rw [if_neg (fun h => hx h.2.2), if_neg (fun h => hx h.2.2)]; rfl
theorem endsF_rise (P : List Nat → Prop) (s : List Nat) (a j : Nat) : (endsF P s a j).Pairwise (· < ·) := by
  unfold endsF
  exact List.Pairwise.filter _ (List.pairwise_lt_range')
theorem endsI_rise (x : Ex) (s : List Nat) (at_ : Int) : (endsI x s at_).Pairwise (· < ·) := by
  unfold endsI
  split
  · exact endsF_rise _ _ _ _
  · exact List.Pairwise.nil
theorem endsI_le (x : Ex) (s : List Nat) (at_ : Int) : ∀ i ∈ endsI x s at_, i ≤ s.length := by
  intro i hi
  unfold endsI at hi
  split at hi
  · have := (endsF_mem.1 hi).2.1; omega
  · cases hi
theorem endsI_len (x : Ex) (s : List Nat) : (endsI x s 0).length ≤ s.length + 1 := by
  unfold endsI
  split
  · exact Nat.le_trans (endsF_len _ _ _ _) (by omega)
  · simp

set_option maxHeartbeats 4000000 in
theorem shifts_any (x : Ex) (cs : List Value) (p s : ByteArray) (w : World) (ht : Tab w) (hr : ReR (fun _ => True) w x cs) (hp : p.size ≤ 140737488355328) (hs : s.size ≤ 140737488355328) :
    Calls Tryd.prog 14 #[reV cs, .string p, .string s] w fun e w' => e = .returned (.bool true) ∧ Below w.heap.size w w' := by
  obtain ⟨k, q0, q1, q2, q3, ks, B, d, lo, hi, -, rfl, h1, h2, -, -, -, -, -⟩ := hr.fields
  unfold maxLen at h2
  obtain ⟨w1, hw1⟩ : ∃ w1, w1 = w.alloc (Obj.cells #[.int .i64 k, .int .u64 (q0 : Int), .int .u64 (q1 : Int), .int .u64 (q2 : Int), .int .u64 (q3 : Int), .slice B ks.length d, .int .i64 lo, .int .i64 hi] 27) := ⟨_, rfl⟩
  have hb1 : Below w.heap.size w w1 := by rw [hw1]; exact (Below.refl _ _).alloc (Nat.le_refl _) _
  have hB1 : Blk w1 w.heap.size 27 #[.int .i64 k, .int .u64 (q0 : Int), .int .u64 (q1 : Int), .int .u64 (q2 : Int), .int .u64 (q3 : Int), .slice B ks.length d, .int .i64 lo, .int .i64 hi] := by rw [hw1]; exact Blk.new w _ _
  have hr1 := hr.ext hb1
  have HH := Lib.hid (heavy7_any _ x _ w1 hr1)
  obtain ⟨t, hte⟩ : ∃ t, heavyE x = t := ⟨_, rfl⟩
  rw [hte] at HH
  have Hb1 := Lib.hid hb1
  have HB1 := Lib.hid hB1
  have Hr1 := Lib.hid hr1
  have Ht := Lib.hid ht
  have Hw1 := Lib.hid hw1
  clear hb1 hB1 hr1 ht hw1 hr hte
  show Calls Tryd.prog 14 #[.agg #[.int .i64 k, .int .u64 (q0 : Int), .int .u64 (q1 : Int), .int .u64 (q2 : Int), .int .u64 (q3 : Int), .slice B ks.length d, .int .i64 lo, .int .i64 hi], .string p, .string s] w _
  go_enter Tryd.func14, Tryd.ntmps14
  go_wp2_with fail
  rw [← Hw1.out]
  refine HH.out.mono ?_
  rintro e w3 ⟨rfl, hb3⟩
  have Hb3 := Lib.hid (ext_trans Hb1.out hb3)
  have HB3 := Lib.hid (HB1.out.ext hb3)
  have Hr3 := Lib.hid (Hr1.out.ext hb3)
  clear hb3 HH HB1 Hr1 Hb1
  cases t with
  | true =>
    go_wp2
    go_ret
    exact ⟨rfl, Hb3.out⟩
  | false =>
  have hsum : ((p.size : Int) + (s.size : Int)) ≤ 9223372036854775807 := by omega
  by_cases h60 : (60 : Int) < (p.size : Int) + (s.size : Int)
  · go_wp2
    go_ret
    exact ⟨rfl, Hb3.out⟩
  have h60' : (p.size : Int) + (s.size : Int) ≤ 60 := by omega
  clear h60 hsum
  have hps : p.size ≤ 60 := by omega
  have hss : s.size ≤ 60 := by omega
  have hE1 : ∀ W, Below w3.heap.size w3 W → Calls Tryd.prog 38 #[.agg #[.int .i64 k, .int .u64 (q0 : Int), .int .u64 (q1 : Int), .int .u64 (q2 : Int), .int .u64 (q3 : Int), .slice B ks.length d, .int .i64 lo, .int .i64 hi], .string (p ++ s), .int .i64 (p.size : Int)] W fun e W' => (∃ A c, e = .returned (.slice A (endsI x (natsOf s) 0).length c) ∧ RowO W' 3 1 A (endsI x (natsOf s) 0).length c (ints ((endsI x (natsOf s) 0).map (· + p.size)))) ∧ Below W.heap.size W W' := fun W hW => by
    have h := ends_any x _ (p ++ s) (p.size : Int) W (Ht.out.ext (ext_trans Hb3.out hW)) (Hr3.out.ext hW) (by rw [ByteArray.size_append]; omega)
    have e := endsI_shift x (natsOf p) (natsOf s)
    rw [natsOf_len] at e
    rw [natsOf_app, e, List.length_map] at h
    exact h
  have hE2 : ∀ W, Below w3.heap.size w3 W → Calls Tryd.prog 38 #[.agg #[.int .i64 k, .int .u64 (q0 : Int), .int .u64 (q1 : Int), .int .u64 (q2 : Int), .int .u64 (q3 : Int), .slice B ks.length d, .int .i64 lo, .int .i64 hi], .string s, .int .i64 0] W fun e W' => (∃ A c, e = .returned (.slice A (endsI x (natsOf s) 0).length c) ∧ RowO W' 3 1 A (endsI x (natsOf s) 0).length c (ints (endsI x (natsOf s) 0))) ∧ Below W.heap.size W W' := fun W hW => ends_any x _ s 0 W (Ht.out.ext (ext_trans Hb3.out hW)) (Hr3.out.ext hW) (by omega)
  have hrise := endsI_rise x (natsOf s) 0
  have hle := endsI_le x (natsOf s) 0
  have hlen := endsI_len x (natsOf s)
  rw [natsOf_len] at hle hlen
  obtain ⟨L, hL⟩ : ∃ L, endsI x (natsOf s) 0 = L := ⟨_, rfl⟩
  rw [hL] at hE1 hE2 hrise hle hlen
  have HE1 := Lib.hid hE1
  have HE2 := Lib.hid hE2
  have Hrise := Lib.hid hrise
  have Hle := Lib.hid hle
  have hll : (L.length : Int) ≤ 61 := by omega
  have HS : Hid (∀ W, Below w3.heap.size w3 W → W.cell? ⟨w.heap.size, 0, none⟩ = some (.int .i64 k) ∧ W.cell? ⟨w.heap.size, 1, none⟩ = some (.int .u64 (q0 : Int)) ∧ W.cell? ⟨w.heap.size, 2, none⟩ = some (.int .u64 (q1 : Int)) ∧ W.cell? ⟨w.heap.size, 3, none⟩ = some (.int .u64 (q2 : Int)) ∧ W.cell? ⟨w.heap.size, 4, none⟩ = some (.int .u64 (q3 : Int)) ∧ W.cell? ⟨w.heap.size, 5, none⟩ = some (.slice B ks.length d) ∧ W.cell? ⟨w.heap.size, 6, none⟩ = some (.int .i64 lo) ∧ W.cell? ⟨w.heap.size, 7, none⟩ = some (.int .i64 hi)) := Lib.hid fun W hW =>
    have kB := HB3.out.ext hW
    ⟨kB.cell 0, kB.cell 1, kB.cell 2, kB.cell 3, kB.cell 4, kB.cell 5, kB.cell 6, kB.cell 7⟩
  have HTab : Hid (∀ W, Below w3.heap.size w3 W → Tab W) := Lib.hid fun W hW => Ht.out.ext (ext_trans Hb3.out hW)
  clear hE1 hE2 hrise hle hlen hL HB3 Hr3
  have hcat : ¬ 9223372036854775807 < p.size + s.size := by omega
  have hcat2 : ¬ (9223372036854775807 : Int) < (p.size : Int) + (s.size : Int) := by omega
  go_wp2
  go_region_held3 (fun W => W.cell? ⟨w.heap.size, 0, none⟩ = some (.int .i64 k) ∧ W.cell? ⟨w.heap.size, 1, none⟩ = some (.int .u64 (q0 : Int)) ∧ W.cell? ⟨w.heap.size, 2, none⟩ = some (.int .u64 (q1 : Int)) ∧ W.cell? ⟨w.heap.size, 3, none⟩ = some (.int .u64 (q2 : Int)) ∧ W.cell? ⟨w.heap.size, 4, none⟩ = some (.int .u64 (q3 : Int)) ∧ W.cell? ⟨w.heap.size, 5, none⟩ = some (.slice B ks.length d) ∧ W.cell? ⟨w.heap.size, 6, none⟩ = some (.int .i64 lo) ∧ W.cell? ⟨w.heap.size, 7, none⟩ = some (.int .i64 hi))
    (first | exact HS.out _ (by repeat (first | exact hbx | apply ext_drew | exact Below.refl _ _)))
    (first
    | (go_at_call 38; ((with_reducible refine (HE1.out _ ?_).mono ?_)); (repeat (first | exact hbx | apply ext_drew | exact Below.refl _ _)); rintro e x1 ⟨⟨a1, a2, rfl, a3⟩, hbx'⟩; have hbx : Below w3.heap.size w3 x1 := ext_trans (by repeat (first | exact hbx | apply ext_drew | exact Below.refl _ _)) hbx')
    | (go_at_call 38; ((with_reducible refine (HE2.out _ ?_).mono ?_)); (repeat (first | exact hbx | apply ext_drew | exact Below.refl _ _)); rintro e x2 ⟨⟨b1, b2, rfl, b3⟩, hbx'⟩; have hbx : Below w3.heap.size w3 x2 := ext_trans (by repeat (first | exact hbx | apply ext_drew | exact Below.refl _ _)) hbx'))
  all_goals
    have a4 : RowO x2 3 1 a1 (L.map (· + p.size)).length a2 (ints (L.map (· + p.size))) := by rw [List.length_map]; exact a3.ext hbx'
    have Ha := Lib.hid a4
    have Hb := Lib.hid b3
    have Hx := Lib.hid hbx
    clear a3 a4 b3 hbx hbx'
    go_wp2
    go_loopw [9] (fun iv wr => ∃ (j : Nat), j ≤ L.length ∧ iv = .int .i64 (j : Int) ∧ Below x2.heap.size x2 wr) (fun iv _ => L.length - (intOf iv).toNat)
    case atStart => exact ⟨0, Nat.zero_le _, rfl, by repeat (first | exact Below.refl _ _ | apply ext_drew)⟩
    case round =>
      obtain ⟨j, hj, rfl, hbr⟩ := hrel
      by_cases hlt : j < L.length
      · have hji : (j : Int) < (L.length : Int) := by omega
        obtain ⟨ga, oa, rfl, xa⟩ := ints_at (Ha.out.ext hbr) (k := j) (by rw [List.length_map]; exact hlt)
        obtain ⟨gb, ob, rfl, xb⟩ := ints_at (Hb.out.ext hbr) hlt
        rw [List.getElem_map] at xa
        have hv := Hle.out _ (List.getElem_mem hlt)
        have hup : ∀ (i : Nat), i < j → (hi : i < L.length) → L[i] < L[j] := fun i hij hi => List.pairwise_iff_getElem.1 Hrise.out i j hi hlt hij
        by_cases hj0 : j = 0
        · have hjz : ¬ (0 : Int) < (j : Int) := by omega
          obtain ⟨v, hve⟩ : ∃ v, L[j] = v := ⟨_, rfl⟩
          rw [hve] at xa xb hv
          have hvi : (v : Int) ≤ 60 := by omega
          rw [show ((v + p.size : Nat) : Int) = (v : Int) + (p.size : Int) by omega] at xa
          clear hve hup hj0
          have hd : decide (0 < j) = false := decide_eq_false (by omega)
          clear hjz
          go_wp2
          go_quiet (fail)
          go_wp2
          go_roundw
          case rel => exact ⟨j + 1, by omega, by go_num, ext_drewN hbr _⟩
          case measure => simp [intOf]; omega
        · obtain ⟨i, hi⟩ : ∃ i : Nat, (j : Int) - 1 = (i : Int) := ⟨j - 1, by omega⟩
          have hil : i < L.length := by omega
          have hii : (i : Int) < (L.length : Int) := by omega
          obtain ⟨ga', oa', hae, xc⟩ := ints_at (Ha.out.ext hbr) (k := i) (by rw [List.length_map]; exact hil)
          rw [List.getElem_map] at xc
          injection hae with hae
          injection hae with h1 h2
          subst h1 h2
          have hu := hup i (by omega) hil
          obtain ⟨v, hve⟩ : ∃ v, L[j] = v := ⟨_, rfl⟩
          obtain ⟨u, hue⟩ : ∃ u, L[i] = u := ⟨_, rfl⟩
          rw [hve] at xa xb hv hu
          rw [hue] at xc hu
          have hvi : (v : Int) ≤ 60 := by omega
          have hui : (u : Int) < (v : Int) := by omega
          have hj1 : (0 : Int) < (j : Int) := by omega
          have hge : ¬ ((v : Int) + (p.size : Int) ≤ (u : Int) + (p.size : Int)) := by omega
          rw [show ((v + p.size : Nat) : Int) = (v : Int) + (p.size : Int) by omega] at xa
          rw [show ((u + p.size : Nat) : Int) = (u : Int) + (p.size : Int) by omega] at xc
          clear hve hue hup hj0
          have hd : decide (0 < j) = true := decide_eq_true (by omega)
          have hd2 : decide ((v : Int) + (p.size : Int) ≤ (u : Int) + (p.size : Int)) = false := decide_eq_false hge
          have hd3 : decide (v ≤ u) = false := decide_eq_false (by omega)
          clear hj1 hge
          go_wp2
          go_quiet (fail)
          go_wp2
          go_roundw
          case rel => exact ⟨j + 1, by omega, by go_num, ext_drewN hbr _⟩
          case measure => simp [intOf]; omega
      · obtain rfl : j = L.length := by omega
        go_wp2_with fail
        refine (known7_any wr (HTab.out _ (ext_trans Hx.out hbr))).mono ?_
        rintro e wk ⟨rfl, hbk⟩
        go_wp2
        go_ret
        exact ⟨rfl, ext_trans Hb3.out (ext_trans Hx.out (ext_trans hbr hbk))⟩
end Go.Proofs.YtmggajpecgnjkaaDoor
