/-
  Texts of this claim, joined (part 6): contracts and lemmas that the last text goes by. No statement of the seat is proved here.
-/
import Derived.Test.YtlddmjhpemihgaaDoorAll5
import Derived.Test.YtlddmjhpemihgaaDoorAll1
import Derived.Test.YtlddmjhpemihgaaDoorAll0
import Derived.Test.YtlddmjhpemihgaaDoorAll3
import Derived.Lib.SliceRun
set_option linter.unusedVariables false
set_option linter.unusedSimpArgs false
/-
  The contract of the program's lay. No statement of the seat is proved here.
-/
namespace Go.Proofs.YtlddmjhpemihgaaDoor
open Go Go.RowKit
set_option maxRecDepth 100000
theorem info_int : (Tryd.prog.info? 3).map (fun i => (i.zero, i.size, i.bytes)) = some (some (.int .i64 0), 1, 8) := by kernel_rfl
theorem RowO.cap {w : World} {e : TypeId} {sz : Nat} {A : Option Addr} {m c : Nat} {xs : List Value} (h : RowO w e sz A m c xs) : c ≤ maxLen := by
  rcases h.2 with ⟨_, _, h2⟩ | ⟨_, _, _, _, _, h2, _⟩
  · rw [h2]; exact Nat.zero_le _
  · exact h2
theorem plL_append (a b : List Ex) : plL (a ++ b) = plL a + plL b := by
  induction a with
  | nil => simp [plL]
  | cons x a ih => simp only [List.cons_append, plL, ih]; omega
theorem plL_take (l : List Ex) (k : Nat) (h : k < l.length) : plL (l.take (k + 1)) = plL (l.take k) + plE l[k] := by
  rw [List.take_succ_eq_append_getElem h, plL_append]; simp [plL]
theorem plL_take_le (l : List Ex) (k : Nat) : plL (l.take k) ≤ plL l := by
  conv => rhs; rw [← List.take_append_drop k l]
  rw [plL_append]; omega
theorem inAlt_iff (l : List Ex) (u : List Nat) : inAlt l u ↔ ∃ x ∈ l, inE x u := by
  induction l with
  | nil => simp [inAlt]
  | cons x l ih => simp [inAlt, ih]

set_option maxHeartbeats 16000000 in
theorem lay_empty (Q : Nat) (S : Nat → Prop) (w : World) (g : Nat) (A : Option Addr) (c : Nat) (M : List Pl) (h s r : Value) (cs : List Value) (behind : Nat) (ws : List Nat) (ks : List Ex) (lo hi : Int) (hW : WA S w g A c M h s r) (hr : ReR (fun b => b < g) w (.mk 0 ws ks lo hi) cs) (hb : behind < M.length) (hp : M.length + 0 ≤ Q) :
    Calls Tryd.prog 41 #[.pointer (some ⟨g, 0, none⟩), reV cs, .int .i64 (behind : Int)] w (LayP S w g A M h s r 0 (fun u => u = []) behind) := by
  have hgl := hW.lt
  obtain ⟨k, q0, q1, q2, q3, ks', B, d, lo', hi', e, rfl, h1, h2, -, -, -, hs4, h3⟩ := hr.fields
  injection e with e1 e2 e3 e4 e5
  subst e1 e2 e3 e4 e5
  have h2' : d ≤ maxLen := h2
  unfold maxLen at h2'
  have hdl : ks.length ≤ d := h1
  have HlA := Lib.hid hW.ltA
  have HgA := Lib.hid hW.2.2.1
  have HSg := Lib.hid hW.2.2.2
  obtain ⟨w1, hw1⟩ : ∃ w1, w1 = ((w.alloc (.cells #[.pointer (some ⟨g, 0, none⟩)] 80)).alloc (.cells #[.int .i64 0, .int .u64 (q0 : Int), .int .u64 (q1 : Int), .int .u64 (q2 : Int), .int .u64 (q3 : Int), .slice B ks.length d, .int .i64 lo, .int .i64 hi] 27)).alloc (.cells #[.int .i64 (behind : Int)] 3) := ⟨_, rfl⟩
  have hb1 : Below w.heap.size w w1 := by rw [hw1]; exact ext_alloc (ext_alloc (ext_alloc (Below.refl _ _) _) _) _
  have hs1 : w1.heap.size = w.heap.size + 1 + 1 + 1 := by rw [hw1]; simp
  have hB3 : Blk w1 w.heap.size 80 #[.pointer (some ⟨g, 0, none⟩)] := by rw [hw1]; exact ((Blk.new w _ _).alloc _).alloc _
  have hB4 : Blk w1 (w.heap.size + 1) 27 #[.int .i64 0, .int .u64 (q0 : Int), .int .u64 (q1 : Int), .int .u64 (q2 : Int), .int .u64 (q3 : Int), .slice B ks.length d, .int .i64 lo, .int .i64 hi] := by
    rw [hw1]
    have := (Blk.new (w.alloc (.cells #[.pointer (some ⟨g, 0, none⟩)] 80)) 27 #[.int .i64 0, .int .u64 (q0 : Int), .int .u64 (q1 : Int), .int .u64 (q2 : Int), .int .u64 (q3 : Int), .slice B ks.length d, .int .i64 lo, .int .i64 hi]).alloc (.cells #[.int .i64 (behind : Int)] 3)
    rwa [World.size_alloc] at this
  have hB5 : Blk w1 (w.heap.size + 1 + 1) 3 #[.int .i64 (behind : Int)] := by
    rw [hw1]
    have := Blk.new ((w.alloc (.cells #[.pointer (some ⟨g, 0, none⟩)] 80)).alloc (.cells #[.int .i64 0, .int .u64 (q0 : Int), .int .u64 (q1 : Int), .int .u64 (q2 : Int), .int .u64 (q3 : Int), .slice B ks.length d, .int .i64 lo, .int .i64 hi] 27)) 3 #[.int .i64 (behind : Int)]
    rwa [World.size_alloc, World.size_alloc] at this
  have hW1 : WA (fun b => (S b ∧ b < w.heap.size) ∨ w1.heap.size ≤ b) w1 g A c M h s r := by
    have a := hW.mono (T := fun b => S b ∧ b < w.heap.size) (fun b hb hl => ⟨hb, hl⟩) (fun b hb => hW.2.2.2 b hb.1)
    exact (a.ext hb1).mono (fun b hb _ => .inl hb) (fun b hb => hb.elim (fun h => hW.2.2.2 b h.1) (fun h => by omega))
  have H3 := Lib.hid h3
  have HB3 := Lib.hid hB3
  have HB4 := Lib.hid hB4
  have HB5 := Lib.hid hB5
  have HW1 := Lib.hid hW1
  have Hb1 := Lib.hid hb1
  have Hw1 := Lib.hid hw1
  have Hs1 := Lib.hid hs1
  have Hb := Lib.hid hb
  have Hr1 := Lib.hid (hr.ext hb1)
  have Hs4 := Lib.hid hs4
  have HSf : Hid (∀ b, (S b ∨ w.heap.size ≤ b) → b ≠ g) := Lib.hid (fun b hb => hb.elim (fun h => HSg.out b h) (fun h => by omega))
  clear hW hr h1 h2 h3 hb1 hw1 hs1 hB3 hB4 hB5 hW1 hb hs4
  show Calls Tryd.prog 41 #[.pointer (some ⟨g, 0, none⟩), .agg #[.int .i64 0, .int .u64 (q0 : Int), .int .u64 (q1 : Int), .int .u64 (q2 : Int), .int .u64 (q3 : Int), .slice B ks.length d, .int .i64 lo, .int .i64 hi], .int .i64 (behind : Int)] w _
  go_enter Tryd.func41, Tryd.ntmps41
  go_wp2
  go_ret
  exact ⟨behind, A, c, [], rfl, (by rw [List.append_nil, ← Hw1.out]; exact HW1.out.mono (fun b hb hl => hb.elim (fun h => .inl h.1) (fun h => .inr (by have := Hs1.out; omega))) HSf.out), (by rw [← Hw1.out]; exact Grew.from_ Hb1.out (Grew.refl _ _ _)), Nat.le_refl _, LayOk.refl Hb.out⟩

set_option maxHeartbeats 16000000 in
theorem lay_class (Q : Nat) (hQ : Q ≤ 1000000000) (S : Nat → Prop) (w : World) (g : Nat) (A : Option Addr) (c : Nat) (M : List Pl) (h s r : Value) (cs : List Value) (behind : Nat) (ws : List Nat) (ks : List Ex) (lo hi : Int) (hW : WA S w g A c M h s r) (hr : ReR (fun b => b < g) w (.mk 1 ws ks lo hi) cs) (hb : behind < M.length) (hp : M.length + 1 ≤ Q) :
    Calls Tryd.prog 41 #[.pointer (some ⟨g, 0, none⟩), reV cs, .int .i64 (behind : Int)] w (LayP S w g A M h s r 1 (fun u => ∃ b, u = [b] ∧ hasB ws b = true) behind) := by
  have hgl := hW.lt
  obtain ⟨k, q0, q1, q2, q3, ks', B, d, lo', hi', e, rfl, h1, h2, -, -, -, hs4, h3⟩ := hr.fields
  injection e with e1 e2 e3 e4 e5
  subst e1 e2 e3 e4 e5
  have h2' : d ≤ maxLen := h2
  unfold maxLen at h2'
  have hdl : ks.length ≤ d := h1
  have HlA := Lib.hid hW.ltA
  have HgA := Lib.hid hW.2.2.1
  have HSg := Lib.hid hW.2.2.2
  obtain ⟨w1, hw1⟩ : ∃ w1, w1 = ((w.alloc (.cells #[.pointer (some ⟨g, 0, none⟩)] 80)).alloc (.cells #[.int .i64 1, .int .u64 (q0 : Int), .int .u64 (q1 : Int), .int .u64 (q2 : Int), .int .u64 (q3 : Int), .slice B ks.length d, .int .i64 lo, .int .i64 hi] 27)).alloc (.cells #[.int .i64 (behind : Int)] 3) := ⟨_, rfl⟩
  have hb1 : Below w.heap.size w w1 := by rw [hw1]; exact ext_alloc (ext_alloc (ext_alloc (Below.refl _ _) _) _) _
  have hs1 : w1.heap.size = w.heap.size + 1 + 1 + 1 := by rw [hw1]; simp
  have hB3 : Blk w1 w.heap.size 80 #[.pointer (some ⟨g, 0, none⟩)] := by rw [hw1]; exact ((Blk.new w _ _).alloc _).alloc _
  have hB4 : Blk w1 (w.heap.size + 1) 27 #[.int .i64 1, .int .u64 (q0 : Int), .int .u64 (q1 : Int), .int .u64 (q2 : Int), .int .u64 (q3 : Int), .slice B ks.length d, .int .i64 lo, .int .i64 hi] := by
    rw [hw1]
    have := (Blk.new (w.alloc (.cells #[.pointer (some ⟨g, 0, none⟩)] 80)) 27 #[.int .i64 1, .int .u64 (q0 : Int), .int .u64 (q1 : Int), .int .u64 (q2 : Int), .int .u64 (q3 : Int), .slice B ks.length d, .int .i64 lo, .int .i64 hi]).alloc (.cells #[.int .i64 (behind : Int)] 3)
    rwa [World.size_alloc] at this
  have hB5 : Blk w1 (w.heap.size + 1 + 1) 3 #[.int .i64 (behind : Int)] := by
    rw [hw1]
    have := Blk.new ((w.alloc (.cells #[.pointer (some ⟨g, 0, none⟩)] 80)).alloc (.cells #[.int .i64 1, .int .u64 (q0 : Int), .int .u64 (q1 : Int), .int .u64 (q2 : Int), .int .u64 (q3 : Int), .slice B ks.length d, .int .i64 lo, .int .i64 hi] 27)) 3 #[.int .i64 (behind : Int)]
    rwa [World.size_alloc, World.size_alloc] at this
  have hW1 : WA (fun b => (S b ∧ b < w.heap.size) ∨ w1.heap.size ≤ b) w1 g A c M h s r := by
    have a := hW.mono (T := fun b => S b ∧ b < w.heap.size) (fun b hb hl => ⟨hb, hl⟩) (fun b hb => hW.2.2.2 b hb.1)
    exact (a.ext hb1).mono (fun b hb _ => .inl hb) (fun b hb => hb.elim (fun h => hW.2.2.2 b h.1) (fun h => by omega))
  have H3 := Lib.hid h3
  have HB3 := Lib.hid hB3
  have HB4 := Lib.hid hB4
  have HB5 := Lib.hid hB5
  have HW1 := Lib.hid hW1
  have Hb1 := Lib.hid hb1
  have Hw1 := Lib.hid hw1
  have Hs1 := Lib.hid hs1
  have Hb := Lib.hid hb
  have Hr1 := Lib.hid (hr.ext hb1)
  have Hs4 := Lib.hid hs4
  have HSf : Hid (∀ b, (S b ∨ w.heap.size ≤ b) → b ≠ g) := Lib.hid (fun b hb => hb.elim (fun h => HSg.out b h) (fun h => by omega))
  clear hW hr h1 h2 h3 hb1 hw1 hs1 hB3 hB4 hB5 hW1 hb hs4
  show Calls Tryd.prog 41 #[.pointer (some ⟨g, 0, none⟩), .agg #[.int .i64 1, .int .u64 (q0 : Int), .int .u64 (q1 : Int), .int .u64 (q2 : Int), .int .u64 (q3 : Int), .slice B ks.length d, .int .i64 lo, .int .i64 hi], .int .i64 (behind : Int)] w _
  have hb2 : Below w1.heap.size w1 (w1.alloc (Obj.cells #[.int .i64 (behind : Int)] 3)) := (Below.refl _ _).alloc (Nat.le_refl _) _
  have hCa := add_wa (HW1.out.ext hb2) ⟨false, [q0, q1, q2, q3], [behind]⟩ [.bool false, .int .u64 (q0 : Int), .int .u64 (q1 : Int), .int .u64 (q2 : Int), .int .u64 (q3 : Int), .slice (some ⟨w1.heap.size, 0, none⟩) 1 1] (plAt_set Hs4.out (l := [behind]) (Nat.le_refl _) (by simp [maxLen]) (ints_one (Blk.new w1 _ _) ⟨.inr (Nat.le_refl _), fun hin => by have := HW1.out.ltA _ hin; omega⟩)) (by omega)
  have HCa := Lib.hid hCa
  have Hb2 := Lib.hid hb2
  have hsz : w1.heap.size = w.heap.size + 1 + 1 + 1 := Hs1.out
  have HCa2 : Hid (Calls Tryd.prog 40 #[.pointer (some ⟨g, 0, none⟩), .agg #[.bool false, .int .u64 (q0 : Int), .int .u64 (q1 : Int), .int .u64 (q2 : Int), .int .u64 (q3 : Int), .slice (some ⟨w.heap.size + 1 + 1 + 1, 0, none⟩) 1 1]] (w1.alloc (Obj.cells #[.int .i64 (behind : Int)] 3)) fun e w' => e = .returned (.int .i64 (M.length : Int)) ∧ ∃ A' c', WA (fun b => (S b ∧ b < w.heap.size) ∨ w1.heap.size ≤ b) w' g A' c' (M ++ [⟨false, [q0, q1, q2, q3], [behind]⟩]) h s r ∧ Grew (w1.alloc (Obj.cells #[.int .i64 (behind : Int)] 3)) g A w' A') := Lib.hid (by rw [← hsz]; exact HCa.out)
  clear hCa HCa hb2 hsz
  go_enter Tryd.func41, Tryd.ntmps41
  go_wp2_with fail
  rw [← Hw1.out]
  refine HCa2.out.mono ?_
  rintro e w5 ⟨rfl, A5, c5, hW5, hG5⟩
  go_wp2
  go_ret
  exact ⟨M.length, A5, c5, _, rfl, hW5.mono (fun b hb hl => hb.elim (fun h => .inl h.1) (fun h => .inr (by have := Hs1.out; omega))) HSf.out, Grew.from_ Hb1.out (((Grew.refl w1 g A).ext Hb2.out).trans hG5), Nat.le_refl _, LayOk.byte Hs4.out Hb.out⟩

set_option maxHeartbeats 16000000 in
theorem lay_rep (Q : Nat) (hQ : Q ≤ 1000000000) (x : Ex) (hx : LayC Q x) (deep : Nat) (ho : oneE deep x = true) (S : Nat → Prop) (w : World) (g : Nat) (A : Option Addr) (c : Nat) (M : List Pl) (h s r : Value) (cs : List Value) (behind : Nat) (ws : List Nat) (ks : List Ex) (lo hi : Int) (hW : WA S w g A c M h s r) (hr : ReR (fun b => b < g) w (.mk 4 ws ks lo hi) cs) (hb : behind < M.length) (hp : M.length + plR lo hi ks ≤ Q) (hks : ks = [x]) (hrep : repB lo hi = true) :
    Calls Tryd.prog 41 #[.pointer (some ⟨g, 0, none⟩), reV cs, .int .i64 (behind : Int)] w (LayP S w g A M h s r (plR lo hi ks) (inRep lo hi ks) behind) := by
  have hgl := hW.lt
  obtain ⟨k, q0, q1, q2, q3, ks', B, d, lo', hi', e, rfl, h1, h2, -, -, -, hs4, h3⟩ := hr.fields
  injection e with e1 e2 e3 e4 e5
  subst e1 e2 e3 e4 e5
  have h2' : d ≤ maxLen := h2
  unfold maxLen at h2'
  have hdl : ks.length ≤ d := h1
  have HlA := Lib.hid hW.ltA
  have HgA := Lib.hid hW.2.2.1
  have HSg := Lib.hid hW.2.2.2
  obtain ⟨w1, hw1⟩ : ∃ w1, w1 = ((w.alloc (.cells #[.pointer (some ⟨g, 0, none⟩)] 80)).alloc (.cells #[.int .i64 4, .int .u64 (q0 : Int), .int .u64 (q1 : Int), .int .u64 (q2 : Int), .int .u64 (q3 : Int), .slice B ks.length d, .int .i64 lo, .int .i64 hi] 27)).alloc (.cells #[.int .i64 (behind : Int)] 3) := ⟨_, rfl⟩
  have hb1 : Below w.heap.size w w1 := by rw [hw1]; exact ext_alloc (ext_alloc (ext_alloc (Below.refl _ _) _) _) _
  have hs1 : w1.heap.size = w.heap.size + 1 + 1 + 1 := by rw [hw1]; simp
  have hB3 : Blk w1 w.heap.size 80 #[.pointer (some ⟨g, 0, none⟩)] := by rw [hw1]; exact ((Blk.new w _ _).alloc _).alloc _
  have hB4 : Blk w1 (w.heap.size + 1) 27 #[.int .i64 4, .int .u64 (q0 : Int), .int .u64 (q1 : Int), .int .u64 (q2 : Int), .int .u64 (q3 : Int), .slice B ks.length d, .int .i64 lo, .int .i64 hi] := by
    rw [hw1]
    have := (Blk.new (w.alloc (.cells #[.pointer (some ⟨g, 0, none⟩)] 80)) 27 #[.int .i64 4, .int .u64 (q0 : Int), .int .u64 (q1 : Int), .int .u64 (q2 : Int), .int .u64 (q3 : Int), .slice B ks.length d, .int .i64 lo, .int .i64 hi]).alloc (.cells #[.int .i64 (behind : Int)] 3)
    rwa [World.size_alloc] at this
  have hB5 : Blk w1 (w.heap.size + 1 + 1) 3 #[.int .i64 (behind : Int)] := by
    rw [hw1]
    have := Blk.new ((w.alloc (.cells #[.pointer (some ⟨g, 0, none⟩)] 80)).alloc (.cells #[.int .i64 4, .int .u64 (q0 : Int), .int .u64 (q1 : Int), .int .u64 (q2 : Int), .int .u64 (q3 : Int), .slice B ks.length d, .int .i64 lo, .int .i64 hi] 27)) 3 #[.int .i64 (behind : Int)]
    rwa [World.size_alloc, World.size_alloc] at this
  have hW1 : WA (fun b => (S b ∧ b < w.heap.size) ∨ w1.heap.size ≤ b) w1 g A c M h s r := by
    have a := hW.mono (T := fun b => S b ∧ b < w.heap.size) (fun b hb hl => ⟨hb, hl⟩) (fun b hb => hW.2.2.2 b hb.1)
    exact (a.ext hb1).mono (fun b hb _ => .inl hb) (fun b hb => hb.elim (fun h => hW.2.2.2 b h.1) (fun h => by omega))
  have H3 := Lib.hid h3
  have HB3 := Lib.hid hB3
  have HB4 := Lib.hid hB4
  have HB5 := Lib.hid hB5
  have HW1 := Lib.hid hW1
  have Hb1 := Lib.hid hb1
  have Hw1 := Lib.hid hw1
  have Hs1 := Lib.hid hs1
  have Hb := Lib.hid hb
  have Hr1 := Lib.hid (hr.ext hb1)
  have Hs4 := Lib.hid hs4
  have HSf : Hid (∀ b, (S b ∨ w.heap.size ≤ b) → b ≠ g) := Lib.hid (fun b hb => hb.elim (fun h => HSg.out b h) (fun h => by omega))
  clear hW hr h1 h2 h3 hb1 hw1 hs1 hB3 hB4 hB5 hW1 hb hs4
  show Calls Tryd.prog 41 #[.pointer (some ⟨g, 0, none⟩), .agg #[.int .i64 4, .int .u64 (q0 : Int), .int .u64 (q1 : Int), .int .u64 (q2 : Int), .int .u64 (q3 : Int), .slice B ks.length d, .int .i64 lo, .int .i64 hi], .int .i64 (behind : Int)] w _
  have hC := repeat_of Q hQ x hx _ w1 g A c M h s r [.int .i64 4, .int .u64 (q0 : Int), .int .u64 (q1 : Int), .int .u64 (q2 : Int), .int .u64 (q3 : Int), .slice B ks.length d, .int .i64 lo, .int .i64 hi] behind deep [q0, q1, q2, q3] lo hi HW1.out (by have := Hr1.out; rw [hks] at this ⊢; exact this) Hb.out hrep (by rw [← hks]; exact hp) ho
  rw [← hks] at hC
  have HC := Lib.hid hC
  clear hC hx hp ho hks hrep
  go_enter Tryd.func41, Tryd.ntmps41
  go_wp2_with fail
  rw [← Hw1.out]
  refine HC.out.mono ?_
  rintro e w5 ⟨p, A5, c5, N, rfl, hW5, hG5, hN, hL⟩
  go_wp2
  go_ret
  exact ⟨p, A5, c5, N, rfl, (hW5.mono (T := (fun b => (S b ∧ b < w.heap.size) ∨ w1.heap.size ≤ b)) (fun b hb _ => hb.elim id (fun h => .inr h)) HW1.out.2.2.2).mono (fun b hb hl => hb.elim (fun h => .inl h.1) (fun h => .inr (by have := Hs1.out; omega))) HSf.out, Grew.from_ Hb1.out hG5, hN, hL⟩

set_option maxHeartbeats 16000000 in
theorem lay_alt (Q : Nat) (hQ : Q ≤ 1000000000) (deep : Nat) (S : Nat → Prop) (w : World) (g : Nat) (A : Option Addr) (c : Nat) (M : List Pl) (h s r : Value) (cs : List Value) (behind : Nat) (ws : List Nat) (ks : List Ex) (hks : ∀ x ∈ ks, LayC Q x) (ho : ∀ x ∈ ks, oneE deep x = true) (hl : ks.length ≤ 128) (lo hi : Int) (hW : WA S w g A c M h s r) (hr : ReR (fun b => b < g) w (.mk 3 ws ks lo hi) cs) (hb : behind < M.length) (hp : M.length + (plL ks + 1) ≤ Q) :
    Calls Tryd.prog 41 #[.pointer (some ⟨g, 0, none⟩), reV cs, .int .i64 (behind : Int)] w (LayP S w g A M h s r (plL ks + 1) (inAlt ks) behind) := by
  have hgl := hW.lt
  obtain ⟨k, q0, q1, q2, q3, ks', B, d, lo', hi', e, rfl, h1, h2, -, -, -, hs4, h3⟩ := hr.fields
  injection e with e1 e2 e3 e4 e5
  subst e1 e2 e3 e4 e5
  have h2' : d ≤ maxLen := h2
  unfold maxLen at h2'
  have hdl : ks.length ≤ d := h1
  have HlA := Lib.hid hW.ltA
  have HgA := Lib.hid hW.2.2.1
  have HSg := Lib.hid hW.2.2.2
  obtain ⟨w1, hw1⟩ : ∃ w1, w1 = ((w.alloc (.cells #[.pointer (some ⟨g, 0, none⟩)] 80)).alloc (.cells #[.int .i64 3, .int .u64 (q0 : Int), .int .u64 (q1 : Int), .int .u64 (q2 : Int), .int .u64 (q3 : Int), .slice B ks.length d, .int .i64 lo, .int .i64 hi] 27)).alloc (.cells #[.int .i64 (behind : Int)] 3) := ⟨_, rfl⟩
  have hb1 : Below w.heap.size w w1 := by rw [hw1]; exact ext_alloc (ext_alloc (ext_alloc (Below.refl _ _) _) _) _
  have hs1 : w1.heap.size = w.heap.size + 1 + 1 + 1 := by rw [hw1]; simp
  have hB3 : Blk w1 w.heap.size 80 #[.pointer (some ⟨g, 0, none⟩)] := by rw [hw1]; exact ((Blk.new w _ _).alloc _).alloc _
  have hB4 : Blk w1 (w.heap.size + 1) 27 #[.int .i64 3, .int .u64 (q0 : Int), .int .u64 (q1 : Int), .int .u64 (q2 : Int), .int .u64 (q3 : Int), .slice B ks.length d, .int .i64 lo, .int .i64 hi] := by
    rw [hw1]
    have := (Blk.new (w.alloc (.cells #[.pointer (some ⟨g, 0, none⟩)] 80)) 27 #[.int .i64 3, .int .u64 (q0 : Int), .int .u64 (q1 : Int), .int .u64 (q2 : Int), .int .u64 (q3 : Int), .slice B ks.length d, .int .i64 lo, .int .i64 hi]).alloc (.cells #[.int .i64 (behind : Int)] 3)
    rwa [World.size_alloc] at this
  have hB5 : Blk w1 (w.heap.size + 1 + 1) 3 #[.int .i64 (behind : Int)] := by
    rw [hw1]
    have := Blk.new ((w.alloc (.cells #[.pointer (some ⟨g, 0, none⟩)] 80)).alloc (.cells #[.int .i64 3, .int .u64 (q0 : Int), .int .u64 (q1 : Int), .int .u64 (q2 : Int), .int .u64 (q3 : Int), .slice B ks.length d, .int .i64 lo, .int .i64 hi] 27)) 3 #[.int .i64 (behind : Int)]
    rwa [World.size_alloc, World.size_alloc] at this
  have hW1 : WA (fun b => (S b ∧ b < w.heap.size) ∨ w1.heap.size ≤ b) w1 g A c M h s r := by
    have a := hW.mono (T := fun b => S b ∧ b < w.heap.size) (fun b hb hl => ⟨hb, hl⟩) (fun b hb => hW.2.2.2 b hb.1)
    exact (a.ext hb1).mono (fun b hb _ => .inl hb) (fun b hb => hb.elim (fun h => hW.2.2.2 b h.1) (fun h => by omega))
  have H3 := Lib.hid h3
  have HB3 := Lib.hid hB3
  have HB4 := Lib.hid hB4
  have HB5 := Lib.hid hB5
  have HW1 := Lib.hid hW1
  have Hb1 := Lib.hid hb1
  have Hw1 := Lib.hid hw1
  have Hs1 := Lib.hid hs1
  have Hb := Lib.hid hb
  have Hr1 := Lib.hid (hr.ext hb1)
  have Hs4 := Lib.hid hs4
  have HSf : Hid (∀ b, (S b ∨ w.heap.size ≤ b) → b ≠ g) := Lib.hid (fun b hb => hb.elim (fun h => HSg.out b h) (fun h => by omega))
  clear hW hr h1 h2 h3 hb1 hw1 hs1 hB3 hB4 hB5 hW1 hb hs4
  show Calls Tryd.prog 41 #[.pointer (some ⟨g, 0, none⟩), .agg #[.int .i64 3, .int .u64 (q0 : Int), .int .u64 (q1 : Int), .int .u64 (q2 : Int), .int .u64 (q3 : Int), .slice B ks.length d, .int .i64 lo, .int .i64 hi], .int .i64 (behind : Int)] w _
  have hli : (ks.length : Int) ≤ 128 := by omega
  have Hks := Lib.hid hks
  have Ho := Lib.hid ho
  have Hp := Lib.hid hp
  have y0 := HB4.out.cell 0
  clear hks ho hp
  go_enter Tryd.func41, Tryd.ntmps41
  go_wp2_with fail
  rw [← Hw1.out]
  go_loopw [9, 39] (fun nv iv wr => ∃ (i : Nat) (ps : List Nat) (A9 : Option Addr) (c9 : Nat) (A1 : Option Addr) (c1 : Nat) (N : List Pl), nv = .slice A9 i c9 ∧ iv = .int .i64 (i : Int) ∧ i ≤ ks.length ∧ ps.length = i ∧ Hid (RowO wr 3 1 A9 i c9 (ps.map fun (p : Nat) => .int .i64 (p : Int))) ∧ Hid (∀ b, inA A9 b → w1.heap.size ≤ b ∧ ¬ inA A1 b) ∧ Hid (WA (fun b => ((S b ∧ b < w.heap.size) ∨ w1.heap.size ≤ b) ∧ ¬ inA A9 b) wr g A1 c1 (M ++ N) h s r) ∧ Hid (Grew w1 g A wr A1) ∧ Hid (N.length ≤ plL (ks.take i)) ∧ Hid (AltOk M.length N ((ks.take i).map inE) ps behind)) (fun _ iv _ => ks.length - (intOf iv).toNat)
  case atStart => exact ⟨0, [], none, 0, A, c, [], rfl, rfl, by omega, rfl, Lib.hid (RowO.none_ _ _ _), Lib.hid (fun b hb => absurd hb (inA_none b)), Lib.hid (by rw [List.append_nil]; exact HW1.out.mono (fun b hb _ => ⟨hb, inA_none b⟩) (fun b hb => HW1.out.2.2.2 b hb.1)), Lib.hid (Grew.refl _ _ _), Lib.hid (by simp [plL]), Lib.hid (by simpa using AltOk.nil M.length behind)⟩
  case round =>
    obtain ⟨i, ps, A9, c9, A1, c1, N, rfl, rfl, hi, hps, hrow, HA9, HWr, HG, HN, HL⟩ := hrel
    have Hs : Hid (w1.heap.size ≤ wr.heap.size) := Lib.hid HG.out.1.size
    have hne : ∀ b, w.heap.size ≤ b → b < w1.heap.size → b ≠ g ∧ ¬ inA A b := fun b h1 h2 => ⟨by omega, fun hin => by have := HlA.out b hin; omega⟩
    have hb3 := HG.out.blk HB3.out (hne _ (by omega) (by have := Hs1.out; omega)).1 (hne _ (by omega) (by have := Hs1.out; omega)).2
    have hb4 := HG.out.blk HB4.out (hne _ (by omega) (by have := Hs1.out; omega)).1 (hne _ (by omega) (by have := Hs1.out; omega)).2
    have hb5 := HG.out.blk HB5.out (hne _ (by omega) (by have := Hs1.out; omega)).1 (hne _ (by omega) (by have := Hs1.out; omega)).2
    by_cases hlt : i < ks.length
    · have hii : (i : Int) < (ks.length : Int) := by omega
      have hk := H3.out.kidX hlt
      obtain ⟨kb, ko, k', r0, r1, r2, r3, ks', B', d', lo2, hi2, rfl, -, hrk, x0, x1, x2, x3, x4, x5, x6, x7, hkb⟩ := hk
      have hkbA : ¬ inA A kb := fun hin => by have := HgA.out kb hin; omega
      have fr : ∀ (o : Nat) (v : Value), w.cell? ⟨kb, o, none⟩ = some v → wr.cell? ⟨kb, o, none⟩ = some v := fun o v hv => by
        have hl := World.block_lt_of_cell? w _ hv
        have hl' : kb < w.heap.size := hl
        have e1 := World.cell?_of_block (a := ⟨kb, o, none⟩) (Hb1.out.block kb hl')
        have e2 := World.cell?_of_block (a := ⟨kb, o, none⟩) (HG.out.1.block kb (by have := Hs1.out; omega) (fun h => h.elim (fun h => by omega) (fun h => hkbA h)))
        exact e2.trans (e1.trans hv)
      have y0 := fr _ _ x0
      have y1 := fr _ _ x1
      have y2 := fr _ _ x2
      have y3 := fr _ _ x3
      have y4 := fr _ _ x4
      have y5 := fr _ _ x5
      have y6 := fr _ _ x6
      have y7 := fr _ _ x7
      have z3 := hb3.cell 0
      have z5 := hb5.cell 0
      have hrk2 : ReR (fun b => b < g) wr ks[i] [.int .i64 k', .int .u64 (r0 : Int), .int .u64 (r1 : Int), .int .u64 (r2 : Int), .int .u64 (r3 : Int), .slice B' ks'.length d', .int .i64 lo2, .int .i64 hi2] := HG.out.re HgA.out (hrk.ext Hb1.out)
      have hone : (#[.int .i64 k', .int .u64 (r0 : Int), .int .u64 (r1 : Int), .int .u64 (r2 : Int), .int .u64 (r3 : Int), .slice B' ks'.length d', .int .i64 lo2, .int .i64 hi2] : Array Value).all (·.oneCell') = true := by simp [Value.oneCell']
      have Hrk2 := Lib.hid hrk2
      have Hb3r := Lib.hid hb3
      have Hb4r := Lib.hid hb4
      have Hb5r := Lib.hid hb5
      have hkE : plE ks[i] ≤ plL (ks.take (i + 1)) - plL (ks.take i) ∧ plL (ks.take (i + 1)) ≤ plL ks := ⟨by rw [plL_take ks i hlt]; omega, plL_take_le ks (i + 1)⟩
      have hkL : plL (ks.take (i + 1)) = plL (ks.take i) + plE ks[i] := plL_take ks i hlt
      clear x0 x1 x2 x3 x4 x5 x6 x7 fr hrk hrk2 hb3 hb4 hb5 hkbA
      go_wp2_with (refine wpList_store_re rfl _ _ rfl wr.heap.size rfl rfl rfl rfl hone (Blk.new wr _ _) ?_; intro w2 hB2 ho2; have hbl2 : Below wr.heap.size wr w2 := ((Below.refl _ _).alloc (Nat.le_refl _) _).trans (ho2.below (fun i hi => by omega) (by simp)); have z3' := (Hb3r.out.ext hbl2).cell 0; have z5' := (Hb5r.out.ext hbl2).cell 0; have u0 := hB2.cell 0; have u1 := hB2.cell 1; have u2 := hB2.cell 2; have u3 := hB2.cell 3; have u4 := hB2.cell 4; have u5 := hB2.cell 5; have u6 := hB2.cell 6; have u7 := hB2.cell 7)
      have Hbl2 := Lib.hid hbl2
      have HW2 := Lib.hid (HWr.out.ext hbl2)
      have hrow2 := Lib.hid (hrow.out.ext hbl2)
      have hlen2 : (M ++ N).length = M.length + N.length := List.length_append
      have hp2 := Hp.out
      have hN2 := HN.out
      have HC := Lib.hid (Hks.out _ (List.getElem_mem hlt) _ w2 g A1 c1 (M ++ N) h s r _ behind deep HW2.out (Hrk2.out.ext hbl2) (by rw [hlen2]; have := Hb.out; omega) (by rw [hlen2]; omega) (Ho.out _ (List.getElem_mem hlt)))
      have Hs2 : Hid (wr.heap.size ≤ w2.heap.size) := Lib.hid hbl2.size
      clear hB2 ho2 hbl2 z3 z5 y0 y1 y2 y3 y4 y5 y6 y7 z3' z5' u0 u1 u2 u3 u4 u5 u6 u7 hlen2 hp2 hN2 hone
      refine HC.out.mono ?_
      rintro e w3 ⟨p3, A3, c3, N3, rfl, hW3, hG3, hN3, hL3⟩
      have Hs3 : Hid (w2.heap.size ≤ w3.heap.size) := Lib.hid hG3.1.size
      have hl9 : ∀ b, inA A9 b → b < w2.heap.size := fun b hb => hrow2.out.lt hb
      have hd9 : ∀ b, inA A9 b → ¬ (b = g ∨ inA A1 b) := fun b hb h => h.elim (fun e => by have := (HA9.out b hb).1; have := Hs1.out; omega) (fun e => (HA9.out b hb).2 e)
      have hrow3 := hrow2.out.only hG3.1 hd9
      have hA93 : ∀ b, inA A9 b → ¬ inA A3 b := fun b hb hin => (hG3.2 b hin).elim (fun h => (HA9.out b hb).2 h) (fun h => by have := hl9 b hb; omega)
      have HA93 := Lib.hid hA93
      have Hl9 := Lib.hid hl9
      have HW3 : Hid (WA (fun b => ((S b ∧ b < w.heap.size) ∨ w1.heap.size ≤ b) ∧ ¬ inA A9 b) w3 g A3 c3 (M ++ N ++ N3) h s r) := Lib.hid (hW3.mono (fun b hb _ => hb.elim id (fun h => ⟨.inr (by have := Hs.out; have := Hs2.out; omega), fun hin => by have := Hl9.out b hin; omega⟩)) HWr.out.2.2.2)
      have HG3 := Lib.hid ((HG.out.ext Hbl2.out).trans hG3)
      have Hrow3 := Lib.hid hrow3
      have HN3 := Lib.hid hN3
      have HL3 : Hid (LayOk (M.length + N.length) N3 (inE ks[i]) p3 behind) := Lib.hid (by rw [List.length_append] at hL3; exact hL3)
      have Hm1 : Hid (i + 1 ≤ maxLen) := Lib.hid (by unfold maxLen; omega)
      clear hW3 hG3 hN3 hL3 hrow3 hA93 hd9 hl9 HC hrow2
      go_wp2_with (refine wpList_appO _ rfl (.tmp 43) (.tmp 48) _ rfl _ _ 1 8 Tryd.underlying38 info_int rfl A9 i c9 (ps.map fun (p : Nat) => .int .i64 (p : Int)) rfl (Hrow3.out.alloc _) (some ⟨w3.heap.size, 0, none⟩) 1 1 [.int .i64 (p3 : Int)] rfl rfl (Rd.lit w3 #[.int .i64 (p3 : Int)] 3) (by intro u hu; simp at hu; subst hu; rfl) (by intro h; cases h) Hm1.out (by omega) ?_; intro A7 c7 w7 hrow7 honly7 hA7)
      have hb34 : Below w3.heap.size w3 (w3.alloc (Obj.cells #[.int .i64 (p3 : Int)] 3)) := (Below.refl _ _).alloc (Nat.le_refl _) _
      have hl3 : ∀ b, inA A3 b → b < w3.heap.size := HW3.out.ltA
      have HA7 : Hid (∀ b, inA A7 b → w1.heap.size ≤ b ∧ ¬ inA A3 b) := Lib.hid (fun b hb => (hA7 b hb).elim (fun h => ⟨(HA9.out b h).1, HA93.out b h⟩) (fun h => ⟨by have := h.1; simp at this; have := Hs.out; have := Hs2.out; have := Hs3.out; omega, fun hin => by have := hl3 b hin; have := h.1; simp at this; omega⟩))
      have HW7 : Hid (WA (fun b => ((S b ∧ b < w.heap.size) ∨ w1.heap.size ≤ b) ∧ ¬ inA A7 b) w7 g A3 c3 (M ++ (N ++ N3)) h s r) := Lib.hid (by
        rw [← List.append_assoc]
        have a := (HW3.out.ext hb34).only honly7 (fun b hb => ⟨by have := (HA9.out b hb).1; have := Hs1.out; omega, HA93.out b hb, fun h => h.2 hb⟩)
        -- blocks of the places' are none of the new row's
        have hbd : ∀ b, b < (w3.alloc (Obj.cells #[.int .i64 (p3 : Int)] 3)).heap.size → ¬ inA A9 b → ¬ inA A7 b := fun b hl h hin => (hA7 b hin).elim h (fun h2 => by omega)
        have a2 := (HW3.out.ext hb34).mono (T := fun b => (((S b ∧ b < w.heap.size) ∨ w1.heap.size ≤ b) ∧ ¬ inA A9 b) ∧ ¬ inA A7 b) (fun b hb hl => ⟨hb, hbd b hl hb.2⟩) (fun b hb => HW3.out.2.2.2 b hb.1)
        exact ((a2.only honly7 (fun b hb => ⟨by have := (HA9.out b hb).1; have := Hs1.out; omega, HA93.out b hb, fun h => h.1.2 hb⟩)).mono (fun b hb _ => ⟨hb.1.1, hb.2⟩) (fun b hb => HW1.out.2.2.2 b hb.1)))
      have HG7 : Hid (Grew w1 g A w7 A3) := Lib.hid (by
        have a := HG3.out.ext hb34
        exact ⟨a.1.trans honly7 (fun b hb h => by have := (HA9.out b h).1; omega), fun b hb => (a.2 b hb).imp id (fun h => ⟨h.1, Nat.lt_of_lt_of_le h.2 honly7.size⟩)⟩)
      have HL7 : Hid (AltOk M.length (N ++ N3) ((ks.take (i + 1)).map inE) (ps ++ [p3]) behind) := Lib.hid (by
        rw [List.take_succ_eq_append_getElem hlt, List.map_append]
        exact HL.out.snoc HL3.out)
      have HN7 : Hid ((N ++ N3).length ≤ plL (ks.take (i + 1))) := Lib.hid (by rw [List.length_append, hkL]; have := HN.out; have := HN3.out; omega)
      have Hrow7 : Hid (RowO w7 3 1 A7 (i + 1) c7 ((ps ++ [p3]).map fun (p : Nat) => .int .i64 (p : Int))) := Lib.hid (by rw [List.map_append]; exact hrow7)
      clear hrow7 honly7 hA7 hb34 hl3
      go_wp2
      go_roundw
      case rel => exact ⟨i + 1, ps ++ [p3], A7, c7, A3, c3, N ++ N3, rfl, by simp, by omega, by simp [hps], Hrow7, HA7, HW7, HG7, HN7, HL7⟩
      case measure => simp [intOf]; omega
    · obtain rfl : i = ks.length := by omega
      have z3 := hb3.cell 0
      have hints : IntsAt (fun b => (fun b => (S b ∧ b < w.heap.size) ∨ w1.heap.size ≤ b) b ∧ ¬ inA A1 b) wr A9 ps := by
        rcases hrow.out.2 with ⟨e1, e2, e3⟩ | ⟨gg, off, cs9, rfl, e1, e2, hb9, e4, e5⟩
        · exact .inl (List.eq_nil_of_length_eq_zero (by omega))
        · have h9 := HA9.out gg ((inA_some _ _ _ _).2 rfl)
          refine .inr ⟨gg, off, rfl, ⟨.inr h9.1, h9.2⟩, fun j hj => ?_⟩
          rw [hb9.cell]
          exact e5 j _ (by rw [List.getElem?_map, List.getElem?_eq_getElem hj]; rfl)
      have hW9 : WA (fun b => (S b ∧ b < w.heap.size) ∨ w1.heap.size ≤ b) wr g A1 c1 (M ++ N) h s r := HWr.out.mono (fun b hb _ => hb.1) HW1.out.2.2.2
      have hcp := hrow.out.cap
      have hle := hrow.out.le
      have hlen2 : (M ++ N).length = M.length + N.length := List.length_append
      have hN2 := HN.out
      rw [List.take_length] at hN2
      have hCa := add_wa hW9 ⟨true, zeroB, ps⟩ [.bool true, .int .u64 0, .int .u64 0, .int .u64 0, .int .u64 0, .slice A9 ps.length c9] (plAt_open (by rw [hps]; exact hle) hcp hints) (by rw [hlen2]; have := Hp.out; omega)
      rw [hps] at hCa
      have HCa := Lib.hid hCa
      have HN2 := Lib.hid hN2
      clear hCa hints hW9 hlt hb4 hb5 hb3 hcp hle hlen2 hN2
      go_wp2_with fail
      refine HCa.out.mono ?_
      rintro e w5 ⟨rfl, A5, c5, hW5, hG5⟩
      have hL := HL.out.done (by have := Hb.out; omega) (by omega)
      rw [List.take_length] at hL
      go_wp2
      go_ret
      refine ⟨(M ++ N).length, A5, c5, N ++ [⟨true, zeroB, ps⟩], by simp, ?_, Grew.from_ Hb1.out (HG.out.trans hG5), by rw [List.length_append, List.length_singleton]; have := HN2.out; omega, ?_⟩
      · rw [← List.append_assoc]
        exact hW5.mono (fun b hb hl => hb.elim (fun h => .inl h.1) (fun h => .inr (by have := Hs1.out; omega))) HSf.out
      · rw [List.length_append]
        refine hL.congr (fun u => ?_)
        rw [inAlt_iff]
        constructor
        · rintro ⟨P, hP, hu⟩
          obtain ⟨x, hx, rfl⟩ := List.mem_map.1 hP
          exact ⟨x, hx, hu⟩
        · rintro ⟨x, hx, hu⟩
          exact ⟨_, List.mem_map.2 ⟨x, hx, rfl⟩, hu⟩

/-- how far places may go, by how deep an expression stands -/
def qOf (deep : Nat) : Nat := 1000000 + deep * 300000
theorem qOf_succ (deep : Nat) : qOf deep + 300000 ≤ qOf (deep + 1) := by unfold qOf; omega
theorem qOf_le {deep : Nat} (h : deep ≤ 17) : qOf deep ≤ 1000000000 := by unfold qOf; omega
theorem qOf_ge (deep : Nat) : 1000000 ≤ qOf deep := by unfold qOf; omega
attribute [irreducible] qOf
theorem lay_any (t : Ex) : ∀ deep, oneE deep t = true → nodesE t ≤ 128 → plE t ≤ 2100 → LayC (qOf deep) t := by
  refine ex_induct (p := fun t => ∀ deep, oneE deep t = true → nodesE t ≤ 128 → plE t ≤ 2100 → LayC (qOf deep) t) (fun k ws ks lo hi ih deep h1 h2 h3 => ?_) t
  intro S w g A c M h s r cs behind deep' hW hr hb hp _
  have hd : deep ≤ 16 := by
    simp only [oneE] at h1
    split at h1
    · cases h1
    · omega
  have hlen : ks.length ≤ 128 := by have := length_nodesL ks; simp only [nodesE] at h2; omega
  have hQ : qOf deep ≤ 1000000000 := qOf_le (by omega)
  have hQ1 : qOf (deep + 1) ≤ 1000000000 := qOf_le (by omega)
  have hQ2 : qOf deep + 300000 ≤ qOf (deep + 1) := qOf_succ deep
  have hkn : ∀ x ∈ ks, nodesE x ≤ 128 := fun x hx => by have := nodesL_mem hx; simp only [nodesE] at h2; omega
  simp only [oneE] at h1
  split at h1
  · cases h1
  split at h1
  · rename_i hk
    subst hk
    have e1 : plE (.mk 0 ws ks lo hi) = 0 := by simp [plE]
    have e2 : inE (.mk 0 ws ks lo hi) = fun u => u = [] := by funext u; simp [inE]
    rw [e1] at hp ⊢
    rw [e2]
    exact lay_empty _ S w g A c M h s r cs behind ws ks lo hi hW hr hb hp
  · split at h1
    · rename_i hk
      subst hk
      have e1 : plE (.mk 1 ws ks lo hi) = 1 := by simp [plE]
      have e2 : inE (.mk 1 ws ks lo hi) = fun u => ∃ b, u = [b] ∧ hasB ws b = true := by funext u; simp [inE]
      rw [e1] at hp ⊢
      rw [e2]
      exact lay_class _ hQ S w g A c M h s r cs behind ws ks lo hi hW hr hb hp
    · split at h1
      · rename_i hk0 hk1 hk
        simp only [Bool.and_eq_true, decide_eq_true_eq, oneL_all, List.all_eq_true] at h1
        have hkp : ∀ x ∈ ks, plE x ≤ 2100 := fun x hx => by
          have := plE_le_plL hx
          rcases hk with hk | hk
          · subst hk; simp [plE] at h3; omega
          · subst hk; simp [plE] at h3; omega
        have hks : ∀ x ∈ ks, LayC (qOf (deep + 1)) x := fun x hx => ih x hx _ (h1.2 x hx) (hkn x hx) (hkp x hx)
        rcases hk with hk | hk
        · subst hk
          have e1 : plE (.mk 2 ws ks lo hi) = plL ks := by simp [plE]
          have e2 : inE (.mk 2 ws ks lo hi) = inSeq ks := by funext u; simp [inE]
          rw [e1] at hp h3 ⊢
          rw [e2]
          exact lay_seq (qOf deep) _ hQ2 hQ1 ks hks (deep + 1) h1.2 hlen (by omega) h3 S w g A c M h s r cs behind ws lo hi hW hr hb hp
        · subst hk
          have e1 : plE (.mk 3 ws ks lo hi) = plL ks + 1 := by simp [plE]
          have e2 : inE (.mk 3 ws ks lo hi) = inAlt ks := by funext u; simp [inE]
          rw [e1] at hp h3 ⊢
          rw [e2]
          exact lay_alt (qOf (deep + 1)) hQ1 (deep + 1) S w g A c M h s r cs behind ws ks hks h1.2 hlen lo hi hW hr hb (by omega)
      · split at h1
        · rename_i hk0 hk1 hk23 hk
          subst hk
          simp only [Bool.and_eq_true, decide_eq_true_eq, oneL_all, List.all_eq_true] at h1
          obtain ⟨⟨hl, hrep⟩, hall⟩ := h1
          have e1 : plE (.mk 4 ws ks lo hi) = plR lo hi ks := by simp [plE]
          have e2 : inE (.mk 4 ws ks lo hi) = inRep lo hi ks := by funext u; simp [inE]
          rw [e1] at hp h3 ⊢
          rw [e2]
          match ks, hl with
          | [x], _ =>
            have hxp : plE x ≤ 2100 := by
              have h9 := hrep
              simp only [repB, Bool.and_eq_true, Bool.or_eq_true, decide_eq_true_eq] at h9
              simp only [plR] at h3
              split at h3
              · split at h3
                · omega
                · have : 1 * plE x ≤ lo.toNat * plE x := Nat.mul_le_mul_right _ (by omega)
                  omega
              · have : 1 * plE x ≤ hi.toNat * plE x := Nat.mul_le_mul_right _ (by omega)
                omega
            exact lay_rep (qOf (deep + 1)) hQ1 x (ih x (by simp) _ (hall x (by simp)) (hkn x (by simp)) hxp) (deep + 1) (hall x (by simp)) S w g A c M h s r cs behind ws [x] lo hi hW hr hb (by omega) rfl hrep
        · cases h1
end Go.Proofs.YtlddmjhpemihgaaDoor

/-
  A walk along an expression's places: in memory; the contract of the program's enter. No statement of the seat is proved here.
-/
namespace Go.Proofs.YtlddmjhpemihgaaDoor
open Go Go.RowKit
set_option maxRecDepth 100000
def tr (rs : List Bool) (p : Nat) : Prop := rs[p]? = some true
instance (rs : List Bool) (p : Nat) : Decidable (tr rs p) := by unfold tr; infer_instance
/-- from a place, along open ones -/
inductive OpR (M : List Pl) : Nat → Nat → Prop where
  | refl (p : Nat) : OpR M p p
  | step {p y z : Nat} {q : Pl} (h : M[p]? = some q) (ho : q.open_ = true) (hy : y ∈ q.next) (k : OpR M y z) : OpR M p z
theorem OpR.trans {M : List Pl} {p y z : Nat} (h : OpR M p y) (k : OpR M y z) : OpR M p z := by
  induction h with
  | refl => exact k
  | step h ho hy _ ih => exact .step h ho hy (ih k)
structure EntW (M : List Pl) (p0 : Nat) (hs : List Nat) (rs : List Bool) (hs' : List Nat) (rs' : List Bool) : Prop where
  len : rs'.length = rs.length
  mono : ∀ p, tr rs p → tr rs' p
  reach : ∀ p, tr rs' p → tr rs p ∨ OpR M p0 p
  closed : ∀ p, tr rs' p → tr rs p ∨ ∀ q, M[p]? = some q → q.open_ = true → ∀ y ∈ q.next, tr rs' y
  here : ∃ hn, hs' = hs ++ hn ∧ ∀ p, p ∈ hn ↔ (tr rs' p ∧ ¬ tr rs p ∧ ∃ q, M[p]? = some q ∧ q.open_ = false)
  count : hs'.length + noL rs' ≤ hs.length + noL rs
theorem EntW.refl (M : List Pl) (p0 : Nat) (hs : List Nat) (rs : List Bool) : EntW M p0 hs rs hs rs :=
  ⟨rfl, fun _ h => h, fun _ h => .inl h, fun _ h => .inl h, ⟨[], by simp, fun p => ⟨fun h => (by cases h), fun ⟨h1, h2, _⟩ => absurd h1 h2⟩⟩, Nat.le_refl _⟩
theorem EntW.trans {M : List Pl} {p0 y : Nat} {hs hs1 hs2 : List Nat} {rs rs1 rs2 : List Bool} (a : EntW M p0 hs rs hs1 rs1) (hy : OpR M p0 y) (b : EntW M y hs1 rs1 hs2 rs2) : EntW M p0 hs rs hs2 rs2 := by
  refine ⟨b.len.trans a.len, fun p h => b.mono p (a.mono p h), fun p h => ?_, fun p h => ?_, ?_, Nat.le_trans b.count a.count⟩
  · rcases b.reach p h with h | h
    · exact a.reach p h
    · exact .inr (hy.trans h)
  · rcases b.closed p h with h | h
    · rcases a.closed p h with h | h
      · exact .inl h
      · exact .inr fun q hq ho z hz => b.mono _ (h q hq ho z hz)
    · exact .inr h
  · obtain ⟨h1, e1, k1⟩ := a.here
    obtain ⟨h2, e2, k2⟩ := b.here
    refine ⟨h1 ++ h2, by rw [e2, e1, List.append_assoc], fun p => ?_⟩
    rw [List.mem_append, k1, k2]
    constructor
    · rintro (⟨x1, x2, x3⟩ | ⟨x1, x2, x3⟩)
      · exact ⟨b.mono _ x1, x2, x3⟩
      · exact ⟨x1, fun h => x2 (a.mono _ h), x3⟩
    · rintro ⟨x1, x2, x3⟩
      by_cases h : tr rs1 p
      · exact .inl ⟨h, x2, x3⟩
      · exact .inr ⟨x1, h, x3⟩
theorem tr_set {rs : List Bool} {p0 : Nat} (h : p0 < rs.length) (p : Nat) : tr (rs.set p0 true) p ↔ p = p0 ∨ tr rs p := by
  unfold tr
  rw [List.getElem?_set]
  by_cases e : p0 = p
  · subst e; rw [if_pos rfl, if_pos h]; simp
  · rw [if_neg e]
    constructor
    · intro h; exact .inr h
    · rintro (h | h)
      · exact absurd h.symm e
      · exact h
theorem noL_set : ∀ (rs : List Bool) (p : Nat), rs[p]? = some false → noL (rs.set p true) + 1 = noL rs
  | [], p, h => by simp at h
  | x :: l, 0, h => by
    simp at h
    subst h
    simp [noL]; omega
  | x :: l, p + 1, h => by
    have := noL_set l p (by simpa using h)
    simp only [List.set_cons_succ, noL]
    omega
theorem EntW.leaf {M : List Pl} {p0 : Nat} {hs : List Nat} {rs : List Bool} {q : Pl} (hp : rs[p0]? = some false) (hq : M[p0]? = some q) (ho : q.open_ = false) : EntW M p0 hs rs (hs ++ [p0]) (rs.set p0 true) := by
  have hl : p0 < rs.length := (List.getElem?_eq_some_iff.1 hp).1
  have hn : ¬ tr rs p0 := by unfold tr; rw [hp]; simp
  refine ⟨by simp, fun p h => (tr_set hl p).2 (.inr h), fun p h => ?_, fun p h => ?_, ⟨[p0], rfl, fun p => ?_⟩, ?_⟩
  · rcases (tr_set hl p).1 h with rfl | h
    · exact .inr (.refl _)
    · exact .inl h
  · rcases (tr_set hl p).1 h with rfl | h
    · refine .inr fun q' hq' ho' => ?_
      rw [hq] at hq'
      injection hq' with hq'
      subst hq'
      rw [ho] at ho'; cases ho'
    · exact .inl h
  · rw [List.mem_singleton, tr_set hl]
    constructor
    · rintro rfl; exact ⟨.inl rfl, hn, q, hq, ho⟩
    · rintro ⟨h1 | h1, h2, _⟩
      · exact h1
      · exact absurd h1 h2
  · have := noL_set rs p0 hp
    simp; omega
theorem EntW.node {M : List Pl} {p0 : Nat} {hs hs' : List Nat} {rs rs' : List Bool} {q : Pl} (hp : rs[p0]? = some false) (hq : M[p0]? = some q) (ho : q.open_ = true) (a : EntW M p0 hs (rs.set p0 true) hs' rs') (hn : ∀ y ∈ q.next, tr rs' y) : EntW M p0 hs rs hs' rs' := by
  have hl : p0 < rs.length := (List.getElem?_eq_some_iff.1 hp).1
  have hnt : ¬ tr rs p0 := by unfold tr; rw [hp]; simp
  refine ⟨by rw [a.len]; simp, fun p h => a.mono p ((tr_set hl p).2 (.inr h)), fun p h => ?_, fun p h => ?_, ?_, ?_⟩
  · rcases a.reach p h with h | h
    · rcases (tr_set hl p).1 h with rfl | h
      · exact .inr (.refl _)
      · exact .inl h
    · exact .inr h
  · rcases a.closed p h with h | h
    · rcases (tr_set hl p).1 h with rfl | h
      · refine .inr fun q' hq' _ => ?_
        rw [hq] at hq'
        injection hq' with hq'
        subst hq'
        exact hn
      · exact .inl h
    · exact .inr h
  · obtain ⟨h1, e1, k1⟩ := a.here
    refine ⟨h1, e1, fun p => ?_⟩
    rw [k1, tr_set hl]
    constructor
    · rintro ⟨x1, x2, x3⟩; exact ⟨x1, fun h => x2 (.inr h), x3⟩
    · rintro ⟨x1, x2, x3⟩
      refine ⟨x1, fun h => h.elim (fun h => ?_) x2, x3⟩
      subst h
      obtain ⟨q', hq', ho'⟩ := x3
      rw [hq] at hq'
      injection hq' with hq'
      subst hq'
      rw [ho] at ho'; cases ho'
  · have := noL_set rs p0 hp
    have := a.count
    omega

def ints (l : List Nat) : List Value := l.map fun (p : Nat) => .int .i64 (p : Int)
def bools (l : List Bool) : List Value := l.map .bool
/-- 'F': where the next of places lie; 'O': all blocks of the walk -/
structure WkS (O F : Nat → Prop) (W : World) (g : Nat) (M : List Pl) (A : Option Addr) (c : Nat) (Ah : Option Addr) (ch : Nat) (sv : Value) (Ar : Option Addr) (cr : Nat) (hs : List Nat) (rs : List Bool) : Prop where
  blk : Blk W g 70 #[.slice A M.length c, .slice Ah hs.length ch, sv, .slice Ar rs.length cr]
  places : RowP F W A M.length c M
  here : RowO W 3 1 Ah hs.length ch (ints hs)
  rch : RowO W 4 1 Ar rs.length cr (bools rs)
  len : rs.length = M.length
  oF : ∀ b, (F b ∨ inA A b) → O b ∧ b ≠ g ∧ ¬ inA Ah b ∧ ¬ inA Ar b
  oh : ∀ b, inA Ah b → O b ∧ b ≠ g ∧ ¬ inA Ar b
  or_ : ∀ b, inA Ar b → O b ∧ b ≠ g
  og : O g
  fF : ∀ b, F b → b < W.heap.size
section
variable {O O' F : Nat → Prop} {W W' : World} {g : Nat} {M : List Pl} {A : Option Addr} {c : Nat} {Ah : Option Addr} {ch : Nat} {sv : Value} {Ar : Option Addr} {cr : Nat} {hs : List Nat} {rs : List Bool}
theorem WkS.ext (a : WkS O F W g M A c Ah ch sv Ar cr hs rs) (hb : Below W.heap.size W W') : WkS O F W' g M A c Ah ch sv Ar cr hs rs :=
  ⟨a.blk.ext hb, a.places.ext hb, a.here.ext hb, a.rch.ext hb, a.len, a.oF, a.oh, a.or_, a.og, fun b h => Nat.lt_of_lt_of_le (a.fF b h) hb.size⟩
theorem WkS.only {T : Nat → Prop} (a : WkS O F W g M A c Ah ch sv Ar cr hs rs) (ho : Only T W W') (hn : ∀ b, T b → ¬ O b) : WkS O F W' g M A c Ah ch sv Ar cr hs rs :=
  ⟨a.blk.only ho (fun h => hn g h a.og), a.places.only ho (fun b h1 h2 => hn b h1 (a.oF b (.inr h2)).1) (fun b h1 h2 => hn b h1 (a.oF b (.inl h2)).1), a.here.only ho (fun b h1 h2 => hn b h2 (a.oh b h1).1), a.rch.only ho (fun b h1 h2 => hn b h2 (a.or_ b h1).1), a.len, a.oF, a.oh, a.or_, a.og, fun b h => Nat.lt_of_lt_of_le (a.fF b h) ho.size⟩
theorem WkS.mono (a : WkS O F W g M A c Ah ch sv Ar cr hs rs) (h : ∀ b, O b → O' b) : WkS O' F W g M A c Ah ch sv Ar cr hs rs :=
  ⟨a.blk, a.places, a.here, a.rch, a.len, fun b hb => ⟨h b (a.oF b hb).1, (a.oF b hb).2⟩, fun b hb => ⟨h b (a.oh b hb).1, (a.oh b hb).2⟩, fun b hb => ⟨h b (a.or_ b hb).1, (a.or_ b hb).2⟩, h g a.og, a.fF⟩
/-- a place is marked -/
theorem WkS.mark {gr rof : Nat} (a : WkS O F W g M A c Ah ch sv (some ⟨gr, rof, none⟩) cr hs rs) {p : Nat} (hp : p < rs.length) : WkS O F (W.setCell ⟨gr, rof + p, none⟩ (.bool true)) g M A c Ah ch sv (some ⟨gr, rof, none⟩) cr hs (rs.set p true) := by
  have hO : Only (fun b => b = gr) W (W.setCell ⟨gr, rof + p, none⟩ (.bool true)) := (Only.refl (fun b => b = gr) W).setCell (p := ⟨gr, rof + p, none⟩) (.inl rfl) _
  have hr := a.or_ gr ((inA_some _ _ _ _).2 rfl)
  refine ⟨?_, a.places.only hO (fun b h1 h2 => by subst h1; exact (a.oF _ (.inr h2)).2.2.2 ((inA_some _ _ _ _).2 rfl)) (fun b h1 h2 => by subst h1; exact (a.oF _ (.inl h2)).2.2.2 ((inA_some _ _ _ _).2 rfl)), a.here.only hO (fun b h1 h2 => by subst h2; exact (a.oh _ h1).2.2 ((inA_some _ _ _ _).2 rfl)), ?_, by rw [List.length_set]; exact a.len, a.oF, a.oh, a.or_, a.og, fun b h => Nat.lt_of_lt_of_le (a.fF b h) hO.size⟩
  · rw [List.length_set]; exact a.blk.only hO (fun h => hr.2 h.symm)
  · have := a.rch.putJ (j := p) (by omega) (.bool true)
    rw [List.length_set]
    unfold bools at this ⊢
    rw [List.map_set]
    exact this
/-- one more stands here -/
theorem WkS.more (a : WkS O F W g M A c Ah ch sv Ar cr hs rs) {w7 : World} {A7 : Option Addr} {c7 p : Nat} (hr : RowO w7 3 1 A7 (hs.length + 1) c7 (ints hs ++ [.int .i64 (p : Int)])) (ho : Only (inA Ah) W w7) (hA : ∀ k, inA A7 k → inA Ah k ∨ (W.heap.size ≤ k ∧ k < w7.heap.size)) :
    WkS (fun b => O b ∨ (W.heap.size ≤ b ∧ b < w7.heap.size)) F (w7.setCell ⟨g, 1, none⟩ (.slice A7 (hs.length + 1) c7)) g M A c A7 c7 sv Ar cr (hs ++ [p]) rs := by
  have hgl := a.blk.lt
  have hB7 := a.blk.only ho (fun h => (a.oh g h).2.1 rfl)
  have hO : Only (fun b => b = g) w7 (w7.setCell ⟨g, 1, none⟩ (.slice A7 (hs.length + 1) c7)) := (Only.refl (fun b => b = g) w7).setCell (p := ⟨g, 1, none⟩) (.inl rfl) _
  have hgA7 : ∀ b, inA A7 b → b ≠ g := fun b hb => (hA b hb).elim (fun h => (a.oh b h).2.1) (fun h => by omega)
  have hltA : ∀ b, inA A b → b < W.heap.size := fun b hb => a.places.lt hb
  have hltR : ∀ b, inA Ar b → b < W.heap.size := fun b hb => a.rch.lt hb
  refine ⟨?_, (a.places.only ho (fun b h1 h2 => (a.oF b (.inr h2)).2.2.1 h1) (fun b h1 h2 => (a.oF b (.inl h2)).2.2.1 h1)).only hO (fun b h1 h2 => (a.oF b (.inr h2)).2.1 h1) (fun b h1 h2 => (a.oF b (.inl h2)).2.1 h1), ?_, (a.rch.only ho (fun b h1 h2 => (a.oh b h2).2.2 h1)).only hO (fun b h1 h2 => (a.or_ b h1).2 h2), a.len, ?_, ?_, ?_, .inl a.og, fun b h => Nat.lt_of_lt_of_le (a.fF b h) (Nat.le_trans ho.size hO.size)⟩
  · have := hB7.put 1 (.slice A7 (hs.length + 1) c7)
    rw [List.length_append, List.length_singleton]
    exact this
  · have := hr.only hO (fun b h1 h2 => hgA7 b h1 h2)
    rw [List.length_append, List.length_singleton]
    unfold ints at this ⊢
    rw [List.map_append]
    exact this
  · intro b hb
    have h := a.oF b hb
    refine ⟨.inl h.1, h.2.1, fun hin => (hA b hin).elim h.2.2.1 (fun h2 => ?_), h.2.2.2⟩
    have : b < W.heap.size := hb.elim (a.fF b) (hltA b)
    omega
  · intro b hb
    rcases hA b hb with h | h
    · have h2 := a.oh b h
      exact ⟨.inl h2.1, h2.2⟩
    · exact ⟨.inr h, by omega, fun hin => by have := hltR b hin; omega⟩
  · intro b hb
    have h := a.or_ b hb
    exact ⟨.inl h.1, h.2⟩
end
/-- places that may be -/
def OkM (M : List Pl) : Prop := ∀ q ∈ M, OkPl M.length q
/-- places lie as they lay -/
def KeepF (F : Nat → Prop) (A : Option Addr) (W W' : World) : Prop := ∀ b, (F b ∨ inA A b) → b < W.heap.size → W'.heap[b]? = W.heap[b]?
theorem KeepF.refl (F : Nat → Prop) (A : Option Addr) (W : World) : KeepF F A W W := fun _ _ _ => rfl
theorem KeepF.trans {F : Nat → Prop} {A : Option Addr} {X Y Z : World} (h : KeepF F A X Y) (k : KeepF F A Y Z) (hs : X.heap.size ≤ Y.heap.size) : KeepF F A X Z := fun b hb hl => (k b hb (by omega)).trans (h b hb hl)
theorem KeepF.of_only {F T : Nat → Prop} {A : Option Addr} {W W' : World} (ho : Only T W W') (h : ∀ b, T b → ¬ (F b ∨ inA A b)) : KeepF F A W W' := fun b hb hl => ho.block b hl (fun ht => h b ht hb)
/-- what enter leaves -/
def EnterP (O F : Nat → Prop) (W : World) (g : Nat) (M : List Pl) (A : Option Addr) (c : Nat) (sv : Value) (Ar : Option Addr) (cr : Nat) (p0 : Nat) (hs : List Nat) (rs : List Bool) (W' : World) : Prop :=
  ∃ (Ah' : Option Addr) (ch' : Nat) (hs' : List Nat) (rs' : List Bool), WkS (fun b => O b ∨ (W.heap.size ≤ b ∧ b < W'.heap.size)) F W' g M A c Ah' ch' sv Ar cr hs' rs' ∧ Only O W W' ∧ KeepF F A W W' ∧ EntW M p0 hs rs hs' rs' ∧ tr rs' p0

set_option maxHeartbeats 4000000 in
theorem enter_known (M : List Pl) (O F : Nat → Prop) (W : World) (g : Nat) (A : Option Addr) (c : Nat) (Ah : Option Addr) (ch : Nat) (sv : Value) (Ar : Option Addr) (cr : Nat) (p0 : Nat) (hs : List Nat) (rs : List Bool) (hW : WkS O F W g M A c Ah ch sv Ar cr hs rs) (hp : p0 < M.length) (hx : rs[p0]? = some true) (hMl : M.length ≤ 1000000) :
    Calls Tryd.prog 42 #[.pointer (some ⟨g, 0, none⟩), .int .i64 (p0 : Int)] W fun e W' => (∃ v, e = .returned v) ∧ EnterP O F W g M A c sv Ar cr p0 hs rs W' := by
  have hrd := hW.rch.rd p0 (.bool true) (by unfold bools; rw [List.getElem?_map, hx]; rfl)
  obtain ⟨ad, rfl, had⟩ := hrd
  obtain ⟨gr, rof, rsx⟩ := ad
  have hsx : rsx = none := by
    rcases hW.rch.2 with ⟨h, _⟩ | ⟨_, _, _, e, _⟩
    · cases h
    · injection e with e; injection e
  subst hsx
  have had : W.cell? ⟨gr, rof + p0, none⟩ = some (.bool true) := by rw [Addr.add_mid] at had; exact had
  have x3 : W.cell? ⟨g, 3, none⟩ = some (.slice (some ⟨gr, rof, none⟩) rs.length cr) := hW.blk.cell 3
  have hidx : (p0 : Int) < (rs.length : Int) := by have := hW.len; omega
  have hpi : (p0 : Int) ≤ 1000000 := by omega
  have HW := Lib.hid hW
  have Hx := Lib.hid hx
  clear hW hx
  go_enter Tryd.func42, Tryd.ntmps42
  go_wp2
  first | go_end0 | refine bodyPost_ret (results_none rfl _ _ _) rfl ?_
  exact ⟨⟨_, rfl⟩, Ah, ch, hs, rs, HW.out.mono (fun b h => .inl h), Only.refl _ _, KeepF.refl _ _ _, EntW.refl _ _ _ _, Hx.out⟩

set_option maxHeartbeats 16000000 in
theorem enter_any (M : List Pl) (hM : OkM M) (hMl : M.length ≤ 1000000) : ∀ (n : Nat) (O F : Nat → Prop) (W : World) (g : Nat) (A : Option Addr) (c : Nat) (Ah : Option Addr) (ch : Nat) (sv : Value) (Ar : Option Addr) (cr : Nat) (p0 : Nat) (hs : List Nat) (rs : List Bool),
    noL rs ≤ n → WkS O F W g M A c Ah ch sv Ar cr hs rs → p0 < M.length → hs.length + noL rs ≤ 1000000 →
    Calls Tryd.prog 42 #[.pointer (some ⟨g, 0, none⟩), .int .i64 (p0 : Int)] W fun e W' => (∃ v, e = .returned v) ∧ EnterP O F W g M A c sv Ar cr p0 hs rs W' := by
  intro n
  induction n with
  | zero =>
    intro O F W g A c Ah ch sv Ar cr p0 hs rs hn hW hp hc
    have hpr : p0 < rs.length := by rw [hW.len]; exact hp
    have hall : rs[p0]? = some true := by
      rcases hx : rs[p0]? with _ | x
      · rw [List.getElem?_eq_none_iff] at hx; omega
      · cases x with
        | true => rfl
        | false => have := noL_set rs p0 hx; omega
    exact enter_known M O F W g A c Ah ch sv Ar cr p0 hs rs hW hp hall hMl
  | succ n ih =>
    intro O F W g A c Ah ch sv Ar cr p0 hs rs hn hW hp hc
    have hpr : p0 < rs.length := by rw [hW.len]; exact hp
    rcases hx : rs[p0]? with _ | x
    · rw [List.getElem?_eq_none_iff] at hx; omega
    cases x with
    | true => exact enter_known M O F W g A c Ah ch sv Ar cr p0 hs rs hW hp hx hMl
    | false =>
      obtain ⟨gr, rof, rc, rfl, hrc⟩ : ∃ gr rof rc, Ar = some ⟨gr, rof, none⟩ ∧ Blk W gr 4 rc := by
        rcases hW.rch.2 with ⟨_, h0, _⟩ | ⟨gr, rof, rc, e, _, _, hb, _⟩
        · omega
        · exact ⟨gr, rof, rc, e, hb⟩
      have hr0 := hW.or_ gr ((inA_some _ _ _ _).2 rfl)
      have hrd := hW.rch.rd p0 (.bool false) (by unfold bools; rw [List.getElem?_map, hx]; rfl)
      obtain ⟨ad, ead, had⟩ := hrd
      injection ead with ead
      subst ead
      have had : W.cell? ⟨gr, rof + p0, none⟩ = some (.bool false) := by rw [Addr.add_mid] at had; exact had
      have hfr : W.frozen? ⟨gr, rof + p0, none⟩ = false := hrc.free _
      have x3 : W.cell? ⟨g, 3, none⟩ = some (.slice (some ⟨gr, rof, none⟩) rs.length cr) := hW.blk.cell 3
      have hW1 := hW.mark (p := p0) hpr
      obtain ⟨W1, hw1⟩ : ∃ W1, W1 = W.setCell ⟨gr, rof + p0, none⟩ (.bool true) := ⟨_, rfl⟩
      have hO1 : Only O W W1 := by rw [hw1]; exact (Only.refl O W).setCell (p := ⟨gr, rof + p0, none⟩) (.inl hr0.1) _
      have hK1 : KeepF F A W W1 := KeepF.of_only (T := fun b => b = gr) (by rw [hw1]; exact (Only.refl (fun b => b = gr) W).setCell (p := ⟨gr, rof + p0, none⟩) (.inl rfl) _) (fun b hb h => by subst hb; exact (hW.oF _ h).2.2.2 ((inA_some _ _ _ _).2 rfl))
      rw [← hw1] at hW1
      have hn1 := noL_set rs p0 hx
      obtain ⟨q, hq⟩ : ∃ q, M[p0]? = some q := ⟨M[p0], List.getElem?_eq_getElem hp⟩
      have hqe : M[p0] = q := by rw [List.getElem?_eq_getElem hp] at hq; injection hq
      have hqok := hM q (by rw [← hqe]; exact List.getElem_mem hp)
      have hat := hW1.places.at_ (k := p0) hp
      rw [hqe] at hat
      obtain ⟨gA, oA, a0, a1, a2, a3, B, d, rfl, hset, hsok, hnd, hdm, hin, z0, z1, z2, z3, z4, z5, -⟩ := hat
      have x0 : W1.cell? ⟨g, 0, none⟩ = some (.slice (some ⟨gA, oA, none⟩) M.length c) := hW1.blk.cell 0
      have x1 : W1.cell? ⟨g, 1, none⟩ = some (.slice Ah hs.length ch) := hW1.blk.cell 1
      have f1 : W1.frozen? ⟨g, 1, none⟩ = false := hW1.blk.free 1
      have hidx : (p0 : Int) < (rs.length : Int) := by omega
      have hidx2 : (p0 : Int) < (M.length : Int) := by omega
      have hpi : (p0 : Int) ≤ 1000000 := by omega
      have HW1 := Lib.hid hW1
      have Hw1 := Lib.hid hw1
      have HO1 := Lib.hid hO1
      have HK1 := Lib.hid hK1
      have Hx := Lib.hid hx
      have Hq := Lib.hid hq
      have Hn1 := Lib.hid hn1
      have Hih := Lib.hid ih
      have Hqok := Lib.hid hqok
      have Hin := Lib.hid hin
      have Hn := Lib.hid hn
      have Hc := Lib.hid hc
      have HWl := Lib.hid hW.len
      clear hW hW1 hw1 hO1 hK1 hx hq hqe hn1 ih hqok hin hset hsok hrc hr0 hM z1 z2 z3 z4 hn hc
      obtain ⟨o, ws, nx⟩ := q
      simp only at hnd z0 z5
      cases o with
      | false =>
        have Hm1 : Hid (hs.length + 1 ≤ maxLen) := Lib.hid (by have := Hc.out; unfold maxLen; omega)
        have Hm2 : Hid ((hs.length + 1) * 8 ≤ 140737488355328) := Lib.hid (by have := Hc.out; omega)
        go_enter Tryd.func42, Tryd.ntmps42
        go_upto_region 2 with fail
        rw [← Hw1.out]
        go_wp2_with (refine wpList_appO _ rfl (.tmp 36) (.tmp 38) _ rfl _ _ 1 8 Tryd.underlying38 info_int rfl Ah hs.length ch (ints hs) rfl (HW1.out.here.alloc _) (some ⟨W1.heap.size, 0, none⟩) 1 1 [.int .i64 (p0 : Int)] rfl rfl (Rd.lit W1 #[.int .i64 (p0 : Int)] 3) (by intro u hu; simp at hu; subst hu; rfl) (by intro h; cases h) Hm1.out Hm2.out ?_; intro A7 c7 w7 hrow7 honly7 hA7; have hW2 := HW1.out.ext ((Below.refl W1.heap.size W1).alloc (Nat.le_refl _) (Obj.cells #[.int .i64 (p0 : Int)] 3)); have hB7 := hW2.blk.only honly7 (fun h => (hW2.oh g h).2.1 rfl); have x7 := hB7.cell 1; have f7 := hB7.free 1)
        have hfin := hW2.more (p := p0) hrow7 honly7 hA7
        have hOw : Only O W1 (w7.setCell ⟨g, 1, none⟩ (.slice A7 (hs.length + 1) c7)) := (((Only.refl O W1).alloc (Obj.cells #[.int .i64 (p0 : Int)] 3)).trans honly7 (fun b _ h => (hW2.oh b h).1)).setCell (p := ⟨g, 1, none⟩) (.inl hW2.og) _
        have hKw : KeepF F (some ⟨gA, oA, none⟩) W1 (w7.setCell ⟨g, 1, none⟩ (.slice A7 (hs.length + 1) c7)) := by
          refine KeepF.of_only (T := fun b => inA Ah b ∨ b = g) ((((Only.refl (fun b => inA Ah b ∨ b = g) W1).alloc (Obj.cells #[.int .i64 (p0 : Int)] 3)).trans honly7 (fun b _ h => .inl h)).setCell (p := ⟨g, 1, none⟩) (.inl (.inr rfl)) _) (fun b hb h => ?_)
          have h9 := hW2.oF b h
          exact hb.elim h9.2.2.1 h9.2.1
        have hsz1 := HO1.out.size
        have hsz2 := hOw.size
        first | go_end0 | refine bodyPost_ret (results_none rfl _ _ _) rfl ?_
        exact ⟨⟨_, rfl⟩, A7, c7, hs ++ [p0], rs.set p0 true, hfin.mono (fun b h => h.imp id (fun h => ⟨by have := h.1; simp at this; omega, by rw [show (w7.setCell ⟨g, 1, none⟩ (.slice A7 (hs.length + 1) c7)).heap.size = w7.heap.size by simp [World.setCell]]; exact h.2⟩)), HO1.out.trans hOw (fun _ _ h => h), HK1.out.trans hKw hsz1, EntW.leaf Hx.out Hq.out rfl, (tr_set hpr _).2 (.inl rfl)⟩
      | true =>
        have hnl : nx.length ≤ 1000 := Hqok.out.2.2.1
        have Hsz1 : Hid (W1.heap.size = W.heap.size) := Lib.hid (by rw [Hw1.out]; simp [World.setCell])
        have hnli : (nx.length : Int) ≤ 1000 := by omega
        go_enter Tryd.func42, Tryd.ntmps42
        go_upto_region 2 with fail
        rw [← Hw1.out]
        go_wp2
        go_loopw [47] (fun iv wr => ∃ (i : Nat) (A1 : Option Addr) (c1 : Nat) (hs1 : List Nat) (rs1 : List Bool), iv = .int .i64 (i : Int) ∧ i ≤ nx.length ∧ Hid (WkS (fun b => O b ∨ (W.heap.size ≤ b ∧ b < wr.heap.size)) F wr g M (some ⟨gA, oA, none⟩) c A1 c1 sv (some ⟨gr, rof, none⟩) cr hs1 rs1) ∧ Hid (Only O W wr) ∧ Hid (KeepF F (some ⟨gA, oA, none⟩) W wr) ∧ Hid (KeepF F (some ⟨gA, oA, none⟩) W1 wr) ∧ Hid (EntW M p0 hs (rs.set p0 true) hs1 rs1) ∧ Hid (∀ y ∈ nx.take i, tr rs1 y)) (fun iv _ => nx.length - (intOf iv).toNat)
        case atStart => exact ⟨0, Ah, ch, hs, rs.set p0 true, rfl, by omega, Lib.hid (HW1.out.mono (fun b h => .inl h)), HO1, HK1, Lib.hid (KeepF.refl _ _ _), Lib.hid (EntW.refl _ _ _ _), Lib.hid (fun y hy => (by rw [List.take_zero] at hy; cases hy))⟩
        case round =>
          obtain ⟨i, A1, c1, hs1, rs1, rfl, hi, HWr, HO, HKa, HKb, HE, HT⟩ := hrel
          by_cases hlt : i < nx.length
          · have hii : (i : Int) < (nx.length : Int) := by omega
            have hcell : ∃ bb oo, B = some ⟨bb, oo, none⟩ ∧ wr.cell? ⟨bb, oo + i, none⟩ = some (.int .i64 ((nx[i] : Nat) : Int)) := by
              rcases Hin.out with h | ⟨bb, oo, e, hFb, hcs⟩
              · have h : nx = [] := h
                rw [h] at hlt; simp at hlt
              · refine ⟨bb, oo, e, ?_⟩
                have h1 := hcs i hlt
                have hl := World.block_lt_of_cell? W1 _ h1
                exact (World.cell?_of_block (a := ⟨bb, oo + i, none⟩) (HKb.out bb (.inl hFb.1) hl)).trans h1
            obtain ⟨bb, oo, rfl, y0⟩ := hcell
            have hy : nx[i] < M.length := Hqok.out.1 _ (List.getElem_mem hlt)
            have hcount := HE.out.count
            have hlen1 : hs.length ≤ hs1.length := by obtain ⟨hn, e, _⟩ := HE.out.here; rw [e, List.length_append]; omega
            have HC := Lib.hid (Hih.out (fun b => O b ∨ (W.heap.size ≤ b ∧ b < wr.heap.size)) F wr g (some ⟨gA, oA, none⟩) c A1 c1 sv (some ⟨gr, rof, none⟩) cr nx[i] hs1 rs1 (by have := Hn.out; have := Hn1.out; have := Hc.out; have := HE.out; omega) HWr.out hy (by have := Hc.out; have := Hn1.out; omega))
            obtain ⟨y, hye⟩ : ∃ y, nx[i] = y := ⟨_, rfl⟩
            rw [hye] at y0 HC hy
            have Hye := Lib.hid hye
            clear hye hcount
            go_wp2_with fail
            refine HC.out.mono ?_
            rintro e w3 ⟨⟨v, rfl⟩, A3, c3, hs3, rs3, hW3, hO3, hK3, hE3, hT3⟩
            have HW3 := Lib.hid hW3
            have HO3 := Lib.hid hO3
            have HE3 := Lib.hid hE3
            have HK3 := Lib.hid hK3
            have HT3 := Lib.hid hT3
            have hsz := HO.out.size
            have HS1r : Hid (W1.heap.size ≤ wr.heap.size) := Lib.hid (by have := Hsz1.out; omega)
            have hsz3 := hO3.size
            clear hW3 hO3 hK3 hE3 hT3 HC y0
            go_wp2
            go_roundw
            case rel =>
              refine ⟨i + 1, A3, c3, hs3, rs3, by simp, by omega, Lib.hid (HW3.out.mono (fun b h => ?_)), Lib.hid (HO.out.trans HO3.out (fun b hb h => h.elim id (fun h => by omega))), Lib.hid (HKa.out.trans HK3.out hsz), Lib.hid (HKb.out.trans HK3.out (by have := HS1r.out; omega)), Lib.hid (HE.out.trans (.step Hq.out rfl (by rw [← Hye.out]; exact List.getElem_mem hlt) (.refl _)) HE3.out), Lib.hid (fun z hz => ?_)⟩
              · rcases h with (h | h) | h
                · exact .inl h
                · exact .inr ⟨h.1, by omega⟩
                · exact .inr ⟨by omega, h.2⟩
              · rw [List.take_succ_eq_append_getElem hlt, List.mem_append, List.mem_singleton] at hz
                rcases hz with hz | hz
                · exact HE3.out.mono _ (HT.out z hz)
                · rw [hz, Hye.out]; exact HT3.out
            case measure => simp [intOf]; omega
          · obtain rfl : i = nx.length := by omega
            have hT := HT.out
            rw [List.take_length] at hT
            have HT2 := Lib.hid hT
            clear hT hlt
            go_wp2
            first | go_end0 | refine bodyPost_ret (results_none rfl _ _ _) rfl ?_
            exact ⟨⟨_, rfl⟩, A1, c1, hs1, rs1, HWr.out, HO.out, HKa.out, EntW.node Hx.out Hq.out rfl HE.out HT2.out, HE.out.mono _ ((tr_set hpr _).2 (.inl rfl))⟩
end Go.Proofs.YtlddmjhpemihgaaDoor

/-
  What a walk along places means; contracts of the program's done, lost, step. No statement of the seat is proved here.
-/
namespace Go.Proofs.YtlddmjhpemihgaaDoor
open Go Go.RowKit
set_option maxRecDepth 100000
def Cl (M : List Pl) (rs : List Bool) : Prop := ∀ p, tr rs p → ∀ q, M[p]? = some q → q.open_ = true → ∀ y ∈ q.next, tr rs y
def HereOk (M : List Pl) (hs : List Nat) (rs : List Bool) : Prop := ∀ p, p ∈ hs ↔ (tr rs p ∧ ∃ q, M[p]? = some q ∧ q.open_ = false)
def Means (M : List Pl) (rs : List Bool) (s0 : Nat) (u : List Nat) : Prop := ∀ v, acc M s0 (u ++ v) ↔ ∃ p, tr rs p ∧ acc M p v
structure StepL (M : List Pl) (c : Nat) (l hs : List Nat) (rs : List Bool) : Prop where
  len : rs.length = M.length
  cl : Cl M rs
  here : HereOk M hs rs
  reach : ∀ x, tr rs x → ∃ p ∈ l, ∃ q y, M[p]? = some q ∧ hasB q.set c = true ∧ q.next[0]? = some y ∧ OpR M y x
  got : ∀ p ∈ l, ∀ q y, M[p]? = some q → hasB q.set c = true → q.next[0]? = some y → tr rs y
  count : hs.length + noL rs ≤ M.length
theorem tr_rep (n p : Nat) : ¬ tr (List.replicate n false) p := by
  unfold tr
  rw [List.getElem?_replicate]
  split <;> simp
theorem noL_rep : ∀ n, noL (List.replicate n false) = n
  | 0 => rfl
  | n + 1 => by rw [List.replicate_succ]; simp only [noL, noL_rep n]; simp; omega
theorem StepL.nil (M : List Pl) (c : Nat) : StepL M c [] [] (List.replicate M.length false) :=
  ⟨by simp, fun p h => absurd h (tr_rep _ _), fun p => ⟨fun h => (by cases h), fun h => absurd h.1 (tr_rep _ _)⟩, fun x h => absurd h (tr_rep _ _), fun p h => (by cases h), by rw [noL_rep]; simp⟩
theorem StepL.skip {M : List Pl} {c p : Nat} {l hs : List Nat} {rs : List Bool} {q : Pl} (a : StepL M c l hs rs) (hq : M[p]? = some q) (hn : hasB q.set c = false) : StepL M c (l ++ [p]) hs rs := by
  refine ⟨a.len, a.cl, a.here, fun x h => ?_, fun p' h q' y hq' hb hy => ?_, a.count⟩
  · obtain ⟨p', h1, h2⟩ := a.reach x h
    exact ⟨p', by simp [h1], h2⟩
  · rw [List.mem_append, List.mem_singleton] at h
    rcases h with h | rfl
    · exact a.got p' h q' y hq' hb hy
    · rw [hq] at hq'; injection hq' with hq'; subst hq'
      rw [hn] at hb; cases hb
theorem StepL.enter {M : List Pl} {c p y : Nat} {l hs hs' : List Nat} {rs rs' : List Bool} {q : Pl} (a : StepL M c l hs rs) (hq : M[p]? = some q) (hb : hasB q.set c = true) (hy : q.next[0]? = some y) (e : EntW M y hs rs hs' rs') (ht : tr rs' y) : StepL M c (l ++ [p]) hs' rs' := by
  refine ⟨e.len.trans a.len, fun z hz q' hq' ho w hw => ?_, fun z => ?_, fun x h => ?_, fun p' h q' y' hq' hb' hy' => ?_, Nat.le_trans e.count a.count⟩
  · rcases e.closed z hz with h | h
    · exact e.mono _ (a.cl z h q' hq' ho w hw)
    · exact h q' hq' ho w hw
  · obtain ⟨hn, e1, k1⟩ := e.here
    rw [e1, List.mem_append, a.here z, k1]
    constructor
    · rintro (⟨h1, h2⟩ | ⟨h1, _, h2⟩)
      · exact ⟨e.mono _ h1, h2⟩
      · exact ⟨h1, h2⟩
    · rintro ⟨h1, h2⟩
      by_cases h : tr rs z
      · exact .inl ⟨h, h2⟩
      · exact .inr ⟨h1, h, h2⟩
  · rcases e.reach x h with h | h
    · obtain ⟨p', h1, h2⟩ := a.reach x h
      exact ⟨p', by simp [h1], h2⟩
    · exact ⟨p, by simp, q, y, hq, hb, hy, h⟩
  · rw [List.mem_append, List.mem_singleton] at h
    rcases h with h | rfl
    · exact e.mono _ (a.got p' h q' y' hq' hb' hy')
    · rw [hq] at hq'; injection hq' with hq'; subst hq'
      rw [hy] at hy'; injection hy' with hy'; subst hy'
      exact ht
theorem acc_opR {M : List Pl} {p x : Nat} {v : List Nat} (h : OpR M p x) (k : acc M x v) : acc M p v := by
  induction h with
  | refl => exact k
  | step h ho hy _ ih => exact acc_open h ho hy (ih k)
theorem acc_byte_of {M : List Pl} {rs : List Bool} (hc : Cl M rs) {c : Nat} {v : List Nat} : ∀ n p, accN M n p (c :: v) → tr rs p → ∃ p' q y, tr rs p' ∧ M[p']? = some q ∧ q.open_ = false ∧ hasB q.set c = true ∧ q.next[0]? = some y ∧ acc M y v := by
  intro n
  induction n with
  | zero => intro p h _; exact absurd h.2 (by simp)
  | succ n ih =>
    intro p h ht
    rcases h with h | ⟨q, hq, ⟨ho, x, hx, h⟩ | ⟨ho, c', v', y, hu, hb, hy, h⟩⟩
    · exact absurd h.2 (by simp)
    · exact ih x h (hc p ht q hq ho x hx)
    · injection hu with e1 e2
      subst e1 e2
      exact ⟨p, q, y, ht, hq, ho, hb, hy, n, h⟩
theorem acc_nil_of {M : List Pl} {rs : List Bool} (hc : Cl M rs) : ∀ n p, accN M n p [] → tr rs p → tr rs 0 := by
  intro n
  induction n with
  | zero => intro p h ht; rw [← h.1]; exact ht
  | succ n ih =>
    intro p h ht
    rcases h with h | ⟨q, hq, ⟨ho, x, hx, h⟩ | ⟨ho, c', v', y, hu, hb, hy, h⟩⟩
    · rw [← h.1]; exact ht
    · exact ih x h (hc p ht q hq ho x hx)
    · cases hu
theorem Means.step {M : List Pl} {rs rs' : List Bool} {s0 c : Nat} {u hs hs' : List Nat} (m : Means M rs s0 u) (hc : Cl M rs) (hh : HereOk M hs rs) (a : StepL M c hs hs' rs') : Means M rs' s0 (u ++ [c]) := by
  intro v
  rw [List.append_assoc, List.singleton_append, m]
  constructor
  · rintro ⟨p, ht, n, h⟩
    obtain ⟨p', q, y, h1, h2, h3, h4, h5, h6⟩ := acc_byte_of hc n p h ht
    exact ⟨y, a.got p' ((hh p').2 ⟨h1, q, h2, h3⟩) q y h2 h4 h5, h6⟩
  · rintro ⟨x, ht, h⟩
    obtain ⟨p, hp, q, y, h1, h2, h3, h4⟩ := a.reach x ht
    obtain ⟨k1, q', k2, k3⟩ := (hh p).1 hp
    rw [h1] at k2; injection k2 with k2; subst k2
    exact ⟨p, k1, acc_byte h1 k3 h2 h3 (acc_opR h4 h)⟩
theorem Means.start {M : List Pl} {s0 : Nat} {hs : List Nat} {rs : List Bool} (e : EntW M s0 [] (List.replicate M.length false) hs rs) (ht : tr rs s0) : Cl M rs ∧ HereOk M hs rs ∧ Means M rs s0 [] ∧ hs.length + noL rs ≤ M.length ∧ rs.length = M.length := by
  refine ⟨fun p hp => ?_, fun p => ?_, fun v => ?_, by have := e.count; rw [noL_rep] at this; simpa using this, by rw [e.len]; simp⟩
  · rcases e.closed p hp with h | h
    · exact absurd h (tr_rep _ _)
    · exact h
  · obtain ⟨hn, e1, k1⟩ := e.here
    rw [e1, List.nil_append, k1]
    exact ⟨fun h => ⟨h.1, h.2.2⟩, fun h => ⟨h.1, tr_rep _ _, h.2⟩⟩
  · rw [List.nil_append]
    constructor
    · intro h; exact ⟨s0, ht, h⟩
    · rintro ⟨p, hp, h⟩
      rcases e.reach p hp with h1 | h1
      · exact absurd h1 (tr_rep _ _)
      · exact acc_opR h1 h
theorem Means.done {M : List Pl} {rs : List Bool} {s0 : Nat} {u : List Nat} (m : Means M rs s0 u) (hc : Cl M rs) : tr rs 0 ↔ acc M s0 u := by
  have := m []
  rw [List.append_nil] at this
  rw [this]
  exact ⟨fun h => ⟨0, h, acc_zero M⟩, fun ⟨p, ht, n, h⟩ => acc_nil_of hc n p h ht⟩
theorem Means.lost {M : List Pl} {rs : List Bool} {s0 : Nat} {u : List Nat} (m : Means M rs s0 u) (hc : Cl M rs) (hh : HereOk M [] rs) (h0 : ∃ q, M[0]? = some q ∧ q.open_ = false) (v : List Nat) : ¬ acc M s0 (u ++ v) := by
  rw [m]
  rintro ⟨p, ht, n, h⟩
  cases v with
  | nil =>
    have := (hh 0).2 ⟨acc_nil_of hc n p h ht, h0⟩
    cases this
  | cons c v =>
    obtain ⟨p', q, y, h1, h2, h3, _⟩ := acc_byte_of hc n p h ht
    have := (hh p').2 ⟨h1, q, h2, h3⟩
    cases this

theorem zeros_bool (w : World) : (zeroValue 4).run Tryd.prog w = .ok (.bool false) w := by kernel_rfl
theorem wpList_clearB {ops : Array Oper} {rest : List Oper} {o : Oper} {a : Act} {w : World} {Q : Exit → Act → World → Prop} (hgd : o.guard = none) (s : Operand) (ho : o.op = .call { callee := .builtin .clear, args := #[s], argTypes := #[68] })
    (b off n c : Nat) (xs : List Value) (hs : a.eval s = .slice (some ⟨b, off, none⟩) n c) (hn : 0 < n) (hrow : RowO w 4 1 (some ⟨b, off, none⟩) n c xs)
    (h : ∀ w', RowO w' 4 1 (some ⟨b, off, none⟩) n c (bools (List.replicate n false)) → Only (fun k => k = b) w w' → wpList Tryd.prog ops Q rest (a.put o.dst (.tuple #[])) w') : wpList Tryd.prog ops Q (o :: rest) a w := by
  rcases hrow.2 with ⟨h1, _⟩ | ⟨g', o', cs, h1, h2, h3, hb, h5, h6⟩
  · cases h1
  injection h1 with h1
  injection h1 with e1 e2 _
  subst e1 e2
  have hth := hb.there off n (by omega)
  have hrun := Lib.run_clear_slice (P := Tryd.prog) w 68 4 o.type (.bool false) Tryd.underlying68 zeros_bool rfl rfl b off n c hn (fun j hj => (hth j hj).1) (fun j hj => (hth j hj).2)
  obtain ⟨cs', k1, k2, k3, k4⟩ := Blk.setCells (List.replicate n (.bool false)) off hb (by simp; omega)
  refine wpList_plain hgd fun K hK => ?_
  unfold Oper.wp execOp
  simp only [ho, resolve, invoke, builtin, Sem.run_bind, Sem.run_pure, Result.andThen_ok, List.map_toArray, List.map_cons, List.map_nil, hs, hrun]
  refine hK _ _ (h _ ⟨by simp [bools], .inr ⟨b, off, cs', rfl, h2, h3, k1, by rw [k2]; exact h5, fun j u hu => ?_⟩⟩ ((Only.refl (fun k => k = b) w).setCells (.inl rfl) _ _))
  exact k3 j u (by simpa [bools] using hu)

section
variable (O F : Nat → Prop) (W : World) (g : Nat) (M : List Pl) (A : Option Addr) (c : Nat) (Ah : Option Addr) (ch : Nat) (sv : Value) (Ar : Option Addr) (cr : Nat) (hs : List Nat) (rs : List Bool)
theorem done_any (hW : WkS O F W g M A c Ah ch sv Ar cr hs rs) (h0 : 0 < M.length) :
    Calls Tryd.prog 34 #[.pointer (some ⟨g, 0, none⟩)] W fun e W' => e = .returned (.bool (decide (tr rs 0))) ∧ W' = W := by
  have hl : 0 < rs.length := by rw [hW.len]; exact h0
  have hrd := hW.rch.rd 0 (.bool (rs[0]'hl)) (by unfold bools; rw [List.getElem?_map, List.getElem?_eq_getElem hl]; rfl)
  obtain ⟨ad, rfl, had⟩ := hrd
  obtain ⟨gr, rof, rsx⟩ := ad
  have hsx : rsx = none := by
    rcases hW.rch.2 with ⟨h, _⟩ | ⟨_, _, _, e, _⟩
    · cases h
    · injection e with e; injection e
  subst hsx
  have had : W.cell? ⟨gr, rof, none⟩ = some (.bool (rs[0]'hl)) := by rw [Addr.add_mid, Nat.add_zero] at had; exact had
  have x3 : W.cell? ⟨g, 3, none⟩ = some (.slice (some ⟨gr, rof, none⟩) rs.length cr) := hW.blk.cell 3
  have hli : (0 : Int) < (rs.length : Int) := by omega
  have hd : decide (tr rs 0) = rs[0]'hl := by
    rw [Bool.eq_iff_iff, decide_eq_true_iff]
    unfold tr
    rw [List.getElem?_eq_getElem hl]
    simp
  rw [hd]
  obtain ⟨x, hx⟩ : ∃ x, rs[0]'hl = x := ⟨_, rfl⟩
  rw [hx] at had ⊢
  clear hW hd hx
  go_enter Tryd.func34, Tryd.ntmps34
  go_wp2
  go_ret
  exact ⟨rfl, rfl⟩
theorem lost_any (hW : WkS O F W g M A c Ah ch sv Ar cr hs rs) :
    Calls Tryd.prog 33 #[.pointer (some ⟨g, 0, none⟩)] W fun e W' => e = .returned (.bool (decide (hs.length = 0))) ∧ W' = W := by
  have x1 : W.cell? ⟨g, 1, none⟩ = some (.slice Ah hs.length ch) := hW.blk.cell 1
  clear hW
  go_enter Tryd.func33, Tryd.ntmps33
  go_wp2
  go_ret
  exact ⟨ret_bool (by rw [Bool.eq_iff_iff]; simp), rfl⟩
end
end Go.Proofs.YtlddmjhpemihgaaDoor

/-
  The contract of the program's step. No statement of the seat is proved here.
-/
namespace Go.Proofs.YtlddmjhpemihgaaDoor
open Go Go.RowKit
set_option maxRecDepth 100000
/-- a walk, and its spare row -/
def Wk (O : Nat → Prop) (W : World) (g : Nat) (M : List Pl) (hs : List Nat) (rs : List Bool) : Prop :=
  ∃ (O1 F : Nat → Prop) (A : Option Addr) (c : Nat) (Ah : Option Addr) (ch : Nat) (As : Option Addr) (ns cs : Nat) (xs : List Value) (Ar : Option Addr) (cr : Nat),
    WkS O1 F W g M A c Ah ch (.slice As ns cs) Ar cr hs rs ∧ RowO W 3 1 As ns cs xs ∧ (∀ b, inA As b → O b ∧ ¬ O1 b) ∧ (∀ b, O1 b → O b)
theorem Wk.ext {O : Nat → Prop} {W W' : World} {g : Nat} {M : List Pl} {hs : List Nat} {rs : List Bool} (a : Wk O W g M hs rs) (hb : Below W.heap.size W W') : Wk O W' g M hs rs := by
  obtain ⟨O1, F, A, c, Ah, ch, As, ns, cs, xs, Ar, cr, h1, h2, h3⟩ := a
  exact ⟨O1, F, A, c, Ah, ch, As, ns, cs, xs, Ar, cr, h1.ext hb, h2.ext hb, h3⟩
theorem Wk.only {O T : Nat → Prop} {W W' : World} {g : Nat} {M : List Pl} {hs : List Nat} {rs : List Bool} (a : Wk O W g M hs rs) (ho : Only T W W') (hn : ∀ b, T b → ¬ O b) : Wk O W' g M hs rs := by
  obtain ⟨O1, F, A, c, Ah, ch, As, ns, cs, xs, Ar, cr, h1, h2, h3, h4⟩ := a
  exact ⟨O1, F, A, c, Ah, ch, As, ns, cs, xs, Ar, cr, h1.only ho (fun b h1 h2 => hn b h1 (h4 b h2)), h2.only ho (fun b h1 h2 => hn b h2 (h3 b h1).1), h3, h4⟩
theorem Wk.mono {O O' : Nat → Prop} {W : World} {g : Nat} {M : List Pl} {hs : List Nat} {rs : List Bool} (a : Wk O W g M hs rs) (h : ∀ b, O b → O' b) : Wk O' W g M hs rs := by
  obtain ⟨O1, F, A, c, Ah, ch, As, ns, cs, xs, Ar, cr, h1, h2, h3, h4⟩ := a
  exact ⟨O1, F, A, c, Ah, ch, As, ns, cs, xs, Ar, cr, h1, h2, fun b hb => ⟨h b (h3 b hb).1, (h3 b hb).2⟩, fun b hb => h b (h4 b hb)⟩
/-- the spare row is another one -/
theorem WkS.setSpare {O F : Nat → Prop} {W : World} {g : Nat} {M : List Pl} {A : Option Addr} {c : Nat} {Ah : Option Addr} {ch : Nat} {sv : Value} {Ar : Option Addr} {cr : Nat} {hs : List Nat} {rs : List Bool} (a : WkS O F W g M A c Ah ch sv Ar cr hs rs) (v : Value) :
    WkS O F (W.setCell ⟨g, 2, none⟩ v) g M A c Ah ch v Ar cr hs rs := by
  have hO : Only (fun b => b = g) W (W.setCell ⟨g, 2, none⟩ v) := (Only.refl (fun b => b = g) W).setCell (p := ⟨g, 2, none⟩) (.inl rfl) _
  exact ⟨a.blk.put 2 v, a.places.only hO (fun b h1 h2 => (a.oF b (.inr h2)).2.1 h1) (fun b h1 h2 => (a.oF b (.inl h2)).2.1 h1), a.here.only hO (fun b h1 h2 => (a.oh b h1).2.1 h2), a.rch.only hO (fun b h1 h2 => (a.or_ b h1).2 h2), a.len, a.oF, a.oh, a.or_, a.og, fun b h => Nat.lt_of_lt_of_le (a.fF b h) hO.size⟩
/-- nothing stands here any more, in another row; nothing is reached -/
theorem WkS.empty {O1 F : Nat → Prop} {W W2 : World} {g : Nat} {M : List Pl} {A : Option Addr} {c : Nat} {Ah : Option Addr} {ch : Nat} {sv : Value} {gr rof cr : Nat} {hs : List Nat} {rs : List Bool} {As : Option Addr} {ns cs : Nat} {xs : List Value} (a : WkS O1 F W g M A c Ah ch sv (some ⟨gr, rof, none⟩) cr hs rs) (hs2 : RowO W 3 1 As ns cs xs) (hd : ∀ b, inA As b → ¬ O1 b)
    (hr : RowO W2 4 1 (some ⟨gr, rof, none⟩) rs.length cr (bools (List.replicate rs.length false))) (ho : Only (fun b => b = gr) (W.setCell ⟨g, 1, none⟩ (.slice As 0 cs)) W2) :
    WkS (fun b => (O1 b ∧ ¬ inA Ah b) ∨ inA As b) F W2 g M A c As cs sv (some ⟨gr, rof, none⟩) cr [] (List.replicate M.length false) ∧ RowO W2 3 1 Ah hs.length ch (ints hs) ∧ Only O1 W W2 ∧ KeepF F A W W2 := by
  have hgr := a.or_ gr ((inA_some _ _ _ _).2 rfl)
  have hO1 : Only (fun b => b = g) W (W.setCell ⟨g, 1, none⟩ (.slice As 0 cs)) := (Only.refl (fun b => b = g) W).setCell (p := ⟨g, 1, none⟩) (.inl rfl) _
  have hO : Only (fun b => b = g ∨ b = gr) W W2 := (hO1.mono (fun b _ h => .inl h)).trans ho (fun b _ h => .inr h)
  have hB : Blk W2 g 70 #[.slice A M.length c, .slice As 0 cs, sv, .slice (some ⟨gr, rof, none⟩) rs.length cr] := (a.blk.put 1 (.slice As 0 cs)).only ho (fun h => hgr.2 h.symm)
  have hnF : ∀ b, (F b ∨ inA A b) → ¬ (b = g ∨ b = gr) := fun b hb h => h.elim (a.oF b hb).2.1 (fun h => by subst h; exact (a.oF _ hb).2.2.2 ((inA_some _ _ _ _).2 rfl))
  refine ⟨⟨?_, a.places.only hO (fun b h1 h2 => hnF b (.inr h2) h1) (fun b h1 h2 => hnF b (.inl h2) h1), ?_, ?_, by simp, ?_, ?_, ?_, .inl ⟨a.og, fun h => (a.oh g h).2.1 rfl⟩, fun b h => Nat.lt_of_lt_of_le (a.fF b h) hO.size⟩, a.here.only hO (fun b h1 h2 => ?_), hO.mono (fun b _ h => ?_), KeepF.of_only hO (fun b h1 h2 => hnF b h2 h1)⟩
  · have e : (List.replicate M.length false).length = rs.length := by rw [List.length_replicate, a.len]
    rw [e]
    exact hB
  · have h9 := hs2.only hO (fun b h1 h2 => h2.elim (fun h => by subst h; exact hd _ h1 a.og) (fun h => by subst h; exact hd _ h1 hgr.1))
    exact h9.sub (Nat.zero_le _) (by simp [ints]) (fun j u hu => by simp [ints] at hu)
  · rw [List.length_replicate, ← a.len]; exact hr
  · intro b hb
    have h := a.oF b hb
    exact ⟨.inl ⟨h.1, h.2.2.1⟩, h.2.1, fun hin => hd b hin h.1, h.2.2.2⟩
  · intro b hb
    exact ⟨.inr hb, fun h => by subst h; exact hd _ hb a.og, fun hin => hd b hb (a.or_ b hin).1⟩
  · intro b hb
    have h := a.or_ b hb
    exact ⟨.inl ⟨h.1, fun hin => (a.oh b hin).2.2 hb⟩, h.2⟩
  · exact h2.elim (a.oh b h1).2.1 (fun h => by subst h; exact (a.oh _ h1).2.2 ((inA_some _ _ _ _).2 rfl))
  · exact h.elim (fun h => by subst h; exact a.og) (fun h => by subst h; exact hgr.1)

set_option maxHeartbeats 16000000 in
theorem step_any (M : List Pl) (hM : OkM M) (hMl : M.length ≤ 1000000) (h0 : 0 < M.length) (O : Nat → Prop) (W : World) (g : Nat) (hs : List Nat) (rs : List Bool) (cc : Nat) (hcc : cc < 256) (hW : Wk O W g M hs rs) (hh : HereOk M hs rs) (hc : hs.length ≤ M.length) :
    Calls Tryd.prog 35 #[.pointer (some ⟨g, 0, none⟩), .int .u8 (cc : Int)] W fun e W' => (∃ v, e = .returned v) ∧ ∃ hs' rs', Wk (fun b => O b ∨ (W.heap.size ≤ b ∧ b < W'.heap.size)) W' g M hs' rs' ∧ Only O W W' ∧ StepL M cc hs hs' rs' := by
  obtain ⟨O1, F, A, c, Ah, ch, As, ns, cs, xs, Ar, cr, hS, hsp, hd, hO⟩ := hW
  have hl0 : 0 < rs.length := by rw [hS.len]; exact h0
  obtain ⟨gr, rof, rfl⟩ : ∃ gr rof, Ar = some ⟨gr, rof, none⟩ := by
    rcases hS.rch.2 with ⟨_, h0, _⟩ | ⟨gr, rof, rc, e, _⟩
    · omega
    · exact ⟨gr, rof, e⟩
  have hgr := hS.or_ gr ((inA_some _ _ _ _).2 rfl)
  have x1 : W.cell? ⟨g, 1, none⟩ = some (.slice Ah hs.length ch) := hS.blk.cell 1
  have x2 : W.cell? ⟨g, 2, none⟩ = some (.slice As ns cs) := hS.blk.cell 2
  have x3 : W.cell? ⟨g, 3, none⟩ = some (.slice (some ⟨gr, rof, none⟩) rs.length cr) := hS.blk.cell 3
  have f1 : W.frozen? ⟨g, 1, none⟩ = false := hS.blk.free 1
  have hle := hsp.le
  have hcp := hsp.cap
  unfold maxLen at hcp
  have hrch1 : RowO (W.setCell ⟨g, 1, none⟩ (.slice As 0 cs)) 4 1 (some ⟨gr, rof, none⟩) rs.length cr (bools rs) := hS.rch.only ((Only.refl (fun b => b = g) W).setCell (p := ⟨g, 1, none⟩) (.inl rfl) _) (fun b h1 h2 => (hS.or_ b h1).2 h2)
  have hli : (hs.length : Int) ≤ 1000000 := by omega
  have HS := Lib.hid hS
  have Hsp := Lib.hid hsp
  have Hd := Lib.hid hd
  have HO := Lib.hid hO
  have Hh := Lib.hid hh
  have HM := Lib.hid hM
  have Hr1 := Lib.hid hrch1
  clear hS hsp hd hO hh hM hrch1 hgr
  go_enter Tryd.func35, Tryd.ntmps35
  go_upto_region 3 with (refine wpList_clearB rfl _ rfl gr rof rs.length cr _ rfl hl0 Hr1.out ?_; intro W2 hr2 ho2)
  obtain ⟨hS2, hfrom, hOall, hK2⟩ := HS.out.empty Hsp.out (fun b hb => (Hd.out b hb).2) hr2 ho2
  have HS2 := Lib.hid hS2
  have Hfrom := Lib.hid hfrom
  have HOall := Lib.hid hOall
  have HK2 := Lib.hid hK2
  clear hS2 hfrom hOall hK2 hr2 ho2 x1 x2 x3 f1
  go_wp2
  go_loopw [26] (fun iv wr => ∃ (i : Nat) (A1 : Option Addr) (c1 : Nat) (hs1 : List Nat) (rs1 : List Bool), iv = .int .i64 (i : Int) ∧ i ≤ hs.length ∧ Hid (WkS (fun b => (fun b => (O1 b ∧ ¬ inA Ah b) ∨ inA As b) b ∨ (W2.heap.size ≤ b ∧ b < wr.heap.size)) F wr g M A c A1 c1 (.slice As ns cs) (some ⟨gr, rof, none⟩) cr hs1 rs1) ∧ Hid (Only (fun b => (O1 b ∧ ¬ inA Ah b) ∨ inA As b) W2 wr) ∧ Hid (StepL M cc (hs.take i) hs1 rs1)) (fun iv _ => hs.length - (intOf iv).toNat)
  case atStart => exact ⟨0, As, cs, [], List.replicate M.length false, rfl, by omega, Lib.hid (HS2.out.mono (fun b h => .inl h)), Lib.hid (Only.refl _ _), Lib.hid (by rw [List.take_zero]; exact StepL.nil M cc)⟩
  case round =>
    obtain ⟨i, A1, c1, hs1, rs1, rfl, hi, HWr, HOr, HL⟩ := hrel
    have hnA : ∀ b, inA Ah b → ¬ (fun b => (O1 b ∧ ¬ inA Ah b) ∨ inA As b) b := fun b hb h => h.elim (fun h => h.2 hb) (fun h => (Hd.out b h).2 (HS.out.oh b hb).1)
    have hfr := Hfrom.out.only HOr.out (fun b h1 h2 => hnA b h1 h2)
    have Hfr := Lib.hid hfr
    have HnA := Lib.hid hnA
    have hszr : W2.heap.size ≤ wr.heap.size := HOr.out.size
    clear hfr hnA
    by_cases hlt : i < hs.length
    · have hii : (i : Int) < (hs.length : Int) := by omega
      obtain ⟨p, hp⟩ : ∃ p, hs[i] = p := ⟨_, rfl⟩
      have hrd := Hfr.out.rd i (.int .i64 (p : Int)) (by unfold ints; rw [List.getElem?_map, List.getElem?_eq_getElem hlt, hp]; rfl)
      obtain ⟨ad, rfl, had⟩ := hrd
      obtain ⟨ga, oa, sx⟩ := ad
      have hsx : sx = none := by
        rcases Hfr.out.2 with ⟨h, _⟩ | ⟨_, _, _, e, _⟩
        · cases h
        · injection e with e; injection e
      subst hsx
      have had : wr.cell? ⟨ga, oa + i, none⟩ = some (.int .i64 (p : Int)) := by rw [Addr.add_mid] at had; exact had
      have hmem : p ∈ hs := by rw [← hp]; exact List.getElem_mem hlt
      obtain ⟨htp, q, hq, hqo⟩ := (Hh.out p).1 hmem
      have hpM : p < M.length := (List.getElem?_eq_some_iff.1 hq).1
      have hqe : M[p] = q := by rw [List.getElem?_eq_getElem hpM] at hq; injection hq
      have hqok := HM.out q (by rw [← hqe]; exact List.getElem_mem hpM)
      have hat := HWr.out.places.at_ (k := p) hpM
      rw [hqe] at hat
      obtain ⟨gA, oA, a0, a1, a2, a3, B, d, rfl, hset, hsok, hnd, hdm, hin, z0, z1, z2, z3, z4, z5, -⟩ := hat
      have x0 : wr.cell? ⟨g, 0, none⟩ = some (.slice (some ⟨gA, oA, none⟩) M.length c) := HWr.out.blk.cell 0
      have hpi : (p : Int) < (M.length : Int) := by omega
      have hpi2 : (p : Int) ≤ 1000000 := by omega
      have HHas := Lib.hid (has_any [a0, a1, a2, a3] hsok cc hcc)
      have Hset := Lib.hid hset
      have Hq := Lib.hid hq
      have Hqok := Lib.hid hqok
      have Hin := Lib.hid hin
      have Hp := Lib.hid hp
      have Hz5 := Lib.hid z5
      clear hset hq hqe hqok hin hp htp hmem hqo z5
      go_wp2_with fail
      refine (HHas.out _).mono ?_
      rintro e w3 ⟨rfl, hb3⟩
      have HW3 := Lib.hid (HWr.out.ext hb3)
      have HO3 : Hid (Only (fun b => (O1 b ∧ ¬ inA (some ⟨ga, oa, none⟩) b) ∨ inA As b) W2 w3) := Lib.hid (HOr.out.trans (Only.of_ext (S := (fun b => (O1 b ∧ ¬ inA (some ⟨ga, oa, none⟩) b) ∨ inA As b)) hb3) (fun _ _ h => h))
      have hsz3 := hb3.size
      have Hb3 := Lib.hid hb3
      have hbl : gA < wr.heap.size := World.block_lt_of_cell? wr _ z0
      clear hb3 had x0 z0 z1 z2 z3 z4
      cases hb : hasB [a0, a1, a2, a3] cc with
      | false =>
        go_wp2
        go_roundw
        case rel => exact ⟨i + 1, A1, c1, hs1, rs1, by simp, by omega, Lib.hid (HW3.out.mono (fun b h => h.imp id (fun h => ⟨h.1, by omega⟩))), HO3, Lib.hid (by rw [List.take_succ_eq_append_getElem hlt, Hp.out]; exact HL.out.skip Hq.out (by rw [Hset.out]; exact hb))⟩
        case measure => simp [intOf]; omega
      | true =>
        have hnx : 0 < q.next.length := Hqok.out.2.1 cc (by rw [Hset.out]; exact hb)
        have hnxi : (0 : Int) < (q.next.length : Int) := by omega
        have hnl : q.next.length ≤ 1000 := Hqok.out.2.2.1
        obtain ⟨y, hy⟩ : ∃ y, q.next[0]'hnx = y := ⟨_, rfl⟩
        have hyM : y < M.length := Hqok.out.1 y (by rw [← hy]; exact List.getElem_mem hnx)
        have hy0 : q.next[0]? = some y := by rw [List.getElem?_eq_getElem hnx, hy]
        rcases Hin.out with h | ⟨bb, oo, rfl, hFb, hcs⟩
        · rw [h] at hnx; simp at hnx
        have y0 : wr.cell? ⟨bb, oo, none⟩ = some (.int .i64 (y : Int)) := by
          have := hcs 0 hnx
          rw [hy, Nat.add_zero] at this
          exact this
        have hbbl : bb < wr.heap.size := World.block_lt_of_cell? wr _ y0
        have y0' : w3.cell? ⟨bb, oo, none⟩ = some (.int .i64 (y : Int)) := (World.cell?_of_block (a := ⟨bb, oo, none⟩) (Hb3.out.block bb hbbl)).trans y0
        have z5' : w3.cell? ⟨gA, oA + p * 6 + 5, none⟩ = some (.slice (some ⟨bb, oo, none⟩) q.next.length d) := (World.cell?_of_block (a := ⟨gA, oA + p * 6 + 5, none⟩) (Hb3.out.block gA hbl)).trans Hz5.out
        have hcnt := HL.out.count
        have HC := Lib.hid (enter_any M HM.out hMl (noL rs1) (fun b => (fun b => (O1 b ∧ ¬ inA (some ⟨ga, oa, none⟩) b) ∨ inA As b) b ∨ (W2.heap.size ≤ b ∧ b < wr.heap.size)) F w3 g (some ⟨gA, oA, none⟩) c A1 c1 (.slice As ns cs) (some ⟨gr, rof, none⟩) cr y hs1 rs1 (Nat.le_refl _) HW3.out hyM (by omega))
        have Hy0 := Lib.hid hy0
        clear hy hy0 hcs hFb y0 hcnt
        go_wp2_with fail
        refine HC.out.mono ?_
        rintro e w5 ⟨⟨v, rfl⟩, A5, c5, hs5, rs5, hW5, hO5, hK5, hE5, hT5⟩
        have HW5 := Lib.hid hW5
        have HO5 := Lib.hid hO5
        have HE5 := Lib.hid hE5
        have HT5 := Lib.hid hT5
        have hsz5 := hO5.size
        clear hW5 hO5 hK5 hE5 hT5 HC y0' z5'
        go_wp2
        go_roundw
        case rel =>
          refine ⟨i + 1, A5, c5, hs5, rs5, by simp, by omega, Lib.hid (HW5.out.mono (fun b h => ?_)), Lib.hid (HO3.out.trans HO5.out (fun b hb h => h.elim id (fun h => by omega))), Lib.hid (by rw [List.take_succ_eq_append_getElem hlt, Hp.out]; exact HL.out.enter Hq.out (by rw [Hset.out]; exact hb) Hy0.out HE5.out HT5.out)⟩
          rcases h with (h | h) | h
          · exact .inl h
          · exact .inr ⟨h.1, by omega⟩
          · exact .inr ⟨by omega, h.2⟩
        case measure => simp [intOf]; omega
    · obtain rfl : i = hs.length := by omega
      have hL := HL.out
      rw [List.take_length] at hL
      have HLf := Lib.hid hL
      have x2 : wr.cell? ⟨g, 2, none⟩ = some (.slice As ns cs) := HWr.out.blk.cell 2
      have f2 : wr.frozen? ⟨g, 2, none⟩ = false := HWr.out.blk.free 2
      have hfin := HWr.out.setSpare (.slice Ah hs.length ch)
      have Hfin := Lib.hid hfin
      clear hL hlt hfin
      go_wp2
      first | go_end0 | refine bodyPost_ret (results_none rfl _ _ _) rfl ?_
      have hsz := HOall.out.size
      have hg2 := HS2.out.og
      have hO2 : ∀ b, (fun b => (O1 b ∧ ¬ inA Ah b) ∨ inA As b) b → O b := fun b h => h.elim (fun h => HO.out b h.1) (fun h => (Hd.out b h).1)
      have hOg : Only (fun b => b = g) wr (wr.setCell ⟨g, 2, none⟩ (.slice Ah hs.length ch)) := (Only.refl (fun b => b = g) wr).setCell (p := ⟨g, 2, none⟩) (.inl rfl) _
      have hszf : (wr.setCell ⟨g, 2, none⟩ (.slice Ah hs.length ch)).heap.size = wr.heap.size := by simp [World.setCell]
      have hlA : ∀ b, inA Ah b → b < W2.heap.size := fun b hb => Hfrom.out.lt hb
      refine ⟨⟨_, rfl⟩, hs1, rs1, ⟨_, F, A, c, A1, c1, Ah, hs.length, ch, ints hs, _, cr, Hfin.out, Hfr.out.only hOg (fun b h1 h2 => (HS.out.oh b h1).2.1 h2), fun b hb => ⟨.inl (HO.out b (HS.out.oh b hb).1), fun h => h.elim (HnA.out b hb) (fun h => by have := hlA b hb; omega)⟩, fun b h => h.elim (fun h => .inl (hO2 b h)) (fun h => .inr ⟨by omega, by omega⟩)⟩, (HOall.out.mono (fun b _ h => HO.out b h)).trans ((HOr.out.mono (fun b _ h => hO2 b h)).trans (hOg.mono (fun b _ h => by subst h; exact hO2 _ hg2)) (fun _ _ h => h)) (fun _ _ h => h), HLf.out⟩
end Go.Proofs.YtlddmjhpemihgaaDoor

/-
  The contract of the program's begin. No statement of the seat is proved here.
-/
namespace Go.Proofs.YtlddmjhpemihgaaDoor
open Go Go.RowKit
set_option maxRecDepth 100000
theorem info_bool : (Tryd.prog.info? 4).map (fun i => (i.zero, i.size, i.bytes)) = some (some (.bool false), 1, 1) := by kernel_rfl
theorem make_bools (W : World) (n : Nat) (h : n ≤ 1000000) : (Instr.makeSlice 68 (.int .i64 (n : Int)) (.int .i64 (n : Int))).run Tryd.prog W =
    .ok (.slice (some ⟨W.heap.size, 0, none⟩) n n) (W.alloc (.cells (madeCells #[.bool false] (n * 1)) 4)) := by
  obtain ⟨i, hi, hz, hsz, hby⟩ := info_parts info_bool
  have hr := run_make (P := Tryd.prog) W 68 4 i _ Tryd.underlying68 hi hz .i64 .i64 (n : Int) (n : Int) (by omega) (by omega) (by rw [hby]; omega) (by omega)
  simp only [Int.toNat_natCast, hsz] at hr
  exact hr
theorem made_bools (n : Nat) : (madeCells #[.bool false] (n * 1)).toList = bools (List.replicate n false) := by
  unfold madeCells bools
  apply List.ext_getElem
  · simp
  · intro i h1 h2
    simp [Nat.mod_one]
theorem accN_end {M : List Pl} (h : M[0]? = some ⟨false, zeroB, []⟩) : ∀ m v, accN M m 0 v → v = []
  | 0, v, h1 => h1.2
  | m + 1, v, h1 => by
    rcases h1 with h1 | ⟨q, hq, ⟨ho, _⟩ | ⟨_, c, v', y, _, hb, _⟩⟩
    · exact h1.2
    · rw [h] at hq; injection hq with hq; subst hq; cases ho
    · rw [h] at hq; injection hq with hq; subst hq
      have := has_zero c
      rw [show hasB zeroB c = true from hb] at this
      cases this
theorem isE_small {t : Ex} (h : isE t = true) : oneE 1 t = true ∧ nodesE t ≤ 128 ∧ plE t ≤ 2100 := by
  simp only [isE, Bool.and_eq_true, decide_eq_true_eq] at h
  have := pl_weight t 1 h.1.1.1.1 (by omega)
  exact ⟨h.1.1.1.1, h.1.1.1.2, by omega⟩
/-- what begin leaves -/
def Begun (x : Ex) (w : World) (g : Nat) (M : List Pl) (s0 : Nat) (hs : List Nat) (rs : List Bool) (W' : World) : Prop :=
  Wk (fun b => w.heap.size ≤ b ∧ b < W'.heap.size) W' g M hs rs ∧ Below w.heap.size w W' ∧ OkM M ∧ M.length ≤ 1000000 ∧ 0 < M.length ∧ (∃ q, M[0]? = some q ∧ q.open_ = false) ∧ Cl M rs ∧ HereOk M hs rs ∧ Means M rs s0 [] ∧ hs.length + noL rs ≤ M.length ∧ ∀ u, acc M s0 u ↔ inE x u

set_option maxHeartbeats 16000000 in
theorem begin_any (x : Ex) (cs : List Value) (w : World) (hr : ReR (fun _ => True) w x cs) (hx : isE x = true) :
    Calls Tryd.prog 32 #[reV cs] w fun e W' => ∃ g M s0 hs rs, e = .returned (.pointer (some ⟨g, 0, none⟩)) ∧ Begun x w g M s0 hs rs W' := by
  obtain ⟨hx1, hx2, hx3⟩ := isE_small hx
  obtain ⟨k, q0, q1, q2, q3, ks, B, d, lo, hi, -, rfl, h1, h2, -, -, -, -, -⟩ := hr.fields
  unfold maxLen at h2
  obtain ⟨w1, hw1⟩ : ∃ w1, w1 = (w.alloc (.cells #[.int .i64 k, .int .u64 (q0 : Int), .int .u64 (q1 : Int), .int .u64 (q2 : Int), .int .u64 (q3 : Int), .slice B ks.length d, .int .i64 lo, .int .i64 hi] 27)).alloc (.cells #[.slice none 0 0, .slice none 0 0, .slice none 0 0, .slice none 0 0] 70) := ⟨_, rfl⟩
  have hb1 : Below w.heap.size w w1 := by rw [hw1]; exact ext2 w _ _
  have hs1 : w1.heap.size = w.heap.size + 1 + 1 := by rw [hw1]; simp
  have hBv : Blk w1 w.heap.size 27 #[.int .i64 k, .int .u64 (q0 : Int), .int .u64 (q1 : Int), .int .u64 (q2 : Int), .int .u64 (q3 : Int), .slice B ks.length d, .int .i64 lo, .int .i64 hi] := by rw [hw1]; exact (Blk.new w _ _).alloc _
  have hBg : Blk w1 (w.heap.size + 1) 70 #[.slice none 0 0, .slice none 0 0, .slice none 0 0, .slice none 0 0] := by
    rw [hw1]
    have := Blk.new (w.alloc (.cells #[.int .i64 k, .int .u64 (q0 : Int), .int .u64 (q1 : Int), .int .u64 (q2 : Int), .int .u64 (q3 : Int), .slice B ks.length d, .int .i64 lo, .int .i64 hi] 27)) 70 #[.slice none 0 0, .slice none 0 0, .slice none 0 0, .slice none 0 0]
    rwa [World.size_alloc] at this
  have hW1 : WA (fun _ => False) w1 (w.heap.size + 1) none 0 [] (.slice none 0 0) (.slice none 0 0) (.slice none 0 0) := ⟨hBg, RowP.none_ _ _, fun b hb => absurd hb (inA_none b), fun b hb => hb.elim⟩
  have hr1 : ReR (fun b => b < w.heap.size + 1) w1 x [.int .i64 k, .int .u64 (q0 : Int), .int .u64 (q1 : Int), .int .u64 (q2 : Int), .int .u64 (q3 : Int), .slice B ks.length d, .int .i64 lo, .int .i64 hi] := (hr.mono (T := fun b => b < w.heap.size + 1) (fun b _ hl => by omega)).ext hb1
  have hadd := add_wa hW1 ⟨false, zeroB, []⟩ [.bool false, .int .u64 0, .int .u64 0, .int .u64 0, .int .u64 0, .slice none 0 0] (plAt_set (a0 := 0) (a1 := 0) (a2 := 0) (a3 := 0) zero_ok (l := []) (d := 0) (Nat.le_refl _) (by simp [maxLen]) (.inl rfl)) (by simp)
  have Hadd := Lib.hid hadd
  have Hr1 := Lib.hid hr1
  have HBv := Lib.hid hBv
  have Hb1 := Lib.hid hb1
  have Hw1 := Lib.hid hw1
  have Hs1 := Lib.hid hs1
  clear hadd hr1 hBv hBg hb1 hw1 hs1 hW1 hr
  show Calls Tryd.prog 32 #[.agg #[.int .i64 k, .int .u64 (q0 : Int), .int .u64 (q1 : Int), .int .u64 (q2 : Int), .int .u64 (q3 : Int), .slice B ks.length d, .int .i64 lo, .int .i64 hi]] w _
  go_enter Tryd.func32, Tryd.ntmps32
  go_wp2_with fail
  rw [← Hw1.out]
  refine Hadd.out.mono ?_
  rintro e w2 ⟨rfl, A2, c2, hW2, hG2⟩
  have hs2 := hG2.1.size
  have hV2 := hG2.blk HBv.out (by omega) (inA_none _)
  have hr2 := hG2.re (fun b hb => absurd hb (inA_none b)) Hr1.out
  have HC : Hid (Calls Tryd.prog 41 #[.pointer (some ⟨w.heap.size + 1, 0, none⟩), .agg #[.int .i64 k, .int .u64 (q0 : Int), .int .u64 (q1 : Int), .int .u64 (q2 : Int), .int .u64 (q3 : Int), .slice B ks.length d, .int .i64 lo, .int .i64 hi], .int .i64 0] w2 (LayP (fun _ => False) w2 (w.heap.size + 1) A2 ([] ++ [(⟨false, zeroB, []⟩ : Pl)]) (.slice none 0 0) (.slice none 0 0) (.slice none 0 0) (plE x) (inE x) 0)) := Lib.hid (lay_any x 1 hx1 hx2 hx3 (fun _ => False) w2 (w.heap.size + 1) A2 c2 ([] ++ [(⟨false, zeroB, []⟩ : Pl)]) (.slice none 0 0) (.slice none 0 0) (.slice none 0 0) [.int .i64 k, .int .u64 (q0 : Int), .int .u64 (q1 : Int), .int .u64 (q2 : Int), .int .u64 (q3 : Int), .slice B ks.length d, .int .i64 lo, .int .i64 hi] 0 1 hW2 hr2 (by simp) (by have := qOf_ge 1; simp; omega) hx1)
  have HG2 := Lib.hid hG2
  have c0 := hV2.cell 0
  have c1' := hV2.cell 1
  have c2' := hV2.cell 2
  have c3 := hV2.cell 3
  have c4 := hV2.cell 4
  have c5 := hV2.cell 5
  have c6 := hV2.cell 6
  have c7 := hV2.cell 7
  have Hs2 := Lib.hid hs2
  clear hW2 hG2 hs2 hV2 hr2
  go_wp2_with fail
  refine HC.out.mono ?_
  rintro e w3 ⟨s0, A3, c3', N, rfl, hW3, hG3, hN3, hL3⟩
  obtain ⟨M, hM⟩ : ∃ M, [] ++ [(⟨false, zeroB, []⟩ : Pl)] ++ N = M := ⟨_, rfl⟩
  rw [hM] at hW3
  have hMl : M.length = 1 + N.length := by rw [← hM]; simp; omega
  have hM0 : M[0]? = some (⟨false, zeroB, []⟩ : Pl) := by rw [← hM]; simp
  have hMn : M.length ≤ 1000000 := by omega
  have hMi : (M.length : Int) ≤ 1000000 := by omega
  have hmk := fun W => make_bools W M.length hMn
  have x0 : w3.cell? ⟨w.heap.size + 1, 0, none⟩ = some (.slice A3 M.length c3') := hW3.1.cell 0
  have x3 : w3.cell? ⟨w.heap.size + 1, 3, none⟩ = some (.slice none 0 0) := hW3.1.cell 3
  have f3 : w3.frozen? ⟨w.heap.size + 1, 3, none⟩ = false := hW3.1.free 3
  have hs3 := hG3.1.size
  have hgl3 := hW3.1.lt
  obtain ⟨O1, hO1⟩ : ∃ O1, O1 = Obj.cells (madeCells #[.bool false] (M.length * 1)) 4 := ⟨_, rfl⟩
  have hmk' : ∀ W : World, (Instr.makeSlice 68 (.int .i64 (M.length : Int)) (.int .i64 (M.length : Int))).run Tryd.prog W = .ok (.slice (some ⟨W.heap.size, 0, none⟩) M.length M.length) (W.alloc O1) := by rw [hO1]; exact hmk
  obtain ⟨w4, hw4⟩ : ∃ w4, w4 = (w3.setCell ⟨w.heap.size + 1, 3, none⟩ (.slice (some ⟨w3.heap.size, 0, none⟩) M.length M.length)).alloc O1 := ⟨_, rfl⟩
  have hsz4 : w4.heap.size = w3.heap.size + 1 := by rw [hw4]; simp [World.setCell]
  have hOset : Only (fun b => b = w.heap.size + 1) w3 w4 := by rw [hw4]; exact ((Only.refl (fun b => b = w.heap.size + 1) w3).setCell (p := ⟨w.heap.size + 1, 3, none⟩) (.inl rfl) _).alloc _
  have hB4 : Blk w4 (w.heap.size + 1) 70 #[.slice A3 M.length c3', .slice none 0 0, .slice none 0 0, .slice (some ⟨w3.heap.size, 0, none⟩) M.length M.length] := by rw [hw4]; exact (hW3.1.put 3 _).alloc _
  have hR4 : RowO w4 4 1 (some ⟨w3.heap.size, 0, none⟩) M.length M.length (bools (List.replicate M.length false)) := by
    rw [hw4, hO1, ← made_bools]
    exact RowO.lit _ 4 1 M.length _ (by simp [madeCells]) (by unfold maxLen; omega) (by simp [World.setCell])
  have hlA3 := hW3.ltA
  have hrl : (List.replicate M.length false).length = M.length := by simp
  have hS4 : WkS (fun b => w.heap.size ≤ b ∧ b < w4.heap.size) (fun b => (False ∨ w2.heap.size ≤ b) ∧ b < w3.heap.size) w4 (w.heap.size + 1) M A3 c3' none 0 (.slice none 0 0) (some ⟨w3.heap.size, 0, none⟩) M.length [] (List.replicate M.length false) := by
    have hs2 := Hs2.out
    have hs1 := Hs1.out
    refine ⟨by rw [hrl]; exact hB4, ((hW3.2.1.mono (T := fun b => (False ∨ w2.heap.size ≤ b) ∧ b < w3.heap.size) (fun b hb hl => ⟨hb, hl⟩)).only hOset (fun b h1 h2 => by have := hW3.2.2.1 b h2; omega) (fun b h1 h2 => by have := h2.1; simp at this; omega)), RowO.none_ _ _ _, by rw [hrl]; exact hR4, hrl, fun b hb => ?_, fun b hb => absurd hb (inA_none b), fun b hb => ?_, ⟨by omega, by omega⟩, fun b hb => by have := hb.2; omega⟩
    · have hb2 : w.heap.size + 1 < b ∧ b < w3.heap.size := hb.elim (fun h => ⟨by have := h.1; simp at this; omega, h.2⟩) (fun h => ⟨hW3.2.2.1 b h, hlA3 b h⟩)
      exact ⟨⟨by omega, by omega⟩, by omega, inA_none b, fun hin => by have := (inA_some _ _ _ _).1 hin; omega⟩
    · have := (inA_some _ _ _ _).1 hb
      exact ⟨⟨by omega, by omega⟩, by omega⟩
  have hOkM : OkM M := fun q hq => by
    rw [← hM, List.mem_append] at hq
    rw [hMl]
    rcases hq with hq | hq
    · simp at hq
      subst hq
      exact ⟨fun y hy => (by cases hy), fun c hc => (by have h9 := has_zero c; rw [show hasB zeroB c = true from hc] at h9; cases h9), by simp, zero_ok⟩
    · have := hL3.ok q hq
      simpa using this
  have hs0 : s0 < M.length := by have := hL3.lt; rw [hMl]; simpa using this
  have hHE := enter_any M hOkM hMn (noL (List.replicate M.length false)) _ _ w4 (w.heap.size + 1) A3 c3' none 0 (.slice none 0 0) (some ⟨w3.heap.size, 0, none⟩) M.length s0 [] (List.replicate M.length false) (Nat.le_refl _) hS4 hs0 (by rw [noL_rep]; simpa using hMn)
  have HHE := Lib.hid hHE
  have hbel : Below w.heap.size w w4 := by
    have a1 : Below w.heap.size w w2 := Hb1.out.trans (HG2.out.1.below (fun i hi => hi.elim (fun h => by omega) (fun h => absurd h (inA_none i))) Hb1.out.size)
    have a2 : Below w.heap.size w w3 := a1.trans (hG3.1.below (fun i hi => hi.elim (fun h => by omega) (fun h => (HG2.out.2 i h).elim (fun h => absurd h (inA_none i)) (fun h => by have := Hs1.out; omega))) a1.size)
    exact a2.trans (hOset.below (fun i hi => by omega) a2.size)
  have Hbel := Lib.hid hbel
  have hLead := hL3.leads M (fun i hi => by
    rw [← hM]
    have e : ([] ++ [(⟨false, zeroB, []⟩ : Pl)] : List Pl).length = 1 := rfl
    rw [List.getElem?_append_right (by rw [e]; simp), e]
    simp)
  have HLead := Lib.hid hLead
  have HOkM := Lib.hid hOkM
  have HM0 := Lib.hid hM0
  have Hw4 := Lib.hid hw4
  have Hsz4 := Lib.hid hsz4
  clear hbel hLead hHE hS4 hR4 hB4 hOset hW3 hG3 hN3 hL3 hOkM hM0 hM hw4 hMl hmk c0 c1' c2' c3 c4 c5 c6 c7 HC hrl hlA3 hO1 hsz4
  go_wp2_with fail
  rw [← Hw4.out]
  refine HHE.out.mono ?_
  rintro e w5 ⟨⟨v, rfl⟩, A5, c5, hs5, rs5, hW5, hO5, hK5, hE5, hT5⟩
  have hstart := Means.start hE5 hT5
  have Hstart := Lib.hid hstart
  have HW5 := Lib.hid hW5
  have HO5 := Lib.hid hO5
  clear hW5 hO5 hK5 hE5 hT5 hstart HHE
  go_wp2
  go_ret
  obtain ⟨k1, k2, k3, k4, k5⟩ := Hstart.out
  have hsz5 := HO5.out.size
  refine ⟨w.heap.size + 1, M, s0, hs5, rs5, rfl, ⟨_, _, A3, c3', A5, c5, none, 0, 0, [], some ⟨w3.heap.size, 0, none⟩, M.length, HW5.out, RowO.none_ _ _ _, fun b hb => absurd hb (inA_none b), fun b h => h.elim (fun h => ⟨h.1, by have := h.2; omega⟩) (fun h => ⟨by have := Hbel.out.size; omega, h.2⟩)⟩, Hbel.out.trans (HO5.out.below (fun i hi => hi.1) Hbel.out.size), HOkM.out, hMn, by omega, ⟨_, HM0.out, rfl⟩, k1, k2, k3, k4, fun u => ⟨?_, fun h => ?_⟩⟩
  · rintro ⟨n, h⟩
    obtain ⟨a, v, m, _, rfl, ha, hv⟩ := HLead.out.1 n u h
    have := accN_end HM0.out m v hv
    subst this
    rw [List.append_nil]; exact ha
  · have := HLead.out.2 u [] h (acc_zero M)
    rwa [List.append_nil] at this
end Go.Proofs.YtlddmjhpemihgaaDoor
