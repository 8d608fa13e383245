/-
  Texts of this claim, joined (part 12): contracts and lemmas that the last text goes by. No statement of the seat is proved here.
-/
import Derived.Test.YtdghbdiapkelnaaAll11
import Derived.Test.YtdghbdiapkelnaaAll7
import Derived.Test.YtdghbdiapkelnaaAll8
import Derived.Test.YtdghbdiapkelnaaAll6
set_option linter.unusedVariables false
set_option linter.unusedSimpArgs false
/-
  A Writer of the call's own, step by step; a tree's bytes (mathematics). No statement of the seat is proved here.
-/
namespace Go.Proofs.Ytdghbdiapkelnaa
open Go Go.RowKit
set_option maxRecDepth 100000

/-! ### the mathematics -/
def prtB (q : Prt) : List UInt8 := if q.any = true then dig 1 else dig 0 ++ (dig q.text.length ++ q.text)
def tmpB (p : List Prt) : List UInt8 := dig p.length ++ p.flatMap prtB
def lfB (x : Lf) : List UInt8 := dig x.count ++ (dig x.a.length ++ x.a) ++ (dig x.b.length ++ x.b) ++ dig x.gr.length ++ x.gr.flatMap dig
def treeB (t : Tr) : List UInt8 := dig (t.ts.length + 1) ++ t.ts.flatMap tmpB ++ dig t.lv.length ++ t.lv.flatMap lfB
/-- no text is long -/
structure Sml (t : Tr) : Prop where
  tx : ∀ p ∈ t.ts, ∀ q ∈ p, q.text.length ≤ 6000
  ky : ∀ x ∈ t.lv, x.a.length ≤ 6000 ∧ x.b.length ≤ 6000 ∧ x.count ≤ 64
theorem dig9 (n : Nat) (h : n ≤ 4611686018427387904) : (dig n).length ≤ 9 := dig_len 9 _ (by have : (128 : Nat) ^ 9 = 9223372036854775808 := rfl; omega) (by omega)
theorem prtB_len {q : Prt} (h : q.text.length ≤ 6000) : (prtB q).length ≤ 6018 := by
  unfold prtB
  have h1 := dig9 q.text.length (by omega)
  have h2 := dig9 0 (by omega)
  have h3 := dig9 1 (by omega)
  split
  · omega
  · rw [List.length_append, List.length_append]; omega
theorem flat_len_le {α : Type} (f : α → List UInt8) (m : Nat) : ∀ (l : List α), (∀ x ∈ l, (f x).length ≤ m) → (l.flatMap f).length ≤ m * l.length
  | [], _ => by simp
  | a :: r, h => by
    have h1 := h a (List.mem_cons_self ..)
    have h2 := flat_len_le f m r (fun x hx => h x (List.mem_cons_of_mem _ hx))
    rw [List.flatMap_cons, List.length_append, List.length_cons, Nat.mul_succ]
    omega
theorem tmpB_len {p : List Prt} (h : ∀ q ∈ p, q.text.length ≤ 6000) (hl : p.length ≤ 64) : (tmpB p).length ≤ 400000 := by
  have h1 := dig9 p.length (by omega)
  have h2 := flat_len_le prtB 6018 p (fun q hq => prtB_len (h q hq))
  have h3 : 6018 * p.length ≤ 6018 * 64 := Nat.mul_le_mul_left _ hl
  unfold tmpB
  rw [List.length_append]
  omega
theorem lfB_len {x : Lf} (h : x.a.length ≤ 6000 ∧ x.b.length ≤ 6000 ∧ x.count ≤ 64) (hg : x.gr.length ≤ 8) (hv : ∀ g ∈ x.gr, g ≤ 100) : (lfB x).length ≤ 20000 := by
  have h1 := dig9 x.count (by omega)
  have h2 := dig9 x.a.length (by omega)
  have h3 := dig9 x.b.length (by omega)
  have h4 := dig9 x.gr.length (by omega)
  have h5 := flat_len_le dig 9 x.gr (fun g hg => dig9 g (by have := hv g hg; omega))
  unfold lfB
  simp only [List.length_append]
  omega
def tsTo (t : Tr) (k : Nat) : List UInt8 := dig (t.ts.length + 1) ++ (t.ts.take k).flatMap tmpB
def lvTo (t : Tr) (k : Nat) : List UInt8 := dig (t.ts.length + 1) ++ t.ts.flatMap tmpB ++ dig t.lv.length ++ (t.lv.take k).flatMap lfB
theorem tsTo_len {t : Tr} (hG : Good t) (hS : Sml t) (k : Nat) : (tsTo t k).length ≤ 30000000 := by
  have h1 := dig9 (t.ts.length + 1) (by have := hG.ids; omega)
  have h2 := flat_len_le tmpB 400000 (t.ts.take k) (fun p hp => tmpB_len (hS.tx p (List.mem_of_mem_take hp)) (hG.long p (List.mem_of_mem_take hp)).2)
  have h3 : (t.ts.take k).length ≤ 63 := by rw [List.length_take]; have := hG.ids; omega
  have h4 : 400000 * (t.ts.take k).length ≤ 400000 * 63 := Nat.mul_le_mul_left _ h3
  unfold tsTo
  rw [List.length_append]
  omega
theorem lvTo_len {t : Tr} (hG : Good t) (hS : Sml t) (k : Nat) : (lvTo t k).length ≤ 40000000 := by
  have h0 := tsTo_len hG hS t.ts.length
  unfold tsTo at h0
  rw [List.take_length] at h0
  have h1 := dig9 t.lv.length (by have := hG.lvs; omega)
  have h2 := flat_len_le lfB 20000 (t.lv.take k) (fun x hx => lfB_len (hS.ky x (List.mem_of_mem_take hx)) (hG.gr x (List.mem_of_mem_take hx)).2.1 (fun g hg => by have := ((hG.gr x (List.mem_of_mem_take hx)).2.2.2 g hg).2.1; have := hG.ids; omega))
  have h3 : (t.lv.take k).length ≤ 32 := by rw [List.length_take]; have := hG.lvs; omega
  have h4 : 20000 * (t.lv.take k).length ≤ 20000 * 32 := Nat.mul_le_mul_left _ h3
  unfold lvTo
  rw [List.length_append, List.length_append]
  omega
theorem tsTo_succ {t : Tr} {k : Nat} (h : k < t.ts.length) : tsTo t (k + 1) = tsTo t k ++ tmpB t.ts[k] := by
  unfold tsTo
  rw [take_snoc _ _ h, List.flatMap_append, ← List.append_assoc]
  simp
theorem lvTo_succ {t : Tr} {k : Nat} (h : k < t.lv.length) : lvTo t (k + 1) = lvTo t k ++ lfB t.lv[k] := by
  unfold lvTo
  rw [take_snoc _ _ h, List.flatMap_append, ← List.append_assoc]
  simp
theorem tsTo_all (t : Tr) : tsTo t t.ts.length ++ dig t.lv.length = lvTo t 0 := by
  unfold tsTo lvTo
  rw [List.take_length]
  simp
theorem lvTo_all (t : Tr) : lvTo t t.lv.length = treeB t := by
  unfold lvTo treeB
  rw [List.take_length]
/-- parts behind each other -/
def prtTo (p : List Prt) (k : Nat) : List UInt8 := dig p.length ++ (p.take k).flatMap prtB
theorem prtTo_succ {p : List Prt} {k : Nat} (h : k < p.length) : prtTo p (k + 1) = prtTo p k ++ prtB p[k] := by
  unfold prtTo
  rw [take_snoc _ _ h, List.flatMap_append, ← List.append_assoc]
  simp
theorem prtTo_all (p : List Prt) : prtTo p p.length = tmpB p := by
  unfold prtTo tmpB
  rw [List.take_length]
theorem prtTo_len {p : List Prt} (h : ∀ q ∈ p, q.text.length ≤ 6000) (hl : p.length ≤ 64) (k : Nat) : (prtTo p k).length ≤ 400000 := by
  have h1 := dig9 p.length (by omega)
  have h2 := flat_len_le prtB 6018 (p.take k) (fun q hq => prtB_len (h q (List.mem_of_mem_take hq)))
  have h3 : 6018 * (p.take k).length ≤ 6018 * 64 := Nat.mul_le_mul_left _ (by rw [List.length_take]; omega)
  unfold prtTo
  rw [List.length_append]
  omega
/-! ### the Writer -/
def W4 (w0 : World) : World := w0.alloc (.cells #[.slice none 0 0] 89)
/-- a Writer that a call made at 'w0', which has laid these bytes -/
def WS (w0 : World) (bs : List UInt8) (w : World) : Prop := Wr w (More (fun k => k = w0.heap.size) (W4 w0) w) w0.heap.size (bs.map bv) ∧ Only (fun k => k = w0.heap.size) (W4 w0) w
section
variable {w0 w wc : World} {bs : List UInt8}
theorem W4_size (w0 : World) : (W4 w0).heap.size = w0.heap.size + 1 := World.size_alloc _ _
theorem WS.start (w0 : World) : WS w0 [] (W4 w0) := by
  refine ⟨?_, Only.refl _ _⟩
  have h : Wr (W4 w0) (fun k => k = w0.heap.size) w0.heap.size [] := Wr.new w0 _ rfl
  exact h.mono (fun k hk _ => .inl hk)
theorem WS.bel (h : WS w0 bs w) : Below w0.heap.size w0 w := by
  have hb : Below w0.heap.size w0 (W4 w0) := ext_alloc (Below.refl _ _) _
  exact hb.trans (h.2.below (fun i hi => by omega) hb.size)
theorem WS.ext (h : WS w0 bs w) {w' : World} (hb : Below w.heap.size w w') : WS w0 bs w' := by
  refine ⟨(h.1.ext hb).mono (fun k hk _ => ?_), h.2.trans (Only.of_ext hb) (fun _ _ h => h)⟩
  rcases hk with hk | hk
  · exact .inl hk
  · exact .inr ⟨hk.1, Nat.lt_of_lt_of_le hk.2 hb.size⟩
theorem WS.far (h : WS w0 bs w) {k : Nat} (hk : k < w0.heap.size ∨ w.heap.size ≤ k) : ¬ More (fun k => k = w0.heap.size) (W4 w0) w k := fun hm => by
  have h1 := W4_size w0
  have h2 := h.2.size
  rcases hm with hm | hm
  · omega
  · have := hm.1; have := hm.2; omega
/-- what a step of the Writer's leaves -/
theorem WS.step (h : WS w0 bs w) (hbc : Below w.heap.size w wc) {ds : List UInt8} {w' : World} (hr : Wr w' (More (More (fun k => k = w0.heap.size) (W4 w0) w) wc w') w0.heap.size (bs.map bv ++ ds.map bv)) (ho : Only (More (fun k => k = w0.heap.size) (W4 w0) w) wc w') : WS w0 (bs ++ ds) w' := by
  have hs := hbc.size
  refine ⟨?_, ?_⟩
  · rw [List.map_append]
    exact Wr.join h.2.size hs ho.size hr
  · exact (h.2.trans (Only.of_ext hbc) (fun _ _ h => h)).join ho
/-- the blocks that a step of the Writer's may turn -/
def WF (w0 w : World) : Nat → Prop := More (fun k => k = w0.heap.size) (W4 w0) w
theorem ws_num (h : WS w0 bs w) {X : World} (hX : Below w.heap.size w X) (v : Int) (hv : isInt v) (hb : bs.length ≤ 100000000) :
    Calls Try.prog 46 #[.pointer (some ⟨w0.heap.size, 0, none⟩), .slice (some ⟨X.heap.size, 0, none⟩) 1 1] (X.alloc (.cells #[.int .i64 v] 3)) fun e w' => e = .returned (.tuple #[]) ∧ WS w0 (bs ++ dig (clamp v)) w' ∧ Only (WF w0 w) (X.alloc (.cells #[.int .i64 v] 3)) w' := by
  have hbc : Below w.heap.size w (X.alloc (.cells #[.int .i64 v] 3)) := ext_alloc hX _
  refine (nums_any _ _ (some ⟨X.heap.size, 0, none⟩) 1 1 [v] (bs.map bv) _ (h.1.ext hbc) rfl (RdF.lit X #[.int .i64 v] _ rfl (h.far (.inr hX.size))) (by
      intro x hx
      simp only [List.mem_cons, List.not_mem_nil, or_false] at hx
      subst hx
      exact hv) (by simp; omega)).mono ?_
  rintro e w' ⟨rfl, hr, ho⟩
  refine ⟨rfl, h.step hbc ?_ ho, ho⟩
  have e : numsB [v] = dig (clamp v) := by simp [numsB]
  rw [e] at hr
  exact hr
theorem ws_nums (h : WS w0 bs w) {X : World} (hX : Below w.heap.size w X) (A : Option Addr) (c : Nat) (vs : List Nat) (hA : Rd w0 A (vs.map natV)) (hv : ∀ v ∈ vs, v ≤ 100) (hl : vs.length ≤ 1000) (hb : bs.length ≤ 100000000) :
    Calls Try.prog 46 #[.pointer (some ⟨w0.heap.size, 0, none⟩), .slice A vs.length c] X fun e w' => e = .returned (.tuple #[]) ∧ WS w0 (bs ++ vs.flatMap dig) w' ∧ Only (WF w0 w) X w' := by
  have hmap : (vs.map (fun v : Nat => (v : Int))).map iv = vs.map natV := by rw [List.map_map]; rfl
  refine (nums_any _ _ A _ c (vs.map (fun v : Nat => (v : Int))) (bs.map bv) X (h.1.ext hX) (by rw [List.length_map]) (by
      rw [hmap]
      refine ⟨(hA.ext h.bel).ext hX, fun ad e hne => ?_⟩
      obtain ⟨u, r, hu⟩ := List.exists_cons_of_ne_nil hne
      obtain ⟨ad2, e2, hc⟩ := hA 0 u (by rw [hu]; rfl)
      rw [e] at e2
      injection e2 with e2
      subst e2
      have := World.block_lt_of_cell? w0 _ hc
      rw [block_add] at this
      exact h.far (.inl this)) (by
      intro x hx
      obtain ⟨v, hv2, rfl⟩ := List.mem_map.1 hx
      have := hv v hv2
      exact ⟨by omega, by omega⟩) (by simp; omega)).mono ?_
  rintro e w' ⟨rfl, hr, ho⟩
  refine ⟨rfl, h.step hX ?_ ho, ho⟩
  have key : ∀ l : List Nat, (∀ v ∈ l, v ≤ 100) → numsB (l.map (fun v : Nat => (v : Int))) = l.flatMap dig := by
    intro l
    induction l with
    | nil => intro _; rfl
    | cons a r ih =>
      intro hx
      have h1 := ih (fun v hv => hx v (List.mem_cons_of_mem _ hv))
      have h2 := hx a (List.mem_cons_self ..)
      unfold numsB at h1 ⊢
      rw [List.map_cons, List.flatMap_cons, h1, clamp_of_nat (by omega), List.flatMap_cons]
  rw [key vs hv] at hr
  exact hr
theorem ws_text (h : WS w0 bs w) {X : World} (hX : Below w.heap.size w X) (s : List UInt8) (cc : Nat) (hbc : Below X.heap.size X wc) (hz : wc.heap.size = X.heap.size + 1) (hrc : Rd wc (some ⟨X.heap.size, 0, none⟩) (s.map bv)) (hcc : s.length ≤ cc) (hs : s.length ≤ 6000) (hb : bs.length ≤ 100000000) :
    Calls Try.prog 48 #[.pointer (some ⟨w0.heap.size, 0, none⟩), .slice (some ⟨wc.heap.size, 0, none⟩) 1 1] (wc.alloc (.cells #[.slice (some ⟨X.heap.size, 0, none⟩) s.length cc] 48)) fun e w' => e = .returned (.tuple #[]) ∧ WS w0 (bs ++ (dig s.length ++ s)) w' ∧ Only (WF w0 w) (wc.alloc (.cells #[.slice (some ⟨X.heap.size, 0, none⟩) s.length cc] 48)) w' := by
  have hb2 : Below w.heap.size w (wc.alloc (.cells #[.slice (some ⟨X.heap.size, 0, none⟩) s.length cc] 48)) := ext_alloc (ext_trans hX hbc) _
  have hd := dig9 s.length (by omega)
  have hs1 := hX.size
  have e : rowsB [s] = dig s.length ++ s := by simp [rowsB]
  refine (bytes_any _ _ (some ⟨wc.heap.size, 0, none⟩) 1 1 [s] (bs.map bv) _ (h.1.ext hb2) rfl (RowsF.one ⟨hrc, fun ad e _ => by injection e with e; subst e; exact h.far (.inr hs1)⟩ hcc _ rfl (h.far (.inr (by omega)))) (by rw [e]; simp; omega) (by simp)).mono ?_
  rintro e' w' ⟨rfl, hr, ho⟩
  refine ⟨rfl, h.step hb2 ?_ ho, ho⟩
  rw [e] at hr
  exact hr
theorem ws_text2 {wd : World} (h : WS w0 bs w) {X : World} (hX : Below w.heap.size w X) (s u : List UInt8) (cc cd : Nat) (hbc : Below X.heap.size X wc) (hz : wc.heap.size = X.heap.size + 1) (hrc : Rd wc (some ⟨X.heap.size, 0, none⟩) (s.map bv)) (hcc : s.length ≤ cc) (hs : s.length ≤ 6000)
    (hbd : Below wc.heap.size wc wd) (hzd : wd.heap.size = wc.heap.size + 1) (hrd : Rd wd (some ⟨wc.heap.size, 0, none⟩) (u.map bv)) (hcd : u.length ≤ cd) (hu : u.length ≤ 6000) (hb : bs.length ≤ 100000000) :
    Calls Try.prog 48 #[.pointer (some ⟨w0.heap.size, 0, none⟩), .slice (some ⟨wd.heap.size, 0, none⟩) 2 2] (wd.alloc (.cells #[.slice (some ⟨X.heap.size, 0, none⟩) s.length cc, .slice (some ⟨wc.heap.size, 0, none⟩) u.length cd] 48)) fun e w' => e = .returned (.tuple #[]) ∧ WS w0 (bs ++ ((dig s.length ++ s) ++ (dig u.length ++ u))) w' ∧ Only (WF w0 w) (wd.alloc (.cells #[.slice (some ⟨X.heap.size, 0, none⟩) s.length cc, .slice (some ⟨wc.heap.size, 0, none⟩) u.length cd] 48)) w' := by
  have hb2 : Below w.heap.size w (wd.alloc (.cells #[.slice (some ⟨X.heap.size, 0, none⟩) s.length cc, .slice (some ⟨wc.heap.size, 0, none⟩) u.length cd] 48)) := ext_alloc (ext_trans (ext_trans hX hbc) hbd) _
  have hd := dig9 s.length (by omega)
  have hd2 := dig9 u.length (by omega)
  have hs1 := hX.size
  have e : rowsB [s, u] = (dig s.length ++ s) ++ (dig u.length ++ u) := by simp [rowsB]
  refine (bytes_any _ _ (some ⟨wd.heap.size, 0, none⟩) 2 2 [s, u] (bs.map bv) _ (h.1.ext hb2) rfl (RowsF.two ⟨hrc.ext hbd, fun ad e _ => by injection e with e; subst e; exact h.far (.inr hs1)⟩ hcc ⟨hrd, fun ad e _ => by injection e with e; subst e; exact h.far (.inr (by show w.heap.size ≤ wc.heap.size; omega))⟩ hcd _ rfl (h.far (.inr (by omega)))) (by rw [e]; simp; omega) (by simp)).mono ?_
  rintro e' w' ⟨rfl, hr, ho⟩
  refine ⟨rfl, h.step hb2 ?_ ho, ho⟩
  rw [e] at hr
  exact hr
theorem ws_out (h : WS w0 bs w) (hb : bs.length ≤ 100000000) :
    Calls Try.prog 49 #[.pointer (some ⟨w0.heap.size, 0, none⟩)] w fun e w' => ∃ A' c', e = .returned (.slice A' bs.length c') ∧ New w w' A' c' bs ∧ Below w.heap.size w w' := out_any _ _ bs w h.1 (by omega)
end
end Go.Proofs.Ytdghbdiapkelnaa

/-
  A number within bounds, a text (a decoder's). No statement of the seat is proved here.
-/
namespace Go.Proofs.Ytdghbdiapkelnaa
open Go Go.RowKit
set_option maxRecDepth 100000

abbrev BSt := List UInt8 × Bool
/-- what 'within' takes -/
def wiN (low high : Int) (s : BSt) : Nat × BSt := if ((stNum s.1 s.2).1 : Int) < low ∨ high < ((stNum s.1 s.2).1 : Int) then (0, ([], true)) else ((stNum s.1 s.2).1, (stNum s.1 s.2).2)
/-- what 'text' takes -/
def txN (low : Nat) (s : BSt) : List UInt8 × BSt := ((stBytes s.1 s.2).1, if (stBytes s.1 s.2).1.length < low ∨ 256 < (stBytes s.1 s.2).1.length then ([], true) else (stBytes s.1 s.2).2)
section
variable {fp : Nat → Prop} {w : World} {d rg : Nat} {bs : List UInt8} {bad : Bool}
set_option maxHeartbeats 2000000 in
theorem within_any (hc : w.cell? ⟨d, 0, none⟩ = some (.pointer (some ⟨rg, 0, none⟩))) (hne : d ≠ rg) (hr : Rdr w fp rg bs bad) (hb : bs.length ≤ 1099511627776) (low high : Int) (hl : isInt low) (hh : isInt high) :
    Calls Try.prog 51 #[.pointer (some ⟨d, 0, none⟩), .int .i64 low, .int .i64 high] w fun e w' => e = .returned (.int .i64 ((wiN low high (bs, bad)).1 : Int)) ∧ Rdr w' fp rg (wiN low high (bs, bad)).2.1 (wiN low high (bs, bad)).2.2 ∧ Only (fun k => k = rg) w w' := by
  have HN := Lib.hid (rnum_st fp rg bs bad w hr hb)
  have hn := stNum_le bs bad
  have Hne := Lib.hid hne
  have Hc := Lib.hid hc
  unfold wiN
  dsimp only
  generalize stNum bs bad = q at *
  obtain ⟨n, r⟩ := q
  dsimp only at HN hn ⊢
  have hni : (n : Int) ≤ 4611686018427387904 := by omega
  obtain ⟨l1, l2⟩ := hl
  obtain ⟨h1, h2⟩ := hh
  clear hr hb hn
  by_cases ha : (n : Int) < low
  · rw [if_pos (.inl ha)]
    go_enter Try.func51, Try.ntmps51
    go_wp2_with fail
    refine HN.out.mono ?_
    rintro e w1 ⟨rfl, hr1, ho1⟩
    have c1 := cell_only Hc.out ho1 Hne.out
    have HB := Lib.hid (rbad fp rg _ _ w1 hr1)
    have Ho1 := Lib.hid ho1
    clear hc hr1 ho1
    go_wp2_with fail
    refine HB.out.mono ?_
    rintro e w2 ⟨rfl, hr2, ho2⟩
    have Hr2 := Lib.hid hr2
    have Ho2 := Lib.hid (Ho1.out.trans ho2 (fun _ _ h => h))
    clear hr2 ho2 c1
    go_wp2
    go_ret
    exact ⟨rfl, Hr2.out, Ho2.out⟩
  · by_cases hb2 : high < (n : Int)
    · rw [if_pos (.inr hb2)]
      go_enter Try.func51, Try.ntmps51
      go_wp2_with fail
      refine HN.out.mono ?_
      rintro e w1 ⟨rfl, hr1, ho1⟩
      have c1 := cell_only Hc.out ho1 Hne.out
      have HB := Lib.hid (rbad fp rg _ _ w1 hr1)
      have Ho1 := Lib.hid ho1
      clear hc hr1 ho1
      go_wp2_with fail
      refine HB.out.mono ?_
      rintro e w2 ⟨rfl, hr2, ho2⟩
      have Hr2 := Lib.hid hr2
      have Ho2 := Lib.hid (Ho1.out.trans ho2 (fun _ _ h => h))
      clear hr2 ho2 c1
      go_wp2
      go_ret
      exact ⟨rfl, Hr2.out, Ho2.out⟩
    · rw [if_neg (by omega)]
      go_enter Try.func51, Try.ntmps51
      go_wp2_with fail
      refine HN.out.mono ?_
      rintro e w1 ⟨rfl, hr1, ho1⟩
      have Hr1 := Lib.hid hr1
      have Ho1 := Lib.hid ho1
      clear hc hr1 ho1
      go_wp2
      go_ret
      exact ⟨rfl, Hr1.out, Ho1.out⟩
set_option maxHeartbeats 2000000 in
theorem text_any (hc : w.cell? ⟨d, 0, none⟩ = some (.pointer (some ⟨rg, 0, none⟩))) (hne : d ≠ rg) (hr : Rdr w fp rg bs bad) (hb : bs.length ≤ 1000000000) (low : Nat) (hl : low ≤ 256) :
    Calls Try.prog 80 #[.pointer (some ⟨d, 0, none⟩), .int .i64 (low : Int)] w fun e w' => e = .returned (strV (txN low (bs, bad)).1) ∧ Rdr w' fp rg (txN low (bs, bad)).2.1 (txN low (bs, bad)).2.2 ∧ Only (fun k => k = rg) w w' := by
  have HN := Lib.hid (rbytes_st fp rg bs bad w hr (by omega))
  have hn := (stBytes_len bs bad).2
  have hrg := hr.lt
  have Hrg := Lib.hid hrg
  have Hne := Lib.hid hne
  have Hc := Lib.hid hc
  unfold txN
  dsimp only
  generalize stBytes bs bad = q at *
  obtain ⟨x, r⟩ := q
  dsimp only at HN hn ⊢
  have hni : (x.length : Int) ≤ 1000000000 := by omega
  have hli : (low : Int) ≤ 256 := by omega
  obtain ⟨Z, hZ, -⟩ := str_hide x
  have HZ : Hid (∀ W A c, Rd W A (x.map bv) → (convert 48 9 (.slice A x.length c)).run Try.prog W = .ok (.string Z) W) := Lib.hid (fun W A c hr => by
    have := conv_bytes W A _ c x rfl hr
    rw [show Value.string ⟨x.toArray⟩ = strV x from rfl, hZ] at this
    exact this)
  rw [hZ]
  have HRow : Hid (∀ (A : Option Addr) (c : Nat) (w1 w2 : World), New w w1 A c x → Only (fun k => k = rg) w1 w2 → Rd w2 A (x.map bv)) := Lib.hid (fun A c w1 w2 h1 h2 => h1.rd.only h2 (fun ad e hne hx => by
    have h3 := (h1.2 ad e).1
    have h4 := Hrg.out
    have h5 : ad.block = rg := hx
    omega))
  clear hr hb hn hrg hZ
  by_cases ha : x.length < low
  · have hai : (x.length : Int) < (low : Int) := by omega
    rw [if_pos (.inl ha)]
    clear ha
    go_enter Try.func80, Try.ntmps80
    go_wp2_with fail
    refine HN.out.mono ?_
    rintro e w1 ⟨A1, c1, rfl, hx1, hr1, ho1⟩
    have y1 := cell_only Hc.out ho1 Hne.out
    have HB := Lib.hid (rbad fp rg _ _ w1 hr1)
    have Ho1 := Lib.hid ho1
    have Hx1 := Lib.hid hx1
    clear hc hr1 ho1 hx1
    go_wp2_with fail
    refine HB.out.mono ?_
    rintro e w2 ⟨rfl, hr2, ho2⟩
    have Hr2 := Lib.hid hr2
    have Ho2 := Lib.hid (Ho1.out.trans ho2 (fun _ _ h => h))
    have hcv := HZ.out w2 A1 c1 (HRow.out A1 c1 w1 w2 Hx1.out ho2)
    clear hr2 ho2 y1
    go_wp2
    go_ret
    exact ⟨rfl, Hr2.out, Ho2.out⟩
  · have hai : ¬ (x.length : Int) < (low : Int) := by omega
    by_cases hb2 : 256 < x.length
    · have hbi : (256 : Int) < (x.length : Int) := by omega
      rw [if_pos (.inr hb2)]
      clear ha hb2
      go_enter Try.func80, Try.ntmps80
      go_wp2_with fail
      refine HN.out.mono ?_
      rintro e w1 ⟨A1, c1, rfl, hx1, hr1, ho1⟩
      have y1 := cell_only Hc.out ho1 Hne.out
      have HB := Lib.hid (rbad fp rg _ _ w1 hr1)
      have Ho1 := Lib.hid ho1
      have Hx1 := Lib.hid hx1
      clear hc hr1 ho1 hx1
      go_wp2_with fail
      refine HB.out.mono ?_
      rintro e w2 ⟨rfl, hr2, ho2⟩
      have Hr2 := Lib.hid hr2
      have Ho2 := Lib.hid (Ho1.out.trans ho2 (fun _ _ h => h))
      have hcv := HZ.out w2 A1 c1 (HRow.out A1 c1 w1 w2 Hx1.out ho2)
      clear hr2 ho2 y1
      go_wp2
      go_ret
      exact ⟨rfl, Hr2.out, Ho2.out⟩
    · have hbi : ¬ (256 : Int) < (x.length : Int) := by omega
      rw [if_neg (by omega)]
      clear ha hb2
      go_enter Try.func80, Try.ntmps80
      go_wp2_with fail
      refine HN.out.mono ?_
      rintro e w1 ⟨A1, c1, rfl, hx1, hr1, ho1⟩
      have Hr1 := Lib.hid hr1
      have Ho1 := Lib.hid ho1
      have hcv := HZ.out w1 A1 c1 hx1.rd
      clear hc hr1 ho1 hx1
      go_wp2
      go_ret
      exact ⟨rfl, Hr1.out, Ho1.out⟩
end
end Go.Proofs.Ytdghbdiapkelnaa

/-
  A template that a decoder takes. No statement of the seat is proved here.
-/
namespace Go.Proofs.Ytdghbdiapkelnaa
open Go Go.RowKit
set_option maxRecDepth 100000

def tp1 (s : BSt) : Prt × BSt := if (wiN 0 1 s).1 = 1 then (dot, (wiN 0 1 s).2) else (⟨false, (txN 1 (wiN 0 1 s).2).1⟩, (txN 1 (wiN 0 1 s).2).2)
def tpTo : Nat → BSt → List Prt × BSt
  | 0, s => ([], s)
  | k + 1, s => ((tpTo k s).1 ++ [(tp1 (tpTo k s).2).1], (tp1 (tpTo k s).2).2)
/-- what 'template' takes -/
def tpN (s : BSt) : List Prt × BSt := tpTo (wiN 1 64 s).1 (wiN 1 64 s).2
theorem wiN_len (low high : Int) (s : BSt) : (wiN low high s).2.1.length ≤ s.1.length := by
  unfold wiN
  split
  · simp
  · exact stNum_len _ _
theorem wiN_le {low high : Int} (s : BSt) (h : 0 ≤ high) : ((wiN low high s).1 : Int) ≤ high := by
  unfold wiN
  split
  · simpa using h
  · rename_i h1
    have : ¬ high < ((stNum s.1 s.2).1 : Int) := fun h => h1 (.inr h)
    show ((stNum s.1 s.2).1 : Int) ≤ high
    omega
theorem txN_len (low : Nat) (s : BSt) : (txN low s).2.1.length ≤ s.1.length ∧ (txN low s).1.length ≤ s.1.length := by
  have := stBytes_len s.1 s.2
  unfold txN
  refine ⟨?_, this.2⟩
  dsimp only
  split
  · simp
  · exact this.1
theorem tp1_len (s : BSt) : (tp1 s).2.1.length ≤ s.1.length := by
  have h1 := wiN_len 0 1 s
  have h2 := (txN_len 1 (wiN 0 1 s).2).1
  unfold tp1
  split
  · exact h1
  · exact Nat.le_trans h2 h1
theorem tpTo_len : ∀ k s, (tpTo k s).2.1.length ≤ s.1.length ∧ (tpTo k s).1.length = k
  | 0, s => ⟨Nat.le_refl _, rfl⟩
  | k + 1, s => by
    have h := tpTo_len k s
    have h2 := tp1_len (tpTo k s).2
    refine ⟨Nat.le_trans h2 h.1, ?_⟩
    rw [tpTo, List.length_append, h.2]
    rfl
theorem tpN_len (s : BSt) : (tpN s).2.1.length ≤ s.1.length ∧ (tpN s).1.length ≤ 64 := by
  have h1 := wiN_len 1 64 s
  have h2 := tpTo_len (wiN 1 64 s).1 (wiN 1 64 s).2
  have h3 := wiN_le (low := 1) (high := 64) s (by omega)
  unfold tpN
  exact ⟨Nat.le_trans h2.1 h1, by rw [h2.2]; omega⟩
theorem info_partD : (Try.prog.info? 72).map (fun i => (i.zero, i.size, i.bytes)) = some (some (.agg #[.bool false, .string ⟨#[]⟩]), 2, 24) := by kernel_rfl
section
variable {fp : Nat → Prop} {w : World} {d rg : Nat} {bs : List UInt8} {bad : Bool}
set_option maxHeartbeats 8000000 in
theorem dtmpl_any (hc : w.cell? ⟨d, 0, none⟩ = some (.pointer (some ⟨rg, 0, none⟩))) (hne : d ≠ rg) (hr : Rdr w fp rg bs bad) (hfp : ∀ k, fp k → k < w.heap.size) (hb : bs.length ≤ 1000000000) :
    Calls Try.prog 53 #[.pointer (some ⟨d, 0, none⟩)] w fun e w' => ∃ A c, e = .returned (.slice A (tpN (bs, bad)).1.length c) ∧ Hid (RowO w' 72 2 A (tpN (bs, bad)).1.length c (cellsP (tpN (bs, bad)).1)) ∧ Hid (∀ k, inA A k → w.heap.size ≤ k) ∧ Hid (Rdr w' fp rg (tpN (bs, bad)).2.1 (tpN (bs, bad)).2.2) ∧ Hid (Only (fun k => k = rg) w w') := by
  have HW0 := Lib.hid (within_any hc hne hr (by omega) 1 64 ⟨by omega, by omega⟩ ⟨by omega, by omega⟩)
  have HFp := Lib.hid hfp
  have Hne := Lib.hid hne
  have Hc := Lib.hid hc
  have Hrg := Lib.hid hr.lt
  have hdl := World.block_lt_of_cell? w _ hc
  have Hdl : Hid (d < w.heap.size) := Lib.hid hdl
  have hn64 := wiN_le (low := 1) (high := 64) (bs, bad) (by omega)
  have hlen0 := wiN_len 1 64 (bs, bad)
  have HE : Hid (tpN (bs, bad) = tpTo (wiN 1 64 (bs, bad)).1 (wiN 1 64 (bs, bad)).2) := Lib.hid rfl
  generalize tpN (bs, bad) = TP at *
  generalize wiN 1 64 (bs, bad) = q at *
  obtain ⟨n, s0⟩ := q
  dsimp only at HW0 hn64 hlen0 HE
  have HTl : Hid (∀ k, (tpTo k s0).2.1.length ≤ 1000000000) := Lib.hid (fun k => by have := (tpTo_len k s0).1; omega)
  have HTk : Hid (∀ k, (tpTo k s0).1.length = k) := Lib.hid (fun k => (tpTo_len k s0).2)
  clear hr hb hne hdl hlen0 hfp
  go_enter Try.func53, Try.ntmps53
  go_wp2_with fail
  refine HW0.out.mono ?_
  rintro e w1 ⟨rfl, hr1, ho1⟩
  have Hr1 := Lib.hid hr1
  have Ho1 := Lib.hid ho1
  clear hr1 ho1 hc HW0
  go_wp2
  go_loopw [3, 7] (fun s i wr => ∃ (k cA : Nat) (A : Option Addr), k ≤ n ∧ i = .int .i64 (k : Int) ∧ s = .slice A k cA ∧ Hid (RowO wr 72 2 A k cA (cellsP (tpTo k s0).1)) ∧ Hid (∀ j, inA A j → w.heap.size ≤ j) ∧ Hid (Rdr wr fp rg (tpTo k s0).2.1 (tpTo k s0).2.2) ∧ Hid (Only (fun k => k = rg) w wr)) (fun _ i _ => n - (intOf i).toNat)
  case atStart => exact ⟨0, 0, none, Nat.zero_le _, rfl, rfl, Lib.hid (RowO.none_ _ _ _), Lib.hid (fun j hj => absurd hj (inA_none j)), Hr1, Ho1⟩
  case round =>
    obtain ⟨k, cA, A, hk, rfl, rfl, HR, HA, HRd, HO⟩ := hrel
    by_cases hlt : k < n
    · have hki : (k : Int) < (n : Int) := by omega
      have hc1 := cell_only Hc.out HO.out Hne.out
      have HWi := Lib.hid (within_any hc1 Hne.out HRd.out (by have := HTl.out k; omega) 0 1 ⟨by omega, by omega⟩ ⟨by omega, by omega⟩)
      have HS1 : Hid (tpTo (k + 1) s0 = ((tpTo k s0).1 ++ [(tp1 (tpTo k s0).2).1], (tp1 (tpTo k s0).2).2)) := Lib.hid rfl
      have Htp : Hid (tp1 (tpTo k s0).2 = if (wiN 0 1 (tpTo k s0).2).1 = 1 then (dot, (wiN 0 1 (tpTo k s0).2).2) else (⟨false, (txN 1 (wiN 0 1 (tpTo k s0).2).2).1⟩, (txN 1 (wiN 0 1 (tpTo k s0).2).2).2)) := Lib.hid rfl
      have Hl1 : Hid ((wiN 0 1 (tpTo k s0).2).2.1.length ≤ 1000000000) := Lib.hid (Nat.le_trans (wiN_len _ _ _) (HTl.out k))
      have Htk := Lib.hid (HTk.out k)
      rw [show ((tpTo k s0).2.1, (tpTo k s0).2.2) = (tpTo k s0).2 from rfl] at HWi
      generalize tpTo k s0 = tk at *
      obtain ⟨ps, sk⟩ := tk
      dsimp only at HWi HS1 Htp Hl1 Htk HR HRd
      have ha1 := wiN_le (low := 0) (high := 1) sk (by omega)
      generalize wiN 0 1 sk = q2 at *
      obtain ⟨a, s2⟩ := q2
      dsimp only at HWi Htp Hl1 ha1
      have hp1 : k + 1 ≤ maxLen := by unfold maxLen; omega
      have hp2 : (k + 1) * 24 ≤ 140737488355328 := by omega
      clear hc1
      by_cases ha : a = 1
      · have hai : (a : Int) = 1 := by omega
        have hbi : ((a : Int) == 1) = true := by rw [hai]; rfl
        have HTp : Hid (tp1 sk = (dot, s2)) := Lib.hid (by rw [Htp.out, if_pos ha])
        clear Htp ha ha1
        go_wp2_with fail
        refine HWi.out.mono ?_
        rintro e w2 ⟨rfl, hr2, ho2⟩
        have Hr2 := Lib.hid hr2
        have Ho2 := Lib.hid (HO.out.trans ho2 (fun _ _ h => h))
        have HR2 := Lib.hid (HR.out.only ho2 (fun j hj hx => by have h1 := HA.out j hj; have h2 := Hrg.out; have h3 : j = rg := hx; omega))
        have HBp := Lib.hid (Blk.new w2 72 #[.bool true, .string ⟨#[]⟩])
        have b0 := HBp.out.cell 0
        have b1 := HBp.out.cell 1
        simp only [List.getElem?_toArray, List.getElem?_cons_zero, List.getElem?_cons_succ] at b0 b1
        clear hr2 ho2 HWi
        go_wp2_with (at_builtin
                     refine wpList_appO _ rfl (.tmp 19) (.tmp 21) _ rfl 72 _ 2 24 Try.underlying39 info_partD rfl A k cA (cellsP ps) rfl (HR2.out.ext (by repeat (first | exact Below.refl _ _ | apply ext_alloc))) (some ⟨_, 0, none⟩) 1 1 [.bool true, .string ⟨#[]⟩] rfl rfl (Rd.lit_at _ #[.bool true, .string ⟨#[]⟩] _ (by first | rfl | simp)) (by intro u hu; simp at hu; rcases hu with rfl | rfl <;> rfl) (by intro h; cases h) hp1 hp2 ?_
                     intro A5 c5 w5 hr5 ho5 hA5
                     have Hr5 : Hid (RowO w5 72 2 A5 (k + 1) c5 (cellsP (ps ++ [dot]))) := Lib.hid (by rw [cellsP_snoc]; exact hr5)
                     have hb5 : Below w2.heap.size w2 ((w2.alloc (.cells #[.bool true, .string ⟨#[]⟩] 72)).alloc (.cells #[.bool true, .string ⟨#[]⟩] 72)) := ext2 _ _ _
                     have hOb : Only (fun k => k = rg) w ((w2.alloc (.cells #[.bool true, .string ⟨#[]⟩] 72)).alloc (.cells #[.bool true, .string ⟨#[]⟩] 72)) := Ho2.out.trans (Only.of_ext hb5) (fun _ _ h => h)
                     have Ho5 : Hid (Only (fun k => k = rg) w w5) := Lib.hid (hOb.trans ho5 (fun j hj hx => by have := HA.out j hx; omega))
                     have Hrd5 : Hid (Rdr w5 fp rg s2.1 s2.2) := Lib.hid ((Hr2.out.ext hb5).only ho5 (fun j hj hx => by have h1 := HFp.out j hj; have h2 := HA.out j hx; omega))
                     have HA5 : Hid (∀ j, inA A5 j → w.heap.size ≤ j) := Lib.hid (fun j hj => by
                       rcases hA5 j hj with h | h
                       · exact HA.out j h
                       · have := hOb.size; omega)
                     clear hr5 hb5 hOb ho5 hA5)
        go_roundw
        case rel => exact ⟨k + 1, c5, A5, by omega, by go_num, rfl, by rw [HS1.out, HTp.out]; exact Hr5, HA5, by rw [HS1.out, HTp.out]; exact Hrd5, Ho5⟩
        case measure => simp [intOf]; omega
      · have hai : ¬ (a : Int) = 1 := by omega
        have hbi : ((a : Int) == 1) = false := beq_eq_false_iff_ne.2 hai
        have HTp : Hid (tp1 sk = (⟨false, (txN 1 s2).1⟩, (txN 1 s2).2)) := Lib.hid (by rw [Htp.out, if_neg ha])
        have Htx : Hid (∀ W, W.cell? ⟨d, 0, none⟩ = some (.pointer (some ⟨rg, 0, none⟩)) → Rdr W fp rg s2.1 s2.2 → Calls Try.prog 80 #[.pointer (some ⟨d, 0, none⟩), .int .i64 1] W fun e w' => e = .returned (strV (txN 1 s2).1) ∧ Rdr w' fp rg (txN 1 s2).2.1 (txN 1 s2).2.2 ∧ Only (fun k => k = rg) W w') := Lib.hid (fun W h1 h2 => text_any h1 Hne.out h2 Hl1.out 1 (by omega))
        generalize txN 1 s2 = q3 at *
        obtain ⟨x, s3⟩ := q3
        dsimp only at HTp Htx
        obtain ⟨Z, hZ, -⟩ := str_hide x
        have HZ := Lib.hid hZ
        rw [hZ] at Htx
        clear Htp ha ha1 hZ
        go_wp2_with fail
        refine HWi.out.mono ?_
        rintro e w2 ⟨rfl, hr2, ho2⟩
        have Hr2 := Lib.hid hr2
        have Ho2 := Lib.hid (HO.out.trans ho2 (fun _ _ h => h))
        have HR2 := Lib.hid (HR.out.only ho2 (fun j hj hx => by have h1 := HA.out j hj; have h2 := Hrg.out; have h3 : j = rg := hx; omega))
        have hw2 : w.heap.size ≤ w2.heap.size := Ho2.out.size
        have Hw2 := Lib.hid hw2
        have HBp := Lib.hid (Blk.new w2 72 #[.bool false, .string ⟨#[]⟩])
        have b0 := HBp.out.cell 0
        simp only [List.getElem?_toArray, List.getElem?_cons_zero, List.getElem?_cons_succ] at b0
        have hx2 : Below w2.heap.size w2 (w2.alloc (.cells #[.bool false, .string ⟨#[]⟩] 72)) := ext_alloc (Below.refl _ _) _
        have HX2 := Lib.hid hx2
        have hcd := cell_only Hc.out (Ho2.out.trans (Only.of_ext (S := fun k => k = rg) hx2) (fun _ _ h => h)) Hne.out
        have HT2 := Lib.hid (Htx.out _ hcd (hr2.ext hx2))
        clear hr2 ho2 HWi hx2 hcd hw2
        go_wp2_with fail
        refine HT2.out.mono ?_
        rintro e w3 ⟨rfl, hr3, ho3⟩
        have hB3 := HBp.out.only ho3 (by have h1 := Hrg.out; have h2 := Hw2.out; show ¬ w2.heap.size = rg; omega)
        have k1 := hB3.cell 1
        have f1 := hB3.free 1
        have hB4 := hB3.put 1 (.string Z)
        have m0 := hB4.cell 0
        have m1 := hB4.cell 1
        simp only [List.getElem?_toArray, List.getElem?_cons_zero, List.getElem?_cons_succ, List.setIfInBounds_toArray, List.set_cons_zero, List.set_cons_succ] at k1 m0 m1
        have Ho3 : Hid (Only (fun k => k = rg) w w3) := Lib.hid ((Ho2.out.trans (Only.of_ext (S := fun k => k = rg) HX2.out) (fun _ _ h => h)).trans ho3 (fun _ _ h => h))
        have HR3 := Lib.hid ((HR2.out.ext HX2.out).only ho3 (fun j hj hx => by have h1 := HA.out j hj; have h2 := Hrg.out; have h3 : j = rg := hx; omega))
        have HnA : Hid (¬ inA A w2.heap.size) := Lib.hid (fun h => by have := HR2.out.lt h; omega)
        have hoS : Only (fun k => k = w2.heap.size) w3 (w3.setCell ⟨w2.heap.size, 1, none⟩ (.string Z)) := (Only.refl (fun k => k = w2.heap.size) w3).setCell (p := ⟨w2.heap.size, 1, none⟩) (.inl rfl) _
        have HR4 := Lib.hid (HR3.out.only hoS (fun j hj hx => HnA.out (by rw [← show j = w2.heap.size from hx]; exact hj)))
        have Hr4 := Lib.hid (hr3.only hoS (fun j hj hx => by have h1 := HFp.out j hj; have h2 := Hw2.out; have h3 : j = w2.heap.size := hx; omega))
        have Ho4 : Hid (Only (fun k => k = rg) w (w3.setCell ⟨w2.heap.size, 1, none⟩ (.string Z))) := Lib.hid (Ho3.out.trans hoS (fun j hj hx => by have h2 := Hw2.out; have h3 : j = w2.heap.size := hx; omega))
        obtain ⟨w4, hw4⟩ : ∃ w4, w4 = w3.setCell ⟨w2.heap.size, 1, none⟩ (.string Z) := ⟨_, rfl⟩
        have Hw4 := Lib.hid hw4
        rw [← hw4] at HR4 Hr4 Ho4
        clear hr3 ho3 hB3 hB4 hoS hw4 b0
        go_wp2_with (at_builtin
                     rw [← Hw4.out]
                     refine wpList_appO _ rfl (.tmp 19) (.tmp 21) _ rfl 72 _ 2 24 Try.underlying39 info_partD rfl A k cA (cellsP ps) rfl (HR4.out.ext (by repeat (first | exact Below.refl _ _ | apply ext_alloc))) (some ⟨_, 0, none⟩) 1 1 [.bool false, .string Z] rfl rfl (Rd.lit_at _ #[.bool false, .string Z] _ (by first | rfl | simp | (rw [Hw4.out]; simp [World.setCell]))) (by intro u hu; simp at hu; rcases hu with rfl | rfl <;> rfl) (by intro h; cases h) hp1 hp2 ?_
                     intro A5 c5 w5 hr5 ho5 hA5
                     have Hr5 : Hid (RowO w5 72 2 A5 (k + 1) c5 (cellsP (ps ++ [⟨false, x⟩]))) := Lib.hid (by rw [cellsP_snoc]; unfold encP; rw [HZ.out]; exact hr5)
                     have hb5 : Below w4.heap.size w4 (w4.alloc (.cells #[.bool false, .string Z] 72)) := ext_alloc (Below.refl _ _) _
                     have hOb : Only (fun k => k = rg) w (w4.alloc (.cells #[.bool false, .string Z] 72)) := Ho4.out.trans (Only.of_ext hb5) (fun _ _ h => h)
                     have Ho5 : Hid (Only (fun k => k = rg) w w5) := Lib.hid (hOb.trans ho5 (fun j hj hx => by have := HA.out j hx; omega))
                     have Hrd5 : Hid (Rdr w5 fp rg s3.1 s3.2) := Lib.hid ((Hr4.out.ext hb5).only ho5 (fun j hj hx => by have h1 := HFp.out j hj; have h2 := HA.out j hx; omega))
                     have HA5 : Hid (∀ j, inA A5 j → w.heap.size ≤ j) := Lib.hid (fun j hj => by
                       rcases hA5 j hj with h | h
                       · exact HA.out j h
                       · have := hOb.size; omega)
                     clear hr5 hb5 hOb ho5 hA5)
        go_roundw
        case rel => exact ⟨k + 1, c5, A5, by omega, by go_num, rfl, by rw [HS1.out, HTp.out]; exact Hr5, HA5, by rw [HS1.out, HTp.out]; exact Hrd5, Ho5⟩
        case measure => simp [intOf]; omega
    · obtain rfl : k = n := by omega
      have hf : tpTo k s0 = TP := HE.out.symm
      rw [hf] at HR HRd
      have Hk : Hid (TP.1.length = k) := Lib.hid (by rw [← hf]; exact HTk.out k)
      clear hf
      go_wp2
      go_ret
      exact ⟨A, cA, by rw [Hk.out]; rfl, by rw [Hk.out]; exact HR, HA, HRd, HO⟩
end
end Go.Proofs.Ytdghbdiapkelnaa

/-
  A group's number that a decoder takes. No statement of the seat is proved here.
-/
namespace Go.Proofs.Ytdghbdiapkelnaa
open Go Go.RowKit Go.Maps
set_option maxRecDepth 100000

/-- what 'group' takes: the number, what is left -/
def gpN (t : Tr) (U : List Bool) (parts : Nat) (s : BSt) : Nat × BSt := ((wiN 1 t.ts.length s).1, if U.getD (wiN 1 t.ts.length s).1 false = true ∨ (tmpl t (wiN 1 t.ts.length s).1).length ≠ parts then ([], true) else (wiN 1 t.ts.length s).2)
theorem gpN_le (t : Tr) (U : List Bool) (parts : Nat) (s : BSt) : (gpN t U parts s).1 ≤ t.ts.length := by
  have := wiN_le (low := 1) (high := (t.ts.length : Int)) s (by omega)
  show (wiN 1 t.ts.length s).1 ≤ t.ts.length
  omega
theorem gpN_len (t : Tr) (U : List Bool) (parts : Nat) (s : BSt) : (gpN t U parts s).2.1.length ≤ s.1.length := by
  have h1 := wiN_len 1 (t.ts.length : Int) s
  unfold gpN
  dsimp only
  split
  · simp
  · exact h1
section
variable {S : Nat → Prop} {w w' : World} {g : Nat} {t : Tr} {A R : Option Addr} {c d : Nat} {xs ys : List Value} {M : Option Nat} {rp : Value} {us : List Value}
theorem ownsPlace.keepB {w w' : World} {b n k : Nat} {D : DataW Unit} (h : ownsPlace w b n D) (ho : Only (fun j => j = k) w w') (hn : b ≠ k) : ownsPlace w' b n D := h.only ho hn
/-- a flag more -/
theorem TdAt.flag (h : TdAt rp us S w g t A c xs R d ys M) (id : Nat) (v : Value) : TdAt rp (us.set id v) S (w.setCell ⟨g, 4 + id, none⟩ v) g t A c xs R d ys M := by
  have hO : Only (fun k => k = g) w (w.setCell ⟨g, 4 + id, none⟩ v) := (Only.refl (fun k => k = g) w).setCell (p := ⟨g, 4 + id, none⟩) (.inl rfl) _
  have hsz : (w.setCell ⟨g, 4 + id, none⟩ v).heap.size = w.heap.size := by simp [World.setCell]
  refine ⟨?_, ?_, ?_, ?_, fun j hj => ?_, fun j hj => ?_, h.apart, h.okl, h.sg, h.sA, h.sR, h.sM, fun k hk => by rw [hsz]; exact h.lt k hk⟩
  · have := h.blk.put (4 + id) v
    rw [show 4 + id = id + 1 + 1 + 1 + 1 by omega] at this
    rw [show 4 + id = id + 1 + 1 + 1 + 1 by omega]
    simpa using this
  · exact h.own.only hO (fun k hk hx => h.own.ne_blk h.blk (by decide) (by rw [← show k = g from hx]; exact hk))
  · exact h.rows.only hO (fun k hk hx => h.rows.ne_blk h.blk (by decide) (by rw [← show k = g from hx]; exact hk))
  · exact h.map.only hO (fun b hb hx => by
      rcases h.map with ⟨h1, _⟩ | ⟨b2, h1, h2⟩
      · rw [h1] at hb; cases hb
      · rw [h1] at hb; injection hb with hb; subst hb; exact h2.ne_blk h.blk hx)
  · obtain ⟨B, e, h1, h2, h3⟩ := h.tsAt j hj
    exact ⟨B, e, h1, h2.only hO (fun k hk hx => h2.ne_blk h.blk (by decide) (by rw [← show k = g from hx]; exact hk)), h3⟩
  · obtain ⟨G, e, h1, h2, h3, h4, h5, h6⟩ := h.lvAt j hj
    exact ⟨G, e, h1, h2, h3, h4, h5.only hO (fun k hk hx => h5.ne_blk h.blk (by decide) (by rw [← show k = g from hx]; exact hk)), h6⟩
variable {fp : Nat → Prop} {rg : Nat} {bs : List UInt8} {bad : Bool} {U : List Bool}
set_option maxHeartbeats 4000000 in
theorem dgroup_any (h : TdAt (.pointer (some ⟨rg, 0, none⟩)) (U.map .bool) S w g t A c xs R d ys M) (hU : U.length = 64) (hr : Rdr w fp rg bs bad) (hap : ∀ k, fp k → ¬ S k) (hb : bs.length ≤ 1000000000) (hn : t.ts.length ≤ 63) (parts : Nat) (hp : parts ≤ 4611686018427387904) (hpl : ∀ p ∈ t.ts, p.length ≤ 64) :
    Calls Try.prog 81 #[.pointer (some ⟨g, 0, none⟩), .int .i64 (parts : Int)] w fun e w' => e = .returned (.int .i64 ((gpN t U parts (bs, bad)).1 : Int)) ∧ Hid (TdAt (.pointer (some ⟨rg, 0, none⟩)) ((U.set (gpN t U parts (bs, bad)).1 true).map .bool) S w' g t A c xs R d ys M) ∧ Hid (Rdr w' fp rg (gpN t U parts (bs, bad)).2.1 (gpN t U parts (bs, bad)).2.2) ∧ Hid (Only (fun k => k = rg ∨ k = g) w w') := by
  have hgr : g ≠ rg := fun e => hap rg hr.1 (by rw [← e]; exact h.sg)
  have Hgr := Lib.hid hgr
  have hc0 := h.blk.cell 0
  simp only [List.getElem?_toArray, List.getElem?_cons_zero] at hc0
  have H := Lib.hid h
  have Hr := Lib.hid hr
  have HS : Hid (∀ k, S k → k ≠ rg) := Lib.hid (fun k hk e => hap rg hr.1 (by rw [← e]; exact hk))
  have HFg : Hid (∀ k, fp k → k ≠ g) := Lib.hid (fun k hk e => hap k hk (by rw [e]; exact h.sg))
  have HC := Lib.hid (dcount_any h (by omega))
  have HW := Lib.hid (within_any hc0 hgr hr (by omega) 1 (t.ts.length : Int) ⟨by omega, by omega⟩ ⟨by omega, by omega⟩)
  have hid0 := gpN_le t U parts (bs, bad)
  have HE : Hid (gpN t U parts (bs, bad) = ((wiN 1 t.ts.length (bs, bad)).1, if U.getD (wiN 1 t.ts.length (bs, bad)).1 false = true ∨ (tmpl t (wiN 1 t.ts.length (bs, bad)).1).length ≠ parts then ([], true) else (wiN 1 t.ts.length (bs, bad)).2)) := Lib.hid rfl
  generalize gpN t U parts (bs, bad) = GP at *
  generalize wiN 1 t.ts.length (bs, bad) = q at *
  obtain ⟨id, s1⟩ := q
  dsimp only at HW HE
  have hidE : GP.1 = id := by rw [HE.out]
  rw [hidE] at hid0 ⊢
  have hidi : (id : Int) ≤ 63 := by omega
  have hti : (t.ts.length : Int) ≤ 63 := by omega
  have hpi : (parts : Int) ≤ 4611686018427387904 := by omega
  have hUid : id < U.length := by omega
  have htm : (tmpl t id).length ≤ 64 := by
    unfold tmpl
    split
    · simp
    · rw [List.getD_eq_getElem?_getD]
      cases hx : t.ts[id - 1]? with
      | none => exact Nat.zero_le _
      | some p => exact hpl p (List.mem_of_getElem? hx)
  have hul : U.getD id false = U[id] := by rw [List.getD_eq_getElem?_getD, List.getElem?_eq_getElem hUid]; rfl
  rw [hul] at HE
  have HcU : Hid (∀ W, TdAt (.pointer (some ⟨rg, 0, none⟩)) (U.map .bool) S W g t A c xs R d ys M → W.cell? ⟨g, 4 + id, none⟩ = some (.bool U[id]) ∧ W.frozen? ⟨g, 4 + id, none⟩ = false) := Lib.hid (fun W hW => by
    refine ⟨?_, hW.blk.free _⟩
    have := hW.blk.cell (4 + id)
    rw [show 4 + id = id + 1 + 1 + 1 + 1 by omega] at this ⊢
    rw [this]
    simp [List.getElem?_eq_getElem hUid])
  have HAt : Hid (∀ W, TdAt (.pointer (some ⟨rg, 0, none⟩)) (U.map .bool) S W g t A c xs R d ys M → Calls Try.prog 35 #[.pointer (some ⟨g, 1, none⟩), .int .i64 (id : Int)] W fun e w' => ∃ B e', e = .returned (.slice B (tmpl t id).length e') ∧ Below W.heap.size W w') := Lib.hid (fun W hW => (dat_any hW (by omega) hid0).mono (fun e w' ⟨B, e', h1, _, _, h4⟩ => ⟨B, e', h1, h4⟩))
  have HSet : Hid (∀ b, (U.set id b).map Value.bool = (U.map Value.bool).set id (.bool b)) := Lib.hid (fun b => by rw [List.map_set])
  have hwr : IntKind.i64.wrap ((t.ts.length : Int) + 1 - 1) = (t.ts.length : Int) := by rw [Int.add_sub_cancel]; exact IntWalk.i64_in _ (by omega)
  generalize U[id] = ub at *
  generalize (tmpl t id).length = tl at *
  have htli : (tl : Int) ≤ 64 := by omega
  clear h hr hap hb hn hp hpl hgr hU hUid hul htm hid0
  go_enter Try.func81, Try.ntmps81
  go_wp2_with fail
  refine HC.out.mono ?_
  rintro e w1 ⟨rfl, hw1⟩
  have hw1 := hw1.symm
  subst hw1
  go_wp2_with fail
  refine HW.out.mono ?_
  rintro e w2 ⟨rfl, hr2, ho2⟩
  have Hr2 := Lib.hid hr2
  have Ho2 := Lib.hid ho2
  have H2 := Lib.hid (H.out.only ho2 (fun k hk hx => HS.out k hk hx))
  obtain ⟨u1, -⟩ := HcU.out w2 H2.out
  have HA2 := Lib.hid (HAt.out w2 H2.out)
  clear hr2 ho2 hc0 HW HC
  cases ub
  case true =>
    have HB := Lib.hid (rbad fp rg _ _ w2 Hr2.out)
    have b0 : w2.cell? ⟨g, 0, none⟩ = some (.pointer (some ⟨rg, 0, none⟩)) := by
      have := H2.out.blk.cell 0
      simp only [List.getElem?_toArray, List.getElem?_cons_zero] at this
      exact this
    go_wp2_with fail
    refine HB.out.mono ?_
    rintro e w4 ⟨rfl, hr4, ho4⟩
    have H4 := Lib.hid (H2.out.only ho4 (fun k hk hx => HS.out k hk hx))
    have HRd4 := Lib.hid (hr4)
    have Ho4 : Hid (Only (fun k => k = rg ∨ k = g) w w4) := Lib.hid ((Ho2.out.trans ho4 (fun _ _ h => h)).mono (fun k _ hk => .inl hk))
    obtain ⟨v1, f1⟩ := HcU.out w4 H4.out
    have HGP : Hid (GP.2 = ([], true)) := Lib.hid (by rw [HE.out]; first | exact if_pos (Or.inl rfl) | exact if_pos (Or.inl trivial) | (simp; done))
    have HT5 : Hid (TdAt (.pointer (some ⟨rg, 0, none⟩)) ((U.set id true).map .bool) S (w4.setCell ⟨g, 4 + id, none⟩ (.bool true)) g t A c xs R d ys M) := Lib.hid (by rw [HSet.out]; exact H4.out.flag id (.bool true))
    have hoS : Only (fun k => k = g) w4 (w4.setCell ⟨g, 4 + id, none⟩ (.bool true)) := (Only.refl (fun k => k = g) w4).setCell (p := ⟨g, 4 + id, none⟩) (.inl rfl) _
    have HR5 := Lib.hid (HRd4.out.only hoS (fun k hk hx => HFg.out k hk hx))
    have HO5 := Lib.hid (Ho4.out.trans hoS (fun k _ hk => .inr hk))
    clear hoS hr4 ho4 b0 u1
    go_wp2
    go_ret
    exact ⟨rfl, HT5, by rw [HGP.out]; exact HR5, HO5⟩
  case false =>
    go_wp2_with fail
    refine HA2.out.mono ?_
    rintro e w3 ⟨B, e3, rfl, hb3⟩
    have H3 := Lib.hid (H2.out.ext hb3)
    have Hr3 := Lib.hid (Hr2.out.ext hb3)
    have Ho3 : Hid (Only (fun k => k = rg) w w3) := Lib.hid (Ho2.out.trans (Only.of_ext hb3) (fun _ _ h => h))
    clear hb3 u1 HA2
    by_cases hpt : tl = parts
    · have hpi2 : (tl : Int) = (parts : Int) := by omega
      have hne1 : ((tl : Int) != (parts : Int)) = false := by rw [hpi2]; simp
      have Hpt := Lib.hid hpt
      clear hpt
      have H4 := Lib.hid (H3.out)
      have HRd4 := Lib.hid (Hr3.out)
      have Ho4 : Hid (Only (fun k => k = rg ∨ k = g) w w3) := Lib.hid (Ho3.out.mono (fun k _ hk => .inl hk))
      obtain ⟨v1, f1⟩ := HcU.out w3 H4.out
      have HGP : Hid (GP.2 = s1) := Lib.hid (by rw [HE.out]; exact if_neg (by rintro (h | h); exact absurd h (by decide); exact h Hpt.out))
      have HT5 : Hid (TdAt (.pointer (some ⟨rg, 0, none⟩)) ((U.set id true).map .bool) S (w3.setCell ⟨g, 4 + id, none⟩ (.bool true)) g t A c xs R d ys M) := Lib.hid (by rw [HSet.out]; exact H4.out.flag id (.bool true))
      have hoS : Only (fun k => k = g) w3 (w3.setCell ⟨g, 4 + id, none⟩ (.bool true)) := (Only.refl (fun k => k = g) w3).setCell (p := ⟨g, 4 + id, none⟩) (.inl rfl) _
      have HR5 := Lib.hid (HRd4.out.only hoS (fun k hk hx => HFg.out k hk hx))
      have HO5 := Lib.hid (Ho4.out.trans hoS (fun k _ hk => .inr hk))
      clear hoS
      go_wp2
      go_ret
      exact ⟨rfl, HT5, by rw [HGP.out]; exact HR5, HO5⟩
    · have hpi2 : ¬ (tl : Int) = (parts : Int) := by omega
      have hne1 : ((tl : Int) != (parts : Int)) = true := by simpa using hpi2
      have Hpt := Lib.hid hpt
      clear hpt
      have HB := Lib.hid (rbad fp rg _ _ w3 Hr3.out)
      have b0 : w3.cell? ⟨g, 0, none⟩ = some (.pointer (some ⟨rg, 0, none⟩)) := by
        have := H3.out.blk.cell 0
        simp only [List.getElem?_toArray, List.getElem?_cons_zero] at this
        exact this
      go_wp2_with fail
      refine HB.out.mono ?_
      rintro e w4 ⟨rfl, hr4, ho4⟩
      have H4 := Lib.hid (H3.out.only ho4 (fun k hk hx => HS.out k hk hx))
      have HRd4 := Lib.hid (hr4)
      have Ho4 : Hid (Only (fun k => k = rg ∨ k = g) w w4) := Lib.hid ((Ho3.out.trans ho4 (fun _ _ h => h)).mono (fun k _ hk => .inl hk))
      obtain ⟨v1, f1⟩ := HcU.out w4 H4.out
      have HGP : Hid (GP.2 = ([], true)) := Lib.hid (by rw [HE.out]; exact if_pos (Or.inr Hpt.out))
      have HT5 : Hid (TdAt (.pointer (some ⟨rg, 0, none⟩)) ((U.set id true).map .bool) S (w4.setCell ⟨g, 4 + id, none⟩ (.bool true)) g t A c xs R d ys M) := Lib.hid (by rw [HSet.out]; exact H4.out.flag id (.bool true))
      have hoS : Only (fun k => k = g) w4 (w4.setCell ⟨g, 4 + id, none⟩ (.bool true)) := (Only.refl (fun k => k = g) w4).setCell (p := ⟨g, 4 + id, none⟩) (.inl rfl) _
      have HR5 := Lib.hid (HRd4.out.only hoS (fun k hk hx => HFg.out k hk hx))
      have HO5 := Lib.hid (Ho4.out.trans hoS (fun k _ hk => .inr hk))
      clear hoS hr4 ho4 b0
      go_wp2
      go_ret
      exact ⟨rfl, HT5, by rw [HGP.out]; exact HR5, HO5⟩
end
end Go.Proofs.Ytdghbdiapkelnaa

/-
  Has a tree's leaf a key: in a decoder's block, at any key. No statement of the seat is proved here.
-/
namespace Go.Proofs.Ytdghbdiapkelnaa
open Go Go.RowKit Go.Maps
set_option maxRecDepth 100000

/-- has a leaf this key? -/
def hasK (t : Tr) (n : Nat) (a b : List UInt8) : Bool := t.lv.any fun x => decide (x.count = n ∧ x.a = a ∧ x.b = b)
theorem last_of {p : Nat → Prop} : ∀ m, (∃ j, j < m ∧ p j) → ∃ i, i < m ∧ p i ∧ ∀ j, j < m → i < j → ¬ p j
  | 0, ⟨j, h, _⟩ => absurd h (Nat.not_lt_zero j)
  | m + 1, ⟨j, hj, hp⟩ => by
    by_cases hm : p m
    · exact ⟨m, Nat.lt_succ_self m, hm, fun j hj hmj => absurd hj (by omega)⟩
    · obtain ⟨i, h1, h2, h3⟩ := last_of m ⟨j, by
        rcases Nat.lt_succ_iff_lt_or_eq.1 hj with h | h
        · exact h
        · rw [h] at hp; exact absurd hp hm, hp⟩
      refine ⟨i, by omega, h2, fun j hj hij => ?_⟩
      rcases Nat.lt_succ_iff_lt_or_eq.1 hj with h | h
      · exact h3 j h hij
      · rw [h]; exact hm
section
variable {S : Nat → Prop} {w : World} {g : Nat} {t : Tr} {A R : Option Addr} {c d : Nat} {xs ys : List Value} {M : Option Nat} {rp : Value} {us : List Value}
theorem TdAt.lookK (h : TdAt rp us S w g t A c xs R d ys M) (n : Nat) (ka kb : List UInt8) (hk : okKey n ka kb) : ∃ (v : Nat) (ok : Bool), (∀ W, Below w.heap.size w W → (Instr.lookup 66 (.map M) (keyV n ka kb) true).run Try.prog W = .ok (.tuple #[.int .i64 (v : Int), .bool ok]) W) ∧ ((ok = false ∧ hasK t n ka kb = false) ∨ (ok = true ∧ v < t.lv.length ∧ hasK t n ka kb = true)) := by
  by_cases hx : ∃ j, j < t.lv.length ∧ (∃ hj : j < t.lv.length, t.lv[j].count = n ∧ t.lv[j].a = ka ∧ t.lv[j].b = kb)
  · obtain ⟨i, hi, ⟨_, he⟩, hla⟩ := last_of t.lv.length hx
    refine ⟨i, true, fun W hW => ?_, .inr ⟨rfl, hi, ?_⟩⟩
    · rcases h.map with ⟨_, h0⟩ | ⟨b, rfl, hb⟩
      · rw [h0] at hi; exact absurd hi (by simp)
      · exact look_yes (hb.ext hW) hk (place_at h.okl hk hi he (fun j hj hij hx => hla j hj hij ⟨hj, hx⟩) _ (Nat.le_refl _) hi)
    · unfold hasK
      rw [List.any_eq_true]
      exact ⟨t.lv[i], List.getElem_mem hi, decide_eq_true he⟩
  · refine ⟨0, false, fun W hW => ?_, .inl ⟨rfl, ?_⟩⟩
    · rcases h.map with ⟨rfl, _⟩ | ⟨b, rfl, hb⟩
      · exact look_nil' hk
      · exact look_no (hb.ext hW) hk (place_no h.okl hk _ (Nat.le_refl _) (fun j hj _ he => hx ⟨j, hj, hj, he⟩))
    · unfold hasK
      rw [List.any_eq_false]
      intro x hxm
      obtain ⟨j, hj, rfl⟩ := List.getElem_of_mem hxm
      rw [decide_eq_true_eq]
      exact fun he => hx ⟨j, hj, hj, he⟩
set_option maxHeartbeats 4000000 in
theorem dfindK_any (h : TdAt rp us S w g t A c xs R d ys M) (hlv : t.lv.length ≤ 1000) (n : Nat) (ka kb : List UInt8) (hk : okKey n ka kb) :
    Calls Try.prog 64 #[.pointer (some ⟨g, 2, none⟩), keyV n ka kb] w fun e w' => Below w.heap.size w w' ∧ ((hasK t n ka kb = false ∧ e = .returned (.pointer none)) ∨ ∃ r, hasK t n ka kb = true ∧ e = .returned (.pointer (some r))) := by
  obtain ⟨v, ok, hlk, hok⟩ := h.lookK n ka kb hk
  have hlvi : (t.lv.length : Int) ≤ 1000 := by omega
  have HB := Lib.hid h.blk
  have HRw := Lib.hid (fun (h0 : 0 < t.lv.length) => h.rows.addr h0)
  generalize hasK t n ka kb = Q at *
  unfold keyV at hlk ⊢
  obtain ⟨KA, hKA⟩ : ∃ K : ByteArray, strV ka = .string K := ⟨_, rfl⟩
  obtain ⟨KB, hKB⟩ : ∃ K : ByteArray, strV kb = .string K := ⟨_, rfl⟩
  rw [hKA, hKB] at hlk ⊢
  obtain ⟨w1, hw1⟩ : ∃ w1, w1 = w.alloc (.cells #[.int .i64 (n : Int), .string KA, .string KB] 94) := ⟨_, rfl⟩
  have hb1 : Below w.heap.size w w1 := by rw [hw1]; exact ext_alloc (Below.refl _ _) _
  have HX1 : Hid (Blk w1 w.heap.size 94 #[.int .i64 (n : Int), .string KA, .string KB]) := Lib.hid (by rw [hw1]; exact Blk.new _ _ _)
  have HB1 := Lib.hid (HB.out.ext hb1)
  have Hb1 := Lib.hid hb1
  have Hw1 := Lib.hid hw1
  have HK : Hid (∀ W, Below w1.heap.size w1 W → W.cell? ⟨g, 3, none⟩ = some (.map M) ∧ W.cell? ⟨w.heap.size, 0, none⟩ = some (.int .i64 (n : Int)) ∧ W.cell? ⟨w.heap.size, 1, none⟩ = some (.string KA) ∧ W.cell? ⟨w.heap.size, 2, none⟩ = some (.string KB) ∧ (Instr.lookup 66 (.map M) (.agg #[.int .i64 (n : Int), .string KA, .string KB]) true).run Try.prog W = .ok (.tuple #[.int .i64 (v : Int), .bool ok]) W) := Lib.hid (fun W hW =>
    ⟨(HB1.out.ext hW).cell 3, (HX1.out.ext hW).cell 0, (HX1.out.ext hW).cell 1, (HX1.out.ext hW).cell 2, hlk W (ext_trans Hb1.out hW)⟩)
  have x1 := HB1.out.cell 2
  simp only [List.getElem?_toArray, List.getElem?_cons_zero, List.getElem?_cons_succ] at x1
  clear hlk h hKA hKB hb1 hw1 HB hk hlv
  go_enter Try.func64, Try.ntmps64
  go_wp2_with fail
  rw [← Hw1.out]
  refine wp_region_held_drew (S := fun W => W.cell? ⟨g, 3, none⟩ = some (.map M) ∧ W.cell? ⟨w.heap.size, 0, none⟩ = some (.int .i64 (n : Int)) ∧ W.cell? ⟨w.heap.size, 1, none⟩ = some (.string KA) ∧ W.cell? ⟨w.heap.size, 2, none⟩ = some (.string KB) ∧ (Instr.lookup 66 (.map M) (.agg #[.int .i64 (n : Int), .string KA, .string KB]) true).run Try.prog W = .ok (.tuple #[.int .i64 (v : Int), .bool ok]) W) (by kernel_rfl) ?_ (fun hHeld => ?_)
  · exact HK.out _ (by repeat (first | exact Below.refl _ _ | apply ext_drew | apply ext_drewN | apply ext_alloc))
  refine wpAnyH_take (i := 0) (v := ?_) (take_list rfl) (by kernel_rfl) (by kernel_rfl) (by kernel_rfl) (fun _ _ _ h => h) (Or.inl ⟨by rfl, ?_⟩) (by assumption) ?_
  rotate_left
  · intro w hSw
    try dsimp only at hSw
    first | (go_simp; done) | (go_simp; with_reducible rfl)
  try simp only [Act.put, List.setIfInBounds_toArray, List.set_cons_zero, List.set_cons_succ]
  refine wpAnyH_take (i := 1) (v := ?_) (take_list rfl) (by kernel_rfl) (by kernel_rfl) (by kernel_rfl) (fun _ _ _ h => h) (Or.inl ⟨by rfl, ?_⟩) (by assumption) ?_
  rotate_left
  · intro w hSw
    try dsimp only at hSw
    first | (go_simp; done) | (go_simp; with_reducible rfl)
  try simp only [Act.put, List.setIfInBounds_toArray, List.set_cons_zero, List.set_cons_succ]
  refine wpAnyH_take (i := 2) (v := ?_) (take_list rfl) (by kernel_rfl) (by kernel_rfl) (by kernel_rfl) (fun _ _ _ h => h) (Or.inl ⟨by rfl, ?_⟩) (by assumption) ?_
  rotate_left
  · intro w hSw
    try dsimp only at hSw
    first | (go_simp; done) | (go_simp; with_reducible rfl)
  try simp only [Act.put, List.setIfInBounds_toArray, List.set_cons_zero, List.set_cons_succ]
  refine wpAnyH_take (i := 3) (v := ?_) (take_list rfl) (by kernel_rfl) (by kernel_rfl) (by kernel_rfl) (fun _ _ _ h => h) (Or.inl ⟨by rfl, ?_⟩) (by assumption) ?_
  rotate_left
  · intro w hSw
    try dsimp only at hSw
    first | (go_simp; done) | (go_simp; with_reducible rfl)
  try simp only [Act.put, List.setIfInBounds_toArray, List.set_cons_zero, List.set_cons_succ]
  refine wpAnyH_take (i := 4) (v := ?_) (take_list rfl) (by kernel_rfl) (by kernel_rfl) (by kernel_rfl) (fun _ _ _ h => h) (Or.inl ⟨by rfl, ?_⟩) (by assumption) ?_
  rotate_left
  · intro w hSw
    try dsimp only at hSw
    first | (go_simp; done) | (go_simp; with_reducible rfl)
  try simp only [Act.put, List.setIfInBounds_toArray, List.set_cons_zero, List.set_cons_succ]
  refine wpAnyH_take (i := 5) (v := ?_) (take_list rfl) (by kernel_rfl) (by kernel_rfl) (by kernel_rfl) (fun _ _ _ h => h) (Or.inl ⟨by rfl, ?_⟩) (by assumption) ?_
  rotate_left
  · intro w hSw
    try dsimp only at hSw
    first | (go_simp; done) | (go_simp; with_reducible rfl)
  try simp only [Act.put, List.setIfInBounds_toArray, List.set_cons_zero, List.set_cons_succ]
  refine wpAnyH_take (i := 6) (v := ?_) (take_list rfl) (by kernel_rfl) (by kernel_rfl) (by kernel_rfl) (fun _ _ _ h => h) (Or.inl ⟨by rfl, ?_⟩) (by assumption) ?_
  rotate_left
  · intro w hSw
    try dsimp only at hSw
    first | (go_simp; done) | (go_simp; with_reducible rfl)
  try simp only [Act.put, List.setIfInBounds_toArray, List.set_cons_zero, List.set_cons_succ]
  refine wpAnyH_take (i := 7) (v := ?_) (take_list rfl) (by kernel_rfl) (by kernel_rfl) (by kernel_rfl) (fun _ _ _ h => h) (Or.inl ⟨by rfl, ?_⟩) (by assumption) ?_
  rotate_left
  · intro w hSw
    try dsimp only at hSw
    first | (go_simp; done) | (go_simp; with_reducible rfl)
  try simp only [Act.put, List.setIfInBounds_toArray, List.set_cons_zero, List.set_cons_succ]
  refine wpAnyH_take (i := 8) (v := ?_) (take_list rfl) (by kernel_rfl) (by kernel_rfl) (by kernel_rfl) (fun _ _ _ h => h) (Or.inl ⟨by rfl, ?_⟩) (by assumption) ?_
  rotate_left
  · intro w hSw
    try dsimp only at hSw
    first | (go_simp; done) | (go_simp; with_reducible rfl)
  try simp only [Act.put, List.setIfInBounds_toArray, List.set_cons_zero, List.set_cons_succ]
  refine wpAnyH_take (i := 9) (v := ?_) (take_list rfl) (by kernel_rfl) (by kernel_rfl) (by kernel_rfl) (fun _ _ _ h => h) (Or.inl ⟨by rfl, ?_⟩) (by assumption) ?_
  rotate_left
  · intro w hSw
    try dsimp only at hSw
    first | (go_simp; done) | (go_simp; with_reducible rfl)
  try simp only [Act.put, List.setIfInBounds_toArray, List.set_cons_zero, List.set_cons_succ]
  refine wpAnyH_take (i := 10) (v := ?_) (take_list rfl) (by kernel_rfl) (by kernel_rfl) (by kernel_rfl) (fun _ _ _ h => h) (Or.inl ⟨by rfl, ?_⟩) (by assumption) ?_
  rotate_left
  · intro w hSw
    try dsimp only at hSw
    first | (go_simp; done) | (go_simp; with_reducible rfl)
  try simp only [Act.put, List.setIfInBounds_toArray, List.set_cons_zero, List.set_cons_succ]
  refine wpAnyH_done (by kernel_rfl) ?_ _
  rcases hok with ⟨rfl, hQ⟩ | ⟨rfl, hv, hQ⟩
  · go_wp2
    go_ret
    exact ⟨Hb1.out.drew, .inl ⟨hQ, rfl⟩⟩
  · obtain ⟨gR, oR, rfl⟩ := HRw.out (by omega)
    have hvi : (v : Int) < (t.lv.length : Int) := by omega
    have Hv := Lib.hid hv
    clear hv
    go_wp2
    go_ret
    exact ⟨Hb1.out.drew, .inr ⟨_, hQ, rfl⟩⟩
end
end Go.Proofs.Ytdghbdiapkelnaa
