/-
  Texts of this claim, joined (part 17): contracts and lemmas that the last text goes by. No statement of the seat is proved here.
-/
import Derived.Test.YtdghbdiapkelnaaAll14
import Derived.Test.YtdghbdiapkelnaaAll16
import Derived.Test.YtdghbdiapkelnaaAll10
import Derived.Test.YtdghbdiapkelnaaAll7
import Derived.Test.YtdghbdiapkelnaaAll9
set_option linter.unusedVariables false
set_option linter.unusedSimpArgs false
/-
  The reference's Assign. No statement of the seat is proved here.
-/
namespace Go.Proofs.Ytdghbdiapkelnaa
open Go Go.RowKit
set_option maxRecDepth 100000

theorem sumT_row {l : List Tok} (hs : sumT l l.length ≤ 6000) : l.length ≤ 6000 := (light_ok hs).1
theorem rassign_any {S : Nat → Prop} {w : World} {g : Nat} {t : Tr} (h : RTIn S w g t) (hG : Good t) (B : Option Addr) (e2 : Nat) (l : List Tok) (hT : ToksAt w B l) (hBS : ∀ ad, B = some ad → cellsT l ≠ [] → ¬ S ad.block) (hs : sumT l l.length ≤ 6000) :
    Calls Try.prog 16 #[.pointer (some ⟨g, 0, none⟩), .slice B l.length e2] w (RAsgd S w g (numT t l).1 (numT t l).2 (varsT t l)) := by
  by_cases ho : overB l = true
  · have e : numT t l = (t, 0) := by unfold numT; rw [if_pos ho]
    have ev : varsT t l = [joinL l] := by unfold varsT; rw [e]; rfl
    rw [e, ev]
    exact rassign_over h B e2 l hT (sumT_row hs) (by omega) ho
  · have hl := over_no ho
    cases hf : leafAt t l with
    | none => exact rassign_none h hG B e2 l hT hBS hl.2 hl.1 (by omega) hf
    | some i => exact rassign_some h hG B e2 l hT hBS hl.2 hl.1 (by omega) hf
end Go.Proofs.Ytdghbdiapkelnaa

/-
  A Writer of the call's own, step by step; a tree's bytes (mathematics). No statement of the seat is proved here.
-/
namespace Go.Proofs.Ytdghbdiapkelnaa
open Go Go.RowKit
set_option maxRecDepth 100000

/-! ### the mathematics -/
def prtB (q : Prt) : List UInt8 := if q.any = true then dig 1 else dig 0 ++ (dig q.text.length ++ q.text)
def tmpB (p : List Prt) : List UInt8 := dig p.length ++ p.flatMap prtB
def lfB (x : Lf) : List UInt8 := dig x.count ++ (dig x.a.length ++ x.a) ++ (dig x.b.length ++ x.b) ++ dig x.gr.length ++ x.gr.flatMap dig
def treeB (t : Tr) : List UInt8 := dig (t.ts.length + 1) ++ t.ts.flatMap tmpB ++ dig t.lv.length ++ t.lv.flatMap lfB
/-- no text is long -/
structure Sml (t : Tr) : Prop where
  tx : ∀ p ∈ t.ts, ∀ q ∈ p, q.text.length ≤ 6000
  ky : ∀ x ∈ t.lv, x.a.length ≤ 6000 ∧ x.b.length ≤ 6000 ∧ x.count ≤ 64
theorem dig9 (n : Nat) (h : n ≤ 4611686018427387904) : (dig n).length ≤ 9 := dig_len 9 _ (by have : (128 : Nat) ^ 9 = 9223372036854775808 := rfl; omega) (by omega)
theorem prtB_len {q : Prt} (h : q.text.length ≤ 6000) : (prtB q).length ≤ 6018 := by
  unfold prtB
  have h1 := dig9 q.text.length (by omega)
  have h2 := dig9 0 (by omega)
  have h3 := dig9 1 (by omega)
  split
  · omega
  · rw [List.length_append, List.length_append]; omega
theorem flat_len_le {α : Type} (f : α → List UInt8) (m : Nat) : ∀ (l : List α), (∀ x ∈ l, (f x).length ≤ m) → (l.flatMap f).length ≤ m * l.length
  | [], _ => by simp
  | a :: r, h => by
    have h1 := h a (List.mem_cons_self ..)
    have h2 := flat_len_le f m r (fun x hx => h x (List.mem_cons_of_mem _ hx))
    rw [List.flatMap_cons, List.length_append, List.length_cons, Nat.mul_succ]
    omega
theorem tmpB_len {p : List Prt} (h : ∀ q ∈ p, q.text.length ≤ 6000) (hl : p.length ≤ 64) : (tmpB p).length ≤ 400000 := by
  have h1 := dig9 p.length (by omega)
  have h2 := flat_len_le prtB 6018 p (fun q hq => prtB_len (h q hq))
  have h3 : 6018 * p.length ≤ 6018 * 64 := Nat.mul_le_mul_left _ hl
  unfold tmpB
  rw [List.length_append]
  omega
theorem lfB_len {x : Lf} (h : x.a.length ≤ 6000 ∧ x.b.length ≤ 6000 ∧ x.count ≤ 64) (hg : x.gr.length ≤ 8) (hv : ∀ g ∈ x.gr, g ≤ 100) : (lfB x).length ≤ 20000 := by
  have h1 := dig9 x.count (by omega)
  have h2 := dig9 x.a.length (by omega)
  have h3 := dig9 x.b.length (by omega)
  have h4 := dig9 x.gr.length (by omega)
  have h5 := flat_len_le dig 9 x.gr (fun g hg => dig9 g (by have := hv g hg; omega))
  unfold lfB
  simp only [List.length_append]
  omega
def tsTo (t : Tr) (k : Nat) : List UInt8 := dig (t.ts.length + 1) ++ (t.ts.take k).flatMap tmpB
def lvTo (t : Tr) (k : Nat) : List UInt8 := dig (t.ts.length + 1) ++ t.ts.flatMap tmpB ++ dig t.lv.length ++ (t.lv.take k).flatMap lfB
theorem tsTo_len {t : Tr} (hG : Good t) (hS : Sml t) (k : Nat) : (tsTo t k).length ≤ 30000000 := by
  have h1 := dig9 (t.ts.length + 1) (by have := hG.ids; omega)
  have h2 := flat_len_le tmpB 400000 (t.ts.take k) (fun p hp => tmpB_len (hS.tx p (List.mem_of_mem_take hp)) (hG.long p (List.mem_of_mem_take hp)).2)
  have h3 : (t.ts.take k).length ≤ 63 := by rw [List.length_take]; have := hG.ids; omega
  have h4 : 400000 * (t.ts.take k).length ≤ 400000 * 63 := Nat.mul_le_mul_left _ h3
  unfold tsTo
  rw [List.length_append]
  omega
theorem lvTo_len {t : Tr} (hG : Good t) (hS : Sml t) (k : Nat) : (lvTo t k).length ≤ 40000000 := by
  have h0 := tsTo_len hG hS t.ts.length
  unfold tsTo at h0
  rw [List.take_length] at h0
  have h1 := dig9 t.lv.length (by have := hG.lvs; omega)
  have h2 := flat_len_le lfB 20000 (t.lv.take k) (fun x hx => lfB_len (hS.ky x (List.mem_of_mem_take hx)) (hG.gr x (List.mem_of_mem_take hx)).2.1 (fun g hg => by have := ((hG.gr x (List.mem_of_mem_take hx)).2.2.2 g hg).2.1; have := hG.ids; omega))
  have h3 : (t.lv.take k).length ≤ 32 := by rw [List.length_take]; have := hG.lvs; omega
  have h4 : 20000 * (t.lv.take k).length ≤ 20000 * 32 := Nat.mul_le_mul_left _ h3
  unfold lvTo
  rw [List.length_append, List.length_append]
  omega
theorem tsTo_succ {t : Tr} {k : Nat} (h : k < t.ts.length) : tsTo t (k + 1) = tsTo t k ++ tmpB t.ts[k] := by
  unfold tsTo
  rw [take_snoc _ _ h, List.flatMap_append, ← List.append_assoc]
  simp
theorem lvTo_succ {t : Tr} {k : Nat} (h : k < t.lv.length) : lvTo t (k + 1) = lvTo t k ++ lfB t.lv[k] := by
  unfold lvTo
  rw [take_snoc _ _ h, List.flatMap_append, ← List.append_assoc]
  simp
theorem tsTo_all (t : Tr) : tsTo t t.ts.length ++ dig t.lv.length = lvTo t 0 := by
  unfold tsTo lvTo
  rw [List.take_length]
  simp
theorem lvTo_all (t : Tr) : lvTo t t.lv.length = treeB t := by
  unfold lvTo treeB
  rw [List.take_length]
/-- parts behind each other -/
def prtTo (p : List Prt) (k : Nat) : List UInt8 := dig p.length ++ (p.take k).flatMap prtB
theorem prtTo_succ {p : List Prt} {k : Nat} (h : k < p.length) : prtTo p (k + 1) = prtTo p k ++ prtB p[k] := by
  unfold prtTo
  rw [take_snoc _ _ h, List.flatMap_append, ← List.append_assoc]
  simp
theorem prtTo_all (p : List Prt) : prtTo p p.length = tmpB p := by
  unfold prtTo tmpB
  rw [List.take_length]
theorem prtTo_len {p : List Prt} (h : ∀ q ∈ p, q.text.length ≤ 6000) (hl : p.length ≤ 64) (k : Nat) : (prtTo p k).length ≤ 400000 := by
  have h1 := dig9 p.length (by omega)
  have h2 := flat_len_le prtB 6018 (p.take k) (fun q hq => prtB_len (h q (List.mem_of_mem_take hq)))
  have h3 : 6018 * (p.take k).length ≤ 6018 * 64 := Nat.mul_le_mul_left _ (by rw [List.length_take]; omega)
  unfold prtTo
  rw [List.length_append]
  omega
/-! ### the Writer -/
def W4 (w0 : World) : World := w0.alloc (.cells #[.slice none 0 0] 89)
/-- a Writer that a call made at 'w0', which has laid these bytes -/
def WS (w0 : World) (bs : List UInt8) (w : World) : Prop := Wr w (More (fun k => k = w0.heap.size) (W4 w0) w) w0.heap.size (bs.map bv) ∧ Only (fun k => k = w0.heap.size) (W4 w0) w
section
variable {w0 w wc : World} {bs : List UInt8}
theorem W4_size (w0 : World) : (W4 w0).heap.size = w0.heap.size + 1 := World.size_alloc _ _
theorem WS.start (w0 : World) : WS w0 [] (W4 w0) := by
  refine ⟨?_, Only.refl _ _⟩
  have h : Wr (W4 w0) (fun k => k = w0.heap.size) w0.heap.size [] := Wr.new w0 _ rfl
  exact h.mono (fun k hk _ => .inl hk)
theorem WS.bel (h : WS w0 bs w) : Below w0.heap.size w0 w := by
  have hb : Below w0.heap.size w0 (W4 w0) := ext_alloc (Below.refl _ _) _
  exact hb.trans (h.2.below (fun i hi => by omega) hb.size)
theorem WS.ext (h : WS w0 bs w) {w' : World} (hb : Below w.heap.size w w') : WS w0 bs w' := by
  refine ⟨(h.1.ext hb).mono (fun k hk _ => ?_), h.2.trans (Only.of_ext hb) (fun _ _ h => h)⟩
  rcases hk with hk | hk
  · exact .inl hk
  · exact .inr ⟨hk.1, Nat.lt_of_lt_of_le hk.2 hb.size⟩
theorem WS.far (h : WS w0 bs w) {k : Nat} (hk : k < w0.heap.size ∨ w.heap.size ≤ k) : ¬ More (fun k => k = w0.heap.size) (W4 w0) w k := fun hm => by
  have h1 := W4_size w0
  have h2 := h.2.size
  rcases hm with hm | hm
  · omega
  · have := hm.1; have := hm.2; omega
/-- what a step of the Writer's leaves -/
theorem WS.step (h : WS w0 bs w) (hbc : Below w.heap.size w wc) {ds : List UInt8} {w' : World} (hr : Wr w' (More (More (fun k => k = w0.heap.size) (W4 w0) w) wc w') w0.heap.size (bs.map bv ++ ds.map bv)) (ho : Only (More (fun k => k = w0.heap.size) (W4 w0) w) wc w') : WS w0 (bs ++ ds) w' := by
  have hs := hbc.size
  refine ⟨?_, ?_⟩
  · rw [List.map_append]
    exact Wr.join h.2.size hs ho.size hr
  · exact (h.2.trans (Only.of_ext hbc) (fun _ _ h => h)).join ho
/-- the blocks that a step of the Writer's may turn -/
def WF (w0 w : World) : Nat → Prop := More (fun k => k = w0.heap.size) (W4 w0) w
theorem ws_num (h : WS w0 bs w) {X : World} (hX : Below w.heap.size w X) (v : Int) (hv : isInt v) (hb : bs.length ≤ 100000000) :
    Calls Try.prog 46 #[.pointer (some ⟨w0.heap.size, 0, none⟩), .slice (some ⟨X.heap.size, 0, none⟩) 1 1] (X.alloc (.cells #[.int .i64 v] 3)) fun e w' => e = .returned (.tuple #[]) ∧ WS w0 (bs ++ dig (clamp v)) w' ∧ Only (WF w0 w) (X.alloc (.cells #[.int .i64 v] 3)) w' := by
  have hbc : Below w.heap.size w (X.alloc (.cells #[.int .i64 v] 3)) := ext_alloc hX _
  refine (nums_any _ _ (some ⟨X.heap.size, 0, none⟩) 1 1 [v] (bs.map bv) _ (h.1.ext hbc) rfl (RdF.lit X #[.int .i64 v] _ rfl (h.far (.inr hX.size))) (by
      intro x hx
      simp only [List.mem_cons, List.not_mem_nil, or_false] at hx
      subst hx
      exact hv) (by simp; omega)).mono ?_
  rintro e w' ⟨rfl, hr, ho⟩
  refine ⟨rfl, h.step hbc ?_ ho, ho⟩
  have e : numsB [v] = dig (clamp v) := by simp [numsB]
  rw [e] at hr
  exact hr
theorem ws_nums (h : WS w0 bs w) {X : World} (hX : Below w.heap.size w X) (A : Option Addr) (c : Nat) (vs : List Nat) (hA : Rd w0 A (vs.map natV)) (hv : ∀ v ∈ vs, v ≤ 100) (hl : vs.length ≤ 1000) (hb : bs.length ≤ 100000000) :
    Calls Try.prog 46 #[.pointer (some ⟨w0.heap.size, 0, none⟩), .slice A vs.length c] X fun e w' => e = .returned (.tuple #[]) ∧ WS w0 (bs ++ vs.flatMap dig) w' ∧ Only (WF w0 w) X w' := by
  have hmap : (vs.map (fun v : Nat => (v : Int))).map iv = vs.map natV := by rw [List.map_map]; rfl
  refine (nums_any _ _ A _ c (vs.map (fun v : Nat => (v : Int))) (bs.map bv) X (h.1.ext hX) (by rw [List.length_map]) (by
      rw [hmap]
      refine ⟨(hA.ext h.bel).ext hX, fun ad e hne => ?_⟩
      obtain ⟨u, r, hu⟩ := List.exists_cons_of_ne_nil hne
      obtain ⟨ad2, e2, hc⟩ := hA 0 u (by rw [hu]; rfl)
      rw [e] at e2
      injection e2 with e2
      subst e2
      have := World.block_lt_of_cell? w0 _ hc
      rw [block_add] at this
      exact h.far (.inl this)) (by
      intro x hx
      obtain ⟨v, hv2, rfl⟩ := List.mem_map.1 hx
      have := hv v hv2
      exact ⟨by omega, by omega⟩) (by simp; omega)).mono ?_
  rintro e w' ⟨rfl, hr, ho⟩
  refine ⟨rfl, h.step hX ?_ ho, ho⟩
  have key : ∀ l : List Nat, (∀ v ∈ l, v ≤ 100) → numsB (l.map (fun v : Nat => (v : Int))) = l.flatMap dig := by
    intro l
    induction l with
    | nil => intro _; rfl
    | cons a r ih =>
      intro hx
      have h1 := ih (fun v hv => hx v (List.mem_cons_of_mem _ hv))
      have h2 := hx a (List.mem_cons_self ..)
      unfold numsB at h1 ⊢
      rw [List.map_cons, List.flatMap_cons, h1, clamp_of_nat (by omega), List.flatMap_cons]
  rw [key vs hv] at hr
  exact hr
theorem ws_text (h : WS w0 bs w) {X : World} (hX : Below w.heap.size w X) (s : List UInt8) (cc : Nat) (hbc : Below X.heap.size X wc) (hz : wc.heap.size = X.heap.size + 1) (hrc : Rd wc (some ⟨X.heap.size, 0, none⟩) (s.map bv)) (hcc : s.length ≤ cc) (hs : s.length ≤ 6000) (hb : bs.length ≤ 100000000) :
    Calls Try.prog 48 #[.pointer (some ⟨w0.heap.size, 0, none⟩), .slice (some ⟨wc.heap.size, 0, none⟩) 1 1] (wc.alloc (.cells #[.slice (some ⟨X.heap.size, 0, none⟩) s.length cc] 48)) fun e w' => e = .returned (.tuple #[]) ∧ WS w0 (bs ++ (dig s.length ++ s)) w' ∧ Only (WF w0 w) (wc.alloc (.cells #[.slice (some ⟨X.heap.size, 0, none⟩) s.length cc] 48)) w' := by
  have hb2 : Below w.heap.size w (wc.alloc (.cells #[.slice (some ⟨X.heap.size, 0, none⟩) s.length cc] 48)) := ext_alloc (ext_trans hX hbc) _
  have hd := dig9 s.length (by omega)
  have hs1 := hX.size
  have e : rowsB [s] = dig s.length ++ s := by simp [rowsB]
  refine (bytes_any _ _ (some ⟨wc.heap.size, 0, none⟩) 1 1 [s] (bs.map bv) _ (h.1.ext hb2) rfl (RowsF.one ⟨hrc, fun ad e _ => by injection e with e; subst e; exact h.far (.inr hs1)⟩ hcc _ rfl (h.far (.inr (by omega)))) (by rw [e]; simp; omega) (by simp)).mono ?_
  rintro e' w' ⟨rfl, hr, ho⟩
  refine ⟨rfl, h.step hb2 ?_ ho, ho⟩
  rw [e] at hr
  exact hr
theorem ws_text2 {wd : World} (h : WS w0 bs w) {X : World} (hX : Below w.heap.size w X) (s u : List UInt8) (cc cd : Nat) (hbc : Below X.heap.size X wc) (hz : wc.heap.size = X.heap.size + 1) (hrc : Rd wc (some ⟨X.heap.size, 0, none⟩) (s.map bv)) (hcc : s.length ≤ cc) (hs : s.length ≤ 6000)
    (hbd : Below wc.heap.size wc wd) (hzd : wd.heap.size = wc.heap.size + 1) (hrd : Rd wd (some ⟨wc.heap.size, 0, none⟩) (u.map bv)) (hcd : u.length ≤ cd) (hu : u.length ≤ 6000) (hb : bs.length ≤ 100000000) :
    Calls Try.prog 48 #[.pointer (some ⟨w0.heap.size, 0, none⟩), .slice (some ⟨wd.heap.size, 0, none⟩) 2 2] (wd.alloc (.cells #[.slice (some ⟨X.heap.size, 0, none⟩) s.length cc, .slice (some ⟨wc.heap.size, 0, none⟩) u.length cd] 48)) fun e w' => e = .returned (.tuple #[]) ∧ WS w0 (bs ++ ((dig s.length ++ s) ++ (dig u.length ++ u))) w' ∧ Only (WF w0 w) (wd.alloc (.cells #[.slice (some ⟨X.heap.size, 0, none⟩) s.length cc, .slice (some ⟨wc.heap.size, 0, none⟩) u.length cd] 48)) w' := by
  have hb2 : Below w.heap.size w (wd.alloc (.cells #[.slice (some ⟨X.heap.size, 0, none⟩) s.length cc, .slice (some ⟨wc.heap.size, 0, none⟩) u.length cd] 48)) := ext_alloc (ext_trans (ext_trans hX hbc) hbd) _
  have hd := dig9 s.length (by omega)
  have hd2 := dig9 u.length (by omega)
  have hs1 := hX.size
  have e : rowsB [s, u] = (dig s.length ++ s) ++ (dig u.length ++ u) := by simp [rowsB]
  refine (bytes_any _ _ (some ⟨wd.heap.size, 0, none⟩) 2 2 [s, u] (bs.map bv) _ (h.1.ext hb2) rfl (RowsF.two ⟨hrc.ext hbd, fun ad e _ => by injection e with e; subst e; exact h.far (.inr hs1)⟩ hcc ⟨hrd, fun ad e _ => by injection e with e; subst e; exact h.far (.inr (by show w.heap.size ≤ wc.heap.size; omega))⟩ hcd _ rfl (h.far (.inr (by omega)))) (by rw [e]; simp; omega) (by simp)).mono ?_
  rintro e' w' ⟨rfl, hr, ho⟩
  refine ⟨rfl, h.step hb2 ?_ ho, ho⟩
  rw [e] at hr
  exact hr
theorem ws_out (h : WS w0 bs w) (hb : bs.length ≤ 100000000) :
    Calls Try.prog 49 #[.pointer (some ⟨w0.heap.size, 0, none⟩)] w fun e w' => ∃ A' c', e = .returned (.slice A' bs.length c') ∧ New w w' A' c' bs ∧ Below w.heap.size w w' := out_any _ _ bs w h.1 (by omega)
end
end Go.Proofs.Ytdghbdiapkelnaa

/-
  Encode (program). No statement of the seat is proved here.
-/
namespace Go.Proofs.Ytdghbdiapkelnaa
open Go Go.RowKit
set_option maxRecDepth 100000

theorem clampN (n : Nat) (h : n ≤ 4611686018427387904) : dig (clamp (n : Int)) = dig n := by rw [clamp_of_nat h]
section
variable {w0 w : World} {bs : List UInt8}
set_option maxHeartbeats 4000000 in
theorem wtmpl_any (h : WS w0 bs w) (A : Option Addr) (c : Nat) (p : List Prt) (hA : PartsAt w0 A p) (hp : p.length ≤ 64) (ht : ∀ q ∈ p, q.text.length ≤ 6000) (hb : bs.length ≤ 40000000) :
    Calls Try.prog 47 #[.pointer (some ⟨w0.heap.size, 0, none⟩), .slice A p.length c] w fun e w' => e = .returned (.tuple #[]) ∧ WS w0 (bs ++ tmpB p) w' := by
  have HN := Lib.hid (ws_num h (Below.refl _ _) (p.length : Int) ⟨by omega, by omega⟩ (by omega))
  have HA := Lib.hid hA
  have HT := Lib.hid ht
  have HL : Hid (∀ k, (prtTo p k).length ≤ 400000) := Lib.hid (prtTo_len ht hp)
  have HB := Lib.hid hb
  have HE : Hid (prtTo p p.length = tmpB p) := Lib.hid (prtTo_all p)
  have H0 : Hid (prtTo p 0 = dig p.length) := Lib.hid (by simp [prtTo])
  have Hcl : Hid (dig (clamp (p.length : Int)) = dig p.length) := Lib.hid (clampN _ (by omega))
  have hpi : (p.length : Int) ≤ 64 := by omega
  clear h hA ht hp hb
  go_enter Try.func47, Try.ntmps47
  go_wp2_with fail
  refine HN.out.mono ?_
  rintro e w1 ⟨rfl, h1, -⟩
  rw [Hcl.out, ← H0.out] at h1
  have H1 := Lib.hid h1
  clear h1 HN
  go_wp2
  go_loopw [13] (fun i wr => ∃ k : Nat, k ≤ p.length ∧ i = .int .i64 (k : Int) ∧ Hid (WS w0 (bs ++ prtTo p k) wr)) (fun i _ => p.length - (intOf i).toNat)
  case atStart => exact ⟨0, Nat.zero_le _, rfl, H1⟩
  case round =>
    obtain ⟨k, hk, rfl, HW⟩ := hrel
    by_cases hlt : k < p.length
    · have hki : (k : Int) < (p.length : Int) := by omega
      obtain ⟨gA, oA, rfl, c0, c1⟩ := (HA.out.ext HW.out.bel).at_ hlt
      have hlen := HL.out k
      have hbl := HB.out
      have Hlen : Hid ((bs ++ prtTo p k).length ≤ 50000000) := Lib.hid (by rw [List.length_append]; omega)
      have htx := HT.out _ (List.getElem_mem hlt)
      have HSn : Hid (bs ++ prtTo p (k + 1) = (bs ++ prtTo p k) ++ prtB p[k]) := Lib.hid (by rw [prtTo_succ hlt, List.append_assoc])
      generalize p[k] = q at *
      obtain ⟨an, tx⟩ := q
      dsimp only at c0 c1 htx
      generalize bs ++ prtTo p k = bk at *
      have hX : Below wr.heap.size wr (wr.alloc (.cells #[.bool an, strV tx] 72)) := ext_alloc (Below.refl _ _) _
      have HBp := Lib.hid (Blk.new wr 72 #[.bool an, strV tx])
      have HX := Lib.hid hX
      cases an
      case true =>
        have hn1 := ws_num HW.out hX 1 ⟨by omega, by omega⟩ (by have := Hlen.out; omega)
        rw [World.size_alloc] at hn1
        have e1 : dig (clamp 1) = prtB ⟨true, tx⟩ := by rw [show (1 : Int) = ((1 : Nat) : Int) from rfl, clampN 1 (by omega)]; rfl
        rw [e1, ← HSn.out] at hn1
        have HN1 := Lib.hid hn1
        obtain ⟨Z, hZ, -⟩ := str_hide tx
        rw [hZ] at c1 HN1 HBp
        have b0 := HBp.out.cell 0
        simp only [List.getElem?_toArray, List.getElem?_cons_zero, List.getElem?_cons_succ] at b0
        clear hn1 e1 hZ hX
        go_wp2_with fail
        refine HN1.out.mono ?_
        rintro e w2 ⟨rfl, h2, -⟩
        have H2 := Lib.hid h2
        clear h2 b0 c0 c1
        go_wp2
        go_roundw
        case rel => exact ⟨k + 1, by omega, by go_num, H2⟩
        case measure => simp [intOf]; omega
      case false =>
        have hn1 := ws_num HW.out hX 0 ⟨by omega, by omega⟩ (by have := Hlen.out; omega)
        rw [World.size_alloc] at hn1
        have e1 : dig (clamp 0) = dig 0 := by rw [show (0 : Int) = ((0 : Nat) : Int) from rfl, clampN 0 (by omega)]
        rw [e1] at hn1
        have HN1 := Lib.hid hn1
        have HF : Hid (¬ WF w0 wr wr.heap.size) := Lib.hid (HW.out.far (.inr (Nat.le_refl _)))
        have Hd0 : Hid ((dig 0).length ≤ 9) := Lib.hid (dig9 0 (by omega))
        obtain ⟨Z, hZ, -⟩ := str_hide tx
        have HZ := Lib.hid hZ
        rw [hZ] at c1 HN1 HBp
        have b0 := HBp.out.cell 0
        simp only [List.getElem?_toArray, List.getElem?_cons_zero, List.getElem?_cons_succ] at b0
        clear hn1 e1 hZ hX
        go_wp2_with fail
        refine HN1.out.mono ?_
        rintro e w2 ⟨rfl, h2, ho2⟩
        have H2 := Lib.hid h2
        have hb1 := (HBp.out.alloc (.cells #[.int .i64 0] 3)).only ho2 HF.out
        have b1 := hb1.cell 1
        simp only [List.getElem?_toArray, List.getElem?_cons_zero, List.getElem?_cons_succ] at b1
        obtain ⟨cc, wc, hcv, hcc, hrc, hbc, hzc⟩ := str_row w2 tx
        have htx2 := ws_text h2 (Below.refl _ _) tx cc hbc hzc hrc hcc htx (by rw [List.length_append]; have := Hlen.out; have := Hd0.out; omega)
        have e2 : bk ++ dig 0 ++ (dig tx.length ++ tx) = bk ++ prtB ⟨false, tx⟩ := by rw [List.append_assoc]; rfl
        rw [e2, ← HSn.out] at htx2
        have HT2 := Lib.hid htx2
        rw [show Value.string ⟨tx.toArray⟩ = strV tx from rfl, HZ.out] at hcv
        clear h2 ho2 hb1 htx2 e2 hcc hrc hbc hzc b0 c0 c1
        go_wp2_with fail
        refine HT2.out.mono ?_
        rintro e w3 ⟨rfl, h3, -⟩
        have H3 := Lib.hid h3
        clear h3 b1
        go_wp2
        go_roundw
        case rel => exact ⟨k + 1, by omega, by go_num, H3⟩
        case measure => simp [intOf]; omega
    · obtain rfl : k = p.length := by omega
      have hw := HW.out
      rw [HE.out] at hw
      have HW2 := Lib.hid hw
      clear hw
      go_wp2
      go_end0
      exact ⟨rfl, HW2.out⟩
end
end Go.Proofs.Ytdghbdiapkelnaa

/-
  Encode (program). No statement of the seat is proved here.
-/
namespace Go.Proofs.Ytdghbdiapkelnaa
open Go Go.RowKit Go.Maps
set_option maxRecDepth 100000

/-- as WS, with what the Writer owns -/
structure WSF (w0 : World) (F : Nat → Prop) (bs : List UInt8) (w : World) : Prop where
  wr : Wr w F w0.heap.size (bs.map bv)
  on : Only (fun k => k = w0.heap.size) (W4 w0) w
  lo : ∀ k, F k → k = w0.heap.size ∨ w0.heap.size + 1 ≤ k
  lt : ∀ k, F k → k < w.heap.size
section
variable {w0 w wc X X2 : World} {bs ds : List UInt8} {F : Nat → Prop}
theorem WS.f (h : WS w0 bs w) : WSF w0 (WF w0 w) bs w := by
  have h1 := W4_size w0
  have h2 := h.2.size
  refine ⟨h.1, h.2, fun k hk => ?_, fun k hk => ?_⟩
  · rcases hk with hk | hk
    · exact .inl hk
    · exact .inr (by have := hk.1; omega)
  · rcases hk with hk | hk
    · omega
    · exact hk.2
theorem WSF.s (h : WSF w0 F bs w) : WS w0 bs w := by
  have h1 := W4_size w0
  refine ⟨h.wr.mono (fun k hk _ => ?_), h.on⟩
  rcases h.lo k hk with h3 | h3
  · exact .inl h3
  · exact .inr ⟨by omega, h.lt k hk⟩
theorem WSF.far (h : WSF w0 F bs w) {k : Nat} (hk : k < w0.heap.size ∨ w.heap.size ≤ k) : ¬ F k := fun hf => by
  have h1 := h.lt k hf
  rcases h.lo k hf with h2 | h2 <;> omega
theorem WSF.step (h : WSF w0 F bs w) (hX : Below w.heap.size w X) {w' : World} (hr : Wr w' (More F X w') w0.heap.size (bs.map bv ++ ds.map bv)) (ho : Only F X w') : WSF w0 (More F X w') (bs ++ ds) w' := by
  have h1 := W4_size w0
  have h2 := h.on.size
  have h3 := hX.size
  have h4 := ho.size
  refine ⟨by rw [List.map_append]; exact hr, (h.on.trans (Only.of_ext hX) (fun _ _ h => h)).trans ho (fun k hk hf => ?_), fun k hk => ?_, fun k hk => ?_⟩
  · rcases h.lo k hf with h5 | h5
    · exact h5
    · omega
  · rcases hk with hk | hk
    · exact h.lo k hk
    · exact .inr (by have := hk.1; omega)
  · rcases hk with hk | hk
    · have := h.lt k hk; omega
    · exact hk.2
theorem WSF.ends (h : WSF w0 F bs w) (hX : Below w.heap.size w X) (hb : Below X.heap.size X X2) {w' : World} (hr : Wr w' (More F X2 w') w0.heap.size (bs.map bv ++ ds.map bv)) (ho : Only F X2 w') : ∃ F', Hid (WSF w0 F' (bs ++ ds) w') ∧ Hid (∀ k, k < X.heap.size → ¬ F k → ¬ F' k) ∧ Hid (Only F X w') := by
  refine ⟨More F X2 w', Lib.hid (h.step (ext_trans hX hb) hr ho), Lib.hid (fun k hk hf hm => ?_), Lib.hid ((Only.of_ext hb).trans ho (fun _ _ h => h))⟩
  have := hb.size
  rcases hm with hm | hm
  · exact hf hm
  · have := hm.1; omega
theorem wf_num (h : WSF w0 F bs w) (hX : Below w.heap.size w X) (v : Int) (hv : isInt v) (hb : bs.length ≤ 100000000) :
    Calls Try.prog 46 #[.pointer (some ⟨w0.heap.size, 0, none⟩), .slice (some ⟨X.heap.size, 0, none⟩) 1 1] (X.alloc (.cells #[.int .i64 v] 3)) fun e w' => e = .returned (.tuple #[]) ∧ ∃ F', Hid (WSF w0 F' (bs ++ dig (clamp v)) w') ∧ Hid (∀ k, k < X.heap.size → ¬ F k → ¬ F' k) ∧ Hid (Only F X w') := by
  have hbc : Below X.heap.size X (X.alloc (.cells #[.int .i64 v] 3)) := ext_alloc (Below.refl _ _) _
  refine (nums_any _ _ (some ⟨X.heap.size, 0, none⟩) 1 1 [v] (bs.map bv) _ (h.wr.ext (ext_trans hX hbc)) rfl (RdF.lit X #[.int .i64 v] _ rfl (h.far (.inr hX.size))) (by
      intro x hx
      simp only [List.mem_cons, List.not_mem_nil, or_false] at hx
      subst hx
      exact hv) (by simp; omega)).mono ?_
  rintro e w' ⟨rfl, hr, ho⟩
  have e : numsB [v] = dig (clamp v) := by simp [numsB]
  rw [e] at hr
  exact ⟨rfl, h.ends hX hbc hr ho⟩
theorem numsB_nat : ∀ l : List Nat, (∀ v ∈ l, v ≤ 100) → numsB (l.map (fun v : Nat => (v : Int))) = l.flatMap dig
  | [], _ => rfl
  | a :: r, hx => by
    have h1 := numsB_nat r (fun v hv => hx v (List.mem_cons_of_mem _ hv))
    have h2 := hx a (List.mem_cons_self ..)
    unfold numsB at h1 ⊢
    rw [List.map_cons, List.flatMap_cons, h1, clamp_of_nat (by omega), List.flatMap_cons]
theorem wf_nums (h : WSF w0 F bs w) (hX : Below w.heap.size w X) (hX0 : Below w0.heap.size w0 X) (A : Option Addr) (c : Nat) (vs : List Nat) (hA : Rd w0 A (vs.map natV)) (hv : ∀ v ∈ vs, v ≤ 100) (hl : vs.length ≤ 1000) (hb : bs.length ≤ 100000000) :
    Calls Try.prog 46 #[.pointer (some ⟨w0.heap.size, 0, none⟩), .slice A vs.length c] X fun e w' => e = .returned (.tuple #[]) ∧ ∃ F', Hid (WSF w0 F' (bs ++ vs.flatMap dig) w') ∧ Hid (∀ k, k < X.heap.size → ¬ F k → ¬ F' k) ∧ Hid (Only F X w') := by
  have hmap : (vs.map (fun v : Nat => (v : Int))).map iv = vs.map natV := by rw [List.map_map]; rfl
  refine (nums_any _ _ A _ c (vs.map (fun v : Nat => (v : Int))) (bs.map bv) X (h.wr.ext hX) (by rw [List.length_map]) (by
      rw [hmap]
      refine ⟨hA.ext hX0, fun ad e hne => ?_⟩
      obtain ⟨u, r, hu⟩ := List.exists_cons_of_ne_nil hne
      obtain ⟨ad2, e2, hc⟩ := hA 0 u (by rw [hu]; rfl)
      rw [e] at e2
      injection e2 with e2
      subst e2
      have := World.block_lt_of_cell? w0 _ hc
      rw [block_add] at this
      exact h.far (.inl this)) (by
      intro x hx
      obtain ⟨v, hv2, rfl⟩ := List.mem_map.1 hx
      have := hv v hv2
      exact ⟨by omega, by omega⟩) (by simp; omega)).mono ?_
  rintro e w' ⟨rfl, hr, ho⟩
  rw [numsB_nat vs hv] at hr
  exact ⟨rfl, h.ends hX (Below.refl _ _) hr ho⟩
theorem wf_text2 {wd : World} (h : WSF w0 F bs w) (hX : Below w.heap.size w X) (s u : List UInt8) (cc cd : Nat) (hbc : Below X.heap.size X wc) (hz : wc.heap.size = X.heap.size + 1) (hrc : Rd wc (some ⟨X.heap.size, 0, none⟩) (s.map bv)) (hcc : s.length ≤ cc) (hs : s.length ≤ 6000)
    (hbd : Below wc.heap.size wc wd) (hzd : wd.heap.size = wc.heap.size + 1) (hrd : Rd wd (some ⟨wc.heap.size, 0, none⟩) (u.map bv)) (hcd : u.length ≤ cd) (hu : u.length ≤ 6000) (hb : bs.length ≤ 100000000) :
    Calls Try.prog 48 #[.pointer (some ⟨w0.heap.size, 0, none⟩), .slice (some ⟨wd.heap.size, 0, none⟩) 2 2] (wd.alloc (.cells #[.slice (some ⟨X.heap.size, 0, none⟩) s.length cc, .slice (some ⟨wc.heap.size, 0, none⟩) u.length cd] 48)) fun e w' => e = .returned (.tuple #[]) ∧ ∃ F', Hid (WSF w0 F' (bs ++ ((dig s.length ++ s) ++ (dig u.length ++ u))) w') ∧ Hid (∀ k, k < X.heap.size → ¬ F k → ¬ F' k) ∧ Hid (Only F X w') := by
  have hb2 : Below X.heap.size X (wd.alloc (.cells #[.slice (some ⟨X.heap.size, 0, none⟩) s.length cc, .slice (some ⟨wc.heap.size, 0, none⟩) u.length cd] 48)) := ext_alloc (ext_trans hbc hbd) _
  have hd := dig9 s.length (by omega)
  have hd2 := dig9 u.length (by omega)
  have hs1 := hX.size
  have e : rowsB [s, u] = (dig s.length ++ s) ++ (dig u.length ++ u) := by simp [rowsB]
  refine (bytes_any _ _ (some ⟨wd.heap.size, 0, none⟩) 2 2 [s, u] (bs.map bv) _ (h.wr.ext (ext_trans hX hb2)) rfl (RowsF.two ⟨hrc.ext hbd, fun ad e _ => by injection e with e; subst e; exact h.far (.inr hs1)⟩ hcc ⟨hrd, fun ad e _ => by injection e with e; subst e; exact h.far (.inr (by show w.heap.size ≤ wc.heap.size; omega))⟩ hcd _ rfl (h.far (.inr (by omega)))) (by rw [e]; simp; omega) (by simp)).mono ?_
  rintro e' w' ⟨rfl, hr, ho⟩
  rw [e] at hr
  exact ⟨rfl, h.ends hX hb2 hr ho⟩
end
section
variable {S : Nat → Prop} {w : World} {g : Nat} {t : Tr}
set_option maxHeartbeats 8000000 in
theorem encode_any (h : TrIn S w g t) (hG : Good t) (hS : Sml t) :
    Calls Try.prog 26 #[.pointer (some ⟨g, 0, none⟩)] w fun e w' => ∃ A' c', e = .returned (.slice A' (treeB t).length c') ∧ New w w' A' c' (treeB t) ∧ Below w.heap.size w w' := by
  obtain ⟨A, c, xs, R, d, ys, M, h⟩ := h
  have hb4 : Below w.heap.size w (W4 w) := ext_alloc (Below.refl _ _) _
  have HW0 := Lib.hid (WS.start w)
  have H := Lib.hid h
  have HL1 := Lib.hid (tsTo_len hG hS)
  have HL2 := Lib.hid (lvTo_len hG hS)
  have HS := Lib.hid hS
  have HG := Lib.hid hG
  have HC := Lib.hid (count_any (h.ext hb4) (by have := hG.ids; omega))
  have hti : (t.ts.length : Int) ≤ 63 := by have := hG.ids; omega
  have hli : (t.lv.length : Int) ≤ 32 := by have := hG.lvs; omega
  have HCs : Hid (∀ W, Below w.heap.size w W → W.cell? ⟨g, 0, none⟩ = some (.slice A t.ts.length c) ∧ W.cell? ⟨g, 1, none⟩ = some (.slice R t.lv.length d)) := Lib.hid (fun W hW => by
    have hx := (H.out.ext hW).blk
    have x0 := hx.cell 0
    have x1 := hx.cell 1
    simp only [List.getElem?_toArray, List.getElem?_cons_zero, List.getElem?_cons_succ] at x0 x1
    exact ⟨x0, x1⟩)
  have HE0 : Hid (dig (clamp ((t.ts.length : Int) + 1)) = tsTo t 0) := Lib.hid (by rw [show (t.ts.length : Int) + 1 = ((t.ts.length + 1 : Nat) : Int) by omega, clampN _ (by omega)]; simp [tsTo])
  have hw4 : W4 w = w.alloc (.cells #[.slice none 0 0] 89) := rfl
  clear h hG hS hb4
  unfold W4 at hw4
  have Hw4 := Lib.hid (show W4 w = w.alloc (.cells #[.slice none 0 0] 89) from rfl)
  clear hw4
  go_enter Try.func26, Try.ntmps26
  go_wp2_with fail
  rw [← Hw4.out]
  refine HC.out.mono ?_
  rintro e w1 ⟨rfl, hw1⟩
  have hw1 := hw1.symm
  subst hw1
  have HN := Lib.hid (ws_num HW0.out (Below.refl _ _) ((t.ts.length : Int) + 1) ⟨by omega, by omega⟩ (by simp))
  clear HC
  go_wp2_with fail
  refine HN.out.mono ?_
  rintro e w2 ⟨rfl, h2, -⟩
  rw [List.nil_append, HE0.out] at h2
  have H2 := Lib.hid h2
  obtain ⟨y0, y1⟩ := HCs.out w2 h2.bel
  clear h2 HN y1
  go_wp2
  go_loopw [22] (fun i wr => ∃ k : Nat, k ≤ t.ts.length ∧ i = .int .i64 (k : Int) ∧ Hid (WS w (tsTo t k) wr)) (fun i _ => t.ts.length - (intOf i).toNat)
  case atStart => exact ⟨0, Nat.zero_le _, rfl, H2⟩
  case round =>
    obtain ⟨k, hk, rfl, HW⟩ := hrel
    clear y0
    by_cases hlt : k < t.ts.length
    · have hki : (k : Int) < (t.ts.length : Int) := by omega
      obtain ⟨gA, oA, B, e, rfl, c0, hr, -⟩ := (H.out.ext HW.out.bel).tmp hlt
      have hr0 := (H.out.tmp hlt)
      obtain ⟨gA2, oA2, B2, e2, eA, c02, hr2, -⟩ := hr0
      injection eA with eA
      injection eA with ea1 ea2
      subst ea1 ea2
      have hc2 := (World.cell?_of_block (HW.out.bel.block _ (World.block_lt_of_cell? w _ c02))).trans c02
      rw [c0] at hc2
      injection hc2 with hc2
      injection hc2 with e1 e2' e3
      subst e1 e3
      have HT := Lib.hid (wtmpl_any HW.out B e t.ts[k] (parts_row hr2) (HG.out.long _ (List.getElem_mem hlt)).2 (fun q hq => HS.out.tx _ (List.getElem_mem hlt) q hq) (by have := HL1.out k; omega))
      have HSn := Lib.hid (tsTo_succ hlt)
      clear hr hr2 c02
      generalize t.ts[k].length = pl at *
      go_wp2_with fail
      refine HT.out.mono ?_
      rintro e w3 ⟨rfl, h3⟩
      rw [← HSn.out] at h3
      have H3 := Lib.hid h3
      clear h3 c0
      go_wp2
      go_roundw
      case rel => exact ⟨k + 1, by omega, by go_num, H3⟩
      case measure => simp [intOf]; omega
    · obtain rfl : k = t.ts.length := by omega
      obtain ⟨y0, y1⟩ := HCs.out wr HW.out.bel
      have HN := Lib.hid (ws_num HW.out (Below.refl _ _) (t.lv.length : Int) ⟨by omega, by omega⟩ (by have := HL1.out t.ts.length; omega))
      have HE1 : Hid (tsTo t t.ts.length ++ dig (clamp (t.lv.length : Int)) = lvTo t 0) := Lib.hid (by rw [clampN _ (by omega)]; exact tsTo_all t)
      clear y0
      go_wp2_with fail
      refine HN.out.mono ?_
      rintro e w3 ⟨rfl, h3, -⟩
      rw [HE1.out] at h3
      have H3 := Lib.hid h3
      obtain ⟨z0, z1⟩ := HCs.out w3 h3.bel
      clear h3 HN y1 z0
      go_wp2
      go_loopw [43] (fun i wr => ∃ k : Nat, k ≤ t.lv.length ∧ i = .int .i64 (k : Int) ∧ Hid (WS w (lvTo t k) wr)) (fun i _ => t.lv.length - (intOf i).toNat)
      case atStart => exact ⟨0, Nat.zero_le _, rfl, H3⟩
      case round =>
        obtain ⟨k, hk, rfl, HW⟩ := hrel
        clear z1
        by_cases hlt : k < t.lv.length
        · have hki : (k : Int) < (t.lv.length : Int) := by omega
          obtain ⟨gR, oR, G, e, rfl, c0, c1, c2, c3, -, hGr, -⟩ := H.out.leaf hlt
          have HGr := Lib.hid hGr.rd
          have f : ∀ {a v}, w.cell? a = some v → wr.cell? a = some v := fun h => cell_only h (Only.of_ext (S := fun _ => False) HW.out.bel) (fun h => h)
          have d0 := f c0
          have d1 := f c1
          have d2 := f c2
          have d3 := f c3
          obtain ⟨hk1, hk2, hk3⟩ := HS.out.ky _ (List.getElem_mem hlt)
          obtain ⟨hg1, hg2, -, hg4⟩ := HG.out.gr _ (List.getElem_mem hlt)
          have HSn : Hid (lvTo t (k + 1) = lvTo t k ++ lfB t.lv[k]) := Lib.hid (lvTo_succ hlt)
          have HLn : Hid ((lvTo t k).length ≤ 40000000) := Lib.hid (HL2.out k)
          have HLn2 : Hid ((lvTo t (k + 1)).length ≤ 40000000) := Lib.hid (HL2.out (k + 1))
          have hg100 : ∀ v ∈ t.lv[k].gr, v ≤ 100 := fun v hv => by have := (hg4 v hv).2.1; omega
          have Hg100 := Lib.hid hg100
          have hgr8 : (t.lv[k].gr.length : Int) ≤ 8 := by omega
          generalize t.lv[k] = lf at *
          obtain ⟨cnt, ka, kb, gr⟩ := lf
          dsimp only at d0 d1 d2 d3 hk1 hk2 hk3 hg2 HGr Hg100 hgr8
          unfold natV at d0
          obtain ⟨ZA, hZA, -⟩ := str_hide ka
          obtain ⟨ZB, hZB, -⟩ := str_hide kb
          have HZA := Lib.hid hZA
          have HZB := Lib.hid hZB
          rw [hZA] at d1
          rw [hZB] at d2
          have hX : Below wr.heap.size wr (wr.alloc (.cells #[.int .i64 (cnt : Int), .string ZA, .string ZB, .slice G gr.length e] 96)) := ext_alloc (Below.refl _ _) _
          have HBl := Lib.hid (Blk.new wr 96 #[.int .i64 (cnt : Int), .string ZA, .string ZB, .slice G gr.length e])
          have HF0 : Hid (¬ WF w wr wr.heap.size) := Lib.hid (HW.out.far (.inr (Nat.le_refl _)))
          have HLt : Hid (wr.heap.size < (wr.alloc (.cells #[.int .i64 (cnt : Int), .string ZA, .string ZB, .slice G gr.length e] 96)).heap.size) := Lib.hid (by rw [World.size_alloc]; omega)
          have hn1 := wf_num HW.out.f hX (cnt : Int) ⟨by omega, by omega⟩ (by have := HLn.out; omega)
          rw [clampN cnt (by omega)] at hn1
          have HN1 : Hid (Calls Try.prog 46 #[.pointer (some ⟨w.heap.size, 0, none⟩), .slice (some ⟨wr.heap.size + 1, 0, none⟩) 1 1] _ _) := Lib.hid (by rw [World.size_alloc] at hn1; exact hn1)
          have Hsz : Hid (wr.heap.size ≤ wr.heap.size) := Lib.hid (Nat.le_refl _)
          have Hd1 := Lib.hid (dig9 cnt (by omega))
          have Hd2 := Lib.hid (dig9 ka.length (by omega))
          have Hd3 := Lib.hid (dig9 kb.length (by omega))
          have Hd4 := Lib.hid (dig9 gr.length (by omega))
          have Hk1 := Lib.hid hk1
          have Hk2 := Lib.hid hk2
          have Hg2 := Lib.hid hg2
          have Hbw := Lib.hid HW.out.bel
          have b0 := HBl.out.cell 0
          simp only [List.getElem?_toArray, List.getElem?_cons_zero, List.getElem?_cons_succ] at b0
          clear c0 c1 c2 c3 hGr hn1 hX hg4 hg1 hg100 f hZA hZB hk1 hk2 hk3 hg2
          go_wp2_with fail
          refine HN1.out.mono ?_
          rintro e w5 ⟨rfl, F5, h5, hf5, ho5⟩
          have hl5 := (HBl.out).only ho5.out HF0.out
          have HF5 : Hid (¬ F5 wr.heap.size) := Lib.hid (hf5.out _ (by rw [World.size_alloc] at *; omega) HF0.out)
          have b1 := hl5.cell 1
          have b2 := hl5.cell 2
          simp only [List.getElem?_toArray, List.getElem?_cons_zero, List.getElem?_cons_succ] at b1 b2
          have HB5 := Lib.hid hl5
          obtain ⟨cc, wc, hcv, hcc, hrc, hbc, hzc⟩ := str_row w5 ka
          obtain ⟨cd, wd, hcv2, hcd, hrd, hbd, hzd⟩ := str_row wc kb
          have ht2 := wf_text2 h5.out (Below.refl _ _) ka kb cc cd hbc hzc hrc hcc Hk1.out hbd hzd hrd hcd Hk2.out (by rw [List.length_append]; have := HLn.out; have := Hd1.out; omega)
          have HT2 := Lib.hid ht2
          rw [show Value.string ⟨ka.toArray⟩ = strV ka from rfl, HZA.out] at hcv
          rw [show Value.string ⟨kb.toArray⟩ = strV kb from rfl, HZB.out] at hcv2
          have b2c : wc.cell? ⟨wr.heap.size, 2, none⟩ = some (.string ZB) := cell_only b2 (Only.of_ext (S := fun _ => False) hbc) (fun h => h)
          clear h5 hf5 ho5 hl5 ht2 hcc hrc hbc hzc hcd hrd hbd hzd b0 d0 d1 d2 d3 HN1
          go_wp2_with fail
          refine HT2.out.mono ?_
          rintro e w6 ⟨rfl, F6, h6, hf6, ho6⟩
          have hl6 := HB5.out.only ho6.out HF5.out
          have HF6 : Hid (¬ F6 wr.heap.size) := Lib.hid (hf6.out _ HB5.out.lt HF5.out)
          have b3 := hl6.cell 3
          simp only [List.getElem?_toArray, List.getElem?_cons_zero, List.getElem?_cons_succ] at b3
          have HB6 := Lib.hid hl6
          have hn2 := wf_num h6.out (Below.refl _ _) (gr.length : Int) ⟨by omega, by omega⟩ (by simp only [List.length_append]; have := HLn.out; have := Hd1.out; have := Hd2.out; have := Hd3.out; have := Hk1.out; have := Hk2.out; omega)
          rw [clampN gr.length (by have := Hg2.out; omega)] at hn2
          have HN2 := Lib.hid hn2
          clear h6 hf6 ho6 hl6 hn2 b1 b2 b2c hcv hcv2 HT2
          go_wp2_with fail
          refine HN2.out.mono ?_
          rintro e w7 ⟨rfl, F7, h7, hf7, ho7⟩
          have hl7 := HB6.out.only ho7.out HF6.out
          have b4 := hl7.cell 3
          simp only [List.getElem?_toArray, List.getElem?_cons_zero, List.getElem?_cons_succ] at b4
          have hn3 := wf_nums h7.out (Below.refl _ _) h7.out.s.bel G e gr HGr.out Hg100.out (by have := Hg2.out; omega) (by simp only [List.length_append]; have := HLn.out; have := Hd1.out; have := Hd2.out; have := Hd3.out; have := Hd4.out; have := Hk1.out; have := Hk2.out; omega)
          have HN3 := Lib.hid hn3
          clear h7 hf7 ho7 hl7 hn3 b3 HN2
          go_wp2_with fail
          refine HN3.out.mono ?_
          rintro e w8 ⟨rfl, F8, h8, -, -⟩
          have h9 := h8.out.s
          have e9 : lvTo t k ++ dig cnt ++ (dig ka.length ++ ka ++ (dig kb.length ++ kb)) ++ dig gr.length ++ gr.flatMap dig = lvTo t (k + 1) := by
            rw [HSn.out]
            unfold lfB
            simp only [List.append_assoc]
          rw [e9] at h9
          have H9 := Lib.hid h9
          clear h8 h9 e9 b4 HN3
          go_wp2
          go_roundw
          case rel => exact ⟨k + 1, by omega, by go_num, H9⟩
          case measure => simp [intOf]; omega
        · obtain rfl : k = t.lv.length := by omega
          have hw := HW.out
          have hbw := hw.bel
          have HO := Lib.hid (ws_out hw (by have := HL2.out t.lv.length; omega))
          rw [lvTo_all] at HO
          have Hbw := Lib.hid hbw
          clear hw hbw
          go_wp2_with fail
          refine HO.out.mono ?_
          rintro e w4 ⟨A', c', rfl, hN, hb⟩
          have HN9 := Lib.hid hN
          have Hb9 := Lib.hid hb
          clear hN hb
          go_wp2
          go_ret
          exact ⟨A', c', rfl, HN9.out.back Hbw.out.size, ext_trans Hbw.out Hb9.out⟩
end
end Go.Proofs.Ytdghbdiapkelnaa
