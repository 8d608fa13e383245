/-
  Texts of this claim, joined (part 5): contracts and lemmas that the last text goes by. No statement of the seat is proved here.
-/
import Derived.Test.YtlddmjhpemihgaaDoorAll0
import Derived.Test.YtlddmjhpemihgaaDoorAll3
import Derived.Test.YtlddmjhpemihgaaDoorAll1
import Derived.Shelf.Small.Strs
import Derived.Ground.NamesProg
import Derived.Test.YtlddmjhpemihgaaDoorProg
import Derived.IntWalk
import Derived.RangeFuncBox
import Derived.RangeFuncLeaves
import Derived.RangeFuncWrites
import Derived.RangeFuncNested
import Derived.Shelf.Abstract
import Derived.WalkKit
import Derived.OwnWalkIn
import Derived.TacticsInMore
import Derived.LoopNIn
import Derived.LoopIn
import Derived.Sort.QuietIn
set_option linter.unusedVariables false
set_option linter.unusedSimpArgs false
/-
  DERIVED: THE SHELF's CONTRACTS AT THIS DUMP, IN PLAIN WORDS (tools/lay-plain.mjs out of 'YtlddmjhpemihgaaDoorShelfI0.lean', which tools/lay-shelf.mjs wrote): THE SAME DECLARATIONS UNDER THE SAME NAMES: 'import', 'namespace', 'open', 'def', 'theorem' AND NOTHING ELSE: no command of the shelf's: FOR A HAND-IN. Each laying: the table of numbers ('.._ren') and one theorem, a field a fact of the dump's own or the kernel's comparison; each contract: ONE APPLICATION.
-/
namespace Go.Proofs
open Go.Shelf
end Go.Proofs

/-
  Places of an expression in memory; the contract of the program's add. No statement of the seat is proved here.
-/
namespace Go.Proofs.YtlddmjhpemihgaaDoor
open Go Go.RowKit
set_option maxRecDepth 100000
theorem info_place : (Tryd.prog.info? 73).map (fun i => (i.zero, i.size, i.bytes)) = some (some (.agg #[.bool false, .int .u64 0, .int .u64 0, .int .u64 0, .int .u64 0, .slice none 0 0]), 6, 64) := by kernel_rfl
/-- numbers of places in a row of the call's own that nobody writes any more -/
def IntsAt (S : Nat → Prop) (w : World) (A : Option Addr) (l : List Nat) : Prop :=
  l = [] ∨ ∃ b o, A = some ⟨b, o, none⟩ ∧ S b ∧ ∀ j (h : j < l.length), w.cell? ⟨b, o + j, none⟩ = some (.int .i64 ((l[j] : Nat) : Int))
/-- a place as cells -/
def PlAt (S : Nat → Prop) (w : World) (p : Pl) (cs : List Value) : Prop :=
  ∃ (a0 a1 a2 a3 : Nat) (B : Option Addr) (d : Nat), p.set = [a0, a1, a2, a3] ∧ SetOk [a0, a1, a2, a3] ∧ p.next.length ≤ d ∧ d ≤ maxLen ∧ cs = [.bool p.open_, .int .u64 (a0 : Int), .int .u64 (a1 : Int), .int .u64 (a2 : Int), .int .u64 (a3 : Int), .slice B p.next.length d] ∧ IntsAt S w B p.next
section
variable {S T : Nat → Prop} {w w' : World} {A : Option Addr} {l : List Nat} {p : Pl} {cs : List Value}
theorem IntsAt.keep (h : IntsAt S w A l) (hk : ∀ b, S b → b < w.heap.size → w'.heap[b]? = w.heap[b]?) (hs : ∀ b, S b → b < w.heap.size → T b) : IntsAt T w' A l := by
  rcases h with h | ⟨b, o, h1, h2, h3⟩
  · exact .inl h
  · rcases Nat.eq_zero_or_pos l.length with h0 | h0
    · exact .inl (List.eq_nil_of_length_eq_zero h0)
    · have hl := World.block_lt_of_cell? w _ (h3 0 h0)
      exact .inr ⟨b, o, h1, hs b h2 hl, fun j hj => (World.cell?_of_block (a := ⟨b, o + j, none⟩) (hk b h2 hl)).trans (h3 j hj)⟩
theorem PlAt.keep (h : PlAt S w p cs) (hk : ∀ b, S b → b < w.heap.size → w'.heap[b]? = w.heap[b]?) (hs : ∀ b, S b → b < w.heap.size → T b) : PlAt T w' p cs := by
  obtain ⟨a0, a1, a2, a3, B, d, h1, h2, h3, h4, h5, h6⟩ := h
  exact ⟨a0, a1, a2, a3, B, d, h1, h2, h3, h4, h5, h6.keep hk hs⟩
theorem PlAt.ext (h : PlAt S w p cs) (hb : Below w.heap.size w w') : PlAt S w' p cs := h.keep (fun b _ hl => hb.block b hl) (fun _ h _ => h)
theorem PlAt.mono (h : PlAt S w p cs) (hs : ∀ b, S b → b < w.heap.size → T b) : PlAt T w p cs := h.keep (fun _ _ _ => rfl) hs
theorem PlAt.size (h : PlAt S w p cs) : cs.length = 6 := by obtain ⟨a0, a1, a2, a3, B, d, h1, h2, h3, h4, rfl, h6⟩ := h; rfl
end
/-- a row of the call's own that holds these places -/
def RowP (S : Nat → Prop) (w : World) (A : Option Addr) (m c : Nat) (M : List Pl) : Prop :=
  ∃ xs, RowO w 73 6 A m c xs ∧ M.length = m ∧ ∀ k (h : k < M.length), PlAt (fun b => S b ∧ ¬ inA A b) w M[k] ((xs.drop (k * 6)).take 6)
section
variable {S T : Nat → Prop} {w w' : World} {A A' : Option Addr} {m c c' : Nat} {M : List Pl}
theorem RowP.none_ (S : Nat → Prop) (w : World) : RowP S w none 0 0 [] := ⟨[], RowO.none_ _ _ _, rfl, fun k h => absurd h (by simp)⟩
theorem RowP.keep (h : RowP S w A m c M) (hk : ∀ b, b < w.heap.size → (inA A b ∨ S b) → w'.heap[b]? = w.heap[b]?) (hs : ∀ b, S b → b < w.heap.size → T b) : RowP T w' A m c M := by
  obtain ⟨xs, h1, h2, h3⟩ := h
  exact ⟨xs, h1.keep fun k hk' => hk k (h1.lt hk') (.inl hk'), h2, fun k hk' => (h3 k hk').keep (fun b hb hl => hk b hl (.inr hb.1)) (fun b hb hl => ⟨hs b hb.1 hl, hb.2⟩)⟩
theorem RowP.ext (h : RowP S w A m c M) (hb : Below w.heap.size w w') : RowP S w' A m c M := h.keep (fun b hl _ => hb.block b hl) (fun _ h _ => h)
theorem RowP.mono (h : RowP S w A m c M) (hs : ∀ b, S b → b < w.heap.size → T b) : RowP T w A m c M := h.keep (fun _ _ _ => rfl) hs
theorem RowP.only (h : RowP S w A m c M) (ho : Only T w w') (h1 : ∀ b, T b → ¬ inA A b) (h2 : ∀ b, T b → ¬ S b) : RowP S w' A m c M :=
  h.keep (fun b hl hb => ho.block b hl fun ht => hb.elim (h1 b ht) (h2 b ht)) (fun _ h _ => h)
theorem RowP.len (h : RowP S w A m c M) : M.length = m := h.choose_spec.2.1
theorem RowP.le (h : RowP S w A m c M) : m ≤ c := h.choose_spec.1.le
theorem RowP.lt (h : RowP S w A m c M) {k : Nat} (hk : inA A k) : k < w.heap.size := h.choose_spec.1.lt hk
/-- one more -/
theorem RowP.grow {w1 : World} {x : Pl} {cs xs : List Value} (hx : PlAt (fun b => S b ∧ ¬ inA A b) w x cs) (hxs : RowO w 73 6 A m c xs) (hl : M.length = m) (hp : ∀ k (h : k < M.length), PlAt (fun b => S b ∧ ¬ inA A b) w M[k] ((xs.drop (k * 6)).take 6))
    (hr : RowO w1 73 6 A' (m + 1) c' (xs ++ cs)) (ho : Only (inA A) w w1) (hA : ∀ k, inA A' k → inA A k ∨ (w.heap.size ≤ k ∧ k < w1.heap.size)) : RowP S w1 A' (m + 1) c' (M ++ [x]) := by
  have hxl : xs.length = m * 6 := hxs.1
  have hcl := hx.size
  have key : ∀ {t : Pl} {ds : List Value}, PlAt (fun b => S b ∧ ¬ inA A b) w t ds → PlAt (fun b => S b ∧ ¬ inA A' b) w1 t ds := fun {t ds} ht =>
    ht.keep (fun b hb hl' => ho.block b hl' hb.2) (fun b hb hl' => ⟨hb.1, fun hin => (hA b hin).elim hb.2 (fun h => by omega)⟩)
  refine ⟨xs ++ cs, hr, by simp [hl], fun k hk => ?_⟩
  rw [List.length_append, List.length_singleton] at hk
  by_cases hkl : k < M.length
  · have e : ((xs ++ cs).drop (k * 6)).take 6 = (xs.drop (k * 6)).take 6 := by
      rw [List.drop_append_of_le_length (by omega), List.take_append_of_le_length (by rw [List.length_drop]; omega)]
    rw [e, List.getElem_append_left hkl]
    exact key (hp k hkl)
  · obtain rfl : k = M.length := by omega
    have e : ((xs ++ cs).drop (M.length * 6)).take 6 = cs := by
      rw [show M.length * 6 = xs.length by omega, List.drop_left, List.take_of_length_le (by omega)]
    rw [e, List.getElem_append_right (Nat.le_refl _)]
    simp only [Nat.sub_self, List.getElem_cons_zero]
    exact key hx
/-- a place, its cells one by one -/
theorem RowP.at_ (h : RowP S w A m c M) {k : Nat} (hk : k < M.length) :
    ∃ g o a0 a1 a2 a3 B d, A = some ⟨g, o, none⟩ ∧ (M[k]).set = [a0, a1, a2, a3] ∧ SetOk [a0, a1, a2, a3] ∧ (M[k]).next.length ≤ d ∧ d ≤ maxLen ∧ IntsAt (fun b => S b ∧ ¬ inA A b) w B (M[k]).next ∧ w.cell? ⟨g, o + k * 6, none⟩ = some (.bool (M[k]).open_) ∧ w.cell? ⟨g, o + k * 6 + 1, none⟩ = some (.int .u64 (a0 : Int)) ∧ w.cell? ⟨g, o + k * 6 + 2, none⟩ = some (.int .u64 (a1 : Int)) ∧
      w.cell? ⟨g, o + k * 6 + 3, none⟩ = some (.int .u64 (a2 : Int)) ∧ w.cell? ⟨g, o + k * 6 + 4, none⟩ = some (.int .u64 (a3 : Int)) ∧ w.cell? ⟨g, o + k * 6 + 5, none⟩ = some (.slice B (M[k]).next.length d) ∧ w.frozen? ⟨g, o + k * 6 + 5, none⟩ = false := by
  obtain ⟨xs, h1, h2, h3⟩ := h
  have h4 := h3 k hk
  rcases h1.2 with ⟨rfl, rfl, rfl⟩ | ⟨g, off, cs, rfl, b1, b2, b3, b4, b5⟩
  · omega
  · obtain ⟨a0, a1, a2, a3, B, d, e1, e2, e3, e4, e5, e6⟩ := h4
    have key : ∀ j u, ([.bool (M[k]).open_, .int .u64 (a0 : Int), .int .u64 (a1 : Int), .int .u64 (a2 : Int), .int .u64 (a3 : Int), .slice B (M[k]).next.length d] : List Value)[j]? = some u → w.cell? ⟨g, off + k * 6 + j, none⟩ = some u := by
      intro j u hu
      have hj : j < 6 := by have := (List.getElem?_eq_some_iff.1 hu).1; simpa using this
      rw [← e5, List.getElem?_take, if_pos hj, List.getElem?_drop] at hu
      rw [b3.cell, Nat.add_assoc]
      exact b5 _ u hu
    exact ⟨g, off, a0, a1, a2, a3, B, d, rfl, e1, e2, e3, e4, e6, key 0 _ rfl, key 1 _ rfl, key 2 _ rfl, key 3 _ rfl, key 4 _ rfl, key 5 _ rfl, b3.free _⟩
end
set_option maxHeartbeats 8000000 in
theorem add_any (S : Nat → Prop) (w : World) (g : Nat) (A : Option Addr) (m c : Nat) (M : List Pl) (h s r : Value) (p : Pl) (cs : List Value) (hB : Blk w g 70 #[.slice A m c, h, s, r]) (hrow : RowP S w A m c M) (hA : ∀ b, inA A b → b ≠ g) (hS : ∀ b, S b → b ≠ g)
    (hp : PlAt (fun b => S b ∧ ¬ inA A b) w p cs) (hm : m ≤ 1000000000) :
    Calls Tryd.prog 40 #[.pointer (some ⟨g, 0, none⟩), .agg cs.toArray] w fun e w' => e = .returned (.int .i64 (m : Int)) ∧ ∃ A' c', Blk w' g 70 #[.slice A' (m + 1) c', h, s, r] ∧ RowP S w' A' (m + 1) c' (M ++ [p]) ∧ Only (fun b => b = g ∨ inA A b) w w' ∧ (∀ b, inA A' b → inA A b ∨ (w.heap.size ≤ b ∧ b < w'.heap.size)) := by
  have hgl := hB.lt
  have hmi : (m : Int) ≤ 1000000000 := by omega
  obtain ⟨o, ws, nx⟩ := p
  obtain ⟨a0, a1, a2, a3, B, d, e1, e2, e3, e4, rfl, e6⟩ := id hp
  simp only at e1 e3 e6
  have hp0 := hp
  obtain ⟨xs, hxs, hxl, hxp⟩ := hrow
  have x0 : w.cell? ⟨g, 0, none⟩ = some (.slice A m c) := hB.cell 0
  have hlA : ∀ b, inA A b → b < w.heap.size := fun b hb => hxs.lt hb
  have hfin : ∀ (W w7 : World) (A7 : Option Addr) (c7 : Nat), Below w.heap.size w W → RowO w7 73 6 A7 (m + 1) c7 (xs ++ [.bool o, .int .u64 (a0 : Int), .int .u64 (a1 : Int), .int .u64 (a2 : Int), .int .u64 (a3 : Int), .slice B nx.length d]) → Only (inA A) W w7 → (∀ k, inA A7 k → inA A k ∨ (W.heap.size ≤ k ∧ k < w7.heap.size)) →
      Blk w7 g 70 #[.slice A m c, h, s, r] ∧ Only (fun b => b = g ∨ inA A b) w w7 ∧ RowP S w7 A7 (m + 1) c7 (M ++ [⟨o, ws, nx⟩]) ∧ (∀ b, inA A7 b → inA A b ∨ (w.heap.size ≤ b ∧ b < w7.heap.size)) ∧ w7.cell? ⟨g, 0, none⟩ = some (.slice A m c) ∧ w7.frozen? ⟨g, 0, none⟩ = false := fun W w7 A7 c7 hW hr ho hA7 => by
    have hB7 : Blk w7 g 70 #[.slice A m c, h, s, r] := (hB.ext hW).only ho (fun h => hA g h rfl)
    refine ⟨hB7, ?_, ?_, fun b hb => (hA7 b hb).imp id (fun ⟨h1, h2⟩ => ⟨Nat.le_trans hW.size h1, h2⟩), hB7.cell 0, hB7.free 0⟩
    · exact (Only.of_ext (S := fun b => b = g ∨ inA A b) hW).trans ho (fun i hi h => .inr h)
    · exact RowP.grow (x := ⟨o, ws, nx⟩) (PlAt.ext hp0 hW) (hxs.ext hW) hxl (fun k hk => (hxp k hk).ext hW) hr ho hA7
  have Hfin := Lib.hid hfin
  have hone : ∀ u ∈ ([.bool o, .int .u64 (a0 : Int), .int .u64 (a1 : Int), .int .u64 (a2 : Int), .int .u64 (a3 : Int), .slice B nx.length d] : List Value), u.oneCell' = true := by intro u hu; simp at hu; rcases hu with rfl | rfl | rfl | rfl | rfl | rfl <;> rfl
  have Hone := Lib.hid hone
  have Hm1 : Hid (m + 1 ≤ maxLen) := Lib.hid (by unfold maxLen; omega)
  have Hm2 : Hid ((m + 1) * 64 ≤ 140737488355328) := Lib.hid (by omega)
  have HA := Lib.hid hA
  have HSg := Lib.hid hS
  have HlA := Lib.hid hlA
  have hD := Blk.new w 73 #[.bool o, .int .u64 (a0 : Int), .int .u64 (a1 : Int), .int .u64 (a2 : Int), .int .u64 (a3 : Int), .slice B nx.length d]
  have HD := Lib.hid hD
  have y0 : (w.alloc (Obj.cells #[.bool o, .int .u64 (a0 : Int), .int .u64 (a1 : Int), .int .u64 (a2 : Int), .int .u64 (a3 : Int), .slice B nx.length d] 73)).cell? ⟨g, 0, none⟩ = some (.slice A m c) := (hB.alloc _).cell 0
  clear hB hp hp0 hxl hxp hfin hone hA hS e1 e2 e3 e4 e6 hD hlA
  go_enter Tryd.func40, Tryd.ntmps40
  go_wp2_with fail
  refine wp_region_held_drew (S := fun _ => True) (by kernel_rfl) ?_ (fun hHeld => ?_)
  · trivial
  refine wpAnyH_take (i := 0) (v := ?_) (take_list rfl) (by kernel_rfl) (by kernel_rfl) (by kernel_rfl) (fun _ _ _ h => h) (Or.inl ⟨by rfl, ?_⟩) (by assumption) ?_
  rotate_left
  · intro w hSw
    try dsimp only at hSw
    first | (go_simp; done) | (go_simp; with_reducible rfl)
  try simp only [Act.put, List.setIfInBounds_toArray, List.set_cons_zero, List.set_cons_succ]
  refine wpAnyH_take (i := 1) (v := ?_) (take_list rfl) (by kernel_rfl) (by kernel_rfl) (by kernel_rfl) (fun _ _ _ h => h) (Or.inl ⟨by rfl, ?_⟩) (by assumption) ?_
  rotate_left
  · intro w hSw
    try dsimp only at hSw
    first | (go_simp; done) | (go_simp; with_reducible rfl)
  try simp only [Act.put, List.setIfInBounds_toArray, List.set_cons_zero, List.set_cons_succ]
  refine wpAnyH_take (i := 2) (v := ?_) (take_list rfl) (by kernel_rfl) (by kernel_rfl) (by kernel_rfl) (fun _ _ _ h => h) (Or.inl ⟨by rfl, ?_⟩) (by assumption) ?_
  rotate_left
  · intro w hSw
    try dsimp only at hSw
    first | (go_simp; done) | (go_simp; with_reducible rfl)
  try simp only [Act.put, List.setIfInBounds_toArray, List.set_cons_zero, List.set_cons_succ]
  refine wpAnyH_take (i := 3) (v := ?_) (take_list rfl) (by kernel_rfl) (by kernel_rfl) (by kernel_rfl) (fun _ _ _ h => h) (Or.inl ⟨by rfl, ?_⟩) (by assumption) ?_
  rotate_left
  · intro w hSw
    try dsimp only at hSw
    first | (go_simp; done) | (go_simp; with_reducible rfl)
  try simp only [Act.put, List.setIfInBounds_toArray, List.set_cons_zero, List.set_cons_succ]
  refine wpAnyH_ready (rs := [4, 5]) (by kernel_rfl) (by simp) ?_
  refine AllReadyH.cons (take_list rfl) (fun K hK => ?_) ?_
  · skip
    go_simp
    refine hK.out _ _ ?_ (fun hHeld => ?_)
    · try dsimp only
      all_goals trivial
    clear hK K
    refine wpAnyH_ready (rs := [5]) (by kernel_rfl) (by simp) ?_
    refine AllReadyH.cons (take_list rfl) (fun K hK => ?_) ?_
    · skip
      go_simp
      refine hK.out _ _ ?_ (fun hHeld => ?_)
      · try dsimp only
        all_goals trivial
      clear hK K
      refine wpAnyH_ready (rs := [6]) (by kernel_rfl) (by simp) ?_
      refine AllReadyH.cons (take_list rfl) (fun K hK => ?_) ?_
      · skip
        go_simp
        refine hK.out _ _ ?_ (fun hHeld => ?_)
        · try dsimp only
          all_goals trivial
        clear hK K
        refine wpAnyH_ready (rs := [7]) (by kernel_rfl) (by simp) ?_
        refine AllReadyH.cons (take_list rfl) (fun K hK => ?_) ?_
        · skip
          refine step_appO _ rfl (.tmp 9) (.tmp 11) _ rfl _ _ 6 64 Tryd.underlying65 info_place rfl A m c xs rfl (hxs.ext (by repeat (first | apply ext_alloc | apply ext_drew | exact Below.refl _ _))) (some ⟨_, 0, none⟩) 1 1 [.bool o, .int .u64 (a0 : Int), .int .u64 (a1 : Int), .int .u64 (a2 : Int), .int .u64 (a3 : Int), .slice B nx.length d] rfl rfl (Rd.lit_at _ _ _ (by simp [World.drewN])) Hone.out (by intro h; cases h) Hm1.out Hm2.out ?_
          intro A7 c7 w7 hrow7 honly7 hA7
          obtain ⟨hB7, hO7, hR7, hA7', x7, f7⟩ := Hfin.out _ _ _ _ (by repeat (first | apply ext_alloc | apply ext_drew | exact Below.refl _ _)) hrow7 honly7 hA7
          refine hK.out _ _ ?_ (fun hHeld => ?_)
          · try dsimp only
            all_goals trivial
          clear hK K
          refine wpAnyH_take (i := 8) (v := ?_) (take_list rfl) (by kernel_rfl) (by kernel_rfl) (by kernel_rfl) (fun _ _ _ h => h) (Or.inl ⟨by rfl, ?_⟩) (by assumption) ?_
          rotate_left
          · intro w hSw
            try dsimp only at hSw
            first | (go_simp; done) | (go_simp; with_reducible rfl)
          try simp only [Act.put, List.setIfInBounds_toArray, List.set_cons_zero, List.set_cons_succ]
          refine wpAnyH_take (i := 9) (v := ?_) (take_list rfl) (by kernel_rfl) (by kernel_rfl) (by kernel_rfl) (fun _ _ _ h => h) (Or.inl ⟨by rfl, ?_⟩) (by assumption) ?_
          rotate_left
          · intro w hSw
            try dsimp only at hSw
            first | (go_simp; done) | (go_simp; with_reducible rfl)
          try simp only [Act.put, List.setIfInBounds_toArray, List.set_cons_zero, List.set_cons_succ]
          refine wpAnyH_ready (rs := [10]) (by kernel_rfl) (by simp) ?_
          refine AllReadyH.cons (take_list rfl) (fun K hK => ?_) ?_
          · skip
            go_simp
            refine hK.out _ _ ?_ (fun hHeld => ?_)
            · try dsimp only
              all_goals trivial
            clear hK K
            refine wpAnyH_done (by kernel_rfl) ?_ _
            have hB8 := hB7.put 0 (.slice A7 (m + 1) c7)
            have hgA7 : ¬ inA A7 g := fun hin => (hA7' g hin).elim (fun h => HA.out g h rfl) (fun h => by omega)
            have hO8 : Only (fun b => b = g) w7 (w7.setCell ⟨g, 0, none⟩ (.slice A7 (m + 1) c7)) := (Only.refl (fun b => b = g) w7).setCell (p := ⟨g, 0, none⟩) (.inl rfl) _
            have hx8 : (w7.setCell ⟨g, 0, none⟩ (.slice A7 (m + 1) c7)).cell? ⟨g, 0, none⟩ = some (.slice A7 (m + 1) c7) := hB8.cell 0
            go_wp2
            go_ret
            exact ⟨ret_eq (by omega), A7, c7, hB8, hR7.only hO8 (fun b hb h => by subst hb; exact hgA7 h) (fun b hb h => HSg.out b h hb), hO7.trans hO8 (fun i _ h => .inl h), fun b hb => (hA7' b hb).imp id (fun ⟨h1, h2⟩ => ⟨h1, by rw [show (w7.setCell ⟨g, 0, none⟩ (.slice A7 (m + 1) c7)).heap.size = w7.heap.size by simp [World.setCell]]; exact h2⟩)⟩
          exact AllReadyH.nil
        exact AllReadyH.nil
      exact AllReadyH.nil
    exact AllReadyH.nil
  refine AllReadyH.cons (take_list rfl) (fun K hK => ?_) ?_
  · skip
    go_simp
    refine hK.out _ _ ?_ (fun hHeld => ?_)
    · try dsimp only
      all_goals trivial
    clear hK K
    refine wpAnyH_ready (rs := [4, 6]) (by kernel_rfl) (by simp) ?_
    refine AllReadyH.cons (take_list rfl) (fun K hK => ?_) ?_
    · skip
      go_simp
      refine hK.out _ _ ?_ (fun hHeld => ?_)
      · try dsimp only
        all_goals trivial
      clear hK K
      refine wpAnyH_ready (rs := [6]) (by kernel_rfl) (by simp) ?_
      refine AllReadyH.cons (take_list rfl) (fun K hK => ?_) ?_
      · skip
        go_simp
        refine hK.out _ _ ?_ (fun hHeld => ?_)
        · try dsimp only
          all_goals trivial
        clear hK K
        refine wpAnyH_ready (rs := [7]) (by kernel_rfl) (by simp) ?_
        refine AllReadyH.cons (take_list rfl) (fun K hK => ?_) ?_
        · skip
          refine step_appO _ rfl (.tmp 9) (.tmp 11) _ rfl _ _ 6 64 Tryd.underlying65 info_place rfl A m c xs rfl (hxs.ext (by repeat (first | apply ext_alloc | apply ext_drew | exact Below.refl _ _))) (some ⟨_, 0, none⟩) 1 1 [.bool o, .int .u64 (a0 : Int), .int .u64 (a1 : Int), .int .u64 (a2 : Int), .int .u64 (a3 : Int), .slice B nx.length d] rfl rfl (Rd.lit_at _ _ _ (by simp [World.drewN])) Hone.out (by intro h; cases h) Hm1.out Hm2.out ?_
          intro A7 c7 w7 hrow7 honly7 hA7
          obtain ⟨hB7, hO7, hR7, hA7', x7, f7⟩ := Hfin.out _ _ _ _ (by repeat (first | apply ext_alloc | apply ext_drew | exact Below.refl _ _)) hrow7 honly7 hA7
          refine hK.out _ _ ?_ (fun hHeld => ?_)
          · try dsimp only
            all_goals trivial
          clear hK K
          refine wpAnyH_take (i := 8) (v := ?_) (take_list rfl) (by kernel_rfl) (by kernel_rfl) (by kernel_rfl) (fun _ _ _ h => h) (Or.inl ⟨by rfl, ?_⟩) (by assumption) ?_
          rotate_left
          · intro w hSw
            try dsimp only at hSw
            first | (go_simp; done) | (go_simp; with_reducible rfl)
          try simp only [Act.put, List.setIfInBounds_toArray, List.set_cons_zero, List.set_cons_succ]
          refine wpAnyH_take (i := 9) (v := ?_) (take_list rfl) (by kernel_rfl) (by kernel_rfl) (by kernel_rfl) (fun _ _ _ h => h) (Or.inl ⟨by rfl, ?_⟩) (by assumption) ?_
          rotate_left
          · intro w hSw
            try dsimp only at hSw
            first | (go_simp; done) | (go_simp; with_reducible rfl)
          try simp only [Act.put, List.setIfInBounds_toArray, List.set_cons_zero, List.set_cons_succ]
          refine wpAnyH_ready (rs := [10]) (by kernel_rfl) (by simp) ?_
          refine AllReadyH.cons (take_list rfl) (fun K hK => ?_) ?_
          · skip
            go_simp
            refine hK.out _ _ ?_ (fun hHeld => ?_)
            · try dsimp only
              all_goals trivial
            clear hK K
            refine wpAnyH_done (by kernel_rfl) ?_ _
            have hB8 := hB7.put 0 (.slice A7 (m + 1) c7)
            have hgA7 : ¬ inA A7 g := fun hin => (hA7' g hin).elim (fun h => HA.out g h rfl) (fun h => by omega)
            have hO8 : Only (fun b => b = g) w7 (w7.setCell ⟨g, 0, none⟩ (.slice A7 (m + 1) c7)) := (Only.refl (fun b => b = g) w7).setCell (p := ⟨g, 0, none⟩) (.inl rfl) _
            have hx8 : (w7.setCell ⟨g, 0, none⟩ (.slice A7 (m + 1) c7)).cell? ⟨g, 0, none⟩ = some (.slice A7 (m + 1) c7) := hB8.cell 0
            go_wp2
            go_ret
            exact ⟨ret_eq (by omega), A7, c7, hB8, hR7.only hO8 (fun b hb h => by subst hb; exact hgA7 h) (fun b hb h => HSg.out b h hb), hO7.trans hO8 (fun i _ h => .inl h), fun b hb => (hA7' b hb).imp id (fun ⟨h1, h2⟩ => ⟨h1, by rw [show (w7.setCell ⟨g, 0, none⟩ (.slice A7 (m + 1) c7)).heap.size = w7.heap.size by simp [World.setCell]]; exact h2⟩)⟩
          exact AllReadyH.nil
        exact AllReadyH.nil
      exact AllReadyH.nil
    refine AllReadyH.cons (take_list rfl) (fun K hK => ?_) ?_
    · skip
      go_simp
      refine hK.out _ _ ?_ (fun hHeld => ?_)
      · try dsimp only
        all_goals trivial
      clear hK K
      refine wpAnyH_ready (rs := [4]) (by kernel_rfl) (by simp) ?_
      refine AllReadyH.cons (take_list rfl) (fun K hK => ?_) ?_
      · skip
        go_simp
        refine hK.out _ _ ?_ (fun hHeld => ?_)
        · try dsimp only
          all_goals trivial
        clear hK K
        refine wpAnyH_ready (rs := [7]) (by kernel_rfl) (by simp) ?_
        refine AllReadyH.cons (take_list rfl) (fun K hK => ?_) ?_
        · skip
          refine step_appO _ rfl (.tmp 9) (.tmp 11) _ rfl _ _ 6 64 Tryd.underlying65 info_place rfl A m c xs rfl (hxs.ext (by repeat (first | apply ext_alloc | apply ext_drew | exact Below.refl _ _))) (some ⟨_, 0, none⟩) 1 1 [.bool o, .int .u64 (a0 : Int), .int .u64 (a1 : Int), .int .u64 (a2 : Int), .int .u64 (a3 : Int), .slice B nx.length d] rfl rfl (Rd.lit_at _ _ _ (by simp [World.drewN])) Hone.out (by intro h; cases h) Hm1.out Hm2.out ?_
          intro A7 c7 w7 hrow7 honly7 hA7
          obtain ⟨hB7, hO7, hR7, hA7', x7, f7⟩ := Hfin.out _ _ _ _ (by repeat (first | apply ext_alloc | apply ext_drew | exact Below.refl _ _)) hrow7 honly7 hA7
          refine hK.out _ _ ?_ (fun hHeld => ?_)
          · try dsimp only
            all_goals trivial
          clear hK K
          refine wpAnyH_take (i := 8) (v := ?_) (take_list rfl) (by kernel_rfl) (by kernel_rfl) (by kernel_rfl) (fun _ _ _ h => h) (Or.inl ⟨by rfl, ?_⟩) (by assumption) ?_
          rotate_left
          · intro w hSw
            try dsimp only at hSw
            first | (go_simp; done) | (go_simp; with_reducible rfl)
          try simp only [Act.put, List.setIfInBounds_toArray, List.set_cons_zero, List.set_cons_succ]
          refine wpAnyH_take (i := 9) (v := ?_) (take_list rfl) (by kernel_rfl) (by kernel_rfl) (by kernel_rfl) (fun _ _ _ h => h) (Or.inl ⟨by rfl, ?_⟩) (by assumption) ?_
          rotate_left
          · intro w hSw
            try dsimp only at hSw
            first | (go_simp; done) | (go_simp; with_reducible rfl)
          try simp only [Act.put, List.setIfInBounds_toArray, List.set_cons_zero, List.set_cons_succ]
          refine wpAnyH_ready (rs := [10]) (by kernel_rfl) (by simp) ?_
          refine AllReadyH.cons (take_list rfl) (fun K hK => ?_) ?_
          · skip
            go_simp
            refine hK.out _ _ ?_ (fun hHeld => ?_)
            · try dsimp only
              all_goals trivial
            clear hK K
            refine wpAnyH_done (by kernel_rfl) ?_ _
            have hB8 := hB7.put 0 (.slice A7 (m + 1) c7)
            have hgA7 : ¬ inA A7 g := fun hin => (hA7' g hin).elim (fun h => HA.out g h rfl) (fun h => by omega)
            have hO8 : Only (fun b => b = g) w7 (w7.setCell ⟨g, 0, none⟩ (.slice A7 (m + 1) c7)) := (Only.refl (fun b => b = g) w7).setCell (p := ⟨g, 0, none⟩) (.inl rfl) _
            have hx8 : (w7.setCell ⟨g, 0, none⟩ (.slice A7 (m + 1) c7)).cell? ⟨g, 0, none⟩ = some (.slice A7 (m + 1) c7) := hB8.cell 0
            go_wp2
            go_ret
            exact ⟨ret_eq (by omega), A7, c7, hB8, hR7.only hO8 (fun b hb h => by subst hb; exact hgA7 h) (fun b hb h => HSg.out b h hb), hO7.trans hO8 (fun i _ h => .inl h), fun b hb => (hA7' b hb).imp id (fun ⟨h1, h2⟩ => ⟨h1, by rw [show (w7.setCell ⟨g, 0, none⟩ (.slice A7 (m + 1) c7)).heap.size = w7.heap.size by simp [World.setCell]]; exact h2⟩)⟩
          exact AllReadyH.nil
        exact AllReadyH.nil
      exact AllReadyH.nil
    exact AllReadyH.nil
  exact AllReadyH.nil
end Go.Proofs.YtlddmjhpemihgaaDoor

/-
  Contracts of the program's copies and repeat, where that of lay is known of the kid. No statement of the seat is proved here.
-/
namespace Go.Proofs.YtlddmjhpemihgaaDoor
open Go Go.RowKit
set_option maxRecDepth 100000
/-- a walk's block and its places -/
def WA (S : Nat → Prop) (w : World) (g : Nat) (A : Option Addr) (c : Nat) (M : List Pl) (h s r : Value) : Prop :=
  Blk w g 70 #[.slice A M.length c, h, s, r] ∧ RowP S w A M.length c M ∧ (∀ b, inA A b → g < b) ∧ (∀ b, S b → b ≠ g)
/-- places were laid -/
def Grew (w : World) (g : Nat) (A : Option Addr) (w' : World) (A' : Option Addr) : Prop := Only (fun b => b = g ∨ inA A b) w w' ∧ ∀ b, inA A' b → inA A b ∨ (w.heap.size ≤ b ∧ b < w'.heap.size)
section
variable {S T : Nat → Prop} {w w1 w2 : World} {g : Nat} {A A1 A2 : Option Addr} {c : Nat} {M : List Pl} {h s r : Value}
theorem WA.ext (a : WA S w g A c M h s r) (hb : Below w.heap.size w w1) : WA S w1 g A c M h s r := ⟨a.1.ext hb, a.2.1.ext hb, a.2.2⟩
theorem WA.mono (a : WA S w g A c M h s r) (hs : ∀ b, S b → b < w.heap.size → T b) (ht : ∀ b, T b → b ≠ g) : WA T w g A c M h s r := ⟨a.1, a.2.1.mono hs, a.2.2.1, ht⟩
theorem WA.lt (a : WA S w g A c M h s r) : g < w.heap.size := a.1.lt
theorem WA.ltA (a : WA S w g A c M h s r) : ∀ b, inA A b → b < w.heap.size := fun b hb => a.2.1.lt hb
theorem WA.only (a : WA S w g A c M h s r) (ho : Only T w w1) (h1 : ∀ b, T b → b ≠ g ∧ ¬ inA A b ∧ ¬ S b) : WA S w1 g A c M h s r :=
  ⟨a.1.only ho (fun ht => (h1 g ht).1 rfl), a.2.1.only ho (fun b hb => (h1 b hb).2.1) (fun b hb => (h1 b hb).2.2), a.2.2⟩
theorem Grew.refl (w : World) (g : Nat) (A : Option Addr) : Grew w g A w A := ⟨Only.refl _ _, fun b hb => .inl hb⟩
theorem Grew.trans (a : Grew w g A w1 A1) (b : Grew w1 g A1 w2 A2) : Grew w g A w2 A2 := by
  have h1 := a.1.size
  have h2 := b.1.size
  refine ⟨a.1.trans b.1 (fun i hi hb => ?_), fun i hi => ?_⟩
  · rcases hb with hb | hb
    · exact .inl hb
    · rcases a.2 i hb with h3 | h3
      · exact .inr h3
      · omega
  · rcases b.2 i hi with h3 | h3
    · rcases a.2 i h3 with h4 | h4
      · exact .inl h4
      · exact .inr ⟨h4.1, by omega⟩
    · exact .inr ⟨by omega, h3.2⟩
theorem Grew.ext (a : Grew w g A w1 A1) (hb : Below w1.heap.size w1 w2) : Grew w g A w2 A1 := ⟨a.1.trans (Only.of_ext (S := fun b => b = g ∨ inA A b) hb) (fun _ _ h => h), fun b h => (a.2 b h).imp id (fun h => ⟨h.1, Nat.lt_of_lt_of_le h.2 hb.size⟩)⟩
theorem Grew.from_ (hb : Below w.heap.size w w1) (a : Grew w1 g A w2 A2) : Grew w g A w2 A2 := ((Grew.refl w g A).ext hb).trans a
/-- what lies apart from the walk stays -/
theorem Grew.blk (a : Grew w g A w1 A1) {b : Nat} {t : TypeId} {cs : Array Value} (hb : Blk w b t cs) (h1 : b ≠ g) (h2 : ¬ inA A b) : Blk w1 b t cs := hb.only a.1 (fun h => h.elim h1 h2)
theorem Grew.re (a : Grew w g A w1 A1) (hA : ∀ b, inA A b → g < b) {x : Ex} {cs : List Value} (hx : ReR (fun b => b < g) w x cs) : ReR (fun b => b < g) w1 x cs :=
  hx.only a.1 (fun b hb h => h.elim (fun e => by omega) (fun e => by have := hA b e; omega))
end
/-- what lay leaves -/
def LayP (S : Nat → Prop) (w : World) (g : Nat) (A : Option Addr) (M : List Pl) (h s r : Value) (n : Nat) (P : List Nat → Prop) (behind : Nat) (e : Ending) (w' : World) : Prop :=
  ∃ (p : Nat) (A' : Option Addr) (c' : Nat) (N : List Pl), e = .returned (.int .i64 (p : Int)) ∧ WA (fun b => S b ∨ w.heap.size ≤ b) w' g A' c' (M ++ N) h s r ∧ Grew w g A w' A' ∧ N.length ≤ n ∧ LayOk M.length N P p behind
/-- lay's contract, of one expression -/
def LayC (Q : Nat) (x : Ex) : Prop := ∀ (S : Nat → Prop) (w : World) (g : Nat) (A : Option Addr) (c : Nat) (M : List Pl) (h s r : Value) (cs : List Value) (behind deep : Nat), WA S w g A c M h s r → ReR (fun b => b < g) w x cs → behind < M.length → M.length + plE x ≤ Q → oneE deep x = true →
  Calls Tryd.prog 41 #[.pointer (some ⟨g, 0, none⟩), reV cs, .int .i64 (behind : Int)] w (LayP S w g A M h s r (plE x) (inE x) behind)

set_option maxHeartbeats 8000000 in
theorem laycopies_of (Q : Nat) (x : Ex) (hx : LayC Q x) (S : Nat → Prop) (w : World) (g : Nat) (A : Option Addr) (c : Nat) (M : List Pl) (h s r : Value) (cs : List Value) (n behind deep : Nat) (hW : WA S w g A c M h s r) (hr : ReR (fun b => b < g) w x cs) (hb : behind < M.length) (hn : n ≤ 32) (hp : M.length + n * plE x ≤ Q) (ho : oneE deep x = true) :
    Calls Tryd.prog 54 #[.pointer (some ⟨g, 0, none⟩), reV cs, .int .i64 (n : Int), .int .i64 (behind : Int)] w (LayP S w g A M h s r (n * plE x) (powL (inE x) n) behind) := by
  obtain ⟨k, q0, q1, q2, q3, ks, B, d, lo, hi, hxe, rfl, h1, h2, -, -, -, -, -⟩ := hr.fields
  have hgl := hW.lt
  have hni : (n : Int) ≤ 32 := by omega
  obtain ⟨w1, hw1⟩ : ∃ w1, w1 = w.alloc (Obj.cells #[.int .i64 k, .int .u64 (q0 : Int), .int .u64 (q1 : Int), .int .u64 (q2 : Int), .int .u64 (q3 : Int), .slice B ks.length d, .int .i64 lo, .int .i64 hi] 27) := ⟨_, rfl⟩
  have hb1 : Below w.heap.size w w1 := by rw [hw1]; exact (Below.refl _ _).alloc (Nat.le_refl _) _
  have hs1 : w1.heap.size = w.heap.size + 1 := by rw [hw1]; simp
  have HB1 : Hid (Blk w1 w.heap.size 27 #[.int .i64 k, .int .u64 (q0 : Int), .int .u64 (q1 : Int), .int .u64 (q2 : Int), .int .u64 (q3 : Int), .slice B ks.length d, .int .i64 lo, .int .i64 hi]) := Lib.hid (by rw [hw1]; exact Blk.new w _ _)
  have HlA := Lib.hid hW.ltA
  have HgA := Lib.hid hW.2.2.1
  have HW1 : Hid (WA (fun b => (S b ∧ b < w.heap.size) ∨ w1.heap.size ≤ b) w1 g A c (M ++ []) h s r) := Lib.hid (by
    rw [List.append_nil]
    have a := hW.mono (T := fun b => S b ∧ b < w.heap.size) (fun b hb hl => ⟨hb, hl⟩) (fun b hb => hW.2.2.2 b hb.1)
    exact (a.ext hb1).mono (fun b hb _ => .inl hb) (fun b hb => hb.elim (fun h => hW.2.2.2 b h.1) (fun h => by omega)))
  have Hr1 := Lib.hid (hr.ext hb1)
  have Hb1 := Lib.hid hb1
  have Hw1 := Lib.hid hw1
  have Hs1 := Lib.hid hs1
  have Hx := Lib.hid hx
  have Hp := Lib.hid hp
  have HL0 : Hid (LayOk M.length [] (powL (inE x) 0) behind behind) := Lib.hid (LayOk.refl hb)
  clear hW hb1 hw1 hs1 hx hxe hr hp hb
  show Calls Tryd.prog 54 #[.pointer (some ⟨g, 0, none⟩), .agg #[.int .i64 k, .int .u64 (q0 : Int), .int .u64 (q1 : Int), .int .u64 (q2 : Int), .int .u64 (q3 : Int), .slice B ks.length d, .int .i64 lo, .int .i64 hi], .int .i64 (n : Int), .int .i64 (behind : Int)] w _
  go_enter Tryd.func54, Tryd.ntmps54
  go_wp2
  rw [← Hw1.out]
  go_loopw [3, 10] (fun pv iv wr => ∃ (i p : Nat) (A1 : Option Addr) (c1 : Nat) (N : List Pl), pv = .int .i64 (p : Int) ∧ iv = .int .i64 (i : Int) ∧ i ≤ n ∧ Hid (WA (fun b => (S b ∧ b < w.heap.size) ∨ w1.heap.size ≤ b) wr g A1 c1 (M ++ N) h s r) ∧ Hid (Grew w1 g A wr A1) ∧ Hid (N.length ≤ i * plE x) ∧ Hid (LayOk M.length N (powL (inE x) i) p behind)) (fun _ iv _ => n - (intOf iv).toNat)
  case atStart => exact ⟨0, behind, A, c, [], rfl, rfl, by omega, HW1, Lib.hid (Grew.refl _ _ _), Lib.hid (by simp), HL0⟩
  case round =>
    clear HW1 HL0
    obtain ⟨i, p, A1, c1, N, rfl, rfl, hi, HW, HG, HN, HL⟩ := hrel
    have Hs : Hid (w1.heap.size ≤ wr.heap.size) := Lib.hid HG.out.1.size
    have hbx := HG.out.blk HB1.out (by omega) (fun hin => by have := HlA.out _ hin; omega)
    by_cases hlt : i < n
    · have hii : (i : Int) < (n : Int) := by omega
      have hp1 : (M ++ N).length + plE x ≤ Q := by
        have a1 := HN.out
        have a2 := Hp.out
        have a3 : (i + 1) * plE x ≤ n * plE x := Nat.mul_le_mul_right _ hlt
        rw [Nat.add_mul, Nat.one_mul] at a3
        rw [List.length_append]
        omega
      have hpl : p < (M ++ N).length := by have := HL.out.lt; rw [List.length_append]; exact this
      have HC := Lib.hid (Hx.out _ wr g A1 c1 (M ++ N) h s r _ p deep HW.out (HG.out.re HgA.out Hr1.out) hpl hp1 ho)
      have c0 := hbx.cell 0
      have c1' := hbx.cell 1
      have c2 := hbx.cell 2
      have c3 := hbx.cell 3
      have c4 := hbx.cell 4
      have c5 := hbx.cell 5
      have c6 := hbx.cell 6
      have c7 := hbx.cell 7
      clear hp1 hpl hbx
      go_wp2_with fail
      refine HC.out.mono ?_
      rintro e w3 ⟨p2, A2, c2', N2, rfl, hW2, hG2, hN2, hL2⟩
      have HW2 : Hid (WA (fun b => (S b ∧ b < w.heap.size) ∨ w1.heap.size ≤ b) w3 g A2 c2' (M ++ (N ++ N2)) h s r) := Lib.hid (by
        rw [← List.append_assoc]
        exact hW2.mono (fun b hb _ => hb.elim id (fun h => .inr (Nat.le_trans Hs.out h))) (fun b hb => hb.elim (fun h => HW.out.2.2.2 b (.inl h)) (fun h => HW.out.2.2.2 b (.inr h))))
      have HG2 := Lib.hid (HG.out.trans hG2)
      have HN2 : Hid ((N ++ N2).length ≤ (i + 1) * plE x) := Lib.hid (by rw [List.length_append, Nat.add_mul, Nat.one_mul]; have := HN.out; omega)
      have HL2 : Hid (LayOk M.length (N ++ N2) (powL (inE x) (i + 1)) p2 behind) := Lib.hid (by
        rw [List.length_append] at hL2
        exact HL.out.then hL2)
      clear hW2 hG2 hN2 hL2 HC c0 c1' c2 c3 c4 c5 c6 c7
      go_wp2
      go_roundw
      case rel => exact ⟨i + 1, p2, A2, c2', N ++ N2, rfl, by simp, by omega, HW2, HG2, HN2, HL2⟩
      case measure => simp [intOf]; omega
    · obtain rfl : i = n := by omega
      clear hbx hlt
      go_wp2
      go_ret
      exact ⟨p, A1, c1, N, rfl, HW.out.mono (fun b hb hl => hb.elim (fun h => .inl h.1) (fun h => .inr (by have := Hs1.out; omega))) (fun b hb => hb.elim (fun h => by
        by_cases hl : b < w.heap.size
        · exact HW.out.2.2.2 b (.inl ⟨h, hl⟩)
        · omega) (fun h => by omega)), Grew.from_ Hb1.out HG.out, HN.out, HL.out⟩
end Go.Proofs.YtlddmjhpemihgaaDoor

/-
  A place's next, written; numbers of places that were laid at once. No statement of the seat is proved here.
-/
namespace Go.Proofs.YtlddmjhpemihgaaDoor
open Go Go.RowKit
set_option maxRecDepth 100000
theorem RowO.putJ {w : World} {e : TypeId} {sz g off m c : Nat} {xs : List Value} (h : RowO w e sz (some ⟨g, off, none⟩) m c xs) {j : Nat} (hj : j < m * sz) (v : Value) : RowO (w.setCell ⟨g, off + j, none⟩ v) e sz (some ⟨g, off, none⟩) m c (xs.set j v) := by
  have hl := h.1
  refine ⟨by rw [List.length_set]; exact h.1, ?_⟩
  rcases h.2 with ⟨h1, _, _⟩ | ⟨g', off', cs, h1, h2, h3, hb, h5, h6⟩
  · cases h1
  · injection h1 with h1
    injection h1 with h1 h1' _
    subst h1 h1'
    have hle : m * sz ≤ c * sz := Nat.mul_le_mul_right _ h2
    refine .inr ⟨g, off, _, rfl, h2, h3, hb.put (off + j) v, by simpa using h5, fun i u hu => ?_⟩
    rw [List.getElem?_set] at hu
    rw [Array.getElem?_setIfInBounds]
    by_cases hij : j = i
    · subst hij
      rw [if_pos rfl] at hu
      split at hu
      · rw [if_pos rfl, if_pos (by omega)]; exact hu
      · cases hu
    · rw [if_neg hij] at hu
      rw [if_neg (by omega)]
      exact h6 i u hu
/-- the place of which 'next' is told anew -/
def Pl.setNext (p : Pl) (l : List Nat) : Pl := ⟨p.open_, p.set, l⟩
theorem RowP.setNext {S : Nat → Prop} {w : World} {g o m c : Nat} {M : List Pl} (h : RowP S w (some ⟨g, o, none⟩) m c M) {k : Nat} (hk : k < M.length) {B : Option Addr} {l : List Nat} {d : Nat} (hl : l.length ≤ d) (hd : d ≤ maxLen) (hi : IntsAt (fun b => S b ∧ ¬ inA (some ⟨g, o, none⟩) b) w B l) :
    RowP S (w.setCell ⟨g, o + (k * 6 + 5), none⟩ (.slice B l.length d)) (some ⟨g, o, none⟩) m c (M.set k ((M[k]).setNext l)) := by
  obtain ⟨xs, h1, h2, h3⟩ := h
  have hj : k * 6 + 5 < m * 6 := by omega
  have hxl := h1.1
  have hkeep : ∀ b, (S b ∧ ¬ inA (some ⟨g, o, none⟩) b) → b < w.heap.size → (w.setCell ⟨g, o + (k * 6 + 5), none⟩ (.slice B l.length d)).heap[b]? = w.heap[b]? := fun b hb _ => Below.heap_setCell w _ _ b (fun e => hb.2 ((inA_some _ _ _ _).2 (by exact e.symm)))
  refine ⟨xs.set (k * 6 + 5) (.slice B l.length d), h1.putJ hj _, by rw [List.length_set]; exact h2, fun i hi' => ?_⟩
  rw [List.length_set] at hi'
  rw [List.getElem_set]
  by_cases hik : k = i
  · subst hik
    rw [if_pos rfl]
    obtain ⟨a0, a1, a2, a3, B', d', e1, e2, e3, e4, e5, e6⟩ := h3 k hk
    refine ⟨a0, a1, a2, a3, B, d, e1, e2, hl, hd, ?_, hi.keep hkeep (fun b hb _ => hb)⟩
    apply List.ext_getElem?
    intro j
    have e5j := congrArg (fun q : List Value => q[j]?) e5
    simp only [List.getElem?_take, List.getElem?_drop] at e5j ⊢
    rw [List.getElem?_set]
    by_cases hj6 : j < 6
    · rw [if_pos hj6] at e5j ⊢
      match j, hj6 with
      | 0, _ => rw [if_neg (by omega), e5j]; rfl
      | 1, _ => rw [if_neg (by omega), e5j]; rfl
      | 2, _ => rw [if_neg (by omega), e5j]; rfl
      | 3, _ => rw [if_neg (by omega), e5j]; rfl
      | 4, _ => rw [if_neg (by omega), e5j]; rfl
      | 5, _ => rw [if_pos rfl, if_pos (by omega)]; rfl
    · rw [if_neg hj6]
      match j, hj6 with
      | 0, h => omega
      | 1, h => omega
      | 2, h => omega
      | 3, h => omega
      | 4, h => omega
      | 5, h => omega
      | j + 6, _ => rfl
  · rw [if_neg hik]
    have e : ((xs.set (k * 6 + 5) (.slice B l.length d)).drop (i * 6)).take 6 = (xs.drop (i * 6)).take 6 := by
      apply List.ext_getElem?
      intro j
      simp only [List.getElem?_take, List.getElem?_drop]
      by_cases hj6 : j < 6
      · rw [if_pos hj6, if_pos hj6, List.getElem?_set, if_neg (by omega)]
      · rw [if_neg hj6, if_neg hj6]
    rw [e]
    exact (h3 i hi').keep hkeep (fun b hb _ => hb)
theorem ints_two {S : Nat → Prop} {w' : World} {t : TypeId} {b p q : Nat} (hB : Blk w' b t #[.int .i64 (p : Int), .int .i64 (q : Int)]) (hS : S b) : IntsAt S w' (some ⟨b, 0, none⟩) [p, q] :=
  .inr ⟨b, 0, rfl, hS, fun j hj => by
    have hj2 : j < 2 := hj
    match j, hj2 with
    | 0, _ => exact hB.cell 0
    | 1, _ => exact hB.cell 1⟩
theorem ints_one {S : Nat → Prop} {w' : World} {t : TypeId} {b p : Nat} (hB : Blk w' b t #[.int .i64 (p : Int)]) (hS : S b) : IntsAt S w' (some ⟨b, 0, none⟩) [p] :=
  .inr ⟨b, 0, rfl, hS, fun j hj => by
    have hj2 : j < 1 := hj
    match j, hj2 with
    | 0, _ => exact hB.cell 0⟩
/-- an open place as cells -/
theorem plAt_open {S : Nat → Prop} {w : World} {B : Option Addr} {l : List Nat} {d : Nat} (hl : l.length ≤ d) (hd : d ≤ maxLen) (h : IntsAt S w B l) : PlAt S w ⟨true, zeroB, l⟩ [.bool true, .int .u64 0, .int .u64 0, .int .u64 0, .int .u64 0, .slice B l.length d] :=
  ⟨0, 0, 0, 0, B, d, rfl, zero_ok, hl, hd, rfl, h⟩
theorem plAt_set {S : Nat → Prop} {w : World} {B : Option Addr} {l : List Nat} {d a0 a1 a2 a3 : Nat} (hs : SetOk [a0, a1, a2, a3]) (hl : l.length ≤ d) (hd : d ≤ maxLen) (h : IntsAt S w B l) : PlAt S w ⟨false, [a0, a1, a2, a3], l⟩ [.bool false, .int .u64 (a0 : Int), .int .u64 (a1 : Int), .int .u64 (a2 : Int), .int .u64 (a3 : Int), .slice B l.length d] :=
  ⟨a0, a1, a2, a3, B, d, rfl, hs, hl, hd, rfl, h⟩
/-- add, in a walk's words -/
theorem add_wa {S : Nat → Prop} {w : World} {g : Nat} {A : Option Addr} {c : Nat} {M : List Pl} {h s r : Value} (hW : WA S w g A c M h s r) (p : Pl) (cs : List Value) (hp : PlAt (fun b => S b ∧ ¬ inA A b) w p cs) (hm : M.length ≤ 1000000000) :
    Calls Tryd.prog 40 #[.pointer (some ⟨g, 0, none⟩), .agg cs.toArray] w fun e w' => e = .returned (.int .i64 (M.length : Int)) ∧ ∃ A' c', WA S w' g A' c' (M ++ [p]) h s r ∧ Grew w g A w' A' := by
  have hgl := hW.lt
  refine (add_any S w g A M.length c M h s r p cs hW.1 hW.2.1 (fun b hb => by have := hW.2.2.1 b hb; omega) hW.2.2.2 hp hm).mono ?_
  rintro e w' ⟨he, A', c', h1, h2, h3, h4⟩
  have hl : (M ++ [p]).length = M.length + 1 := by simp
  refine ⟨he, A', c', ⟨by rw [hl]; exact h1, by rw [hl]; exact h2, fun b hb => (h4 b hb).elim (hW.2.2.1 b) (fun h => by omega), hW.2.2.2⟩, ⟨h3, h4⟩⟩
end Go.Proofs.YtlddmjhpemihgaaDoor

/-
  The contract of the program's repeat, where that of lay is known of the kid. No statement of the seat is proved here.
-/
namespace Go.Proofs.YtlddmjhpemihgaaDoor
open Go Go.RowKit
set_option maxRecDepth 100000
theorem rep_texts {x : Ex} {nl a : Nat} {hi : Int} (hh : hi ≠ -1) (ha : hi = (nl : Int) + (a : Int)) (u : List Nat) : (∃ y z, u = y ++ z ∧ powL (inE x) nl y ∧ upTo (inE x) 0 a z) ↔ inRep (nl : Int) hi [x] u := by
  simp only [inRep, upTo]
  constructor
  · rintro ⟨y, z, rfl, hy, m, _, hm, hz⟩
    exact ⟨nl + m, by omega, .inr (by omega), (powL_add _ _ _ _).2 ⟨y, z, rfl, hy, hz⟩⟩
  · rintro ⟨n, h1, h2, h3⟩
    have h2' : (n : Int) ≤ hi := h2.elim (fun h => absurd h hh) id
    obtain ⟨m, rfl⟩ : ∃ m, n = nl + m := ⟨n - nl, by omega⟩
    obtain ⟨y, z, rfl, hy, hz⟩ := (powL_add _ _ _ _).1 h3
    exact ⟨y, z, rfl, hy, m, Nat.zero_le _, by omega, hz⟩
theorem upTo_opt {P : List Nat → Prop} {i : Nat} (u : List Nat) : (u = [] ∨ ∃ x y, u = x ++ y ∧ P x ∧ upTo P 0 i y) ↔ upTo P 0 (i + 1) u := by
  unfold upTo
  constructor
  · rintro (rfl | ⟨x, y, rfl, hx, m, h1, h2, h3⟩)
    · exact ⟨0, Nat.le_refl _, Nat.zero_le _, rfl⟩
    · exact ⟨m + 1, Nat.zero_le _, by omega, x, y, rfl, hx, h3⟩
  · rintro ⟨m, _, h2, h3⟩
    match m, h2, h3 with
    | 0, _, h3 => exact .inl h3
    | m + 1, h2, ⟨x, y, e, hx, hy⟩ => exact .inr ⟨x, y, e, hx, m, Nat.zero_le _, by omega, hy⟩
theorem upTo_zero {P : List Nat → Prop} (u : List Nat) : u = [] ↔ upTo P 0 0 u := by
  unfold upTo
  constructor
  · intro h; exact ⟨0, Nat.le_refl _, Nat.le_refl _, h⟩
  · rintro ⟨m, _, h2, h3⟩
    obtain rfl : m = 0 := by omega
    exact h3
theorem star_texts {x : Ex} (u : List Nat) : (∃ n, powL (inE x) n u) ↔ inRep 0 (-1) [x] u := by
  simp only [inRep]
  constructor
  · rintro ⟨n, h⟩; exact ⟨n, by omega, .inl (by trivial), h⟩
  · rintro ⟨n, _, _, h⟩; exact ⟨n, h⟩
theorem plus_texts {x : Ex} (k : Nat) (u : List Nat) : (∃ y z, u = y ++ z ∧ powL (inE x) k y ∧ ∃ v t, z = v ++ t ∧ inE x v ∧ ∃ n, powL (inE x) n t) ↔ inRep ((k + 1 : Nat) : Int) (-1) [x] u := by
  simp only [inRep]
  constructor
  · rintro ⟨y, z, rfl, hy, v, t, rfl, hv, n, ht⟩
    refine ⟨k + (n + 1), by omega, .inl (by trivial), (powL_add _ _ _ _).2 ⟨y, v ++ t, rfl, hy, v, t, rfl, hv, ht⟩⟩
  · rintro ⟨n, h1, _, h3⟩
    obtain ⟨m, rfl⟩ : ∃ m, n = k + (m + 1) := ⟨n - k - 1, by omega⟩
    obtain ⟨y, z, rfl, hy, v, t, rfl, hv, ht⟩ := (powL_add _ _ _ _).1 h3
    exact ⟨y, v ++ t, rfl, hy, v, t, rfl, hv, m, ht⟩

theorem plR_ge (nl : Nat) (x : Ex) : plE x + 1 ≤ plR (nl : Int) (-1) [x] := by
  simp only [plR, if_true]
  split
  · exact Nat.le_refl _
  · rename_i h
    have : 1 * plE x ≤ (nl : Int).toNat * plE x := Nat.mul_le_mul_right _ (by omega)
    omega

set_option maxHeartbeats 16000000 in
theorem repeat_of (Q : Nat) (hQ : Q ≤ 1000000000) (x : Ex) (hx : LayC Q x) (S : Nat → Prop) (w : World) (g : Nat) (A : Option Addr) (c : Nat) (M : List Pl) (h s r : Value) (cs : List Value) (behind deep : Nat) (ws : List Nat) (lo hi : Int) (hW : WA S w g A c M h s r) (hr : ReR (fun b => b < g) w (.mk 4 ws [x] lo hi) cs) (hb : behind < M.length) (hrep : repB lo hi = true) (hp : M.length + plR lo hi [x] ≤ Q) (ho : oneE deep x = true) :
    Calls Tryd.prog 47 #[.pointer (some ⟨g, 0, none⟩), reV cs, .int .i64 (behind : Int)] w (LayP S w g A M h s r (plR lo hi [x]) (inRep lo hi [x]) behind) := by
  have hgl := hW.lt
  obtain ⟨k, q0, q1, q2, q3, ks, B, d, lo', hi', e, rfl, h1, h2, -, -, -, -, h3⟩ := hr.fields
  injection e with e1 e2 e3 e4 e5
  subst e1 e3 e4 e5
  obtain ⟨kb, ko, k', r0, r1, r2, r3, ks', B', d', lo2, hi2, rfl, -, hrk, x0, x1, x2, x3, x4, x5, x6, x7, hkb⟩ := h3.kidX (k := 0) (by simp)
  rw [Nat.zero_mul, Nat.add_zero] at x0 x1 x2 x3 x4 x5 x6 x7
  have hrk : ReR (fun b => b < g) w x [.int .i64 k', .int .u64 (r0 : Int), .int .u64 (r1 : Int), .int .u64 (r2 : Int), .int .u64 (r3 : Int), .slice B' ks'.length d', .int .i64 lo2, .int .i64 hi2] := hrk
  simp only [repB, Bool.and_eq_true, Bool.or_eq_true, decide_eq_true_eq] at hrep
  obtain ⟨nl, rfl⟩ : ∃ nl : Nat, lo = (nl : Int) := ⟨lo.toNat, by omega⟩
  have hnl : nl ≤ 32 := by omega
  have hnli : (nl : Int) ≤ 32 := by omega
  have h1' : 1 ≤ d := h1
  have h2' : d ≤ maxLen := h2
  unfold maxLen at h2'
  have hba : Below w.heap.size w (w.alloc (Obj.cells #[.int .i64 4, .int .u64 (q0 : Int), .int .u64 (q1 : Int), .int .u64 (q2 : Int), .int .u64 (q3 : Int), .slice (some ⟨kb, ko, none⟩) 1 d, .int .i64 (nl : Int), .int .i64 hi] 27)) := (Below.refl _ _).alloc (Nat.le_refl _) _
  have f := fun (ad : Addr) (v : Value) (h : w.cell? ad = some v) => (World.cell?_of_block (a := ad) (hba.block _ (World.block_lt_of_cell? w ad h))).trans h
  have y0 := f _ _ x0
  have y1 := f _ _ x1
  have y2 := f _ _ x2
  have y3 := f _ _ x3
  have y4 := f _ _ x4
  have y5 := f _ _ x5
  have y6 := f _ _ x6
  have y7 := f _ _ x7
  have hD := Blk.new (w.alloc (Obj.cells #[.int .i64 4, .int .u64 (q0 : Int), .int .u64 (q1 : Int), .int .u64 (q2 : Int), .int .u64 (q3 : Int), .slice (some ⟨kb, ko, none⟩) 1 d, .int .i64 (nl : Int), .int .i64 hi] 27)) 27 #[.int .i64 0, .int .u64 0, .int .u64 0, .int .u64 0, .int .u64 0, .slice none 0 0, .int .i64 0, .int .i64 0]
  rw [World.size_alloc] at hD
  have HV := Lib.hid ((Blk.new w 27 #[.int .i64 4, .int .u64 (q0 : Int), .int .u64 (q1 : Int), .int .u64 (q2 : Int), .int .u64 (q3 : Int), .slice (some ⟨kb, ko, none⟩) 1 d, .int .i64 (nl : Int), .int .i64 hi]).alloc (Obj.cells #[.int .i64 0, .int .u64 0, .int .u64 0, .int .u64 0, .int .u64 0, .slice none 0 0, .int .i64 0, .int .i64 0] 27))
  have hone : (#[.int .i64 k', .int .u64 (r0 : Int), .int .u64 (r1 : Int), .int .u64 (r2 : Int), .int .u64 (r3 : Int), .slice B' ks'.length d', .int .i64 lo2, .int .i64 hi2] : Array Value).all (·.oneCell') = true := by simp [Value.oneCell']
  have HlA := Lib.hid hW.ltA
  have HgA := Lib.hid hW.2.2.1
  have HSg := Lib.hid hW.2.2.2
  have Hrk := Lib.hid hrk
  have HW := Lib.hid hW
  have Hx := Lib.hid hx
  have Hp := Lib.hid hp
  have Hb := Lib.hid hb
  have Hrep := Lib.hid hrep
  have HSf : Hid (∀ b, (S b ∨ w.heap.size ≤ b) → b ≠ g) := Lib.hid (fun b hb => hb.elim (fun h => HSg.out b h) (fun h => by omega))
  clear hW hx hp hb hrep hr h1 h2 h3 hrk f hba x0 x1 x2 x3 x4 x5 x6 x7 e2
  show Calls Tryd.prog 47 #[.pointer (some ⟨g, 0, none⟩), .agg #[.int .i64 4, .int .u64 (q0 : Int), .int .u64 (q1 : Int), .int .u64 (q2 : Int), .int .u64 (q3 : Int), .slice (some ⟨kb, ko, none⟩) 1 d, .int .i64 (nl : Int), .int .i64 hi], .int .i64 (behind : Int)] w _
  by_cases hh : hi = -1
  · subst hh
    go_enter Tryd.func47, Tryd.ntmps47
    go_wp2_with (refine wpList_store_re rfl _ _ rfl (w.heap.size + 1) rfl rfl rfl rfl hone hD ?_; intro w1 hB1 ho1; have hV1 := HV.out.only ho1 (by omega); have v7 := hV1.cell 7)
    have hs1 := ho1.size
    have Hk7 : Hid (w.heap.size + 1 < w1.heap.size) := Lib.hid hB1.lt
    have hb02 : Below w.heap.size w ((w.alloc (Obj.cells #[.int .i64 4, .int .u64 (q0 : Int), .int .u64 (q1 : Int), .int .u64 (q2 : Int), .int .u64 (q3 : Int), .slice (some ⟨kb, ko, none⟩) 1 d, .int .i64 (nl : Int), .int .i64 (-1)] 27)).alloc (Obj.cells #[.int .i64 0, .int .u64 0, .int .u64 0, .int .u64 0, .int .u64 0, .slice none 0 0, .int .i64 0, .int .i64 0] 27)) := ext2 w _ _
    have Hb01 : Hid (Below w.heap.size w w1) := Lib.hid (hb02.trans (ho1.below (fun i hi => by omega) (by simp; omega)))
    have HW1 : Hid (WA (fun b => (S b ∧ b < w.heap.size) ∨ w1.heap.size ≤ b) w1 g A c M h s r) := Lib.hid (by
      have a := HW.out.mono (T := fun b => S b ∧ b < w.heap.size) (fun b hb hl => ⟨hb, hl⟩) (fun b hb => HSg.out b hb.1)
      exact (((a.ext hb02).only ho1 (fun b hb => ⟨by omega, fun hin => by have := HlA.out _ hin; omega, fun h => by omega⟩)).mono (fun b hb _ => .inl hb) (fun b hb => hb.elim (fun h => HSg.out b h.1) (fun h => by have := Hb01.out.size; omega))))
    have HS0 : Hid (∀ b, ((fun b => (S b ∧ b < w.heap.size) ∨ w1.heap.size ≤ b)) b → b ≠ g) := Lib.hid HW1.out.2.2.2
    have HK1 := Lib.hid hB1
    have HV1 := Lib.hid hV1
    have Hr1 := Lib.hid ((Hrk.out.ext hb02).only ho1 (fun b hb h => by omega))
    have Hs1 : Hid (w.heap.size ≤ w1.heap.size) := Lib.hid Hb01.out.size
    clear hs1 hb02 hB1 hV1 ho1
    clear v7 y0 y1 y2 y3 y4 y5 y6 y7 hD hone
    refine (add_wa HW1.out ⟨true, zeroB, []⟩ [.bool true, .int .u64 0, .int .u64 0, .int .u64 0, .int .u64 0, .slice none 0 0] (plAt_open (Nat.le_refl _) (by simp [maxLen]) (.inl rfl)) (by have := Hp.out; omega)).mono ?_
    rintro e w2 ⟨rfl, A2, c2, hW2, hG2⟩
    have HW2 := Lib.hid hW2
    have HG2 := Lib.hid hG2
    have Hs2 : Hid (w1.heap.size ≤ w2.heap.size) := Lib.hid hG2.1.size
    have HK2 := Lib.hid (hG2.blk HK1.out (by omega) (fun hin => by have := HlA.out _ hin; omega))
    have HV2 := Lib.hid (hG2.blk HV1.out (by omega) (fun hin => by have := HlA.out _ hin; omega))
    have Hr2 := Lib.hid (hG2.re HgA.out Hr1.out)
    have HC := Lib.hid (Hx.out _ w2 g A2 c2 (M ++ [⟨true, zeroB, []⟩]) h s r _ M.length deep hW2 Hr2.out (by simp) (by have := Hp.out; have := plR_ge nl x; rw [List.length_append, List.length_singleton]; omega) ho)
    clear hW2 hG2
    have cc0 := HK2.out.cell 0
    have cc1 := HK2.out.cell 1
    have cc2 := HK2.out.cell 2
    have cc3 := HK2.out.cell 3
    have cc4 := HK2.out.cell 4
    have cc5 := HK2.out.cell 5
    have cc6 := HK2.out.cell 6
    have cc7 := HK2.out.cell 7
    go_wp2_with fail
    refine HC.out.mono ?_
    rintro e w3 ⟨p3, A3, c3', N3, rfl, hW3, hG3, hN3, hL3⟩
    have HW3 : Hid (WA (fun b => (S b ∧ b < w.heap.size) ∨ w1.heap.size ≤ b) w3 g A3 c3' (M ++ [⟨true, zeroB, []⟩] ++ N3) h s r) := Lib.hid (hW3.mono (fun b hb _ => hb.elim id (fun h => .inr (Nat.le_trans Hs2.out h))) HS0.out)
    have HG3 := Lib.hid hG3
    have Hs3 : Hid (w2.heap.size ≤ w3.heap.size) := Lib.hid hG3.1.size
    have HlA2 := Lib.hid HW2.out.ltA
    have hne7 : ∀ b, w.heap.size ≤ b → b < w1.heap.size → ¬ inA A2 b := fun b h1 h2 hin => (HG2.out.2 b hin).elim (fun h => by have := HlA.out b h; omega) (fun h => by omega)
    have HK3 := Lib.hid (hG3.blk HK2.out (by omega) (hne7 _ (by omega) Hk7.out))
    have HV3 := Lib.hid (hG3.blk HV2.out (by omega) (hne7 _ (Nat.le_refl _) (by have := Hk7.out; omega)))
    have Hr3 := Lib.hid (hG3.re HW2.out.2.2.1 Hr2.out)
    have HN3 := Lib.hid hN3
    have HL3 := Lib.hid hL3
    clear hW3 hG3 hN3 hL3 HC cc0 cc1 cc2 cc3 cc4 cc5 cc6 cc7 hne7
    have hat := HW3.out.2.1.at_ (k := M.length) (by first | (simp; done) | (simp; omega))
    obtain ⟨gA, oA, a0, a1, a2, a3, BB, dd, rfl, -, -, -, -, -, -, -, -, -, -, z5, z6⟩ := hat
    have hW4 := HW3.out.ext ((Below.refl w3.heap.size w3).alloc (Nat.le_refl _) (Obj.cells #[.int .i64 (p3 : Int), .int .i64 (behind : Int)] 3))
    obtain ⟨w4, hw4⟩ : ∃ w4, w4 = w3.alloc (Obj.cells #[.int .i64 (p3 : Int), .int .i64 (behind : Int)] 3) := ⟨_, rfl⟩
    rw [← hw4] at hW4
    have hb34 : Below w3.heap.size w3 w4 := by rw [hw4]; exact (Below.refl _ _).alloc (Nat.le_refl _) _
    have hL4 : Blk w4 w3.heap.size 3 #[.int .i64 (p3 : Int), .int .i64 (behind : Int)] := by rw [hw4]; exact Blk.new w3 _ _
    have hlA3 : ∀ b, inA (some ⟨gA, oA, none⟩) b → b < w3.heap.size := HW3.out.ltA
    have hgA3 := HW3.out.2.2.1 gA ((inA_some _ _ _ _).2 rfl)
    have hgA3l := hlA3 gA ((inA_some _ _ _ _).2 rfl)
    have x0 : w3.cell? ⟨g, 0, none⟩ = some (.slice (some ⟨gA, oA, none⟩) (M ++ [(⟨true, zeroB, []⟩ : Pl)] ++ N3).length c3') := HW3.out.1.cell 0
    have hlen : (M ++ [(⟨true, zeroB, []⟩ : Pl)] ++ N3).length = M.length + 1 + N3.length := by rw [List.length_append, List.length_append, List.length_singleton]
    have hset := hW4.2.1.setNext (k := M.length) (by rw [hlen]; omega) (B := some ⟨w3.heap.size, 0, none⟩) (l := [p3, behind]) (d := 2) (Nat.le_refl _) (by simp [maxLen]) (ints_two (S := fun b => ((fun b => (S b ∧ b < w.heap.size) ∨ w1.heap.size ≤ b)) b ∧ ¬ inA (some ⟨gA, oA, none⟩) b) hL4 ⟨.inr (by have := Hs2.out; have := Hs3.out; omega), fun hin => by have := hlA3 _ hin; omega⟩)
    have hMset : (M ++ [(⟨true, zeroB, []⟩ : Pl)] ++ N3).set M.length (Pl.setNext ((M ++ [(⟨true, zeroB, []⟩ : Pl)] ++ N3)[M.length]'(by rw [hlen]; omega)) [p3, behind]) = M ++ (⟨true, zeroB, [p3, behind]⟩ :: N3) := by
      have e1 : (M ++ [(⟨true, zeroB, []⟩ : Pl)] ++ N3)[M.length]'(by rw [hlen]; omega) = ⟨true, zeroB, []⟩ := by simp
      rw [e1]
      rw [List.append_assoc, List.set_append_right _ _ (Nat.le_refl _)]
      simp [Pl.setNext]
    rw [hMset] at hset
    obtain ⟨w5, hw5⟩ : ∃ w5, w5 = w4.setCell ⟨gA, oA + (M.length * 6 + 5), none⟩ (.slice (some ⟨w3.heap.size, 0, none⟩) 2 2) := ⟨_, rfl⟩
    have hO5 : Only (fun b => b = gA) w4 w5 := by rw [hw5]; exact (Only.refl (fun b => b = gA) w4).setCell (p := ⟨gA, _, none⟩) (.inl rfl) _
    have hlen2 : (M ++ (⟨true, zeroB, [p3, behind]⟩ :: N3)).length = (M ++ [(⟨true, zeroB, []⟩ : Pl)] ++ N3).length := by rw [hlen, List.length_append, List.length_cons]; omega
    have HW5 : Hid (WA (fun b => (S b ∧ b < w.heap.size) ∨ w1.heap.size ≤ b) w5 g (some ⟨gA, oA, none⟩) c3' (M ++ (⟨true, zeroB, [p3, behind]⟩ :: N3)) h s r) := Lib.hid (by
      refine ⟨?_, ?_, HW3.out.2.2.1, HS0.out⟩
      · rw [hlen2]; exact hW4.1.only hO5 (by omega)
      · rw [hlen2, hw5]; exact hset)
    have HG5 : Hid (Grew w1 g A w5 (some ⟨gA, oA, none⟩)) := Lib.hid (by
      have a := HG2.out.trans HG3.out
      refine ((a.ext hb34).trans ⟨hO5.mono (fun b _ hb => .inr ((inA_some _ _ _ _).2 hb.symm)), fun b hb => .inl hb⟩))
    have hcell5 : ∃ v, w4.cell? ⟨gA, oA + M.length * 6 + 5, none⟩ = some v := ⟨_, by
      rw [hw4]; exact (World.cell?_of_block (a := ⟨gA, oA + M.length * 6 + 5, none⟩) (((Below.refl w3.heap.size w3).alloc (Nat.le_refl _) _).block gA hgA3l)).trans z5⟩
    obtain ⟨vv, hcell5⟩ := hcell5
    have hfree5 : w4.frozen? ⟨gA, oA + M.length * 6 + 5, none⟩ = false := by
      have := (hW4.2.1.at_ (k := M.length) (by rw [hlen]; omega))
      obtain ⟨gA', oA', _, _, _, _, _, _, ee, _, _, _, _, _, _, _, _, _, _, _, zf⟩ := this
      injection ee with ee
      injection ee with e1 e2 _
      subst e1 e2
      exact zf
    have HK5 := Lib.hid ((HK3.out.ext hb34).only hO5 (by have := HG3.out.2 gA ((inA_some _ _ _ _).2 rfl); have := Hs2.out; have := Hk7.out; intro e; subst e; exact this.elim (fun h => by have := HG2.out.2 _ h; exact this.elim (fun h => by have := HlA.out _ h; omega) (fun h => by omega)) (fun h => by omega)))
    have HV5 := Lib.hid ((HV3.out.ext hb34).only hO5 (by have := HG3.out.2 gA ((inA_some _ _ _ _).2 rfl); have := Hs2.out; have := Hk7.out; intro e; subst e; exact this.elim (fun h => by have := HG2.out.2 _ h; exact this.elim (fun h => by have := HlA.out _ h; omega) (fun h => by omega)) (fun h => by omega)))
    have Hr5 := Lib.hid (((Hr3.out.ext hb34).only hO5 (fun b hb h => by omega)))
    have Hw4 := Lib.hid hw4
    have Hw5 : Hid (w5 = (w3.setCell ⟨gA, oA + M.length * 6 + 5, none⟩ (.slice (some ⟨w3.heap.size, 0, none⟩) 2 2)).alloc (Obj.cells #[.int .i64 (p3 : Int), .int .i64 (behind : Int)] 3)) := Lib.hid (by rw [hw5, hw4, World.setCell_alloc_past _ _ _ _ hgA3l, Nat.add_assoc])
    have hidx : ((M.length : Nat) : Int) < (((M ++ [(⟨true, zeroB, []⟩ : Pl)] ++ N3).length : Nat) : Int) := by rw [hlen]; omega
    have hidx2 : M.length < (M ++ [(⟨true, zeroB, []⟩ : Pl)] ++ N3).length := by rw [hlen]; omega
    have hM6 : M.length ≤ 1000000000 := by have := Hp.out; omega
    obtain ⟨L3, hL3e⟩ : ∃ L3, (M ++ [(⟨true, zeroB, []⟩ : Pl)] ++ N3).length = L3 := ⟨_, rfl⟩
    rw [hL3e] at x0 hidx hidx2
    rw [hw4] at hcell5 hfree5
    clear hW4 hw4 hb34 hL4 hlA3 hlen hset hMset hw5 hO5 hlen2 hL3e z5 z6
    have hS5 : Hid (w1.heap.size ≤ w5.heap.size) := Lib.hid HG5.out.1.size
    have v6 : w5.cell? ⟨w.heap.size, 6, none⟩ = some (.int .i64 (nl : Int)) := HV5.out.cell 6
    go_upto_region 12 with fail
    rw [← Hw5.out]
    clear x0 hcell5 hfree5 hidx hidx2
    rcases Nat.eq_zero_or_pos nl with hn0 | hn0
    · subst hn0
      go_wp2
      go_ret
      exact ⟨M.length, some ⟨gA, oA, none⟩, c3', _, rfl, HW5.out.mono (fun b hb hl => hb.elim (fun h => .inl h.1) (fun h => .inr (by have := Hs1.out; omega))) HSf.out, Grew.from_ Hb01.out HG5.out, by have := HN3.out; simp [plR]; omega, (LayOk.star (by have := Hb.out; omega) Hb.out (by have := HL3.out; simpa using this)).1.congr star_texts⟩
    · obtain ⟨kk, rfl⟩ : ∃ kk, nl = kk + 1 := ⟨nl - 1, by omega⟩
      have n1 : decide (((kk + 1 : Nat) : Int) = 0) = false := by simp; omega
      have n2 : (((kk + 1 : Nat) : Int) == 0) = false := by simp; omega
      have hst := (LayOk.star (by have := Hb.out; omega) Hb.out (by have := HL3.out; simpa using this : LayOk (M.length + 1) N3 (inE x) p3 M.length)).2
      have Hst := Lib.hid hst
      have HCp : Hid (∀ v, v = (kk : Int) → Calls Tryd.prog 54 #[.pointer (some ⟨g, 0, none⟩), .agg #[.int .i64 k', .int .u64 (r0 : Int), .int .u64 (r1 : Int), .int .u64 (r2 : Int), .int .u64 (r3 : Int), .slice B' ks'.length d', .int .i64 lo2, .int .i64 hi2], .int .i64 v, .int .i64 (p3 : Int)] w5 (LayP (fun b => (S b ∧ b < w.heap.size) ∨ w1.heap.size ≤ b) w5 g (some ⟨gA, oA, none⟩) (M ++ (⟨true, zeroB, [p3, behind]⟩ :: N3)) h s r (kk * plE x) (powL (inE x) kk) p3)) := Lib.hid fun v hv => by
        subst hv
        refine laycopies_of Q x Hx.out _ w5 g _ c3' _ h s r [.int .i64 k', .int .u64 (r0 : Int), .int .u64 (r1 : Int), .int .u64 (r2 : Int), .int .u64 (r3 : Int), .slice B' ks'.length d', .int .i64 lo2, .int .i64 hi2] kk p3 deep HW5.out Hr5.out (by have := Hst.out.lt; rw [List.length_append]; exact this) (by omega) ?_ ho
        have := Hp.out
        have := HN3.out
        simp [plR] at *
        have e : (kk + 1) * plE x = kk * plE x + plE x := by rw [Nat.add_mul, Nat.one_mul]
        have hni : ¬ ((kk : Int) + 1 = 0) := by omega
        rw [if_neg hni] at *
        have e2 : ((kk : Int) + 1).toNat = kk + 1 := by omega
        rw [e2] at *
        omega
      clear hst hn0
      have cc0 := HK5.out.cell 0
      have cc1 := HK5.out.cell 1
      have cc2 := HK5.out.cell 2
      have cc3 := HK5.out.cell 3
      have cc4 := HK5.out.cell 4
      have cc5 := HK5.out.cell 5
      have cc6 := HK5.out.cell 6
      have cc7 := HK5.out.cell 7
      go_wp2_with fail
      refine (HCp.out _ (by omega)).mono ?_
      rintro e w6 ⟨p6, A6, c6', N6, rfl, hW6, hG6, hN6, hL6⟩
      clear cc0 cc1 cc2 cc3 cc4 cc5 cc6 cc7
      go_wp2
      go_ret
      refine ⟨p6, A6, c6', (⟨true, zeroB, [p3, behind]⟩ :: N3) ++ N6, rfl, ?_, Grew.from_ Hb01.out (HG5.out.trans hG6), ?_, ?_⟩
      · rw [← List.append_assoc]
        exact (hW6.mono (fun b hb _ => hb.elim id (fun h => .inr (Nat.le_trans hS5.out h))) HS0.out).mono (fun b hb hl => hb.elim (fun h => .inl h.1) (fun h => .inr (by have := Hs1.out; omega))) HSf.out
      · have := HN3.out
        have e : (kk + 1) * plE x = kk * plE x + plE x := by rw [Nat.add_mul, Nat.one_mul]
        have hni : ¬ (((kk + 1 : Nat) : Int) = 0) := by omega
        have e2 : (((kk + 1 : Nat) : Int)).toNat = kk + 1 := by omega
        simp only [plR, if_true, if_neg hni, e2, List.length_append, List.length_cons]
        omega
      · rw [List.length_append] at hL6
        exact (Hst.out.then hL6).congr (plus_texts kk)
  · have hh1 : (hi != -1) = true := by simpa using hh
    have hh2 : decide (hi = -1) = false := by simpa using hh
    have hh3 : (hi == -1) = false := by simpa using hh
    have hh4 : ¬ hi = -1 := hh
    obtain ⟨a, ha⟩ : ∃ a : Nat, hi = (nl : Int) + (a : Int) := ⟨(hi - nl).toNat, by have := Hrep.out; omega⟩
    subst ha
    have ha32 : (nl : Int) + (a : Int) ≤ 32 := by have := Hrep.out; omega
    have Hh := Lib.hid hh
    clear hh
    go_enter Tryd.func47, Tryd.ntmps47
    go_wp2_with (refine wpList_store_re rfl _ _ rfl (w.heap.size + 1) rfl rfl rfl rfl hone hD ?_; intro w1 hB1 ho1; have hV1 := HV.out.only ho1 (by omega); have v7 := hV1.cell 7; have v6 := hV1.cell 6)
    have hs1 := ho1.size
    have Hk7 : Hid (w.heap.size + 1 < w1.heap.size) := Lib.hid hB1.lt
    have hb02 : Below w.heap.size w ((w.alloc (Obj.cells #[.int .i64 4, .int .u64 (q0 : Int), .int .u64 (q1 : Int), .int .u64 (q2 : Int), .int .u64 (q3 : Int), .slice (some ⟨kb, ko, none⟩) 1 d, .int .i64 (nl : Int), .int .i64 ((nl : Int) + (a : Int))] 27)).alloc (Obj.cells #[.int .i64 0, .int .u64 0, .int .u64 0, .int .u64 0, .int .u64 0, .slice none 0 0, .int .i64 0, .int .i64 0] 27)) := ext2 w _ _
    have Hb01 : Hid (Below w.heap.size w w1) := Lib.hid (hb02.trans (ho1.below (fun i hi => by omega) (by simp; omega)))
    have HW1 : Hid (WA (fun b => (S b ∧ b < w.heap.size) ∨ w1.heap.size ≤ b) w1 g A c M h s r) := Lib.hid (by
      have a := HW.out.mono (T := fun b => S b ∧ b < w.heap.size) (fun b hb hl => ⟨hb, hl⟩) (fun b hb => HSg.out b hb.1)
      exact (((a.ext hb02).only ho1 (fun b hb => ⟨by omega, fun hin => by have := HlA.out _ hin; omega, fun h => by omega⟩)).mono (fun b hb _ => .inl hb) (fun b hb => hb.elim (fun h => HSg.out b h.1) (fun h => by have := Hb01.out.size; omega))))
    have HS0 : Hid (∀ b, ((fun b => (S b ∧ b < w.heap.size) ∨ w1.heap.size ≤ b)) b → b ≠ g) := Lib.hid HW1.out.2.2.2
    have HK1 := Lib.hid hB1
    have HV1 := Lib.hid hV1
    have Hr1 := Lib.hid ((Hrk.out.ext hb02).only ho1 (fun b hb h => by omega))
    have Hs1 : Hid (w.heap.size ≤ w1.heap.size) := Lib.hid Hb01.out.size
    clear hs1 hb02 hB1 hV1 ho1
    clear v7 v6 y0 y1 y2 y3 y4 y5 y6 y7 hD hone hh1 hh2 hh3 hh4
    have hpl : plR (nl : Int) ((nl : Int) + (a : Int)) [x] = (nl + a) * plE x + a := by
      simp only [plR, if_neg Hh.out]
      have e1 : ((nl : Int) + (a : Int)).toNat = nl + a := by omega
      have e2 : ((nl : Int) + (a : Int) - (nl : Int)).toNat = a := by omega
      rw [e1, e2]
    have Hpl := Lib.hid hpl
    clear hpl
    go_loopw [8, 24] (fun pv iv wr => ∃ (i p : Nat) (A1 : Option Addr) (c1 : Nat) (N : List Pl), pv = .int .i64 (p : Int) ∧ iv = .int .i64 (i : Int) ∧ i ≤ a ∧ Hid (WA (fun b => (S b ∧ b < w.heap.size) ∨ w1.heap.size ≤ b) wr g A1 c1 (M ++ N) h s r) ∧ Hid (Grew w1 g A wr A1) ∧ Hid (N.length ≤ i * (plE x + 1)) ∧ Hid (LayOk M.length N (upTo (inE x) 0 i) p behind)) (fun _ iv _ => a - (intOf iv).toNat)
    case atStart => exact ⟨0, behind, A, c, [], rfl, rfl, by omega, Lib.hid (by rw [List.append_nil]; exact HW1.out), Lib.hid (Grew.refl _ _ _), Lib.hid (by simp), Lib.hid ((LayOk.refl Hb.out).congr upTo_zero)⟩
    case round =>
      obtain ⟨i, p, A1, c1, N, rfl, rfl, hi, HWr, HG, HN, HL⟩ := hrel
      have Hs : Hid (w1.heap.size ≤ wr.heap.size) := Lib.hid HG.out.1.size
      have hbx := HG.out.blk HK1.out (by omega) (fun hin => by have := HlA.out _ hin; omega)
      have hbv := HG.out.blk HV1.out (by omega) (fun hin => by have := HlA.out _ hin; omega)
      have Hrr := Lib.hid (HG.out.re HgA.out Hr1.out)
      have hpl : p < (M ++ N).length := by have := HL.out.lt; rw [List.length_append]; exact this
      have cc0 := hbx.cell 0
      have cc1 := hbx.cell 1
      have cc2 := hbx.cell 2
      have cc3 := hbx.cell 3
      have cc4 := hbx.cell 4
      have cc5 := hbx.cell 5
      have cc6 := hbx.cell 6
      have cc7 := hbx.cell 7
      by_cases hlt : i < a
      · have hii : (i : Int) < (a : Int) := by omega
        have hcount : (i + 1) * (plE x + 1) ≤ a * (plE x + 1) := Nat.mul_le_mul_right _ hlt
        have hp1 : (M ++ N).length + plE x + 2 ≤ Q + 1 := by
          have a1 := HN.out
          have a2 := Hp.out
          rw [Hpl.out] at a2
          rw [Nat.add_mul i 1, Nat.one_mul] at hcount
          have e3 : a * (plE x + 1) = a * plE x + a := by rw [Nat.mul_add, Nat.mul_one]
          have e4 : (nl + a) * plE x = nl * plE x + a * plE x := by rw [Nat.add_mul]
          rw [List.length_append]
          omega
        have Hp1 := Lib.hid hp1
        have HC := Lib.hid (Hx.out _ wr g A1 c1 (M ++ N) h s r [.int .i64 k', .int .u64 (r0 : Int), .int .u64 (r1 : Int), .int .u64 (r2 : Int), .int .u64 (r3 : Int), .slice B' ks'.length d', .int .i64 lo2, .int .i64 hi2] p deep HWr.out Hrr.out hpl (by omega) ho)
        clear hp1 hpl hbx hbv hcount
        go_wp2_with fail
        refine HC.out.mono ?_
        rintro e w3 ⟨p3, A3, c3', N3, rfl, hW3, hG3, hN3, hL3⟩
        have Hs3 : Hid (wr.heap.size ≤ w3.heap.size) := Lib.hid hG3.1.size
        have HW3 : Hid (WA (fun b => (S b ∧ b < w.heap.size) ∨ w1.heap.size ≤ b) w3 g A3 c3' (M ++ (N ++ N3)) h s r) := Lib.hid (by rw [← List.append_assoc]; exact hW3.mono (fun b hb _ => hb.elim id (fun h => .inr (Nat.le_trans Hs.out h))) HS0.out)
        have HG3 := Lib.hid (HG.out.trans hG3)
        have HN3 := Lib.hid hN3
        have HL3 : Hid (LayOk (M.length + N.length) N3 (inE x) p3 p) := Lib.hid (by rw [List.length_append] at hL3; exact hL3)
        clear hW3 hG3 hN3 hL3 HC cc0 cc1 cc2 cc3 cc4 cc5 cc6 cc7
        have hb34 : Below w3.heap.size w3 (w3.alloc (Obj.cells #[.int .i64 (p3 : Int), .int .i64 (behind : Int)] 3)) := (Below.refl _ _).alloc (Nat.le_refl _) _
        have hCa := add_wa (HW3.out.ext hb34) ⟨true, zeroB, [p3, behind]⟩ [.bool true, .int .u64 0, .int .u64 0, .int .u64 0, .int .u64 0, .slice (some ⟨w3.heap.size, 0, none⟩) 2 2] (plAt_open (l := [p3, behind]) (Nat.le_refl _) (by simp [maxLen]) (ints_two (Blk.new w3 _ _) ⟨.inr (Nat.le_trans Hs.out Hs3.out), fun hin => by have := HW3.out.ltA _ hin; omega⟩)) (by have := Hp1.out; have := HN3.out; rw [← List.append_assoc, List.length_append]; omega)
        have HCa := Lib.hid hCa
        have Hb34 := Lib.hid hb34
        clear hCa hb34
        go_wp2_with fail
        refine HCa.out.mono ?_
        rintro e w5 ⟨rfl, A5, c5', hW5, hG5⟩
        have HW5 : Hid (WA (fun b => (S b ∧ b < w.heap.size) ∨ w1.heap.size ≤ b) w5 g A5 c5' (M ++ (N ++ N3 ++ [⟨true, zeroB, [p3, behind]⟩])) h s r) := Lib.hid (by rw [← List.append_assoc M]; exact hW5)
        have HG5 := Lib.hid ((HG3.out.ext Hb34.out).trans hG5)
        have HN5 : Hid ((N ++ N3 ++ [(⟨true, zeroB, [p3, behind]⟩ : Pl)]).length ≤ (i + 1) * (plE x + 1)) := Lib.hid (by
          have := HN.out
          have := HN3.out
          rw [List.length_append, List.length_append, List.length_singleton, Nat.add_mul i 1, Nat.one_mul]
          omega)
        have HL5 : Hid (LayOk M.length (N ++ N3 ++ [⟨true, zeroB, [p3, behind]⟩]) (upTo (inE x) 0 (i + 1)) (M ++ (N ++ N3)).length behind) := Lib.hid (by
          rw [show (M ++ (N ++ N3)).length = M.length + (N ++ N3).length from List.length_append]
          exact (LayOk.opt Hb.out HL.out HL3.out).congr upTo_opt)
        clear hW5 hG5 HCa
        go_wp2
        go_roundw
        case rel => exact ⟨i + 1, (M ++ (N ++ N3)).length, A5, c5', _, (by first | trivial | rfl | simp), by simp, by omega, HW5, HG5, HN5, HL5⟩
        case measure => simp [intOf]; omega
      · obtain rfl : i = a := by omega
        have v6 := hbv.cell 6
        have HCp := Lib.hid (laycopies_of Q x Hx.out _ wr g A1 c1 (M ++ N) h s r [.int .i64 k', .int .u64 (r0 : Int), .int .u64 (r1 : Int), .int .u64 (r2 : Int), .int .u64 (r3 : Int), .slice B' ks'.length d', .int .i64 lo2, .int .i64 hi2] nl p deep HWr.out Hrr.out hpl hnl (by
          have a1 := HN.out
          have a2 := Hp.out
          rw [Hpl.out] at a2
          have e3 : i * (plE x + 1) = i * plE x + i := by rw [Nat.mul_add, Nat.mul_one]
          have e4 : (nl + i) * plE x = nl * plE x + i * plE x := by rw [Nat.add_mul]
          rw [List.length_append]
          omega) ho)
        clear hbx hbv hlt hpl
        go_wp2_with fail
        refine HCp.out.mono ?_
        rintro e w6 ⟨p6, A6, c6', N6, rfl, hW6, hG6, hN6, hL6⟩
        clear cc0 cc1 cc2 cc3 cc4 cc5 cc6 cc7 v6
        go_wp2
        go_ret
        refine ⟨p6, A6, c6', N ++ N6, rfl, ?_, Grew.from_ Hb01.out (HG.out.trans hG6), ?_, ?_⟩
        · rw [← List.append_assoc]
          exact (hW6.mono (fun b hb _ => hb.elim id (fun h => .inr (Nat.le_trans Hs.out h))) HS0.out).mono (fun b hb hl => hb.elim (fun h => .inl h.1) (fun h => .inr (by have := Hs1.out; omega))) HSf.out
        · have a1 := HN.out
          have e3 : i * (plE x + 1) = i * plE x + i := by rw [Nat.mul_add, Nat.mul_one]
          have e4 : (nl + i) * plE x = nl * plE x + i * plE x := by rw [Nat.add_mul]
          rw [Hpl.out, List.length_append]
          omega
        · rw [List.length_append] at hL6
          exact (HL.out.then hL6).congr (rep_texts Hh.out rfl)
end Go.Proofs.YtlddmjhpemihgaaDoor

/-
  The contract of slices.Backward over kids. No statement of the seat is proved here.
-/
namespace Go.Proofs.YtlddmjhpemihgaaDoor
open Go Go.RowKit Go.Shelf Go.Proofs
set_option maxRecDepth 100000
attribute [local go_sem] Oper.semAt_some
/-- the last k of n, the last first -/
def dn (n k : Nat) : List Nat := (List.range k).map fun j => n - 1 - j
theorem dn_succ (n k : Nat) : dn n (k + 1) = dn n k ++ [n - 1 - k] := by simp [dn, List.range_succ]
theorem dn_length (n k : Nat) : (dn n k).length = k := by simp [dn]
/-- what the iterator reads lies as it lay -/
def KpL (Bs kb : Nat) (W W' : World) : Prop := W'.heap[Bs]? = W.heap[Bs]? ∧ W'.heap[kb]? = W.heap[kb]?
theorem KpL.trans {Bs kb : Nat} {X Y Z : World} (h : KpL Bs kb X Y) (k : KpL Bs kb Y Z) : KpL Bs kb X Z := ⟨k.1.trans h.1, k.2.trans h.2⟩
theorem KpL.cellB {Bs kb : Nat} {X Y : World} (h : KpL Bs kb X Y) (o : Nat) : Y.cell? ⟨Bs, o, none⟩ = X.cell? ⟨Bs, o, none⟩ := World.cell?_of_block (a := ⟨Bs, o, none⟩) h.1
theorem KpL.cellK {Bs kb : Nat} {X Y : World} (h : KpL Bs kb X Y) (o : Nat) : Y.cell? ⟨kb, o, none⟩ = X.cell? ⟨kb, o, none⟩ := World.cell?_of_block (a := ⟨kb, o, none⟩) h.2
theorem KpL.putObj {Bs kb : Nat} {w : World} (h1 : Bs < w.heap.size) (h2 : kb < w.heap.size) (W : World) (l : Nat) (o o' : Obj) (hl : w.heap.size ≤ l) (_ : W.heap[l]? = some o) (_ : o.isCells = false) (_ : o.isWalk = false) : KpL Bs kb W (W.putObj l o') :=
  ⟨World.putObj_heap_other (by omega), World.putObj_heap_other (by omega)⟩
theorem KpL.refl (Bs kb : Nat) (X : World) : KpL Bs kb X X := ⟨rfl, rfl⟩

theorem list_eight {l : List Value} (h : l.length = 8) : ∃ v0 v1 v2 v3 v4 v5 v6 v7, l = [v0, v1, v2, v3, v4, v5, v6, v7] := by
  match l, h with
  | [v0, v1, v2, v3, v4, v5, v6, v7], _ => exact ⟨v0, v1, v2, v3, v4, v5, v6, v7, rfl⟩
theorem backward_any (A : Option Addr) (m c : Nat) (w : World) :
    Calls Tryd.prog 46 #[.slice A m c] w fun e w' => e = .returned (.func (.func 53) #[] #[.pointer (some ⟨w.heap.size, 0, none⟩)]) ∧ w' = w.alloc (.cells #[.slice A m c] 25) := by
  go_enter Tryd.func46, Tryd.ntmps46
  go_wp2
  go_ret
  exact ⟨rfl, rfl⟩

set_option maxHeartbeats 4000000 in
theorem backward1_in (fu : Nat) (hn : 1 ≤ fu) (l Bs kb ko n c : Nat) (ck : Nat → List Value) (hc : n ≤ c) (hn' : n ≤ 1000000) (h8 : ∀ i, (ck i).length = 8) (J Jx : List Nat → World → Prop)
    (hY : ∀ pre x W, J pre W → pre.length < n → YieldAt Fence.wide (fu - 1) Tryd.prog l #[.int .i64 ((x : Nat) : Int), .agg (ck x).toArray] W fun e W' =>
      (e = .returned (.bool true) ∧ J (pre ++ [x]) W' ∧ KpL Bs kb W W') ∨ (e = .returned (.bool false) ∧ Jx (pre ++ [x]) W'))
    (W : World) (hBs : W.cell? ⟨Bs, 0, none⟩ = some (.slice (some ⟨kb, ko, none⟩) n c)) (hcs : ∀ i, i < n → ∀ j u, (ck i)[j]? = some u → W.cell? ⟨kb, ko + i * 8 + j, none⟩ = some u) (h0 : J [] W) :
    CallsIn Fence.wide fu Tryd.prog 53 #[.func (.yield l) #[] #[], .pointer (some ⟨Bs, 0, none⟩)] W fun e W' => (∃ v, e = .returned v) ∧
      ((∃ ys, ys = dn n n ∧ J ys W') ∨ (∃ pre, (∃ k, k ≤ n ∧ pre = dn n k) ∧ Jx pre W')) := by
  have Hcs := Lib.hid hcs
  have H8 := Lib.hid h8
  have HY := Lib.hid hY
  have hni : (n : Int) ≤ 1000000 := by omega
  clear hcs h8 hY
  refine callsIn_of_wp Tryd.func53 rfl trivial ?_ rfl
  simp only [Tryd.ntmps53, List.size_toArray, List.length_cons, List.length_nil, Nat.reduceAdd, Nat.reduceSub, Array.replicate_succ, Array.replicate_zero, List.push_toArray, List.append_toArray, List.nil_append, List.cons_append]
  gi_wp2
  gi_loopw [3] (fun pv wr => ∃ (k : Nat) (z : Int), k ≤ n ∧ z = (n : Int) - 1 - (k : Int) ∧ pv = .int .i64 z ∧ J (dn n k) wr ∧ KpL Bs kb W wr) (fun pv _ => match pv with | .int _ z => (z + 1).toNat | _ => 0)
  case atStart => exact ⟨0, (n : Int) - 1, Nat.zero_le _, by omega, rfl, h0, KpL.refl _ _ _⟩
  case round =>
    obtain ⟨k, z, hk, hz, rfl, hJs, hKp⟩ := hrel
    have c0 : wr.cell? ⟨Bs, 0, none⟩ = some (.slice (some ⟨kb, ko, none⟩) n c) := (hKp.cellB 0).trans hBs
    by_cases hlt : k < n
    · obtain ⟨i, rfl⟩ : ∃ i : Nat, z = (i : Int) := ⟨n - 1 - k, by omega⟩
      have hi : i = n - 1 - k := by omega
      have hin : i < n := by omega
      have hini : (i : Int) < (n : Int) := by omega
      obtain ⟨v0, v1, v2, v3, v4, v5, v6, v7, hv⟩ := list_eight (H8.out i)
      have key : ∀ j u, (ck i)[j]? = some u → wr.cell? ⟨kb, ko + i * 8 + j, none⟩ = some u := fun j u hu => (hKp.cellK (ko + i * 8 + j)).trans (Hcs.out i hin j u hu)
      rw [hv] at key
      have d0 : wr.cell? ⟨kb, ko + i * 8, none⟩ = some v0 := key 0 _ rfl
      have d1 : wr.cell? ⟨kb, ko + i * 8 + 1, none⟩ = some v1 := key 1 _ rfl
      have d2 : wr.cell? ⟨kb, ko + i * 8 + 2, none⟩ = some v2 := key 2 _ rfl
      have d3 : wr.cell? ⟨kb, ko + i * 8 + 3, none⟩ = some v3 := key 3 _ rfl
      have d4 : wr.cell? ⟨kb, ko + i * 8 + 4, none⟩ = some v4 := key 4 _ rfl
      have d5 : wr.cell? ⟨kb, ko + i * 8 + 5, none⟩ = some v5 := key 5 _ rfl
      have d6 : wr.cell? ⟨kb, ko + i * 8 + 6, none⟩ = some v6 := key 6 _ rfl
      have d7 : wr.cell? ⟨kb, ko + i * 8 + 7, none⟩ = some v7 := key 7 _ rfl
      obtain ⟨fn, tmps, assign, body, hy, hR⟩ := HY.out _ i wr hJs (by rw [dn_length]; exact hlt)
      rw [hv] at hy
      have Hz := Lib.hid hz
      have Hi := Lib.hid hi
      clear key hv hz hi
      gi_wp2
      refine hR.mono ?_
      rintro e W3 (⟨rfl, hJ3, hk3'⟩ | ⟨rfl, hJx3⟩)
      · gi_wp2
        go_roundw
        case rel => exact ⟨k + 1, (i : Int) - 1, by omega, by have := Hz.out; omega, rfl, by rw [dn_succ, ← Hi.out]; exact hJ3, hKp.trans hk3'⟩
        case measure => simp
      · gi_wp2
        refine bodyPost_ret (results_none rfl _ _ _) rfl ?_
        exact ⟨⟨_, rfl⟩, .inr ⟨_, ⟨k + 1, by omega, by rw [dn_succ, ← Hi.out]⟩, hJx3⟩⟩
    · obtain rfl : k = n := by omega
      have hzm : z = -1 := by omega
      subst hzm
      gi_wp2
      go_end0
      exact ⟨⟨_, rfl⟩, .inl ⟨_, rfl, hJs⟩⟩
theorem backward_stops (fu : Nat) (hn : 1 ≤ fu) (Bs kb ko n c : Nat) (ck : Nat → List Value) (hc : n ≤ c) (hn' : n ≤ 1000000) (h8 : ∀ i, (ck i).length = 8) (w : World) (hB1 : Bs < w.heap.size) (hk1 : kb < w.heap.size)
    (hBs : w.cell? ⟨Bs, 0, none⟩ = some (.slice (some ⟨kb, ko, none⟩) n c)) (hcs : ∀ i, i < n → ∀ j u, (ck i)[j]? = some u → w.cell? ⟨kb, ko + i * 8 + j, none⟩ = some u) :
    SeqStopsK Fence.wide fu Tryd.prog 53 #[.pointer (some ⟨Bs, 0, none⟩)] (fun x : Nat => #[.int .i64 ((x : Nat) : Int), .agg (ck x).toArray]) (KpL Bs kb) (fun ys => ys = dn n n) (fun pre => ∃ k, k ≤ n ∧ pre = dn n k) n w := by
  intro l J Jx W hW hJ _ hY h0
  have hBs' := (hW.cell (p := ⟨Bs, 0, none⟩) (by show Bs < _; omega)).trans hBs
  have hcs' : ∀ i, i < n → ∀ j u, (ck i)[j]? = some u → W.cell? ⟨kb, ko + i * 8 + j, none⟩ = some u := fun i hi j u hu => (hW.cell (p := ⟨kb, ko + i * 8 + j, none⟩) (by show kb < _; omega)).trans (hcs i hi j u hu)
  exact backward1_in fu hn l Bs kb ko n c ck hc hn' h8 J Jx hY W hBs' hcs' h0
end Go.Proofs.YtlddmjhpemihgaaDoor

/-
  The contract of the program's lay at a Seq, where that of lay is known of the kids. No statement of the seat is proved here.
-/
namespace Go.Proofs.YtlddmjhpemihgaaDoor
open Go Go.RowKit Go.Shelf Go.Proofs
set_option maxRecDepth 100000
attribute [local go_sem] Oper.semAt_some
theorem wpListIn_store_re {F : Fence} {n : Nat} {ops : Array Oper} {rest : List Oper} {op : Oper} {a : Act} {w : World} {Q : Exit → Act → World → Prop} (hgd : op.guard = none) (x y : Operand) (ho : op.op = .store 27 x y)
    (g : Nat) (hx : a.eval x = .pointer (some ⟨g, 0, none⟩)) {t : TypeId} {cs ds : Array Value} (hy : a.eval y = .agg ds) (hd : ds.size = 8) (hc : cs.size = 8) (h1 : ds.all (·.oneCell') = true) (hB : Blk w g t cs)
    (h : ∀ w', Blk w' g t ds → Only (fun k => k = g) w w' → wpListIn F n Tryd.prog ops Q rest (a.put op.dst undef) w') : wpListIn F n Tryd.prog ops Q (op :: rest) a w := by
  have hb2 : Blk (w.setCells g 0 ds.toList) g t ds := by
    have := hB.whole ds.toList (by simp [hc, hd])
    simpa using this
  have hO2 : Only (fun k => k = g) w (w.setCells g 0 ds.toList) := (Only.refl (fun k => k = g) w).setCells (.inl rfl) ds.toList 0
  refine wpListIn_plain hgd fun K hK' => ?_
  unfold Oper.wpIn
  refine ⟨?_, ?_⟩
  · simp [Oper.about, ho]
  · rw [Oper.semAt_plain F _ _ (by rw [ho]; intro c hc'; cases hc')]
    unfold execOp
    simp only [ho, hx, hy, Instr.storeAt, Instr.sureAddr, Sem.run_bind, Sem.run_pure, Result.andThen_ok, run_storeVar_mid w g 0 27 ds (hB.there 0 _ (by omega)) (size_re hd) h1]
    exact hK' _ _ (h _ hb2 hO2)

def kdE (ks : List Ex) (x : Nat) : Ex := ks.getD x (ks.headD emptyE)
theorem kd_mem {ks : List Ex} (h : 0 < ks.length) (x : Nat) : kdE ks x ∈ ks := by
  unfold kdE
  rw [List.getD_eq_getElem?_getD]
  rcases Nat.lt_or_ge x ks.length with hx | hx
  · rw [List.getElem?_eq_getElem hx]
    exact List.getElem_mem hx
  · rw [List.getElem?_eq_none hx]
    cases ks with
    | nil => simp at h
    | cons y l => simp
def sumP (ks : List Ex) : List Nat → Nat
  | [] => 0
  | x :: l => plE (kdE ks x) + sumP ks l
theorem sumP_snoc (ks : List Ex) (l : List Nat) (x : Nat) : sumP ks (l ++ [x]) = sumP ks l + plE (kdE ks x) := by
  induction l with
  | nil => simp [sumP]
  | cons y l ih => simp only [List.cons_append, sumP, ih]; omega
theorem plE_le_plL {ks : List Ex} {x : Ex} (h : x ∈ ks) : plE x ≤ plL ks := by
  induction ks with
  | nil => cases h
  | cons y l ih =>
    simp only [plL]
    rcases List.mem_cons.1 h with rfl | h
    · omega
    · have := ih h; omega
theorem sumP_le (ks : List Ex) (h : 0 < ks.length) (l : List Nat) : sumP ks l ≤ l.length * plL ks := by
  induction l with
  | nil => simp [sumP]
  | cons x l ih =>
    have := plE_le_plL (kd_mem h x)
    simp only [sumP, List.length_cons, Nat.add_mul, Nat.one_mul]
    omega
def seqF (ks : List Ex) (l : List Nat) : List Nat → Prop := l.foldl (fun P x => fun u => ∃ a b, u = a ++ b ∧ inE (kdE ks x) a ∧ P b) (fun u => u = [])
theorem seqF_snoc (ks : List Ex) (l : List Nat) (x : Nat) : seqF ks (l ++ [x]) = fun u => ∃ a b, u = a ++ b ∧ inE (kdE ks x) a ∧ seqF ks l b := by unfold seqF; rw [List.foldl_append]; rfl
theorem seqF_dn (ks : List Ex) : ∀ k, k ≤ ks.length → sumP ks (dn ks.length k) = plL (ks.drop (ks.length - k)) ∧ ∀ u, seqF ks (dn ks.length k) u ↔ inSeq (ks.drop (ks.length - k)) u := by
  intro k
  induction k with
  | zero =>
    intro _
    rw [Nat.sub_zero, List.drop_length]
    exact ⟨rfl, fun u => by simp [seqF, dn, inSeq]⟩
  | succ k ih =>
    intro hk
    obtain ⟨h1, h2⟩ := ih (by omega)
    have hi : ks.length - 1 - k < ks.length := by omega
    have hd : ks.drop (ks.length - (k + 1)) = ks[ks.length - 1 - k] :: ks.drop (ks.length - k) := by
      rw [show ks.length - (k + 1) = ks.length - 1 - k by omega, List.drop_eq_getElem_cons hi, show ks.length - 1 - k + 1 = ks.length - k by omega]
    have hkd : kdE ks (ks.length - 1 - k) = ks[ks.length - 1 - k] := by
      unfold kdE
      rw [List.getD_eq_getElem?_getD, List.getElem?_eq_getElem hi]; rfl
    rw [dn_succ, hd]
    constructor
    · rw [sumP_snoc, h1, hkd]; simp only [plL]; omega
    · intro u
      rw [seqF_snoc, hkd]
      simp only [inSeq]
      constructor
      · rintro ⟨a, b, e, ha, hb⟩; exact ⟨a, b, e, ha, (h2 b).1 hb⟩
      · rintro ⟨a, b, e, ha, hb⟩; exact ⟨a, b, e, ha, (h2 b).2 hb⟩

theorem Blk.kept {W W' : World} {row : Option Nat} {b : Nat} {t : TypeId} {cs : Array Value} (h : Blk W b t cs) (hg : W.grownBy W' row) (hr : ∀ r, row = some r → ∃ o : Obj, W.heap[r]? = some o ∧ o.isCells = false) : Blk W' b t cs :=
  (grownBy_keeps_cells hg hr h rfl).trans h
theorem WA.kept {S : Nat → Prop} {W W' : World} {row : Option Nat} {g : Nat} {A : Option Addr} {c : Nat} {M : List Pl} {h s r : Value} (a : WA S W g A c M h s r) (hg : W.grownBy W' row) (hr : ∀ r, row = some r → ∃ o : Obj, W.heap[r]? = some o ∧ o.isCells = false) : WA S W' g A c M h s r := by
  obtain ⟨hB, ⟨xs, h1, h2, h3⟩, hA, hS⟩ := a
  refine ⟨hB.kept hg hr, ⟨xs, ⟨h1.1, ?_⟩, h2, fun k hk => ?_⟩, hA, hS⟩
  · rcases h1.2 with h4 | ⟨gg, off, cs, e1, e2, e3, hb, e4⟩
    · exact .inl h4
    · exact .inr ⟨gg, off, cs, e1, e2, e3, hb.kept hg hr, e4⟩
  · obtain ⟨a0, a1, a2, a3, B, d, e1, e2, e3, e4, e5, e6⟩ := h3 k hk
    refine ⟨a0, a1, a2, a3, B, d, e1, e2, e3, e4, e5, ?_⟩
    rcases e6 with e6 | ⟨b, o, f1, f2, f3⟩
    · exact .inl e6
    · exact .inr ⟨b, o, f1, f2, fun j hj => cell_kept (f3 j hj) hg hr⟩
theorem Grew.kept {w1 W W' : World} {row : Option Nat} {g : Nat} {A A1 : Option Addr} (a : Grew w1 g A W A1) (hg : W.grownBy W' row) (hr : ∀ r, row = some r → w1.heap.size ≤ r) : Grew w1 g A W' A1 := by
  have hs := a.1.size
  refine ⟨⟨hg.os.trans a.1.os, hg.tape.trans a.1.tape, hg.output.trans a.1.output, Nat.le_trans hs hg.size, fun i hi hn => ?_⟩, fun b hb => (a.2 b hb).imp id (fun h => ⟨h.1, Nat.lt_of_lt_of_le h.2 hg.size⟩)⟩
  rw [hg.block i (by omega) (fun e => by have := hr i e.symm; omega)]
  exact a.1.block i hi hn
/-- places were laid, and a box of the caller's was written -/
def GrewB (bx : Nat) (w : World) (g : Nat) (A : Option Addr) (w' : World) (A' : Option Addr) : Prop := Only (fun b => (b = g ∨ inA A b) ∨ b = bx) w w' ∧ ∀ b, inA A' b → inA A b ∨ (w.heap.size ≤ b ∧ b < w'.heap.size)
section
variable {w w1 w2 : World} {g bx : Nat} {A A1 A2 : Option Addr}
theorem GrewB.refl (bx : Nat) (w : World) (g : Nat) (A : Option Addr) : GrewB bx w g A w A := ⟨Only.refl _ _, fun b hb => .inl hb⟩
theorem GrewB.ext (a : GrewB bx w g A w1 A1) (hb : Below w1.heap.size w1 w2) : GrewB bx w g A w2 A1 := ⟨a.1.trans (Only.of_ext (S := fun b => (b = g ∨ inA A b) ∨ b = bx) hb) (fun _ _ h => h), fun b h => (a.2 b h).imp id (fun h => ⟨h.1, Nat.lt_of_lt_of_le h.2 hb.size⟩)⟩
theorem GrewB.trans (a : GrewB bx w g A w1 A1) (b : Grew w1 g A1 w2 A2) : GrewB bx w g A w2 A2 := by
  have h1 := a.1.size
  have h2 := b.1.size
  refine ⟨a.1.trans b.1 (fun i hi hb => ?_), fun i hi => ?_⟩
  · rcases hb with hb | hb
    · exact .inl (.inl hb)
    · rcases a.2 i hb with h3 | h3
      · exact .inl (.inr h3)
      · omega
  · rcases b.2 i hi with h3 | h3
    · rcases a.2 i h3 with h4 | h4
      · exact .inl h4
      · exact .inr ⟨h4.1, by omega⟩
    · exact .inr ⟨by omega, h3.2⟩
theorem GrewB.box (a : GrewB bx w g A w1 A1) (ho : Only (fun b => b = bx) w1 w2) : GrewB bx w g A w2 A1 := ⟨a.1.trans ho (fun i _ h => .inr h), fun b h => (a.2 b h).imp id (fun h => ⟨h.1, Nat.lt_of_lt_of_le h.2 ho.size⟩)⟩
theorem GrewB.re (a : GrewB bx w g A w1 A1) (hA : ∀ b, inA A b → g < b) (hbx : g < bx) {x : Ex} {cs : List Value} (hx : ReR (fun b => b < g) w x cs) : ReR (fun b => b < g) w1 x cs :=
  hx.only a.1 (fun b hb h => h.elim (fun h => h.elim (fun e => by omega) (fun e => by have := hA b e; omega)) (fun e => by omega))
theorem GrewB.kept {W : World} {row : Option Nat} (a : GrewB bx w g A w1 A1) (hg : w1.grownBy W row) (hr : ∀ r, row = some r → w.heap.size ≤ r) : GrewB bx w g A W A1 := by
  have hs := a.1.size
  refine ⟨⟨hg.os.trans a.1.os, hg.tape.trans a.1.tape, hg.output.trans a.1.output, Nat.le_trans hs hg.size, fun i hi hn => ?_⟩, fun b hb => (a.2 b hb).imp id (fun h => ⟨h.1, Nat.lt_of_lt_of_le h.2 hg.size⟩)⟩
  rw [hg.block i (by omega) (fun e => by have := hr i e.symm; omega)]
  exact a.1.block i hi hn
theorem GrewB.from_ {w0 : World} (hb : Below w0.heap.size w0 w) (hbx : w0.heap.size ≤ bx) (a : GrewB bx w g A w1 A1) : Grew w0 g A w1 A1 := by
  have hs := hb.size
  exact ⟨(Only.of_ext (S := fun b => b = g ∨ inA A b) hb).trans a.1 (fun i hi h => h.elim id (fun h => by omega)), fun b h => (a.2 b h).imp id (fun h => ⟨by omega, h.2⟩)⟩
end
/-- the loop's invariant -/
def SeqI (ks : List Ex) (S : Nat → Prop) (w w1 : World) (g : Nat) (A : Option Addr) (M : List Pl) (h s r : Value) (behind : Nat) (pre : List Nat) (W : World) : Prop :=
  ∃ (p : Nat) (A1 : Option Addr) (c1 : Nat) (N : List Pl), Blk W w.heap.size 80 #[.pointer (some ⟨g, 0, none⟩)] ∧ Blk W (w.heap.size + 1 + 1) 3 #[.int .i64 (p : Int)] ∧ WA (fun b => (S b ∧ b < w.heap.size) ∨ w1.heap.size ≤ b) W g A1 c1 (M ++ N) h s r ∧ GrewB (w.heap.size + 1 + 1) w1 g A W A1 ∧ N.length ≤ sumP ks pre ∧ LayOk M.length N (seqF ks pre) p behind
theorem SeqI.own (ks : List Ex) (S : Nat → Prop) (w w1 : World) (g : Nat) (A : Option Addr) (M : List Pl) (h s r : Value) (behind : Nat) : OwnFrom w1.heap.size (SeqI ks S w w1 g A M h s r behind) := by
  rintro pre X Y row ⟨p, A1, c1, N, h1, h2, h3, h4, h5, h6⟩ hg hr
  have hr' : ∀ r, row = some r → ∃ o : Obj, X.heap[r]? = some o ∧ o.isCells = false := fun r e => (hr r e).2
  exact ⟨p, A1, c1, N, h1.kept hg hr', h2.kept hg hr', h3.kept hg hr', h4.kept hg (fun r e => (hr r e).1), h5, h6⟩
/-- what is written are cells: whatever is none lies as it lay -/
theorem keepsFrom_only {B : Nat} {T : Nat → Prop} {W W' : World} (ho : Only T W W') (hc : ∀ b, T b → b < W.heap.size → ∃ cs t, Blk W b t cs) : KeepsFrom B W W' :=
  ⟨ho.size, fun k o _ hk hn => by
    have hl := (Array.getElem?_eq_some_iff.1 hk).1
    rw [ho.block k hl (fun ht => by
      obtain ⟨cs, t, hb⟩ := hc k ht hl
      have hb' : W.heap[k]? = some (.cells cs t) := hb
      rw [hb'] at hk
      injection hk with hk
      subst hk
      cases hn)]
    exact hk⟩
theorem WA.cells {S : Nat → Prop} {W : World} {g : Nat} {A : Option Addr} {c : Nat} {M : List Pl} {h s r : Value} (a : WA S W g A c M h s r) : ∀ b, (b = g ∨ inA A b) → b < W.heap.size → ∃ cs t, Blk W b t cs := by
  rintro b (rfl | hb) _
  · exact ⟨_, _, a.1⟩
  · obtain ⟨xs, h1, _⟩ := a.2.1
    rcases h1.2 with ⟨rfl, _⟩ | ⟨gg, off, cs, rfl, _, _, h4, _⟩
    · exact absurd hb (inA_none b)
    · rw [inA_some] at hb; subst hb; exact ⟨_, _, h4⟩

set_option maxHeartbeats 16000000 in
theorem lay_seq (Q Q' : Nat) (hQ : Q + 300000 ≤ Q') (hQ' : Q' ≤ 1000000000) (ks : List Ex) (hks : ∀ x ∈ ks, LayC Q' x) (deep : Nat) (ho : ∀ x ∈ ks, oneE deep x = true) (hl : ks.length ≤ 128) (hl2 : 0 < ks.length) (hpl : plL ks ≤ 2100) (S : Nat → Prop) (w : World) (g : Nat) (A : Option Addr) (c : Nat) (M : List Pl) (h s r : Value) (cs : List Value) (behind : Nat) (ws : List Nat) (lo hi : Int)
    (hW : WA S w g A c M h s r) (hr : ReR (fun b => b < g) w (.mk 2 ws ks lo hi) cs) (hb : behind < M.length) (hp : M.length + plL ks ≤ Q) :
    Calls Tryd.prog 41 #[.pointer (some ⟨g, 0, none⟩), reV cs, .int .i64 (behind : Int)] w (LayP S w g A M h s r (plL ks) (inSeq ks) behind) := by
  have hgl := hW.lt
  obtain ⟨k, q0, q1, q2, q3, ks', B, d, lo', hi', e, rfl, h1, h2, -, -, -, -, h3⟩ := hr.fields
  injection e with e1 e2 e3 e4 e5
  subst e1 e3 e4 e5
  obtain ⟨kb, ko, u0, u1, u2, u3, u4, u5, u6, u7, rfl, -, -, -, -, -, -, -, -, -, hkb⟩ := h3.kid hl2
  have hck : ∀ x : Nat, ∃ l : List Value, l.length = 8 ∧ ReR (fun b => b < g) w (kdE ks x) l ∧ (x < ks.length → ∀ j u, l[j]? = some u → w.cell? ⟨kb, ko + x * 8 + j, none⟩ = some u) := by
    intro x
    rcases Nat.lt_or_ge x ks.length with hx | hx
    · obtain ⟨g', o', l, e, _, hc, hrx⟩ := h3 x hx
      injection e with e
      injection e with e1 e2 _
      subst e1 e2
      refine ⟨l, hrx.size, ?_, fun _ => hc⟩
      have : kdE ks x = ks[x] := by unfold kdE; rw [List.getD_eq_getElem?_getD, List.getElem?_eq_getElem hx]; rfl
      rw [this]
      exact hrx
    · obtain ⟨i, hi, he⟩ := List.getElem_of_mem (kd_mem hl2 x)
      obtain ⟨g', o', l, e, _, hc, hrx⟩ := h3 i hi
      exact ⟨l, hrx.size, by rw [← he]; exact hrx, fun h => by omega⟩
  obtain ⟨ck, hck⟩ : ∃ ck : Nat → List Value, ∀ x, (ck x).length = 8 ∧ ReR (fun b => b < g) w (kdE ks x) (ck x) ∧ (x < ks.length → ∀ j u, (ck x)[j]? = some u → w.cell? ⟨kb, ko + x * 8 + j, none⟩ = some u) := ⟨fun x => (hck x).choose, fun x => (hck x).choose_spec⟩
  have h2' : d ≤ maxLen := h2
  unfold maxLen at h2'
  have hdl : ks.length ≤ d := h1
  have hlA := hW.ltA
  have HlA := Lib.hid hlA
  have HgA := Lib.hid hW.2.2.1
  have HSg := Lib.hid hW.2.2.2
  obtain ⟨w1, hw1⟩ : ∃ w1, w1 = (((w.alloc (.cells #[.pointer (some ⟨g, 0, none⟩)] 80)).alloc (.cells #[.int .i64 2, .int .u64 (q0 : Int), .int .u64 (q1 : Int), .int .u64 (q2 : Int), .int .u64 (q3 : Int), .slice (some ⟨kb, ko, none⟩) ks.length d, .int .i64 lo, .int .i64 hi] 27)).alloc (.cells #[.int .i64 (behind : Int)] 3)).alloc (.cells #[.slice (some ⟨kb, ko, none⟩) ks.length d] 25) := ⟨_, rfl⟩
  have hb1 : Below w.heap.size w w1 := by rw [hw1]; exact ext_alloc (ext_alloc (ext_alloc (ext_alloc (Below.refl _ _) _) _) _) _
  have hs1 : w1.heap.size = w.heap.size + 1 + 1 + 1 + 1 := by rw [hw1]; simp
  have hB3 : Blk w1 w.heap.size 80 #[.pointer (some ⟨g, 0, none⟩)] := by rw [hw1]; exact (((Blk.new w _ _).alloc _).alloc _).alloc _
  have hB4 : Blk (((w.alloc (.cells #[.pointer (some ⟨g, 0, none⟩)] 80)).alloc (.cells #[.int .i64 2, .int .u64 (q0 : Int), .int .u64 (q1 : Int), .int .u64 (q2 : Int), .int .u64 (q3 : Int), .slice (some ⟨kb, ko, none⟩) ks.length d, .int .i64 lo, .int .i64 hi] 27)).alloc (.cells #[.int .i64 (behind : Int)] 3)) (w.heap.size + 1) 27 #[.int .i64 2, .int .u64 (q0 : Int), .int .u64 (q1 : Int), .int .u64 (q2 : Int), .int .u64 (q3 : Int), .slice (some ⟨kb, ko, none⟩) ks.length d, .int .i64 lo, .int .i64 hi] := by
    have := (Blk.new (w.alloc (.cells #[.pointer (some ⟨g, 0, none⟩)] 80)) 27 #[.int .i64 2, .int .u64 (q0 : Int), .int .u64 (q1 : Int), .int .u64 (q2 : Int), .int .u64 (q3 : Int), .slice (some ⟨kb, ko, none⟩) ks.length d, .int .i64 lo, .int .i64 hi]).alloc (.cells #[.int .i64 (behind : Int)] 3)
    rwa [World.size_alloc] at this
  have hB5 : Blk w1 (w.heap.size + 1 + 1) 3 #[.int .i64 (behind : Int)] := by
    rw [hw1]
    have := (Blk.new ((w.alloc (.cells #[.pointer (some ⟨g, 0, none⟩)] 80)).alloc (.cells #[.int .i64 2, .int .u64 (q0 : Int), .int .u64 (q1 : Int), .int .u64 (q2 : Int), .int .u64 (q3 : Int), .slice (some ⟨kb, ko, none⟩) ks.length d, .int .i64 lo, .int .i64 hi] 27)) 3 #[.int .i64 (behind : Int)]).alloc (.cells #[.slice (some ⟨kb, ko, none⟩) ks.length d] 25)
    rwa [World.size_alloc, World.size_alloc] at this
  have hBs : Blk w1 (w.heap.size + 1 + 1 + 1) 25 #[.slice (some ⟨kb, ko, none⟩) ks.length d] := by
    rw [hw1]
    have := Blk.new (((w.alloc (.cells #[.pointer (some ⟨g, 0, none⟩)] 80)).alloc (.cells #[.int .i64 2, .int .u64 (q0 : Int), .int .u64 (q1 : Int), .int .u64 (q2 : Int), .int .u64 (q3 : Int), .slice (some ⟨kb, ko, none⟩) ks.length d, .int .i64 lo, .int .i64 hi] 27)).alloc (.cells #[.int .i64 (behind : Int)] 3)) 25 #[.slice (some ⟨kb, ko, none⟩) ks.length d]
    rwa [World.size_alloc, World.size_alloc, World.size_alloc] at this
  have hW1 : WA (fun b => (S b ∧ b < w.heap.size) ∨ w1.heap.size ≤ b) w1 g A c M h s r := by
    have a := hW.mono (T := fun b => S b ∧ b < w.heap.size) (fun b hb hl => ⟨hb, hl⟩) (fun b hb => hW.2.2.2 b hb.1)
    exact (a.ext hb1).mono (fun b hb _ => .inl hb) (fun b hb => hb.elim (fun h => hW.2.2.2 b h.1) (fun h => by omega))
  have hI0 : SeqI ks S w w1 g A M h s r behind [] w1 := ⟨behind, A, c, [], hB3, hB5, by rw [List.append_nil]; exact hW1, GrewB.refl _ _ _ _, by simp, LayOk.refl hb⟩
  have hcs1 : ∀ i, i < ks.length → ∀ j u, (ck i)[j]? = some u → w1.cell? ⟨kb, ko + i * 8 + j, none⟩ = some u := fun i hi j u hu => by
    have hc := (hck i).2.2 hi j u hu
    exact (World.cell?_of_block (a := ⟨kb, ko + i * 8 + j, none⟩) (hb1.block kb (by omega))).trans hc
  have hkbA : ¬ inA A kb := fun hin => by have := HgA.out kb hin; omega
  have hstops := backward_stops 2 (by omega) (w.heap.size + 1 + 1 + 1) kb ko ks.length d ck hdl (by omega) (fun i => (hck i).1) w1 (by omega) (by omega) (hBs.cell 0) hcs1
  have Hstops := Lib.hid hstops
  have HI0 := Lib.hid hI0
  have Hck := Lib.hid hck
  have Hb1 := Lib.hid hb1
  have Hw1 := Lib.hid hw1
  have Hs1 := Lib.hid hs1
  have Hks := Lib.hid hks
  have Ho := Lib.hid ho
  have Hp := Lib.hid hp
  have Hpl := Lib.hid hpl
  have HB4 := Lib.hid hB4
  have HWA1 := Lib.hid hW1
  clear hW hr h1 h2 h3 hck hb1 hB3 hB5 hBs hW1 hI0 hcs1 hstops hks ho hp hlA e2 hkbA hpl
  show Calls Tryd.prog 41 #[.pointer (some ⟨g, 0, none⟩), .agg #[.int .i64 2, .int .u64 (q0 : Int), .int .u64 (q1 : Int), .int .u64 (q2 : Int), .int .u64 (q3 : Int), .slice (some ⟨kb, ko, none⟩) ks.length d, .int .i64 lo, .int .i64 hi], .int .i64 (behind : Int)] w _
  refine (callsIn_wide (n := 3)).1 ?_
  refine callsIn_of_wp_marks Tryd.func41 rfl trivial ?_ rfl
  simp only [Tryd.ntmps41, List.size_toArray, List.length_cons, List.length_nil, Nat.reduceAdd, Nat.reduceSub, Array.replicate_succ, Array.replicate_zero, List.push_toArray, List.append_toArray, List.nil_append, List.cons_append]
  have y0 := hB4.cell 0
  have y5 := hB4.cell 5
  clear hB4
  gi_wp2
  refine ⟨trivial, ?_⟩
  refine (callsIn_wide.2 (backward_any _ _ _ _)).mono ?_
  rintro e w2 ⟨rfl, rfl⟩
  gi_wp2
  rw [← Hw1.out]
  have hlo := Hs1.out
  refine wpIn_rangeFunc_ownH rfl (by omega) (gf := 53) (lb := #[.pointer (some ⟨w.heap.size + 1 + 1 + 1, 0, none⟩)]) rfl trivial (enters_of Tryd.func53 (by kernel_rfl) rfl) Hstops.out KpL.trans (KpL.putObj (by omega) (by omega)) (Below.refl _ _) (fun _ => rfl)
    (SeqI ks S w w1 g A M h s r behind) (fun _ _ _ => False) (SeqI.own ks S w w1 g A M h s r behind) (fun _ _ _ _ _ hs _ _ => hs) HI0.out
    (fun x a' W => ∃ Bx, w1.heap.size ≤ Bx ∧ Blk W Bx 27 (ck x).toArray ∧ a' = { tmps := #[.pointer (some ⟨g, 0, none⟩), .agg #[.int .i64 2, .int .u64 (q0 : Int), .int .u64 (q1 : Int), .int .u64 (q2 : Int), .int .u64 (q3 : Int), .slice (some ⟨kb, ko, none⟩) ks.length d, .int .i64 lo, .int .i64 hi], .int .i64 (behind : Int), .pointer (some ⟨w.heap.size, 0, none⟩), .pointer (some ⟨w.heap.size + 1, 0, none⟩), .pointer (some ⟨w.heap.size + 1 + 1, 0, none⟩), .int .i64 0, undef, .pointer (some ⟨Bx, 0, none⟩), undef, undef, undef, .pointer (some ⟨w.heap.size + 1, 0, none⟩), .int .i64 2, .bool false, .bool false, undef, undef, undef, undef, undef, undef, undef, .bool true, .bool true, .pointer (some ⟨w.heap.size + 1, 5, none⟩), .slice (some ⟨kb, ko, none⟩) ks.length d, .func (.func 53) #[] #[.pointer (some ⟨w.heap.size + 1 + 1 + 1, 0, none⟩)], .int .i64 ((x : Nat) : Int), .agg (ck x).toArray, undef, undef, undef, undef, undef, undef, undef, undef, undef, undef, undef, undef, undef, undef, undef, undef, undef, undef, undef, undef, undef, undef, undef, undef, undef, undef, undef, undef, undef, undef, undef, undef], defers := [] })
    (fun x a' => by
      rintro ⟨⟩ X Y row ⟨Bx, h1, h2, h3⟩ hg hr
      exact ⟨Bx, h1, h2.kept hg (fun r e => (hr r e).2), h3⟩) ?assign ?body ?done ?stop
  case assign =>
    intro l pre x W K hI hK
    have hsz : w1.heap.size ≤ W.heap.size := by obtain ⟨p, A1, c1, N, _, _, _, hG, _⟩ := hI; exact hG.1.size
    obtain ⟨v0, v1, v2, v3, v4, v5, v6, v7, hv⟩ := list_eight (Hck.out x).1
    have hone : (#[v0, v1, v2, v3, v4, v5, v6, v7] : Array Value).all (·.oneCell') = true := by
      have h9 := (Hck.out x).2.1.one
      rw [hv] at h9
      simpa using h9
    have HK := Lib.hid hK
    have HI := Lib.hid hI
    have Hv := Lib.hid hv
    clear hK hI
    simp only [hv]
    clear hv
    gi_wp2_with (refine wpListIn_store_re rfl _ _ rfl W.heap.size rfl rfl rfl rfl hone (Blk.new W _ _) ?_; intro W2 hB2 ho2)
    have hO : Only (fun k => k = W.heap.size) W W2 := ((Only.refl (fun k => k = W.heap.size) W).alloc _).trans ho2 (fun _ _ h => h)
    have hbl : Below W.heap.size W W2 := hO.below (fun i hi => by omega) (Nat.le_refl _)
    refine HK.out _ _ (keepsFrom_only hO (fun b hb hl => by omega)) ⟨hO.block _ (by omega) (by omega), hO.block _ (by omega) (by omega)⟩ ?_ ⟨W.heap.size, hsz, by rw [Hv.out]; exact hB2, by rw [Hv.out]⟩
    obtain ⟨p, A1, c1, N, h1, h2, h3, h4, h5, h6⟩ := HI.out
    exact ⟨p, A1, c1, N, h1.ext hbl, h2.ext hbl, h3.ext hbl, h4.ext hbl, h5, h6⟩
  case body =>
    rintro l pre x a' W hl1 ⟨rr, hrr⟩ hI ⟨Bx, hBx, hX, rfl⟩ hlen
    obtain ⟨p, A1, c1, N, h3, h5, hWA, hG, hN, hL⟩ := hI
    have hsz := hG.1.size
    obtain ⟨v0, v1, v2, v3, v4, v5, v6, v7, hv⟩ := list_eight (Hck.out x).1
    rw [hv] at hX
    have hres : ReR (fun b => b < g) W (kdE ks x) [v0, v1, v2, v3, v4, v5, v6, v7] := by
      have h9 := (Hck.out x).2.1
      rw [hv] at h9
      exact hG.re HgA.out (by omega) (h9.ext Hb1.out)
    have hsum : sumP ks pre + plE (kdE ks x) ≤ 128 * plL ks := by
      have a1 := sumP_le ks hl2 pre
      have a2 := plE_le_plL (kd_mem hl2 x)
      have a3 : (pre.length + 1) * plL ks ≤ 128 * plL ks := Nat.mul_le_mul_right _ (by omega)
      rw [Nat.add_mul, Nat.one_mul] at a3
      omega
    have hpl2 := Hpl.out
    have hp2 := Hp.out
    have hlen2 : (M ++ N).length = M.length + N.length := List.length_append
    have HC := Lib.hid (Hks.out _ (kd_mem hl2 x) _ W g A1 c1 (M ++ N) h s r [v0, v1, v2, v3, v4, v5, v6, v7] p deep hWA hres (by rw [hlen2]; exact hL.lt) (by rw [hlen2]; omega) (Ho.out _ (kd_mem hl2 x)))
    have hne : ∀ b, w.heap.size ≤ b → b < w1.heap.size → ¬ inA A1 b := fun b h1 h2 hin => (hG.2 b hin).elim (fun h => by have := HlA.out b h; omega) (fun h => by omega)
    have y3 := h3.cell 0
    have y5 := h5.cell 0
    have z0 := hX.cell 0
    have z1 := hX.cell 1
    have z2 := hX.cell 2
    have z3 := hX.cell 3
    have z4 := hX.cell 4
    have z5 := hX.cell 5
    have z6 := hX.cell 6
    have z7 := hX.cell 7
    have H3 := Lib.hid h3
    have H5 := Lib.hid h5
    have HWA := Lib.hid hWA
    have HG := Lib.hid hG
    have HN := Lib.hid hN
    have HL := Lib.hid hL
    have Hne := Lib.hid hne
    have Hsz := Lib.hid hsz
    clear h3 h5 hWA hG hN hL hv hres hne hX hrr hpl2 hp2 hlen2
    gi_wp2
    refine ⟨trivial, ?_⟩
    refine (CallsIn.inRound l (callsIn_wide.2 HC.out)).mono ?_
    rintro e W2 ⟨p2, A2, c2, N2, rfl, hW2, hG2, hN2, hL2⟩
    have h5' := hG2.blk H5.out (by omega) (Hne.out _ (by omega) (by omega))
    have h3' := hG2.blk H3.out (by omega) (Hne.out _ (by omega) (by omega))
    have x5 := h5'.cell 0
    have f5 := h5'.free 0
    have HW2 := Lib.hid hW2
    have HG2 := Lib.hid hG2
    have HN2 := Lib.hid hN2
    have HL2 := Lib.hid hL2
    have H3' := Lib.hid h3'
    have H5' := Lib.hid h5'
    clear hW2 hG2 hN2 hL2 h3' h5' z0 z1 z2 z3 z4 z5 z6 z7 y3 y5
    gi_wp2
    have hO3 : Only (fun b => b = w.heap.size + 1 + 1) W2 (W2.setCell ⟨w.heap.size + 1 + 1, 0, none⟩ (.int .i64 (p2 : Int))) := (Only.refl (fun b => b = w.heap.size + 1 + 1) W2).setCell (p := ⟨w.heap.size + 1 + 1, 0, none⟩) (.inl rfl) _
    have hOall : Only (fun b => (b = g ∨ inA A1 b) ∨ b = w.heap.size + 1 + 1) W (W2.setCell ⟨w.heap.size + 1 + 1, 0, none⟩ (.int .i64 (p2 : Int))) := (HG2.out.1.mono (fun b _ h => .inl h)).trans hO3 (fun i _ h => .inr h)
    have hsz2 := HG2.out.1.size
    refine ⟨keepsFrom_only hOall (fun b hb hl => hb.elim (fun h => HWA.out.cells b h hl) (fun h => by subst h; exact ⟨_, _, H5.out⟩)), ⟨hOall.block _ (by have := Hsz.out; omega) (fun h => h.elim (fun h => h.elim (fun h => by omega) (Hne.out _ (by omega) (by omega))) (fun h => by omega)), hOall.block _ (by have := Hsz.out; omega) (fun h => h.elim (fun h => h.elim (fun h => by omega) (fun h => (HG.out.2 kb h).elim (fun h => by have := HgA.out kb h; omega) (fun h => by omega))) (fun h => by omega))⟩, ?_⟩
    refine ⟨p2, A2, c2, N ++ N2, H3'.out.far (by show w.heap.size ≠ w.heap.size + 1 + 1; omega) _, H5'.out.put 0 _, ?_, (HG.out.trans HG2.out).box hO3, ?_, ?_⟩
    · rw [← List.append_assoc]
      refine (HW2.out.mono (T := fun b => (S b ∧ b < w.heap.size) ∨ w1.heap.size ≤ b) (fun b hb _ => hb.elim id (fun h => .inr (Nat.le_trans Hsz.out h))) HWA.out.2.2.2).only hO3 (fun b hb => ?_)
      subst hb
      exact ⟨by omega, fun hin => (HG2.out.2 _ hin).elim (Hne.out _ (by omega) (by omega)) (fun h => by have := Hsz.out; omega), fun h => by omega⟩
    · rw [List.length_append, sumP_snoc]; have := HN.out; have := HN2.out; omega
    · have h9 := HL2.out
      rw [List.length_append] at h9
      rw [seqF_snoc]
      exact HL.out.then h9
  case done =>
    rintro D ys W hD rfl hI hK
    obtain ⟨p, A1, c1, N, -, h5, -, -, -, -⟩ := id hI
    have y5 := h5.cell 0
    have hI2 := (SeqI.own ks S w w1 g A M h s r behind).putObj (.deferred none) hI hD hK rfl
    have HI2 := Lib.hid hI2
    have H5 := Lib.hid h5
    clear hI hI2 h5
    gi_wp2
    refine ⟨by simp, .inl ⟨_, _, rfl, run_takeDeferred hK, ?_⟩⟩
    obtain ⟨p', A1', c1', N', -, h5', hWA, hG, hN, hL⟩ := HI2.out
    have hpp : p' = p := by
      have q1 := h5'.cell 0
      have q2 := (H5.out.kept (grownBy_putObj' W D (.deferred none)) (fun r e => by cases e; exact ⟨_, hK, rfl⟩)).cell 0
      have q3 : (some (Value.int .i64 (p' : Int)) : Option Value) = some (.int .i64 (p : Int)) := q1.symm.trans q2
      injection q3 with q3
      injection q3 with _ q3
      omega
    subst hpp
    have hdn := seqF_dn ks ks.length (Nat.le_refl _)
    rw [Nat.sub_self, List.drop_zero] at hdn
    exact ⟨_, results_tmp rfl _ _ _, p', A1', c1', N', rfl, hWA.mono (fun b hb hl => hb.elim (fun h => .inl h.1) (fun h => .inr (by omega))) (fun b hb => hb.elim (fun h => HSg.out b h) (fun h => by omega)), GrewB.from_ Hb1.out (by omega) hG, by rw [← hdn.1]; exact hN, hL.congr hdn.2⟩
  case stop =>
    rintro D cc pre W _ _ h _
    exact h.elim
end Go.Proofs.YtlddmjhpemihgaaDoor
