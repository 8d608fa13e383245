/-
  Texts of this claim, joined (part 4): contracts and lemmas that the last text goes by. No statement of the seat is proved here.
-/
import Derived.Test.YtdghbdiapkelnaaAll3
import Derived.Deep.RegionHeld3
import Derived.Laws.Cover3
set_option linter.unusedVariables false
set_option linter.unusedSimpArgs false
/-
  Where a key's leaf stands. No statement of the seat is proved here.
-/
namespace Go.Proofs.Ytdghbdiapkelnaa
open Go Go.RowKit Go.Maps
set_option maxRecDepth 100000

section
variable {S : Nat → Prop} {w : World} {g : Nat} {t : Tr} {A R : Option Addr} {c d : Nat} {xs ys : List Value} {M : Option Nat}
/-- what a lookup says, in each world that came of it -/
theorem TrAt.look (h : TrAt S w g t A c xs R d ys M) (hG : Good t) (l : List Tok) (hk : okKey l.length (keyA l) (keyB l)) : ∃ (v : Nat) (ok : Bool), (∀ W, Below w.heap.size w W → (Instr.lookup 66 (.map M) (keyV l.length (keyA l) (keyB l)) true).run Try.prog W = .ok (.tuple #[.int .i64 (v : Int), .bool ok]) W) ∧ ((ok = false ∧ leafAt t l = none) ∨ (ok = true ∧ v < t.lv.length ∧ leafAt t l = some v)) := by
  cases hl : leafAt t l with
  | none =>
    refine ⟨0, false, fun W hW => ?_, .inl ⟨rfl, rfl⟩⟩
    rcases h.map with ⟨rfl, _⟩ | ⟨b, rfl, hb⟩
    · exact look_nil' hk
    · refine look_no (hb.ext hW) hk (place_no h.okl hk _ (Nat.le_refl _) (fun j hj _ => leaf_none hl _ (List.getElem_mem hj)))
  | some i =>
    obtain ⟨hi, _, h1, h2, h3⟩ := leaf_some hl
    refine ⟨i, true, fun W hW => ?_, .inr ⟨rfl, hi, rfl⟩⟩
    rcases h.map with ⟨_, h0⟩ | ⟨b, rfl, hb⟩
    · rw [h0] at hi; exact absurd hi (by simp)
    · refine look_yes (hb.ext hW) hk (place_at h.okl hk hi ⟨h1, h2, h3⟩ (fun j hj hij => ?_) _ (Nat.le_refl _) hi)
      have := List.pairwise_iff_getElem.1 hG.apart i j hi hj hij
      intro hx
      exact this ⟨by rw [h1, hx.1], by rw [h2, hx.2.1], by rw [h3, hx.2.2]⟩

set_option maxHeartbeats 4000000 in
theorem find_any (h : TrAt S w g t A c xs R d ys M) (hG : Good t) (l : List Tok) (hk : okKey l.length (keyA l) (keyB l)) :
    Calls Try.prog 64 #[.pointer (some ⟨g, 1, none⟩), keyV l.length (keyA l) (keyB l)] w fun e w' => Below w.heap.size w w' ∧ ((leafAt t l = none ∧ e = .returned (.pointer none)) ∨ ∃ i gR oR, leafAt t l = some i ∧ R = some ⟨gR, oR, none⟩ ∧ e = .returned (.pointer (some ⟨gR, oR + i * 4, none⟩))) := by
  obtain ⟨v, ok, hlk, hok⟩ := h.look hG l hk
  have hlv := hG.lvs
  have hlvi : (t.lv.length : Int) ≤ 32 := by omega
  have HB := Lib.hid h.blk
  have HRw := Lib.hid (fun (h0 : 0 < t.lv.length) => h.rows.addr h0)
  generalize leafAt t l = Q at *
  unfold keyV at hlk ⊢
  obtain ⟨KA, hKA⟩ : ∃ K : ByteArray, strV (keyA l) = .string K := ⟨_, rfl⟩
  obtain ⟨KB, hKB⟩ : ∃ K : ByteArray, strV (keyB l) = .string K := ⟨_, rfl⟩
  rw [hKA, hKB] at hlk ⊢
  generalize l.length = n at *
  obtain ⟨w1, hw1⟩ : ∃ w1, w1 = w.alloc (.cells #[.int .i64 (n : Int), .string KA, .string KB] 94) := ⟨_, rfl⟩
  have hb1 : Below w.heap.size w w1 := by rw [hw1]; exact ext_alloc (Below.refl _ _) _
  have HX1 : Hid (Blk w1 w.heap.size 94 #[.int .i64 (n : Int), .string KA, .string KB]) := Lib.hid (by rw [hw1]; exact Blk.new _ _ _)
  have HB1 := Lib.hid (HB.out.ext hb1)
  have Hb1 := Lib.hid hb1
  have Hw1 := Lib.hid hw1
  have HK : Hid (∀ W, Below w1.heap.size w1 W → W.cell? ⟨g, 2, none⟩ = some (.map M) ∧ W.cell? ⟨w.heap.size, 0, none⟩ = some (.int .i64 (n : Int)) ∧ W.cell? ⟨w.heap.size, 1, none⟩ = some (.string KA) ∧ W.cell? ⟨w.heap.size, 2, none⟩ = some (.string KB) ∧ (Instr.lookup 66 (.map M) (.agg #[.int .i64 (n : Int), .string KA, .string KB]) true).run Try.prog W = .ok (.tuple #[.int .i64 (v : Int), .bool ok]) W) := Lib.hid (fun W hW =>
    ⟨(HB1.out.ext hW).cell 2, (HX1.out.ext hW).cell 0, (HX1.out.ext hW).cell 1, (HX1.out.ext hW).cell 2, hlk W (ext_trans Hb1.out hW)⟩)
  have x1 := HB1.out.cell 1
  simp only [List.getElem?_toArray, List.getElem?_cons_zero, List.getElem?_cons_succ] at x1
  clear hlk h hKA hKB hb1 hw1 HB hk hlv
  go_enter Try.func64, Try.ntmps64
  go_wp2_with fail
  rw [← Hw1.out]
  refine wp_region_held_drew (S := fun W => W.cell? ⟨g, 2, none⟩ = some (.map M) ∧ W.cell? ⟨w.heap.size, 0, none⟩ = some (.int .i64 (n : Int)) ∧ W.cell? ⟨w.heap.size, 1, none⟩ = some (.string KA) ∧ W.cell? ⟨w.heap.size, 2, none⟩ = some (.string KB) ∧ (Instr.lookup 66 (.map M) (.agg #[.int .i64 (n : Int), .string KA, .string KB]) true).run Try.prog W = .ok (.tuple #[.int .i64 (v : Int), .bool ok]) W) (by kernel_rfl) ?_ (fun hHeld => ?_)
  · exact HK.out _ (by repeat (first | exact Below.refl _ _ | apply ext_drew | apply ext_drewN | apply ext_alloc))
  refine wpAnyH_take (i := 0) (v := ?_) (take_list rfl) (by kernel_rfl) (by kernel_rfl) (by kernel_rfl) (fun _ _ _ h => h) (Or.inl ⟨by rfl, ?_⟩) (by assumption) ?_
  rotate_left
  · intro w hSw
    try dsimp only at hSw
    first | (go_simp; done) | (go_simp; with_reducible rfl)
  try simp only [Act.put, List.setIfInBounds_toArray, List.set_cons_zero, List.set_cons_succ]
  refine wpAnyH_take (i := 1) (v := ?_) (take_list rfl) (by kernel_rfl) (by kernel_rfl) (by kernel_rfl) (fun _ _ _ h => h) (Or.inl ⟨by rfl, ?_⟩) (by assumption) ?_
  rotate_left
  · intro w hSw
    try dsimp only at hSw
    first | (go_simp; done) | (go_simp; with_reducible rfl)
  try simp only [Act.put, List.setIfInBounds_toArray, List.set_cons_zero, List.set_cons_succ]
  refine wpAnyH_take (i := 2) (v := ?_) (take_list rfl) (by kernel_rfl) (by kernel_rfl) (by kernel_rfl) (fun _ _ _ h => h) (Or.inl ⟨by rfl, ?_⟩) (by assumption) ?_
  rotate_left
  · intro w hSw
    try dsimp only at hSw
    first | (go_simp; done) | (go_simp; with_reducible rfl)
  try simp only [Act.put, List.setIfInBounds_toArray, List.set_cons_zero, List.set_cons_succ]
  refine wpAnyH_take (i := 3) (v := ?_) (take_list rfl) (by kernel_rfl) (by kernel_rfl) (by kernel_rfl) (fun _ _ _ h => h) (Or.inl ⟨by rfl, ?_⟩) (by assumption) ?_
  rotate_left
  · intro w hSw
    try dsimp only at hSw
    first | (go_simp; done) | (go_simp; with_reducible rfl)
  try simp only [Act.put, List.setIfInBounds_toArray, List.set_cons_zero, List.set_cons_succ]
  refine wpAnyH_take (i := 4) (v := ?_) (take_list rfl) (by kernel_rfl) (by kernel_rfl) (by kernel_rfl) (fun _ _ _ h => h) (Or.inl ⟨by rfl, ?_⟩) (by assumption) ?_
  rotate_left
  · intro w hSw
    try dsimp only at hSw
    first | (go_simp; done) | (go_simp; with_reducible rfl)
  try simp only [Act.put, List.setIfInBounds_toArray, List.set_cons_zero, List.set_cons_succ]
  refine wpAnyH_take (i := 5) (v := ?_) (take_list rfl) (by kernel_rfl) (by kernel_rfl) (by kernel_rfl) (fun _ _ _ h => h) (Or.inl ⟨by rfl, ?_⟩) (by assumption) ?_
  rotate_left
  · intro w hSw
    try dsimp only at hSw
    first | (go_simp; done) | (go_simp; with_reducible rfl)
  try simp only [Act.put, List.setIfInBounds_toArray, List.set_cons_zero, List.set_cons_succ]
  refine wpAnyH_take (i := 6) (v := ?_) (take_list rfl) (by kernel_rfl) (by kernel_rfl) (by kernel_rfl) (fun _ _ _ h => h) (Or.inl ⟨by rfl, ?_⟩) (by assumption) ?_
  rotate_left
  · intro w hSw
    try dsimp only at hSw
    first | (go_simp; done) | (go_simp; with_reducible rfl)
  try simp only [Act.put, List.setIfInBounds_toArray, List.set_cons_zero, List.set_cons_succ]
  refine wpAnyH_take (i := 7) (v := ?_) (take_list rfl) (by kernel_rfl) (by kernel_rfl) (by kernel_rfl) (fun _ _ _ h => h) (Or.inl ⟨by rfl, ?_⟩) (by assumption) ?_
  rotate_left
  · intro w hSw
    try dsimp only at hSw
    first | (go_simp; done) | (go_simp; with_reducible rfl)
  try simp only [Act.put, List.setIfInBounds_toArray, List.set_cons_zero, List.set_cons_succ]
  refine wpAnyH_take (i := 8) (v := ?_) (take_list rfl) (by kernel_rfl) (by kernel_rfl) (by kernel_rfl) (fun _ _ _ h => h) (Or.inl ⟨by rfl, ?_⟩) (by assumption) ?_
  rotate_left
  · intro w hSw
    try dsimp only at hSw
    first | (go_simp; done) | (go_simp; with_reducible rfl)
  try simp only [Act.put, List.setIfInBounds_toArray, List.set_cons_zero, List.set_cons_succ]
  refine wpAnyH_take (i := 9) (v := ?_) (take_list rfl) (by kernel_rfl) (by kernel_rfl) (by kernel_rfl) (fun _ _ _ h => h) (Or.inl ⟨by rfl, ?_⟩) (by assumption) ?_
  rotate_left
  · intro w hSw
    try dsimp only at hSw
    first | (go_simp; done) | (go_simp; with_reducible rfl)
  try simp only [Act.put, List.setIfInBounds_toArray, List.set_cons_zero, List.set_cons_succ]
  refine wpAnyH_take (i := 10) (v := ?_) (take_list rfl) (by kernel_rfl) (by kernel_rfl) (by kernel_rfl) (fun _ _ _ h => h) (Or.inl ⟨by rfl, ?_⟩) (by assumption) ?_
  rotate_left
  · intro w hSw
    try dsimp only at hSw
    first | (go_simp; done) | (go_simp; with_reducible rfl)
  try simp only [Act.put, List.setIfInBounds_toArray, List.set_cons_zero, List.set_cons_succ]
  refine wpAnyH_done (by kernel_rfl) ?_ _
  rcases hok with ⟨rfl, hQ⟩ | ⟨rfl, hv, hQ⟩
  · go_wp2
    go_ret
    exact ⟨Hb1.out.drew, .inl ⟨hQ, rfl⟩⟩
  · obtain ⟨gR, oR, rfl⟩ := HRw.out (by omega)
    have hvi : (v : Int) < (t.lv.length : Int) := by omega
    have Hv := Lib.hid hv
    clear hv
    go_wp2
    go_ret
    exact ⟨Hb1.out.drew, .inr ⟨v, gR, oR, hQ, rfl, rfl⟩⟩
end
end Go.Proofs.Ytdghbdiapkelnaa

/-
  Where a key's leaf stands, in a decoder's block. No statement of the seat is proved here.
-/
namespace Go.Proofs.Ytdghbdiapkelnaa
open Go Go.RowKit Go.Maps
set_option maxRecDepth 100000

section
variable {S : Nat → Prop} {w : World} {g : Nat} {t : Tr} {A R : Option Addr} {c d : Nat} {xs ys : List Value} {M : Option Nat} {rp : Value} {us : List Value}
/-- what a lookup says, in each world that came of it -/
theorem TdAt.look (h : TdAt rp us S w g t A c xs R d ys M) (hG : Good t) (l : List Tok) (hk : okKey l.length (keyA l) (keyB l)) : ∃ (v : Nat) (ok : Bool), (∀ W, Below w.heap.size w W → (Instr.lookup 66 (.map M) (keyV l.length (keyA l) (keyB l)) true).run Try.prog W = .ok (.tuple #[.int .i64 (v : Int), .bool ok]) W) ∧ ((ok = false ∧ leafAt t l = none) ∨ (ok = true ∧ v < t.lv.length ∧ leafAt t l = some v)) := by
  cases hl : leafAt t l with
  | none =>
    refine ⟨0, false, fun W hW => ?_, .inl ⟨rfl, rfl⟩⟩
    rcases h.map with ⟨rfl, _⟩ | ⟨b, rfl, hb⟩
    · exact look_nil' hk
    · refine look_no (hb.ext hW) hk (place_no h.okl hk _ (Nat.le_refl _) (fun j hj _ => leaf_none hl _ (List.getElem_mem hj)))
  | some i =>
    obtain ⟨hi, _, h1, h2, h3⟩ := leaf_some hl
    refine ⟨i, true, fun W hW => ?_, .inr ⟨rfl, hi, rfl⟩⟩
    rcases h.map with ⟨_, h0⟩ | ⟨b, rfl, hb⟩
    · rw [h0] at hi; exact absurd hi (by simp)
    · refine look_yes (hb.ext hW) hk (place_at h.okl hk hi ⟨h1, h2, h3⟩ (fun j hj hij => ?_) _ (Nat.le_refl _) hi)
      have := List.pairwise_iff_getElem.1 hG.apart i j hi hj hij
      intro hx
      exact this ⟨by rw [h1, hx.1], by rw [h2, hx.2.1], by rw [h3, hx.2.2]⟩

set_option maxHeartbeats 4000000 in
theorem dfind_any (h : TdAt rp us S w g t A c xs R d ys M) (hG : Good t) (l : List Tok) (hk : okKey l.length (keyA l) (keyB l)) :
    Calls Try.prog 64 #[.pointer (some ⟨g, 2, none⟩), keyV l.length (keyA l) (keyB l)] w fun e w' => Below w.heap.size w w' ∧ ((leafAt t l = none ∧ e = .returned (.pointer none)) ∨ ∃ i gR oR, leafAt t l = some i ∧ R = some ⟨gR, oR, none⟩ ∧ e = .returned (.pointer (some ⟨gR, oR + i * 4, none⟩))) := by
  obtain ⟨v, ok, hlk, hok⟩ := h.look hG l hk
  have hlv := hG.lvs
  have hlvi : (t.lv.length : Int) ≤ 32 := by omega
  have HB := Lib.hid h.blk
  have HRw := Lib.hid (fun (h0 : 0 < t.lv.length) => h.rows.addr h0)
  generalize leafAt t l = Q at *
  unfold keyV at hlk ⊢
  obtain ⟨KA, hKA⟩ : ∃ K : ByteArray, strV (keyA l) = .string K := ⟨_, rfl⟩
  obtain ⟨KB, hKB⟩ : ∃ K : ByteArray, strV (keyB l) = .string K := ⟨_, rfl⟩
  rw [hKA, hKB] at hlk ⊢
  generalize l.length = n at *
  obtain ⟨w1, hw1⟩ : ∃ w1, w1 = w.alloc (.cells #[.int .i64 (n : Int), .string KA, .string KB] 94) := ⟨_, rfl⟩
  have hb1 : Below w.heap.size w w1 := by rw [hw1]; exact ext_alloc (Below.refl _ _) _
  have HX1 : Hid (Blk w1 w.heap.size 94 #[.int .i64 (n : Int), .string KA, .string KB]) := Lib.hid (by rw [hw1]; exact Blk.new _ _ _)
  have HB1 := Lib.hid (HB.out.ext hb1)
  have Hb1 := Lib.hid hb1
  have Hw1 := Lib.hid hw1
  have HK : Hid (∀ W, Below w1.heap.size w1 W → W.cell? ⟨g, 3, none⟩ = some (.map M) ∧ W.cell? ⟨w.heap.size, 0, none⟩ = some (.int .i64 (n : Int)) ∧ W.cell? ⟨w.heap.size, 1, none⟩ = some (.string KA) ∧ W.cell? ⟨w.heap.size, 2, none⟩ = some (.string KB) ∧ (Instr.lookup 66 (.map M) (.agg #[.int .i64 (n : Int), .string KA, .string KB]) true).run Try.prog W = .ok (.tuple #[.int .i64 (v : Int), .bool ok]) W) := Lib.hid (fun W hW =>
    ⟨(HB1.out.ext hW).cell 3, (HX1.out.ext hW).cell 0, (HX1.out.ext hW).cell 1, (HX1.out.ext hW).cell 2, hlk W (ext_trans Hb1.out hW)⟩)
  have x1 := HB1.out.cell 2
  simp only [List.getElem?_toArray, List.getElem?_cons_zero, List.getElem?_cons_succ] at x1
  clear hlk h hKA hKB hb1 hw1 HB hk hlv
  go_enter Try.func64, Try.ntmps64
  go_wp2_with fail
  rw [← Hw1.out]
  refine wp_region_held_drew (S := fun W => W.cell? ⟨g, 3, none⟩ = some (.map M) ∧ W.cell? ⟨w.heap.size, 0, none⟩ = some (.int .i64 (n : Int)) ∧ W.cell? ⟨w.heap.size, 1, none⟩ = some (.string KA) ∧ W.cell? ⟨w.heap.size, 2, none⟩ = some (.string KB) ∧ (Instr.lookup 66 (.map M) (.agg #[.int .i64 (n : Int), .string KA, .string KB]) true).run Try.prog W = .ok (.tuple #[.int .i64 (v : Int), .bool ok]) W) (by kernel_rfl) ?_ (fun hHeld => ?_)
  · exact HK.out _ (by repeat (first | exact Below.refl _ _ | apply ext_drew | apply ext_drewN | apply ext_alloc))
  refine wpAnyH_take (i := 0) (v := ?_) (take_list rfl) (by kernel_rfl) (by kernel_rfl) (by kernel_rfl) (fun _ _ _ h => h) (Or.inl ⟨by rfl, ?_⟩) (by assumption) ?_
  rotate_left
  · intro w hSw
    try dsimp only at hSw
    first | (go_simp; done) | (go_simp; with_reducible rfl)
  try simp only [Act.put, List.setIfInBounds_toArray, List.set_cons_zero, List.set_cons_succ]
  refine wpAnyH_take (i := 1) (v := ?_) (take_list rfl) (by kernel_rfl) (by kernel_rfl) (by kernel_rfl) (fun _ _ _ h => h) (Or.inl ⟨by rfl, ?_⟩) (by assumption) ?_
  rotate_left
  · intro w hSw
    try dsimp only at hSw
    first | (go_simp; done) | (go_simp; with_reducible rfl)
  try simp only [Act.put, List.setIfInBounds_toArray, List.set_cons_zero, List.set_cons_succ]
  refine wpAnyH_take (i := 2) (v := ?_) (take_list rfl) (by kernel_rfl) (by kernel_rfl) (by kernel_rfl) (fun _ _ _ h => h) (Or.inl ⟨by rfl, ?_⟩) (by assumption) ?_
  rotate_left
  · intro w hSw
    try dsimp only at hSw
    first | (go_simp; done) | (go_simp; with_reducible rfl)
  try simp only [Act.put, List.setIfInBounds_toArray, List.set_cons_zero, List.set_cons_succ]
  refine wpAnyH_take (i := 3) (v := ?_) (take_list rfl) (by kernel_rfl) (by kernel_rfl) (by kernel_rfl) (fun _ _ _ h => h) (Or.inl ⟨by rfl, ?_⟩) (by assumption) ?_
  rotate_left
  · intro w hSw
    try dsimp only at hSw
    first | (go_simp; done) | (go_simp; with_reducible rfl)
  try simp only [Act.put, List.setIfInBounds_toArray, List.set_cons_zero, List.set_cons_succ]
  refine wpAnyH_take (i := 4) (v := ?_) (take_list rfl) (by kernel_rfl) (by kernel_rfl) (by kernel_rfl) (fun _ _ _ h => h) (Or.inl ⟨by rfl, ?_⟩) (by assumption) ?_
  rotate_left
  · intro w hSw
    try dsimp only at hSw
    first | (go_simp; done) | (go_simp; with_reducible rfl)
  try simp only [Act.put, List.setIfInBounds_toArray, List.set_cons_zero, List.set_cons_succ]
  refine wpAnyH_take (i := 5) (v := ?_) (take_list rfl) (by kernel_rfl) (by kernel_rfl) (by kernel_rfl) (fun _ _ _ h => h) (Or.inl ⟨by rfl, ?_⟩) (by assumption) ?_
  rotate_left
  · intro w hSw
    try dsimp only at hSw
    first | (go_simp; done) | (go_simp; with_reducible rfl)
  try simp only [Act.put, List.setIfInBounds_toArray, List.set_cons_zero, List.set_cons_succ]
  refine wpAnyH_take (i := 6) (v := ?_) (take_list rfl) (by kernel_rfl) (by kernel_rfl) (by kernel_rfl) (fun _ _ _ h => h) (Or.inl ⟨by rfl, ?_⟩) (by assumption) ?_
  rotate_left
  · intro w hSw
    try dsimp only at hSw
    first | (go_simp; done) | (go_simp; with_reducible rfl)
  try simp only [Act.put, List.setIfInBounds_toArray, List.set_cons_zero, List.set_cons_succ]
  refine wpAnyH_take (i := 7) (v := ?_) (take_list rfl) (by kernel_rfl) (by kernel_rfl) (by kernel_rfl) (fun _ _ _ h => h) (Or.inl ⟨by rfl, ?_⟩) (by assumption) ?_
  rotate_left
  · intro w hSw
    try dsimp only at hSw
    first | (go_simp; done) | (go_simp; with_reducible rfl)
  try simp only [Act.put, List.setIfInBounds_toArray, List.set_cons_zero, List.set_cons_succ]
  refine wpAnyH_take (i := 8) (v := ?_) (take_list rfl) (by kernel_rfl) (by kernel_rfl) (by kernel_rfl) (fun _ _ _ h => h) (Or.inl ⟨by rfl, ?_⟩) (by assumption) ?_
  rotate_left
  · intro w hSw
    try dsimp only at hSw
    first | (go_simp; done) | (go_simp; with_reducible rfl)
  try simp only [Act.put, List.setIfInBounds_toArray, List.set_cons_zero, List.set_cons_succ]
  refine wpAnyH_take (i := 9) (v := ?_) (take_list rfl) (by kernel_rfl) (by kernel_rfl) (by kernel_rfl) (fun _ _ _ h => h) (Or.inl ⟨by rfl, ?_⟩) (by assumption) ?_
  rotate_left
  · intro w hSw
    try dsimp only at hSw
    first | (go_simp; done) | (go_simp; with_reducible rfl)
  try simp only [Act.put, List.setIfInBounds_toArray, List.set_cons_zero, List.set_cons_succ]
  refine wpAnyH_take (i := 10) (v := ?_) (take_list rfl) (by kernel_rfl) (by kernel_rfl) (by kernel_rfl) (fun _ _ _ h => h) (Or.inl ⟨by rfl, ?_⟩) (by assumption) ?_
  rotate_left
  · intro w hSw
    try dsimp only at hSw
    first | (go_simp; done) | (go_simp; with_reducible rfl)
  try simp only [Act.put, List.setIfInBounds_toArray, List.set_cons_zero, List.set_cons_succ]
  refine wpAnyH_done (by kernel_rfl) ?_ _
  rcases hok with ⟨rfl, hQ⟩ | ⟨rfl, hv, hQ⟩
  · go_wp2
    go_ret
    exact ⟨Hb1.out.drew, .inl ⟨hQ, rfl⟩⟩
  · obtain ⟨gR, oR, rfl⟩ := HRw.out (by omega)
    have hvi : (v : Int) < (t.lv.length : Int) := by omega
    have Hv := Lib.hid hv
    clear hv
    go_wp2
    go_ret
    exact ⟨Hb1.out.drew, .inr ⟨v, gR, oR, hQ, rfl, rfl⟩⟩
end
end Go.Proofs.Ytdghbdiapkelnaa

/-
  A template more; a leaf more. No statement of the seat is proved here.
-/
namespace Go.Proofs.Ytdghbdiapkelnaa
open Go Go.RowKit Go.Maps
set_option maxRecDepth 100000

theorem ownsPlace.ne_blk {w : World} {b n g : Nat} {D : DataW Unit} {T : TypeId} {cs : Array Value} (h : ownsPlace w b n D) (hb : Blk w g T cs) : b ≠ g := fun e => by
  obtain ⟨es, clock, h1, _⟩ := h
  subst e
  rw [show w.heap[b]? = some (.cells cs T (0, 0)) from hb] at h1
  cases h1
theorem ownsPlace.ne_row {w : World} {b n : Nat} {D : DataW Unit} {e : TypeId} {sz m c : Nat} {A : Option Addr} {xs : List Value} (h : ownsPlace w b n D) (hr : RowO w e sz A m c xs) : ¬ inA A b := fun hk => by
  rcases hr.2 with ⟨rfl, _⟩ | ⟨g, off, cs, rfl, _, _, hb, _⟩
  · exact inA_none _ hk
  · rw [inA_some] at hk
    exact h.ne_blk hb hk.symm
section
variable {S T : Nat → Prop} {w w2 w3 : World} {g : Nat} {t : Tr} {A R A' : Option Addr} {c d c' : Nat} {xs ys : List Value} {M : Option Nat}
/-- what is not of the kinds that turn stays: the map's block -/
theorem TrAt.mapNe (h : TrAt S w g t A c xs R d ys M) {b : Nat} (hb : M = some b) {T : TypeId} {cs : Array Value} {k : Nat} (hk : Blk w k T cs) : b ≠ k := by
  rcases h.map with ⟨h0, _⟩ | ⟨b', h0, h1⟩
  · rw [h0] at hb; cases hb
  · rw [h0] at hb; injection hb with hb; subst hb; exact h1.ne_blk hk
theorem TrAt.mapNeR (h : TrAt S w g t A c xs R d ys M) {b : Nat} (hb : M = some b) {e : TypeId} {sz m c2 : Nat} {B : Option Addr} {zs : List Value} (hk : RowO w e sz B m c2 zs) : ¬ inA B b := by
  rcases h.map with ⟨h0, _⟩ | ⟨b', h0, h1⟩
  · rw [h0] at hb; cases hb
  · rw [h0] at hb; injection hb with hb; subst hb; exact h1.ne_row hk
/-- a template laid behind the others -/
theorem TrAt.added (h : TrAt S w g t A c xs R d ys M) {p : List Prt} {B : Option Addr} {e : Nat} (hb : Below w.heap.size w w2) (hr : RowO w3 39 1 A' (t.ts.length + 1) c' (xs ++ [.slice B p.length e])) (ho : Only (inA A) w2 w3)
    (hA : ∀ k, inA A' k → inA A k ∨ (w2.heap.size ≤ k ∧ k < w3.heap.size)) (hp : RowO w 72 2 B p.length e (cellsP p)) (hs : ∀ k, S k → T k) (hB : ∀ k, inA B k → T k) (hN : ∀ k, w.heap.size ≤ k → k < w3.heap.size → T k) (hl : ∀ k, T k → k < w3.heap.size) :
    TrAt T (w3.setCell ⟨g, 0, none⟩ (.slice A' (t.ts.length + 1) c')) g (addT t p t.lv) A' c' (xs ++ [.slice B p.length e]) R d ys M := by
  have hgA : ¬ inA A g := h.own.ne_blk h.blk (by decide)
  have hO3 : Only (fun k => inA A k ∨ k = g) w w3 := (Only.of_ext (S := fun k => inA A k ∨ k = g) hb).trans ho (fun _ _ h => .inl h)
  have hO : Only (fun k => inA A k ∨ k = g) w (w3.setCell ⟨g, 0, none⟩ (.slice A' (t.ts.length + 1) c')) := hO3.setCell (.inl (.inr rfl)) _
  have hblk3 : Blk w3 g 70 #[.slice A t.ts.length c, .slice R t.lv.length d, .map M] := (h.blk.ext hb).only ho hgA
  have hsz : (w3.setCell ⟨g, 0, none⟩ (.slice A' (t.ts.length + 1) c')).heap.size = w3.heap.size := by simp [World.setCell]
  have hT : (addT t p t.lv).ts = t.ts ++ [p] := rfl
  have hTl : (addT t p t.lv).ts.length = t.ts.length + 1 := by rw [hT]; simp
  refine ⟨?_, ?_, ?_, ?_, fun j hj => ?_, fun j hj => ?_, h.apart, h.okl, hs _ h.sg, fun k hk => ?_, fun k hk => hs _ (h.sR k hk), fun b hb => hs _ (h.sM b hb), fun k hk => by rw [hsz]; exact hl k hk⟩
  · rw [hTl]
    have := hblk3.put 0 (.slice A' (t.ts.length + 1) c')
    simp only [List.setIfInBounds_toArray, List.set_cons_zero] at this
    exact this
  · rw [hTl]
    exact hr.keep fun k hk => Below.heap_setCell w3 _ _ k (fun e => hr.ne_blk hblk3 (by decide) (by rw [← show k = g from e]; exact hk))
  · exact h.rows.only hO (fun k hk hx => hx.elim (fun hx => h.rows.ne_rowT h.own (by decide) k hk hx) (fun hx => h.rows.ne_blk h.blk (by decide) (by rw [← hx]; exact hk)))
  · exact h.map.only hO (fun b hb hx => hx.elim (fun hx => h.mapNeR hb h.own hx) (fun hx => h.mapNe hb h.blk hx))
  · by_cases hjn : j < t.ts.length
    · obtain ⟨B', e', h1, h2, h3⟩ := h.tsAt j hjn
      refine ⟨B', e', ?_, ?_, fun k hk => hs k (h3 k hk)⟩
      · rw [List.getElem?_append_left (by have := h.own.1; omega)]
        simp only [hT, List.getElem_append_left hjn]
        exact h1
      · simp only [hT, List.getElem_append_left hjn]
        exact h2.only hO (fun k hk hx => hx.elim (fun hx => h2.ne_rowT h.own (by decide) k hk hx) (fun hx => h2.ne_blk h.blk (by decide) (by rw [← hx]; exact hk)))
    · have hjl : j = t.ts.length := by rw [hTl] at hj; omega
      subst hjl
      have hxl : xs.length = t.ts.length := by have := h.own.1; omega
      refine ⟨B, e, ?_, ?_, hB⟩
      · rw [List.getElem?_append_right (by omega), hxl]
        simp [hT]
      · simp only [hT, List.getElem_append_right (Nat.le_refl _), Nat.sub_self, List.getElem_cons_zero]
        exact hp.only hO (fun k hk hx => hx.elim (fun hx => hp.ne_rowT h.own (by decide) k hk hx) (fun hx => hp.ne_blk h.blk (by decide) (by rw [← hx]; exact hk)))
  · obtain ⟨G, e', h1, h2, h3, h4, h5, h6⟩ := h.lvAt j hj
    exact ⟨G, e', h1, h2, h3, h4, h5.only hO (fun k hk hx => hx.elim (fun hx => h5.ne_rowT h.own (by decide) k hk hx) (fun hx => h5.ne_blk h.blk (by decide) (by rw [← hx]; exact hk))), fun k hk => hs k (h6 k hk)⟩
  · rcases hA k hk with hx | ⟨hx, hy⟩
    · exact hs _ (h.sA k hx)
    · exact hN k (Nat.le_trans hb.size hx) hy
theorem info_tmpl : (Try.prog.info? 39).map (fun i => (i.zero, i.size, i.bytes)) = some (some (.slice none 0 0), 1, 24) := by kernel_rfl
theorem info_leaf : (Try.prog.info? 96).map (fun i => (i.zero, i.size, i.bytes)) = some (some (.agg #[.int .i64 0, .string ⟨#[]⟩, .string ⟨#[]⟩, .slice none 0 0]), 4, 64) := by kernel_rfl
/-- what a tree owns behind a step: what it had, and what was made since -/
def grewS (S : Nat → Prop) (w w' : World) (k : Nat) : Prop := S k ∨ (w.heap.size ≤ k ∧ k < w'.heap.size)
set_option maxHeartbeats 4000000 in
theorem add_any (h : TrAt S w g t A c xs R d ys M) (hi : t.ts.length ≤ 1000000) {p : List Prt} {B : Option Addr} {e : Nat} (hp : RowO w 72 2 B p.length e (cellsP p)) :
    Calls Try.prog 52 #[.pointer (some ⟨g, 0, none⟩), .slice B p.length e] w fun e' w' => e' = .returned (.int .i64 ((t.ts.length : Int) + 1)) ∧ (∃ A' c', TrAt (fun k => grewS S w w' k ∨ inA B k) w' g (addT t p t.lv) A' c' (xs ++ [.slice B p.length e]) R d ys M) ∧ Only S w w' := by
  have x0 := h.blk.cell 0
  simp only [List.getElem?_toArray, List.getElem?_cons_zero, List.getElem?_cons_succ] at x0
  have H := Lib.hid h
  have Hp := Lib.hid hp
  have hii : (t.ts.length : Int) ≤ 1000000 := by omega
  have hp1 : t.ts.length + 1 ≤ maxLen := by unfold maxLen; omega
  have hp2 : (t.ts.length + 1) * 24 ≤ 140737488355328 := by omega
  obtain ⟨m, hm⟩ : ∃ m, p.length = m := ⟨_, rfl⟩
  have Hm := Lib.hid hm
  rw [hm]
  clear h hp hm
  go_enter Try.func52, Try.ntmps52
  go_wp2_with (at_builtin
               have hbl : Below w.heap.size w (w.alloc (.cells #[.slice B m e] 39)) := ext_alloc (Below.refl _ _) _
               refine wpList_appO _ rfl (.tmp 9) (.tmp 11) _ rfl 39 _ 1 24 Try.underlying45 info_tmpl rfl A t.ts.length c xs rfl (H.out.own.ext hbl) (some ⟨w.heap.size, 0, none⟩) 1 1 [.slice B m e] rfl rfl (Rd.lit_at _ #[.slice B m e] _ rfl) (by intro u hu; simp at hu; subst hu; rfl) (by intro h; cases h) hp1 hp2 ?_
               intro A5 c5 w5 hr5 ho5 hA5
               rw [← Hm.out] at hr5
               have hgA : ¬ inA A g := H.out.own.ne_blk H.out.blk (by decide)
               have hblk := (H.out.blk.ext hbl).only ho5 hgA
               have f0 := hblk.free 0
               have q0 := hblk.cell 0
               have s0 := (hblk.put 0 (.slice A5 (t.ts.length + 1) c5)).cell 0
               have hsz := hbl.size
               have hsz5 := ho5.size
               have hz : (w5.setCell ⟨g, 0, none⟩ (.slice A5 (t.ts.length + 1) c5)).heap.size = w5.heap.size := by simp [World.setCell]
               have HT6 : Hid (TrAt (fun k => grewS S w (w5.setCell ⟨g, 0, none⟩ (.slice A5 (t.ts.length + 1) c5)) k ∨ inA B k) (w5.setCell ⟨g, 0, none⟩ (.slice A5 (t.ts.length + 1) c5)) g (addT t p t.lv) A5 c5 (xs ++ [.slice B p.length e]) R d ys M) := Lib.hid (H.out.added hbl hr5 ho5 hA5 Hp.out (fun k hk => .inl (.inl hk)) (fun k hk => .inr hk) (fun k h1 h2 => .inl (.inr ⟨h1, by rw [hz]; exact h2⟩)) (fun k hk => by
                 rcases hk with (hk | hk) | hk
                 · have := H.out.lt k hk; omega
                 · rw [hz] at hk; exact hk.2
                 · have := Hp.out.lt hk; omega))
               have HO6 : Hid (Only S w (w5.setCell ⟨g, 0, none⟩ (.slice A5 (t.ts.length + 1) c5))) := Lib.hid (((Only.of_ext (S := S) hbl).trans ho5 (fun k _ hk => H.out.sA k hk)).setCell (.inl H.out.sg) _)
               simp only [List.getElem?_toArray, List.setIfInBounds_toArray, List.set_cons_zero, List.set_cons_succ, List.getElem?_cons_zero, List.getElem?_cons_succ] at q0 s0
               clear hr5 ho5 hA5 hgA hblk hbl hsz hsz5 hz x0)
  go_ret
  rw [← Hm.out]
  exact ⟨by first | rfl | (push_cast; rfl), ⟨A5, c5, HT6.out⟩, HO6.out⟩
end
end Go.Proofs.Ytdghbdiapkelnaa

/-
  A template more, in a decoder's block. No statement of the seat is proved here.
-/
namespace Go.Proofs.Ytdghbdiapkelnaa
open Go Go.RowKit Go.Maps
set_option maxRecDepth 100000

section
variable {S T : Nat → Prop} {w w2 w3 : World} {g : Nat} {t : Tr} {A R A' : Option Addr} {c d c' : Nat} {xs ys : List Value} {M : Option Nat} {rp : Value} {us : List Value}
/-- what is not of the kinds that turn stays: the map's block -/
theorem TdAt.mapNe (h : TdAt rp us S w g t A c xs R d ys M) {b : Nat} (hb : M = some b) {T : TypeId} {cs : Array Value} {k : Nat} (hk : Blk w k T cs) : b ≠ k := by
  rcases h.map with ⟨h0, _⟩ | ⟨b', h0, h1⟩
  · rw [h0] at hb; cases hb
  · rw [h0] at hb; injection hb with hb; subst hb; exact h1.ne_blk hk
theorem TdAt.mapNeR (h : TdAt rp us S w g t A c xs R d ys M) {b : Nat} (hb : M = some b) {e : TypeId} {sz m c2 : Nat} {B : Option Addr} {zs : List Value} (hk : RowO w e sz B m c2 zs) : ¬ inA B b := by
  rcases h.map with ⟨h0, _⟩ | ⟨b', h0, h1⟩
  · rw [h0] at hb; cases hb
  · rw [h0] at hb; injection hb with hb; subst hb; exact h1.ne_row hk
/-- a template laid behind the others -/
theorem TdAt.added (h : TdAt rp us S w g t A c xs R d ys M) {p : List Prt} {B : Option Addr} {e : Nat} (hb : Below w.heap.size w w2) (hr : RowO w3 39 1 A' (t.ts.length + 1) c' (xs ++ [.slice B p.length e])) (ho : Only (inA A) w2 w3)
    (hA : ∀ k, inA A' k → inA A k ∨ (w2.heap.size ≤ k ∧ k < w3.heap.size)) (hp : RowO w 72 2 B p.length e (cellsP p)) (hs : ∀ k, S k → T k) (hB : ∀ k, inA B k → T k) (hN : ∀ k, w.heap.size ≤ k → k < w3.heap.size → T k) (hl : ∀ k, T k → k < w3.heap.size) :
    TdAt rp us T (w3.setCell ⟨g, 1, none⟩ (.slice A' (t.ts.length + 1) c')) g (addT t p t.lv) A' c' (xs ++ [.slice B p.length e]) R d ys M := by
  have hgA : ¬ inA A g := h.own.ne_blk h.blk (by decide)
  have hO3 : Only (fun k => inA A k ∨ k = g) w w3 := (Only.of_ext (S := fun k => inA A k ∨ k = g) hb).trans ho (fun _ _ h => .inl h)
  have hO : Only (fun k => inA A k ∨ k = g) w (w3.setCell ⟨g, 1, none⟩ (.slice A' (t.ts.length + 1) c')) := hO3.setCell (.inl (.inr rfl)) _
  have hblk3 : Blk w3 g 102 (rp :: .slice A t.ts.length c :: .slice R t.lv.length d :: .map M :: us).toArray := (h.blk.ext hb).only ho hgA
  have hsz : (w3.setCell ⟨g, 1, none⟩ (.slice A' (t.ts.length + 1) c')).heap.size = w3.heap.size := by simp [World.setCell]
  have hT : (addT t p t.lv).ts = t.ts ++ [p] := rfl
  have hTl : (addT t p t.lv).ts.length = t.ts.length + 1 := by rw [hT]; simp
  refine ⟨?_, ?_, ?_, ?_, fun j hj => ?_, fun j hj => ?_, h.apart, h.okl, hs _ h.sg, fun k hk => ?_, fun k hk => hs _ (h.sR k hk), fun b hb => hs _ (h.sM b hb), fun k hk => by rw [hsz]; exact hl k hk⟩
  · rw [hTl]
    have := hblk3.put 1 (.slice A' (t.ts.length + 1) c')
    simp only [List.setIfInBounds_toArray, List.set_cons_zero, List.set_cons_succ] at this
    exact this
  · rw [hTl]
    exact hr.keep fun k hk => Below.heap_setCell w3 _ _ k (fun e => hr.ne_blk hblk3 (by decide) (by rw [← show k = g from e]; exact hk))
  · exact h.rows.only hO (fun k hk hx => hx.elim (fun hx => h.rows.ne_rowT h.own (by decide) k hk hx) (fun hx => h.rows.ne_blk h.blk (by decide) (by rw [← hx]; exact hk)))
  · exact h.map.only hO (fun b hb hx => hx.elim (fun hx => h.mapNeR hb h.own hx) (fun hx => h.mapNe hb h.blk hx))
  · by_cases hjn : j < t.ts.length
    · obtain ⟨B', e', h1, h2, h3⟩ := h.tsAt j hjn
      refine ⟨B', e', ?_, ?_, fun k hk => hs k (h3 k hk)⟩
      · rw [List.getElem?_append_left (by have := h.own.1; omega)]
        simp only [hT, List.getElem_append_left hjn]
        exact h1
      · simp only [hT, List.getElem_append_left hjn]
        exact h2.only hO (fun k hk hx => hx.elim (fun hx => h2.ne_rowT h.own (by decide) k hk hx) (fun hx => h2.ne_blk h.blk (by decide) (by rw [← hx]; exact hk)))
    · have hjl : j = t.ts.length := by rw [hTl] at hj; omega
      subst hjl
      have hxl : xs.length = t.ts.length := by have := h.own.1; omega
      refine ⟨B, e, ?_, ?_, hB⟩
      · rw [List.getElem?_append_right (by omega), hxl]
        simp [hT]
      · simp only [hT, List.getElem_append_right (Nat.le_refl _), Nat.sub_self, List.getElem_cons_zero]
        exact hp.only hO (fun k hk hx => hx.elim (fun hx => hp.ne_rowT h.own (by decide) k hk hx) (fun hx => hp.ne_blk h.blk (by decide) (by rw [← hx]; exact hk)))
  · obtain ⟨G, e', h1, h2, h3, h4, h5, h6⟩ := h.lvAt j hj
    exact ⟨G, e', h1, h2, h3, h4, h5.only hO (fun k hk hx => hx.elim (fun hx => h5.ne_rowT h.own (by decide) k hk hx) (fun hx => h5.ne_blk h.blk (by decide) (by rw [← hx]; exact hk))), fun k hk => hs k (h6 k hk)⟩
  · rcases hA k hk with hx | ⟨hx, hy⟩
    · exact hs _ (h.sA k hx)
    · exact hN k (Nat.le_trans hb.size hx) hy
set_option maxHeartbeats 4000000 in
theorem dadd_any (h : TdAt rp us S w g t A c xs R d ys M) (hi : t.ts.length ≤ 1000000) {p : List Prt} {B : Option Addr} {e : Nat} (hp : RowO w 72 2 B p.length e (cellsP p)) :
    Calls Try.prog 52 #[.pointer (some ⟨g, 1, none⟩), .slice B p.length e] w fun e' w' => e' = .returned (.int .i64 ((t.ts.length : Int) + 1)) ∧ (∃ A' c', TdAt rp us (fun k => grewS S w w' k ∨ inA B k) w' g (addT t p t.lv) A' c' (xs ++ [.slice B p.length e]) R d ys M) ∧ Only S w w' := by
  have x0 := h.blk.cell 1
  simp only [List.getElem?_toArray, List.getElem?_cons_zero, List.getElem?_cons_succ] at x0
  have H := Lib.hid h
  have Hp := Lib.hid hp
  have hii : (t.ts.length : Int) ≤ 1000000 := by omega
  have hp1 : t.ts.length + 1 ≤ maxLen := by unfold maxLen; omega
  have hp2 : (t.ts.length + 1) * 24 ≤ 140737488355328 := by omega
  obtain ⟨m, hm⟩ : ∃ m, p.length = m := ⟨_, rfl⟩
  have Hm := Lib.hid hm
  rw [hm]
  clear h hp hm
  go_enter Try.func52, Try.ntmps52
  go_wp2_with (at_builtin
               have hbl : Below w.heap.size w (w.alloc (.cells #[.slice B m e] 39)) := ext_alloc (Below.refl _ _) _
               refine wpList_appO _ rfl (.tmp 9) (.tmp 11) _ rfl 39 _ 1 24 Try.underlying45 info_tmpl rfl A t.ts.length c xs rfl (H.out.own.ext hbl) (some ⟨w.heap.size, 0, none⟩) 1 1 [.slice B m e] rfl rfl (Rd.lit_at _ #[.slice B m e] _ rfl) (by intro u hu; simp at hu; subst hu; rfl) (by intro h; cases h) hp1 hp2 ?_
               intro A5 c5 w5 hr5 ho5 hA5
               rw [← Hm.out] at hr5
               have hgA : ¬ inA A g := H.out.own.ne_blk H.out.blk (by decide)
               have hblk := (H.out.blk.ext hbl).only ho5 hgA
               have f0 := hblk.free 1
               have q0 := hblk.cell 1
               have s0 := (hblk.put 1 (.slice A5 (t.ts.length + 1) c5)).cell 1
               have hsz := hbl.size
               have hsz5 := ho5.size
               have hz : (w5.setCell ⟨g, 1, none⟩ (.slice A5 (t.ts.length + 1) c5)).heap.size = w5.heap.size := by simp [World.setCell]
               have HT6 : Hid (TdAt rp us (fun k => grewS S w (w5.setCell ⟨g, 1, none⟩ (.slice A5 (t.ts.length + 1) c5)) k ∨ inA B k) (w5.setCell ⟨g, 1, none⟩ (.slice A5 (t.ts.length + 1) c5)) g (addT t p t.lv) A5 c5 (xs ++ [.slice B p.length e]) R d ys M) := Lib.hid (H.out.added hbl hr5 ho5 hA5 Hp.out (fun k hk => .inl (.inl hk)) (fun k hk => .inr hk) (fun k h1 h2 => .inl (.inr ⟨h1, by rw [hz]; exact h2⟩)) (fun k hk => by
                 rcases hk with (hk | hk) | hk
                 · have := H.out.lt k hk; omega
                 · rw [hz] at hk; exact hk.2
                 · have := Hp.out.lt hk; omega))
               have HO6 : Hid (Only S w (w5.setCell ⟨g, 1, none⟩ (.slice A5 (t.ts.length + 1) c5))) := Lib.hid (((Only.of_ext (S := S) hbl).trans ho5 (fun k _ hk => H.out.sA k hk)).setCell (.inl H.out.sg) _)
               simp only [List.getElem?_toArray, List.setIfInBounds_toArray, List.set_cons_zero, List.set_cons_succ, List.getElem?_cons_zero, List.getElem?_cons_succ] at q0 s0
               clear hr5 ho5 hA5 hgA hblk hbl hsz hsz5 hz x0)
  go_ret
  rw [← Hm.out]
  exact ⟨by first | rfl | (push_cast; rfl), ⟨A5, c5, HT6.out⟩, HO6.out⟩
end
end Go.Proofs.Ytdghbdiapkelnaa
