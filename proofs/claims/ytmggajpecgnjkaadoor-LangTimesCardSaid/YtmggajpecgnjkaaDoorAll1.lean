/-
  Texts of this claim, joined (part 1): contracts and lemmas that the last text goes by. No statement of the seat is proved here.
-/
import Derived.Test.YtmggajpecgnjkaaDoorAll0
import Derived.Test.YtmggajpecgnjkaaDoorRows
import Derived.Deep.RegionHeld3
import Derived.Deep.RegionHeldLaw
import Derived.Deep.RegionWith
import Derived.Deep.DeepCutAuto
import Derived.Deep.CutBlock
import Derived.BigRegion
import Derived.StillTailTactics
import Derived.Deep.DeepMust
import Derived.Laws.Bits64
import Derived.Laws.Bits64b
import Derived.Laws.IdiomStrings
import Derived.Lib.BufferRead
import Derived.Lib.SlBytesConst
import Derived.ChangeKeysEq
set_option linter.unusedVariables false
set_option linter.unusedSimpArgs false
/-
  Words for sets of bytes: rows that were made anew, sets as values, loads and stores of them, keys of bits. No statement of the seat is proved here.
-/
namespace Go.Proofs.YtmggajpecgnjkaaDoor
open Go Go.RowKit
set_option maxRecDepth 100000



/-- a row that was made since 'w' -/
def NewO (w w' : World) (e : TypeId) (sz : Nat) (A : Option Addr) (m c : Nat) (xs : List Value) : Prop := RowO w' e sz A m c xs ∧ Below w.heap.size w w' ∧ ∀ k, inA A k → w.heap.size ≤ k
section
variable {w w1 w2 w3 : World} {e : TypeId} {sz : Nat} {A A' : Option Addr} {m n c c' : Nat} {xs ys : List Value}
theorem NewO.start (w : World) (e : TypeId) (sz : Nat) : NewO w w e sz none 0 0 [] := ⟨RowO.none_ _ _ _, Below.refl _ _, fun k hk => absurd hk (inA_none k)⟩
theorem NewO.row (h : NewO w w1 e sz A m c xs) : RowO w1 e sz A m c xs := h.1
theorem NewO.bel (h : NewO w w1 e sz A m c xs) : Below w.heap.size w w1 := h.2.1
theorem NewO.ext (h : NewO w w1 e sz A m c xs) (hb : Below w1.heap.size w1 w2) : NewO w w2 e sz A m c xs := ⟨h.1.ext hb, ext_trans h.2.1 hb, h.2.2⟩
theorem NewO.grow (h : NewO w w1 e sz A m c xs) (hb : Below w1.heap.size w1 w2) (hr : RowO w3 e sz A' n c' ys) (ho : Only (inA A) w2 w3) (hA : ∀ k, inA A' k → inA A k ∨ (w2.heap.size ≤ k ∧ k < w3.heap.size)) : NewO w w3 e sz A' n c' ys := by
  have h1 := h.2.1.size
  have h2 := hb.size
  refine ⟨hr, (ext_trans h.2.1 hb).trans (ho.below (fun i hi => h.2.2 i hi) (by omega)), fun k hk => ?_⟩
  rcases hA k hk with hk | hk
  · exact h.2.2 k hk
  · omega
theorem NewO.rd (h : NewO w w1 e sz A m c xs) : Rd w1 A xs := h.1.rd
theorem NewO.back {w0 : World} (h : NewO w w1 e sz A m c xs) (hb : Below w0.heap.size w0 w) : NewO w0 w1 e sz A m c xs := ⟨h.1, hb.trans (h.2.1.mono hb.size), fun k hk => Nat.le_trans hb.size (h.2.2 k hk)⟩
end

/-- an address at a place of a block -/
def Flat (A : Option Addr) : Prop := ∀ ad, A = some ad → ∃ g o, ad = ⟨g, o, none⟩
theorem RowO.flat {w : World} {e : TypeId} {sz : Nat} {A : Option Addr} {m c : Nat} {xs : List Value} (h : RowO w e sz A m c xs) : Flat A := fun ad e' => by
  rcases h.2 with ⟨h1, _⟩ | ⟨g, o, _, h1, _⟩
  · rw [h1] at e'; cases e'
  · rw [h1] at e'; injection e' with e'; exact ⟨g, o, e'.symm⟩
theorem RowO.addr {w : World} {e : TypeId} {sz : Nat} {A : Option Addr} {m c : Nat} {xs : List Value} (h : RowO w e sz A m c xs) (h0 : 0 < m) : ∃ g o, A = some ⟨g, o, none⟩ := by
  rcases h.2 with ⟨_, h1, _⟩ | ⟨g, o, _, h1, _⟩
  · omega
  · exact ⟨g, o, h1⟩
theorem RowO.free {w : World} {e : TypeId} {sz : Nat} {g o m c : Nat} {xs : List Value} (h : RowO w e sz (some ⟨g, o, none⟩) m c xs) (j : Nat) : w.frozen? ⟨g, j, none⟩ = false := by
  rcases h.2 with ⟨h1, _⟩ | ⟨g', o', cs, h1, h2, h3, h4, h5, h6⟩
  · cases h1
  · injection h1 with h1
    injection h1 with h1 h1' _
    subst h1 h1'
    exact h4.free j
theorem RowO.set {w : World} {e : TypeId} {sz : Nat} {g o m c : Nat} {xs : List Value} (h : RowO w e sz (some ⟨g, o, none⟩) m c xs) (j : Nat) (hj : j < xs.length) (u : Value) : RowO (w.setCell ⟨g, o + j, none⟩ u) e sz (some ⟨g, o, none⟩) m c (xs.set j u) := by
  refine ⟨by rw [List.length_set]; exact h.1, ?_⟩
  rcases h.2 with ⟨h1, _⟩ | ⟨g', o', cs, h1, h2, h3, h4, h5, h6⟩
  · cases h1
  · injection h1 with h1
    injection h1 with h1 h1' _
    subst h1 h1'
    refine .inr ⟨g, o, cs.setIfInBounds (o + j) u, rfl, h2, h3, h4.put (o + j) u, by simpa using h5, fun i v hv => ?_⟩
    rw [List.getElem?_set] at hv
    split at hv
    · rename_i hij
      subst hij
      have hlt : o + j < cs.size := by
        have := h6 j _ (List.getElem?_eq_getElem hj)
        exact (Array.getElem?_eq_some_iff.1 this).1
      rw [Array.getElem?_setIfInBounds_self_of_lt hlt]; exact hv
    · rename_i hij
      rw [Array.getElem?_setIfInBounds_ne (by omega)]
      exact h6 i v hv
theorem NewO.set {w w1 : World} {e : TypeId} {sz : Nat} {g o m c : Nat} {xs : List Value} (h : NewO w w1 e sz (some ⟨g, o, none⟩) m c xs) (j : Nat) (hj : j < xs.length) (u : Value) : NewO w (w1.setCell ⟨g, o + j, none⟩ u) e sz (some ⟨g, o, none⟩) m c (xs.set j u) :=
  ⟨h.1.set j hj u, ⟨h.2.1.os, h.2.1.tape, h.2.1.output, by simpa [World.setCell] using h.2.1.size, fun i hi => (Below.heap_setCell w1 ⟨g, o + j, none⟩ u i (by
    have := h.2.2 g ((inA_some _ _ _ _).2 rfl)
    show i ≠ g
    omega)).trans (h.2.1.block i hi)⟩, h.2.2⟩

/-- a result that lies in a cell -/
theorem results_cell {P : Program} {fn : Func} {t : Tmp} {ty : TypeId} (h : fn.results = #[.cell t ty]) (tmps : Array Value) (w : World) (g : Nat) (e : TypeId) (cs : Array Value) (n : Nat) (e' : TypeId)
    (ht : tmps.getD t undef = .pointer (some ⟨g, 0, none⟩)) (hb : Blk w g e cs) (hu : P.underlying ty = some (.array n e')) (hi : (P.info? ty).map (·.size) = some cs.size) : (results fn tmps).run P w = .ok (.agg cs) w := by
  have hl := run_loadVar_row (P := P) w g e ty cs (0, 0) _ hb hu rfl hi
  rw [Array.getD_eq_getD_getElem?] at ht
  simp [results, h, ht, asAddr, hl]

/-! ### a set as a value -/
def uv (x : Nat) : Value := .int .u64 (x : Int)
def cellsU (ws : List Nat) : Array Value := (ws.map uv).toArray
def setV (ws : List Nat) : Value := .agg (cellsU ws)
theorem cellsU_size {ws : List Nat} (h : SetOk ws) : (cellsU ws).size = 4 := by simp [cellsU, h.len]
theorem cellsU_at {ws : List Nat} (h : SetOk ws) {i : Nat} (hi : i < 4) : (cellsU ws)[i]? = some (.int .u64 (wordB ws i : Int)) := by
  unfold cellsU
  rw [List.getElem?_toArray, List.getElem?_map, h.at_ hi]
  rfl
theorem cellsU_set (ws : List Nat) (i x : Nat) : (cellsU ws).setIfInBounds i (.int .u64 (x : Int)) = cellsU (ws.set i x) := by
  unfold cellsU
  rw [List.setIfInBounds_toArray, List.map_set]
  rfl
theorem cellsU_one (ws : List Nat) : (cellsU ws).all (·.oneCell') = true := by
  unfold cellsU
  rw [List.all_toArray, List.all_eq_true]
  intro u hu
  obtain ⟨x, _, rfl⟩ := List.mem_map.1 hu
  rfl
theorem info_set : (Tryd.prog.info? 24).map (fun i => (i.zero, i.size, i.bytes)) = some (some (.agg #[.int .u64 0, .int .u64 0, .int .u64 0, .int .u64 0]), 4, 32) := by kernel_rfl
theorem size_set {ws : List Nat} (h : SetOk ws) : (Tryd.prog.info? 24).map (·.size) = some (cellsU ws).size := by
  rw [cellsU_size h]; kernel_rfl


theorem pow_cast (k : Nat) : ((2 : Int) ^ (k % 64)) = ((2 ^ (k % 64) : Nat) : Int) := by simp
theorem shl_bit (k : Nat) : IntKind.u64.wrap ((2 : Int) ^ (k % 64)) = ((2 ^ (k % 64) : Nat) : Int) := by
  have h := two_pow_lt k
  rw [pow_cast]
  generalize 2 ^ (k % 64) = m at h ⊢
  rw [IntKind.wrap_u64]
  omega



theorem rangeAt_set {w : World} {g : Nat} {t : TypeId} {ws : List Nat} (hB : Blk w g t (cellsU ws)) : w.rangeAt g 0 (ws.map uv) := fun j v hv => by
  rw [Nat.zero_add, hB.cell]
  unfold cellsU
  rw [List.getElem?_toArray]
  exact hv
theorem wpList_load_set {ops : Array Oper} {rest : List Oper} {op : Oper} {a : Act} {w : World} {Q : Exit → Act → World → Prop} (hgd : op.guard = none) (x : Operand) (ho : op.op = .load 24 x)
    (g : Nat) (hx : a.eval x = .pointer (some ⟨g, 0, none⟩)) {t : TypeId} {ws : List Nat} (hs : SetOk ws) (hB : Blk w g t (cellsU ws)) (h : wpList Tryd.prog ops Q rest (a.put op.dst (.agg (cellsU ws))) w) : wpList Tryd.prog ops Q (op :: rest) a w :=
  wpList_load_mid hgd 24 x ho g 0 hx (ws.map uv) _ (rangeAt_set hB) Tryd.underlying24 rfl (by rw [List.length_map, hs.len]; kernel_rfl) h
theorem wpList_store_set {ops : Array Oper} {rest : List Oper} {op : Oper} {a : Act} {w : World} {Q : Exit → Act → World → Prop} (hgd : op.guard = none) (x y : Operand) (ho : op.op = .store 24 x y)
    (g : Nat) (hx : a.eval x = .pointer (some ⟨g, 0, none⟩)) {t : TypeId} {ws us : List Nat} (hy : a.eval y = .agg (cellsU ws)) (hs : SetOk ws) (hu : SetOk us) (hB : Blk w g t (cellsU us))
    (h : ∀ w', Blk w' g t (cellsU ws) → (∀ k, k ≠ g → w'.heap[k]? = w.heap[k]?) → w'.heap.size = w.heap.size → (∀ B, B ≤ g → Below B w w') → wpList Tryd.prog ops Q rest (a.put op.dst undef) w') : wpList Tryd.prog ops Q (op :: rest) a w := by
  have hsz := cellsU_size hs
  have hsu := cellsU_size hu
  refine wpList_store_mid hgd 24 x y ho g 0 (cellsU ws) hx hy (hB.there 0 _ (by omega)) (size_set hs) (cellsU_one ws) (h _ ?_ ?_ ?_ ?_)
  · have := hB.whole (cellsU ws).toList (by simp [hsz, hsu])
    simpa using this
  · intro k hk
    have h1 := (Only.refl (fun k => k = g) w).setCells (.inl rfl) (cellsU ws).toList 0
    rcases Nat.lt_or_ge k w.heap.size with hl | hl
    · exact h1.block k hl hk
    · have e : (w.setCells g 0 (cellsU ws).toList).heap.size = w.heap.size := by
        have : ∀ (vs : List Value) (o : Nat) (w : World), (w.setCells g o vs).heap.size = w.heap.size := by
          intro vs
          induction vs with
          | nil => intro o w; rfl
          | cons v r ih => intro o w; exact (ih (o + 1) (w.setCell ⟨g, o, none⟩ v)).trans (by simp [World.setCell])
        exact this _ _ _
      rw [Array.getElem?_eq_none (by omega), Array.getElem?_eq_none (by omega)]
  · have : ∀ (vs : List Value) (o : Nat) (w : World), (w.setCells g o vs).heap.size = w.heap.size := by
      intro vs
      induction vs with
      | nil => intro o w; rfl
      | cons v r ih => intro o w; exact (ih (o + 1) (w.setCell ⟨g, o, none⟩ v)).trans (by simp [World.setCell])
    exact this _ _ _
  · intro B hB
    exact below_setCells hB _ _ (Below.refl _ _)

theorem four_words {ws : List Nat} (hs : SetOk ws) : ∃ a b c d, ws = [a, b, c, d] := by
  have hl := hs.len
  match ws, hl with
  | [a, b, c, d], _ => exact ⟨a, b, c, d, rfl⟩
theorem index_set {ws : List Nat} (hs : SetOk ws) {k : Nat} (hk : k < 4) : ∀ W, (Instr.index 24 (.agg (cellsU ws)) (.int .i64 (k : Int))).run Tryd.prog W = .ok (.int .u64 (wordB ws k : Int)) W := by
  intro W
  obtain ⟨a, b, c, d, rfl⟩ := four_words hs
  have h0 : (Instr.index 24 (.agg #[.int .u64 (a : Int), .int .u64 (b : Int), .int .u64 (c : Int), .int .u64 (d : Int)]) (.int .i64 0)).run Tryd.prog W = .ok (.int .u64 (a : Int)) W := by kernel_rfl
  have h1 : (Instr.index 24 (.agg #[.int .u64 (a : Int), .int .u64 (b : Int), .int .u64 (c : Int), .int .u64 (d : Int)]) (.int .i64 1)).run Tryd.prog W = .ok (.int .u64 (b : Int)) W := by kernel_rfl
  have h2 : (Instr.index 24 (.agg #[.int .u64 (a : Int), .int .u64 (b : Int), .int .u64 (c : Int), .int .u64 (d : Int)]) (.int .i64 2)).run Tryd.prog W = .ok (.int .u64 (c : Int)) W := by kernel_rfl
  have h3 : (Instr.index 24 (.agg #[.int .u64 (a : Int), .int .u64 (b : Int), .int .u64 (c : Int), .int .u64 (d : Int)]) (.int .i64 3)).run Tryd.prog W = .ok (.int .u64 (d : Int)) W := by kernel_rfl
  match k, hk with
  | 0, _ => exact h0
  | 1, _ => exact h1
  | 2, _ => exact h2
  | 3, _ => exact h3
theorem wpList_index_set {ops : Array Oper} {rest : List Oper} {op : Oper} {a : Act} {w : World} {Q : Exit → Act → World → Prop} (hgd : op.guard = none) (x i : Operand) (ho : op.op = .index 24 x i)
    {ws : List Nat} (hs : SetOk ws) {k : Nat} (hk : k < 4) (hx : a.eval x = .agg (cellsU ws)) (hi : a.eval i = .int .i64 (k : Int)) (h : wpList Tryd.prog ops Q rest (a.put op.dst (.int .u64 (wordB ws k : Int))) w) : wpList Tryd.prog ops Q (op :: rest) a w :=
  wpList_plain hgd fun K hK => by
    unfold Oper.wp execOp
    simp only [ho, hx, hi, index_set hs hk, Result.andThen_ok, Sem.run_bind, Sem.run_pure]
    exact hK _ _ h
theorem xor_notW (x : Nat) (hx : x < 18446744073709551616) : 18446744073709551615 ^^^ x = notW x := by
  apply Nat.eq_of_testBit_eq
  intro i
  have h := Nat.testBit_two_pow_sub_succ (n := 64) (x := x) hx i
  unfold notW
  rw [Nat.testBit_xor, show (18446744073709551615 : Nat) = 2 ^ 64 - 1 from rfl, Nat.testBit_two_pow_sub_one]
  rw [show (18446744073709551616 : Nat) - (x + 1) = 2 ^ 64 - (x + 1) from rfl, h]
  by_cases hi : i < 64
  · simp [hi]
  · have z : x.testBit i = false := Nat.testBit_lt_two_pow (Nat.lt_of_lt_of_le hx (Nat.pow_le_pow_right (by omega) (by omega) : 2 ^ 64 ≤ 2 ^ i))
    simp [hi, z]
theorem not_u64 (x : Nat) (hx : x < 18446744073709551616) : bits BinOp.xor IntKind.u64 (if IntKind.u64.signed = true then -1 else IntKind.u64.max) (x : Int) = (notW x : Int) := by
  have e : (if IntKind.u64.signed = true then -1 else IntKind.u64.max) = ((18446744073709551615 : Nat) : Int) := rfl
  rw [e, bits_xor_u64_nat _ x (by omega) hx, xor_notW x hx]
theorem zeros_set (w : World) : (zeroValue 24).run Tryd.prog w = .ok (.agg (cellsU zeroB)) w := by kernel_rfl


/-- a byte as a cell -/
def nb (n : Nat) : Value := .int .u8 (n : Int)
theorem nb_bytes (xs : List UInt8) : xs.map bv = (xs.map (·.toNat)).map nb := by rw [List.map_map]; rfl
theorem nb_one (l : List Nat) : ∀ u ∈ l.map nb, u.oneCell' = true := by
  intro u hu
  obtain ⟨x, _, rfl⟩ := List.mem_map.1 hu
  rfl
theorem or_key (x y : Nat) (hx : x < 18446744073709551616) (hy : y < 18446744073709551616) : bits BinOp.or IntKind.u64 (x : Int) (y : Int) = ((x ||| y : Nat) : Int) := bits_or_u64_nat x y hx hy
theorem take_snoc {α : Type} (l : List α) (k : Nat) (h : k < l.length) : l.take (k + 1) = l.take k ++ [l[k]] := by
  rw [List.take_add_one, List.getElem?_eq_getElem h]; rfl
theorem ext2 (w : World) (a b : Obj) : Below w.heap.size w ((w.alloc a).alloc b) := ((Below.refl _ _).alloc (Nat.le_refl _) _).alloc (by simp) _


/-- the bytes from 'lo' on, 'k' of them -/
def fromN (lo k : Nat) : List Nat := List.range' lo k
theorem fromN_succ (lo k : Nat) : fromN lo (k + 1) = fromN lo k ++ [lo + k] := by unfold fromN; rw [List.range'_concat]; simp
theorem fromN_len (lo k : Nat) : (fromN lo k).length = k := by simp [fromN]


theorem info_u8 : (Tryd.prog.info? 5).map (fun i => (i.zero, i.size, i.bytes)) = some (some (.int .u8 0), 1, 1) := by kernel_rfl
theorem ext_alloc {a w : World} (h : Below a.heap.size a w) (o : Obj) : Below a.heap.size a (w.alloc o) := h.alloc h.size o



theorem and_bit (x i : Nat) : x &&& 2 ^ i = if x.testBit i then 2 ^ i else 0 := by
  apply Nat.eq_of_testBit_eq
  intro j
  rw [Nat.testBit_and, Nat.testBit_two_pow]
  by_cases h : i = j
  · subst h
    by_cases hx : x.testBit i <;> simp [hx, Nat.testBit_two_pow]
  · by_cases hx : x.testBit i <;> simp [hx, h, Nat.testBit_two_pow]
theorem has_key (x k : Nat) (hx : x < 18446744073709551616) : bits BinOp.and IntKind.u64 (x : Int) ((2 ^ (k % 64) : Nat) : Int) = if x.testBit (k % 64) then ((2 ^ (k % 64) : Nat) : Int) else 0 := by
  rw [bits_and_u64_nat x _ hx (two_pow_lt k), and_bit]
  by_cases h : x.testBit (k % 64) <;> simp [h]
theorem ref_key (x k : Nat) (hx : x < 18446744073709551616) : bits BinOp.and IntKind.u64 ((x : Int) / 2 ^ (k % 64)) 1 = if x.testBit (k % 64) then 1 else 0 := by
  have e : (x : Int) / 2 ^ (k % 64) = ((x / 2 ^ (k % 64) : Nat) : Int) := by simp
  have h1 := bits_and_u64_nat (x / 2 ^ (k % 64)) 1 (Nat.lt_of_le_of_lt (Nat.div_le_self _ _) hx) (by omega)
  rw [e]
  refine h1.trans ?_
  rw [Nat.and_one_is_mod, ← Nat.shiftRight_eq_div_pow]
  have h2 : x.testBit (k % 64) = decide ((x >>> (k % 64)) % 2 = 1) := by
    rw [Nat.testBit_eq_decide_div_mod_eq, Nat.shiftRight_eq_div_pow]
  rw [h2]
  rcases Nat.mod_two_eq_zero_or_one (x >>> (k % 64)) with h | h <;> simp [h]


theorem listB_cnt (ws : List Nat) : cntB ws 4 = (listB ws).length := rfl
theorem cntB_zero (ws : List Nat) : cntB ws 0 = 0 := by simp [cntB, upB]
theorem cntB_le (ws : List Nat) (i : Nat) : cntB ws i ≤ 64 * i := upB_len _ _


/-- what a word gives to the list -/
def wordL (i x : Nat) : List Nat := (wb x).map (64 * i + ·)
theorem wordL_cons {i x : Nat} (h0 : x ≠ 0) (h : x < 18446744073709551616) : wordL i x = (64 * i + Lib.ctz 64 x) :: wordL i (x &&& (x - 1)) := by
  unfold wordL
  rw [(wb_cons h0 h).1, List.map_cons]
theorem wordL_zero (i : Nat) : wordL i 0 = [] := by unfold wordL; rw [wb_zero]; rfl


theorem ext_drew {a w : World} (h : Below a.heap.size a w) : Below a.heap.size a w.drew := ext_drewN h 1

theorem cell_only {S : Nat → Prop} {w w' : World} {p : Addr} {v : Value} (h : w.cell? p = some v) (ho : Only S w w') (hn : ¬ S p.block) : w'.cell? p = some v :=
  (World.cell?_of_block (ho.block _ (World.block_lt_of_cell? w _ h) hn)).trans h

end Go.Proofs.YtmggajpecgnjkaaDoor

/-
  Words for memory that holds expressions. No statement of the seat is proved here.
-/
namespace Go.Proofs.YtmggajpecgnjkaaDoor
open Go Go.RowKit
set_option maxRecDepth 100000


/-- the cells of an expression, whose kids' row is known -/
def reCells (k : Int) (s : List Nat) (A : Option Addr) (n c : Nat) (lo hi : Int) : List Value :=
  [.int .i64 k, .int .u64 (wordB s 0 : Int), .int .u64 (wordB s 1 : Int), .int .u64 (wordB s 2 : Int), .int .u64 (wordB s 3 : Int), .slice A n c, .int .i64 lo, .int .i64 hi]
theorem reCells_one (k : Int) (s : List Nat) (A : Option Addr) (n c : Nat) (lo hi : Int) : ∀ u ∈ reCells k s A n c lo hi, u.oneCell' = true := by
  intro u hu
  simp only [reCells, List.mem_cons, List.not_mem_nil, or_false] at hu
  rcases hu with rfl | rfl | rfl | rfl | rfl | rfl | rfl | rfl <;> rfl

mutual
/-- these cells are an expression; the rows of kids below it lie in blocks of 'S' -/
def ReR (S : Nat → Prop) (w : World) : Ex → List Value → Prop
  | .mk k s ks lo hi, cs => (isInt k ∧ SetOk s ∧ isInt lo ∧ isInt hi) ∧ ∃ A c, cs = reCells k s A ks.length c lo hi ∧ ks.length ≤ c ∧ c ≤ maxLen ∧ KidsR S w A 0 ks
def KidsR (S : Nat → Prop) (w : World) (A : Option Addr) : Nat → List Ex → Prop
  | _, [] => True
  | i, x :: xs => (∃ g o cs, A = some ⟨g, o, none⟩ ∧ S g ∧ (∀ (j : Nat) (u : Value), cs[j]? = some u → w.cell? ⟨g, o + i * 8 + j, none⟩ = some u) ∧ ReR S w x cs) ∧ KidsR S w A (i + 1) xs
end

theorem kidsR_iff {S : Nat → Prop} {w : World} {A : Option Addr} (l : List Ex) : ∀ i, KidsR S w A i l ↔ ∀ k (h : k < l.length), ∃ g o cs, A = some ⟨g, o, none⟩ ∧ S g ∧ (∀ (j : Nat) (u : Value), cs[j]? = some u → w.cell? ⟨g, o + (i + k) * 8 + j, none⟩ = some u) ∧ ReR S w l[k] cs := by
  induction l with
  | nil => intro i; simp [KidsR]
  | cons x r ih =>
    intro i
    simp only [KidsR, ih]
    constructor
    · rintro ⟨h1, h2⟩ k hk
      rcases k with _ | k
      · exact h1
      · obtain ⟨g, o, cs, e, hs, hc, hr⟩ := h2 k (by simpa using hk)
        exact ⟨g, o, cs, e, hs, by rw [show i + (k + 1) = i + 1 + k by omega]; exact hc, hr⟩
    · intro h
      refine ⟨h 0 (by simp), fun k hk => ?_⟩
      obtain ⟨g, o, cs, e, hs, hc, hr⟩ := h (k + 1) (by simpa using hk)
      exact ⟨g, o, cs, e, hs, by rw [show i + 1 + k = i + (k + 1) by omega]; exact hc, hr⟩

/-- the kids of an expression -/
def Kids (S : Nat → Prop) (w : World) (A : Option Addr) (l : List Ex) : Prop := ∀ k (h : k < l.length), ∃ g o cs, A = some ⟨g, o, none⟩ ∧ S g ∧ (∀ (j : Nat) (u : Value), cs[j]? = some u → w.cell? ⟨g, o + k * 8 + j, none⟩ = some u) ∧ ReR S w l[k] cs
theorem reR_iff {S : Nat → Prop} {w : World} {k : Int} {s : List Nat} {ks : List Ex} {lo hi : Int} {cs : List Value} :
    ReR S w (.mk k s ks lo hi) cs ↔ (isInt k ∧ SetOk s ∧ isInt lo ∧ isInt hi) ∧ ∃ A c, cs = reCells k s A ks.length c lo hi ∧ ks.length ≤ c ∧ c ≤ maxLen ∧ Kids S w A ks := by
  simp only [ReR, kidsR_iff, Nat.zero_add, Kids]

theorem ReR.keep {S T : Nat → Prop} {w w' : World} (hk : ∀ g, S g → g < w.heap.size → w'.heap[g]? = w.heap[g]?) (hs : ∀ g, S g → g < w.heap.size → T g) (t : Ex) : ∀ {cs : List Value}, ReR S w t cs → ReR T w' t cs := by
  refine ex_induct (p := fun t => ∀ {cs : List Value}, ReR S w t cs → ReR T w' t cs) (fun k s ks lo hi ih cs h => ?_) t
  rw [reR_iff] at h ⊢
  obtain ⟨h0, A, c, e, h1, h2, h3⟩ := h
  refine ⟨h0, A, c, e, h1, h2, fun i hi => ?_⟩
  obtain ⟨g, o, cs', e', hg, hc, hr⟩ := h3 i hi
  have hlt : g < w.heap.size := by
    cases hx : ks[i] with
    | mk k' s' ks' lo' hi' =>
      rw [hx, reR_iff] at hr
      obtain ⟨_, A', c', e2, _⟩ := hr
      exact World.block_lt_of_cell? w ⟨g, o + i * 8 + 0, none⟩ (hc 0 (.int .i64 k') (by rw [e2]; rfl))
  refine ⟨g, o, cs', e', hs g hg hlt, fun j u hu => ?_, ih _ (List.getElem_mem hi) hr⟩
  exact (World.cell?_of_block (a := ⟨g, o + i * 8 + j, none⟩) (hk g hg hlt)).trans (hc j u hu)
theorem ReR.only {S T : Nat → Prop} {w w' : World} {t : Ex} {cs : List Value} (h : ReR S w t cs) (ho : Only T w w') (hn : ∀ g, S g → ¬ T g) : ReR S w' t cs :=
  ReR.keep (fun g hg hl => ho.block g hl (hn g hg)) (fun _ h _ => h) t h
theorem ReR.ext {S : Nat → Prop} {w w' : World} {t : Ex} {cs : List Value} (h : ReR S w t cs) (hb : Below w.heap.size w w') : ReR S w' t cs :=
  ReR.keep (fun g _ hl => hb.block g hl) (fun _ h _ => h) t h
theorem ReR.mono {S T : Nat → Prop} {w : World} {t : Ex} {cs : List Value} (h : ReR S w t cs) (hs : ∀ g, S g → g < w.heap.size → T g) : ReR T w t cs :=
  ReR.keep (fun g _ hl => rfl) hs t h
theorem ReR.size {S : Nat → Prop} {w : World} {t : Ex} {cs : List Value} (h : ReR S w t cs) : cs.length = 8 := by
  cases t with
  | mk k s ks lo hi => rw [reR_iff] at h; obtain ⟨_, A, c, rfl, _⟩ := h; rfl
theorem ReR.one {S : Nat → Prop} {w : World} {t : Ex} {cs : List Value} (h : ReR S w t cs) : ∀ u ∈ cs, u.oneCell' = true := by
  cases t with
  | mk k s ks lo hi => rw [reR_iff] at h; obtain ⟨_, A, c, rfl, _⟩ := h; exact reCells_one _ _ _ _ _ _ _
theorem Kids.ext {S : Nat → Prop} {w w' : World} {A : Option Addr} {l : List Ex} (h : Kids S w A l) (hb : Below w.heap.size w w') : Kids S w' A l := fun k hk => by
  obtain ⟨g, o, cs, e, hs, hc, hr⟩ := h k hk
  exact ⟨g, o, cs, e, hs, fun j u hu => (World.cell?_of_block (a := ⟨g, o + k * 8 + j, none⟩) (hb.block g (World.block_lt_of_cell? w ⟨g, o + k * 8 + j, none⟩ (hc j u hu)))).trans (hc j u hu), hr.ext hb⟩
/-- a kid, its cells one by one -/
theorem Kids.kid {S : Nat → Prop} {w : World} {A : Option Addr} {l : List Ex} (h : Kids S w A l) {k : Nat} (hk : k < l.length) :
    ∃ g o u0 u1 u2 u3 u4 u5 u6 u7, A = some ⟨g, o, none⟩ ∧ ReR S w l[k] [u0, u1, u2, u3, u4, u5, u6, u7] ∧ w.cell? ⟨g, o + k * 8, none⟩ = some u0 ∧ w.cell? ⟨g, o + k * 8 + 1, none⟩ = some u1 ∧ w.cell? ⟨g, o + k * 8 + 2, none⟩ = some u2 ∧
      w.cell? ⟨g, o + k * 8 + 3, none⟩ = some u3 ∧ w.cell? ⟨g, o + k * 8 + 4, none⟩ = some u4 ∧ w.cell? ⟨g, o + k * 8 + 5, none⟩ = some u5 ∧ w.cell? ⟨g, o + k * 8 + 6, none⟩ = some u6 ∧ w.cell? ⟨g, o + k * 8 + 7, none⟩ = some u7 ∧ S g := by
  obtain ⟨g, o, cs, e, hs, hc, hr⟩ := h k hk
  have hl := hr.size
  match cs, hl with
  | [u0, u1, u2, u3, u4, u5, u6, u7], _ =>
    exact ⟨g, o, u0, u1, u2, u3, u4, u5, u6, u7, e, hr, hc 0 _ rfl, hc 1 _ rfl, hc 2 _ rfl, hc 3 _ rfl, hc 4 _ rfl, hc 5 _ rfl, hc 6 _ rfl, hc 7 _ rfl, hs⟩

/-- a kid, its fields told -/
theorem Kids.kidX {S : Nat → Prop} {w : World} {A : Option Addr} {l : List Ex} (h : Kids S w A l) {k : Nat} (hk : k < l.length) :
    ∃ g o k' q0 q1 q2 q3 ks' A' c' lo' hi', A = some ⟨g, o, none⟩ ∧ l[k] = .mk k' [q0, q1, q2, q3] ks' lo' hi' ∧
      ReR S w l[k] [.int .i64 k', .int .u64 (q0 : Int), .int .u64 (q1 : Int), .int .u64 (q2 : Int), .int .u64 (q3 : Int), .slice A' ks'.length c', .int .i64 lo', .int .i64 hi'] ∧
      w.cell? ⟨g, o + k * 8, none⟩ = some (.int .i64 k') ∧ w.cell? ⟨g, o + k * 8 + 1, none⟩ = some (.int .u64 (q0 : Int)) ∧ w.cell? ⟨g, o + k * 8 + 2, none⟩ = some (.int .u64 (q1 : Int)) ∧
      w.cell? ⟨g, o + k * 8 + 3, none⟩ = some (.int .u64 (q2 : Int)) ∧ w.cell? ⟨g, o + k * 8 + 4, none⟩ = some (.int .u64 (q3 : Int)) ∧ w.cell? ⟨g, o + k * 8 + 5, none⟩ = some (.slice A' ks'.length c') ∧
      w.cell? ⟨g, o + k * 8 + 6, none⟩ = some (.int .i64 lo') ∧ w.cell? ⟨g, o + k * 8 + 7, none⟩ = some (.int .i64 hi') ∧ S g := by
  obtain ⟨g, o, u0, u1, u2, u3, u4, u5, u6, u7, rfl, hr, x0, x1, x2, x3, x4, x5, x6, x7, hs⟩ := h.kid hk
  cases hx : l[k] with
  | mk k' s' ks' lo' hi' =>
    rw [hx] at hr
    have hr' := hr
    rw [reR_iff] at hr
    obtain ⟨⟨_, hset, _, _⟩, A', c', e, _⟩ := hr
    obtain ⟨q0, q1, q2, q3, rfl⟩ := four_words hset
    simp only [reCells, List.cons.injEq, and_true] at e
    obtain ⟨rfl, rfl, rfl, rfl, rfl, rfl, rfl, rfl⟩ := e
    exact ⟨g, o, k', q0, q1, q2, q3, ks', A', c', lo', hi', rfl, rfl, hr', x0, x1, x2, x3, x4, x5, x6, x7, hs⟩

theorem info_re : (Tryd.prog.info? 27).map (fun i => (i.zero, i.size, i.bytes)) = some (some (.agg #[.int .i64 0, .int .u64 0, .int .u64 0, .int .u64 0, .int .u64 0, .slice none 0 0, .int .i64 0, .int .i64 0]), 8, 80) := by kernel_rfl
theorem int_eq {k : IntKind} {a b : Int} (h : a = b) : Value.int k a = Value.int k b := by rw [h]
theorem ret_eq {k : IntKind} {a b : Int} (h : a = b) : Ending.returned (.int k a) = .returned (.int k b) := by rw [h]
theorem ret_bool {a b : Bool} (h : a = b) : Ending.returned (.bool a) = .returned (.bool b) := by rw [h]
theorem min_hi {a b : Nat} (h : b ≤ a) : ((min a b : Nat) : Int) = (b : Int) := by rw [Nat.min_eq_right h]
theorem min_lo {a b : Nat} (h : a ≤ b) : ((min a b : Nat) : Int) = (a : Int) := by rw [Nat.min_eq_left h]
/-- an expression as a value -/
def reV (cs : List Value) : Value := .agg cs.toArray
end Go.Proofs.YtmggajpecgnjkaaDoor

/-
  Texts as strings; what signs are as texts. No statement of the seat is proved here.
-/
namespace Go.Proofs.YtmggajpecgnjkaaDoor
open Go Go.RowKit
set_option maxRecDepth 100000


/-- bytes, told as numbers, as a string -/
def bsN (l : List Nat) : ByteArray := ⟨(l.map Nat.toUInt8).toArray⟩
theorem bsN_append (a b : List Nat) : bsN a ++ bsN b = bsN (a ++ b) := by
  unfold bsN
  apply ByteArray.ext
  simp [ByteArray.data_append]
theorem ret_str {a b : ByteArray} (h : a = b) : Ending.returned (.string a) = .returned (.string b) := by rw [h]
theorem bsN_size (l : List Nat) : (bsN l).size = l.length := by simp [bsN, ByteArray.size]
theorem hexD_lt {c : Nat} (h : c < 16) : hexD c < 256 := by unfold hexD; split <;> omega
theorem signB_lt {c : Nat} (h : c < 256) : ∀ b ∈ signB c, b < 256 := by
  intro b hb
  unfold signB at hb
  split at hb
  · simp at hb; omega
  · simp at hb
    rcases hb with rfl | rfl | rfl | rfl
    · omega
    · omega
    · exact hexD_lt (by omega)
    · exact hexD_lt (by omega)
theorem signB_len (c : Nat) : (signB c).length ≤ 4 := by unfold signB; split <;> simp
theorem twoB_len (c : Nat) : (twoB c).length ≤ 2 := by unfold twoB; split <;> simp
theorem timesT_len (lo hi : Int) : (timesT lo hi).length ≤ 7 := by
  have h1 := twoB_len lo.toNat
  have h2 := twoB_len hi.toNat
  unfold timesT
  repeat' split
  all_goals (simp only [List.length_cons, List.length_append, List.length_nil]; omega)
theorem plain_iff (c : Nat) : plainB c = true ↔ (97 ≤ c ∧ c ≤ 122) ∨ (65 ≤ c ∧ c ≤ 90) ∨ (48 ≤ c ∧ c ≤ 57) := by
  simp [plainB, or_assoc]
/-- bytes of a literal in new memory as a string -/
theorem conv_nb (w : World) (A : Option Addr) (n c : Nat) (l : List Nat) (hn : n = l.length) (hl : ∀ b ∈ l, b < 256) (hr : Rd w A (l.map nb)) :
    (convert 44 9 (.slice A n c)).run Tryd.prog w = .ok (.string (bsN l)) w := by
  have e : l.map nb = (l.map Nat.toUInt8).map bv := by
    rw [List.map_map]
    refine List.map_congr_left fun b hb => ?_
    have := hl b hb
    simp only [Function.comp, nb, bv, Nat.toUInt8, UInt8.toNat_ofNat', Value.int.injEq, true_and]
    congr 1
    omega
  rw [e] at hr
  unfold bsN
  subst hn
  rcases A with _ | ad
  · have hnil : l = [] := by
      rcases l with _ | ⟨b, r⟩
      · rfl
      · obtain ⟨ad, h0, _⟩ := hr 0 _ rfl
        cases h0
    subst hnil
    exact Lib.run_convert_nil_bytes w _ _ 5 c Tryd.underlying44 Tryd.underlying5 Tryd.underlying9
  · have := run_convert_bytes_back w _ _ 5 ad c (l.map Nat.toUInt8) Tryd.underlying44 Tryd.underlying5 Tryd.underlying9 (fun j hj => by
      obtain ⟨ad', h1, h2⟩ := hr j (bv (l.map Nat.toUInt8)[j]) (by rw [List.getElem?_map, List.getElem?_eq_getElem hj]; rfl)
      injection h1 with h1
      subst h1
      exact h2)
    simpa using this
end Go.Proofs.YtmggajpecgnjkaaDoor

/-
  Contract of the reference's Of. No statement of the seat is proved here.
-/
namespace Go.Proofs.YtmggajpecgnjkaaDoor
open Go Go.RowKit
set_option maxRecDepth 100000


set_option maxHeartbeats 2000000 in
theorem rof_any (A : Option Addr) (n c : Nat) (l : List Nat) (w : World) (hn : n = l.length) (hl : ∀ b ∈ l, b < 256) (hb : l.length ≤ 1000000) (hr : Rd w A (l.map nb)) :
    Calls Tryd.prog 54 #[.slice A n c] w fun e w' => e = .returned (setV (ofB l)) ∧ Below w.heap.size w w' := by
  subst hn
  have hz := zeros_set
  have hbi : (l.length : Int) ≤ 1000000 := by omega
  unfold setV
  go_enter Tryd.func54, Tryd.ntmps54
  go_wp2
  go_loopw [4] (fun i wr => ∃ (k : Nat) (us : List Nat), k ≤ l.length ∧ i = .int .i64 (k : Int) ∧ us = ofB (l.take k) ∧ Blk wr (w.heap.size + 1) 24 (cellsU us) ∧ Blk wr w.heap.size 24 (cellsU zeroB) ∧ Below w.heap.size w wr) (fun i _ => l.length - (intOf i).toNat)
  case atStart =>
    refine ⟨0, zeroB, by omega, rfl, rfl, ?_, ?_, ext2 w _ _⟩
    · have := Blk.new (w.alloc (Obj.cells (cellsU zeroB) 24)) 24 (cellsU zeroB)
      simpa using this
    · exact (Blk.new w 24 (cellsU zeroB)).alloc (Obj.cells (cellsU zeroB) 24)
  case round =>
    obtain ⟨k, us, hk, rfl, hus, hT, hR, hbel⟩ := hrel
    have husok : SetOk us := by rw [hus]; exact ofB_ok _
    by_cases hlt : k < l.length
    · have hki : (k : Int) < (l.length : Int) := by omega
      obtain ⟨ad, rfl, hc⟩ := (hr.ext hbel).at_ (k := k) (by simpa using hlt)
      simp only [List.getElem_map, nb] at hc
      have hbl := hl l[k] (List.getElem_mem hlt)
      have hsn : setB us l[k] = ofB (l.take (k + 1)) := by rw [hus, take_snoc l k hlt, ofB_snoc]
      have Hsn := Lib.hid hsn
      have Hus := Lib.hid hus
      clear hsn hus
      generalize l[k] = b at hc hbl Hsn
      have hi4 : b / 64 < 4 := by omega
      have hcell : wr.cell? ⟨w.heap.size + 1, b / 64, none⟩ = some (.int .u64 (wordB us (b / 64) : Int)) := (hT.cell _).trans (cellsU_at husok hi4)
      have hfree := hT.free (b / 64)
      have hor := or_key (wordB us (b / 64)) (2 ^ (b % 64)) (husok.wlt _) (two_pow_lt b)
      have hshl := shl_bit b
      have hT' := hT.put (b / 64) (.int .u64 ((wordB us (b / 64) ||| 2 ^ (b % 64) : Nat) : Int))
      rw [cellsU_set] at hT'
      have HT' := Lib.hid hT'
      have HT := Lib.hid hT
      have hset : us.set (b / 64) (wordB us (b / 64) ||| 2 ^ (b % 64)) = setB us b := rfl
      have Hset := Lib.hid hset
      have hbi : (b : Int) < 256 := by omega
      clear hT' hT hset
      go_wp2
      go_region
      go_wp2
      go_roundw
      case rel =>
        have hor' : bits BinOp.or IntKind.u64 (wordB us (b / 64) : Int) ((2 : Int) ^ (b % 64)) = ((wordB us (b / 64) ||| 2 ^ (b % 64) : Nat) : Int) := by rw [pow_cast]; exact hor
        rw [hor']
        exact ⟨k + 1, us.set (b / 64) (wordB us (b / 64) ||| 2 ^ (b % 64)), by omega, by go_num, Hset.out.trans Hsn.out, HT'.out.drew, (hR.far (by simp) _).drew, (hbel.setCell (by simp) _).drew⟩
      case measure => simp [intOf]; omega
    · obtain rfl : k = l.length := by omega
      rw [List.take_length] at hus
      subst hus
      have hi := size_set husok
      go_wp2_with (first | (refine wpList_load_set rfl _ rfl (w.heap.size + 1) rfl husok hT ?_) | (refine wpList_store_set rfl _ _ rfl w.heap.size rfl rfl husok zero_ok hR ?_; intro w2 hB2 _ _ hbel2))
      exact bodyPost_ret (results_cell rfl _ _ w.heap.size 24 _ 4 22 rfl hB2 Tryd.underlying24 hi) rfl ⟨rfl, hbel.trans (hbel2 _ (by omega))⟩

end Go.Proofs.YtmggajpecgnjkaaDoor

/-
  Rows of expressions that a call builds. No statement of the seat is proved here.
-/
namespace Go.Proofs.YtmggajpecgnjkaaDoor
open Go Go.RowKit
set_option maxRecDepth 100000


/-- a row of the call's own that holds these expressions; the rows below them lie in blocks of 'S', and not in the row's own -/
def RowE (S : Nat → Prop) (w : World) (A : Option Addr) (m c : Nat) (l : List Ex) : Prop :=
  ∃ xs, RowO w 27 8 A m c xs ∧ l.length = m ∧ ∀ k (h : k < l.length), ReR (fun g => S g ∧ ¬ inA A g) w l[k] ((xs.drop (k * 8)).take 8)
section
variable {S T : Nat → Prop} {w w' : World} {A A' : Option Addr} {m c c' : Nat} {l : List Ex}
theorem RowE.none_ (S : Nat → Prop) (w : World) : RowE S w none 0 0 [] := ⟨[], RowO.none_ _ _ _, rfl, fun k h => absurd h (by simp)⟩
theorem RowE.keep (h : RowE S w A m c l) (hk : ∀ g, g < w.heap.size → (inA A g ∨ S g) → w'.heap[g]? = w.heap[g]?) : RowE S w' A m c l := by
  obtain ⟨xs, h1, h2, h3⟩ := h
  exact ⟨xs, h1.keep fun k hk' => hk k (h1.lt hk') (.inl hk'), h2, fun k hk' => ReR.keep (fun g hg hl => hk g hl (.inr hg.1)) (fun _ h _ => h) _ (h3 k hk')⟩
theorem RowE.ext (h : RowE S w A m c l) (hb : Below w.heap.size w w') : RowE S w' A m c l := h.keep fun g hl _ => hb.block g hl
theorem RowE.only (h : RowE S w A m c l) (ho : Only T w w') (h1 : ∀ g, T g → ¬ inA A g) (h2 : ∀ g, T g → ¬ S g) : RowE S w' A m c l :=
  h.keep fun g hl hg => ho.block g hl fun ht => hg.elim (h1 g ht) (h2 g ht)
theorem RowE.len (h : RowE S w A m c l) : l.length = m := h.choose_spec.2.1
theorem RowE.le (h : RowE S w A m c l) : m ≤ c := h.choose_spec.1.le
theorem RowE.cap (h : RowE S w A m c l) : c ≤ maxLen := by
  obtain ⟨xs, h1, _⟩ := h
  rcases h1.2 with ⟨_, _, h2⟩ | ⟨_, _, _, _, _, h2, _⟩
  · rw [h2]; exact Nat.zero_le _
  · exact h2
theorem RowE.lt (h : RowE S w A m c l) {k : Nat} (hk : inA A k) : k < w.heap.size := h.choose_spec.1.lt hk
/-- what memory holds, as kids -/
theorem RowE.kids (h : RowE S w A m c l) (hs : ∀ g, S g ∨ inA A g → g < w.heap.size → T g) : Kids T w A l := by
  obtain ⟨xs, h1, h2, h3⟩ := h
  intro k hk
  have h4 := h3 k hk
  have h8 := h4.size
  rcases h1.2 with ⟨rfl, rfl, rfl⟩ | ⟨g, off, cs, rfl, a1, a2, a3, a4, a5⟩
  · omega
  · refine ⟨g, off, (xs.drop (k * 8)).take 8, rfl, hs g (.inr ((inA_some _ _ _ _).2 rfl)) a3.lt, fun j u hu => ?_, h4.mono fun g hg hl => hs g (.inl hg.1) hl⟩
    have hj : j < 8 := by have := (List.getElem?_eq_some_iff.1 hu).1; omega
    rw [List.getElem?_take, if_pos hj, List.getElem?_drop] at hu
    rw [a3.cell, Nat.add_assoc]
    exact a5 _ u hu
/-- one more -/
theorem RowE.grow {w1 : World} {x : Ex} {cs xs : List Value} (hx : ReR (fun g => S g ∧ ¬ inA A g) w x cs) (hxs : RowO w 27 8 A m c xs) (hl : l.length = m) (hp : ∀ k (h : k < l.length), ReR (fun g => S g ∧ ¬ inA A g) w l[k] ((xs.drop (k * 8)).take 8))
    (hr : RowO w1 27 8 A' (m + 1) c' (xs ++ cs)) (ho : Only (inA A) w w1) (hA : ∀ k, inA A' k → inA A k ∨ (w.heap.size ≤ k ∧ k < w1.heap.size)) : RowE S w1 A' (m + 1) c' (l ++ [x]) := by
  have hxl : xs.length = m * 8 := hxs.1
  have hcl := hx.size
  have key : ∀ {t : Ex} {ds : List Value}, ReR (fun g => S g ∧ ¬ inA A g) w t ds → ReR (fun g => S g ∧ ¬ inA A' g) w1 t ds := fun {t ds} ht =>
    ReR.keep (fun g hg hl' => ho.block g hl' hg.2) (fun g hg hl' => ⟨hg.1, fun hin => (hA g hin).elim hg.2 (fun h => by omega)⟩) _ ht
  refine ⟨xs ++ cs, hr, by simp [hl], fun k hk => ?_⟩
  rw [List.length_append, List.length_singleton] at hk
  by_cases hkl : k < l.length
  · have e : ((xs ++ cs).drop (k * 8)).take 8 = (xs.drop (k * 8)).take 8 := by
      rw [List.drop_append_of_le_length (by omega), List.take_append_of_le_length (by rw [List.length_drop]; omega)]
    rw [e, List.getElem_append_left hkl]
    exact key (hp k hkl)
  · obtain rfl : k = l.length := by omega
    have e : ((xs ++ cs).drop (l.length * 8)).take 8 = cs := by
      rw [show l.length * 8 = xs.length by omega, List.drop_left, List.take_of_length_le (by omega)]
    rw [e, List.getElem_append_right (Nat.le_refl _)]
    simp only [Nat.sub_self, List.getElem_cons_zero]
    exact key hx
/-- a new row of one -/
theorem RowE.one (w : World) {x : Ex} {cs : List Value} (hx : ReR S w x cs) : RowE S (w.alloc (Obj.cells cs.toArray 27)) (some ⟨w.heap.size, 0, none⟩) 1 1 [x] := by
  have h8 := hx.size
  refine ⟨cs, RowO.lit w 27 8 1 cs.toArray (by simp [h8]) (by simp [maxLen]) rfl, rfl, fun k hk => ?_⟩
  have hk0 : k = 0 := by simp at hk; omega
  subst hk0
  rw [Nat.zero_mul, List.drop_zero, List.take_of_length_le (by omega)]
  exact ReR.keep (fun g _ hl => Below.heap_alloc w _ g hl) (fun g hg hl => ⟨hg, fun hin => by rw [inA_some] at hin; omega⟩) _ hx
end

/-! ### A variable that is an expression -/
theorem size_re {cs : Array Value} (h : cs.size = 8) : (Tryd.prog.info? 27).map (·.size) = some cs.size := by
  have hi := info_re
  rw [h]
  cases hx : Tryd.prog.info? 27 with
  | none => rw [hx] at hi; cases hi
  | some i =>
    rw [hx] at hi
    simp only [Option.map_some, Option.some.injEq, Prod.mk.injEq] at hi
    simp [hi.2.1]
theorem wpList_store_re {ops : Array Oper} {rest : List Oper} {op : Oper} {a : Act} {w : World} {Q : Exit → Act → World → Prop} (hgd : op.guard = none) (x y : Operand) (ho : op.op = .store 27 x y)
    (g : Nat) (hx : a.eval x = .pointer (some ⟨g, 0, none⟩)) {t : TypeId} {cs ds : Array Value} (hy : a.eval y = .agg ds) (hd : ds.size = 8) (hc : cs.size = 8) (h1 : ds.all (·.oneCell') = true) (hB : Blk w g t cs)
    (h : ∀ w', Blk w' g t ds → Only (fun k => k = g) w w' → wpList Tryd.prog ops Q rest (a.put op.dst undef) w') : wpList Tryd.prog ops Q (op :: rest) a w := by
  refine wpList_store_mid hgd 27 x y ho g 0 ds hx hy (hB.there 0 _ (by omega)) (size_re hd) h1 (h _ ?_ ?_)
  · have := hB.whole ds.toList (by simp [hc, hd])
    simpa using this
  · exact (Only.refl (fun k => k = g) w).setCells (.inl rfl) ds.toList 0
/-- a result that lies in a cell -/
theorem results_re {fn : Func} {t : Tmp} (h : fn.results = #[.cell t 27]) (tmps : Array Value) (w : World) (g : Nat) (e : TypeId) (cs : Array Value)
    (ht : tmps.getD t undef = .pointer (some ⟨g, 0, none⟩)) (hb : Blk w g e cs) (hc : cs.size = 8) : (results fn tmps).run Tryd.prog w = .ok (.agg cs) w := by
  have hl := run_loadVar_row (P := Tryd.prog) w g e 27 cs (0, 0) _ hb Tryd.underlying27 rfl (size_re hc)
  rw [Array.getD_eq_getD_getElem?] at ht
  simp [results, h, ht, asAddr, hl]
end Go.Proofs.YtmggajpecgnjkaaDoor

/-
  Contracts of the reference's plain, hex, sign, two, times. No statement of the seat is proved here.
-/
namespace Go.Proofs.YtmggajpecgnjkaaDoor
open Go Go.RowKit
set_option maxRecDepth 100000


set_option maxHeartbeats 1000000 in
theorem rplain_any (c : Nat) (hc : c < 256) (w : World) : Calls Tryd.prog 108 #[.int .u8 (c : Int)] w fun e w' => e = .returned (.bool (plainB c)) ∧ w = w' := by
  have h : c < 48 ∨ (48 ≤ c ∧ c ≤ 57) ∨ (58 ≤ c ∧ c < 65) ∨ (65 ≤ c ∧ c ≤ 90) ∨ (91 ≤ c ∧ c < 97) ∨ (97 ≤ c ∧ c ≤ 122) ∨ 123 ≤ c := by omega
  rcases h with h | h | h | h | h | h | h
  all_goals
    first
    | (have hr : plainB c = true := by rw [plain_iff]; omega
       rw [hr]; clear hr
       go_enter Tryd.func108, Tryd.ntmps108
       go_wp2
       all_goals (go_ret; exact ⟨ret_bool (by first | rfl | (exfalso; omega) | (simp; done) | (simp; omega)), rfl⟩))
    | (have hr : plainB c = false := by rw [← Bool.not_eq_true, plain_iff]; omega
       rw [hr]; clear hr
       go_enter Tryd.func108, Tryd.ntmps108
       go_wp2
       all_goals (go_ret; exact ⟨ret_bool (by first | rfl | (exfalso; omega) | (simp; done) | (simp; omega)), rfl⟩))

theorem rhex_any (c : Nat) (hc : c < 16) (w : World) : Calls Tryd.prog 109 #[.int .u8 (c : Int)] w fun e w' => e = .returned (.int .u8 (hexD c : Int)) ∧ w = w' := by
  unfold hexD
  rcases Nat.lt_or_ge c 10 with h | h
  · have hi : (c : Int) < 10 := by omega
    rw [if_pos h]
    go_enter Tryd.func109, Tryd.ntmps109
    go_wp2
    go_ret
    exact ⟨ret_eq (by omega), rfl⟩
  · have hi : (10 : Int) ≤ (c : Int) := by omega
    rw [if_neg (by omega)]
    go_enter Tryd.func109, Tryd.ntmps109
    go_wp2
    go_ret
    exact ⟨ret_eq (by omega), rfl⟩

theorem shr4 (c : Nat) (hc : c < 256) : (c : Int) / 16 = ((c / 16 : Nat) : Int) := by omega
theorem and15i : ∀ c : Fin 256, bits BinOp.and IntKind.u8 ((c.val : Nat) : Int) 15 = ((c.val % 16 : Nat) : Int) := by decide +kernel
set_option maxHeartbeats 1000000 in
theorem rsign_any (c : Nat) (hc : c < 256) (w : World) : Calls Tryd.prog 85 #[.int .u8 (c : Int)] w fun e w' => e = .returned (.string (bsN (signB c))) ∧ Below w.heap.size w w' := by
  have hP := fun W => rplain_any c hc W
  unfold signB
  cases hp : plainB c with
  | true =>
    rw [hp] at hP
    rw [if_pos rfl]
    have kc := conv_nb (w.alloc (Obj.cells #[.int .u8 (c : Int)] 5)) (some ⟨w.heap.size, 0, none⟩) 1 1 [c] rfl (by simpa using hc) (Rd.lit w #[.int .u8 (c : Int)] 5)
    clear hp
    go_enter Tryd.func85, Tryd.ntmps85
    go_wp2_with (first | (go_at_call 108; (with_reducible refine (hP _).mono ?_); rintro e w' ⟨rfl, rfl⟩))
    go_ret
    exact ⟨rfl, (Below.refl _ _).alloc (Nat.le_refl _) _⟩
  | false =>
    rw [hp] at hP
    rw [if_neg (by simp)]
    have k1 := hexD_lt (c := c / 16) (by omega)
    have k2 := hexD_lt (c := c % 16) (by omega)
    have hs := shr4 c hc
    have h15 : bits BinOp.and IntKind.u8 (c : Int) 15 = ((c % 16 : Nat) : Int) := and15i ⟨c, hc⟩
    have ha16 : c / 16 < 16 := by omega
    have hb16 : c % 16 < 16 := by omega
    clear hp
    generalize c / 16 = a at hs k1 ha16 ⊢
    generalize c % 16 = b at h15 k2 hb16 ⊢
    have h1 := rhex_any a ha16
    have h2 := rhex_any b hb16
    generalize hexD a = x at h1 k1 ⊢
    generalize hexD b = y at h2 k2 ⊢
    have kc := conv_nb (w.alloc (Obj.cells #[.int .u8 (x : Int), .int .u8 (y : Int)] 5)) (some ⟨w.heap.size, 0, none⟩) 2 2 [x, y] rfl (by simp [k1, k2]) (Rd.lit w #[.int .u8 (x : Int), .int .u8 (y : Int)] 5)
    obtain ⟨Z, hZ⟩ : ∃ Z, bsN [x, y] = Z := ⟨_, rfl⟩
    have e2 : (⟨#[92, 120]⟩ : ByteArray) ++ Z = bsN [92, 120, x, y] := by rw [← hZ]; exact bsN_append [92, 120] _
    have hzs : Z.size = 2 := by rw [← hZ, bsN_size]; rfl
    have hzl : Z.size ≤ 2 := by omega
    rw [hZ] at kc
    rw [← e2]
    clear k1 k2 ha16 hb16 hZ e2 hzs
    go_enter Tryd.func85, Tryd.ntmps85
    go_wp2_with (first | (go_at_call 108; (with_reducible refine (hP _).mono ?_); rintro e w' ⟨rfl, rfl⟩) | (go_at_call 109; first | ((with_reducible refine (h1 _).mono ?_); rintro e w' ⟨rfl, rfl⟩) | ((with_reducible refine (h2 _).mono ?_); rintro e w' ⟨rfl, rfl⟩)))
    go_ret
    exact ⟨rfl, (Below.refl _ _).alloc (Nat.le_refl _) _⟩

theorem divi (n : Nat) : (n : Int) / 10 = ((n / 10 : Nat) : Int) := by omega
theorem modi (n : Nat) : (n : Int) % 10 = ((n % 10 : Nat) : Int) := by omega
set_option maxHeartbeats 1000000 in
theorem rtwo_any (n : Nat) (hn : n < 100) (w : World) : Calls Tryd.prog 87 #[.int .i64 (n : Int)] w fun e w' => e = .returned (.string (bsN (twoB n))) ∧ Below w.heap.size w w' := by
  unfold twoB
  rcases Nat.lt_or_ge n 10 with h | h
  · have hi : (n : Int) < 10 := by omega
    rw [if_pos h]
    have kc := conv_nb (w.alloc (Obj.cells #[.int .u8 ((48 + n : Nat) : Int)] 5)) (some ⟨w.heap.size, 0, none⟩) 1 1 [48 + n] rfl (by simp; omega) (Rd.lit w #[.int .u8 ((48 + n : Nat) : Int)] 5)
    rw [show ((48 + n : Nat) : Int) = 48 + (n : Int) by omega] at kc
    generalize bsN [48 + n] = Z at kc ⊢
    go_enter Tryd.func87, Tryd.ntmps87
    go_wp2
    go_ret
    exact ⟨rfl, (Below.refl _ _).alloc (Nat.le_refl _) _⟩
  · have hi : (10 : Int) ≤ (n : Int) := by omega
    have hd := divi n
    have hm := modi n
    rw [if_neg (by omega)]
    have ha16 : n / 10 < 10 := by omega
    have hb16 : n % 10 < 10 := by omega
    generalize n / 10 = a at hd ha16 ⊢
    generalize n % 10 = b at hm hb16 ⊢
    have kc := conv_nb (w.alloc (Obj.cells #[.int .u8 ((48 + a : Nat) : Int), .int .u8 ((48 + b : Nat) : Int)] 5)) (some ⟨w.heap.size, 0, none⟩) 2 2 [48 + a, 48 + b] rfl (by simp; omega) (Rd.lit w #[.int .u8 ((48 + a : Nat) : Int), .int .u8 ((48 + b : Nat) : Int)] 5)
    rw [show ((48 + a : Nat) : Int) = 48 + (a : Int) by omega, show ((48 + b : Nat) : Int) = 48 + (b : Int) by omega] at kc
    generalize bsN [48 + a, 48 + b] = Z at kc ⊢
    go_enter Tryd.func87, Tryd.ntmps87
    go_wp2
    go_ret
    exact ⟨rfl, (Below.refl _ _).alloc (Nat.le_refl _) _⟩

/-- a repeat's numbers that may be -/
theorem rep_iff {lo hi : Int} : repB lo hi = true ↔ 0 ≤ lo ∧ lo ≤ 32 ∧ (hi = -1 ∨ (1 ≤ hi ∧ hi ≤ 32 ∧ lo ≤ hi)) := by
  simp [repB, and_assoc]
set_option maxHeartbeats 2000000 in
theorem rtimes_any (lo hi : Int) (h : repB lo hi = true) (w : World) : Calls Tryd.prog 68 #[.int .i64 lo, .int .i64 hi] w fun e w' => e = .returned (.string (bsN (timesT lo hi))) ∧ Below w.heap.size w w' := by
  rw [rep_iff] at h
  obtain ⟨l, rfl⟩ : ∃ l : Nat, lo = (l : Int) := ⟨lo.toNat, by omega⟩
  obtain ⟨h1, h2, h3⟩ := h
  have hT : ∃ Z, bsN (twoB l) = Z ∧ Z.size ≤ 2 ∧ ∀ W, Calls Tryd.prog 87 #[.int .i64 (l : Int)] W fun e w' => e = .returned (.string Z) ∧ Below W.heap.size W w' :=
    ⟨_, rfl, by rw [bsN_size]; exact twoB_len _, fun W => rtwo_any l (by omega) W⟩
  unfold timesT
  by_cases c1 : hi = -1
  · subst c1
    by_cases c2 : l = 0
    · subst c2
      rw [if_pos ⟨rfl, rfl⟩]
      go_enter Tryd.func68, Tryd.ntmps68
      go_wp2
      go_ret
      exact ⟨rfl, Below.refl _ _⟩
    by_cases c3 : l = 1
    · subst c3
      rw [if_neg (by omega), if_pos ⟨rfl, rfl⟩]
      go_enter Tryd.func68, Tryd.ntmps68
      go_wp2
      go_ret
      exact ⟨rfl, Below.refl _ _⟩
    rw [if_neg (by omega), if_neg (by omega), if_neg (by omega), if_neg (by omega), if_pos rfl, Int.toNat_natCast]
    obtain ⟨Z, hZ, hz, hT⟩ := hT
    have e2 : (⟨#[123]⟩ : ByteArray) ++ Z ++ ⟨#[44, 125]⟩ = bsN (123 :: (twoB l ++ [44, 125])) := by rw [← hZ, show (⟨#[123]⟩ : ByteArray) = bsN [123] from rfl, show (⟨#[44, 125]⟩ : ByteArray) = bsN [44, 125] from rfl, bsN_append, bsN_append]; rfl
    rw [← e2]
    have b1 : ((l : Int) == 0) = false := by simp <;> omega
    have b2 : ((l : Int) == 1) = false := by simp <;> omega
    have b3 : ((l : Int) == -1) = false := by simp <;> omega
    clear e2 hZ c2 c3
    go_enter Tryd.func68, Tryd.ntmps68
    go_wp2_with fail
    refine (hT _).mono ?_
    rintro e w2 ⟨rfl, hb2⟩
    go_wp2
    go_ret
    exact ⟨rfl, hb2⟩
  · obtain ⟨x, rfl⟩ : ∃ x : Nat, hi = (x : Int) := ⟨hi.toNat, by omega⟩
    by_cases c2 : l = 0 ∧ x = 1
    · obtain ⟨rfl, rfl⟩ := c2
      rw [if_neg (by omega), if_neg (by omega), if_pos ⟨rfl, rfl⟩]
      go_enter Tryd.func68, Tryd.ntmps68
      go_wp2
      go_ret
      exact ⟨rfl, Below.refl _ _⟩
    have d1 : ((x : Int) == -1) = false := by simp <;> omega
    by_cases c3 : l = x
    · subst c3
      rw [if_neg (by omega), if_neg (by omega), if_neg (by omega), if_pos rfl, Int.toNat_natCast]
      obtain ⟨Z, hZ, hz, hT⟩ := hT
      have e2 : (⟨#[123]⟩ : ByteArray) ++ Z ++ ⟨#[125]⟩ = bsN (123 :: (twoB l ++ [125])) := by rw [← hZ, show (⟨#[123]⟩ : ByteArray) = bsN [123] from rfl, show (⟨#[125]⟩ : ByteArray) = bsN [125] from rfl, bsN_append, bsN_append]; rfl
      rw [← e2]
      clear e2 hZ
      go_enter Tryd.func68, Tryd.ntmps68
      by_cases c4 : l = 1
      · subst c4
        go_wp2_with fail
        refine (hT _).mono ?_
        rintro e w2 ⟨rfl, hb2⟩
        go_wp2
        go_ret
        exact ⟨rfl, hb2⟩
      · have b1 : ((l : Int) == 0) = false := by simp <;> omega
        have b5 : ((l : Int) == 1) = false := by simp <;> omega
        go_wp2_with fail
        refine (hT _).mono ?_
        rintro e w2 ⟨rfl, hb2⟩
        go_wp2
        go_ret
        exact ⟨rfl, hb2⟩
    · rw [if_neg (by omega), if_neg (by omega), if_neg (by omega), if_neg (by omega), if_neg (by omega), Int.toNat_natCast, Int.toNat_natCast]
      obtain ⟨Z, hZ, hz, hT⟩ := hT
      have hT2 : ∀ W, Calls Tryd.prog 87 #[.int .i64 (x : Int)] W fun e w' => e = .returned (.string (bsN (twoB x))) ∧ Below W.heap.size W w' := fun W => rtwo_any x (by omega) W
      have hy : (bsN (twoB x)).size ≤ 2 := by rw [bsN_size]; exact twoB_len _
      have e2 : (⟨#[123]⟩ : ByteArray) ++ Z ++ ⟨#[44]⟩ ++ bsN (twoB x) ++ ⟨#[125]⟩ = bsN (123 :: (twoB l ++ (44 :: (twoB x ++ [125])))) := by
        rw [← hZ, show (⟨#[123]⟩ : ByteArray) = bsN [123] from rfl, show (⟨#[125]⟩ : ByteArray) = bsN [125] from rfl, show (⟨#[44]⟩ : ByteArray) = bsN [44] from rfl, bsN_append, bsN_append, bsN_append, bsN_append]; simp
      rw [← e2]
      clear e2 hZ
      generalize bsN (twoB x) = Y at hT2 hy ⊢
      have b4 : ((l : Int) == (x : Int)) = false := by simp <;> omega
      by_cases c4 : l = 0
      · subst c4
        have b1 : ((x : Int) == 1) = false := by simp <;> omega
        go_enter Tryd.func68, Tryd.ntmps68
        go_wp2_with fail
        refine (hT _).mono ?_
        rintro e w2 ⟨rfl, hb2⟩
        go_wp2_with fail
        refine (hT2 _).mono ?_
        rintro e w3 ⟨rfl, hb3⟩
        go_wp2
        go_ret
        exact ⟨rfl, ext_trans hb2 hb3⟩
      · have b1 : ((l : Int) == 0) = false := by simp <;> omega
        go_enter Tryd.func68, Tryd.ntmps68
        by_cases c5 : l = 1
        · subst c5
          go_wp2_with fail
          refine (hT _).mono ?_
          rintro e w2 ⟨rfl, hb2⟩
          go_wp2_with fail
          refine (hT2 _).mono ?_
          rintro e w3 ⟨rfl, hb3⟩
          go_wp2
          go_ret
          exact ⟨rfl, ext_trans hb2 hb3⟩
        · have b5 : ((l : Int) == 1) = false := by simp <;> omega
          go_wp2_with fail
          refine (hT _).mono ?_
          rintro e w2 ⟨rfl, hb2⟩
          go_wp2_with fail
          refine (hT2 _).mono ?_
          rintro e w3 ⟨rfl, hb3⟩
          go_wp2
          go_ret
          exact ⟨rfl, ext_trans hb2 hb3⟩
end Go.Proofs.YtmggajpecgnjkaaDoor

/-
  Words for rows of neighbours. No statement of the seat is proved here.
-/
namespace Go.Proofs.YtmggajpecgnjkaaDoor
open Go Go.RowKit
set_option maxRecDepth 100000



def encR (p : Nat × Nat) : List Value := [nb p.1, nb p.2]
def cellsR (l : List (Nat × Nat)) : List Value := l.flatMap encR
theorem cellsR_length (l : List (Nat × Nat)) : (cellsR l).length = l.length * 2 := by
  induction l with
  | nil => rfl
  | cons x r ih =>
    have : cellsR (x :: r) = encR x ++ cellsR r := rfl
    rw [this, List.length_append, ih]; simp [encR]; omega
theorem cellsR_append (a b : List (Nat × Nat)) : cellsR (a ++ b) = cellsR a ++ cellsR b := by unfold cellsR; rw [List.flatMap_append]
theorem cellsR_at (l : List (Nat × Nat)) (k : Nat) (h : k < l.length) : (cellsR l)[k * 2]? = some (nb l[k].1) ∧ (cellsR l)[k * 2 + 1]? = some (nb l[k].2) := by
  have e : cellsR l = cellsR (l.take k) ++ (encR l[k] ++ cellsR (l.drop (k + 1))) := by
    conv => lhs; rw [← List.take_append_drop k l, cellsR_append, List.drop_eq_getElem_cons h]
    rfl
  have hl : (cellsR (l.take k)).length = k * 2 := by rw [cellsR_length, List.length_take]; congr 1; omega
  rw [e]
  constructor
  · rw [List.getElem?_append_right (by omega), hl, Nat.sub_self]; rfl
  · rw [List.getElem?_append_right (by omega), hl, Nat.add_sub_cancel_left]; rfl
theorem cellsR_set (l : List (Nat × Nat)) (a h b : Nat) : (cellsR (l ++ [(a, h)])).set (l.length * 2 + 1) (nb b) = cellsR (l ++ [(a, b)]) := by
  rw [cellsR_append, cellsR_append, List.set_append, if_neg (by rw [cellsR_length]; omega), cellsR_length, Nat.add_sub_cancel_left]
  rfl
theorem info_two : (Tryd.prog.info? 106).map (fun i => (i.zero, i.size, i.bytes)) = some (some (.agg #[.int .u8 0, .int .u8 0]), 2, 2) := by kernel_rfl
/-- a row of rows in memory -/
theorem RowO.cellR {w : World} {e : TypeId} {A : Option Addr} {c : Nat} {l : List (Nat × Nat)} (h : RowO w e 2 A l.length c (cellsR l)) {k : Nat} (hk : k < l.length) :
    ∃ g o, A = some ⟨g, o, none⟩ ∧ w.cell? ⟨g, o + k * 2, none⟩ = some (.int .u8 (l[k].1 : Int)) ∧ w.cell? ⟨g, o + k * 2 + 1, none⟩ = some (.int .u8 (l[k].2 : Int)) := by
  obtain ⟨h1, h2⟩ := cellsR_at l k hk
  obtain ⟨ad, e, c1⟩ := h.rd _ _ h1
  obtain ⟨ad', e', c2⟩ := h.rd _ _ h2
  rw [e] at e'; injection e' with e'; subst e'
  obtain ⟨g, o, rfl⟩ := h.flat ad e
  rw [Addr.add_mid] at c1 c2
  rw [← Nat.add_assoc] at c2
  exact ⟨g, o, e, c1, c2⟩

theorem listB_rises (ws : List Nat) : (listB ws).Pairwise (· < ·) := by unfold listB upB; exact List.pairwise_lt_range.filter _
/-- one byte more of a rising list -/
theorem rows_at {l : List Nat} (hb : ∀ b ∈ l, b < 256) (hp : l.Pairwise (· < ·)) {k : Nat} (hk : k < l.length) :
    (k = 0 ∧ rowsB (l.take k) = [] ∧ rowsB (l.take (k + 1)) = [(l[k], l[k])]) ∨
    ∃ (r : List (Nat × Nat)) (lo h : Nat), 0 < k ∧ rowsB (l.take k) = r ++ [(lo, h)] ∧ h < l[k] ∧ l[k - 1]? = some h ∧ r.length + 1 ≤ k ∧
      (h + 1 = l[k] → rowsB (l.take (k + 1)) = r ++ [(lo, l[k])]) ∧ (h + 1 ≠ l[k] → rowsB (l.take (k + 1)) = r ++ [(lo, h)] ++ [(l[k], l[k])]) := by
  have hbt : ∀ b ∈ l.take k, b < 256 := fun b hm => hb b (List.mem_of_mem_take hm)
  have hsn : rowsB (l.take (k + 1)) = stepR (rowsB (l.take k)) l[k] := by rw [take_snoc l k hk, rowsB_snoc]
  have hlk : (l.take k).length = k := by rw [List.length_take]; omega
  rcases rows_facts _ (l.take k) rfl hbt with ⟨h1, h2⟩ | ⟨m, h, r, lo, h1, h2, h3, h4, _, _⟩
  · left
    have k0 : k = 0 := by rw [h1] at hlk; simpa using hlk.symm
    exact ⟨k0, h2, by rw [hsn, h2, stepR_nil]⟩
  · right
    have hm : m.length + 1 = k := by rw [h1] at hlk; simpa using hlk
    have hkm : (l.take k)[k - 1]? = some h := by rw [h1, show k - 1 = m.length by omega, List.getElem?_concat_length]
    have hk1 : l[k - 1]? = some h := by
      rw [List.getElem?_take] at hkm
      split at hkm
      · exact hkm
      · cases hkm
    have hlt : h < l[k] := by
      have h5 := List.pairwise_iff_getElem.1 hp (k - 1) k (by omega) hk (by omega)
      rw [List.getElem?_eq_getElem (by omega)] at hk1
      injection hk1 with hk1
      rwa [hk1] at h5
    refine ⟨r, lo, h, by omega, h2, hlt, hk1, ?_, fun e => ?_, fun e => ?_⟩
    · rw [h2, hlk, List.length_append] at h4
      simpa using h4
    · rw [hsn, h2, stepR_join _ _ _ _ e]
    · rw [hsn, h2, stepR_new _ _ _ _ e]

end Go.Proofs.YtmggajpecgnjkaaDoor

/-
  Contract of the reference's Has. No statement of the seat is proved here.
-/
namespace Go.Proofs.YtmggajpecgnjkaaDoor
open Go Go.RowKit
set_option maxRecDepth 100000


set_option maxHeartbeats 1000000 in
theorem rhas_any (ws : List Nat) (hs : SetOk ws) (b : Nat) (hb : b < 256) (w : World) :
    Calls Tryd.prog 107 #[setV ws, .int .u8 (b : Int)] w fun e w' => e = .returned (.bool (hasB ws b)) ∧ Below w.heap.size w w' := by
  have hz := cellsU_size hs
  have hB := Blk.new w 24 (cellsU ws)
  have hcell : (w.alloc (.cells (cellsU ws) 24)).cell? ⟨w.heap.size, b / 64, none⟩ = some (.int .u64 (wordB ws (b / 64) : Int)) := (hB.cell _).trans (cellsU_at hs (by omega))
  have key := ref_key (wordB ws (b / 64)) b (hs.wlt _)
  have hlt : b / 64 < 4 := by omega
  have hbel : Below w.heap.size w (w.alloc (.cells (cellsU ws) 24)) := (Below.refl _ _).alloc (Nat.le_refl _) _
  unfold setV
  unfold hasB
  generalize wordB ws (b / 64) = word at hcell key ⊢
  clear hB
  generalize word.testBit (b % 64) = t at key ⊢
  cases t
  · simp only [Bool.false_eq_true, if_false] at key
    go_enter Tryd.func107, Tryd.ntmps107
    go_wp2_with (simp only [key])
    go_ret
    exact ⟨rfl, hbel⟩
  · simp only [if_true] at key
    go_enter Tryd.func107, Tryd.ntmps107
    go_wp2_with (simp only [key])
    go_ret
    exact ⟨rfl, hbel⟩

end Go.Proofs.YtmggajpecgnjkaaDoor

/-
  Contract of the reference's List. No statement of the seat is proved here.
-/
namespace Go.Proofs.YtmggajpecgnjkaaDoor
open Go Go.RowKit
set_option maxRecDepth 100000


set_option maxHeartbeats 4000000 in
theorem rlist_any (ws : List Nat) (hs : SetOk ws) (w : World) :
    Calls Tryd.prog 84 #[setV ws] w fun e w' => ∃ A' c', e = .returned (.slice A' (listB ws).length c') ∧ NewO w w' 5 1 A' (listB ws).length c' ((listB ws).map nb) := by
  have hB1 := Blk.new w 24 (cellsU ws)
  unfold setV
  go_enter Tryd.func84, Tryd.ntmps84
  go_wp2
  go_loopw [3, 4] (fun s i wr => ∃ (k : Nat) (L : List Nat) (A : Option Addr) (c : Nat), k ≤ 256 ∧ i = .int .i64 (k : Int) ∧ L = upB ws k ∧ s = .slice A L.length c ∧ NewO (w.alloc (Obj.cells (cellsU ws) 24)) wr 5 1 A L.length c (L.map nb)) (fun _ i _ => 256 - (intOf i).toNat)
  case atStart => exact ⟨0, [], none, 0, by omega, rfl, by simp [upB], rfl, NewO.start _ _ _⟩
  case round =>
    obtain ⟨k, L, A, c, hk, rfl, hL, rfl, hN⟩ := hrel
    by_cases hlt : k < 256
    · have hki : (k : Int) < 256 := by omega
      have hsn := upB_succ ws k
      rw [← hL] at hsn
      have hle : L.length ≤ 256 := by
        have := upB_len ws k
        rw [← hL] at this
        omega
      have hB2 := hB1.ext hN.bel
      have hcall := rhas_any ws hs k hlt wr
      unfold setV at hcall
      have Hsn := Lib.hid hsn
      have HB1 := Lib.hid hB1
      clear hsn hL hB1
      go_wp2_with (refine wpList_load_set rfl _ rfl w.heap.size rfl hs hB2 ?_)
      refine hcall.mono ?_
      rintro e w2 ⟨rfl, hb2⟩
      have hN2 := hN.ext hb2
      clear hcall hB2
      generalize hasB ws k = t at Hsn
      cases t
      · go_wp2
        go_roundw
        case rel =>
          have h1 := Hsn.out
          simp only [Bool.false_eq_true, if_false, List.append_nil] at h1
          exact ⟨k + 1, L, A, c, by omega, by go_num, h1.symm, rfl, hN2⟩
        case measure => simp [intOf]; omega
      · have hm1 : L.length + 1 ≤ maxLen := by unfold maxLen; omega
        have hm2 : (L.length + 1) * 1 ≤ 140737488355328 := by omega
        go_wp2_with (at_builtin
                     refine wpList_appO _ rfl (.tmp 13) (.tmp 16) _ rfl _ _ 1 1 Tryd.underlying44 info_u8 rfl A _ c _ rfl (hN2.row.alloc _) (some ⟨w2.heap.size, 0, none⟩) 1 1 [_] rfl rfl (Rd.lit _ #[_] _) ?_ ?_ hm1 hm2 ?_
                     · simp; rfl
                     · intro h; cases h
                     intro A3 c3 w4 hrow4 honly4 hA4)
        have hN4 := hN2.grow (ext_alloc (Below.refl _ _) _) hrow4 honly4 hA4
        go_roundw
        case rel =>
          have h1 := Hsn.out
          simp only [if_true] at h1
          refine ⟨k + 1, L ++ [k], A3, c3, by omega, by go_num, h1.symm, by rw [List.length_append]; rfl, ?_⟩
          rw [List.length_append, List.map_append]
          exact hN4
        case measure => simp [intOf]; omega
    · obtain rfl : k = 256 := by omega
      have hL2 : L = listB ws := hL
      subst hL2
      clear hL hB1
      go_wp2
      go_ret
      exact ⟨A, c, rfl, hN.back ((Below.refl _ _).alloc (Nat.le_refl _) _)⟩
end Go.Proofs.YtmggajpecgnjkaaDoor

/-
  Contract of the reference's Ranges. No statement of the seat is proved here.
-/
namespace Go.Proofs.YtmggajpecgnjkaaDoor
open Go Go.RowKit
set_option maxRecDepth 100000


set_option maxHeartbeats 4000000 in
theorem rranges_any (ws : List Nat) (hs : SetOk ws) (w : World) :
    Calls Tryd.prog 86 #[setV ws] w fun e w' => ∃ A' c', e = .returned (.slice A' (rowsB (listB ws)).length c') ∧ NewO w w' 106 2 A' (rowsB (listB ws)).length c' (cellsR (rowsB (listB ws))) := by
  have hB1 := Blk.new w 24 (cellsU ws)
  have hcall := rlist_any ws hs (w.alloc (Obj.cells (cellsU ws) 24))
  have hbs : ∀ b ∈ listB ws, b < 256 := fun b hb => listB_lt hb
  have hps := listB_rises ws
  have hll := listB_len ws
  obtain ⟨l, hl⟩ : ∃ l, listB ws = l := ⟨_, rfl⟩
  rw [hl] at hcall hbs hps hll ⊢
  clear hl
  unfold setV at hcall ⊢
  go_enter Tryd.func86, Tryd.ntmps86
  go_wp2_with (refine wpList_load_set rfl _ rfl w.heap.size rfl hs hB1 ?_)
  refine hcall.mono ?_
  rintro e w2 ⟨AL, cL, rfl, hNL⟩
  clear hcall hB1
  go_wp2
  go_loopw [3, 5] (fun s i wr => ∃ (k : Nat) (R : List (Nat × Nat)) (A : Option Addr) (c : Nat), k ≤ l.length ∧ i = .int .i64 (k : Int) ∧ R = rowsB (l.take k) ∧ s = .slice A R.length c ∧ NewO w2 wr 106 2 A R.length c (cellsR R)) (fun _ i _ => l.length - (intOf i).toNat)
  case atStart => exact ⟨0, [], none, 0, by omega, rfl, rfl, rfl, NewO.start _ _ _⟩
  case round =>
    obtain ⟨k, R, A, c, hk, rfl, hR, rfl, hN⟩ := hrel
    by_cases hlt : k < l.length
    · have hki : (k : Int) < (l.length : Int) := by omega
      have hrd := hNL.rd.ext hN.bel
      obtain ⟨ad, rfl, q⟩ := hrd.at_ (k := k) (by simpa using hlt)
      simp only [List.getElem_map, nb] at q
      have hbb := hbs l[k] (List.getElem_mem hlt)
      have hne : ¬ inA A ad.block := fun hin => by
        have h1 := hN.2.2 _ hin
        obtain ⟨ad', e', h2⟩ := hNL.rd.at_ (k := k) (by simpa using hlt)
        injection e' with e'
        subst e'
        have h3 := World.block_lt_of_cell? _ _ h2
        rw [block_add] at h3
        omega
      have Hne := Lib.hid hne
      rcases rows_at hbs hps hlt with ⟨hk0, h1, h2⟩ | ⟨r, lo, h, hk0, h1, hhb, hk1, hrl, hj, hn⟩
      · obtain rfl : R = [] := hR.trans h1
        have H2 := Lib.hid h2
        clear hR h1 h2
        generalize l[k] = b at q hbb H2
        have hkf : ¬ ((0 : Int) < (k : Int)) := by omega
        have hkn : ¬ (0 < k) := by omega
        have Hk0 := Lib.hid hk0
        obtain ⟨m, hm⟩ : ∃ m, ([] : List (Nat × Nat)).length = m := ⟨_, rfl⟩
        obtain ⟨xs, hxs⟩ : ∃ xs, cellsR [] = xs := ⟨_, rfl⟩
        rw [hm, hxs] at hN
        rw [hm]
        have hm0 : m = 0 := hm.symm
        have hm1 : m + 1 ≤ maxLen := by unfold maxLen; omega
        have hm2 : (m + 1) * 2 ≤ 140737488355328 := by omega
        have Hm := Lib.hid hm
        have Hxs := Lib.hid hxs
        clear hm hxs hm0 hk0
        have Hrow : Hid (∀ W, Below wr.heap.size wr W → RowO W 106 2 A m c xs) := Lib.hid fun W hW => hN.row.ext hW
        have Hq : Hid (∀ W, Below wr.heap.size wr W → W.cell? (ad.add k) = some (.int .u8 (b : Int))) := Lib.hid fun W hW => (World.cell?_of_block (hW.block _ (World.block_lt_of_cell? wr _ q))).trans q
        have Hm1 := Lib.hid hm1
        have Hm2 := Lib.hid hm2
        have HN := Lib.hid hN
        clear hm1 hm2 hN
        go_wp2
        go_region
        go_wp2
        go_region_held3 (fun w' => w'.cell? (ad.add k) = some (.int .u8 (b : Int)))
          (first | exact q | exact hq3 | exact Hq.out _ (by repeat (first | apply ext_alloc | apply ext_drew | exact Below.refl _ _)))
          (first
          | (refine step_appO _ rfl (.tmp 41) (.tmp 51) _ rfl _ _ 2 2 Tryd.underlying104 info_two rfl A m c xs rfl (Hrow.out _ (by repeat (first | apply ext_alloc | apply ext_drew | exact Below.refl _ _))) (some ⟨_, 0, none⟩) 1 1 [.int .u8 (b : Int), .int .u8 (b : Int)] rfl rfl (Rd.lit_at _ #[.int .u8 (b : Int), .int .u8 (b : Int)] _ (by first | rfl | simp)) (by intro u hu; simp at hu; subst hu; rfl) (by intro h; cases h) Hm1.out Hm2.out ?_; intro A3 c3 w3 hrow3 honly3 hA3; have hq3 := cell_only (Hq.out _ (by repeat (first | apply ext_alloc | apply ext_drew | exact Below.refl _ _))) honly3 (by rw [block_add]; exact hne)))
        have hN3 := HN.out.grow (by repeat (first | apply ext_alloc | apply ext_drew | exact Below.refl _ _)) hrow3 honly3 hA3
        go_wp2
        go_roundw
        case rel =>
          refine ⟨k + 1, [(b, b)], A3, c3, by omega, by go_num, H2.out.symm, by rw [← Hm.out]; rfl, ?_⟩
          rw [← Hm.out, ← Hxs.out] at hN3
          exact hN3
        case measure => simp [intOf]; omega
      · obtain rfl : R = r ++ [(lo, h)] := hR.trans h1
        have Hj := Lib.hid hj
        have Hn := Lib.hid hn
        obtain ⟨ad', e', q0⟩ := hrd.at_ (k := k - 1) (by simp; omega)
        injection e' with e'
        subst e'
        have hlk : l[k - 1]'(by omega) = h := by
          rw [List.getElem?_eq_getElem (by omega)] at hk1
          injection hk1
        simp only [List.getElem_map, nb, hlk] at q0
        clear hR h1 hk1 hj hn hlk
        generalize l[k] = b at q hbb hhb Hj Hn
        have hkt : (0 : Int) < (k : Int) := by omega
        have hkk : ((k : Int) - 1).toNat = k - 1 := by omega
        have hki1 : (k : Int) - 1 < (l.length : Int) := by omega
        have hkb : (k : Int) ≤ 1000000 := by omega
        by_cases he : h + 1 = b
        · obtain ⟨g, o, rfl, q1, q2⟩ := hN.row.cellR (k := r.length) (by simp)
          simp only [List.getElem_append_right (Nat.le_refl _), Nat.sub_self, List.getElem_cons_zero] at q1 q2
          have hfr := hN.row.free (o + r.length * 2 + 1)
          have hN3 := hN.set (r.length * 2 + 1) (by rw [cellsR_length, List.length_append, List.length_singleton]; omega) (nb b)
          rw [← Nat.add_assoc, cellsR_set] at hN3
          have H3 := Lib.hid hN3
          have HN := Lib.hid hN
          have hR3 := Hj.out he
          have HR3 := Lib.hid hR3
          rw [List.length_append, List.length_singleton]
          have hrb : r.length ≤ 1000000 := by omega
          have hlast : ((r.length + 1 : Nat) : Int) - 1 = (r.length : Int) := by omega
          have hhe : (h : Int) + 1 = (b : Int) := by omega
          clear hN3 hR3 hN
          go_wp2
          go_region
          go_wp2
          go_region
          go_wp2
          go_roundw
          case rel =>
            refine ⟨k + 1, r ++ [(lo, b)], some ⟨g, o, none⟩, c, by omega, by go_num, HR3.out.symm, by simp, ?_⟩
            have h3 := H3.out
            rw [List.length_append, List.length_singleton] at h3 ⊢
            exact h3.ext (ext_drew (ext_drew (Below.refl _ _)))
          case measure => simp [intOf]; omega
        · have hR3 := Hn.out he
          have HR3 := Lib.hid hR3
          have hhe : ¬ ((h : Int) + 1 = (b : Int)) := by omega
          obtain ⟨m, hm⟩ : ∃ m, (r ++ [(lo, h)]).length = m := ⟨_, rfl⟩
          obtain ⟨xs, hxs⟩ : ∃ xs, cellsR (r ++ [(lo, h)]) = xs := ⟨_, rfl⟩
          rw [hm, hxs] at hN
          rw [hm]
          have hmk : m ≤ k := by rw [← hm]; simp; omega
          have hm1 : m + 1 ≤ maxLen := by unfold maxLen; omega
          have hm2 : (m + 1) * 2 ≤ 140737488355328 := by omega
          have Hm := Lib.hid hm
          have Hxs := Lib.hid hxs
          clear hm hxs hR3
          have Hrow : Hid (∀ W, Below wr.heap.size wr W → RowO W 106 2 A m c xs) := Lib.hid fun W hW => hN.row.ext hW
          have Hq : Hid (∀ W, Below wr.heap.size wr W → W.cell? (ad.add k) = some (.int .u8 (b : Int))) := Lib.hid fun W hW => (World.cell?_of_block (hW.block _ (World.block_lt_of_cell? wr _ q))).trans q
          have Hm1 := Lib.hid hm1
          have Hm2 := Lib.hid hm2
          have HN := Lib.hid hN
          clear hm1 hm2 hN
          go_wp2
          go_region
          go_wp2
          go_region_held3 (fun w' => w'.cell? (ad.add k) = some (.int .u8 (b : Int)))
            (first | exact q | exact hq3 | exact Hq.out _ (by repeat (first | apply ext_alloc | apply ext_drew | exact Below.refl _ _)))
            (first
            | (refine step_appO _ rfl (.tmp 41) (.tmp 51) _ rfl _ _ 2 2 Tryd.underlying104 info_two rfl A m c xs rfl (Hrow.out _ (by repeat (first | apply ext_alloc | apply ext_drew | exact Below.refl _ _))) (some ⟨_, 0, none⟩) 1 1 [.int .u8 (b : Int), .int .u8 (b : Int)] rfl rfl (Rd.lit_at _ #[.int .u8 (b : Int), .int .u8 (b : Int)] _ (by first | rfl | simp)) (by intro u hu; simp at hu; subst hu; rfl) (by intro h; cases h) Hm1.out Hm2.out ?_; intro A3 c3 w3 hrow3 honly3 hA3; have hq3 := cell_only (Hq.out _ (by repeat (first | apply ext_alloc | apply ext_drew | exact Below.refl _ _))) honly3 (by rw [block_add]; exact hne)))
          have hN3 := HN.out.grow (by repeat (first | apply ext_alloc | apply ext_drew | exact Below.refl _ _)) hrow3 honly3 hA3
          go_wp2
          go_roundw
          case rel =>
            refine ⟨k + 1, r ++ [(lo, h)] ++ [(b, b)], A3, c3, by omega, by go_num, HR3.out.symm, by rw [← Hm.out]; simp, ?_⟩
            rw [← Hm.out, ← Hxs.out] at hN3
            rw [cellsR_append (r ++ [(lo, h)]), show (r ++ [(lo, h)] ++ [(b, b)]).length = (r ++ [(lo, h)]).length + 1 by simp]
            exact hN3
          case measure => simp [intOf]; omega
    · obtain rfl : k = l.length := by omega
      rw [List.take_length] at hR
      subst hR
      go_wp2
      go_ret
      exact ⟨A, c, rfl, (hN.back hNL.bel).back ((Below.refl _ _).alloc (Nat.le_refl _) _)⟩
end Go.Proofs.YtmggajpecgnjkaaDoor

/-
  Contract of the reference's set (a set as a text). No statement of the seat is proved here.
-/
namespace Go.Proofs.YtmggajpecgnjkaaDoor
open Go Go.RowKit
set_option maxRecDepth 100000


theorem cellR_of {w : World} {A : Option Addr} {l : List (Nat × Nat)} (h : Rd w A (cellsR l)) (hf : Flat A) {k : Nat} (hk : k < l.length) :
    ∃ g o, A = some ⟨g, o, none⟩ ∧ w.cell? ⟨g, o + k * 2, none⟩ = some (.int .u8 (l[k].1 : Int)) ∧ w.cell? ⟨g, o + k * 2 + 1, none⟩ = some (.int .u8 (l[k].2 : Int)) := by
  obtain ⟨h1, h2⟩ := cellsR_at l k hk
  obtain ⟨ad, e, c1⟩ := h _ _ h1
  obtain ⟨ad', e', c2⟩ := h _ _ h2
  rw [e] at e'; injection e' with e'; subst e'
  obtain ⟨g, o, rfl⟩ := hf ad e
  rw [Addr.add_mid] at c1 c2
  rw [← Nat.add_assoc] at c2
  exact ⟨g, o, e, c1, c2⟩
theorem rowT_len (p : Nat × Nat) : (rowT p).length ≤ 9 := by
  have h1 := signB_len p.1
  have h2 := signB_len p.2
  unfold rowT
  split <;> simp only [List.length_append, List.length_cons, List.length_nil] <;> omega
theorem rowsT_append (a b : List (Nat × Nat)) : rowsT (a ++ b) = rowsT a ++ rowsT b := by unfold rowsT; rw [List.flatMap_append]
theorem rowsT_len (l : List (Nat × Nat)) : (rowsT l).length ≤ 9 * l.length := by
  induction l with
  | nil => simp [rowsT]
  | cons p r ih =>
    have := rowT_len p
    have e : rowsT (p :: r) = rowT p ++ rowsT r := rowsT_append [p] r |>.trans (by simp [rowsT])
    rw [e]
    simp only [List.length_append, List.length_cons]
    omega
theorem rowsT_take (l : List (Nat × Nat)) (k : Nat) (h : k < l.length) : rowsT (l.take (k + 1)) = rowsT (l.take k) ++ rowT l[k] := by
  rw [List.take_succ_eq_append_getElem h, rowsT_append]; simp [rowsT]
theorem setT_len (s : List Nat) : (setT s).length ≤ 2400 := by
  unfold setT
  split
  · have := signB_len ((listB s).getD 0 0); omega
  · split
    · simp
    · have h1 := rowsT_len (rowsB (listB s))
      have h2 := rowsB_len (l := listB s) (fun b hb => listB_lt hb)
      have h3 := listB_len s
      simp only [List.length_cons, List.length_append, List.length_nil]
      omega

set_option maxRecDepth 100000 in
set_option maxHeartbeats 2000000 in
theorem rset_any (ws : List Nat) (hs : SetOk ws) (w : World) : Calls Tryd.prog 67 #[setV ws] w fun e w' => e = .returned (.string (bsN (setT ws))) ∧ Below w.heap.size w w' := by
  obtain ⟨p0, p1, p2, p3, rfl⟩ := four_words hs
  have hL : ∀ W, Calls Tryd.prog 84 #[.agg #[.int .u64 (p0 : Int), .int .u64 (p1 : Int), .int .u64 (p2 : Int), .int .u64 (p3 : Int)]] W fun e w' => ∃ A' c', e = .returned (.slice A' (listB [p0, p1, p2, p3]).length c') ∧ Rd w' A' ((listB [p0, p1, p2, p3]).map nb) ∧ Flat A' ∧ Below W.heap.size W w' := fun W =>
    (rlist_any _ hs W).mono fun e w' ⟨A', c', e1, h1⟩ => ⟨A', c', e1, h1.rd, h1.row.flat, h1.bel⟩
  have hR : ∀ W, Calls Tryd.prog 86 #[.agg #[.int .u64 (p0 : Int), .int .u64 (p1 : Int), .int .u64 (p2 : Int), .int .u64 (p3 : Int)]] W fun e w' => ∃ A' c', e = .returned (.slice A' (rowsB (listB [p0, p1, p2, p3])).length c') ∧ Rd w' A' (cellsR (rowsB (listB [p0, p1, p2, p3]))) ∧ Flat A' ∧ Below W.heap.size W w' := fun W =>
    (rranges_any _ hs W).mono fun e w' ⟨A', c', e1, h1⟩ => ⟨A', c', e1, h1.rd, h1.row.flat, h1.bel⟩
  have hLl := listB_len [p0, p1, p2, p3]
  have hLlt : ∀ b ∈ listB [p0, p1, p2, p3], b < 256 := fun b hb => listB_lt hb
  have hRl := rowsB_len hLlt
  have hRlt := rowsB_lt hLlt
  have hT : setT [p0, p1, p2, p3] = (if (listB [p0, p1, p2, p3]).length = 1 then signB ((listB [p0, p1, p2, p3]).getD 0 0) else if (listB [p0, p1, p2, p3]).length = 256 then [46] else 91 :: (rowsT (rowsB (listB [p0, p1, p2, p3])) ++ [93])) := rfl
  rw [hT]
  have hB := Blk.new w 24 #[.int .u64 (p0 : Int), .int .u64 (p1 : Int), .int .u64 (p2 : Int), .int .u64 (p3 : Int)]
  show Calls Tryd.prog 67 #[.agg #[.int .u64 (p0 : Int), .int .u64 (p1 : Int), .int .u64 (p2 : Int), .int .u64 (p3 : Int)]] w _
  obtain ⟨L, hLe⟩ : ∃ L, listB [p0, p1, p2, p3] = L := ⟨_, rfl⟩
  rw [hLe] at hL hR hLl hLlt hRl hRlt ⊢
  obtain ⟨R, hRe⟩ : ∃ R, rowsB L = R := ⟨_, rfl⟩
  rw [hRe] at hR hRl hRlt ⊢
  clear hT hLe hRe hs
  have HL := Lib.hid hL
  have HR := Lib.hid hR
  have HB := Lib.hid hB
  have HLlt := Lib.hid hLlt
  have HRlt := Lib.hid hRlt
  have hLi : (L.length : Int) ≤ 256 := by omega
  have hRi : (R.length : Int) ≤ 256 := by omega
  clear hL hR hB hLlt hRlt
  by_cases h1 : L.length = 1
  · obtain ⟨b, rfl⟩ : ∃ b, L = [b] := List.length_eq_one_iff.1 h1
    rw [if_pos (show [b].length = 1 from rfl)]
    have hb := HLlt.out b (by simp)
    have hS := rsign_any b hb
    have HS := Lib.hid hS
    clear hS h1
    go_enter Tryd.func67, Tryd.ntmps67
    go_wp2_with fail
    refine (HL.out _).mono ?_
    rintro e w2 ⟨A1, e1, rfl, hr1, hf1, hb1⟩
    obtain ⟨ad, rfl, x0⟩ := hr1 0 (nb b) rfl
    obtain ⟨g, o, rfl⟩ := hf1 ad rfl
    rw [Addr.add_mid] at x0
    unfold nb at x0
    have x0' : w2.cell? ⟨g, o, none⟩ = some (.int .u8 (b : Int)) := x0
    clear x0 hr1 hf1
    go_wp2_with fail
    refine (HS.out _).mono ?_
    rintro e w3 ⟨rfl, hb3⟩
    go_wp2
    go_ret
    exact ⟨rfl, ext_trans (ext_trans ((Below.refl _ _).alloc (Nat.le_refl _) _) hb1) hb3⟩
  rw [if_neg h1]
  have h1' : ((L.length : Int) == 1) = false := by rw [beq_eq_false_iff_ne]; omega
  by_cases h2 : L.length = 256
  · rw [if_pos h2]
    clear h1
    go_enter Tryd.func67, Tryd.ntmps67
    go_wp2_with fail
    refine (HL.out _).mono ?_
    rintro e w2 ⟨A1, e1, rfl, hr1, hf1, hb1⟩
    clear hr1 hf1
    go_wp2
    go_ret
    exact ⟨rfl, ext_trans ((Below.refl _ _).alloc (Nat.le_refl _) _) hb1⟩
  rw [if_neg h2]
  have h2' : ((L.length : Int) == 256) = false := by rw [beq_eq_false_iff_ne]; omega
  clear h1 h2
  go_enter Tryd.func67, Tryd.ntmps67
  go_wp2_with fail
  refine (HL.out _).mono ?_
  rintro e w2 ⟨A1, e1, rfl, hr1, hf1, hb1⟩
  have hb2 : Below w.heap.size w w2 := ext_trans ((Below.refl _ _).alloc (Nat.le_refl _) _) hb1
  have hB2 := HB.out.ext hb1
  have c0 := hB2.cell 0
  have c1 := hB2.cell 1
  have c2 := hB2.cell 2
  have c3 := hB2.cell 3
  clear hr1 hf1 hB2
  go_wp2_with fail
  refine (HR.out _).mono ?_
  rintro e w3 ⟨A3, e3, rfl, hr3, hf3, hb3⟩
  clear c0 c1 c2 c3
  go_wp2
  go_loopw [4, 6] (fun t i wr => ∃ (k : Nat) (Z : ByteArray), k ≤ R.length ∧ i = .int .i64 (k : Int) ∧ t = .string Z ∧ Hid (Z = bsN (91 :: rowsT (R.take k))) ∧ Below w3.heap.size w3 wr) (fun _ i _ => R.length - (intOf i).toNat)
  case atStart => exact ⟨0, _, Nat.zero_le _, rfl, rfl, Lib.hid rfl, Below.refl _ _⟩
  case round =>
    obtain ⟨k, Z, hk, rfl, rfl, HZ, hbr⟩ := hrel
    have hbw : Below w.heap.size w wr := ext_trans (ext_trans hb2 hb3) hbr
    have hzs : Z.size ≤ 2400 := by
      rw [HZ.out, bsN_size]
      have h1 := rowsT_len (R.take k)
      have h2 := List.length_take_le k R
      simp only [List.length_cons]
      omega
    by_cases hlt : k < R.length
    · have hki : (k : Int) < (R.length : Int) := by omega
      obtain ⟨g, o, rfl, x1, x2⟩ := cellR_of (hr3.ext hbr) hf3 hlt
      obtain ⟨l1, l2⟩ := HRlt.out R[k] (List.getElem_mem hlt)
      have hts := rowsT_take R k hlt
      unfold rowT at hts
      obtain ⟨lo, hlo⟩ : ∃ lo, R[k].1 = lo := ⟨_, rfl⟩
      obtain ⟨hi, hhi⟩ : ∃ hi, R[k].2 = hi := ⟨_, rfl⟩
      rw [hlo] at x1 l1 hts
      rw [hhi] at x2 l2 hts
      have hS1 := rsign_any lo l1
      have hS2 := rsign_any hi l2
      have y1 : (bsN (signB lo)).size ≤ 4 := by rw [bsN_size]; exact signB_len _
      have y2 : (bsN (signB hi)).size ≤ 4 := by rw [bsN_size]; exact signB_len _
      by_cases hlh : lo < hi
      · rw [if_pos hlh] at hts
        have e2 : Z ++ bsN (signB lo) ++ (⟨#[45]⟩ : ByteArray) ++ bsN (signB hi) = bsN (91 :: rowsT (R.take (k + 1))) := by
          rw [HZ.out, hts, show (⟨#[45]⟩ : ByteArray) = bsN [45] from rfl, bsN_append, bsN_append, bsN_append]; simp
        have E2 := Lib.hid e2
        have hlhi : (lo : Int) < (hi : Int) := by omega
        clear e2 hts hlo hhi
        generalize bsN (signB lo) = Y1 at hS1 y1 E2
        generalize bsN (signB hi) = Y2 at hS2 y2 E2
        have HS1 := Lib.hid hS1
        have HS2 := Lib.hid hS2
        have X1 := Lib.hid x1
        have X2 := Lib.hid x2
        clear hS1 hS2
        go_wp2_with fail
        refine (HS1.out _).mono ?_
        rintro e w5 ⟨rfl, hb5⟩
        clear x1 x2
        have x1 := (World.cell?_of_block (a := ⟨g, o + k * 2, none⟩) (hb5.block _ (World.block_lt_of_cell? wr _ X1.out))).trans X1.out
        have x2 := (World.cell?_of_block (a := ⟨g, o + k * 2 + 1, none⟩) (hb5.block _ (World.block_lt_of_cell? wr _ X2.out))).trans X2.out
        go_wp2
        go_region
        go_wp2_with fail
        refine (HS2.out _).mono ?_
        rintro e w6 ⟨rfl, hb6⟩
        clear x1 x2
        go_wp2
        go_roundw
        case rel => exact ⟨k + 1, _, by omega, by go_num, rfl, E2, ext_trans (ext_drew (ext_trans hbr hb5)) hb6⟩
        case measure => simp [intOf]; omega
      · rw [if_neg hlh] at hts
        have e2 : Z ++ bsN (signB lo) = bsN (91 :: rowsT (R.take (k + 1))) := by
          rw [HZ.out, hts, bsN_append]; simp
        have E2 := Lib.hid e2
        have hlhi : (hi : Int) ≤ (lo : Int) := by omega
        clear e2 hts hlo hhi hS2 y2
        generalize bsN (signB lo) = Y1 at hS1 y1 E2
        have HS1 := Lib.hid hS1
        have X1 := Lib.hid x1
        have X2 := Lib.hid x2
        clear hS1
        go_wp2_with fail
        refine (HS1.out _).mono ?_
        rintro e w5 ⟨rfl, hb5⟩
        clear x1 x2
        have x1 := (World.cell?_of_block (a := ⟨g, o + k * 2, none⟩) (hb5.block _ (World.block_lt_of_cell? wr _ X1.out))).trans X1.out
        have x2 := (World.cell?_of_block (a := ⟨g, o + k * 2 + 1, none⟩) (hb5.block _ (World.block_lt_of_cell? wr _ X2.out))).trans X2.out
        go_wp2
        go_region
        go_wp2
        go_roundw
        case rel => exact ⟨k + 1, _, by omega, by go_num, rfl, E2, ext_drew (ext_trans hbr hb5)⟩
        case measure => simp [intOf]; omega
    · obtain rfl : k = R.length := by omega
      have e2 : Z ++ (⟨#[93]⟩ : ByteArray) = bsN (91 :: (rowsT R ++ [93])) := by
        rw [HZ.out, show (⟨#[93]⟩ : ByteArray) = bsN [93] from rfl, bsN_append, List.take_length]; simp
      have E2 := Lib.hid e2
      clear e2
      go_wp2
      go_ret
      exact ⟨ret_str E2.out, hbw⟩
end Go.Proofs.YtmggajpecgnjkaaDoor

/-
  Contract of the reference's text (an expression as a text). No statement of the seat is proved here.
-/
namespace Go.Proofs.YtmggajpecgnjkaaDoor
open Go Go.RowKit
set_option maxRecDepth 100000


theorem textL_len (k : Int) (l : List Ex) : ∀ f, (∀ x ∈ l, (textE x).length + 3 ≤ 2420 * nodesE x) → (textL k f l).length ≤ 2420 * nodesL l := by
  induction l with
  | nil => simp [textL]
  | cons x r ih =>
    intro f h
    have h1 := ih false (fun y hy => h y (by simp [hy]))
    have h2 := h x (by simp)
    have e : (textL k f (x :: r)).length = (if k = 3 ∧ f = false then [124] else ([] : List Nat)).length + (if inB k x.kind then 40 :: (textE x ++ [41]) else textE x).length + (textL k false r).length := by
      simp only [textL, List.length_append]
    rw [e]
    have h4 : (if k = 3 ∧ f = false then [124] else ([] : List Nat)).length ≤ 1 := by split <;> simp
    have h5 : (if inB k x.kind then 40 :: (textE x ++ [41]) else textE x).length ≤ (textE x).length + 2 := by split <;> simp
    simp only [nodesL]
    omega
theorem textE_len (t : Ex) : (textE t).length + 3 ≤ 2420 * nodesE t := by
  refine ex_induct (p := fun t => (textE t).length + 3 ≤ 2420 * nodesE t) (fun k s ks lo hi ih => ?_) t
  have h1 := textL_len k ks true ih
  have h2 := setT_len s
  simp only [textE, nodesE]
  split
  · omega
  · split
    · cases ks with
      | nil => simp [textR, nodesL]
      | cons x r =>
        have h3 := ih x (by simp)
        have h4 := timesT_len lo hi
        have h5 : (if x.kind = 1 then textE x else 40 :: (textE x ++ [41])).length ≤ (textE x).length + 2 := by split <;> simp
        simp only [textR, nodesL, List.length_append]
        omega
    · omega

/-- what a node that may be tells of its kids -/
theorem one_kids {deep : Nat} {k : Int} {s : List Nat} {ks : List Ex} {lo hi : Int} (h : oneE deep (.mk k s ks lo hi) = true) :
    (∀ x ∈ ks, oneE (deep + 1) x = true) ∧ (k = 4 → ks.length = 1 ∧ repB lo hi = true) ∧ (k = 0 ∨ k = 1 ∨ k = 2 ∨ k = 3 ∨ k = 4) := by
  simp only [oneE] at h
  split at h
  · cases h
  split at h
  · rename_i h1
    rw [List.isEmpty_iff] at h
    subst h
    exact ⟨by simp, by omega, by omega⟩
  split at h
  · rename_i h1
    rw [Bool.and_eq_true, List.isEmpty_iff] at h
    rw [h.1]
    exact ⟨by simp, by omega, by omega⟩
  split at h
  · rename_i h1
    rw [Bool.and_eq_true, oneL_all, List.all_eq_true] at h
    exact ⟨h.2, by omega, by omega⟩
  split at h
  · rename_i h1
    rw [Bool.and_eq_true, Bool.and_eq_true, oneL_all, List.all_eq_true, decide_eq_true_eq] at h
    exact ⟨h.2, fun _ => h.1, by omega⟩
  · cases h

theorem byteArray_no (Z : ByteArray) (T : List Nat) : Z ++ bsN ([] ++ T) = Z ++ bsN T := rfl
theorem byteArray_nos (Z : ByteArray) (T : List Nat) : Z ++ bsN ([124] ++ T) = Z ++ (⟨#[124]⟩ : ByteArray) ++ bsN T := by
  rw [← bsN_append, ← ByteArray.append_assoc]; rfl
theorem byteArray_br (Z : ByteArray) (T : List Nat) : Z ++ bsN ([] ++ 40 :: (T ++ [41])) = Z ++ (⟨#[40]⟩ : ByteArray) ++ bsN T ++ (⟨#[41]⟩ : ByteArray) := by
  rw [show ([] ++ 40 :: (T ++ [41])) = [40] ++ (T ++ [41]) from rfl, ← bsN_append, ← bsN_append, ← ByteArray.append_assoc, ← ByteArray.append_assoc]; rfl
theorem byteArray_brs (Z : ByteArray) (T : List Nat) : Z ++ bsN ([124] ++ 40 :: (T ++ [41])) = Z ++ (⟨#[124]⟩ : ByteArray) ++ (⟨#[40]⟩ : ByteArray) ++ bsN T ++ (⟨#[41]⟩ : ByteArray) := by
  rw [show ([124] ++ 40 :: (T ++ [41])) = [124] ++ ([40] ++ (T ++ [41])) from rfl, ← bsN_append, ← bsN_append, ← bsN_append, ← ByteArray.append_assoc, ← ByteArray.append_assoc, ← ByteArray.append_assoc]; rfl

set_option maxRecDepth 100000 in
set_option maxHeartbeats 4000000 in
theorem rtext_any (S : Nat → Prop) (t : Ex) : ∀ (cs : List Value) (w : World) (deep : Nat), ReR S w t cs → nodesE t ≤ 1000000 → oneE deep t = true →
    Calls Tryd.prog 45 #[reV cs] w fun e w' => e = .returned (.string (bsN (textE t))) ∧ Below w.heap.size w w' := by
  refine ex_induct (p := fun t => ∀ (cs : List Value) (w : World) (deep : Nat), ReR S w t cs → nodesE t ≤ 1000000 → oneE deep t = true → Calls Tryd.prog 45 #[reV cs] w fun e w' => e = .returned (.string (bsN (textE t))) ∧ Below w.heap.size w w') (fun k s ks lo hi ih cs w deep h hn hone => ?_) t
  rw [reR_iff] at h
  obtain ⟨⟨hk, hs, hlo, hhi⟩, A, c, rfl, h1, h2, h3⟩ := h
  obtain ⟨o1, o2, o3⟩ := one_kids hone
  have hln := length_nodesL ks
  have hlen := textE_len (.mk k s ks lo hi)
  have hno : nodesE (.mk k s ks lo hi) = 1 + nodesL ks := by simp [nodesE]
  rw [hno] at hn hlen
  have hli : (ks.length : Int) ≤ 1000000 := by omega
  unfold maxLen at h2
  have hSet := fun W => rset_any s hs W
  have Hih := Lib.hid ih
  have H3 := Lib.hid h3
  have O1 := Lib.hid o1
  have hT : textE (.mk k s ks lo hi) = if k = 1 then setT s else if k = 4 then textR lo hi ks else textL k true ks := by simp [textE]
  rw [hT]
  clear ih h3 hno hone o1
  obtain ⟨p0, p1, p2, p3, rfl⟩ := four_words hs
  clear hs hk hlo hhi
  have hB := Blk.new w 27 #[.int .i64 k, .int .u64 (p0 : Int), .int .u64 (p1 : Int), .int .u64 (p2 : Int), .int .u64 (p3 : Int), .slice A ks.length c, .int .i64 lo, .int .i64 hi]
  have hSet' : ∀ W, Calls Tryd.prog 67 #[.agg #[.int .u64 (p0 : Int), .int .u64 (p1 : Int), .int .u64 (p2 : Int), .int .u64 (p3 : Int)]] W fun e w' => e = .returned (.string (bsN (setT [p0, p1, p2, p3]))) ∧ Below W.heap.size W w' := hSet
  have HSet := Lib.hid hSet'
  clear hSet hSet'
  show Calls Tryd.prog 45 #[.agg #[.int .i64 k, .int .u64 (p0 : Int), .int .u64 (p1 : Int), .int .u64 (p2 : Int), .int .u64 (p3 : Int), .slice A ks.length c, .int .i64 lo, .int .i64 hi]] w _
  by_cases hk1 : k = 1
  · subst hk1
    rw [if_pos rfl]
    clear hT o2 o3
    go_enter Tryd.func45, Tryd.ntmps45
    go_wp2_with fail
    refine (HSet.out _).mono ?_
    rintro e w2 ⟨rfl, hb2⟩
    go_wp2
    go_ret
    exact ⟨rfl, ext_trans ((Below.refl _ _).alloc (Nat.le_refl _) _) hb2⟩
  rw [if_neg hk1]
  have hk1' : (k == 1) = false := by simpa using hk1
  by_cases hk4 : k = 4
  · subst hk4
    rw [if_pos rfl]
    obtain ⟨hl1, hrep⟩ := o2 rfl
    obtain ⟨x, rfl⟩ := List.length_eq_one_iff.1 hl1
    obtain ⟨g, o, k', q0, q1, q2, q3, ks', A', c', lo', hi', rfl, hx, hr, x0, x1, x2, x3, x4, x5, x6, x7, -⟩ := (H3.out.ext ((Below.refl _ _).alloc (Nat.le_refl _) (Obj.cells #[.int .i64 4, .int .u64 (p0 : Int), .int .u64 (p1 : Int), .int .u64 (p2 : Int), .int .u64 (p3 : Int), .slice A [x].length c, .int .i64 lo, .int .i64 hi] 27))).kidX (k := 0) (by simp)
    have hx1 : [x][0] = x := rfl
    rw [hx1] at hx hr
    rw [Nat.zero_mul, Nat.add_zero] at x0 x1 x2 x3 x4 x5 x6 x7
    have hr' : ReR S _ x #[.int .i64 k', .int .u64 (q0 : Int), .int .u64 (q1 : Int), .int .u64 (q2 : Int), .int .u64 (q3 : Int), .slice A' ks'.length c', .int .i64 lo', .int .i64 hi'].toList := hr
    clear hx1 hr
    have hB' : Blk (w.alloc (Obj.cells #[.int .i64 4, .int .u64 (p0 : Int), .int .u64 (p1 : Int), .int .u64 (p2 : Int), .int .u64 (p3 : Int), .slice (some ⟨g, o, none⟩) 1 c, .int .i64 lo, .int .i64 hi] 27)) w.heap.size 27 #[.int .i64 4, .int .u64 (p0 : Int), .int .u64 (p1 : Int), .int .u64 (p2 : Int), .int .u64 (p3 : Int), .slice (some ⟨g, o, none⟩) 1 c, .int .i64 lo, .int .i64 hi] := Blk.new _ _ _
    clear hB
    obtain ⟨wa, hwa⟩ : ∃ wa, wa = w.alloc (Obj.cells #[.int .i64 4, .int .u64 (p0 : Int), .int .u64 (p1 : Int), .int .u64 (p2 : Int), .int .u64 (p3 : Int), .slice (some ⟨g, o, none⟩) 1 c, .int .i64 lo, .int .i64 hi] 27) := ⟨_, rfl⟩
    have hba : Below w.heap.size w wa := by rw [hwa]; exact (Below.refl _ _).alloc (Nat.le_refl _) _
    have hB : Blk wa w.heap.size 27 #[.int .i64 4, .int .u64 (p0 : Int), .int .u64 (p1 : Int), .int .u64 (p2 : Int), .int .u64 (p3 : Int), .slice (some ⟨g, o, none⟩) 1 c, .int .i64 lo, .int .i64 hi] := by rw [hwa]; exact hB'
    have hr : ReR S wa x #[.int .i64 k', .int .u64 (q0 : Int), .int .u64 (q1 : Int), .int .u64 (q2 : Int), .int .u64 (q3 : Int), .slice A' ks'.length c', .int .i64 lo', .int .i64 hi'].toList := by rw [hwa]; exact hr'
    change (w.alloc (Obj.cells #[.int .i64 4, .int .u64 (p0 : Int), .int .u64 (p1 : Int), .int .u64 (p2 : Int), .int .u64 (p3 : Int), .slice (some ⟨g, o, none⟩) 1 c, .int .i64 lo, .int .i64 hi] 27)).cell? _ = _ at x0 x1 x2 x3 x4 x5 x6 x7
    rw [← hwa] at x0 x1 x2 x3 x4 x5 x6 x7
    have HWa := Lib.hid hwa
    have X0 := Lib.hid x0
    clear hB' hr' hwa
    have hmem : nodesE x ≤ nodesL [x] := nodesL_mem (by simp)
    have hyl := textE_len x
    have hys : (bsN (textE x)).size ≤ 2420000000 := by
      rw [bsN_size]
      omega
    have hyt : (bsN (timesT lo hi)).size ≤ 7 := by rw [bsN_size]; exact timesT_len _ _
    have HTm := Lib.hid fun W => rtimes_any lo hi hrep W
    have hcall : ∀ W, Below wa.heap.size wa W → Calls Tryd.prog 45 #[.agg #[.int .i64 k', .int .u64 (q0 : Int), .int .u64 (q1 : Int), .int .u64 (q2 : Int), .int .u64 (q3 : Int), .slice A' ks'.length c', .int .i64 lo', .int .i64 hi']] W fun e w' => e = .returned (.string (bsN (textE x))) ∧ Below W.heap.size W w' := fun W hW =>
      Hih.out _ (by simp) _ W (deep + 1) (hr.ext hW) (by omega) (O1.out _ (by simp))
    have hxk : x.kind = k' := by rw [hx]; rfl
    have hRr : textR lo hi [x] = (if k' = 1 then textE x else 40 :: (textE x ++ [41])) ++ timesT lo hi := by simp [textR, hxk]
    obtain ⟨T, hTe⟩ : ∃ T, textE x = T := ⟨_, rfl⟩
    rw [hTe] at hys hcall hRr
    have HT := Lib.hid hcall
    have HRr := Lib.hid hRr
    clear hcall hRr hx hr hT o2 o3 hl1 hrep hyl hmem hk1 hk1' hlen
    show Calls Tryd.prog 45 #[.agg #[.int .i64 4, .int .u64 (p0 : Int), .int .u64 (p1 : Int), .int .u64 (p2 : Int), .int .u64 (p3 : Int), .slice (some ⟨g, o, none⟩) 1 c, .int .i64 lo, .int .i64 hi]] w _
    by_cases hkk : k' = 1
    · subst hkk
      have hkk : True := trivial
      have HS : Hid (∀ W, Below wa.heap.size wa W → W.cell? ⟨w.heap.size, 5, none⟩ = some (.slice (some ⟨g, o, none⟩) 1 c) ∧ W.cell? ⟨w.heap.size, 6, none⟩ = some (.int .i64 lo) ∧ W.cell? ⟨w.heap.size, 7, none⟩ = some (.int .i64 hi) ∧ W.cell? ⟨g, o, none⟩ = some ((.int .i64 1)) ∧ W.cell? ⟨g, o + 1, none⟩ = some (.int .u64 (q0 : Int)) ∧ W.cell? ⟨g, o + 2, none⟩ = some (.int .u64 (q1 : Int)) ∧ W.cell? ⟨g, o + 3, none⟩ = some (.int .u64 (q2 : Int)) ∧ W.cell? ⟨g, o + 4, none⟩ = some (.int .u64 (q3 : Int)) ∧ W.cell? ⟨g, o + 5, none⟩ = some (.slice A' ks'.length c') ∧ W.cell? ⟨g, o + 6, none⟩ = some (.int .i64 lo') ∧ W.cell? ⟨g, o + 7, none⟩ = some (.int .i64 hi')) := Lib.hid fun W hW =>
        have f := fun (ad : Addr) (v : Value) (h : wa.cell? ad = some v) => (World.cell?_of_block (a := ad) (hW.block _ (World.block_lt_of_cell? wa ad h))).trans h
        ⟨f _ _ (hB.cell 5), f _ _ (hB.cell 6), f _ _ (hB.cell 7), f _ _ x0, f _ _ x1, f _ _ x2, f _ _ x3, f _ _ x4, f _ _ x5, f _ _ x6, f _ _ x7⟩
      have E2 : Hid (bsN T ++ bsN (timesT lo hi) = bsN (textR lo hi [x])) := Lib.hid (by rw [HRr.out, if_pos rfl, bsN_append])
      have c0 := hB.cell 0
      have c5 := hB.cell 5
      clear hTe hkk hxk
      generalize bsN T = Y1 at hys HT E2
      generalize bsN (timesT lo hi) = Y2 at hyt HTm E2
      have y0 := x0
      rw [HWa.out] at y0
      have n1 : ¬ 9223372036854775807 < Y1.size + Y2.size := by omega
      clear hB x1 x2 x3 x4 x5 x6 x7
      go_enter Tryd.func45, Tryd.ntmps45
      go_wp2
      rw [← HWa.out]
      go_region_held3 (fun w' => w'.cell? ⟨w.heap.size, 5, none⟩ = some (.slice (some ⟨g, o, none⟩) 1 c) ∧ w'.cell? ⟨w.heap.size, 6, none⟩ = some (.int .i64 lo) ∧ w'.cell? ⟨w.heap.size, 7, none⟩ = some (.int .i64 hi) ∧ w'.cell? ⟨g, o, none⟩ = some ((.int .i64 1)) ∧ w'.cell? ⟨g, o + 1, none⟩ = some (.int .u64 (q0 : Int)) ∧ w'.cell? ⟨g, o + 2, none⟩ = some (.int .u64 (q1 : Int)) ∧ w'.cell? ⟨g, o + 3, none⟩ = some (.int .u64 (q2 : Int)) ∧ w'.cell? ⟨g, o + 4, none⟩ = some (.int .u64 (q3 : Int)) ∧ w'.cell? ⟨g, o + 5, none⟩ = some (.slice A' ks'.length c') ∧ w'.cell? ⟨g, o + 6, none⟩ = some (.int .i64 lo') ∧ w'.cell? ⟨g, o + 7, none⟩ = some (.int .i64 hi'))
        (first | exact HS.out _ (by repeat (first | exact hbx | exact hby | apply ext_drew | exact Below.refl _ _)))
        (first
        | (go_at_call 45; ((with_reducible refine (HT.out _ ?_).mono ?_)); (repeat (first | exact hby | apply ext_drew | exact Below.refl _ _)); rintro e w5 ⟨rfl, hbx'⟩; have hbx : Below wa.heap.size wa w5 := ext_trans (by repeat (first | exact hby | apply ext_drew | exact Below.refl _ _)) hbx')
        | (go_at_call 68; ((with_reducible refine (HTm.out _).mono ?_)); rintro e w6 ⟨rfl, hby'⟩; have hby : Below wa.heap.size wa w6 := ext_trans (by repeat (first | exact hbx | apply ext_drew | exact Below.refl _ _)) hby'))
      all_goals
        go_wp2
        go_ret
        exact ⟨ret_str E2.out, ext_trans hba (by repeat (first | exact hby | apply ext_drew))⟩
    · have hk1' : (k' == 1) = false := by simpa using hkk
      have HS : Hid (∀ W, Below wa.heap.size wa W → W.cell? ⟨w.heap.size, 5, none⟩ = some (.slice (some ⟨g, o, none⟩) 1 c) ∧ W.cell? ⟨w.heap.size, 6, none⟩ = some (.int .i64 lo) ∧ W.cell? ⟨w.heap.size, 7, none⟩ = some (.int .i64 hi) ∧ W.cell? ⟨g, o, none⟩ = some ((.int .i64 k')) ∧ W.cell? ⟨g, o + 1, none⟩ = some (.int .u64 (q0 : Int)) ∧ W.cell? ⟨g, o + 2, none⟩ = some (.int .u64 (q1 : Int)) ∧ W.cell? ⟨g, o + 3, none⟩ = some (.int .u64 (q2 : Int)) ∧ W.cell? ⟨g, o + 4, none⟩ = some (.int .u64 (q3 : Int)) ∧ W.cell? ⟨g, o + 5, none⟩ = some (.slice A' ks'.length c') ∧ W.cell? ⟨g, o + 6, none⟩ = some (.int .i64 lo') ∧ W.cell? ⟨g, o + 7, none⟩ = some (.int .i64 hi')) := Lib.hid fun W hW =>
        have f := fun (ad : Addr) (v : Value) (h : wa.cell? ad = some v) => (World.cell?_of_block (a := ad) (hW.block _ (World.block_lt_of_cell? wa ad h))).trans h
        ⟨f _ _ (hB.cell 5), f _ _ (hB.cell 6), f _ _ (hB.cell 7), f _ _ x0, f _ _ x1, f _ _ x2, f _ _ x3, f _ _ x4, f _ _ x5, f _ _ x6, f _ _ x7⟩
      have E2 : Hid ((⟨#[40]⟩ : ByteArray) ++ bsN T ++ (⟨#[41]⟩ : ByteArray) ++ bsN (timesT lo hi) = bsN (textR lo hi [x])) := Lib.hid (by rw [HRr.out, if_neg hkk, show (⟨#[40]⟩ : ByteArray) = bsN [40] from rfl, show (⟨#[41]⟩ : ByteArray) = bsN [41] from rfl, bsN_append, bsN_append, bsN_append]; simp [List.append_assoc])
      have c0 := hB.cell 0
      have c5 := hB.cell 5
      clear hTe hkk hxk
      generalize bsN T = Y1 at hys HT E2
      generalize bsN (timesT lo hi) = Y2 at hyt HTm E2
      have y0 := x0
      rw [HWa.out] at y0
      have n1 : ¬ 9223372036854775807 < 1 + Y1.size := by omega
      have n2 : ¬ 9223372036854775807 < 1 + Y1.size + 1 := by omega
      have n3 : ¬ 9223372036854775807 < 1 + Y1.size + 1 + Y2.size := by omega
      clear hB x1 x2 x3 x4 x5 x6 x7
      go_enter Tryd.func45, Tryd.ntmps45
      go_wp2
      rw [← HWa.out]
      go_region_held3 (fun w' => w'.cell? ⟨w.heap.size, 5, none⟩ = some (.slice (some ⟨g, o, none⟩) 1 c) ∧ w'.cell? ⟨w.heap.size, 6, none⟩ = some (.int .i64 lo) ∧ w'.cell? ⟨w.heap.size, 7, none⟩ = some (.int .i64 hi) ∧ w'.cell? ⟨g, o, none⟩ = some ((.int .i64 k')) ∧ w'.cell? ⟨g, o + 1, none⟩ = some (.int .u64 (q0 : Int)) ∧ w'.cell? ⟨g, o + 2, none⟩ = some (.int .u64 (q1 : Int)) ∧ w'.cell? ⟨g, o + 3, none⟩ = some (.int .u64 (q2 : Int)) ∧ w'.cell? ⟨g, o + 4, none⟩ = some (.int .u64 (q3 : Int)) ∧ w'.cell? ⟨g, o + 5, none⟩ = some (.slice A' ks'.length c') ∧ w'.cell? ⟨g, o + 6, none⟩ = some (.int .i64 lo') ∧ w'.cell? ⟨g, o + 7, none⟩ = some (.int .i64 hi'))
        (first | exact HS.out _ (by repeat (first | exact hbx | exact hby | apply ext_drew | exact Below.refl _ _)))
        (first
        | (go_at_call 45; ((with_reducible refine (HT.out _ ?_).mono ?_)); (repeat (first | exact hby | apply ext_drew | exact Below.refl _ _)); rintro e w5 ⟨rfl, hbx'⟩; have hbx : Below wa.heap.size wa w5 := ext_trans (by repeat (first | exact hby | apply ext_drew | exact Below.refl _ _)) hbx')
        | (go_at_call 68; ((with_reducible refine (HTm.out _).mono ?_)); rintro e w6 ⟨rfl, hby'⟩; have hby : Below wa.heap.size wa w6 := ext_trans (by repeat (first | exact hbx | apply ext_drew | exact Below.refl _ _)) hby'))
      all_goals
        go_wp2
        go_ret
        exact ⟨ret_str E2.out, ext_trans hba (by repeat (first | exact hby | apply ext_drew))⟩
  rw [if_neg hk4]
  have hk4' : (k == 4) = false := by simpa using hk4
  have hlt3 := textL_len k ks true (fun x _ => textE_len x)
  clear hT hlen
  go_enter Tryd.func45, Tryd.ntmps45
  go_wp2
  go_loopw [3, 4] (fun z i wr => ∃ (j : Nat) (Z : ByteArray), j ≤ ks.length ∧ i = .int .i64 (j : Int) ∧ z = .string Z ∧ Hid (Z = bsN (textL k true (ks.take j))) ∧ Blk wr w.heap.size 27 #[.int .i64 k, .int .u64 (p0 : Int), .int .u64 (p1 : Int), .int .u64 (p2 : Int), .int .u64 (p3 : Int), .slice A ks.length c, .int .i64 lo, .int .i64 hi] ∧ Below w.heap.size w wr) (fun _ i _ => ks.length - (intOf i).toNat)
  case atStart => exact ⟨0, _, Nat.zero_le _, rfl, rfl, Lib.hid (by simp [textL]; rfl), hB, (Below.refl _ _).alloc (Nat.le_refl _) _⟩
  case round =>
    obtain ⟨j, Z, hj, rfl, rfl, HZ, hB, hb⟩ := hrel
    have c5 := hB.cell 5
    by_cases hlt : j < ks.length
    · have hji : (j : Int) < (ks.length : Int) := by omega
      have c0 := hB.cell 0
      obtain ⟨g, o, k', q0, q1, q2, q3, ks', A', c', lo', hi', rfl, hx, hr, x0, x1, x2, x3, x4, x5, x6, x7, -⟩ := (H3.out.ext hb).kidX hlt
      have Hx := Lib.hid hx
      clear hx
      have hmem := nodesL_mem (List.getElem_mem hlt)
      have hzl := textL_len k (ks.take j) true (fun x _ => textE_len x)
      have hnt := nodesL_take_le ks j
      have hzs : Z.size ≤ 2420000000 := by
        rw [HZ.out, bsN_size]
        omega
      have hyl := textE_len ks[j]
      have hys : (bsN (textE ks[j])).size ≤ 2420000000 := by
        rw [bsN_size]
        omega
      have hcall : ∀ W, Below wr.heap.size wr W → Calls Tryd.prog 45 #[.agg #[.int .i64 k', .int .u64 (q0 : Int), .int .u64 (q1 : Int), .int .u64 (q2 : Int), .int .u64 (q3 : Int), .slice A' ks'.length c', .int .i64 lo', .int .i64 hi']] W fun e w' => e = .returned (.string (bsN (textE ks[j]))) ∧ Below W.heap.size W w' := fun W hW =>
        Hih.out _ (List.getElem_mem hlt) _ W (deep + 1) (hr.ext hW) (by omega) (O1.out _ (List.getElem_mem hlt))
      have hts : bsN (textL k true (ks.take (j + 1))) = Z ++ bsN ((if k = 3 ∧ 0 < j then [124] else []) ++ (if inB k k' then 40 :: (textE ks[j] ++ [41]) else textE ks[j])) := by
        rw [textL_take k ks j hlt, HZ.out, bsN_append]
        have : ks[j].kind = k' := by rw [Hx.out]; rfl
        rw [this]
      obtain ⟨T, hTe⟩ : ∃ T, textE ks[j] = T := ⟨_, rfl⟩
      rw [hTe] at hys hcall hts
      have HT := Lib.hid hcall
      have Hts := Lib.hid hts
      have HB := Lib.hid hB
      have hB1 := hB.alloc (Obj.cells #[.int .i64 k', .int .u64 (q0 : Int), .int .u64 (q1 : Int), .int .u64 (q2 : Int), .int .u64 (q3 : Int), .slice A' ks'.length c', .int .i64 lo', .int .i64 hi'] 27)
      have hB2 := Blk.new wr 27 #[.int .i64 k', .int .u64 (q0 : Int), .int .u64 (q1 : Int), .int .u64 (q2 : Int), .int .u64 (q3 : Int), .slice A' ks'.length c', .int .i64 lo', .int .i64 hi']
      have d0 := hB1.cell 0
      have d5 := hB1.cell 5
      have e0 := hB2.cell 0
      have e1 := hB2.cell 1
      have e2 := hB2.cell 2
      have e3 := hB2.cell 3
      have e4 := hB2.cell 4
      have e5 := hB2.cell 5
      have e6 := hB2.cell 6
      have e7 := hB2.cell 7
      have hba : Below wr.heap.size wr (wr.alloc (Obj.cells #[.int .i64 k', .int .u64 (q0 : Int), .int .u64 (q1 : Int), .int .u64 (q2 : Int), .int .u64 (q3 : Int), .slice A' ks'.length c', .int .i64 lo', .int .i64 hi'] 27)) := (Below.refl _ _).alloc (Nat.le_refl _) _
      have Hba := Lib.hid hba
      clear hcall hts hB hB1 hB2 hba hr hTe hyl hzl o2 hlt3
      rcases o3 with rfl | rfl | rfl | rfl | rfl
      · clear hk1 hk4
        by_cases hk3 : k' = 3
        · subst hk3
          have E2 : Hid (Z ++ (⟨#[40]⟩ : ByteArray) ++ bsN T ++ (⟨#[41]⟩ : ByteArray) = bsN (textL 0 true (ks.take (j + 1)))) := Lib.hid (by rw [Hts.out, if_neg (by omega), if_pos (by decide), byteArray_br])
          clear Hts
          generalize bsN T = Y at hys HT E2
          go_wp2_with fail
          refine (HT.out _ Hba.out).mono ?_
          rintro e w5 ⟨rfl, hb5⟩
          go_wp2
          go_roundw
          case rel => exact ⟨j + 1, _, by omega, by go_num, rfl, E2, (HB.out.ext Hba.out).ext hb5, ext_trans (ext_trans hb Hba.out) hb5⟩
          case measure => simp [intOf]; omega
        have hkk3 : (k' == 3) = false := by simpa using hk3
        have E2 : Hid (Z ++ bsN T = bsN (textL 0 true (ks.take (j + 1)))) := Lib.hid (by rw [Hts.out, if_neg (by omega), if_neg (by simp [inB, hk3]), byteArray_no])
        clear Hts hk3
        generalize bsN T = Y at hys HT E2
        go_wp2_with fail
        refine (HT.out _ Hba.out).mono ?_
        rintro e w5 ⟨rfl, hb5⟩
        go_wp2
        go_roundw
        case rel => exact ⟨j + 1, _, by omega, by go_num, rfl, E2, (HB.out.ext Hba.out).ext hb5, ext_trans (ext_trans hb Hba.out) hb5⟩
        case measure => simp [intOf]; omega
      · exact absurd rfl hk1
      · clear hk1 hk4
        by_cases hk3 : k' = 3
        · subst hk3
          have E2 : Hid (Z ++ (⟨#[40]⟩ : ByteArray) ++ bsN T ++ (⟨#[41]⟩ : ByteArray) = bsN (textL 2 true (ks.take (j + 1)))) := Lib.hid (by rw [Hts.out, if_neg (by omega), if_pos (by decide), byteArray_br])
          clear Hts
          generalize bsN T = Y at hys HT E2
          go_wp2_with fail
          refine (HT.out _ Hba.out).mono ?_
          rintro e w5 ⟨rfl, hb5⟩
          go_wp2
          go_roundw
          case rel => exact ⟨j + 1, _, by omega, by go_num, rfl, E2, (HB.out.ext Hba.out).ext hb5, ext_trans (ext_trans hb Hba.out) hb5⟩
          case measure => simp [intOf]; omega
        have hkk3 : (k' == 3) = false := by simpa using hk3
        by_cases hk2 : k' = 2
        · subst hk2
          have E2 : Hid (Z ++ (⟨#[40]⟩ : ByteArray) ++ bsN T ++ (⟨#[41]⟩ : ByteArray) = bsN (textL 2 true (ks.take (j + 1)))) := Lib.hid (by rw [Hts.out, if_neg (by omega), if_pos (by decide), byteArray_br])
          clear Hts
          generalize bsN T = Y at hys HT E2
          go_wp2_with fail
          refine (HT.out _ Hba.out).mono ?_
          rintro e w5 ⟨rfl, hb5⟩
          go_wp2
          go_roundw
          case rel => exact ⟨j + 1, _, by omega, by go_num, rfl, E2, (HB.out.ext Hba.out).ext hb5, ext_trans (ext_trans hb Hba.out) hb5⟩
          case measure => simp [intOf]; omega
        have hkk2 : (k' == 2) = false := by simpa using hk2
        by_cases hk0 : k' = 0
        · subst hk0
          have E2 : Hid (Z ++ (⟨#[40]⟩ : ByteArray) ++ bsN T ++ (⟨#[41]⟩ : ByteArray) = bsN (textL 2 true (ks.take (j + 1)))) := Lib.hid (by rw [Hts.out, if_neg (by omega), if_pos (by decide), byteArray_br])
          clear Hts
          generalize bsN T = Y at hys HT E2
          go_wp2_with fail
          refine (HT.out _ Hba.out).mono ?_
          rintro e w5 ⟨rfl, hb5⟩
          go_wp2
          go_roundw
          case rel => exact ⟨j + 1, _, by omega, by go_num, rfl, E2, (HB.out.ext Hba.out).ext hb5, ext_trans (ext_trans hb Hba.out) hb5⟩
          case measure => simp [intOf]; omega
        have hkk0 : (k' == 0) = false := by simpa using hk0
        have E2 : Hid (Z ++ bsN T = bsN (textL 2 true (ks.take (j + 1)))) := Lib.hid (by rw [Hts.out, if_neg (by omega), if_neg (by simp [inB, hk3, hk2, hk0]), byteArray_no])
        clear Hts hk3 hk2 hk0
        generalize bsN T = Y at hys HT E2
        go_wp2_with fail
        refine (HT.out _ Hba.out).mono ?_
        rintro e w5 ⟨rfl, hb5⟩
        go_wp2
        go_roundw
        case rel => exact ⟨j + 1, _, by omega, by go_num, rfl, E2, (HB.out.ext Hba.out).ext hb5, ext_trans (ext_trans hb Hba.out) hb5⟩
        case measure => simp [intOf]; omega
      · clear hk1 hk4
        by_cases hj0 : 0 < j
        · have hj0i : (0 : Int) < (j : Int) := by omega
          by_cases hk3 : k' = 3
          · subst hk3
            have E2 : Hid (Z ++ (⟨#[124]⟩ : ByteArray) ++ (⟨#[40]⟩ : ByteArray) ++ bsN T ++ (⟨#[41]⟩ : ByteArray) = bsN (textL 3 true (ks.take (j + 1)))) := Lib.hid (by rw [Hts.out, if_pos ⟨rfl, hj0⟩, if_pos (by decide), byteArray_brs])
            clear Hts
            generalize bsN T = Y at hys HT E2
            go_wp2_with fail
            refine (HT.out _ Hba.out).mono ?_
            rintro e w5 ⟨rfl, hb5⟩
            go_wp2
            go_roundw
            case rel => exact ⟨j + 1, _, by omega, by go_num, rfl, E2, (HB.out.ext Hba.out).ext hb5, ext_trans (ext_trans hb Hba.out) hb5⟩
            case measure => simp [intOf]; omega
          have hkk3 : (k' == 3) = false := by simpa using hk3
          have E2 : Hid (Z ++ (⟨#[124]⟩ : ByteArray) ++ bsN T = bsN (textL 3 true (ks.take (j + 1)))) := Lib.hid (by rw [Hts.out, if_pos ⟨rfl, hj0⟩, if_neg (by simp [inB, hk3]), byteArray_nos])
          clear Hts hk3
          generalize bsN T = Y at hys HT E2
          go_wp2_with fail
          refine (HT.out _ Hba.out).mono ?_
          rintro e w5 ⟨rfl, hb5⟩
          go_wp2
          go_roundw
          case rel => exact ⟨j + 1, _, by omega, by go_num, rfl, E2, (HB.out.ext Hba.out).ext hb5, ext_trans (ext_trans hb Hba.out) hb5⟩
          case measure => simp [intOf]; omega
        · have hj0i : (j : Int) ≤ 0 := by omega
          by_cases hk3 : k' = 3
          · subst hk3
            have E2 : Hid (Z ++ (⟨#[40]⟩ : ByteArray) ++ bsN T ++ (⟨#[41]⟩ : ByteArray) = bsN (textL 3 true (ks.take (j + 1)))) := Lib.hid (by rw [Hts.out, if_neg (by omega), if_pos (by decide), byteArray_br])
            clear Hts
            generalize bsN T = Y at hys HT E2
            go_wp2_with fail
            refine (HT.out _ Hba.out).mono ?_
            rintro e w5 ⟨rfl, hb5⟩
            go_wp2
            go_roundw
            case rel => exact ⟨j + 1, _, by omega, by go_num, rfl, E2, (HB.out.ext Hba.out).ext hb5, ext_trans (ext_trans hb Hba.out) hb5⟩
            case measure => simp [intOf]; omega
          have hkk3 : (k' == 3) = false := by simpa using hk3
          have E2 : Hid (Z ++ bsN T = bsN (textL 3 true (ks.take (j + 1)))) := Lib.hid (by rw [Hts.out, if_neg (by omega), if_neg (by simp [inB, hk3]), byteArray_no])
          clear Hts hk3
          generalize bsN T = Y at hys HT E2
          go_wp2_with fail
          refine (HT.out _ Hba.out).mono ?_
          rintro e w5 ⟨rfl, hb5⟩
          go_wp2
          go_roundw
          case rel => exact ⟨j + 1, _, by omega, by go_num, rfl, E2, (HB.out.ext Hba.out).ext hb5, ext_trans (ext_trans hb Hba.out) hb5⟩
          case measure => simp [intOf]; omega
      · exact absurd rfl hk4
    · obtain rfl : j = ks.length := by omega
      rw [List.take_length] at HZ
      go_wp2
      go_ret
      exact ⟨ret_str HZ.out, hb⟩
end Go.Proofs.YtmggajpecgnjkaaDoor

/-
  Sets compared. No statement of the seat is proved here.
-/
namespace Go.Proofs.YtmggajpecgnjkaaDoor
open Go Go.RowKit
set_option maxRecDepth 100000


theorem eq_int (d : Nat) (e : TypeId) (k : IntKind) (hu : Tryd.prog.underlying e = some (.int k)) (z : Int) (W : World) : (Op.equalIn (d + 1) e (.int k z) (.int k z)).run Tryd.prog W = .ok true W := by
  simp only [Op.equalIn, Sem.run_bind, run_underlying hu, Result.andThen_ok]
  simp
theorem eqItems_self (d : Nat) (e : TypeId) (k : IntKind) (hu : Tryd.prog.underlying e = some (.int k)) (c : Nat) (xs : Array Value) (W : World) : ∀ (is : List Nat), (∀ i ∈ is, ∃ z, (part e xs (i * c)).run Tryd.prog W = .ok (.int k z) W) →
    (Op.eqItems (d + 1) e c xs xs is).run Tryd.prog W = .ok true W
  | [], _ => rfl
  | i :: is, h => by
    obtain ⟨z, hz⟩ := h i (by simp)
    have ih := eqItems_self d e k hu c xs W is fun j hj => h j (by simp [hj])
    simp only [Op.eqItems, Sem.run_bind, hz, Result.andThen_ok, eq_int d e k hu z W]
    exact ih
theorem info_w : ∃ i, Tryd.prog.info? 22 = some i := by
  cases h : Tryd.prog.info? 22 with
  | some i => exact ⟨i, rfl⟩
  | none =>
    have h2 : (Tryd.prog.info? 22).isSome = true := by kernel_rfl
    rw [h] at h2; cases h2
theorem info_b : ∃ i, Tryd.prog.info? 5 = some i := by
  cases h : Tryd.prog.info? 5 with
  | some i => exact ⟨i, rfl⟩
  | none =>
    have h2 : (Tryd.prog.info? 5).isSome = true := by kernel_rfl
    rw [h] at h2; cases h2
theorem cells_w : Tryd.prog.cellsOf 22 = 1 := by kernel_rfl
theorem cells_b : Tryd.prog.cellsOf 5 = 1 := by kernel_rfl
/-- a set is itself -/
theorem eq_set {ws : List Nat} (hs : SetOk ws) (W : World) : (Op.equalIn 10000 24 (.agg (cellsU ws)) (.agg (cellsU ws))).run Tryd.prog W = .ok true W := by
  obtain ⟨i, hi⟩ := info_w
  refine (run_equalIn_array W 9999 _ _ Tryd.underlying24 hi).trans ?_
  rw [cells_w]
  obtain ⟨a, b, c, d, rfl⟩ := four_words hs
  refine eqItems_self 9998 22 .u64 Tryd.underlying22 1 _ W _ fun i hi => ?_
  have h0 : (part 22 #[.int .u64 (a : Int), .int .u64 (b : Int), .int .u64 (c : Int), .int .u64 (d : Int)] (0 * 1)).run Tryd.prog W = .ok (.int .u64 (a : Int)) W := by kernel_rfl
  have h1 : (part 22 #[.int .u64 (a : Int), .int .u64 (b : Int), .int .u64 (c : Int), .int .u64 (d : Int)] (1 * 1)).run Tryd.prog W = .ok (.int .u64 (b : Int)) W := by kernel_rfl
  have h2 : (part 22 #[.int .u64 (a : Int), .int .u64 (b : Int), .int .u64 (c : Int), .int .u64 (d : Int)] (2 * 1)).run Tryd.prog W = .ok (.int .u64 (c : Int)) W := by kernel_rfl
  have h3 : (part 22 #[.int .u64 (a : Int), .int .u64 (b : Int), .int .u64 (c : Int), .int .u64 (d : Int)] (3 * 1)).run Tryd.prog W = .ok (.int .u64 (d : Int)) W := by kernel_rfl
  have h4 := List.mem_range.1 hi
  match i, h4 with
  | 0, _ => exact ⟨_, h0⟩
  | 1, _ => exact ⟨_, h1⟩
  | 2, _ => exact ⟨_, h2⟩
  | 3, _ => exact ⟨_, h3⟩

theorem eq_int2 (d : Nat) (e : TypeId) (k : IntKind) (hu : Tryd.prog.underlying e = some (.int k)) (z y : Int) (W : World) : (Op.equalIn (d + 1) e (.int k z) (.int k y)).run Tryd.prog W = .ok (z == y) W := by
  simp only [Op.equalIn, Sem.run_bind, run_underlying hu, Result.andThen_ok]
  simp
theorem eqItems_all (d : Nat) (e : TypeId) (k : IntKind) (hu : Tryd.prog.underlying e = some (.int k)) (c : Nat) (xs ys : Array Value) (f g : Nat → Int) (W : World) : ∀ (is : List Nat), (∀ i ∈ is, (part e xs (i * c)).run Tryd.prog W = .ok (.int k (f i)) W ∧ (part e ys (i * c)).run Tryd.prog W = .ok (.int k (g i)) W) →
    (Op.eqItems (d + 1) e c xs ys is).run Tryd.prog W = .ok (is.all fun i => f i == g i) W
  | [], _ => rfl
  | i :: is, h => by
    obtain ⟨h1, h2⟩ := h i (by simp)
    have ih := eqItems_all d e k hu c xs ys f g W is fun j hj => h j (by simp [hj])
    simp only [Op.eqItems, Sem.run_bind, h1, h2, Result.andThen_ok, eq_int2 d e k hu, List.all_cons]
    cases hb : f i == g i with
    | true => simp only [Bool.not_true, Bool.false_eq_true, if_false, Bool.true_and]; exact ih
    | false => simp
/-- two sets -/
theorem eq_sets {a b : List Nat} (ha : SetOk a) (hb : SetOk b) (W : World) : (Op.equalIn 10000 24 (.agg (cellsU a)) (.agg (cellsU b))).run Tryd.prog W = .ok (decide (a = b)) W := by
  obtain ⟨i, hi⟩ := info_w
  refine (run_equalIn_array W 9999 _ _ Tryd.underlying24 hi).trans ?_
  rw [cells_w]
  have key : ∀ {ws : List Nat}, SetOk ws → ∀ i ∈ List.range 4, (part 22 (cellsU ws) (i * 1)).run Tryd.prog W = .ok (.int .u64 (wordB ws i : Int)) W := fun {ws} hs i hi => by
    obtain ⟨a, b, c, d, rfl⟩ := four_words hs
    have h0 : (part 22 #[.int .u64 (a : Int), .int .u64 (b : Int), .int .u64 (c : Int), .int .u64 (d : Int)] (0 * 1)).run Tryd.prog W = .ok (.int .u64 (a : Int)) W := by kernel_rfl
    have h1 : (part 22 #[.int .u64 (a : Int), .int .u64 (b : Int), .int .u64 (c : Int), .int .u64 (d : Int)] (1 * 1)).run Tryd.prog W = .ok (.int .u64 (b : Int)) W := by kernel_rfl
    have h2 : (part 22 #[.int .u64 (a : Int), .int .u64 (b : Int), .int .u64 (c : Int), .int .u64 (d : Int)] (2 * 1)).run Tryd.prog W = .ok (.int .u64 (c : Int)) W := by kernel_rfl
    have h3 : (part 22 #[.int .u64 (a : Int), .int .u64 (b : Int), .int .u64 (c : Int), .int .u64 (d : Int)] (3 * 1)).run Tryd.prog W = .ok (.int .u64 (d : Int)) W := by kernel_rfl
    have h4 := List.mem_range.1 hi
    match i, h4 with
    | 0, _ => exact h0
    | 1, _ => exact h1
    | 2, _ => exact h2
    | 3, _ => exact h3
  refine (eqItems_all 9998 22 .u64 Tryd.underlying22 1 _ _ (fun i => (wordB a i : Int)) (fun i => (wordB b i : Int)) W _ fun i hi => ⟨key ha i hi, key hb i hi⟩).trans ?_
  congr 1
  rw [Bool.eq_iff_iff, decide_eq_true_eq, List.all_eq_true]
  constructor
  · intro h
    exact word_ext ha hb fun i hi => by have := h i (List.mem_range.2 hi); simp only [beq_iff_eq] at this; omega
  · rintro rfl i _
    simp
end Go.Proofs.YtmggajpecgnjkaaDoor
