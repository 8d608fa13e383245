/-
  Texts of this claim, joined (part 1): contracts and lemmas that the last text goes by. No statement of the seat is proved here.
-/
import Derived.Test.YtdpmfcifgimleaaGreatDoorAll0
import Derived.Test.YtdpmfcifgimleaaGreatDoorRows
import Derived.Deep.RegionHeldLaw
import Derived.Deep.DeepCutAuto
import Derived.Deep.CutBlock
import Derived.Deep.WholeRow
import Derived.Deep.RegionWith
import Derived.Deep.RegionHeld3
import Derived.BigRegion
set_option linter.unusedVariables false
set_option linter.unusedSimpArgs false
/-
  The contracts of sector's cell and fuse. No statement of the seat is proved here.
-/
namespace Go.Proofs.YtdpmfcifgimleaaGreatDoor
open Go Go.RowKit

theorem info_ver : (Tryz.prog.info? 113).map (fun i => (i.zero, i.size, i.bytes)) = some (some (.agg (Array.replicate 64 (.int .u8 0))), 64, 64) := by kernel_rfl
theorem size_ver : (Tryz.prog.info? 113).map (·.size) = some 64 := by kernel_rfl
theorem size_cell : (Tryz.prog.info? 116).map (·.size) = some 65 := by kernel_rfl

/-- A sector in block 'gc' from offset 'o' on: its versions 'vs', those behind the first one in the row of 'A'. -/
structure CelAt (w : World) (gc o : Nat) (vs : List (List UInt8)) (A : Option Addr) (c : Nat) : Prop where
  ne : vs ≠ []
  len : ∀ v ∈ vs, v.length = 64
  head : w.rangeAt gc o ((vs.headD []).map bv)
  row : w.cell? ⟨gc, o + 64, none⟩ = some (.slice A (vs.length - 1) c)
  own : RowO w 113 64 A (vs.length - 1) c (vs.tail.flatten.map bv)

theorem zeros_ver : ∀ w, (zeroValue 113).run Tryz.prog w = .ok (.agg (Array.replicate 64 (.int .u8 0))) w := fun w => by kernel_rfl


/-- a whole value into the variable that was made last -/
theorem wpList_store_new {P : Program} {ops : Array Oper} {rest : List Oper} {op : Oper} {a : Act} {w : World} {Q : Exit → Act → World → Prop} (hgd : op.guard = none) (ty : TypeId) (x y : Operand) (ho : op.op = .store ty x y)
    (c c' : Array Value) (hx : a.eval x = .pointer (some ⟨w.heap.size, 0, none⟩)) (hy : a.eval y = .agg c') (hi : (P.info? ty).map (·.size) = some c'.size) (hs : c.size = c'.size) (h1 : c'.all (·.oneCell') = true)
    (h : wpList P ops Q rest (a.put op.dst undef) (w.alloc (.cells c' ty))) : wpList P ops Q (op :: rest) a (w.alloc (.cells c ty)) :=
  wpList_plain hgd fun K hK => by
    unfold Oper.wp execOp
    simp only [ho, hx, hy, run_storeAt_new (P := P) w ty c c' hi hs h1, Result.andThen_ok, Sem.run_bind, Sem.run_pure]
    exact hK _ _ h

theorem CelAt.lenHead {w : World} {gc o : Nat} {vs : List (List UInt8)} {A : Option Addr} {c : Nat} (h : CelAt w gc o vs A c) : (vs.headD []).length = 64 := by
  rcases vs with _ | ⟨v, r⟩
  · exact absurd rfl h.ne
  · exact h.len v (by simp)

theorem results_cell {P : Program} {fn : Func} {t : Tmp} {ty : TypeId} (h : fn.results = #[.cell t ty]) (tmps : Array Value) (w : World) (g : Nat) (e : TypeId) (cs : Array Value) (n : Nat) (e' : TypeId)
    (ht : tmps.getD t undef = .pointer (some ⟨g, 0, none⟩)) (hb : Blk w g e cs) (hu : P.underlying ty = some (.array n e')) (hi : (P.info? ty).map (·.size) = some cs.size) : (results fn tmps).run P w = .ok (.agg cs) w := by
  have hl := run_loadVar_row (P := P) w g e ty cs (0, 0) _ hb hu rfl hi
  rw [Array.getD_eq_getD_getElem?] at ht
  simp [results, h, ht, asAddr, hl]

theorem flat64 {l : List (List UInt8)} (hl : ∀ v ∈ l, v.length = 64) : ∀ (k j : Nat), j < 64 → l.flatten[k * 64 + j]? = (l[k]?).bind (·[j]?) := by
  induction l with
  | nil => intro k j _; simp
  | cons v r ih =>
    intro k j hj
    have hv : v.length = 64 := hl v (by simp)
    rcases k with _ | k
    · rw [List.flatten_cons, List.getElem?_append_left (by omega)]
      simp
    · rw [List.flatten_cons, List.getElem?_append_right (by omega), hv, show (k + 1) * 64 + j - 64 = k * 64 + j by omega, ih (fun x hx => hl x (by simp [hx])) k j hj]
      simp
theorem flat64_length {l : List (List UInt8)} (hl : ∀ v ∈ l, v.length = 64) : l.flatten.length = l.length * 64 := by
  induction l with
  | nil => rfl
  | cons v r ih =>
    rw [List.flatten_cons, List.length_append, ih (fun x hx => hl x (by simp [hx])), hl v (by simp), List.length_cons]
    omega

section
variable {S : Nat → Prop} {w w' : World} {gc o : Nat} {vs : List (List UInt8)} {A : Option Addr} {c : Nat}
theorem CelAt.keep (h : CelAt w gc o vs A c) (hb : w'.heap[gc]? = w.heap[gc]?) (hk : ∀ k, inA A k → w'.heap[k]? = w.heap[k]?) : CelAt w' gc o vs A c :=
  ⟨h.ne, h.len, fun j v hv => (World.cell?_of_block hb).trans (h.head j v hv), (World.cell?_of_block hb).trans h.row, h.own.keep hk⟩
theorem CelAt.lt (h : CelAt w gc o vs A c) : gc < w.heap.size := World.block_lt_of_cell? w _ h.row
theorem CelAt.ext (h : CelAt w gc o vs A c) (hb : Below w.heap.size w w') : CelAt w' gc o vs A c := h.keep (hb.block _ h.lt) fun k hk => hb.block _ (h.own.lt hk)
theorem CelAt.alloc (h : CelAt w gc o vs A c) (ob : Obj) : CelAt (w.alloc ob) gc o vs A c := h.ext ((Below.refl _ _).alloc (Nat.le_refl _) ob)
theorem CelAt.drewN (h : CelAt w gc o vs A c) (n : Nat) : CelAt (w.drewN n) gc o vs A c := ⟨h.ne, h.len, h.head, h.row, h.own⟩
theorem CelAt.drew (h : CelAt w gc o vs A c) : CelAt w.drew gc o vs A c := ⟨h.ne, h.len, h.head, h.row, h.own⟩
/-- version k of those behind the first -/
theorem CelAt.later (h : CelAt w gc o vs A c) {k : Nat} (hk : k + 1 < vs.length) : ∃ g off, A = some ⟨g, off, none⟩ ∧ w.rangeAt g (off + k * 64) (vs[k + 1].map bv) := by
  rcases h.own.2 with ⟨_, h1, _⟩ | ⟨g, off, cs, hA, _, _, hb, _, hc⟩
  · omega
  · refine ⟨g, off, hA, fun j v hv => ?_⟩
    have hv64 := h.len vs[k + 1] (List.getElem_mem hk)
    have hj : j < 64 := by
      have := (List.getElem?_eq_some_iff.1 hv).1
      rwa [List.length_map, hv64] at this
    rw [hb.cell, Nat.add_assoc]
    refine hc _ _ ?_
    rw [List.getElem?_map, flat64 (fun v hv => h.len v (List.mem_of_mem_tail hv)) k j hj, List.getElem?_tail, List.getElem?_eq_getElem hk]
    rw [List.getElem?_map] at hv
    exact hv
end

set_option maxRecDepth 100000 in
theorem at_any (gc o : Nat) (vs : List (List UInt8)) (A : Option Addr) (c : Nat) (k : Nat) (w : World) (h : CelAt w gc o vs A c) (hk : k < vs.length) (hb : vs.length ≤ 1000000) :
    Calls Tryz.prog 58 #[.pointer (some ⟨gc, o, none⟩), .int .i64 (k : Int)] w fun e w' => e = .returned (.agg ((vs[k].map bv).toArray)) ∧ Below w.heap.size w w' := by
  have hz := zeros_ver
  have hv := h.len vs[k] (List.getElem_mem hk)
  have hi : (Tryz.prog.info? 113).map (·.size) = some (vs[k].map bv).toArray.size := by rw [size_ver]; simp [hv]
  have hi' : (Tryz.prog.info? 113).map (·.size) = some (vs[k].map bv).length := by rw [size_ver]; simp [hv]
  have hsz : (Array.replicate 64 (Value.int .u8 0)).size = (vs[k].map bv).toArray.size := by simp [hv]
  have h1 : (vs[k].map bv).toArray.all (·.oneCell') = true := all_oneCell_toArray (bvs_one _)
  have fin : Below w.heap.size w (w.alloc (.cells (vs[k].map bv).toArray 113)) := (Below.refl _ _).alloc (Nat.le_refl _) _
  rcases k with _ | k
  · have hr : w.rangeAt gc o (vs[0].map bv) := by
      have := h.head
      rcases vs with _ | ⟨v, r⟩
      · exact absurd rfl h.ne
      · exact this
    have hr' := World.rangeAt_alloc hr (Obj.cells (Array.replicate 64 (Value.int IntKind.u8 0)) 113)
    clear hb
    go_enter Tryz.func58, Tryz.ntmps58
    go_wp2_with (first | (refine wpList_load_mid rfl 113 _ rfl gc o rfl _ _ hr' Tryz.underlying113 rfl hi' ?_) | (refine wpList_store_new rfl 113 _ _ rfl _ _ rfl rfl hi hsz h1 ?_))
    exact bodyPost_ret (results_cell rfl _ _ w.heap.size 113 _ 64 5 rfl (Blk.new _ _ _) Tryz.underlying113 hi) rfl ⟨rfl, fin⟩
  · obtain ⟨g, off, rfl, hr⟩ := h.later hk
    have hr' := World.rangeAt_alloc hr (Obj.cells (Array.replicate 64 (Value.int IntKind.u8 0)) 113)
    have hrow := (h.alloc (Obj.cells (Array.replicate 64 (Value.int IntKind.u8 0)) 113)).row
    have hk' : (k : Int) < ((vs.length - 1 : Nat) : Int) := by omega
    have hkb : k ≤ 1000000 := by omega
    clear hb
    go_enter Tryz.func58, Tryz.ntmps58
    go_wp2_with (first | (refine wpList_load_mid rfl 113 _ rfl g (off + k * 64) rfl _ _ hr' Tryz.underlying113 rfl hi' ?_) | (refine wpList_store_new rfl 113 _ _ rfl _ _ rfl rfl hi hsz h1 ?_))
    exact bodyPost_ret (results_cell rfl _ _ w.heap.size 113 _ 64 5 rfl (Blk.new _ _ _) Tryz.underlying113 hi) rfl ⟨rfl, fin⟩

theorem waits_any (gc o : Nat) (vs : List (List UInt8)) (A : Option Addr) (c : Nat) (w : World) (h : CelAt w gc o vs A c) (hb : vs.length ≤ 1000000) :
    Calls Tryz.prog 114 #[.pointer (some ⟨gc, o, none⟩)] w fun e w' => e = .returned (.bool (decide (1 < vs.length))) ∧ w = w' := by
  have hrow := h.row
  go_enter Tryz.func114, Tryz.ntmps114
  go_wp2
  go_ret
  refine ⟨?_, rfl⟩
  show Ending.returned (.bool (decide (0 < vs.length - 1))) = _
  rw [show decide (0 < vs.length - 1) = decide (1 < vs.length) by simp only [decide_eq_decide]; omega]

set_option maxRecDepth 100000 in
theorem now_any (gc o : Nat) (vs : List (List UInt8)) (A : Option Addr) (c : Nat) (w : World) (h : CelAt w gc o vs A c) (v : List UInt8) (hv : vs.getLast? = some v) (hb : vs.length ≤ 1000000) :
    Calls Tryz.prog 79 #[.pointer (some ⟨gc, o, none⟩)] w fun e w' => e = .returned (.agg ((v.map bv).toArray)) ∧ Below w.heap.size w w' := by
  have hz := zeros_ver
  have hne := List.length_pos_iff.2 h.ne
  obtain rfl : vs[vs.length - 1] = v := by
    rw [List.getLast?_eq_getElem?, List.getElem?_eq_getElem (by omega)] at hv
    injection hv
  have hv64 := h.len vs[vs.length - 1] (List.getElem_mem _)
  have hi : (Tryz.prog.info? 113).map (·.size) = some (vs[vs.length - 1].map bv).toArray.size := by rw [size_ver]; simp [hv64]
  have hsz : (Array.replicate 64 (Value.int .u8 0)).size = (vs[vs.length - 1].map bv).toArray.size := by simp [hv64]
  have h1 : (vs[vs.length - 1].map bv).toArray.all (·.oneCell') = true := all_oneCell_toArray (bvs_one _)
  have hrow := (h.alloc (Obj.cells (Array.replicate 64 (Value.int IntKind.u8 0)) 113)).row
  have hcall := at_any gc o vs A c (vs.length - 1) _ (h.alloc (Obj.cells (Array.replicate 64 (Value.int IntKind.u8 0)) 113)) (by omega) hb
  go_enter Tryz.func79, Tryz.ntmps79
  go_wp2_with fail
  refine hcall.mono ?_
  rintro e w2 ⟨rfl, hb2⟩
  have hblk : Blk w2 w.heap.size 113 (Array.replicate 64 (Value.int .u8 0)) := (Blk.new w 113 (Array.replicate 64 (Value.int .u8 0))).ext hb2
  have hth : w2.there w.heap.size 0 (vs[vs.length - 1].map bv).toArray.size := hblk.there 0 _ (by simp [hv64])
  have hnew : Blk (w2.setCells w.heap.size 0 (vs[vs.length - 1].map bv)) w.heap.size 113 (vs[vs.length - 1].map bv).toArray := hblk.whole _ (by simp [hv64])
  have hbel : Below w.heap.size w (w2.setCells w.heap.size 0 (vs[vs.length - 1].map bv)) := by
    refine below_setCells (Nat.le_refl _) _ _ (((Below.refl _ _).alloc (Nat.le_refl _) (Obj.cells (Array.replicate 64 (Value.int IntKind.u8 0)) 113)).trans (hb2.mono ?_))
    rw [World.size_alloc]; omega
  clear hb2 hblk hcall hrow
  go_wp2_with (refine wpList_store_mid rfl 113 _ _ rfl w.heap.size 0 _ rfl rfl hth hi h1 ?_)
  exact bodyPost_ret (results_cell rfl _ _ w.heap.size 113 _ 64 5 rfl hnew Tryz.underlying113 hi) rfl ⟨rfl, hbel⟩

theorem wpList_build {P : Program} {ops : Array Oper} {rest : List Oper} {op : Oper} {a : Act} {w : World} {Q : Exit → Act → World → Prop} (hgd : op.guard = none) (ty : TypeId) (x : Operand) (ho : op.op = .build ty #[(0, x)])
    (v v' : Value) (hx : a.eval x = v) (hr : (Instr.build ty #[(0, v)]).run P w = .ok v' w) (h : wpList P ops Q rest (a.put op.dst v') w) : wpList P ops Q (op :: rest) a w :=
  wpList_plain hgd fun K hK => by
    unfold Oper.wp execOp
    simp [ho, hx, hr]
    exact hK _ _ h

/-- the cells of a sector of one version -/
def oneCells (v : List UInt8) : List Value := v.map bv ++ [.slice none 0 0]
theorem build_cell (cs : List Value) (hl : cs.length = 64) (w : World) : (Instr.build 116 #[(0, .agg cs.toArray)]).run Tryz.prog w = .ok (.agg (cs ++ [Value.slice none 0 0]).toArray) w := by
  obtain ⟨f, rfl⟩ : ∃ f : Nat → Value, cs = (List.range 64).map f := ⟨fun i => cs.getD i default, List.ext_getElem? fun i => by
    rcases Nat.lt_or_ge i 64 with h | h
    · simp [h, hl]
    · rw [List.getElem?_eq_none (by omega), List.getElem?_eq_none (by simpa using h)]⟩
  kernel_rfl

set_option maxRecDepth 100000 in
theorem settle_any (gc o : Nat) (v : List UInt8) (w : World) (hv : v.length = 64) (hth : w.there gc o 65) (hlt : gc < w.heap.size) :
    Calls Tryz.prog 57 #[.pointer (some ⟨gc, o, none⟩), .agg (v.map bv).toArray] w fun e w' => e = .returned (.tuple #[]) ∧ w' = (w.alloc (.cells (v.map bv).toArray 113)).setCells gc o (oneCells v) := by
  have hbuild := build_cell (v.map bv) (by simp [hv])
  have hi : (Tryz.prog.info? 113).map (·.size) = some (v.map bv).toArray.size := by rw [size_ver]; simp [hv]
  have hi2 : (Tryz.prog.info? 116).map (·.size) = some (oneCells v).toArray.size := by rw [size_cell]; simp [oneCells, hv]
  have h1 : (oneCells v).toArray.all (·.oneCell') = true := all_oneCell_toArray (fun u hu => by
    rcases List.mem_append.1 hu with hu | hu
    · exact bvs_one _ u hu
    · simp at hu; subst hu; rfl)
  have hth' : (w.alloc (.cells (v.map bv).toArray 113)).there gc o (oneCells v).toArray.size := by
    have := World.there_alloc hth (.cells (v.map bv).toArray 113)
    simpa [oneCells, hv] using this
  have hld := Blk.new w 113 (v.map bv).toArray
  unfold oneCells at *
  go_enter Tryz.func57, Tryz.ntmps57
  go_wp2_with (first | (refine wpList_build rfl 116 (.tmp 5) rfl (.agg (v.map bv).toArray) _ rfl (hbuild _) ?_) | (refine wpList_load_row rfl 113 _ rfl w.heap.size rfl 113 _ (0, 0) _ hld Tryz.underlying113 rfl hi ?_) | (refine wpList_store_mid rfl 116 _ _ rfl gc o _ rfl rfl hth' hi2 h1 ?_))
  go_end0
  exact ⟨rfl, rfl⟩

/-! ### The fuse: 'l' things may still be done; below 0: no fuse -/
def litV (l : Int) : Value := .bool (decide (0 ≤ l))
def leftV (l : Int) : Value := .int .i64 (max l 0)
theorem burnt_any (g : Nat) (v : Value) (l : Int) (w : World) (hb : Blk w g 75 #[v, litV l, leftV l]) (hl : -1 ≤ l) (hl2 : l ≤ 9223372036854775807) :
    Calls Tryz.prog 80 #[.pointer (some ⟨g, 1, none⟩)] w fun e w' => e = .returned (.bool (decide (l = 0))) ∧ w = w' := by
  have h1 : w.cell? ⟨g, 1, none⟩ = some (.bool (decide (0 ≤ l))) := hb.cell 1
  have h2 : w.cell? ⟨g, 2, none⟩ = some (.int .i64 (max l 0)) := hb.cell 2
  by_cases h0 : 0 ≤ l
  · rw [decide_eq_true h0] at h1
    rw [Int.max_eq_left h0] at h2
    go_enter Tryz.func80, Tryz.ntmps80
    go_wp2
    go_ret
    exact ⟨rfl, rfl⟩
  · rw [decide_eq_false h0] at h1
    have hne : decide (l = 0) = false := by simp; omega
    rw [hne]
    clear h2
    go_enter Tryz.func80, Tryz.ntmps80
    go_wp2
    go_ret
    exact ⟨rfl, rfl⟩

/-- what is left behind one thing more -/
def tick (l : Int) : Int := if 0 < l then l - 1 else l
theorem count_any (g : Nat) (v : Value) (l : Int) (w : World) (hb : Blk w g 75 #[v, litV l, leftV l]) (hl : -1 ≤ l) (hl2 : l ≤ 9223372036854775807) (h0 : l ≠ 0) :
    Calls Tryz.prog 81 #[.pointer (some ⟨g, 1, none⟩)] w fun e w' => e = .returned (.tuple #[]) ∧ Only (fun k => k = g) w w' ∧ Blk w' g 75 #[v, litV (tick l), leftV (tick l)] := by
  have h1 : w.cell? ⟨g, 1, none⟩ = some (.bool (decide (0 ≤ l))) := hb.cell 1
  have h2 : w.cell? ⟨g, 2, none⟩ = some (.int .i64 (max l 0)) := hb.cell 2
  have hf : w.frozen? ⟨g, 2, none⟩ = false := hb.free 2
  by_cases hp : 0 ≤ l
  · rw [decide_eq_true hp] at h1
    rw [Int.max_eq_left hp] at h2
    go_enter Tryz.func81, Tryz.ntmps81
    go_wp2
    go_end0
    refine ⟨rfl, (Only.refl (fun k => k = g) w).setCell (p := ⟨g, 2, none⟩) (.inl rfl) _, ?_⟩
    have := hb.put 2 (.int .i64 (l - 1))
    have e1 : tick l = l - 1 := by unfold tick; rw [if_pos (by omega)]
    rw [e1]
    have e2 : litV (l - 1) = litV l := by unfold litV; rw [decide_eq_true hp, decide_eq_true (by omega)]
    have e3 : leftV (l - 1) = .int .i64 (l - 1) := by unfold leftV; rw [Int.max_eq_left (by omega)]
    rw [e2, e3]
    exact this
  · rw [decide_eq_false hp] at h1
    have e1 : tick l = l := by unfold tick; rw [if_neg (by omega)]
    rw [e1]
    clear h2 hf
    go_enter Tryz.func81, Tryz.ntmps81
    go_wp2
    go_end0
    exact ⟨rfl, Only.refl _ _, hb⟩
end Go.Proofs.YtdpmfcifgimleaaGreatDoor

/-
  A Disk in memory ('Lay', 'Imp'), and what stores make of it. No statement of the seat is proved here.
-/
namespace Go.Proofs.YtdpmfcifgimleaaGreatDoor
open Go Go.RowKit

/-- The disk in block 'g', its sectors in block 'gc', the versions of sector i behind the first one in the row of 'B i'; what it owns lies in 'fp'. -/
structure Lay (w : World) (fp : Nat → Prop) (g gc : Nat) (S : Sec) (l : Int) (B : Nat → Option Addr) (C : Nat → Nat) : Prop where
  fg : fp g
  fgc : fp gc
  lo : -1 ≤ l
  hi : l ≤ 9223372036854775807
  n : S.length ≤ 4096
  dsk : Blk w g 75 #[.slice (some ⟨gc, 0, none⟩) S.length S.length, litV l, leftV l]
  row : ∃ cs, Blk w gc 116 cs ∧ cs.size = S.length * 65
  cel : ∀ i (hi : i < S.length), CelAt w gc (i * 65) S[i] (B i) (C i)
  fB : ∀ i k, i < S.length → inA (B i) k → fp k
  apart : ∀ i j k, i < S.length → j < S.length → inA (B i) k → inA (B j) k → i = j

def Imp (w : World) (fp : Nat → Prop) (g : Nat) (S : Sec) (l : Int) : Prop := ∃ gc B C, Lay w fp g gc S l B C

theorem CelAt.store_far {w : World} {gc o : Nat} {vs : List (List UInt8)} {A : Option Addr} {c : Nat} (h : CelAt w gc o vs A c) (o' : Nat) (us : List Value) (hap : o + 65 ≤ o' ∨ o' + us.length ≤ o) (hn : ¬ inA A gc) : CelAt (w.setCells gc o' us) gc o vs A c := by
  refine ⟨h.ne, h.len, World.rangeAt_setCells_apart h.head gc o' us ?_, ?_, h.own.only ((Only.refl (fun k => k = gc) w).setCells (.inl rfl) us o') (fun k hk e => hn (e ▸ hk))⟩
  · rw [List.length_map, h.lenHead]
    omega
  · rw [World.cell?_setCells_out gc us o' w ⟨gc, o + 64, none⟩ (fun _ _ => by
      show o + 64 < o' ∨ o' + us.length ≤ o + 64
      omega)]
    exact h.row

theorem CelAt.one {w : World} {gc o : Nat} (v : List UInt8) (hv : v.length = 64) (hr : w.rangeAt gc o (oneCells v)) : CelAt w gc o [v] none 0 := by
  refine ⟨by simp, by simpa using hv, fun j u hu => hr j u ?_, hr 64 _ ?_, RowO.none_ _ _ _⟩
  · have hj : j < (v.map bv).length := (List.getElem?_eq_some_iff.1 hu).1
    unfold oneCells
    rw [List.getElem?_append_left hj]
    exact hu
  · unfold oneCells
    rw [List.getElem?_append_right (by simp [hv])]
    simp [hv]

theorem oneCells_length {v : List UInt8} (hv : v.length = 64) : (oneCells v).length = 65 := by simp [oneCells, hv]

section
variable {T fp fp' : Nat → Prop} {w w' : World} {g gc : Nat} {S : Sec} {l : Int} {B : Nat → Option Addr} {C : Nat → Nat}
theorem Lay.mono (h : Lay w fp g gc S l B C) (hs : ∀ k, fp k → k < w.heap.size → fp' k) : Lay w fp' g gc S l B C :=
  { h with fg := hs _ h.fg h.dsk.lt, fgc := by obtain ⟨cs, hb, _⟩ := h.row; exact hs _ h.fgc hb.lt, fB := fun i k hi hk => hs k (h.fB i k hi hk) ((h.cel i hi).own.lt hk) }
theorem Lay.only (h : Lay w fp g gc S l B C) (ho : Only T w w') (hn : ∀ k, fp k → ¬ T k) : Lay w' fp g gc S l B C := by
  obtain ⟨cs, hb, hsz⟩ := h.row
  exact { h with
    dsk := h.dsk.only ho (hn _ h.fg)
    row := ⟨cs, hb.only ho (hn _ h.fgc), hsz⟩
    cel := fun i hi => (h.cel i hi).keep (ho.block _ hb.lt (hn _ h.fgc)) fun k hk => ho.block k ((h.cel i hi).own.lt hk) (hn k (h.fB i k hi hk)) }
theorem Lay.ext (h : Lay w fp g gc S l B C) (hb : Below w.heap.size w w') : Lay w' fp g gc S l B C := h.only (Only.of_ext (S := fun _ => False) hb) (fun _ _ x => x)
theorem Lay.alloc (h : Lay w fp g gc S l B C) (o : Obj) : Lay (w.alloc o) fp g gc S l B C := h.ext ((Below.refl _ _).alloc (Nat.le_refl _) o)
theorem Lay.drewN (h : Lay w fp g gc S l B C) (n : Nat) : Lay (w.drewN n) fp g gc S l B C := h.only ((Only.refl (fun _ => False) w).drewN n) (fun _ _ x => x)
theorem Lay.far (h : Lay w fp g gc S l B C) {i : Nat} (hi : i < S.length) : ¬ inA (B i) gc ∧ ¬ inA (B i) g := by
  obtain ⟨cs, hb, _⟩ := h.row
  exact ⟨(h.cel i hi).own.ne_blk hb (by decide), (h.cel i hi).own.ne_blk h.dsk (by decide)⟩
theorem Lay.ne (h : Lay w fp g gc S l B C) : g ≠ gc := by
  rintro rfl
  obtain ⟨cs, hb, _⟩ := h.row
  have h1 := h.dsk
  unfold Blk at hb h1
  rw [h1] at hb
  injection hb with hb
  injection hb with _ ht
  exact absurd ht (by decide)
theorem Lay.wf (h : Lay w fp g gc S l B C) : Wf S := fun vs hvs => by
  obtain ⟨i, hi, rfl⟩ := List.mem_iff_getElem.1 hvs
  exact ⟨(h.cel i hi).ne, (h.cel i hi).len⟩
theorem Lay.there (h : Lay w fp g gc S l B C) {i : Nat} (hi : i < S.length) : w.there gc (i * 65) 65 := by
  obtain ⟨cs, hb, hsz⟩ := h.row
  exact hb.there _ _ (by omega)
/-- a sector becomes one version -/
theorem Lay.settle (h : Lay w fp g gc S l B C) {i : Nat} (hi : i < S.length) (v : List UInt8) (hv : v.length = 64) :
    Lay (w.setCells gc (i * 65) (oneCells v)) fp g gc (S.set i [v]) l (fun j => if j = i then none else B j) (fun j => if j = i then 0 else C j) := by
  obtain ⟨cs, hb, hsz⟩ := h.row
  obtain ⟨cs', hb', hsz', _, _⟩ := Blk.setCells (oneCells v) (i * 65) hb (by rw [oneCells_length hv]; omega)
  have hlen : (S.set i [v]).length = S.length := by simp
  refine ⟨h.fg, h.fgc, h.lo, h.hi, by rw [hlen]; exact h.n, by rw [hlen]; exact h.dsk.setCells_far h.ne _ _, ⟨cs', hb', by rw [hlen]; omega⟩, fun j hj => ?_, fun j k hj hk => ?_, fun j j' k hj hj' hk hk' => ?_⟩
  · have hj' : j < S.length := by simpa using hj
    by_cases e : j = i
    · subst e
      simp only [List.getElem_set_self, if_true]
      exact CelAt.one v hv (World.rangeAt_setCells_same _ _ _ _ (by rw [oneCells_length hv]; exact h.there hi))
    · simp only [List.getElem_set_ne (Ne.symm e), if_neg e]
      exact (h.cel j hj').store_far _ _ (by rw [oneCells_length hv]; omega) (h.far hj').1
  · by_cases e : j = i
    · simp only [if_pos e] at hk; exact absurd hk (inA_none k)
    · simp only [if_neg e] at hk; exact h.fB j k (by simpa using hj) hk
  · by_cases e : j = i
    · simp only [if_pos e] at hk; exact absurd hk (inA_none k)
    · by_cases e' : j' = i
      · simp only [if_pos e'] at hk'; exact absurd hk' (inA_none k)
      · simp only [if_neg e] at hk; simp only [if_neg e'] at hk'
        exact h.apart j j' k (by simpa using hj) (by simpa using hj') hk hk'
/-- another fuse -/
theorem Lay.fuse (h : Lay w fp g gc S l B C) (l' : Int) (lo : -1 ≤ l') (hi : l' ≤ 9223372036854775807) (ho : Only (fun k => k = g) w w') (hb : Blk w' g 75 #[.slice (some ⟨gc, 0, none⟩) S.length S.length, litV l', leftV l']) : Lay w' fp g gc S l' B C := by
  obtain ⟨cs, hbc, hsz⟩ := h.row
  have hgc : ¬ gc = g := Ne.symm h.ne
  exact { h with
    lo := lo
    hi := hi
    dsk := hb
    row := ⟨cs, hbc.only ho hgc, hsz⟩
    cel := fun i hi => (h.cel i hi).keep (ho.block _ hbc.lt hgc) fun k hk => ho.block k ((h.cel i hi).own.lt hk) (fun e => (h.far hi).2 (e ▸ hk)) }
end

/-- the world behind a store into the row, and a new row of versions: one version more -/
theorem Lay.push {w w1 : World} {fp : Nat → Prop} {g gc : Nat} {S : Sec} {l : Int} {B : Nat → Option Addr} {C : Nat → Nat} (h : Lay w fp g gc S l B C) {i : Nat} (hi : i < S.length) (v : List UInt8) (hv : v.length = 64) (A' : Option Addr) (c' : Nat)
    (ho : Only (inA (B i)) w w1) (hr : RowO w1 113 64 A' S[i].length c' ((S[i].tail.flatten ++ v).map bv)) (hA : ∀ k, inA A' k → inA (B i) k ∨ (w.heap.size ≤ k ∧ k < w1.heap.size)) :
    Lay (w1.setCells gc (i * 65 + 64) [.slice A' S[i].length c']) (More fp w w1) g gc (S.set i (S[i] ++ [v])) l (fun j => if j = i then A' else B j) (fun j => if j = i then c' else C j) := by
  obtain ⟨cs, hb, hsz⟩ := h.row
  have hb1 : Blk w1 gc 116 cs := hb.only ho (h.far hi).1
  obtain ⟨cs', hb', hsz', hin, hout⟩ := Blk.setCells [.slice A' S[i].length c'] (i * 65 + 64) hb1 (by simp; omega)
  have hlen : (S.set i (S[i] ++ [v])).length = S.length := by simp
  have hdsk : Blk w1 g 75 _ := h.dsk.only ho (h.far hi).2
  have hother : ∀ j (hj : j < S.length), j ≠ i → CelAt w1 gc (j * 65) S[j] (B j) (C j) := fun j hj e =>
    (h.cel j hj).keep (ho.block _ hb.lt (h.far hi).1) fun k hk => ho.block k ((h.cel j hj).own.lt hk) (fun hk' => e (h.apart j i k hj hi hk hk'))
  have hlt : ∀ j k, j < S.length → inA (B j) k → k < w.heap.size := fun j k hj hk => (h.cel j hj).own.lt hk
  have hrow' : RowO (w1.setCells gc (i * 65 + 64) [.slice A' S[i].length c']) 113 64 A' S[i].length c' ((S[i].tail.flatten ++ v).map bv) :=
    hr.only ((Only.refl (fun k => k = gc) w1).setCells (.inl rfl) _ _) (fun k hk e => by
      subst e
      exact hr.ne_blk hb1 (by decide) hk)
  refine ⟨.inl h.fg, .inl h.fgc, h.lo, h.hi, by rw [hlen]; exact h.n, by rw [hlen]; exact hdsk.setCells_far h.ne _ _, ⟨cs', hb', by rw [hlen]; omega⟩, fun j hj => ?_, fun j k hj hk => ?_, fun j j' k hj hj' hk hk' => ?_⟩
  · have hj' : j < S.length := by simpa using hj
    by_cases e : j = i
    · subst e
      simp only [List.getElem_set_self, if_true]
      have hc := h.cel j hi
      obtain ⟨x, r, hS⟩ : ∃ x r, S[j] = x :: r := by
        match hS : S[j], hc.ne with
        | x :: r, _ => exact ⟨x, r, rfl⟩
      refine ⟨by simp, fun u hu => ?_, fun m u hu => ?_, ?_, ?_⟩
      · rcases List.mem_append.1 hu with hu | hu
        · exact hc.len u hu
        · simp at hu; subst hu; exact hv
      · have hm : m < 64 := by
          have := (List.getElem?_eq_some_iff.1 hu).1
          rw [List.length_map] at this
          have h2 := hc.lenHead
          rw [hS] at this h2
          simp at this h2
          omega
        rw [hb'.cell, hout _ (.inl (by omega)), ← hb.cell]
        refine hc.head m u ?_
        rw [hS] at hu ⊢
        exact hu
      · rw [hb'.cell]
        have := hin 0 _ rfl
        rw [Nat.add_zero] at this
        rw [this]
        simp
      · have e1 : (S[j] ++ [v]).length - 1 = S[j].length := by simp
        have e2 : (S[j] ++ [v]).tail.flatten = S[j].tail.flatten ++ v := by rw [hS]; simp
        rw [e1, e2]
        exact hrow'
    · simp only [List.getElem_set_ne (Ne.symm e), if_neg e]
      exact (hother j hj' e).store_far _ _ (by simp; omega) (h.far hj').1
  · have hj' : j < S.length := by simpa using hj
    by_cases e : j = i
    · simp only [if_pos e] at hk
      rcases hA k hk with hk | hk
      · exact .inl (h.fB i k hi hk)
      · exact .inr hk
    · simp only [if_neg e] at hk; exact .inl (h.fB j k hj' hk)
  · have hj1 : j < S.length := by simpa using hj
    have hj2 : j' < S.length := by simpa using hj'
    by_cases e : j = i
    · by_cases e' : j' = i
      · omega
      · simp only [if_pos e] at hk; simp only [if_neg e'] at hk'
        rcases hA k hk with hk | hk
        · exact absurd (h.apart i j' k hi hj2 hk hk') (Ne.symm e')
        · have := hlt j' k hj2 hk'; omega
    · by_cases e' : j' = i
      · simp only [if_neg e] at hk; simp only [if_pos e'] at hk'
        rcases hA k hk' with hk' | hk'
        · exact absurd (h.apart j i k hj1 hi hk hk') e
        · have := hlt j k hj1 hk; omega
      · simp only [if_neg e] at hk; simp only [if_neg e'] at hk'
        exact h.apart j j' k hj1 hj2 hk hk'

section
variable {T fp fp' : Nat → Prop} {w w' : World} {g : Nat} {S : Sec} {l : Int}
theorem Imp.mono (h : Imp w fp g S l) (hs : ∀ k, fp k → k < w.heap.size → fp' k) : Imp w fp' g S l := by
  obtain ⟨gc, B, C, h⟩ := h
  exact ⟨gc, B, C, h.mono hs⟩
theorem Imp.only (h : Imp w fp g S l) (ho : Only T w w') (hn : ∀ k, fp k → ¬ T k) : Imp w' fp g S l := by
  obtain ⟨gc, B, C, h⟩ := h
  exact ⟨gc, B, C, h.only ho hn⟩
theorem Imp.ext (h : Imp w fp g S l) (hb : Below w.heap.size w w') : Imp w' fp g S l := by
  obtain ⟨gc, B, C, h⟩ := h
  exact ⟨gc, B, C, h.ext hb⟩
theorem Imp.drewN (h : Imp w fp g S l) (n : Nat) : Imp (w.drewN n) fp g S l := by
  obtain ⟨gc, B, C, h⟩ := h
  exact ⟨gc, B, C, h.drewN n⟩
theorem Imp.lt (h : Imp w fp g S l) : g < w.heap.size := by
  obtain ⟨gc, B, C, h⟩ := h
  exact h.dsk.lt
theorem Imp.wf (h : Imp w fp g S l) : Wf S := by
  obtain ⟨gc, B, C, h⟩ := h
  exact h.wf
theorem Imp.n (h : Imp w fp g S l) : S.length ≤ 4096 := by
  obtain ⟨gc, B, C, h⟩ := h
  exact h.n
theorem Imp.fg (h : Imp w fp g S l) : fp g := by
  obtain ⟨gc, B, C, h⟩ := h
  exact h.fg
end
end Go.Proofs.YtdpmfcifgimleaaGreatDoor

/-
  The contracts of sector's Len, has, Waiting, Read, New, Fuse, Write. No statement of the seat is proved here.
-/
namespace Go.Proofs.YtdpmfcifgimleaaGreatDoor
open Go Go.RowKit

/-! ### Len, has -/
section
variable {w : World} {fp : Nat → Prop} {g gc : Nat} {S : Sec} {l : Int} {B : Nat → Option Addr} {C : Nat → Nat}
theorem len_any (h : Lay w fp g gc S l B C) : Calls Tryz.prog 62 #[.pointer (some ⟨g, 0, none⟩)] w fun e w' => e = .returned (.int .i64 (S.length : Int)) ∧ w = w' := by
  have h0 : w.cell? ⟨g, 0, none⟩ = some (.slice (some ⟨gc, 0, none⟩) S.length S.length) := h.dsk.cell 0
  go_enter Tryz.func62, Tryz.ntmps62
  go_wp2
  go_ret
  exact ⟨rfl, rfl⟩
theorem has_any (h : Lay w fp g gc S l B C) (i : Int) : Calls Tryz.prog 78 #[.pointer (some ⟨g, 0, none⟩), .int .i64 i] w fun e w' => e = .returned (.bool (decide (0 ≤ i ∧ i < (S.length : Int)))) ∧ w = w' := by
  by_cases h0 : 0 ≤ i
  · have e1 : decide (0 ≤ i ∧ i < (S.length : Int)) = decide (i < (S.length : Int)) := by simp [h0]
    rw [e1]
    go_enter Tryz.func78, Tryz.ntmps78
    go_wp2_with fail
    refine (len_any h).mono ?_
    rintro e w2 ⟨rfl, rfl⟩
    go_wp2
    go_ret
    exact ⟨rfl, rfl⟩
  · have e1 : decide (0 ≤ i ∧ i < (S.length : Int)) = false := by simp [h0]
    rw [e1]
    go_enter Tryz.func78, Tryz.ntmps78
    go_wp2
    go_ret
    exact ⟨rfl, rfl⟩
end

theorem info_int : (Tryz.prog.info? 3).map (fun i => (i.zero, i.size, i.bytes)) = some (some (.int .i64 0), 1, 8) := by kernel_rfl
def iv' (i : Nat) : Value := .int .i64 (i : Int)

set_option maxHeartbeats 1000000 in
theorem waiting_any {w : World} {fp : Nat → Prop} {g gc : Nat} {S : Sec} {l : Int} {B : Nat → Option Addr} {C : Nat → Nat} (h : Lay w fp g gc S l B C) (hs : Small 1000000 S) :
    Calls Tryz.prog 56 #[.pointer (some ⟨g, 0, none⟩)] w fun e w' => ∃ A c, e = .returned (.slice A (waiting S).length c) ∧ RowO w' 3 1 A (waiting S).length c ((waiting S).map iv') ∧ Below w.heap.size w w' ∧ ∀ k, inA A k → w.heap.size ≤ k := by
  have hn := h.n
  go_enter Tryz.func56, Tryz.ntmps56
  go_wp2_with fail
  refine (len_any h).mono ?_
  rintro e w2 ⟨rfl, rfl⟩
  go_wp2
  go_loopw [3, 4, 7] (fun s _ i w1 => ∃ (k : Nat) (A : Option Addr) (c : Nat), k ≤ S.length ∧ i = .int .i64 (k : Int) ∧ s = .slice A (rk (pw S) k) c ∧ RowO w1 3 1 A (rk (pw S) k) c ((wl (pw S) k).map iv') ∧ Below w.heap.size w w1 ∧ ∀ k, inA A k → w.heap.size ≤ k) (fun _ _ i _ => S.length - (intOf i).toNat)
  case atStart => exact ⟨0, none, 0, Nat.zero_le _, rfl, rfl, RowO.none_ _ _ _, Below.refl _ _, fun k hk => absurd hk (inA_none k)⟩
  case round =>
    obtain ⟨k, A, c, hk, rfl, rfl, hrow, hbel, hnew⟩ := hrel
    by_cases hlt : k < S.length
    · have hl := h.ext hbel
      have h0 : wr.cell? ⟨g, 0, none⟩ = some (.slice (some ⟨gc, 0, none⟩) S.length S.length) := hl.dsk.cell 0
      have hsm := hs S[k] (List.getElem_mem hlt)
      have hsucc := Lib.hid (rk_succ (pw S) k)
      have wsucc := Lib.hid (wl_succ (pw S) k)
      have hle := rk_le (pw S) k
      have hpk := pw_eq hlt
      go_wp2_with fail
      refine (waits_any gc (k * 65) S[k] _ _ _ (hl.cel k hlt) hsm).mono ?_
      rintro e w2 ⟨rfl, rfl⟩
      by_cases hp : 1 < S[k].length
      · have hpk' : pw S k = true := by rw [hpk]; simp [hp]
        rw [hpk'] at hsucc wsucc
        have hm1 : rk (pw S) k + 1 ≤ maxLen := by unfold maxLen; omega
        have hm2 : (rk (pw S) k + 1) * 8 ≤ 140737488355328 := by omega
        go_wp2_with (at_builtin
                     refine wpList_appO _ rfl (.tmp 17) (.tmp 19) _ rfl _ _ 1 8 Tryz.underlying39 info_int rfl A _ c _ rfl (hrow.alloc _) (some ⟨wr.heap.size, 0, none⟩) 1 1 [.int .i64 (k : Int)] rfl rfl (Rd.lit _ #[.int .i64 (k : Int)] _) ?_ ?_ hm1 hm2 ?_
                     · simp; rfl
                     · intro h; cases h
                     intro A2 c2 w3 hrow3 honly3 hA3)
        go_roundw
        case rel =>
          refine ⟨k + 1, A2, c2, by omega, by go_num, ?_, ?_, ?_, ?_⟩
          · rw [hsucc.out]; rfl
          · rw [hsucc.out, wsucc.out]
            simpa [iv'] using hrow3
          · refine (hbel.alloc hbel.size _).trans (honly3.below (fun i hi => hnew i hi) ?_)
            rw [World.size_alloc]; have := hbel.size; omega
          · intro k' hk'
            rcases hA3 k' hk' with h1 | h1
            · exact hnew k' h1
            · have := hbel.size
              rw [World.size_alloc] at h1; omega
        case measure => simp [intOf]; omega
      · have hpk' : pw S k = false := by rw [hpk]; simp [hp]
        rw [hpk'] at hsucc wsucc
        have hdec : decide (1 < S[k].length) = false := by simp [hp]
        rw [hdec]
        go_wp2
        go_roundw
        case rel =>
          refine ⟨k + 1, A, c, by omega, by go_num, ?_, ?_, hbel, hnew⟩
          · rw [hsucc.out]; rfl
          · rw [hsucc.out, wsucc.out]
            simpa using hrow
        case measure => simp [intOf]; omega
    · obtain rfl : k = S.length := by omega
      go_wp2
      go_ret
      exact ⟨A, c, rfl, hrow, hbel, hnew⟩

/-! ### New -/
def zerosV : List UInt8 := List.replicate 64 0
def zeroS (n : Nat) : Sec := List.replicate n [zerosV]
theorem zerosV_length : zerosV.length = 64 := rfl
theorem info_cell : (Tryz.prog.info? 116).map (fun i => (i.zero, i.size, i.bytes)) = some (some (.agg (oneCells zerosV).toArray), 65, 88) := by kernel_rfl
theorem make_cells (W : World) (n : Nat) (h : n ≤ 4096) : (Instr.makeSlice 71 (.int .i64 (n : Int)) (.int .i64 (n : Int))).run Tryz.prog W =
    .ok (.slice (some ⟨W.heap.size, 0, none⟩) n n) (W.alloc (.cells (madeCells (oneCells zerosV).toArray (n * 65)) 116)) := by
  obtain ⟨i, hi, hz, hsz, hby⟩ := info_parts info_cell
  have hr := run_make (P := Tryz.prog) W 71 116 i _ Tryz.underlying71 hi hz .i64 .i64 (n : Int) (n : Int) (by omega) (by omega) (by rw [hby]; omega) (by omega)
  simp only [Int.toNat_natCast, hsz] at hr
  exact hr
theorem made_at (z : Array Value) (n i j : Nat) (hi : i < n) (hj : j < z.size) : (madeCells z (n * z.size))[i * z.size + j]? = z[j]? := by
  have h1 : i * z.size + j < n * z.size := by
    have : (i + 1) * z.size ≤ n * z.size := Nat.mul_le_mul_right _ hi
    rw [Nat.add_mul] at this; omega
  have h2 : (i * z.size + j) % z.size = j := by rw [Nat.add_comm, Nat.add_mul_mod_self_right]; exact Nat.mod_eq_of_lt hj
  simp [madeCells, h1, h2, hj]

/-- a disk of noughts -/
theorem lay_new (w : World) (n : Nat) (hn : n ≤ 4096) (fp : Nat → Prop) (h1 : fp w.heap.size) (h2 : fp (w.heap.size + 1)) :
    Lay ((w.alloc (.cells (madeCells (oneCells zerosV).toArray (n * 65)) 116)).alloc (.cells #[.slice (some ⟨w.heap.size, 0, none⟩) n n, .bool false, .int .i64 0] 75)) fp (w.heap.size + 1) w.heap.size (zeroS n) (-1) (fun _ => none) (fun _ => 0) := by
  have hb : Blk ((w.alloc (.cells (madeCells (oneCells zerosV).toArray (n * 65)) 116)).alloc (.cells #[.slice (some ⟨w.heap.size, 0, none⟩) n n, .bool false, .int .i64 0] 75)) w.heap.size 116 (madeCells (oneCells zerosV).toArray (n * 65)) := (Blk.new _ _ _).alloc _
  have hl : (zeroS n).length = n := by simp [zeroS]
  refine ⟨h2, h1, by omega, by omega, by omega, ?_, ⟨_, hb, by rw [hl]; simp [madeCells]⟩, fun i hi => ?_, fun i k _ hk => absurd hk (inA_none k), fun i j k _ _ hk => absurd hk (inA_none k)⟩
  · rw [hl]
    have := Blk.new (w.alloc (.cells (madeCells (oneCells zerosV).toArray (n * 65)) 116)) 75 #[.slice (some ⟨w.heap.size, 0, none⟩) n n, .bool false, .int .i64 0]
    rw [World.size_alloc] at this
    exact this
  · have e : (zeroS n)[i] = [zerosV] := by simp [zeroS]
    rw [e]
    refine CelAt.one zerosV rfl fun j v hv => ?_
    have hj : j < 65 := (List.getElem?_eq_some_iff.1 hv).1
    rw [hb.cell]
    have := made_at (oneCells zerosV).toArray n i j (by omega) hj
    rw [show (oneCells zerosV).toArray.size = 65 from rfl] at this
    rw [this]
    simpa using hv

theorem new_ok (n : Nat) (w : World) (h1 : 1 ≤ n) (h2 : n ≤ 4096) :
    Calls Tryz.prog 12 #[.int .i64 (n : Int)] w fun e w' => ∃ g, e = .returned (.tuple #[.pointer (some ⟨g, 0, none⟩), .int .i64 0]) ∧ Below w.heap.size w w' ∧ Imp w' (fun k => w.heap.size ≤ k ∧ k < w'.heap.size) g (zeroS n) (-1) := by
  have hmk := fun W => make_cells W n h2
  go_enter Tryz.func12, Tryz.ntmps12
  go_wp2
  go_ret2
  refine ⟨w.heap.size + 1, rfl, ((Below.refl _ _).alloc (Nat.le_refl _) _).alloc (by simp) _, w.heap.size, fun _ => none, fun _ => 0, ?_⟩
  exact lay_new w n h2 _ (by simp only [World.size_alloc]; omega) (by simp only [World.size_alloc]; omega)
theorem new_bad (n : Int) (w : World) (h : n < 1 ∨ 4096 < n) :
    Calls Tryz.prog 12 #[.int .i64 n] w fun e w' => e = .returned (.tuple #[.pointer none, .int .i64 1]) ∧ w = w' := by
  rcases h with h | h
  all_goals
    go_enter Tryz.func12, Tryz.ntmps12
    go_wp2
    go_ret2
    exact ⟨rfl, rfl⟩

/-! ### Read -/
set_option maxRecDepth 100000 in
theorem read_ok {w : World} {fp : Nat → Prop} {g gc : Nat} {S : Sec} {l : Int} {B : Nat → Option Addr} {C : Nat → Nat} (h : Lay w fp g gc S l B C) (hs : Small 1000000 S) (i : Nat) (hi : i < S.length) :
    Calls Tryz.prog 38 #[.pointer (some ⟨g, 0, none⟩), .int .i64 (i : Int)] w fun e w' => ∃ g', e = .returned (.tuple #[.slice (some ⟨g', 0, none⟩) 64 64, .int .i64 0]) ∧ Below w.heap.size w w' ∧ Blk w' g' 113 ((lastOf S[i]).map bv).toArray ∧ w.heap.size ≤ g' := by
  have hz := zeros_ver
  have h0 : w.cell? ⟨g, 0, none⟩ = some (.slice (some ⟨gc, 0, none⟩) S.length S.length) := h.dsk.cell 0
  have hc := h.cel i hi
  have hm := lastOf_mem hc.ne
  have hv64 := hc.len _ hm
  have hsm := hs S[i] (List.getElem_mem hi)
  have hlast : S[i].getLast? = some (lastOf S[i]) := by
    unfold lastOf
    rw [List.getLastD_eq_getLast?]
    have := List.length_pos_iff.2 hc.ne
    rw [List.getLast?_eq_getElem?, List.getElem?_eq_getElem (by omega)]; rfl
  have hii : (i : Int) < (S.length : Int) := by omega
  have hhas : decide (0 ≤ (i : Int) ∧ (i : Int) < (S.length : Int)) = true := by simp; omega
  have hisz : (Tryz.prog.info? 113).map (·.size) = some ((lastOf S[i]).map bv).toArray.size := by rw [size_ver]; simp [hv64]
  have hsz : (Array.replicate 64 (Value.int .u8 0)).size = ((lastOf S[i]).map bv).toArray.size := by simp [hv64]
  have h1 : ((lastOf S[i]).map bv).toArray.all (·.oneCell') = true := all_oneCell_toArray (bvs_one _)
  go_enter Tryz.func38, Tryz.ntmps38
  go_wp2_with fail
  refine (has_any h (i : Int)).mono ?_
  rintro e w2 ⟨rfl, rfl⟩
  rw [hhas]
  go_wp2_with fail
  refine (now_any gc (i * 65) S[i] _ _ w hc (lastOf S[i]) hlast hsm).mono ?_
  rintro e w2 ⟨rfl, hb2⟩
  go_wp2_with (refine wpList_store_new rfl 113 _ _ rfl _ _ rfl rfl hisz hsz h1 ?_)
  go_ret2
  exact ⟨w2.heap.size, rfl, hb2.alloc hb2.size _, Blk.new _ _ _, hb2.size⟩
theorem read_bad {w : World} {fp : Nat → Prop} {g gc : Nat} {S : Sec} {l : Int} {B : Nat → Option Addr} {C : Nat → Nat} (h : Lay w fp g gc S l B C) (i : Int) (hi : ¬ (0 ≤ i ∧ i < (S.length : Int))) :
    Calls Tryz.prog 38 #[.pointer (some ⟨g, 0, none⟩), .int .i64 i] w fun e w' => e = .returned (.tuple #[.slice none 0 0, .int .i64 1]) ∧ w = w' := by
  have hhas : decide (0 ≤ i ∧ i < (S.length : Int)) = false := by simp only [decide_eq_false_iff_not]; exact hi
  go_enter Tryz.func38, Tryz.ntmps38
  go_wp2_with fail
  refine (has_any h i).mono ?_
  rintro e w2 ⟨rfl, rfl⟩
  rw [hhas]
  go_wp2
  go_ret2
  exact ⟨rfl, rfl⟩

/-! ### Fuse -/
theorem fuse_any {w : World} {fp : Nat → Prop} {g gc : Nat} {S : Sec} {l : Int} {B : Nat → Option Addr} {C : Nat → Nat} (h : Lay w fp g gc S l B C) (n : Int) (hn : isInt n) :
    Calls Tryz.prog 19 #[.pointer (some ⟨g, 0, none⟩), .int .i64 n] w fun e w' => e = .returned (.tuple #[]) ∧ Only (fun k => k = g) w w' ∧ Lay w' fp g gc S (max n (-1)) B C := by
  have c1 : w.cell? ⟨g, 1, none⟩ = some (litV l) := h.dsk.cell 1
  have c2 : w.cell? ⟨g, 2, none⟩ = some (leftV l) := h.dsk.cell 2
  have f1 : w.frozen? ⟨g, 1, none⟩ = false := h.dsk.free 1
  have f2 : w.frozen? ⟨g, 2, none⟩ = false := h.dsk.free 2
  unfold isInt at hn
  by_cases h0 : 0 ≤ n
  · have e1 : max n (-1) = n := by omega
    rw [e1]
    go_enter Tryz.func19, Tryz.ntmps19
    go_wp2
    go_end0
    have ho : Only (fun k => k = g) w ((((w.setCell ⟨g, 1, none⟩ (.bool false)).setCell ⟨g, 2, none⟩ (.int .i64 0)).setCell ⟨g, 1, none⟩ (.bool true)).setCell ⟨g, 2, none⟩ (.int .i64 n)) :=
      ((((Only.refl (fun k => k = g) w).setCell (p := ⟨g, 1, none⟩) (.inl rfl) _).setCell (p := ⟨g, 2, none⟩) (.inl rfl) _).setCell (p := ⟨g, 1, none⟩) (.inl rfl) _).setCell (p := ⟨g, 2, none⟩) (.inl rfl) _
    refine ⟨rfl, ho, h.fuse n (by omega) (by omega) ho ?_⟩
    have hb := (((h.dsk.put 1 (.bool false)).put 2 (.int .i64 0)).put 1 (.bool true)).put 2 (.int .i64 n)
    have e1 : litV n = .bool true := by unfold litV; rw [decide_eq_true h0]
    have e2 : leftV n = .int .i64 n := by unfold leftV; rw [Int.max_eq_left h0]
    rw [e1, e2]
    exact hb
  · have e1 : max n (-1) = -1 := by omega
    rw [e1]
    go_enter Tryz.func19, Tryz.ntmps19
    go_wp2
    go_end0
    have ho : Only (fun k => k = g) w ((w.setCell ⟨g, 1, none⟩ (.bool false)).setCell ⟨g, 2, none⟩ (.int .i64 0)) :=
      ((Only.refl (fun k => k = g) w).setCell (p := ⟨g, 1, none⟩) (.inl rfl) _).setCell (p := ⟨g, 2, none⟩) (.inl rfl) _
    refine ⟨rfl, ho, h.fuse (-1) (by omega) (by omega) ho ?_⟩
    exact (h.dsk.put 1 (.bool false)).put 2 (.int .i64 0)
end Go.Proofs.YtdpmfcifgimleaaGreatDoor

/-
  The contract of sector's Write. No statement of the seat is proved here.
-/
namespace Go.Proofs.YtdpmfcifgimleaaGreatDoor
open Go Go.RowKit

theorem take_list {α : Type} {l r : List α} {i : Nat} {x : α} (h : l.drop i = x :: r) : (l.toArray)[i]? = some x := by
  have := congrArg List.head? h
  rw [List.head?_drop] at this
  simpa using this

/-- a whole list laid over a row, cell by cell -/
theorem fold_get (cs : List Value) : ∀ (z : Array Value) (o k : Nat), o + cs.length ≤ z.size →
    (List.foldl (fun (a : Array Value) (x : Value × Nat) => a.setIfInBounds x.2 x.1) z (cs.zipIdx o))[k]? = if o ≤ k ∧ k < o + cs.length then cs[k - o]? else z[k]? := by
  induction cs with
  | nil => intro z o k _; rw [if_neg (by simp)]; rfl
  | cons v r ih =>
    intro z o k hz
    simp only [List.length_cons] at hz
    rw [List.zipIdx_cons, List.foldl_cons, ih _ _ _ (by simp; omega)]
    simp only [List.length_cons]
    by_cases h1 : k = o
    · subst h1
      rw [if_neg (by omega), if_pos (by omega)]
      simp [show k < z.size by omega]
    · by_cases h2 : o + 1 ≤ k ∧ k < o + 1 + r.length
      · rw [if_pos h2, if_pos (by omega), show k - o = (k - (o + 1)) + 1 by omega, List.getElem?_cons_succ]
      · rw [if_neg h2, if_neg (by omega), Array.getElem?_setIfInBounds, if_neg (by omega)]
theorem fold_whole (cs : List Value) (z : Array Value) (h : z.size = cs.length) : List.foldl (fun (a : Array Value) (x : Value × Nat) => a.setIfInBounds x.2 x.1) z cs.zipIdx = cs.toArray := by
  apply Array.ext_getElem?
  intro k
  rw [fold_get cs z 0 k (by omega)]
  by_cases hk : k < cs.length
  · rw [if_pos (by omega)]; simp
  · rw [if_neg (by omega), Array.getElem?_eq_none (by omega), Array.getElem?_eq_none (by simp; omega)]

theorem wpList_copy64 {P : Program} {ops : Array Oper} {rest : List Oper} {o : Oper} {a : Act} {w : World} {Q : Exit → Act → World → Prop} (hgd : o.guard = none) (d s : Operand) (t : TypeId)
    (ho : o.op = .call { callee := .builtin .copy, args := #[d, s], argTypes := #[t, t] }) (el : TypeId) (hu : P.underlying t = some (.slice el)) (hsz : (P.info? el).map (·.size) = some 1)
    (gv : Nat) (e : TypeId) (hd : a.eval d = .slice (some ⟨gv, 0, none⟩) 64 64) (hb : Blk w gv e (Array.replicate 64 (.int .u8 0)))
    (A : Option Addr) (n c : Nat) (bs : List UInt8) (hs : a.eval s = .slice A n c) (hn : n = bs.length) (hl : bs.length ≤ 64) (hr : Rd w A (bs.map bv))
    (h : ∀ w', Blk w' gv e ((pad bs).map bv).toArray → Only (fun k => k = gv) w w' → wpList P ops Q rest (a.put o.dst (.int .i64 (bs.length : Int))) w') : wpList P ops Q (o :: rest) a w := by
  subst hn
  have hmin : Nat.min bs.length 64 = bs.length := Nat.min_eq_left hl
  have hrun : (Builtin.copy_ #[t, t] o.type #[.slice (some ⟨gv, 0, none⟩) 64 64, .slice A bs.length c]).run P w = .ok (goInt bs.length) (w.setCells gv 0 (bs.map bv)) := by
    rcases A with _ | ad
    · have hnil : bs = [] := by
        rcases bs with _ | ⟨b, r⟩
        · rfl
        · obtain ⟨ad, h0, _⟩ := hr 0 _ rfl
          cases h0
      subst hnil
      exact run_copy_none w t t o.type el _ _ _ _ _ _ hu hsz rfl
    · have := run_copy_cells (P := P) w t t o.type el gv 0 64 64 ad bs.length c (bs.map bv) hu hsz (by rw [List.length_map, hmin]) (fun j v hv => by
          obtain ⟨ad', h1, h2⟩ := hr j v hv
          injection h1 with h1
          subst h1
          exact h2) (fun j hj => ((hb.there 0 64 (by simp)) j (by rw [List.length_map] at hj; omega)).1) (fun j hj => ((hb.there 0 64 (by simp)) j (by rw [List.length_map] at hj; omega)).2) (bvs_one _)
      rw [List.length_map] at this
      exact this
  have hblk : Blk (w.setCells gv 0 (bs.map bv)) gv e ((pad bs).map bv).toArray := by
    obtain ⟨cs', h1, h2, h3, h4⟩ := Blk.setCells (bs.map bv) 0 hb (by simp; omega)
    have : cs' = ((pad bs).map bv).toArray := by
      apply Array.ext_getElem?
      intro k
      rcases Nat.lt_or_ge k bs.length with hk | hk
      · have := h3 k (bv bs[k]) (by simp [hk])
        rw [Nat.zero_add] at this
        rw [this]
        rw [List.getElem?_toArray, List.getElem?_map, pad, List.getElem?_append_left hk, List.getElem?_eq_getElem hk]
        rfl
      · rw [h4 k (.inr (by simpa using hk))]
        simp only [List.getElem?_toArray, List.getElem?_map, pad, List.getElem?_append_right hk, Array.getElem?_replicate, List.getElem?_replicate]
        by_cases h64 : k < 64
        · rw [if_pos h64, if_pos (by omega)]; rfl
        · rw [if_neg h64, if_neg (by omega)]; rfl
    rw [← this]
    exact h1
  refine wpList_plain hgd fun K hK => ?_
  unfold Oper.wp execOp
  simp only [ho, resolve, invoke, builtin, Sem.run_bind, Sem.run_pure, Result.andThen_ok, List.map_toArray, List.map_cons, List.map_nil, hd, hs, hrun]
  exact hK _ _ (h _ hblk ((Only.refl (fun k => k = gv) w).setCells (.inl rfl) _ _))

theorem tick_lo {l : Int} (h : -1 ≤ l) : -1 ≤ tick l := by unfold tick; split <;> omega
theorem tick_hi {l : Int} (h : l ≤ 9223372036854775807) : tick l ≤ 9223372036854775807 := by unfold tick; split <;> omega

/-- what a Write leaves behind -/
theorem write_fin {w w3 w4 w6 : World} {fp : Nat → Prop} {g gc : Nat} {S : Sec} {l : Int} {B : Nat → Option Addr} {C : Nat → Nat} (h3 : Lay w3 fp g gc S l B C) (hbel : Below w.heap.size w w3) {i : Nat} (hi : i < S.length) (v : List UInt8) (hv : v.length = 64) (o : Obj) (A' : Option Addr) (m c' : Nat)
    (hm : m = S[i].length) (ho : Only (inA (B i)) (w3.alloc o).drew w4) (hr : RowO w4 113 64 A' m c' (S[i].tail.flatten.map bv ++ v.map bv)) (hA : ∀ k, inA A' k → inA (B i) k ∨ ((w3.alloc o).drew.heap.size ≤ k ∧ k < w4.heap.size))
    (ho6 : Only (fun k => k = g) (w4.setCells gc (i * 65 + 64) [.slice A' m c']) w6) (hb6 : Blk w6 g 75 #[.slice (some ⟨gc, 0, none⟩) S.length S.length, litV (tick l), leftV (tick l)]) :
    Imp w6 (More fp w w6) g (S.set i (S[i] ++ [v])) (tick l) ∧ Only fp w w6 := by
  subst hm
  have hs3 : w3.heap.size ≤ (w3.alloc o).drew.heap.size := by show _ ≤ (w3.alloc o).heap.size; rw [World.size_alloc]; omega
  have ho34 : Only (inA (B i)) w3 w4 := (((Only.refl (inA (B i)) w3).alloc o).drew).trans ho (fun _ _ h => h)
  have hp := h3.push hi v hv A' c' ho34 (by rw [List.map_append]; exact hr) (fun k hk => by
    rcases hA k hk with h1 | h1
    · exact .inl h1
    · exact .inr ⟨by omega, h1.2⟩)
  have hlen : (S.set i (S[i] ++ [v])).length = S.length := by simp
  have hf := hp.fuse (tick l) (tick_lo h3.lo) (tick_hi h3.hi) ho6 (by rw [hlen]; exact hb6)
  have z1 := hbel.size
  have z2 := ho34.size
  have z3 : w4.heap.size ≤ w6.heap.size := by
    have := ho6.size
    have h4 := ((Only.refl (fun k => k = gc) w4).setCells (.inl rfl) [Value.slice A' S[i].length c'] (i * 65 + 64)).size
    omega
  refine ⟨⟨gc, _, _, hf.mono (fun k hk _ => ?_)⟩, ?_⟩
  · rcases hk with hk | hk
    · exact .inl hk
    · exact .inr (by omega)
  · have e1 : Only fp w w3 := Only.of_ext hbel
    have e2 : Only fp w w4 := e1.trans ho34 (fun k _ hk => h3.fB i k hi hk)
    have e3 : Only fp w (w4.setCells gc (i * 65 + 64) [.slice A' S[i].length c']) := e2.setCells (.inl h3.fgc) _ _
    exact e3.trans ho6 (fun k _ hk => by subst hk; exact h3.fg)

set_option maxRecDepth 100000 in
set_option maxHeartbeats 2000000 in
theorem write_any {w : World} {fp : Nat → Prop} {g gc : Nat} {S : Sec} {l : Int} {B : Nat → Option Addr} {C : Nat → Nat} (h : Lay w fp g gc S l B C) (hs : Small 999999 S) (i : Nat) (hi : i < S.length) (A : Option Addr) (n c : Nat) (bs : List UInt8) (hn : n = bs.length) (hl : bs.length ≤ 64) (hr : Rd w A (bs.map bv)) (h0 : l ≠ 0) :
    Calls Tryz.prog 39 #[.pointer (some ⟨g, 0, none⟩), .int .i64 (i : Int), .slice A n c] w fun e w' => e = .returned (.int .i64 0) ∧ Imp w' (More fp w w') g (S.set i (S[i] ++ [pad bs])) (tick l) ∧ Only fp w w' := by
  subst hn
  have hz := zeros_ver
  have hburnt : decide (l = 0) = false := by simpa using h0
  have hhas : decide (0 ≤ (i : Int) ∧ (i : Int) < (S.length : Int)) = true := by simp; omega
  have hle : (bs.length : Int) ≤ 64 := by omega
  have hsz8 : (Tryz.prog.info? 5).map (·.size) = some 1 := by kernel_rfl
  go_enter Tryz.func39, Tryz.ntmps39
  go_wp2_with fail
  refine (burnt_any g _ l w h.dsk h.lo h.hi).mono ?_
  rintro e w2 ⟨rfl, rfl⟩
  rw [hburnt]
  go_wp2_with fail
  refine (has_any h (i : Int)).mono ?_
  rintro e w2 ⟨rfl, rfl⟩
  rw [hhas]
  go_wp2_with (skip
               refine wpList_copy64 rfl (.tmp 23) (.tmp 24) _ rfl _ Tryz.underlying57 hsz8 w.heap.size 113 rfl (Blk.new _ _ _) A _ c bs rfl rfl hl (hr.alloc _) ?_
               intro w3 hb3 ho3)
  have hbel3 : Below w.heap.size w w3 := by
    refine ((Below.refl w.heap.size w).alloc (Nat.le_refl _) _).trans (ho3.below (fun k hk => by omega) ?_)
    rw [World.size_alloc]; omega
  have h3 := h.ext hbel3
  have hc3 := h3.cel i hi
  have hpad := pad_length hl
  have hrow3 : w3.cell? ⟨gc, i * 65 + 64, none⟩ = some (.slice (B i) (S[i].length - 1) (C i)) := hc3.row
  have hgv : w.heap.size ≠ g ∧ w.heap.size ≠ gc := ⟨by have := h.dsk.lt; omega, by have := (h.cel i hi).lt; omega⟩
  go_wp2_with fail
  have hSK : ∀ w' : World, (∀ k, k = g ∨ k = w.heap.size → w'.heap[k]? = w3.heap[k]?) → w'.cell? ⟨g, 0, none⟩ = some (.slice (some ⟨gc, 0, none⟩) S.length S.length) ∧ w'.rangeAt w.heap.size 0 ((pad bs).map bv) := fun w' hw' =>
    ⟨(World.cell?_of_block (a := ⟨g, 0, none⟩) (hw' g (.inl rfl))).trans (h3.dsk.cell 0), fun j u hu => by
      have h5 : Blk w' w.heap.size _ _ := (hw' w.heap.size (.inr rfl)).trans hb3
      rw [h5.cell]; simpa using hu⟩
  have hSK := Lib.hid hSK
  have u68 : Tryz.prog.underlying 113 = some (.array 64 5) := Tryz.underlying113
  have s68 : (Tryz.prog.info? 113).map (·.size) = some ((pad bs).map bv).length := by rw [size_ver]; simp [hpad]
  have hrow3' : (w3.alloc (.cells ((pad bs).map bv).toArray 113)).cell? ⟨gc, i * 65 + 64, none⟩ = some (.slice (B i) (S[i].length - 1) (C i)) := (hc3.alloc _).row
  have hdskf := Lib.hid (show ∀ (w4 : World) (v : Value), (∀ k, k = g ∨ k = w.heap.size → w4.heap[k]? = w3.heap[k]?) → Blk (w4.setCell ⟨gc, i * 65 + 64, none⟩ v) g 75 #[.slice (some ⟨gc, 0, none⟩) S.length S.length, litV l, leftV l] from fun w4 v h4 => Blk.far (show Blk w4 g _ _ from (h4 g (.inl rfl)).trans h3.dsk) h3.ne v)
  have f3 : w3.frozen? ⟨gc, i * 65 + 64, none⟩ = false := (h3.there hi 64 (by omega)).2
  have hfold := fold_whole ((pad bs).map bv) #[Value.int IntKind.u8 0, Value.int IntKind.u8 0, Value.int IntKind.u8 0, Value.int IntKind.u8 0, Value.int IntKind.u8 0, Value.int IntKind.u8 0, Value.int IntKind.u8 0, Value.int IntKind.u8 0, Value.int IntKind.u8 0, Value.int IntKind.u8 0, Value.int IntKind.u8 0, Value.int IntKind.u8 0, Value.int IntKind.u8 0, Value.int IntKind.u8 0, Value.int IntKind.u8 0, Value.int IntKind.u8 0, Value.int IntKind.u8 0, Value.int IntKind.u8 0, Value.int IntKind.u8 0, Value.int IntKind.u8 0, Value.int IntKind.u8 0, Value.int IntKind.u8 0, Value.int IntKind.u8 0, Value.int IntKind.u8 0, Value.int IntKind.u8 0, Value.int IntKind.u8 0, Value.int IntKind.u8 0, Value.int IntKind.u8 0, Value.int IntKind.u8 0, Value.int IntKind.u8 0, Value.int IntKind.u8 0, Value.int IntKind.u8 0, Value.int IntKind.u8 0, Value.int IntKind.u8 0, Value.int IntKind.u8 0, Value.int IntKind.u8 0, Value.int IntKind.u8 0, Value.int IntKind.u8 0, Value.int IntKind.u8 0, Value.int IntKind.u8 0, Value.int IntKind.u8 0, Value.int IntKind.u8 0, Value.int IntKind.u8 0, Value.int IntKind.u8 0, Value.int IntKind.u8 0, Value.int IntKind.u8 0, Value.int IntKind.u8 0, Value.int IntKind.u8 0, Value.int IntKind.u8 0, Value.int IntKind.u8 0, Value.int IntKind.u8 0, Value.int IntKind.u8 0, Value.int IntKind.u8 0, Value.int IntKind.u8 0, Value.int IntKind.u8 0, Value.int IntKind.u8 0, Value.int IntKind.u8 0, Value.int IntKind.u8 0, Value.int IntKind.u8 0, Value.int IntKind.u8 0, Value.int IntKind.u8 0, Value.int IntKind.u8 0, Value.int IntKind.u8 0, Value.int IntKind.u8 0] (by simp [hpad])
  have hal : ∀ k, k = g ∨ k = w.heap.size → (w3.alloc (.cells ((pad bs).map bv).toArray 113)).heap[k]? = w3.heap[k]? := fun k hk => Below.heap_alloc w3 _ k (by
    rcases hk with hk | hk <;> rw [hk]
    · exact h3.dsk.lt
    · exact hb3.lt)
  have hal := Lib.hid hal
  have hone := Lib.hid (bvs_one (pad bs))
  have hfar := h3.far hi
  have hgvB : ¬ inA (B i) w.heap.size := fun hk => by
    have := (h.cel i hi).own.lt hk
    omega
  have hAB := Lib.hid (show ∀ k, k = g ∨ k = w.heap.size → ¬ inA (B i) k from fun k hk => by
    rcases hk with hk | hk <;> rw [hk]
    · exact hfar.2
    · exact hgvB)
  have hlt3 := Lib.hid (show ∀ k, k = g ∨ k = w.heap.size → k < (w3.alloc (.cells ((pad bs).map bv).toArray 113)).heap.size from fun k hk => by
    rw [World.size_alloc]
    rcases hk with hk | hk <;> rw [hk]
    · have := h3.dsk.lt; omega
    · have := hb3.lt; omega)
  have hcB := Lib.hid (show ∀ w4 : World, Only (inA (B i)) (w3.alloc (.cells ((pad bs).map bv).toArray 113)).drew w4 → w4.heap[gc]? = w3.heap[gc]? from fun w4 ho => by
    have hl := hc3.lt
    refine (ho.block gc ?_ hfar.1).trans (Below.heap_alloc w3 _ gc hl)
    show gc < (w3.alloc _).heap.size
    rw [World.size_alloc]; omega)
  have hsm := hs S[i] (List.getElem_mem hi)
  have hlen1 := List.length_pos_iff.2 hc3.ne
  have hm1 : (S[i].length - 1) + 1 ≤ maxLen := by unfold maxLen; omega
  have hm2 : ((S[i].length - 1) + 1) * 64 ≤ 140737488355328 := by omega
  have hstore := Lib.hid (show ∀ (w4 : World) (v : Value), (∀ k, k = g ∨ k = w.heap.size → w4.heap[k]? = w3.heap[k]?) → ∀ k, k = g ∨ k = w.heap.size → (w4.setCell ⟨gc, i * 65 + 64, none⟩ v).heap[k]? = w3.heap[k]? from fun w4 v h4 k hk => by
    refine (Below.heap_setCell w4 ⟨gc, i * 65 + 64, none⟩ v k ?_).trans (h4 k hk)
    rcases hk with hk | hk <;> rw [hk]
    · exact h3.ne
    · exact hgv.2)
  refine wp_region_held_drew (S := fun w' => w'.cell? ⟨g, 0, none⟩ = some (.slice (some ⟨gc, 0, none⟩) S.length S.length) ∧ w'.rangeAt w.heap.size 0 ((pad bs).map bv)) (by kernel_rfl) ?_ (fun hHeld => ?_)
  · exact hSK.out _ (fun k hk => rfl)
  refine wpAnyH_take (i := 0) (v := ?_) (take_list rfl) (by kernel_rfl) (by kernel_rfl) (by kernel_rfl) (fun _ _ _ h => h) (Or.inl ⟨by rfl, ?_⟩) (by assumption) ?_
  rotate_left
  · intro w hSw
    try dsimp only at hSw
    first | (go_simp; done) | (go_simp; with_reducible rfl)
  try simp only [Act.put, List.setIfInBounds_toArray, List.set_cons_zero, List.set_cons_succ]
  refine wpAnyH_take (i := 1) (v := ?_) (take_list rfl) (by kernel_rfl) (by kernel_rfl) (by kernel_rfl) (fun _ _ _ h => h) (Or.inl ⟨by rfl, ?_⟩) (by assumption) ?_
  rotate_left
  · intro w hSw
    try dsimp only at hSw
    first | (go_simp; done) | (go_simp; with_reducible rfl)
  try simp only [Act.put, List.setIfInBounds_toArray, List.set_cons_zero, List.set_cons_succ]
  refine wpAnyH_take (i := 2) (v := ?_) (take_list rfl) (by kernel_rfl) (by kernel_rfl) (by kernel_rfl) (fun _ _ _ h => h) (Or.inl ⟨by rfl, ?_⟩) (by assumption) ?_
  rotate_left
  · intro w hSw
    try dsimp only at hSw
    first | (go_simp; done) | (go_simp; with_reducible rfl)
  try simp only [Act.put, List.setIfInBounds_toArray, List.set_cons_zero, List.set_cons_succ]
  refine wpAnyH_take (i := 3) (v := ?_) (take_list rfl) (by kernel_rfl) (by kernel_rfl) (by kernel_rfl) (fun _ _ _ h => h) (Or.inl ⟨by rfl, ?_⟩) (by assumption) ?_
  rotate_left
  · intro w hSw
    try dsimp only at hSw
    first | (go_simp; done) | (go_simp; with_reducible rfl)
  try simp only [Act.put, List.setIfInBounds_toArray, List.set_cons_zero, List.set_cons_succ]
  refine wpAnyH_take (i := 4) (v := ?_) (take_list rfl) (by kernel_rfl) (by kernel_rfl) (by kernel_rfl) (fun _ _ _ h => h) (Or.inl ⟨by rfl, ?_⟩) (by assumption) ?_
  rotate_left
  · intro w hSw
    try dsimp only at hSw
    first | (go_simp; done) | (go_simp; with_reducible rfl)
  try simp only [Act.put, List.setIfInBounds_toArray, List.set_cons_zero, List.set_cons_succ]
  refine wpAnyH_take (i := 5) (v := ?_) (take_list rfl) (by kernel_rfl) (by kernel_rfl) (by kernel_rfl) (fun _ _ _ h => h) (Or.inl ⟨by rfl, ?_⟩) (by assumption) ?_
  rotate_left
  · intro w hSw
    try dsimp only at hSw
    first | (go_simp; done) | (go_simp; with_reducible rfl)
  try simp only [Act.put, List.setIfInBounds_toArray, List.set_cons_zero, List.set_cons_succ]
  refine wpAnyH_take (i := 6) (v := ?_) (take_list rfl) (by kernel_rfl) (by kernel_rfl) (by kernel_rfl) (fun _ _ _ h => h) (Or.inl ⟨by rfl, ?_⟩) (by assumption) ?_
  rotate_left
  · intro w hSw
    try dsimp only at hSw
    first | (go_simp; done) | (go_simp; with_reducible rfl)
  try simp only [Act.put, List.setIfInBounds_toArray, List.set_cons_zero, List.set_cons_succ]
  refine wpAnyH_take (i := 7) (v := ?_) (take_list rfl) (by kernel_rfl) (by kernel_rfl) (by kernel_rfl) (fun _ _ _ h => h) (Or.inl ⟨by rfl, ?_⟩) (by assumption) ?_
  rotate_left
  · intro w hSw
    try dsimp only at hSw
    first | (go_simp; done) | (go_simp; with_reducible rfl)
  try simp only [Act.put, List.setIfInBounds_toArray, List.set_cons_zero, List.set_cons_succ]
  refine wpAnyH_take (i := 8) (v := ?_) (take_list rfl) (by kernel_rfl) (by kernel_rfl) (by kernel_rfl) (fun _ _ _ h => h) (Or.inl ⟨by rfl, ?_⟩) (by assumption) ?_
  rotate_left
  · intro w hSw
    try dsimp only at hSw
    first | (go_simp; done) | (go_simp; with_reducible rfl)
  try simp only [Act.put, List.setIfInBounds_toArray, List.set_cons_zero, List.set_cons_succ]
  refine wpAnyH_take (i := 9) (v := ?_) (take_list rfl) (by kernel_rfl) (by kernel_rfl) (by kernel_rfl) (fun _ _ _ h => h) (Or.inl ⟨by rfl, ?_⟩) (by assumption) ?_
  rotate_left
  · intro w hSw
    try dsimp only at hSw
    first | (go_simp; done) | (go_simp; with_reducible rfl)
  try simp only [Act.put, List.setIfInBounds_toArray, List.set_cons_zero, List.set_cons_succ]
  refine wpAnyH_take (i := 10) (v := ?_) (take_list rfl) (by kernel_rfl) (by kernel_rfl) (by kernel_rfl) (fun _ _ _ h => h) (Or.inl ⟨by rfl, ?_⟩) (by assumption) ?_
  rotate_left
  · intro w hSw
    try dsimp only at hSw
    first | (go_simp; done) | (go_simp; with_reducible rfl)
  try simp only [Act.put, List.setIfInBounds_toArray, List.set_cons_zero, List.set_cons_succ]
  refine wpAnyH_take (i := 11) (v := ?_) (take_list rfl) (by kernel_rfl) (by kernel_rfl) (by kernel_rfl) (fun _ _ _ h => h) (Or.inl ⟨by rfl, ?_⟩) (by assumption) ?_
  rotate_left
  · intro w hSw
    try dsimp only at hSw
    first | (go_simp; done) | (go_simp; with_reducible rfl)
  try simp only [Act.put, List.setIfInBounds_toArray, List.set_cons_zero, List.set_cons_succ]
  refine' wpAnyH_take (i := 13) (v := _) (take_list rfl) (by kernel_rfl) (by kernel_rfl) (by kernel_rfl) (fun _ _ _ h => h) (yieldsIf_load_mid (by rfl) _ _ rfl _ _ rfl _ _ ?hS13 ?hu13 ?hd13 ?hi13) (by assumption) ?rest13
  case hS13 => intro w hSw; (try dsimp only at hSw); go_split_ands; assumption
  case hu13 => assumption
  case hd13 => rfl
  case hi13 => assumption
  try simp only [Act.put, List.setIfInBounds_toArray, List.set_cons_zero, List.set_cons_succ]
  refine wpAnyH_ready (rs := [12, 14]) (by kernel_rfl) (by simp) ?_
  refine AllReadyH.cons (take_list rfl) (fun K hK => ?_) ?_
  · skip
    go_simp
    refine hK.out _ _ ?_ (fun hHeld => ?_)
    · try dsimp only
      exact hSK.out _ (fun k hk => rfl)
    clear hK K
    refine wpAnyH_ready (rs := [14]) (by kernel_rfl) (by simp) ?_
    refine AllReadyH.cons (take_list rfl) (fun K hK => ?_) ?_
    · skip
      go_simp
      refine hK.out _ _ ?_ (fun hHeld => ?_)
      · try dsimp only
        exact hSK.out _ (fun k hk => hal.out k hk)
      clear hK K
      refine wpAnyH_ready (rs := [15]) (by kernel_rfl) (by simp) ?_
      refine AllReadyH.cons (take_list rfl) (fun K hK => ?_) ?_
      · skip
        refine step_appO _ rfl (.tmp 38) (.tmp 40) _ rfl _ _ 64 64 Tryz.underlying114 info_ver rfl (B i) _ (C i) _ rfl ((hc3.own.alloc _).drew) (some ⟨w3.heap.size, 0, none⟩) 1 1 ((pad bs).map bv) rfl ?_ ?_ hone.out ?_ hm1 hm2 ?_
        · rw [List.length_map, hpad]
        · exact (Rd.lit w3 ((pad bs).map bv).toArray _).drew
        · intro h; cases h
        intro A4 c4 w4 hrow4 ho4 hA4
        have q4 : ∀ k, k = g ∨ k = w.heap.size → w4.heap[k]? = w3.heap[k]? := fun k hk => (ho4.block k (hlt3.out k hk) (hAB.out k hk)).trans (hal.out k hk)
        have p4 : w4.cell? ⟨gc, i * 65 + 64, none⟩ = some (.slice (B i) (S[i].length - 1) (C i)) := (World.cell?_of_block (hcB.out w4 ho4)).trans hrow3
        have p5 : w4.frozen? ⟨gc, i * 65 + 64, none⟩ = false := (World.frozen?_of_block (hcB.out w4 ho4)).trans f3
        refine hK.out _ _ ?_ (fun hHeld => ?_)
        · try dsimp only
          exact hSK.out _ (fun k hk => q4 k hk)
        clear hK K
        refine wpAnyH_take (i := 16) (v := ?_) (take_list rfl) (by kernel_rfl) (by kernel_rfl) (by kernel_rfl) (fun _ _ _ h => h) (Or.inl ⟨by rfl, ?_⟩) (by assumption) ?_
        rotate_left
        · intro w hSw
          try dsimp only at hSw
          first | (go_simp; done) | (go_simp; with_reducible rfl)
        try simp only [Act.put, List.setIfInBounds_toArray, List.set_cons_zero, List.set_cons_succ]
        refine wpAnyH_take (i := 17) (v := ?_) (take_list rfl) (by kernel_rfl) (by kernel_rfl) (by kernel_rfl) (fun _ _ _ h => h) (Or.inl ⟨by rfl, ?_⟩) (by assumption) ?_
        rotate_left
        · intro w hSw
          try dsimp only at hSw
          first | (go_simp; done) | (go_simp; with_reducible rfl)
        try simp only [Act.put, List.setIfInBounds_toArray, List.set_cons_zero, List.set_cons_succ]
        refine wpAnyH_ready (rs := [18]) (by kernel_rfl) (by simp) ?_
        refine AllReadyH.cons (take_list rfl) (fun K hK => ?_) ?_
        · skip
          go_simp
          refine hK.out _ _ ?_ (fun hHeld => ?_)
          · try dsimp only
            exact hSK.out _ (fun k hk => hstore.out _ _ q4 k hk)
          clear hK K
          refine wpAnyH_done (by kernel_rfl) ?_ _
          go_wp2_with fail
          refine (count_any g _ l _ (hdskf.out _ _ q4) h.lo h.hi h0).mono ?_
          rintro e w6 ⟨rfl, ho6, hb6⟩
          go_wp2
          go_ret
          exact ⟨rfl, write_fin h3 hbel3 hi (pad bs) hpad _ A4 _ c4 (by omega) ho4 hrow4 hA4 ho6 hb6⟩
        exact AllReadyH.nil
      exact AllReadyH.nil
    exact AllReadyH.nil
  refine AllReadyH.cons (take_list rfl) (fun K hK => ?_) ?_
  · skip
    go_simp
    refine hK.out _ _ ?_ (fun hHeld => ?_)
    · try dsimp only
      exact hSK.out _ (fun k hk => hal.out k hk)
    clear hK K
    refine wpAnyH_ready (rs := [12]) (by kernel_rfl) (by simp) ?_
    refine AllReadyH.cons (take_list rfl) (fun K hK => ?_) ?_
    · skip
      go_simp
      refine hK.out _ _ ?_ (fun hHeld => ?_)
      · try dsimp only
        exact hSK.out _ (fun k hk => hal.out k hk)
      clear hK K
      refine wpAnyH_ready (rs := [15]) (by kernel_rfl) (by simp) ?_
      refine AllReadyH.cons (take_list rfl) (fun K hK => ?_) ?_
      · skip
        refine step_appO _ rfl (.tmp 38) (.tmp 40) _ rfl _ _ 64 64 Tryz.underlying114 info_ver rfl (B i) _ (C i) _ rfl ((hc3.own.alloc _).drew) (some ⟨w3.heap.size, 0, none⟩) 1 1 ((pad bs).map bv) rfl ?_ ?_ hone.out ?_ hm1 hm2 ?_
        · rw [List.length_map, hpad]
        · exact (Rd.lit w3 ((pad bs).map bv).toArray _).drew
        · intro h; cases h
        intro A4 c4 w4 hrow4 ho4 hA4
        have q4 : ∀ k, k = g ∨ k = w.heap.size → w4.heap[k]? = w3.heap[k]? := fun k hk => (ho4.block k (hlt3.out k hk) (hAB.out k hk)).trans (hal.out k hk)
        have p4 : w4.cell? ⟨gc, i * 65 + 64, none⟩ = some (.slice (B i) (S[i].length - 1) (C i)) := (World.cell?_of_block (hcB.out w4 ho4)).trans hrow3
        have p5 : w4.frozen? ⟨gc, i * 65 + 64, none⟩ = false := (World.frozen?_of_block (hcB.out w4 ho4)).trans f3
        refine hK.out _ _ ?_ (fun hHeld => ?_)
        · try dsimp only
          exact hSK.out _ (fun k hk => q4 k hk)
        clear hK K
        refine wpAnyH_take (i := 16) (v := ?_) (take_list rfl) (by kernel_rfl) (by kernel_rfl) (by kernel_rfl) (fun _ _ _ h => h) (Or.inl ⟨by rfl, ?_⟩) (by assumption) ?_
        rotate_left
        · intro w hSw
          try dsimp only at hSw
          first | (go_simp; done) | (go_simp; with_reducible rfl)
        try simp only [Act.put, List.setIfInBounds_toArray, List.set_cons_zero, List.set_cons_succ]
        refine wpAnyH_take (i := 17) (v := ?_) (take_list rfl) (by kernel_rfl) (by kernel_rfl) (by kernel_rfl) (fun _ _ _ h => h) (Or.inl ⟨by rfl, ?_⟩) (by assumption) ?_
        rotate_left
        · intro w hSw
          try dsimp only at hSw
          first | (go_simp; done) | (go_simp; with_reducible rfl)
        try simp only [Act.put, List.setIfInBounds_toArray, List.set_cons_zero, List.set_cons_succ]
        refine wpAnyH_ready (rs := [18]) (by kernel_rfl) (by simp) ?_
        refine AllReadyH.cons (take_list rfl) (fun K hK => ?_) ?_
        · skip
          go_simp
          refine hK.out _ _ ?_ (fun hHeld => ?_)
          · try dsimp only
            exact hSK.out _ (fun k hk => hstore.out _ _ q4 k hk)
          clear hK K
          refine wpAnyH_done (by kernel_rfl) ?_ _
          go_wp2_with fail
          refine (count_any g _ l _ (hdskf.out _ _ q4) h.lo h.hi h0).mono ?_
          rintro e w6 ⟨rfl, ho6, hb6⟩
          go_wp2
          go_ret
          exact ⟨rfl, write_fin h3 hbel3 hi (pad bs) hpad _ A4 _ c4 (by omega) ho4 hrow4 hA4 ho6 hb6⟩
        exact AllReadyH.nil
      exact AllReadyH.nil
    exact AllReadyH.nil
  exact AllReadyH.nil

theorem write_dead {w : World} {fp : Nat → Prop} {g gc : Nat} {S : Sec} {l : Int} {B : Nat → Option Addr} {C : Nat → Nat} (h : Lay w fp g gc S l B C) (i : Int) (A : Option Addr) (n c : Nat) (h0 : l = 0) :
    Calls Tryz.prog 39 #[.pointer (some ⟨g, 0, none⟩), .int .i64 i, .slice A n c] w fun e w' => e = .returned (.int .i64 6) ∧ w = w' := by
  have hburnt : decide (l = 0) = true := by simpa using h0
  go_enter Tryz.func39, Tryz.ntmps39
  go_wp2_with fail
  refine (burnt_any g _ l w h.dsk h.lo h.hi).mono ?_
  rintro e w2 ⟨rfl, rfl⟩
  rw [hburnt]
  go_wp2
  go_ret
  exact ⟨rfl, rfl⟩
theorem write_bad {w : World} {fp : Nat → Prop} {g gc : Nat} {S : Sec} {l : Int} {B : Nat → Option Addr} {C : Nat → Nat} (h : Lay w fp g gc S l B C) (i : Int) (A : Option Addr) (n c : Nat) (h0 : l ≠ 0) (hbad : ¬ (0 ≤ i ∧ i < (S.length : Int)) ∨ 64 < n) :
    Calls Tryz.prog 39 #[.pointer (some ⟨g, 0, none⟩), .int .i64 i, .slice A n c] w fun e w' => e = .returned (.int .i64 1) ∧ w = w' := by
  have hburnt : decide (l = 0) = false := by simpa using h0
  by_cases hh : 0 ≤ i ∧ i < (S.length : Int)
  · have hhas : decide (0 ≤ i ∧ i < (S.length : Int)) = true := decide_eq_true hh
    have hn : (64 : Int) < (n : Int) := by
      rcases hbad with h1 | h1
      · exact absurd hh h1
      · omega
    go_enter Tryz.func39, Tryz.ntmps39
    go_wp2_with fail
    refine (burnt_any g _ l w h.dsk h.lo h.hi).mono ?_
    rintro e w2 ⟨rfl, rfl⟩
    rw [hburnt]
    go_wp2_with fail
    refine (has_any h i).mono ?_
    rintro e w2 ⟨rfl, rfl⟩
    rw [hhas]
    go_wp2
    go_ret
    exact ⟨rfl, rfl⟩
  · have hhas : decide (0 ≤ i ∧ i < (S.length : Int)) = false := decide_eq_false hh
    clear hbad
    go_enter Tryz.func39, Tryz.ntmps39
    go_wp2_with fail
    refine (burnt_any g _ l w h.dsk h.lo h.hi).mono ?_
    rintro e w2 ⟨rfl, rfl⟩
    rw [hburnt]
    go_wp2_with fail
    refine (has_any h i).mono ?_
    rintro e w2 ⟨rfl, rfl⟩
    rw [hhas]
    go_wp2
    go_ret
    exact ⟨rfl, rfl⟩

theorem Imp.more {w w' : World} {fp : Nat → Prop} {g : Nat} {S : Sec} {l : Int} (h : Imp w' fp g S l) : Imp w' (More fp w w') g S l := h.mono fun _ hk _ => .inl hk
theorem writeS_ok {S : Sec} {l : Int} {i : Nat} {bs : List UInt8} (hi : i < S.length) (hl : bs.length ≤ 64) (h0 : l ≠ 0) : writeCode S.length l (i : Int) bs = 0 ∧ writeS S l (i : Int) bs = S.set i (S[i] ++ [pad bs]) := by
  have h1 : writeCode S.length l (i : Int) bs = 0 := by unfold writeCode; rw [if_neg h0, if_neg (by omega)]
  refine ⟨h1, ?_⟩
  unfold writeS
  rw [if_pos h1, Int.toNat_natCast, List.getD_eq_getElem?_getD, List.getElem?_eq_getElem hi]
  rfl
def writeL (n : Nat) (l i : Int) (bs : List UInt8) : Int := if writeCode n l i bs = 0 then tick l else l

/-- Write, whatever comes in -/
theorem write_all {w : World} {fp : Nat → Prop} {g : Nat} {S : Sec} {l : Int} (h : Imp w fp g S l) (hs : Small 999999 S) (i : Int) (A : Option Addr) (n c : Nat) (bs : List UInt8) (hn : n = bs.length) (hr : Rd w A (bs.map bv)) :
    Calls Tryz.prog 39 #[.pointer (some ⟨g, 0, none⟩), .int .i64 i, .slice A n c] w fun e w' => e = .returned (.int .i64 (writeCode S.length l i bs)) ∧ Imp w' (More fp w w') g (writeS S l i bs) (writeL S.length l i bs) ∧ Only fp w w' := by
  obtain ⟨gc, B, C, h⟩ := h
  by_cases h0 : l = 0
  · refine (write_dead h i A n c h0).mono ?_
    rintro e w' ⟨rfl, rfl⟩
    have e1 : writeCode S.length l i bs = 6 := by unfold writeCode; rw [if_pos h0]
    unfold writeS writeL
    rw [e1]
    exact ⟨rfl, Imp.more ⟨gc, B, C, h⟩, Only.refl _ _⟩
  · by_cases hbad : ¬ (0 ≤ i ∧ i < (S.length : Int)) ∨ 64 < n
    · refine (write_bad h i A n c h0 hbad).mono ?_
      rintro e w' ⟨rfl, rfl⟩
      have e1 : writeCode S.length l i bs = 1 := by unfold writeCode; rw [if_neg h0, if_pos (by omega)]
      unfold writeS writeL
      rw [e1]
      exact ⟨rfl, Imp.more ⟨gc, B, C, h⟩, Only.refl _ _⟩
    · obtain ⟨k, rfl⟩ : ∃ k : Nat, i = (k : Int) := ⟨i.toNat, by omega⟩
      have hk : k < S.length := by omega
      obtain ⟨e1, e2⟩ := writeS_ok (S := S) (l := l) (bs := bs) hk (by omega) h0
      refine (write_any h hs k hk A n c bs hn (by omega) hr h0).mono ?_
      rintro e w' ⟨rfl, h1, h2⟩
      unfold writeL
      rw [e1, e2]
      exact ⟨rfl, h1, h2⟩
end Go.Proofs.YtdpmfcifgimleaaGreatDoor

/-
  The contracts of sector's Flush and Crash. No statement of the seat is proved here.
-/
namespace Go.Proofs.YtdpmfcifgimleaaGreatDoor
open Go Go.RowKit

theorem small_stage {S : Sec} {N : Nat} (h : Small N S) (h1 : 1 ≤ N) (F : Nat → List UInt8) (k : Nat) : Small N (stage S F k) := fun vs hvs => by
  obtain ⟨i, hi, rfl⟩ := List.mem_iff_getElem.1 hvs
  have hi' : i < S.length := by simpa [stage_length] using hi
  rw [stage_get S F k i hi' hi]
  split
  · simpa using h1
  · exact h _ (List.getElem_mem hi')

/-- a sector settles, in a loop -/
theorem settle_step {w wr w2 : World} {fp : Nat → Prop} {g gc : Nat} {T : Sec} {l : Int} {B : Nat → Option Addr} {C : Nat → Nat} (hL : Lay wr (More fp w wr) g gc T l B C) (ho : Only fp w wr) (hgc : fp gc) (hb2 : Below wr.heap.size wr w2)
    {i : Nat} (hi : i < T.length) (v : List UInt8) (hv : v.length = 64) {A : Option Addr} {m c : Nat} {xs : List Value} (hrow : RowO wr 3 1 A m c xs) :
    (∃ B' C', Lay ((w2.alloc (.cells (v.map bv).toArray 113)).setCells gc (i * 65) (oneCells v)) (More fp w ((w2.alloc (.cells (v.map bv).toArray 113)).setCells gc (i * 65) (oneCells v))) g gc (T.set i [v]) l B' C') ∧
    Only fp w ((w2.alloc (.cells (v.map bv).toArray 113)).setCells gc (i * 65) (oneCells v)) ∧
    RowO ((w2.alloc (.cells (v.map bv).toArray 113)).setCells gc (i * 65) (oneCells v)) 3 1 A m c xs := by
  have hb3 : Below wr.heap.size wr (w2.alloc (.cells (v.map bv).toArray 113)) := hb2.alloc hb2.size _
  generalize w2.alloc (.cells (v.map bv).toArray 113) = w3 at hb3
  have ho3 : Only (fun k => k = gc) w3 (w3.setCells gc (i * 65) (oneCells v)) := (Only.refl (fun k => k = gc) w3).setCells (.inl rfl) _ _
  have h3 := hL.ext hb3
  have z1 := hb3.size
  have z2 := ho3.size
  have z0 := ho.size
  have ho' : Only fp w w3 := ho.trans (Only.of_ext (S := fun _ => False) hb3) (fun _ _ h => h.elim)
  refine ⟨⟨_, _, (h3.settle hi v hv).mono (fun k hk _ => ?_)⟩, ho'.setCells (.inl hgc) _ _, (hrow.ext hb3).only ho3 (fun k hk e => ?_)⟩
  · rcases hk with hk | hk
    · exact .inl hk
    · exact .inr (by omega)
  · subst e
    obtain ⟨cs, hb, _⟩ := h3.row
    exact (hrow.ext hb3).ne_blk hb (by decide) hk

theorem getLast_lastOf {vs : List (List UInt8)} (h : vs ≠ []) : vs.getLast? = some (lastOf vs) := by
  unfold lastOf
  rw [List.getLastD_eq_getLast?]
  have := List.length_pos_iff.2 h
  rw [List.getLast?_eq_getElem?, List.getElem?_eq_getElem (by omega)]; rfl

set_option maxRecDepth 100000 in
set_option maxHeartbeats 2000000 in
theorem flush_any {w : World} {fp : Nat → Prop} {g gc : Nat} {S : Sec} {l : Int} {B : Nat → Option Addr} {C : Nat → Nat} (h : Lay w fp g gc S l B C) (hs : Small 1000000 S) (h0 : l ≠ 0) :
    Calls Tryz.prog 104 #[.pointer (some ⟨g, 0, none⟩)] w fun e w' => e = .returned (.int .i64 0) ∧ Imp w' (More fp w w') g (flushS S) (tick l) ∧ Only fp w w' := by
  have hburnt : decide (l = 0) = false := by simpa using h0
  have hwf := h.wf
  obtain ⟨F, hF⟩ : ∃ F : Nat → List UInt8, F = fun i => lastOf (S.getD i []) := ⟨_, rfl⟩
  have hall := flush_stage S (fun vs hvs => (hwf vs hvs).1)
  rw [← hF] at hall
  obtain ⟨W, hW⟩ : ∃ W, W = waiting S := ⟨_, rfl⟩
  have hWat := Lib.hid (show ∀ k i, W[k]? = some i → i < S.length ∧ (waiting S)[k]? = some i from fun k i h => by rw [hW] at h; exact ⟨(wl_at _ _ _ _ h).1, h⟩)
  have hsm := fun k => small_stage hs (by omega) F k
  rw [← hW] at hall
  replace hall := Lib.hid hall
  replace hF := Lib.hid hF
  have hWlen : W.length ≤ 4096 := by rw [hW]; exact Nat.le_trans (rk_le _ _) h.n
  go_enter Tryz.func104, Tryz.ntmps104
  go_wp2_with fail
  refine (burnt_any g _ l w h.dsk h.lo h.hi).mono ?_
  rintro e w2 ⟨rfl, rfl⟩
  rw [hburnt]
  go_wp2_with fail
  refine (waiting_any h hs).mono ?_
  rintro e w2 ⟨A, c, rfl, hrow, hbel, hnew⟩
  rw [← hW] at hrow ⊢
  replace hW := Lib.hid hW
  have hL2 : Lay w2 (More fp w w2) g gc (stage S F 0) l B C := by
    rw [stage_zero]
    exact (h.ext hbel).mono (fun k hk _ => .inl hk)
  go_wp2
  go_loopw [4, 14] (fun _ i w1 => ∃ (k : Nat) (B1 : Nat → Option Addr) (C1 : Nat → Nat), k ≤ W.length ∧ i = .int .i64 (k : Int) ∧ Lay w1 (More fp w w1) g gc (stage S F k) l B1 C1 ∧ Only fp w w1 ∧ RowO w1 3 1 A W.length c (W.map iv')) (fun _ i _ => W.length - (intOf i).toNat)
  case atStart => exact ⟨0, B, C, Nat.zero_le _, rfl, hL2, Only.of_ext hbel, hrow⟩
  case round =>
    obtain ⟨k, B1, C1, hk, rfl, hL, honly, hrow1⟩ := hrel
    clear hL2 hrow
    by_cases hlt : k < W.length
    · obtain ⟨i, hi⟩ : ∃ i, W[k]? = some i := ⟨_, List.getElem?_eq_getElem hlt⟩
      obtain ⟨hiS, hiW⟩ := hWat.out k i hi
      have hiT : i < (stage S F k).length := by rw [stage_length]; exact hiS
      obtain ⟨ad, rfl, hcell⟩ := hrow1.rd k (.int .i64 (i : Int)) (by rw [List.getElem?_map, hi]; rfl)
      have hat := stage_at S F hiW hiS hiT
      have hFi : lastOf (stage S F k)[i] = F i := by
        rw [hat, hF.out]
        show _ = lastOf (S.getD i [])
        rw [List.getD_eq_getElem?_getD, List.getElem?_eq_getElem hiS]; rfl
      have hcel := hL.cel i hiT
      have hlast := getLast_lastOf hcel.ne
      rw [hFi] at hlast
      have hFlen : (F i).length = 64 := by rw [← hFi]; exact hcel.len _ (lastOf_mem hcel.ne)
      have hsuc := Lib.hid (stage_succ S F hiW)
      have hs1 := hsm k _ (List.getElem_mem hiT)
      have hlenT : (stage S F k).length = S.length := stage_length S F k
      have hdsk0 : wr.cell? ⟨g, 0, none⟩ = some (.slice (some ⟨gc, 0, none⟩) S.length S.length) := by
        have := hL.dsk.cell 0
        rw [hlenT] at this
        exact this
      have hii : (i : Int) < (S.length : Int) := by omega
      have hki : (k : Int) < (W.length : Int) := by omega
      have hdrew := hcel.drew
      clear hat hFi hlenT
      have hth := fun w2 hb2 => (hL.ext (w' := w2) hb2).there hiT
      have hcw := hL.dsk
      have hkeep := Lib.hid (show ∀ w' : World, Below wr.heap.size wr w' → w'.cell? ⟨g, 0, none⟩ = some (.slice (some ⟨gc, 0, none⟩) S.length S.length) from fun w' hb => (World.cell?_of_block (a := ⟨g, 0, none⟩) (hb.block g hcw.lt)).trans hdsk0)
      have hset := Lib.hid (fun w2 hb2 => settle_step hL honly h.fgc (w2 := w2) hb2 hiT (F i) hFlen hrow1)
      have hne := h.ne
      have hset2 := Lib.hid (show ∀ w2 : World, Below wr.heap.size wr w2 → ((w2.alloc (.cells ((F i).map bv).toArray 113)).setCells gc (i * 65) (oneCells (F i))).cell? ⟨g, 0, none⟩ = some (.slice (some ⟨gc, 0, none⟩) S.length S.length) from fun w2 hb2 => by
        rw [World.cell?_setCells_out gc _ _ _ ⟨g, 0, none⟩ (fun e _ => absurd e hne)]
        exact hkeep.out _ (hb2.alloc hb2.size _))
      go_wp2_with fail
      go_region_held_law (fun w' => w'.cell? ⟨g, 0, none⟩ = some (.slice (some ⟨gc, 0, none⟩) S.length S.length))
        (first | exact hdsk0 | exact hkeep.out _ hb2 | exact hset2.out _ hb2)
        (first
          | (go_at_call 79; refine (now_any gc (i * 65) _ _ _ _ hdrew (F i) hlast hs1).mono ?_; rintro e w2 ⟨rfl, hb2'⟩; have hb2 : Below wr.heap.size wr w2 := ⟨hb2'.os, hb2'.tape, hb2'.output, hb2'.size, hb2'.block⟩)
          | (go_at_call 57; refine (settle_any gc (i * 65) (F i) w2 hFlen (hth w2 hb2) (Nat.lt_of_lt_of_le hcel.lt hb2.size)).mono ?_; rintro e w3 ⟨rfl, rfl⟩))
      obtain ⟨⟨B2, C2, hL2⟩, honly2, hrow2⟩ := hset.out _ hb2
      rw [← hsuc.out] at hL2
      go_wp2
      go_roundw
      case rel => exact ⟨k + 1, B2, C2, by omega, by go_num, hL2, honly2, hrow2⟩
      case measure => simp [intOf]; omega
    · obtain rfl : k = W.length := by omega
      go_wp2_with fail
      refine (count_any g _ l _ (by have := hL.dsk; exact this) h.lo h.hi h0).mono ?_
      rintro e w6 ⟨rfl, ho6, hb6⟩
      go_wp2
      go_ret
      have hf := hL.fuse (tick l) (tick_lo h.lo) (tick_hi h.hi) ho6 hb6
      rw [hall.out] at hf
      have z1 := ho6.size
      refine ⟨rfl, ⟨gc, B1, C1, hf.mono (fun k hk _ => ?_)⟩, honly.trans ho6 (fun k _ hk => by subst hk; exact h.fg)⟩
      rcases hk with hk | hk
      · exact .inl hk
      · exact .inr (by omega)

theorem flush_dead {w : World} {fp : Nat → Prop} {g gc : Nat} {S : Sec} {l : Int} {B : Nat → Option Addr} {C : Nat → Nat} (h : Lay w fp g gc S l B C) (h0 : l = 0) :
    Calls Tryz.prog 104 #[.pointer (some ⟨g, 0, none⟩)] w fun e w' => e = .returned (.int .i64 6) ∧ w = w' := by
  have hburnt : decide (l = 0) = true := by simpa using h0
  go_enter Tryz.func104, Tryz.ntmps104
  go_wp2_with fail
  refine (burnt_any g _ l w h.dsk h.lo h.hi).mono ?_
  rintro e w2 ⟨rfl, rfl⟩
  rw [hburnt]
  go_wp2
  go_ret
  exact ⟨rfl, rfl⟩
def flushCode (l : Int) : Int := if l = 0 then 6 else 0
theorem flush_all {w : World} {fp : Nat → Prop} {g : Nat} {S : Sec} {l : Int} (h : Imp w fp g S l) (hs : Small 1000000 S) :
    Calls Tryz.prog 104 #[.pointer (some ⟨g, 0, none⟩)] w fun e w' => e = .returned (.int .i64 (flushCode l)) ∧ Imp w' (More fp w w') g (if l = 0 then S else flushS S) (tick l) ∧ Only fp w w' := by
  obtain ⟨gc, B, C, h⟩ := h
  by_cases h0 : l = 0
  · refine (flush_dead h h0).mono ?_
    rintro e w' ⟨rfl, rfl⟩
    have e1 : tick l = l := by unfold tick; rw [if_neg (by omega)]
    unfold flushCode
    rw [if_pos h0, if_pos h0, e1]
    exact ⟨rfl, Imp.more ⟨gc, B, C, h⟩, Only.refl _ _⟩
  · refine (flush_any h hs h0).mono ?_
    unfold flushCode
    rw [if_neg h0, if_neg h0]
    exact fun e w' h => h

/-! ### Crash -/
def pickNat (ps : List Int) (k : Nat) : Nat := (max (ps.getD k 0) 0).toNat

set_option maxRecDepth 100000 in
set_option maxHeartbeats 2000000 in
theorem crash_any {w : World} {fp : Nat → Prop} {g gc : Nat} {S : Sec} {l : Int} {B : Nat → Option Addr} {C : Nat → Nat} (h : Lay w fp g gc S l B C) (hs : Small 1000000 S) (P : Option Addr) (n cp : Nat) (ps : List Int) (hn : n = ps.length) (hp : RdF fp w P (ps.map iv)) (hpi : ∀ x ∈ ps, isInt x) :
    Calls Tryz.prog 21 #[.pointer (some ⟨g, 0, none⟩), .slice P n cp] w fun e w' => e = .returned (.tuple #[]) ∧ Imp w' (More fp w w') g (crashS S ps) (-1) ∧ Only fp w w' := by
  subst hn
  have hwf := h.wf
  obtain ⟨F, hF⟩ : ∃ F : Nat → List UInt8, F = crashAt S ps := ⟨_, rfl⟩
  have hall := crash_stage S ps
  rw [← hF] at hall
  obtain ⟨W, hW⟩ : ∃ W, W = waiting S := ⟨_, rfl⟩
  have hWat := Lib.hid (show ∀ k i, W[k]? = some i → i < S.length ∧ (waiting S)[k]? = some i ∧ rk (pw S) i = k from fun k i h => by rw [hW] at h; exact ⟨(wl_at _ _ _ _ h).1, h, (wl_at _ _ _ _ h).2.2⟩)
  have hsm := fun k => small_stage hs (by omega) F k
  rw [← hW] at hall
  replace hall := Lib.hid hall
  replace hF := Lib.hid hF
  have hWlen : W.length ≤ 4096 := by rw [hW]; exact Nat.le_trans (rk_le _ _) h.n
  have hpi := Lib.hid hpi
  go_enter Tryz.func21, Tryz.ntmps21
  go_wp2_with fail
  refine (waiting_any h hs).mono ?_
  rintro e w2 ⟨A, c, rfl, hrow, hbel, hnew⟩
  rw [← hW] at hrow ⊢
  replace hW := Lib.hid hW
  have hL2 : Lay w2 (More fp w w2) g gc (stage S F 0) l B C := by
    rw [stage_zero]
    exact (h.ext hbel).mono (fun k hk _ => .inl hk)
  go_wp2
  go_loopw [4, 5, 6, 7, 13] (fun _ _ _ _ i w1 => ∃ (k : Nat) (B1 : Nat → Option Addr) (C1 : Nat → Nat), k ≤ W.length ∧ i = .int .i64 (k : Int) ∧ Lay w1 (More fp w w1) g gc (stage S F k) l B1 C1 ∧ Only fp w w1 ∧ RowO w1 3 1 A W.length c (W.map iv')) (fun _ _ _ _ i _ => W.length - (intOf i).toNat)
  case atStart => exact ⟨0, B, C, Nat.zero_le _, rfl, hL2, Only.of_ext hbel, hrow⟩
  case round =>
    obtain ⟨k, B1, C1, hk, rfl, hL, honly, hrow1⟩ := hrel
    clear hL2 hrow
    by_cases hlt : k < W.length
    · obtain ⟨i, hi⟩ : ∃ i, W[k]? = some i := ⟨_, List.getElem?_eq_getElem hlt⟩
      obtain ⟨hiS, hiW, hrk⟩ := hWat.out k i hi
      have hiT : i < (stage S F k).length := by rw [stage_length]; exact hiS
      obtain ⟨ad, rfl, hcell⟩ := hrow1.rd k (.int .i64 (i : Int)) (by rw [List.getElem?_map, hi]; rfl)
      have hat := stage_at S F hiW hiS hiT
      have hcel := hL.cel i hiT
      have hpos := List.length_pos_iff.2 hcel.ne
      have hq : pickNat ps k % (stage S F k)[i].length < (stage S F k)[i].length := Nat.mod_lt _ hpos
      have hFi : (stage S F k)[i][pickNat ps k % (stage S F k)[i].length] = F i := by
        have hSd : S.getD i [] = (stage S F k)[i] := by rw [List.getD_eq_getElem?_getD, List.getElem?_eq_getElem hiS, hat]; rfl
        have h5 : F i = List.getD (stage S F k)[i] (pickNat ps k % (stage S F k)[i].length) [] := by
          refine (congrFun hF.out i).trans ?_
          unfold crashAt pickOf
          rw [hSd, hrk]; rfl
        refine Eq.trans ?_ h5.symm
        rw [List.getD_eq_getElem?_getD, List.getElem?_eq_getElem hq]
        rfl
      have hFlen : (F i).length = 64 := by rw [← hFi]; exact hcel.len _ (List.getElem_mem _)
      have hsuc := Lib.hid (stage_succ S F hiW)
      have hs1 := hsm k _ (List.getElem_mem hiT)
      have hlenT : (stage S F k).length = S.length := stage_length S F k
      have hdsk0 : wr.cell? ⟨g, 0, none⟩ = some (.slice (some ⟨gc, 0, none⟩) S.length S.length) := by
        have := hL.dsk.cell 0
        rw [hlenT] at this
        exact this
      have hrow64 := hcel.row
      have hii : (i : Int) < (S.length : Int) := by omega
      have hki : (k : Int) < (W.length : Int) := by omega
      have hth := fun w2 hb2 => (hL.ext (w' := w2) hb2).there hiT
      have hset := Lib.hid (fun w2 hb2 => settle_step hL honly h.fgc (w2 := w2) hb2 hiT (F i) hFlen hrow1)
      have hatc := at_any gc (i * 65) _ _ _ _ wr hcel hq hs1
      rw [hFi] at hatc
      have hlp := hp.only honly
      clear hat hFi hlenT
      generalize hlen : (stage S F k)[i].length = m at hpos hs1 hrow64 hatc
      clear hq
      obtain ⟨q, hqe⟩ : ∃ q, q = pickNat ps k := ⟨_, rfl⟩
      rw [← hqe] at hatc
      have hm1 : m = (m - 1) + 1 := by omega
      generalize m - 1 = m1 at hm1 hrow64
      subst hm1
      have hqb : q ≤ 9223372036854775807 := by
        rw [hqe]
        unfold pickNat
        by_cases hkp : k < ps.length
        · rw [List.getD_eq_getElem?_getD, List.getElem?_eq_getElem hkp]
          have := hpi.out ps[k] (List.getElem_mem _)
          unfold isInt at this
          simp only [Option.getD_some]
          omega
        · rw [List.getD_eq_getElem?_getD, List.getElem?_eq_none (by omega)]; simp
      have hm1b : m1 ≤ 999999 := by omega
      have fin : ∀ w2 : World, Below wr.heap.size wr w2 → Calls Tryz.prog 57 #[.pointer (some ⟨gc, i * 65, none⟩), .agg ((F i).map bv).toArray] w2 fun e w' => e = .returned (.tuple #[]) ∧ (∃ B2 C2, Lay w' (More fp w w') g gc (stage S F (k + 1)) l B2 C2) ∧ Only fp w w' ∧ RowO w' 3 1 (some ad) W.length c (W.map iv') := fun w2 hb2 => by
        refine (settle_any gc (i * 65) (F i) w2 hFlen (hth w2 hb2) (Nat.lt_of_lt_of_le hcel.lt hb2.size)).mono ?_
        rintro e w3 ⟨rfl, rfl⟩
        rw [hsuc.out]
        exact ⟨rfl, hset.out w2 hb2⟩
      replace fin := Lib.hid fin
      clear hset hth
      by_cases hkp : k < ps.length
      · obtain ⟨ap, rfl, hcp⟩ := hlp.1.at_ (k := k) (by simpa using hkp)
        simp only [List.getElem_map, iv] at hcp
        have hkpi : (k : Int) < (ps.length : Int) := by omega
        have hqp : q = (max ps[k] 0).toNat := by rw [hqe]; unfold pickNat; rw [List.getD_eq_getElem?_getD, List.getElem?_eq_getElem hkp]; rfl
        have hpb := hpi.out ps[k] (List.getElem_mem _)
        unfold isInt at hpb
        clear hqe
        generalize ps[k] = p at hcp hqp hpb
        by_cases h0 : 0 ≤ p
        · obtain rfl : p = (q : Int) := by omega
          have hrem : ((q : Nat) : Int) % ((m1 : Int) + 1) = ((q % (m1 + 1) : Nat) : Int) := by
            rw [show ((m1 : Int) + 1) = ((m1 + 1 : Nat) : Int) by omega]; rfl
          rw [← hrem] at hatc
          replace hrem := Lib.hid hrem
          clear hqp
          go_wp2_with fail
          refine hatc.mono ?_
          rintro e w3 ⟨rfl, hb3⟩
          go_wp2_with fail
          refine (fin.out w3 hb3).mono ?_
          rintro e w4 ⟨rfl, ⟨B2, C2, hL4⟩, ho4, hr4⟩
          go_wp2
          go_roundw
          case rel => exact ⟨k + 1, B2, C2, by omega, by go_num, hL4, ho4, hr4⟩
          case measure => simp [intOf]; omega
        · obtain rfl : q = 0 := by omega
          rw [Nat.zero_mod] at hatc
          clear hqp
          go_wp2_with fail
          refine hatc.mono ?_
          rintro e w3 ⟨rfl, hb3⟩
          go_wp2_with fail
          refine (fin.out w3 hb3).mono ?_
          rintro e w4 ⟨rfl, ⟨B2, C2, hL4⟩, ho4, hr4⟩
          go_wp2
          go_roundw
          case rel => exact ⟨k + 1, B2, C2, by omega, by go_num, hL4, ho4, hr4⟩
          case measure => simp [intOf]; omega
      · have hq0 : q = 0 := by
          rw [hqe]; unfold pickNat
          rw [List.getD_eq_getElem?_getD, List.getElem?_eq_none (by omega)]; simp
        subst hq0
        rw [Nat.zero_mod] at hatc
        clear hqe
        have hkpi : ¬ (k : Int) < (ps.length : Int) := by omega
        go_wp2_with fail
        refine hatc.mono ?_
        rintro e w3 ⟨rfl, hb3⟩
        go_wp2_with fail
        refine (fin.out w3 hb3).mono ?_
        rintro e w4 ⟨rfl, ⟨B2, C2, hL4⟩, ho4, hr4⟩
        go_wp2
        go_roundw
        case rel => exact ⟨k + 1, B2, C2, by omega, by go_num, hL4, ho4, hr4⟩
        case measure => simp [intOf]; omega
    · obtain rfl : k = W.length := by omega
      have c1 : wr.cell? ⟨g, 1, none⟩ = some (litV l) := hL.dsk.cell 1
      have c2 : wr.cell? ⟨g, 2, none⟩ = some (leftV l) := hL.dsk.cell 2
      have f1 : wr.frozen? ⟨g, 1, none⟩ = false := hL.dsk.free 1
      have f2 : wr.frozen? ⟨g, 2, none⟩ = false := hL.dsk.free 2
      go_wp2
      go_end0
      have ho6 : Only (fun k => k = g) wr ((wr.setCell ⟨g, 1, none⟩ (.bool false)).setCell ⟨g, 2, none⟩ (.int .i64 0)) :=
        ((Only.refl (fun k => k = g) wr).setCell (p := ⟨g, 1, none⟩) (.inl rfl) _).setCell (p := ⟨g, 2, none⟩) (.inl rfl) _
      have hb6 : Blk ((wr.setCell ⟨g, 1, none⟩ (.bool false)).setCell ⟨g, 2, none⟩ (.int .i64 0)) g 75 #[.slice (some ⟨gc, 0, none⟩) (stage S F W.length).length (stage S F W.length).length, litV (-1), leftV (-1)] := (hL.dsk.put 1 (.bool false)).put 2 (.int .i64 0)
      have hf := hL.fuse (-1) (by omega) (by omega) ho6 hb6
      rw [hall.out] at hf
      have z1 := ho6.size
      refine ⟨rfl, ⟨gc, B1, C1, hf.mono (fun k hk _ => ?_)⟩, honly.trans ho6 (fun k _ hk => by subst hk; exact h.fg)⟩
      rcases hk with hk | hk
      · exact .inl hk
      · exact .inr (by omega)
theorem crash_all {w : World} {fp : Nat → Prop} {g : Nat} {S : Sec} {l : Int} (h : Imp w fp g S l) (hs : Small 1000000 S) (P : Option Addr) (n cp : Nat) (ps : List Int) (hn : n = ps.length) (hp : RdF fp w P (ps.map iv)) (hpi : ∀ x ∈ ps, isInt x) :
    Calls Tryz.prog 21 #[.pointer (some ⟨g, 0, none⟩), .slice P n cp] w fun e w' => e = .returned (.tuple #[]) ∧ Imp w' (More fp w w') g (crashS S ps) (-1) ∧ Only fp w w' := by
  obtain ⟨gc, B, C, h⟩ := h
  exact crash_any h hs P n cp ps hn hp hpi
theorem fuse_all {w : World} {fp : Nat → Prop} {g : Nat} {S : Sec} {l : Int} (h : Imp w fp g S l) (n : Int) (hn : isInt n) :
    Calls Tryz.prog 19 #[.pointer (some ⟨g, 0, none⟩), .int .i64 n] w fun e w' => e = .returned (.tuple #[]) ∧ Imp w' (More fp w w') g S (max n (-1)) ∧ Only fp w w' := by
  obtain ⟨gc, B, C, h⟩ := h
  refine (fuse_any h n hn).mono ?_
  rintro e w' ⟨rfl, h1, h2⟩
  exact ⟨rfl, Imp.more ⟨gc, B, C, h2⟩, h1.mono (fun k _ hk => by subst hk; exact h.fg)⟩
end Go.Proofs.YtdpmfcifgimleaaGreatDoor

/-
  Blocks born between two worlds; Read, whatever comes in. No statement of the seat is proved here.
-/
namespace Go.Proofs.YtdpmfcifgimleaaGreatDoor
open Go Go.RowKit

/-- the blocks that were made between two worlds -/
def Born (w0 w1 : World) : Nat → Prop := fun k => w0.heap.size ≤ k ∧ k < w1.heap.size
theorem Born.imp {w0 w1 w1' w2 : World} {g : Nat} {S : Sec} {l : Int} (h : Imp w2 (More (Born w0 w1) w1' w2) g S l) (h0 : w0.heap.size ≤ w1'.heap.size) (h1 : w1.heap.size ≤ w2.heap.size) : Imp w2 (Born w0 w2) g S l :=
  h.mono fun k hk _ => by
    rcases hk with hk | hk
    · exact ⟨hk.1, by have := hk.2; omega⟩
    · exact ⟨by omega, hk.2⟩
theorem Born.below {w0 w1 a b : World} (h : Only (Born w0 w1) a b) (h0 : w0.heap.size ≤ a.heap.size) : Below w0.heap.size a b := h.below (fun _ hk => hk.1) h0

/-- Read, whatever comes in -/
theorem read_all {w : World} {fp : Nat → Prop} {g : Nat} {S : Sec} {l : Int} (h : Imp w fp g S l) (hs : Small 1000000 S) (i : Int) :
    Calls Tryz.prog 38 #[.pointer (some ⟨g, 0, none⟩), .int .i64 i] w fun e w' => Below w.heap.size w w' ∧ ((∃ (k : Nat) (hk : k < S.length), i = (k : Int) ∧ ∃ g', e = .returned (.tuple #[.slice (some ⟨g', 0, none⟩) 64 64, .int .i64 0]) ∧ Blk w' g' 113 ((lastOf S[k]).map bv).toArray ∧ w.heap.size ≤ g') ∨
      (¬ (0 ≤ i ∧ i < (S.length : Int)) ∧ e = .returned (.tuple #[.slice none 0 0, .int .i64 1]))) := by
  obtain ⟨gc, B, C, h⟩ := h
  by_cases hi : 0 ≤ i ∧ i < (S.length : Int)
  · obtain ⟨k, rfl⟩ : ∃ k : Nat, i = (k : Int) := ⟨i.toNat, by omega⟩
    refine (read_ok h hs k (by omega)).mono ?_
    rintro e w' ⟨g', h1, h2, h3, h4⟩
    exact ⟨h2, .inl ⟨k, by omega, rfl, g', h1, h3, h4⟩⟩
  · refine (read_bad h i hi).mono ?_
    rintro e w' ⟨h1, rfl⟩
    exact ⟨Below.refl _ _, .inr ⟨hi, h1⟩⟩

theorem small_of {N : Nat} {S : Sec} (h : S.all (fun vs => decide (vs.length ≤ N)) = true) : Small N S := fun vs hvs => by
  have := List.all_eq_true.1 h vs hvs
  simpa using this

/-- what lies in the arguments is apart from what was born later -/
theorem rdF_born {W w w1 : World} {A : Option Addr} {xs : List Value} (h : Rd W A xs) (hb : Below W.heap.size W w) : RdF (Born W w1) w A xs := by
  refine ⟨h.ext hb, fun ad e hne hk => ?_⟩
  rcases xs with _ | ⟨x, r⟩
  · exact hne rfl
  · obtain ⟨ad', e', hc⟩ := h 0 x rfl
    rw [e] at e'
    injection e' with e'
    subst e'
    have hb' := World.block_lt_of_cell? W _ hc
    rw [block_add] at hb'
    have := hk.1
    omega

end Go.Proofs.YtdpmfcifgimleaaGreatDoor

/-
  The methods of Disk, in a law's own words: what was born since the law began, what lies below. No statement of the seat is proved here.
-/
namespace Go.Proofs.YtdpmfcifgimleaaGreatDoor
open Go Go.RowKit

theorem Imp.drew {w : World} {fp : Nat → Prop} {g : Nat} {S : Sec} {l : Int} (h : Imp w fp g S l) : Imp w.drew fp g S l := h.only ((Only.refl (fun _ => False) w).drew) (fun _ _ x => x)
theorem Below.drew' {B : Nat} {a w : World} (h : Below B a w) : Below B a w.drew := ⟨h.os, h.tape, h.output, h.size, h.block⟩
theorem Below.undrew {B : Nat} {a w : World} (h : Below B a.drew w) : Below B a w := ⟨h.os, h.tape, h.output, h.size, h.block⟩

theorem writeS_length (S : Sec) (l i : Int) (bs : List UInt8) : (writeS S l i bs).length = S.length := by unfold writeS; split <;> simp
theorem flushS_length (S : Sec) : (flushS S).length = S.length := by simp [flushS]
theorem crashS_length (S : Sec) (ps : List Int) : (crashS S ps).length = S.length := by simp [crashS]
theorem small_mono {N M : Nat} {S : Sec} (h : Small N S) (hm : N ≤ M) : Small M S := fun vs hv => Nat.le_trans (h vs hv) hm
theorem small_write {N : Nat} {S : Sec} (h : Small N S) (l i : Int) (bs : List UInt8) : Small (N + 1) (writeS S l i bs) := by
  unfold writeS
  split
  · rename_i hc
    intro vs hv
    rcases List.mem_or_eq_of_mem_set hv with hv | hv
    · exact Nat.le_trans (h vs hv) (by omega)
    · subst hv
      have hi : i.toNat < S.length := by
        unfold writeCode at hc
        by_cases hl : l = 0
        · rw [if_pos hl] at hc; omega
        · rw [if_neg hl] at hc
          by_cases hb : i < 0 ∨ (S.length : Int) ≤ i ∨ 64 < bs.length
          · rw [if_pos hb] at hc; omega
          · omega
      rw [List.getD_eq_getElem?_getD, List.getElem?_eq_getElem hi, List.length_append]
      have := h _ (List.getElem_mem hi)
      simp only [Option.getD_some, List.length_singleton]
      omega
  · exact small_mono h (by omega)
theorem small_flush {N : Nat} (S : Sec) (h : 1 ≤ N) : Small N (flushS S) := fun vs hv => by
  obtain ⟨_, _, rfl⟩ := List.mem_map.1 hv
  simpa using h
theorem small_crash {N : Nat} {S : Sec} (h : Small N S) (h1 : 1 ≤ N) (ps : List Int) : Small N (crashS S ps) := by
  rw [← crash_stage]
  exact small_stage h h1 _ _
theorem small_zero (n : Nat) : Small 1 (zeroS n) := fun vs hv => by
  rw [List.eq_of_mem_replicate hv]; simp

theorem step_of {W wr w' : World} {g : Nat} {S : Sec} {l : Int} (hb : Below W.heap.size W wr) (h : Imp w' (More (Born W wr) wr w') g S l) (ho : Only (Born W wr) wr w') : Imp w' (Born W w') g S l ∧ Below W.heap.size W w' :=
  ⟨Born.imp h hb.size ho.size, hb.trans (Born.below ho hb.size)⟩

section
variable {W wr : World} {g : Nat} {S : Sec} {l : Int}
theorem write_step (h : Imp wr (Born W wr) g S l) (hb : Below W.heap.size W wr) (hs : Small 999999 S) (i : Int) (A : Option Addr) (n c : Nat) (bs : List UInt8) (hn : n = bs.length) (hr : Rd wr A (bs.map bv)) :
    Calls Tryz.prog 39 #[.pointer (some ⟨g, 0, none⟩), .int .i64 i, .slice A n c] wr fun e w' => e = .returned (.int .i64 (writeCode S.length l i bs)) ∧ Imp w' (Born W w') g (writeS S l i bs) (writeL S.length l i bs) ∧ Below W.heap.size W w' := by
  refine (write_all h hs i A n c bs hn hr).mono ?_
  rintro e w' ⟨rfl, h1, h2⟩
  exact ⟨rfl, step_of hb h1 h2⟩
theorem flush_step (h : Imp wr (Born W wr) g S l) (hb : Below W.heap.size W wr) (hs : Small 1000000 S) :
    Calls Tryz.prog 104 #[.pointer (some ⟨g, 0, none⟩)] wr fun e w' => e = .returned (.int .i64 (flushCode l)) ∧ Imp w' (Born W w') g (if l = 0 then S else flushS S) (tick l) ∧ Below W.heap.size W w' := by
  refine (flush_all h hs).mono ?_
  rintro e w' ⟨rfl, h1, h2⟩
  exact ⟨rfl, step_of hb h1 h2⟩
theorem fuse_step (h : Imp wr (Born W wr) g S l) (hb : Below W.heap.size W wr) (n : Int) (hn : isInt n) :
    Calls Tryz.prog 19 #[.pointer (some ⟨g, 0, none⟩), .int .i64 n] wr fun e w' => e = .returned (.tuple #[]) ∧ Imp w' (Born W w') g S (max n (-1)) ∧ Below W.heap.size W w' := by
  refine (fuse_all h n hn).mono ?_
  rintro e w' ⟨rfl, h1, h2⟩
  exact ⟨rfl, step_of hb h1 h2⟩
theorem crash_step {w0 : World} (h : Imp wr (Born W w0) g S l) (hw : w0.heap.size ≤ wr.heap.size) (hb : Below W.heap.size W wr) (hs : Small 1000000 S) (P : Option Addr) (n cp : Nat) (ps : List Int) (hn : n = ps.length) (hp : RdF (Born W w0) wr P (ps.map iv)) (hpi : ∀ x ∈ ps, isInt x) :
    Calls Tryz.prog 21 #[.pointer (some ⟨g, 0, none⟩), .slice P n cp] wr fun e w' => e = .returned (.tuple #[]) ∧ Imp w' (Born W w') g (crashS S ps) (-1) ∧ Below W.heap.size W w' := by
  refine (crash_all h hs P n cp ps hn hp hpi).mono ?_
  rintro e w' ⟨rfl, h1, h2⟩
  exact ⟨rfl, Born.imp (w1 := w0) h1 hb.size (Nat.le_trans hw h2.size), hb.trans (Born.below h2 hb.size)⟩
theorem new_step (n : Nat) (W wr : World) (hb : Below W.heap.size W wr) (h1 : 1 ≤ n) (h2 : n ≤ 4096) :
    Calls Tryz.prog 12 #[.int .i64 (n : Int)] wr fun e w' => ∃ g, e = .returned (.tuple #[.pointer (some ⟨g, 0, none⟩), .int .i64 0]) ∧ Imp w' (Born W w') g (zeroS n) (-1) ∧ Below W.heap.size W w' := by
  refine (new_ok n wr h1 h2).mono ?_
  rintro e w' ⟨g, rfl, hb', hI⟩
  have := hb.size
  exact ⟨g, rfl, hI.mono (fun k hk _ => ⟨by omega, hk.2⟩), hb.trans (hb'.mono hb.size)⟩
end
theorem isInt_tick {l : Int} : tick l = if 0 < l then l - 1 else l := rfl
theorem Imp.lo {w : World} {fp : Nat → Prop} {g : Nat} {S : Sec} {l : Int} (h : Imp w fp g S l) : -1 ≤ l := by
  obtain ⟨gc, B, C, h⟩ := h
  exact h.lo
end Go.Proofs.YtdpmfcifgimleaaGreatDoor

/-
  The contracts of super's numberOf and the reference's number. No statement of the seat is proved here.
-/
namespace Go.Proofs.YtdpmfcifgimleaaGreatDoor
open Go Go.RowKit

theorem u32_or_add (a b k : Nat) (ha : a < 2 ^ (8 * k)) (hb : b < 256) (hk : k < 4) : bits .or .u32 (a : Int) ((b : Int) * 2 ^ (8 * k)) = ((a + b * 2 ^ (8 * k) : Nat) : Int) := by
  have h3 : (2 : Nat) ^ (8 * k) ≤ 2 ^ 24 := Nat.pow_le_pow_right (by omega) (by omega)
  have h3' : (2 : Nat) ^ 24 = 16777216 := rfl
  have hm : b * 2 ^ (8 * k) ≤ 255 * 2 ^ (8 * k) := Nat.mul_le_mul_right _ (by omega)
  have e : (b : Int) * 2 ^ (8 * k) = ((b * 2 ^ (8 * k) : Nat) : Int) := by rw [Int.natCast_mul, Int.natCast_pow]; rfl
  have hor : (a ||| b * 2 ^ (8 * k)) = a + b * 2 ^ (8 * k) := by
    rw [Nat.or_comm, Nat.add_comm, Nat.mul_comm]
    exact (Nat.two_pow_add_eq_or_of_lt ha _).symm
  rw [e]
  show IntKind.u32.wrap ((BitVec.ofInt 32 (a : Int) ||| BitVec.ofInt 32 ((b * 2 ^ (8 * k) : Nat) : Int)).toNat : Int) = _
  have o : ∀ a : Nat, a < 4294967296 → (BitVec.ofInt 32 (a : Int)).toNat = a := fun a ha => by simp [BitVec.toNat_ofInt]; omega
  rw [BitVec.toNat_or, o a (by omega), o _ (by omega), hor, IntKind.wrap_u32]
  omega
theorem four_or (b0 b1 b2 b3 : UInt8) : bits .or .u32 (bits .or .u32 (bits .or .u32 (b0.toNat : Int) ((b1.toNat : Int) * 256)) ((b2.toNat : Int) * 65536)) ((b3.toNat : Int) * 16777216) = (ofLow [b0, b1, b2, b3] : Int) := by
  have l0 := b0.toNat_lt
  have l1 := b1.toNat_lt
  have l2 := b2.toNat_lt
  have l3 := b3.toNat_lt
  have h1 := u32_or_add b0.toNat b1.toNat 1 (by omega) l1 (by omega)
  have h2 := u32_or_add (b0.toNat + b1.toNat * 2 ^ (8 * 1)) b2.toNat 2 (by omega) l2 (by omega)
  have h3 := u32_or_add (b0.toNat + b1.toNat * 2 ^ (8 * 1) + b2.toNat * 2 ^ (8 * 2)) b3.toNat 3 (by omega) l3 (by omega)
  rw [show ((b1.toNat : Int) * 256) = (b1.toNat : Int) * 2 ^ (8 * 1) from rfl, h1, show ((b2.toNat : Int) * 65536) = (b2.toNat : Int) * 2 ^ (8 * 2) from rfl, h2, show ((b3.toNat : Int) * 16777216) = (b3.toNat : Int) * 2 ^ (8 * 3) from rfl, h3]
  simp only [ofLow]
  omega

theorem fromfour_any (A : Option Addr) (n c : Nat) (b0 b1 b2 b3 : UInt8) (w : World) (hn : n = 4) (hr : Rd w A ([b0, b1, b2, b3].map bv)) :
    Calls Tryz.prog 192 #[.slice A n c] w fun e w' => e = .returned (.int .u32 (ofLow [b0, b1, b2, b3] : Int)) ∧ ∃ m, w' = w.drewN m := by
  subst hn
  obtain ⟨ad, rfl, h0⟩ := hr 0 _ rfl
  obtain ⟨_, e, h1⟩ := hr 1 _ rfl
  injection e with e; subst e
  obtain ⟨_, e, h2⟩ := hr 2 _ rfl
  injection e with e; subst e
  obtain ⟨_, e, h3⟩ := hr 3 _ rfl
  injection e with e; subst e
  simp only [bv] at h0 h1 h2 h3
  have h0' : w.cell? ad = some (.int .u8 (b0.toNat : Int)) := by
    have e : ad.add 0 = ad := by simp [Addr.add]
    rw [e] at h0; exact h0
  have k1 : w.cell? ⟨ad.block, ad.off + 1, none⟩ = some (.int .u8 (b1.toNat : Int)) := h1
  have k2 : w.cell? ⟨ad.block, ad.off + 2, none⟩ = some (.int .u8 (b2.toNat : Int)) := h2
  have k3 : w.cell? ⟨ad.block, ad.off + 3, none⟩ = some (.int .u8 (b3.toNat : Int)) := h3
  have l0 : (b0.toNat : Int) ≤ 255 := by have := b0.toNat_lt; omega
  have l1 : (b1.toNat : Int) ≤ 255 := by have := b1.toNat_lt; omega
  have l2 : (b2.toNat : Int) ≤ 255 := by have := b2.toNat_lt; omega
  have l3 : (b3.toNat : Int) ≤ 255 := by have := b3.toNat_lt; omega
  go_enter Tryz.func192, Tryz.ntmps192
  go_wp2
  go_region
  go_wp2
  go_ret
  refine ⟨?_, _, rfl⟩
  show Ending.returned (Value.int IntKind.u32 _) = _
  rw [four_or]
theorem drew_one (w : World) : w.drew = w.drewN 1 := rfl

/-- from a place on -/
theorem rd_from {w W : World} {ad : Addr} {xs : List Value} (k : Nat) (hk : k ≠ 0) (h : Rd w (some ad) xs) (hb : Below w.heap.size w W) : Rd W (some ⟨ad.block, ad.off + k, none⟩) (xs.drop k) := by
  have h1 := (h.ext hb).add k
  have e : (some ad).map (fun x => x.add k) = some ⟨ad.block, ad.off + k, none⟩ := by simp [Addr.add, hk]
  rw [e] at h1
  exact h1

set_option maxHeartbeats 2000000 in
theorem numberof_any (A : Option Addr) (n c : Nat) (row : List UInt8) (w : World) (ht : Tab w) (hn : n = 64) (hl : row.length = 64) (hc : 64 ≤ c) (hr : Rd w A (row.map bv)) :
    Calls Tryz.prog 117 #[.slice A n c] w fun e w' => e = .returned (.int .i64 (numOf row : Int)) ∧ Below w.heap.size w w' := by
  subst hn
  obtain ⟨ad, rfl, -⟩ := hr.at_ (k := 0) (by simp; omega)
  obtain ⟨c, rfl⟩ : ∃ d, c = d + 64 := ⟨c - 64, by omega⟩
  have hfl : ∀ (W : World) (c' : Nat), Below w.heap.size w W → Calls Tryz.prog 152 #[.slice (some ⟨ad.block, ad.off + 60, none⟩) 4 c'] W fun e w' => e = .returned (.int .u64 (ofLow (row.drop 60) : Int)) ∧ W = w' := fun W c' hb =>
    fromlow_any _ 4 c' (row.drop 60) W (by simp; omega) (by rw [List.map_drop]; exact rd_from 60 (by omega) hr hb) (by simp; omega)
  have hfl2 : ∀ (W : World) (c' : Nat), Below w.heap.size w W → Calls Tryz.prog 152 #[.slice (some ad) 8 c'] W fun e w' => e = .returned (.int .u64 (ofLow (row.take 8) : Int)) ∧ W = w' := fun W c' hb =>
    fromlow_any _ 8 c' (row.take 8) W (by simp; omega) (by rw [List.map_take]; exact (hr.ext hb).take 8) (by simp; omega)
  have hs : ∀ (W : World), (∃ q, W = (w.alloc (.cells #[.slice (some ad) 60 (c + 64)] 57)).drewN q) → Calls Tryz.prog 75 #[.slice (some ⟨w.heap.size, 0, none⟩) 1 1] W fun e w' => e = .returned (.int .u32 (sumOf (row.take 60) : Int)) ∧ W = w' := by
    rintro W ⟨q, rfl⟩
    have hrow : RowsF (fun _ => False) (w.alloc (.cells #[.slice (some ad) (row.take 60).length (c + 64)] 57)) (some ⟨w.heap.size, 0, none⟩) [row.take 60] :=
      RowsF.one (RdF.of (by rw [List.map_take]; exact hr.take 60)) (by simp; omega) _ rfl id
    rw [show (row.take 60).length = 60 by simp; omega] at hrow
    exact sum_any _ 1 1 [row.take 60] _ _ ((ht.alloc _).drewN q) rfl (by simp) hrow (by simp; omega) (by simp)
  have Hfl := Lib.hid hfl
  have Hfl2 := Lib.hid hfl2
  have Hs := Lib.hid hs
  have hnum : ∀ a b : Nat, ofLow (row.drop 60) = a → sumOf (row.take 60) = b → ∀ m : Nat, ofLow (row.take 8) = m → numOf row = if a = b ∧ m ≤ 1125899906842624 then m else 0 := by
    intro a b ha hb m hm
    subst ha hb hm
    rfl
  have lb := sumOf_lt (row.take 60)
  have la := ofLow_lt_of (l := row.drop 60) (k := 4) (by simp; omega)
  have lm := ofLow_lt_of (l := row.take 8) (k := 8) (by simp; omega)
  have Hnum := Lib.hid hnum
  clear hfl hfl2 hs hnum
  generalize ha : ofLow (row.drop 60) = a at *
  generalize hb : sumOf (row.take 60) = b at *
  generalize hm : ofLow (row.take 8) = m at *
  have Hn := Lib.hid (Hnum.out a b rfl rfl m rfl)
  clear ha hb hm Hnum
  have lm' : (m : Int) ≤ 18446744073709551615 := by omega
  have hwr : IntKind.u64.wrap (b : Int) = (b : Int) := by rw [IntKind.wrap_u64]; omega
  clear hl hc hr ht lb la lm
  have h60 : (60 : Int) ≤ (c : Int) + 64 := by omega
  have h8 : (8 : Int) ≤ (c : Int) + 64 := by omega
  go_enter Tryz.func117, Tryz.ntmps117
  go_wp2
  go_region_held3 (fun _ => True) (trivial) (first
      | (go_at_call 152; ((with_reducible refine (Hfl.out _ _ ?_).mono ?_)); (first | exact Below.drew' (Below.refl _ _) | exact Below.drew' ((Below.refl _ _).alloc (Nat.le_refl _) _)); rintro e w9 ⟨rfl, rfl⟩)
      | (go_at_call 75; ((with_reducible refine (Hs.out _ ?_).mono ?_)); (first | exact ⟨0, rfl⟩ | exact ⟨1, rfl⟩); rintro e w9 ⟨rfl, rfl⟩))
  all_goals
    clear hwr
    by_cases hab : a = b
    · subst hab
      have hbeq : ((a : Int) == (a : Int)) = true := by simp
      by_cases hm : m ≤ 1125899906842624
      · have hv : numOf row = m := by rw [Hn.out, if_pos ⟨rfl, hm⟩]
        have Hv := Lib.hid hv
        have hmi : (m : Int) ≤ 1125899906842624 := by omega
        clear hv
        go_wp2_with (go_at_call 152; refine (Hfl2.out _ _ ?_).mono ?_; (first | exact (Below.refl _ _).alloc (Nat.le_refl _) _ | exact Below.drew' ((Below.refl _ _).alloc (Nat.le_refl _) _)); rintro e w9 ⟨rfl, rfl⟩)
        go_ret
        exact ⟨by rw [Hv.out]; rfl, by first | exact (Below.refl _ _).alloc (Nat.le_refl _) _ | exact Below.drew' ((Below.refl _ _).alloc (Nat.le_refl _) _)⟩
      · have hv : numOf row = 0 := by rw [Hn.out, if_neg (fun h => hm h.2)]
        have Hv := Lib.hid hv
        have hmi : (1125899906842624 : Int) < (m : Int) := by omega
        clear hv
        go_wp2_with (go_at_call 152; refine (Hfl2.out _ _ ?_).mono ?_; (first | exact (Below.refl _ _).alloc (Nat.le_refl _) _ | exact Below.drew' ((Below.refl _ _).alloc (Nat.le_refl _) _)); rintro e w9 ⟨rfl, rfl⟩)
        go_ret
        exact ⟨by rw [Hv.out]; rfl, by first | exact (Below.refl _ _).alloc (Nat.le_refl _) _ | exact Below.drew' ((Below.refl _ _).alloc (Nat.le_refl _) _)⟩
    · have hv : numOf row = 0 := by rw [Hn.out, if_neg (fun h => hab h.1)]
      have Hv := Lib.hid hv
      have hbeq : ((a : Int) == (b : Int)) = false := beq_eq_false_iff_ne.2 (by omega)
      clear hv
      go_wp2
      go_ret
      exact ⟨by rw [Hv.out]; rfl, by first | exact (Below.refl _ _).alloc (Nat.le_refl _) _ | exact Below.drew' ((Below.refl _ _).alloc (Nat.le_refl _) _)⟩

theorem u64_or_add (u b : Nat) (hu : u < 72057594037927936) (hb : b < 256) : bits .or .u64 ((u : Int) * 256) (b : Int) = ((b + 256 * u : Nat) : Int) := by
  have e : (u : Int) * 256 = ((u * 256 : Nat) : Int) := by rw [Int.natCast_mul]; rfl
  have hor : (u * 256 ||| b) = b + 256 * u := by
    have := Nat.two_pow_add_eq_or_of_lt (i := 8) (b := b) (by omega) u
    rw [Nat.mul_comm u 256, Nat.add_comm]
    exact this.symm
  rw [e]
  show IntKind.u64.wrap ((BitVec.ofInt 64 ((u * 256 : Nat) : Int) ||| BitVec.ofInt 64 (b : Int)).toNat : Int) = _
  have o : ∀ a : Nat, a < 18446744073709551616 → (BitVec.ofInt 64 (a : Int)).toNat = a := fun a ha => by simp [BitVec.toNat_ofInt]; omega
  rw [BitVec.toNat_or, o _ (by omega), o b (by omega), hor, IntKind.wrap_u64]
  omega

set_option maxHeartbeats 2000000 in
theorem number_any (A : Option Addr) (n c : Nat) (row : List UInt8) (w : World) (hn : n = 64) (hl : row.length = 64) (hc : 64 ≤ c) (hr : Rd w A (row.map bv)) :
    Calls Tryz.prog 163 #[.slice A n c] w fun e w' => e = .returned (.int .i64 (numOf row : Int)) ∧ ∃ q, w' = w.drewN q := by
  subst hn
  obtain ⟨ad, rfl, -⟩ := hr.at_ (k := 0) (by simp; omega)
  obtain ⟨c, rfl⟩ : ∃ d, c = d + 64 := ⟨c - 64, by omega⟩
  have hfl : ∀ (W : World) (c' : Nat), (∃ q, W = w.drewN q) → Calls Tryz.prog 192 #[.slice (some ⟨ad.block, ad.off + 60, none⟩) 4 c'] W fun e w' => e = .returned (.int .u32 (ofLow (row.drop 60) : Int)) ∧ ∃ m, w' = W.drewN m := by
    rintro W c' ⟨q, rfl⟩
    obtain ⟨b0, b1, b2, b3, e4⟩ : ∃ b0 b1 b2 b3, row.drop 60 = [b0, b1, b2, b3] := by
      have h4 : (row.drop 60).length = 4 := by simp; omega
      match hd : row.drop 60, h4 with
      | [b0, b1, b2, b3], _ => exact ⟨b0, b1, b2, b3, rfl⟩
    rw [e4]
    exact fromfour_any _ 4 c' b0 b1 b2 b3 _ rfl (by rw [← e4, List.map_drop]; exact (rd_from 60 (by omega) hr (ext_drewN (Below.refl _ _) q)))
  have hs : ∀ (W : World), (∃ q, W = w.drewN q) → Calls Tryz.prog 110 #[.slice (some ad) 60 (c + 64)] W fun e w' => e = .returned (.int .u32 (sumOf (row.take 60) : Int)) ∧ W = w' := by
    rintro W ⟨q, rfl⟩
    exact refsum_any _ 60 _ (row.take 60) _ (by simp; omega) (by rw [List.map_take]; exact (hr.drewN q).take 60) (by simp; omega)
  have Hfl := Lib.hid hfl
  have Hs := Lib.hid hs
  have hat : ∀ k, k < 8 → ∃ b : UInt8, w.cell? (ad.add k) = some (.int .u8 (b.toNat : Int)) ∧ ofLow ((row.take 8).drop k) = b.toNat + 256 * ofLow ((row.take 8).drop (k + 1)) := fun k hk => by
    obtain ⟨_, e, h⟩ := hr.at_ (k := k) (by simp; omega)
    injection e with e; subst e
    refine ⟨row[k], by simpa [bv] using h, ?_⟩
    have := ofLow_drop (row.take 8) k (by simp; omega)
    rw [List.getElem_take] at this
    exact this
  have Hat := Lib.hid hat
  have hnum : ∀ a b : Nat, ofLow (row.drop 60) = a → sumOf (row.take 60) = b → ∀ m : Nat, ofLow (row.take 8) = m → numOf row = if a = b ∧ m ≤ 1125899906842624 then m else 0 := by
    intro a b ha hb m hm
    subst ha hb hm
    rfl
  have Hnum := Lib.hid hnum
  have hlt : ∀ k, k ≤ 8 → ofLow ((row.take 8).drop k) < 256 ^ (8 - k) := fun k hk => ofLow_lt_of (by simp; omega)
  have Hlt := Lib.hid hlt
  have h8d : (row.take 8).drop 8 = [] := List.drop_eq_nil_iff.2 (by simp; omega)
  have H8 := Lib.hid h8d
  clear hfl hs hnum hat hlt h8d
  generalize ha : ofLow (row.drop 60) = a at *
  generalize hb : sumOf (row.take 60) = b at *
  generalize hm : row.take 8 = m at *
  have Hn := Lib.hid (Hnum.out a b rfl rfl (ofLow m) rfl)
  have hc60 : (60 : Int) ≤ (c : Int) + 64 := by omega
  clear ha hb hm Hnum hl hr hc
  go_enter Tryz.func163, Tryz.ntmps163
  go_wp2
  go_region_held3 (fun _ => True) (trivial) (first
        | (go_at_call 192; ((with_reducible refine (Hfl.out _ _ ?_).mono ?_)); (first | exact ⟨0, rfl⟩ | exact ⟨1, rfl⟩ | exact ⟨_, rfl⟩); rintro e w9 ⟨rfl, q9, rfl⟩)
        | (go_at_call 110; ((with_reducible refine (Hs.out _ ?_).mono ?_)); (first | exact ⟨0, rfl⟩ | exact ⟨1, rfl⟩ | exact ⟨_, rfl⟩); rintro e w9 ⟨rfl, rfl⟩))
  by_cases hab : a = b
  · subst hab
    have hbeq : ((a : Int) == (a : Int)) = true := by simp
    go_wp2
    go_loop [3, 4] (fun s i => ∃ k u : Nat, k ≤ 8 ∧ i = .int .i64 ((k : Int) - 1) ∧ s = .int .u64 (u : Int) ∧ ofLow (m.drop k) = u) (fun _ i => (intOf i + 1).toNat)
    case atStart => exact ⟨8, 0, by omega, rfl, rfl, by rw [H8.out]; rfl⟩
    case round =>
      obtain ⟨k, u, hk, rfl, rfl, hu⟩ := hrel
      by_cases h0 : 0 < k
      · obtain ⟨j, rfl⟩ : ∃ j, k = j + 1 := ⟨k - 1, by omega⟩
        obtain ⟨x, hcell, hsucc⟩ := Hat.out j (by omega)
        have hlu := Hlt.out (j + 1) hk
        rw [hu] at hsucc hlu
        have h7 : 256 ^ (8 - (j + 1)) ≤ (256 : Nat) ^ 7 := Nat.pow_le_pow_right (by omega) (by omega)
        have h7' : (256 : Nat) ^ 7 = 72057594037927936 := rfl
        have hub : u < 72057594037927936 := by omega
        have hx := x.toNat_lt
        have hor := u64_or_add u x.toNat hub hx
        have hub' : (u : Int) ≤ 72057594037927935 := by omega
        have hxb : (x.toNat : Int) ≤ 255 := by omega
        have hij : ((j + 1 : Nat) : Int) - 1 = (j : Int) := by omega
        have Hs := Lib.hid hsucc
        rw [hij]
        have hj8 : (j : Int) < (c : Int) + 64 := by omega
        have hj64 : (j : Int) < 64 := by omega
        have hj0 : j < 64 := by omega
        clear hsucc hlu h7 h7' hij hu hub hx
        go_wp2
        go_round
        case rel => exact ⟨j, x.toNat + 256 * u, by omega, rfl, rfl, Hs.out⟩
        case measure => (simp [intOf]; try omega)
      · obtain rfl : k = 0 := by omega
        rw [List.drop_zero] at hu
        rw [hu] at Hn
        have hlu := Hlt.out 0 (by omega)
        rw [List.drop_zero, hu] at hlu
        have hub' : (u : Int) ≤ 18446744073709551615 := by
          have : (256 : Nat) ^ (8 - 0) = 18446744073709551616 := rfl
          omega
        clear hlu hu
        by_cases hm : u ≤ 1125899906842624
        · have hv : numOf row = u := by rw [Hn.out, if_pos (by simp [hm])]
          have Hv := Lib.hid hv
          have hmi : (u : Int) ≤ 1125899906842624 := by omega
          clear hv
          go_wp2
          go_ret
          exact ⟨by rw [Hv.out]; rfl, _, rfl⟩
        · have hv : numOf row = 0 := by rw [Hn.out, if_neg (by simp [hm])]
          have Hv := Lib.hid hv
          have hmi : (1125899906842624 : Int) < (u : Int) := by omega
          clear hv
          go_wp2
          go_ret
          exact ⟨by rw [Hv.out]; rfl, _, rfl⟩
  · have hv : numOf row = 0 := by rw [Hn.out, if_neg (fun h => hab h.1)]
    have Hv := Lib.hid hv
    have hbeq : ((a : Int) == (b : Int)) = false := beq_eq_false_iff_ne.2 (by omega)
    clear hv
    go_wp2
    go_ret
    exact ⟨by rw [Hv.out]; rfl, _, rfl⟩
end Go.Proofs.YtdpmfcifgimleaaGreatDoor
