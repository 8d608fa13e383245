/-
  Texts of this claim, joined (part 9): contracts and lemmas that the last text goes by. No statement of the seat is proved here.
-/
import Derived.Test.YtmggajpecgnjkaaDoorAll0
import Derived.Test.YtmggajpecgnjkaaDoorAll4
import Derived.Test.YtmggajpecgnjkaaDoorAll8
import Derived.Test.YtmggajpecgnjkaaDoorAll2
import Derived.WalkLawsBesides
import Derived.IntWalk
set_option linter.unusedVariables false
set_option linter.unusedSimpArgs false
/-
  Contracts of the reference's reader of texts: fail, next, in, half. No statement of the seat is proved here.
-/
namespace Go.Proofs.YtmggajpecgnjkaaDoor
open Go Go.RowKit
set_option maxRecDepth 100000


/-- no expression, as cells -/
def zeroReR : Array Value := #[.int .i64 0, .int .u64 0, .int .u64 0, .int .u64 0, .int .u64 0, .slice none 0 0, .int .i64 0, .int .i64 0]
theorem zeroRe_oneR : zeroReR.all (·.oneCell') = true := by simp [zeroReR, Value.oneCell']
/-- a reader in memory -/
def RdS (w : World) (g : Nat) (s : ByteArray) (p b : Int) : Prop := Blk w g 67 #[.string s, .int .i64 p, .int .i64 b]
section
variable {S : Nat → Prop} {w w' : World} {g : Nat} {s : ByteArray} {p b : Int}
theorem RdS.blk (h : RdS w g s p b) : Blk w g 67 #[.string s, .int .i64 p, .int .i64 b] := h
theorem RdS.c0 (h : RdS w g s p b) : w.cell? ⟨g, 0, none⟩ = some (.string s) := Blk.cell h 0
theorem RdS.c1 (h : RdS w g s p b) : w.cell? ⟨g, 1, none⟩ = some (.int .i64 p) := Blk.cell h 1
theorem RdS.c2 (h : RdS w g s p b) : w.cell? ⟨g, 2, none⟩ = some (.int .i64 b) := Blk.cell h 2
theorem RdS.f1 (h : RdS w g s p b) : w.frozen? ⟨g, 1, none⟩ = false := Blk.free h 1
theorem RdS.f2 (h : RdS w g s p b) : w.frozen? ⟨g, 2, none⟩ = false := Blk.free h 2
theorem RdS.lt (h : RdS w g s p b) : g < w.heap.size := Blk.lt h
theorem RdS.alloc (h : RdS w g s p b) (o : Obj) : RdS (w.alloc o) g s p b := Blk.alloc h o
theorem RdS.ext (h : RdS w g s p b) (hb : Below w.heap.size w w') : RdS w' g s p b := Blk.ext h hb
theorem RdS.only (h : RdS w g s p b) (ho : Only S w w') (hn : ¬ S g) : RdS w' g s p b := Blk.only h ho hn
theorem RdS.set1 (h : RdS w g s p b) (q : Int) : RdS (w.setCell ⟨g, 1, none⟩ (.int .i64 q)) g s q b := Blk.put h 1 _
theorem RdS.set2 (h : RdS w g s p b) (q : Int) : RdS (w.setCell ⟨g, 2, none⟩ (.int .i64 q)) g s p q := Blk.put h 2 _
theorem RdS.far (h : RdS w g s p b) {q : Addr} (hq : g ≠ q.block) (u : Value) : RdS (w.setCell q u) g s p b := Blk.far h hq u
theorem RdS.drewN (h : RdS w g s p b) (n : Nat) : RdS (w.drewN n) g s p b := h
theorem RdS.to {q d : Int} (h : RdS w g s p b) (e : p = q) (e2 : b = d) : RdS w g s q d := by rw [← e, ← e2]; exact h
theorem RdS.drew (h : RdS w g s p b) : RdS w.drew g s p b := h
end

set_option maxHeartbeats 1000000 in
theorem rfail_ok (w : World) (g : Nat) (s : ByteArray) (p a : Int) (h : RdS w g s p (-1)) :
    Calls Tryd.prog 43 #[.pointer (some ⟨g, 0, none⟩), .int .i64 a] w fun e w' => e = .returned (.agg zeroReR) ∧ RdS w' g s p a ∧ Only (· = g) w w' := by
  have h1 := h.alloc (Obj.cells zeroReR 27)
  have hlt := h.lt
  have x2 := h1.c2
  have y2 := h1.f2
  have hB := Blk.new (w.setCell ⟨g, 2, none⟩ (.int .i64 a)) 27 zeroReR
  rw [show (w.setCell ⟨g, 2, none⟩ (.int .i64 a)).heap.size = w.heap.size by simp [World.setCell]] at hB
  have h2 := (h.set2 a).alloc (Obj.cells zeroReR 27)
  have ho : Only (fun x => x = g) w ((w.setCell ⟨g, 2, none⟩ (.int .i64 a)).alloc (Obj.cells zeroReR 27)) := ((Only.refl (fun x => x = g) w).setCell (p := ⟨g, 2, none⟩) (.inl rfl) _).alloc _
  have Hh := Lib.hid h2
  have HB := Lib.hid hB
  have Ho := Lib.hid ho
  clear h1 hB h2 ho h
  unfold zeroReR at x2 y2
  go_enter Tryd.func43, Tryd.ntmps43
  go_wp2
  refine bodyPost_ret (results_re rfl _ _ w.heap.size 27 zeroReR rfl HB.out rfl) rfl ⟨rfl, Hh.out, Ho.out⟩

set_option maxHeartbeats 1000000 in
theorem rfail_bad (w : World) (g : Nat) (s : ByteArray) (p b a : Int) (hb : 0 ≤ b) (h : RdS w g s p b) :
    Calls Tryd.prog 43 #[.pointer (some ⟨g, 0, none⟩), .int .i64 a] w fun e w' => e = .returned (.agg zeroReR) ∧ RdS w' g s p b ∧ Only (· = g) w w' := by
  have h1 := h.alloc (Obj.cells zeroReR 27)
  have hlt := h.lt
  have x2 := h1.c2
  have hB := Blk.new w 27 zeroReR
  have Hh := Lib.hid h1
  have HB := Lib.hid hB
  clear h1 hB h
  unfold zeroReR at x2
  go_enter Tryd.func43, Tryd.ntmps43
  go_wp2
  refine bodyPost_ret (results_re rfl _ _ w.heap.size 27 zeroReR rfl HB.out rfl) rfl ⟨rfl, Hh.out, (Only.refl _ w).alloc _⟩

/-! ### where a reader stands -/
theorem nats_dropR (s : ByteArray) (p : Nat) (h : p < s.size) : (natsOf s).drop p = (s[p]'h).toNat :: (natsOf s).drop (p + 1) := by
  have hl : p < (natsOf s).length := by rw [natsOf_len]; exact h
  rw [List.drop_eq_getElem_cons hl, natsOf_at s p h]
theorem nats_endR (s : ByteArray) : (natsOf s).drop s.size = [] := List.drop_of_length_le (by rw [natsOf_len]; exact Nat.le_refl _)
theorem nats_lenR (s : ByteArray) (p : Nat) : ((natsOf s).drop p).length = s.size - p := by rw [List.length_drop, natsOf_len]

/-- the byte that is next is this one -/
def isNextR (c : Nat) (l : List Nat) : Bool := l.head? == some c
set_option maxHeartbeats 1000000 in
theorem rnext_bad (w : World) (g : Nat) (s : ByteArray) (p b : Int) (c : Nat) (hb : 0 ≤ b) (h : RdS w g s p b) :
    Calls Tryd.prog 64 #[.pointer (some ⟨g, 0, none⟩), .int .u8 (c : Int)] w fun e w' => e = .returned (.bool false) ∧ ∃ n, w' = w.drewN n := by
  have x0 := h.c0
  have x1 := h.c1
  have x2 := h.c2
  have hbd : decide (b < 0) = false := by simp; omega
  clear h
  go_enter Tryd.func64, Tryd.ntmps64
  go_wp2
  go_quiet (fail)
  go_wp2
  go_ret
  exact ⟨rfl, _, rfl⟩
set_option maxHeartbeats 1000000 in
theorem rnext_end (w : World) (g : Nat) (s : ByteArray) (c : Nat) (h : RdS w g s (s.size : Int) (-1)) :
    Calls Tryd.prog 64 #[.pointer (some ⟨g, 0, none⟩), .int .u8 (c : Int)] w fun e w' => e = .returned (.bool false) ∧ ∃ n, w' = w.drewN n := by
  have x0 := h.c0
  have x1 := h.c1
  have x2 := h.c2
  clear h
  go_enter Tryd.func64, Tryd.ntmps64
  go_wp2
  go_quiet (fail)
  go_wp2
  go_ret
  exact ⟨rfl, _, rfl⟩
set_option maxHeartbeats 1000000 in
theorem rnext_at (w : World) (g : Nat) (s : ByteArray) (p c : Nat) (hs : s.size ≤ 1000000) (hp : p < s.size) (h : RdS w g s (p : Int) (-1)) :
    Calls Tryd.prog 64 #[.pointer (some ⟨g, 0, none⟩), .int .u8 (c : Int)] w fun e w' => e = .returned (.bool (decide ((s[p]'hp).toNat = c))) ∧ ∃ n, w' = w.drewN n := by
  have x0 := h.c0
  have x1 := h.c1
  have x2 := h.c2
  have hpi : (p : Int) < (s.size : Int) := by omega
  have hpd : decide ((p : Int) < (s.size : Int)) = true := by simpa using hp
  have hp0 : (0 : Int) ≤ (p : Int) := by omega
  have hsi : (s.size : Int) ≤ 1000000 := by omega
  clear h
  go_enter Tryd.func64, Tryd.ntmps64
  go_wp2
  go_quiet (fail)
  go_wp2
  go_ret
  exact ⟨ret_bool (by rw [Bool.eq_iff_iff]; simp; omega), _, rfl⟩
/-- Is the next byte this one? -/
theorem rnext_any (w : World) (g : Nat) (s : ByteArray) (p c : Nat) (hs : s.size ≤ 1000000) (hp : p ≤ s.size) (h : RdS w g s (p : Int) (-1)) :
    Calls Tryd.prog 64 #[.pointer (some ⟨g, 0, none⟩), .int .u8 (c : Int)] w fun e w' => e = .returned (.bool (isNextR c ((natsOf s).drop p))) ∧ ∃ n, w' = w.drewN n := by
  rcases Nat.lt_or_ge p s.size with hlt | hge
  · refine (rnext_at w g s p c hs hlt h).mono fun e w' ⟨h1, h2⟩ => ⟨?_, h2⟩
    rw [h1, nats_dropR s p hlt, isNextR, List.head?_cons]
    exact ret_bool (by rw [Bool.eq_iff_iff]; simp)
  · obtain rfl : p = s.size := by omega
    refine (rnext_end w g s c h).mono fun e w' ⟨h1, h2⟩ => ⟨?_, h2⟩
    rw [h1, nats_endR]
    rfl
end Go.Proofs.YtmggajpecgnjkaaDoor

/-
  Contracts of the reference's reader of texts: in, signs, half, stroke, one. No statement of the seat is proved here.
-/
namespace Go.Proofs.YtmggajpecgnjkaaDoor
open Go Go.RowKit
set_option maxRecDepth 100000


set_option maxHeartbeats 1000000 in
theorem rin_any (c : Nat) (t : ByteArray) (ht : t.size ≤ 1000000) (w : World) : Calls Tryd.prog 99 #[.int .u8 (c : Int), .string t] w fun e w' => e = .returned (.bool ((natsOf t).contains c)) ∧ w = w' := by
  have hti : (t.size : Int) ≤ 1000000 := by omega
  have hln := natsOf_len t
  go_enter Tryd.func99, Tryd.ntmps99
  go_wp2
  go_loop [5] (fun i => ∃ k : Nat, k ≤ t.size ∧ i = .int .i64 (k : Int) ∧ Hid (((natsOf t).take k).contains c = false)) (fun i => t.size - (intOf i).toNat)
  case atStart => exact ⟨0, Nat.zero_le _, rfl, Lib.hid (by simp)⟩
  case round =>
    obtain ⟨k, hk, rfl, hno⟩ := hrel
    by_cases hlt : k < t.size
    · have hki : (k : Int) < (t.size : Int) := by omega
      have hkl : k < (natsOf t).length := by omega
      have hbk := natsOf_at t k hlt
      by_cases he : (t[k]'hlt).toNat = c
      · have Hy : Hid ((natsOf t).contains c = true) := Lib.hid (by rw [List.contains_iff_mem, ← he, ← hbk]; exact List.getElem_mem hkl)
        have hei : (((t[k]'hlt).toNat : Int) == (c : Int)) = true := by rw [beq_iff_eq]; omega
        clear hbk he
        go_wp2
        all_goals
          go_ret
          exact ⟨ret_bool (by have := Hy.out; simp at this ⊢; exact this), rfl⟩
      · have Hn : Hid (((natsOf t).take (k + 1)).contains c = false) := Lib.hid (by
          rw [List.take_succ_eq_append_getElem hkl]
          simp only [List.contains_eq_mem, List.mem_append, List.mem_singleton, decide_eq_false_iff_not, not_or]
          refine ⟨by have := hno.out; simpa using this, by rw [hbk]; omega⟩)
        have hei : (((t[k]'hlt).toNat : Int) == (c : Int)) = false := by rw [beq_eq_false_iff_ne]; omega
        clear hbk he
        go_wp2
        go_round
        case rel => exact ⟨k + 1, by omega, by go_num, Hn⟩
        case measure => simp [intOf]; omega
    · obtain rfl : k = t.size := by omega
      have Hn : Hid ((natsOf t).contains c = false) := Lib.hid (by have := hno.out; rwa [List.take_of_length_le (by omega)] at this)
      go_wp2
      go_ret
      exact ⟨ret_bool (by have := Hn.out; simp at this ⊢; exact this), rfl⟩

theorem rsigns_any (w : World) : Calls Tryd.prog 121 #[] w fun e w' => e = .returned (.string (bsN signsL)) ∧ w = w' := by
  go_enter Tryd.func121, Tryd.ntmps121
  go_wp2
  go_ret
  exact ⟨rfl, rfl⟩
theorem nats_bsNR {l : List Nat} (h : ∀ b ∈ l, b < 256) : natsOf (bsN l) = l := by
  unfold natsOf bsN
  simp only [List.map_map]
  conv => rhs; rw [← List.map_id l]
  refine List.map_congr_left fun b hb => ?_
  have := h b hb
  simp only [Function.comp, Nat.toUInt8, UInt8.toNat_ofNat', id]
  omega
theorem rins_any (c : Nat) (w : World) : Calls Tryd.prog 99 #[.int .u8 (c : Int), .string (bsN signsL)] w fun e w' => e = .returned (.bool (inS c)) ∧ w = w' := by
  have := rin_any c (bsN signsL) (by rw [bsN_size]; decide) w
  rwa [nats_bsNR (by decide)] at this

/-- a digit of sixteen, or -1 -/
def halfIR (c : Nat) : Int := match halfD c with | none => -1 | some x => (x : Int)
set_option maxHeartbeats 1000000 in
theorem rhalf_any (c : Nat) (hc : c < 256) (w : World) : Calls Tryd.prog 130 #[.int .u8 (c : Int)] w fun e w' => e = .returned (.int .i64 (halfIR c)) ∧ w = w' := by
  have h : c < 48 ∨ (48 ≤ c ∧ c ≤ 57) ∨ (58 ≤ c ∧ c < 97) ∨ (97 ≤ c ∧ c ≤ 102) ∨ 103 ≤ c := by omega
  obtain ⟨r, hr⟩ : ∃ r, halfIR c = r := ⟨_, rfl⟩
  rw [hr]
  unfold halfIR halfD at hr
  rcases h with h | h | h | h | h
  · rw [if_neg (by omega), if_neg (by omega)] at hr
    have Hr := Lib.hid hr
    clear hr
    go_enter Tryd.func130, Tryd.ntmps130
    go_wp2
    all_goals (go_ret; exact ⟨ret_eq (by rw [← Hr.out]), rfl⟩)
  · rw [if_pos h] at hr
    have Hr := Lib.hid hr
    clear hr
    go_enter Tryd.func130, Tryd.ntmps130
    go_wp2
    all_goals (go_ret; exact ⟨ret_eq (by rw [← Hr.out]; show _ = ((c - 48 : Nat) : Int); omega), rfl⟩)
  · rw [if_neg (by omega), if_neg (by omega)] at hr
    have Hr := Lib.hid hr
    clear hr
    go_enter Tryd.func130, Tryd.ntmps130
    go_wp2
    all_goals (go_ret; exact ⟨ret_eq (by rw [← Hr.out]), rfl⟩)
  · rw [if_neg (by omega), if_pos h] at hr
    have Hr := Lib.hid hr
    clear hr
    go_enter Tryd.func130, Tryd.ntmps130
    go_wp2
    all_goals (go_ret; exact ⟨ret_eq (by rw [← Hr.out]; show _ = ((c - 87 : Nat) : Int); omega), rfl⟩)
  · rw [if_neg (by omega), if_neg (by omega)] at hr
    have Hr := Lib.hid hr
    clear hr
    go_enter Tryd.func130, Tryd.ntmps130
    go_wp2
    all_goals (go_ret; exact ⟨ret_eq (by rw [← Hr.out]), rfl⟩)

/-- a call that leaves every world as it was, behind draws -/
theorem calls_drawnR {P : Program} {f : FuncId} {args : Array Value} {v : Value} (h : ∀ W, Calls P f args W fun e w' => e = .returned v ∧ w' = W) (w : World) (a n : Nat) :
    Calls P f args (w.drewN (a + n)) fun e w' => e = .returned v ∧ ∃ m, w' = w.drewN (a + m) := (h _).mono fun _ _ ⟨he, hw⟩ => ⟨he, n, hw⟩

/-! ### what a method leaves -/
/-- Behind a method that was to take 'res': if it is taken, the reader stands behind it, and the answer is as 'V' says; if not, the error's place is marked, the reader stands at most 'K' behind the text, and whatever is answered is as 'U' says. -/
def TookK (K : Nat) {α : Type} (w : World) (g : Nat) (s : ByteArray) (res : PR α) (V : α → Value → World → Prop) (U : Value → World → Prop) (e : Ending) (w' : World) : Prop :=
  Only (fun x => x = g) w w' ∧ ∃ v, e = .returned v ∧ match res with
    | .ok x rest => V x v w' ∧ ∃ p : Nat, p ≤ s.size ∧ rest = (natsOf s).drop p ∧ RdS w' g s (p : Int) (-1)
    | .bad left => U v w' ∧ left ≤ s.size ∧ ∃ p : Nat, p ≤ s.size + K ∧ RdS w' g s (p : Int) ((s.size - left : Nat) : Int)
theorem TookK.ok {K : Nat} {α : Type} {w : World} {g : Nat} {s : ByteArray} {x : α} {rest : List Nat} {V : α → Value → World → Prop} {U : Value → World → Prop} {v : Value} {w' : World} {p : Nat}
    (ho : Only (fun x => x = g) w w') (hv : V x v w') (hp : p ≤ s.size) (hr : rest = (natsOf s).drop p) (h : RdS w' g s (p : Int) (-1)) : TookK K w g s (.ok x rest) V U (.returned v) w' :=
  ⟨ho, v, rfl, hv, p, hp, hr, h⟩
theorem TookK.bad {K : Nat} {α : Type} {w : World} {g : Nat} {s : ByteArray} {left : Nat} {V : α → Value → World → Prop} {U : Value → World → Prop} {v : Value} {w' : World} {p : Nat} {b : Int}
    (ho : Only (fun x => x = g) w w') (hv : U v w') (hl : left ≤ s.size) (hp : p ≤ s.size + K) (hb : b = ((s.size - left : Nat) : Int)) (h : RdS w' g s (p : Int) b) : TookK K (α := α) w g s (.bad left) V U (.returned v) w' :=
  ⟨ho, v, rfl, hv, hl, p, hp, by rw [← hb]; exact h⟩
/-- the same, eight behind at most -/
def Took {α : Type} (w : World) (g : Nat) (s : ByteArray) (res : PR α) (V : α → Value → World → Prop) (U : Value → World → Prop) (e : Ending) (w' : World) : Prop := TookK 8 w g s res V U e w'
theorem Took.ok {α : Type} {w : World} {g : Nat} {s : ByteArray} {x : α} {rest : List Nat} {V : α → Value → World → Prop} {U : Value → World → Prop} {v : Value} {w' : World} {p : Nat}
    (ho : Only (fun x => x = g) w w') (hv : V x v w') (hp : p ≤ s.size) (hr : rest = (natsOf s).drop p) (h : RdS w' g s (p : Int) (-1)) : Took w g s (.ok x rest) V U (.returned v) w' := TookK.ok ho hv hp hr h
theorem Took.bad {α : Type} {w : World} {g : Nat} {s : ByteArray} {left : Nat} {V : α → Value → World → Prop} {U : Value → World → Prop} {v : Value} {w' : World} {p : Nat} {b : Int}
    (ho : Only (fun x => x = g) w w') (hv : U v w') (hl : left ≤ s.size) (hp : p ≤ s.size + 8) (hb : b = ((s.size - left : Nat) : Int)) (h : RdS w' g s (p : Int) b) : Took (α := α) w g s (.bad left) V U (.returned v) w' := TookK.bad ho hv hl hp hb h
/-- an answer that is a byte -/
def isBR (b : Nat) (v : Value) (_ : World) : Prop := v = .int .u8 (b : Int) ∧ b < 256
def anyBR (v : Value) (_ : World) : Prop := ∃ b : Nat, v = .int .u8 (b : Int) ∧ b < 256
end Go.Proofs.YtmggajpecgnjkaaDoor

/-
  Contract of the reference's stroke. No statement of the seat is proved here.
-/
namespace Go.Proofs.YtmggajpecgnjkaaDoor
open Go Go.RowKit
set_option maxRecDepth 100000


set_option maxRecDepth 100000 in
set_option maxHeartbeats 4000000 in
theorem rstroke_end (w : World) (g : Nat) (s : ByteArray) (p : Nat) (hs : s.size ≤ 1000000) (hp : p + 1 = s.size) (h : RdS w g s (p : Int) (-1)) :
    Calls Tryd.prog 122 #[.pointer (some ⟨g, 0, none⟩)] w (TookK 2 w g s (strokeP ((natsOf s).drop (p + 1))) isBR anyBR) := by
  have x1 := h.c1
  have f1 := h.f1
  have h1 := h.set1 ((p : Int) + 1)
  have y0 := h1.c0
  have y1 := h1.c1
  have y2 := h1.c2
  have ho1 : Only (fun x => x = g) w (w.setCell ⟨g, 1, none⟩ (.int .i64 ((p : Int) + 1))) := (Only.refl (fun x => x = g) w).setCell (p := ⟨g, 1, none⟩) (.inl rfl) _
  have H1 := Lib.hid h1
  have Ho1 := Lib.hid ho1
  have hpi : (p : Int) + 1 ≤ 1000000 := by omega
  have hse : (s.size : Int) = (p : Int) + 1 := by omega
  have hqd : decide ((s.size : Int) ≤ (p : Int) + 1) = true := by simp; omega
  have he : strokeP ((natsOf s).drop (p + 1)) = .bad 0 := by rw [hp, nats_endR]; rfl
  rw [he]
  have Hp := Lib.hid hp
  clear h h1 ho1 he hp hse
  go_enter Tryd.func122, Tryd.ntmps122
  go_wp2
  go_quiet (fail)
  go_wp2_with fail
  refine (rfail_ok _ g s ((p : Int) + 1) ((p : Int) + 1) (H1.out.drewN _)).mono ?_
  rintro e w2 ⟨rfl, h2, ho2⟩
  go_wp2
  go_ret
  exact TookK.bad (K := 2) (p := p + 1) ((Ho1.out.drewN _).trans ho2 (fun _ _ h => h)) ⟨0, rfl, by omega⟩ (by omega) (by have := Hp.out; omega) (by have := Hp.out; omega) (RdS.to h2 (by omega) rfl)

/-- a letter that is told by a stroke -/
def ntrOk (c : Nat) (k : Int) : Prop := (c = 110 → k = 0) ∧ (c = 116 → k ≤ 1) ∧ (c = 114 → k ≤ 2)

/-- two digits of sixteen, so far -/
def HexAt (l : List Nat) (k : Int) (n : Nat) : Prop :=
  (k = 1 ∧ n = 0) ∨ (k = 2 ∧ ∃ a r, l = a :: r ∧ halfD a = some n) ∨ (k = 3 ∧ ∃ a b r x y, l = a :: b :: r ∧ halfD a = some x ∧ halfD b = some y ∧ n = 16 * x + y)
theorem half_ltR {a x : Nat} (h : halfD a = some x) : x < 16 := by
  unfold halfD at h
  split at h
  · injection h; omega
  · split at h
    · injection h; omega
    · cases h

set_option maxRecDepth 100000 in
set_option maxHeartbeats 8000000 in
theorem rstroke_at (w : World) (g : Nat) (s : ByteArray) (p : Nat) (hs : s.size ≤ 1000000) (hq : p + 1 < s.size) (h : RdS w g s (p : Int) (-1)) :
    Calls Tryd.prog 122 #[.pointer (some ⟨g, 0, none⟩)] w (TookK 2 w g s (strokeP ((natsOf s).drop (p + 1))) isBR anyBR) := by
  have hsi : (s.size : Int) ≤ 1000000 := by omega
  have x1 := h.c1
  have f1 := h.f1
  have hlt := h.lt
  have h1 := h.set1 ((p : Int) + 1)
  have y0 := h1.c0
  have y1 := h1.c1
  have y2 := h1.c2
  have hpi : (p : Int) < (s.size : Int) := by omega
  have ho1 : Only (fun x => x = g) w (w.setCell ⟨g, 1, none⟩ (.int .i64 ((p : Int) + 1))) := (Only.refl (fun x => x = g) w).setCell (p := ⟨g, 1, none⟩) (.inl rfl) _
  have H1 := Lib.hid h1
  have Ho1 := Lib.hid ho1
  clear h h1 ho1
  have hqi : (p : Int) + 1 < (s.size : Int) := by omega
  have hqd : decide ((s.size : Int) ≤ (p : Int) + 1) = false := by simp; omega
  obtain ⟨c, hc⟩ : ∃ c, (s[p + 1]'hq).toNat = c := ⟨_, rfl⟩
  have hc256 : c < 256 := by rw [← hc]; exact (s[p + 1]'hq).toNat_lt
  have hdr : (natsOf s).drop (p + 1) = c :: (natsOf s).drop (p + 2) := by rw [nats_dropR s (p + 1) hq, hc]
  rw [hdr]
  clear hdr
  go_enter Tryd.func122, Tryd.ntmps122
  go_wp2
  go_quiet (fail)
  go_wp2
  go_quiet (fail)
  go_wp2
  go_loopw [5] (fun i wr => ∃ k : Int, (0 ≤ k ∧ k ≤ 3) ∧ i = .int .i64 k ∧ Hid (ntrOk c k) ∧ RdS wr g s ((p : Int) + 1) (-1) ∧ Only (fun x => x = g) w wr ∧ Blk wr w.heap.size 5 #[.int .u8 10, .int .u8 9, .int .u8 13]) (fun i _ => 3 - (intOf i).toNat)
  case atStart =>
    refine ⟨0, ⟨by omega, by omega⟩, rfl, Lib.hid ⟨by omega, by omega, by omega⟩, (H1.out.drewN _).alloc _, (Ho1.out.drewN _).alloc _, ?_⟩
    have := Blk.new ((w.setCell ⟨g, 1, none⟩ (.int .i64 ((p : Int) + 1))).drewN 0) 5 #[.int .u8 10, .int .u8 9, .int .u8 13]
    rw [show ((w.setCell ⟨g, 1, none⟩ (.int .i64 ((p : Int) + 1))).drewN 0).heap.size = w.heap.size by simp [World.setCell, World.drewN]] at this
    exact this
  case round =>
    obtain ⟨k, hk, rfl, hntr, hR, ho, hB⟩ := hrel
    clear x1 f1 y0 y1 y2
    have e0 : ((⟨#[110, 116, 114]⟩ : ByteArray)[0]'(by decide)).toNat = 110 := rfl
    have e1 : ((⟨#[110, 116, 114]⟩ : ByteArray)[1]'(by decide)).toNat = 116 := rfl
    have e2 : ((⟨#[110, 116, 114]⟩ : ByteArray)[2]'(by decide)).toNat = 114 := rfl
    have x0 := hR.c0
    have x1 := hR.c1
    have f1 := hR.f1
    have z0 := hB.cell 0
    have z1 := hB.cell 1
    have z2 := hB.cell 2
    have hR1 := hR.set1 ((p : Int) + 1 + 1)
    have hw1 : Only (fun x => x = g) w (wr.setCell ⟨g, 1, none⟩ (.int .i64 ((p : Int) + 1 + 1))) := ho.setCell (p := ⟨g, 1, none⟩) (.inl rfl) _
    have hB1 := hB.far (p := ⟨g, 1, none⟩) (by simp; omega) (.int .i64 ((p : Int) + 1 + 1))
    have v0 := hB1.cell 0
    have v1 := hB1.cell 1
    have v2 := hB1.cell 2
    have HR := Lib.hid hR
    have Ho := Lib.hid ho
    have HB := Lib.hid hB
    have HR1 := Lib.hid hR1
    have HW1 := Lib.hid hw1
    clear hR ho hB hR1 hw1 hB1
    rcases (show k = 0 ∨ k = 1 ∨ k = 2 ∨ k = 3 by omega) with rfl | rfl | rfl | rfl
    · by_cases h0 : c = 110
      · subst h0
        have hsp : strokeP (110 :: (natsOf s).drop (p + 2)) = .ok 10 ((natsOf s).drop (p + 2)) := rfl
        go_wp2
        go_ret
        exact TookK.ok (K := 2) (p := p + 2) HW1.out ⟨rfl, by omega⟩ (by omega) rfl (RdS.to HR1.out (by omega) rfl)
      · have hb : ((c : Int) == 110) = false := by rw [beq_eq_false_iff_ne]; omega
        go_wp2
        go_roundw
        case rel => exact ⟨1, ⟨by omega, by omega⟩, rfl, Lib.hid ⟨by omega, by omega, by omega⟩, HR.out, Ho.out, HB.out⟩
        case measure => simp [intOf]
    · by_cases h0 : c = 116
      · subst h0
        have hsp : strokeP (116 :: (natsOf s).drop (p + 2)) = .ok 9 ((natsOf s).drop (p + 2)) := rfl
        go_wp2
        go_ret
        exact TookK.ok (K := 2) (p := p + 2) HW1.out ⟨rfl, by omega⟩ (by omega) rfl (RdS.to HR1.out (by omega) rfl)
      · have hb : ((c : Int) == 116) = false := by rw [beq_eq_false_iff_ne]; omega
        have hn := hntr.out
        go_wp2
        go_roundw
        case rel => exact ⟨2, ⟨by omega, by omega⟩, rfl, Lib.hid ⟨by have := hn.1; omega, by omega, by omega⟩, HR.out, Ho.out, HB.out⟩
        case measure => simp [intOf]
    · by_cases h0 : c = 114
      · subst h0
        have hsp : strokeP (114 :: (natsOf s).drop (p + 2)) = .ok 13 ((natsOf s).drop (p + 2)) := rfl
        go_wp2
        go_ret
        exact TookK.ok (K := 2) (p := p + 2) HW1.out ⟨rfl, by omega⟩ (by omega) rfl (RdS.to HR1.out (by omega) rfl)
      · have hb : ((c : Int) == 114) = false := by rw [beq_eq_false_iff_ne]; omega
        have hn := hntr.out
        go_wp2
        go_roundw
        case rel => exact ⟨3, ⟨by omega, by omega⟩, rfl, Lib.hid ⟨by have := hn.1; omega, by have := hn.2.1; omega, by omega⟩, HR.out, Ho.out, HB.out⟩
        case measure => simp [intOf]
    · have hn110 : c ≠ 110 := fun e => by have := hntr.out.1 e; omega
      have hn116 : c ≠ 116 := fun e => by have := hntr.out.2.1 e; omega
      have hn114 : c ≠ 114 := fun e => by have := hntr.out.2.2 e; omega
      by_cases h120 : c = 120
      · subst h120
        have hsp : strokeP (120 :: (natsOf s).drop (p + 2)) = hexP ((natsOf s).drop (p + 2)) := rfl
        have HSP := Lib.hid hsp
        clear hsp hn110 hn116 hn114 hntr z0 z1 z2 v0 v1 v2 e0 e1 e2 hk x0 x1 f1
        go_wp2
        go_loopw [6, 7] (fun nv i wq => ∃ (k : Int) (n : Nat), (1 ≤ k ∧ k ≤ 3) ∧ i = .int .i64 k ∧ nv = .int .i64 (n : Int) ∧ n ≤ 255 ∧ Hid (HexAt ((natsOf s).drop (p + 2)) k n) ∧ RdS wq g s ((p : Int) + 1) (-1) ∧ Only (fun x => x = g) w wq) (fun _ i _ => 4 - (intOf i).toNat)
        case atStart => exact ⟨1, 0, ⟨by omega, by omega⟩, rfl, rfl, by omega, Lib.hid (.inl ⟨rfl, rfl⟩), HR.out, Ho.out⟩
        case round =>
          obtain ⟨k, n, hk, rfl, rfl, hn, hhex, hR, ho⟩ := hrel
          clear HR Ho HB HR1 HW1
          have x0 := hR.c0
          have x1 := hR.c1
          have f1 := hR.f1
          have HX : Hid (∀ (W : World) (b : Int), RdS W g s ((p : Int) + 1) b → W.cell? ⟨g, 0, none⟩ = some (.string s) ∧ W.cell? ⟨g, 1, none⟩ = some (.int .i64 ((p : Int) + 1))) := Lib.hid fun W b h => ⟨h.c0, h.c1⟩
          have HR := Lib.hid hR
          have Ho := Lib.hid ho
          have hlen2 := nats_lenR s (p + 2)
          have hlen3 := nats_lenR s (p + 3)
          clear hR ho
          rcases (show k = 1 ∨ k = 2 ∨ k = 3 by omega) with rfl | rfl | rfl
          · have hn0 : n = 0 := by
              rcases hhex.out with ⟨_, h⟩ | ⟨h, _⟩ | ⟨h, _⟩
              · exact h
              · omega
              · omega
            subst hn0
            clear hhex
            rcases Nat.lt_or_ge (p + 2) s.size with hj | hj
            · have hz0 : (((0 : Nat) : Int)) = 0 := rfl
              have hj' : p + 1 + 1 < s.size := by omega
              obtain ⟨b, hb⟩ : ∃ b, (s[p + 1 + 1]'hj').toNat = b := ⟨_, rfl⟩
              have hb256 : b < 256 := by rw [← hb]; exact (s[p + 1 + 1]'hj').toNat_lt
              have hdb : (natsOf s).drop (p + 2) = b :: (natsOf s).drop (p + 3) := by rw [show p + 2 = p + 1 + 1 by omega, nats_dropR s (p + 1 + 1) hj', hb]
              have hji : (p : Int) + 1 + 1 < (s.size : Int) := by omega
              have hq2 : decide ((s.size : Int) ≤ (p : Int) + 1 + 1) = false := by simp; omega
              have hwr : IntKind.i64.wrap ((p : Int) + 1 + 1) = (p : Int) + 1 + 1 := IntWalk.i64_in _ (by omega)
              have htn : ((p : Int) + 1 + 1).toNat = p + 1 + 1 := by omega
              have hpp : (0 : Int) ≤ (p : Int) + 1 + 1 := by omega
              have Hse : Hid (p + 2 ≤ s.size) := Lib.hid (by omega)
              cases hx : halfD b with
              | none =>
                have HH : Hid (∀ W, Calls Tryd.prog 130 #[.int .u8 (b : Int)] W fun e w' => e = .returned (.int .i64 (-1)) ∧ w' = W) := Lib.hid fun W => (rhalf_any b hb256 W).mono fun e w' ⟨h1, h2⟩ => ⟨by rw [h1, halfIR, hx], h2.symm⟩
                have HSE : Hid (hexP ((natsOf s).drop (p + 2)) = .bad (s.size - (p + 2))) := Lib.hid (by
                  have hlq := nats_lenR s (p + 3)
                  rw [hdb]; simp only [hexP, hx]; congr 1; omega)
                clear hx hdb
                go_wp2
                go_quiet ((go_at_call 130; exact Calls.quiet_of_same (HH.out _)))
                go_wp2
                go_region_held3 (fun w' => w'.cell? ⟨g, 0, none⟩ = some (.string s) ∧ w'.cell? ⟨g, 1, none⟩ = some (.int .i64 ((p : Int) + 1)))
                  (first | exact ⟨x0, x1⟩ | exact HX.out _ _ h2')
                  (first | (go_at_call 43; ((with_reducible refine (rfail_ok _ g s ((p : Int) + 1) _ ?_).mono ?_)); (first | exact HR.out | exact HR.out.drewN _); rintro e w2 ⟨rfl, h2', ho2⟩))
                have Ho2 := Lib.hid ho2
                have H2 := Lib.hid h2'
                clear ho2 h2'
                go_wp2
                go_ret
                rw [HSP.out, HSE.out]
                exact TookK.bad (K := 2) (V := isBR) (U := anyBR) (p := p + 1) (by first | exact (Ho.out.drewN _).trans Ho2.out (fun _ _ h => h) | exact (Ho.out.drewN _).drew.trans Ho2.out (fun _ _ h => h)) ⟨0, rfl, by omega⟩ (by have := Hse.out; omega) (by omega) (by have := Hse.out; omega) (RdS.to H2.out (by omega) rfl)
              | some y =>
                have hy := half_ltR hx
                have HH : Hid (∀ W, Calls Tryd.prog 130 #[.int .u8 (b : Int)] W fun e w' => e = .returned (.int .i64 (y : Int)) ∧ w' = W) := Lib.hid fun W => (rhalf_any b hb256 W).mono fun e w' ⟨h1, h2⟩ => ⟨by rw [h1, halfIR, hx], h2.symm⟩
                have hyn : decide ((y : Int) < 0) = false := by simp <;> omega
                have HN : Hid (HexAt ((natsOf s).drop (p + 2)) 2 (y)) := Lib.hid (by rw [hdb]; exact .inr (.inl ⟨rfl, _, _, rfl, hx⟩))
                have hw2 : IntKind.i64.wrap (16 * (0 : Int)) = 16 * (0 : Int) := IntWalk.i64_in _ (by omega)
                have hw3 : IntKind.i64.wrap (16 * (0 : Int) + (y : Int)) = 16 * (0 : Int) + (y : Int) := IntWalk.i64_in _ (by omega)
                clear hx hdb
                go_wp2
                go_quiet ((go_at_call 130; exact Calls.quiet_of_same (HH.out _)))
                go_wp2
                go_quiet ((go_at_call 130; exact calls_drawnR HH.out _ _ _))
                go_wp2
                go_roundw
                case rel => exact ⟨2, y, ⟨by omega, by omega⟩, rfl, int_eq (by omega), by omega, HN, HR.out.drewN _, Ho.out.drewN _⟩
                case measure => simp [intOf]
            · have hse : s.size = p + 2 := by omega
              have hq2 : decide ((s.size : Int) ≤ (p : Int) + 1 + 1) = true := by simp; omega
              have hmin : ¬ (p : Int) + 1 + 1 < (s.size : Int) := by omega
              have hwr : IntKind.i64.wrap ((p : Int) + 1 + 1) = (p : Int) + 1 + 1 := IntWalk.i64_in _ (by omega)
              have HSE : Hid (hexP ((natsOf s).drop (p + 2)) = .bad 0) := Lib.hid (by rw [← hse, nats_endR]; rfl)
              have Hse := Lib.hid hse
              clear hse
              go_wp2
              go_quiet (fail)
              go_wp2
              go_region_held3 (fun w' => w'.cell? ⟨g, 0, none⟩ = some (.string s) ∧ w'.cell? ⟨g, 1, none⟩ = some (.int .i64 ((p : Int) + 1)))
                (first | exact ⟨x0, x1⟩ | exact HX.out _ _ h2')
                (first | (go_at_call 43; ((with_reducible refine (rfail_ok _ g s ((p : Int) + 1) _ ?_).mono ?_)); (first | exact HR.out | exact HR.out.drewN _); rintro e w2 ⟨rfl, h2', ho2⟩))
              have Ho2 := Lib.hid ho2
              have H2 := Lib.hid h2'
              clear ho2 h2'
              go_wp2
              go_ret
              rw [HSP.out, HSE.out]
              exact TookK.bad (K := 2) (V := isBR) (U := anyBR) (p := p + 1) (by first | exact (Ho.out.drewN _).trans Ho2.out (fun _ _ h => h) | exact (Ho.out.drewN _).drew.trans Ho2.out (fun _ _ h => h)) ⟨0, rfl, by omega⟩ (by have := Hse.out; omega) (by omega) (by have := Hse.out; omega) (RdS.to H2.out (by omega) rfl)
          · obtain ⟨a, r, hl, ha⟩ : ∃ a r, (natsOf s).drop (p + 2) = a :: r ∧ halfD a = some n := by
              rcases hhex.out with ⟨h, _⟩ | ⟨_, h⟩ | ⟨h, _⟩
              · omega
              · exact h
              · omega
            have hj2 : p + 2 < s.size := by
              rw [hl] at hlen2
              simp only [List.length_cons] at hlen2
              omega
            have hr3 : r = (natsOf s).drop (p + 3) := by
              have := congrArg List.tail hl
              rw [List.tail_drop] at this
              exact this.symm
            subst hr3
            have Hl := Lib.hid hl
            have Ha := Lib.hid ha
            have hn16 := half_ltR ha
            clear hl ha hhex
            rcases Nat.lt_or_ge (p + 3) s.size with hj | hj
            · have hj' : p + 1 + 2 < s.size := by omega
              obtain ⟨b, hb⟩ : ∃ b, (s[p + 1 + 2]'hj').toNat = b := ⟨_, rfl⟩
              have hb256 : b < 256 := by rw [← hb]; exact (s[p + 1 + 2]'hj').toNat_lt
              have hdb : (natsOf s).drop (p + 3) = b :: (natsOf s).drop (p + 4) := by rw [show p + 3 = p + 1 + 2 by omega, nats_dropR s (p + 1 + 2) hj', hb]
              have hji : (p : Int) + 1 + 2 < (s.size : Int) := by omega
              have hq2 : decide ((s.size : Int) ≤ (p : Int) + 1 + 2) = false := by simp; omega
              have hwr : IntKind.i64.wrap ((p : Int) + 1 + 2) = (p : Int) + 1 + 2 := IntWalk.i64_in _ (by omega)
              have htn : ((p : Int) + 1 + 2).toNat = p + 1 + 2 := by omega
              have hpp : (0 : Int) ≤ (p : Int) + 1 + 2 := by omega
              have Hse : Hid (p + 3 ≤ s.size) := Lib.hid (by omega)
              cases hx : halfD b with
              | none =>
                have HH : Hid (∀ W, Calls Tryd.prog 130 #[.int .u8 (b : Int)] W fun e w' => e = .returned (.int .i64 (-1)) ∧ w' = W) := Lib.hid fun W => (rhalf_any b hb256 W).mono fun e w' ⟨h1, h2⟩ => ⟨by rw [h1, halfIR, hx], h2.symm⟩
                have HSE : Hid (hexP ((natsOf s).drop (p + 2)) = .bad (s.size - (p + 3))) := Lib.hid (by
                  have hlq := nats_lenR s (p + 4)
                  rw [Hl.out, hdb]; simp only [hexP, Ha.out, hx]; congr 1; omega)
                clear hx hdb
                go_wp2
                go_quiet ((go_at_call 130; exact Calls.quiet_of_same (HH.out _)))
                go_wp2
                go_region_held3 (fun w' => w'.cell? ⟨g, 0, none⟩ = some (.string s) ∧ w'.cell? ⟨g, 1, none⟩ = some (.int .i64 ((p : Int) + 1)))
                  (first | exact ⟨x0, x1⟩ | exact HX.out _ _ h2')
                  (first | (go_at_call 43; ((with_reducible refine (rfail_ok _ g s ((p : Int) + 1) _ ?_).mono ?_)); (first | exact HR.out | exact HR.out.drewN _); rintro e w2 ⟨rfl, h2', ho2⟩))
                have Ho2 := Lib.hid ho2
                have H2 := Lib.hid h2'
                clear ho2 h2'
                go_wp2
                go_ret
                rw [HSP.out, HSE.out]
                exact TookK.bad (K := 2) (V := isBR) (U := anyBR) (p := p + 1) (by first | exact (Ho.out.drewN _).trans Ho2.out (fun _ _ h => h) | exact (Ho.out.drewN _).drew.trans Ho2.out (fun _ _ h => h)) ⟨0, rfl, by omega⟩ (by have := Hse.out; omega) (by omega) (by have := Hse.out; omega) (RdS.to H2.out (by omega) rfl)
              | some y =>
                have hy := half_ltR hx
                have HH : Hid (∀ W, Calls Tryd.prog 130 #[.int .u8 (b : Int)] W fun e w' => e = .returned (.int .i64 (y : Int)) ∧ w' = W) := Lib.hid fun W => (rhalf_any b hb256 W).mono fun e w' ⟨h1, h2⟩ => ⟨by rw [h1, halfIR, hx], h2.symm⟩
                have hyn : decide ((y : Int) < 0) = false := by simp <;> omega
                have HN : Hid (HexAt ((natsOf s).drop (p + 2)) 3 (16 * n + y)) := Lib.hid (by rw [Hl.out, hdb]; exact .inr (.inr ⟨rfl, _, _, _, _, _, rfl, Ha.out, hx, rfl⟩))
                have hw2 : IntKind.i64.wrap (16 * (n : Int)) = 16 * (n : Int) := IntWalk.i64_in _ (by omega)
                have hw3 : IntKind.i64.wrap (16 * (n : Int) + (y : Int)) = 16 * (n : Int) + (y : Int) := IntWalk.i64_in _ (by omega)
                clear hx hdb
                go_wp2
                go_quiet ((go_at_call 130; exact Calls.quiet_of_same (HH.out _)))
                go_wp2
                go_quiet ((go_at_call 130; exact calls_drawnR HH.out _ _ _))
                go_wp2
                go_roundw
                case rel => exact ⟨3, 16 * n + y, ⟨by omega, by omega⟩, rfl, int_eq (by omega), by omega, HN, HR.out.drewN _, Ho.out.drewN _⟩
                case measure => simp [intOf]
            · have hse : s.size = p + 3 := by omega
              have hq2 : decide ((s.size : Int) ≤ (p : Int) + 1 + 2) = true := by simp; omega
              have hmin : ¬ (p : Int) + 1 + 2 < (s.size : Int) := by omega
              have hwr : IntKind.i64.wrap ((p : Int) + 1 + 2) = (p : Int) + 1 + 2 := IntWalk.i64_in _ (by omega)
              have HSE : Hid (hexP ((natsOf s).drop (p + 2)) = .bad 0) := Lib.hid (by rw [Hl.out, ← hse, nats_endR]; simp only [hexP, Ha.out])
              have Hse := Lib.hid hse
              clear hse
              go_wp2
              go_quiet (fail)
              go_wp2
              go_region_held3 (fun w' => w'.cell? ⟨g, 0, none⟩ = some (.string s) ∧ w'.cell? ⟨g, 1, none⟩ = some (.int .i64 ((p : Int) + 1)))
                (first | exact ⟨x0, x1⟩ | exact HX.out _ _ h2')
                (first | (go_at_call 43; ((with_reducible refine (rfail_ok _ g s ((p : Int) + 1) _ ?_).mono ?_)); (first | exact HR.out | exact HR.out.drewN _); rintro e w2 ⟨rfl, h2', ho2⟩))
              have Ho2 := Lib.hid ho2
              have H2 := Lib.hid h2'
              clear ho2 h2'
              go_wp2
              go_ret
              rw [HSP.out, HSE.out]
              exact TookK.bad (K := 2) (V := isBR) (U := anyBR) (p := p + 1) (by first | exact (Ho.out.drewN _).trans Ho2.out (fun _ _ h => h) | exact (Ho.out.drewN _).drew.trans Ho2.out (fun _ _ h => h)) ⟨0, rfl, by omega⟩ (by have := Hse.out; omega) (by omega) (by have := Hse.out; omega) (RdS.to H2.out (by omega) rfl)
          · obtain ⟨a, b, r, x, y, hl, ha, hb, hnx⟩ : ∃ a b r x y, (natsOf s).drop (p + 2) = a :: b :: r ∧ halfD a = some x ∧ halfD b = some y ∧ n = 16 * x + y := by
              rcases hhex.out with ⟨h, _⟩ | ⟨h, _⟩ | ⟨_, h⟩
              · omega
              · omega
              · exact h
            have hj2 : p + 4 ≤ s.size := by
              rw [hl] at hlen2
              simp only [List.length_cons] at hlen2
              omega
            have hr3 : r = (natsOf s).drop (p + 4) := by
              have := congrArg (fun l => List.tail (List.tail l)) hl
              simp only [List.tail_drop, List.tail_cons] at this
              exact this.symm
            have HSE : Hid (hexP ((natsOf s).drop (p + 2)) = .ok n ((natsOf s).drop (p + 4))) := Lib.hid (by rw [hl, hnx, hr3]; simp only [hexP, ha, hb])
            have hR3 := HR.out.set1 ((p : Int) + 1 + 3)
            have HR3 := Lib.hid hR3
            have Ho3 := Lib.hid (Ho.out.setCell (p := ⟨g, 1, none⟩) (.inl rfl) (.int .i64 ((p : Int) + 1 + 3)))
            clear hl ha hb hnx hr3 hhex hR3 hlen2 hlen3
            go_wp2
            go_ret
            rw [HSP.out, HSE.out]
            exact TookK.ok (K := 2) (V := isBR) (U := anyBR) (p := p + 4) Ho3.out ⟨rfl, by omega⟩ hj2 rfl (RdS.to HR3.out (by omega) rfl)
      · have hsp : strokeP (c :: (natsOf s).drop (p + 2)) = if inS c then .ok c ((natsOf s).drop (p + 2)) else .bad (((natsOf s).drop (p + 2)).length + 1) := by
          simp only [strokeP]
          rw [if_neg hn110, if_neg hn116, if_neg hn114, if_neg h120]
        have hb : ((c : Int) == 120) = false := by rw [beq_eq_false_iff_ne]; omega
        obtain ⟨ib, hib⟩ : ∃ b, inS c = b := ⟨_, rfl⟩
        have HI := Lib.hid fun W => rins_any c W
        rw [hib] at HI hsp
        have HSP := Lib.hid hsp
        clear hsp hn110 hn116 hn114 h120 hib hntr
        cases ib with
        | true =>
          go_wp2_with (first | (go_at_call 121; (with_reducible refine (rsigns_any _).mono ?_); rintro e w' ⟨rfl, rfl⟩) | (go_at_call 99; (with_reducible refine (HI.out _).mono ?_); rintro e w' ⟨rfl, rfl⟩))
          go_ret
          rw [HSP.out, if_pos trivial]
          exact TookK.ok (K := 2) (V := isBR) (U := anyBR) (p := p + 2) HW1.out ⟨rfl, hc256⟩ (by omega) rfl (RdS.to HR1.out (by omega) rfl)
        | false =>
          go_wp2_with (first | (go_at_call 121; (with_reducible refine (rsigns_any _).mono ?_); rintro e w' ⟨rfl, rfl⟩) | (go_at_call 99; (with_reducible refine (HI.out _).mono ?_); rintro e w' ⟨rfl, rfl⟩))
          refine (rfail_ok _ g s ((p : Int) + 1) ((p : Int) + 1) HR.out).mono ?_
          rintro e w2 ⟨rfl, h2, ho2⟩
          have u1 := h2.c1
          have u2 := h2.f1
          have h3 := h2.set1 ((p : Int) + 1 + 1)
          have H3 := Lib.hid h3
          have Ho3 := Lib.hid ((Ho.out.trans ho2 (fun _ _ h => h)).setCell (p := ⟨g, 1, none⟩) (.inl rfl) (.int .i64 ((p : Int) + 1 + 1)))
          have hlen := nats_lenR s (p + 2)
          clear h2 h3 ho2
          go_wp2
          go_ret
          rw [HSP.out, if_neg (by simp)]
          exact TookK.bad (K := 2) (V := isBR) (U := anyBR) (p := p + 2) Ho3.out ⟨c, rfl, hc256⟩ (by omega) (by omega) (by omega) (RdS.to H3.out (by omega) rfl)
end Go.Proofs.YtmggajpecgnjkaaDoor

/-
  Contract of the reference's one (a byte). No statement of the seat is proved here.
-/
namespace Go.Proofs.YtmggajpecgnjkaaDoor
open Go Go.RowKit
set_option maxRecDepth 100000


theorem rstroke_any (w : World) (g : Nat) (s : ByteArray) (p : Nat) (hs : s.size ≤ 1000000) (hp : p < s.size) (h : RdS w g s (p : Int) (-1)) :
    Calls Tryd.prog 122 #[.pointer (some ⟨g, 0, none⟩)] w (TookK 2 w g s (strokeP ((natsOf s).drop (p + 1))) isBR anyBR) := by
  rcases Nat.lt_or_ge (p + 1) s.size with hq | hq
  · exact rstroke_at w g s p hs hq h
  · exact rstroke_end w g s p hs (by omega) h

set_option maxRecDepth 100000 in
set_option maxHeartbeats 2000000 in
theorem rbyte_bad (w : World) (g : Nat) (s : ByteArray) (p b : Int) (hb : 0 ≤ b) (h : RdS w g s p b) :
    Calls Tryd.prog 101 #[.pointer (some ⟨g, 0, none⟩)] w fun e w' => e = .returned (.int .u8 0) ∧ w = w' := by
  have x2 := h.c2
  clear h
  go_enter Tryd.func101, Tryd.ntmps101
  go_wp2
  go_ret
  exact ⟨rfl, rfl⟩

set_option maxRecDepth 100000 in
set_option maxHeartbeats 4000000 in
/-- a byte that stands for itself -/
theorem rbyte_plain (w : World) (g : Nat) (s : ByteArray) (p c : Nat) (hs : s.size ≤ 1000000) (hlt : p < s.size) (hc : (s[p]'hlt).toNat = c) (hc256 : c < 256) (hib : inS c = false) (h92 : ¬ c = 92) (h : RdS w g s (p : Int) (-1)) :
    Calls Tryd.prog 101 #[.pointer (some ⟨g, 0, none⟩)] w (TookK 2 w g s (.ok c ((natsOf s).drop (p + 1))) isBR anyBR) := by
  have x0 := h.c0
  have x1 := h.c1
  have x2 := h.c2
  have f1 := h.f1
  have hsi : (s.size : Int) ≤ 1000000 := by omega
  have hp0 : (0 : Int) ≤ (p : Int) := by omega
  have hq : decide (s.size ≤ p) = false := by simp; omega
  have hpi : (p : Int) < (s.size : Int) := by omega
  have HS : Hid (∀ W, Calls Tryd.prog 121 #[] W fun e w' => e = .returned (.string (bsN signsL)) ∧ w' = W) := Lib.hid fun W => (rsigns_any W).mono fun e w' ⟨h1, h2⟩ => ⟨h1, h2.symm⟩
  have HI : Hid (∀ W, Calls Tryd.prog 99 #[.int .u8 (c : Int), .string (bsN signsL)] W fun e w' => e = .returned (.bool false) ∧ w' = W) := Lib.hid fun W => (rins_any c W).mono fun e w' ⟨h1, h2⟩ => ⟨by rw [h1, hib], h2.symm⟩
  have h92n : ((c : Int) != 92) = true := by rw [bne_iff_ne]; omega
  have h92e : ((c : Int) == 92) = false := by rw [beq_eq_false_iff_ne]; omega
  clear h92
  have hR1 := h.set1 ((p : Int) + 1)
  have HR1 := Lib.hid hR1
  have Ho1 := Lib.hid ((Only.refl (fun x => x = g) w).setCell (p := ⟨g, 1, none⟩) (.inl rfl) (.int .i64 ((p : Int) + 1)))
  have Hc := Lib.hid hc256
  have H := Lib.hid h
  clear hR1 h hib hc256
  go_enter Tryd.func101, Tryd.ntmps101
  go_wp2
  go_quiet ((first | (go_at_call 121; exact Calls.quiet_of_same (HS.out _)) | (go_at_call 99; exact Calls.quiet_of_same (HI.out _))))
  go_wp2
  go_quiet (fail)
  go_wp2
  have y0 := HR1.out.c0
  have y1 := HR1.out.c1
  have hw1 : IntKind.i64.wrap ((p : Int) + 1 - 1) = (p : Int) := by rw [show (p : Int) + 1 - 1 = (p : Int) by omega]; exact IntWalk.i64_in _ (by omega)
  go_quiet (fail)
  go_wp2
  go_ret
  exact TookK.ok (K := 2) (V := isBR) (U := anyBR) (p := p + 1) ((((Only.refl (fun x => x = g) w).drewN _).setCell (p := ⟨g, 1, none⟩) (.inl rfl) _).drewN _) ⟨rfl, Hc.out⟩ (by omega) rfl (RdS.to (((H.out.drewN _).set1 _).drewN _) (by omega) rfl)

set_option maxRecDepth 100000 in
set_option maxHeartbeats 4000000 in
theorem rbyte_any (w : World) (g : Nat) (s : ByteArray) (p : Nat) (hs : s.size ≤ 1000000) (hp : p ≤ s.size) (h : RdS w g s (p : Int) (-1)) :
    Calls Tryd.prog 101 #[.pointer (some ⟨g, 0, none⟩)] w (TookK 2 w g s (byteP ((natsOf s).drop p)) isBR anyBR) := by
  have hsi : (s.size : Int) ≤ 1000000 := by omega
  have x0 := h.c0
  have x1 := h.c1
  have x2 := h.c2
  have f1 := h.f1
  have H := Lib.hid h
  have hp0 : (0 : Int) ≤ (p : Int) := by omega
  have HS : Hid (∀ W, Calls Tryd.prog 121 #[] W fun e w' => e = .returned (.string (bsN signsL)) ∧ w' = W) := Lib.hid fun W => (rsigns_any W).mono fun e w' ⟨h1, h2⟩ => ⟨h1, h2.symm⟩
  clear h
  rcases Nat.lt_or_ge p s.size with hlt | hge
  case inr =>
    have he : p = s.size := by omega
    have HP : Hid (byteP ((natsOf s).drop p) = .bad 0) := Lib.hid (by rw [he, nats_endR]; rfl)
    have hq : decide (s.size ≤ p) = true := by simp; omega
    have He := Lib.hid he
    clear he
    go_enter Tryd.func101, Tryd.ntmps101
    go_wp2
    go_quiet (fail)
    go_wp2_with fail
    refine (rfail_ok _ g s (p : Int) (p : Int) (H.out.drewN _)).mono ?_
    rintro e w2 ⟨rfl, h2, ho2⟩
    have H2 := Lib.hid h2
    have Ho2 := Lib.hid ho2
    clear h2 ho2
    go_wp2
    go_ret
    rw [HP.out]
    exact TookK.bad (K := 2) (V := isBR) (U := anyBR) (p := p) (((Only.refl (fun x => x = g) w).drewN _).trans Ho2.out (fun _ _ h => h)) ⟨0, rfl, by omega⟩ (by omega) (by omega) (by have := He.out; omega) H2.out
  obtain ⟨c, hc⟩ : ∃ c, (s[p]'hlt).toNat = c := ⟨_, rfl⟩
  have hc256 : c < 256 := by rw [← hc]; exact (s[p]'hlt).toNat_lt
  have hdr : (natsOf s).drop p = c :: (natsOf s).drop (p + 1) := by rw [nats_dropR s p hlt, hc]
  have hq : decide (s.size ≤ p) = false := by simp; omega
  have hpi : (p : Int) < (s.size : Int) := by omega
  have hlen := nats_lenR s (p + 1)
  by_cases h92 : c = 92
  · subst h92
    have HI : Hid (∀ W, Calls Tryd.prog 99 #[.int .u8 ((92 : Nat) : Int), .string (bsN signsL)] W fun e w' => e = .returned (.bool true) ∧ w' = W) := Lib.hid fun W => (rins_any 92 W).mono fun e w' ⟨h1, h2⟩ => ⟨h1, h2.symm⟩
    have HP : Hid (byteP ((natsOf s).drop p) = strokeP ((natsOf s).drop (p + 1))) := Lib.hid (by rw [hdr]; rfl)
    have HK := Lib.hid fun (W : World) (hW : RdS W g s (p : Int) (-1)) => rstroke_any W g s p hs hlt hW
    clear hdr
    go_enter Tryd.func101, Tryd.ntmps101
    go_wp2
    go_quiet ((first | (go_at_call 121; exact Calls.quiet_of_same (HS.out _)) | (go_at_call 99; exact Calls.quiet_of_same (HI.out _))))
    go_wp2
    go_quiet (fail)
    go_wp2_with fail
    refine (HK.out _ (H.out.drewN _)).mono ?_
    rintro e w2 ⟨ho2, v, rfl, hpost⟩
    have Hpost := Lib.hid hpost
    have Ho2 := Lib.hid ho2
    clear hpost ho2
    go_wp2
    go_ret
    rw [HP.out]
    exact ⟨((Only.refl (fun x => x = g) w).drewN _).trans Ho2.out (fun _ _ h => h), v, rfl, Hpost.out⟩
  have h92n : ((c : Int) != 92) = true := by rw [bne_iff_ne]; omega
  have h92e : ((c : Int) == 92) = false := by rw [beq_eq_false_iff_ne]; omega
  have hP : byteP (c :: (natsOf s).drop (p + 1)) = if inS c then .bad (((natsOf s).drop (p + 1)).length + 1) else .ok c ((natsOf s).drop (p + 1)) := by
    simp only [byteP]
    rw [if_neg h92]
  rw [← hdr] at hP
  obtain ⟨ib, hib⟩ : ∃ b, inS c = b := ⟨_, rfl⟩
  have HI : Hid (∀ W, Calls Tryd.prog 99 #[.int .u8 (c : Int), .string (bsN signsL)] W fun e w' => e = .returned (.bool ib) ∧ w' = W) := Lib.hid fun W => (rins_any c W).mono fun e w' ⟨h1, h2⟩ => ⟨by rw [h1, hib], h2.symm⟩
  rw [hib] at hP
  have HP := Lib.hid hP
  have H92 := Lib.hid h92
  have Hib := Lib.hid hib
  clear hP hib hdr h92
  cases ib with
  | true =>
    go_enter Tryd.func101, Tryd.ntmps101
    go_wp2
    go_quiet ((first | (go_at_call 121; exact Calls.quiet_of_same (HS.out _)) | (go_at_call 99; exact Calls.quiet_of_same (HI.out _))))
    go_wp2_with fail
    refine (rfail_ok _ g s (p : Int) (p : Int) (H.out.drewN _)).mono ?_
    rintro e w2 ⟨rfl, h2, ho2⟩
    have H2 := Lib.hid h2
    have Ho2 := Lib.hid ho2
    clear h2 ho2
    go_wp2
    go_ret
    rw [HP.out, if_pos trivial]
    exact TookK.bad (K := 2) (V := isBR) (U := anyBR) (p := p) (((Only.refl (fun x => x = g) w).drewN _).trans Ho2.out (fun _ _ h => h)) ⟨0, rfl, by omega⟩ (by omega) (by omega) (by omega) H2.out
  | false =>
    rw [HP.out, if_neg (by simp)]
    exact rbyte_plain w g s p c hs hlt hc hc256 Hib.out H92.out H.out
end Go.Proofs.YtmggajpecgnjkaaDoor

/-
  Contract of the reference's digits. No statement of the seat is proved here.
-/
namespace Go.Proofs.YtmggajpecgnjkaaDoor
open Go Go.RowKit
set_option maxRecDepth 100000


/-- an answer that is a number -/
def isIR (n : Int) (v : Value) (_ : World) : Prop := v = .int .i64 n
def minusI (v : Value) (_ : World) : Prop := v = .int .i64 (-1)
/-- digits, so far -/
def DigAt (p : Nat) (l : List Nat) (k n q : Int) : Prop :=
  (k = 0 ∧ n = 0 ∧ q = p) ∨ (k = 1 ∧ q = (p : Int) + 1 ∧ ∃ a r, l = a :: r ∧ digB a = true ∧ n = (a : Int) - 48) ∨
    (k = 2 ∧ q = (p : Int) + 1 + 1 ∧ ∃ a b r, l = a :: b :: r ∧ digB a = true ∧ digB b = true ∧ n = 10 * ((a : Int) - 48) + ((b : Int) - 48))
theorem dig_iffR (c : Nat) : digB c = true ↔ 48 ≤ c ∧ c ≤ 57 := by simp [digB]

set_option maxRecDepth 100000 in
set_option maxHeartbeats 16000000 in
theorem rdigits_any (w : World) (g : Nat) (s : ByteArray) (p : Nat) (hs : s.size ≤ 1000000) (hp : p ≤ s.size) (h : RdS w g s (p : Int) (-1)) :
    Calls Tryd.prog 118 #[.pointer (some ⟨g, 0, none⟩)] w (Took w g s (digitsP ((natsOf s).drop p)) isIR minusI) := by
  have hsi : (s.size : Int) ≤ 1000000 := by omega
  have H := Lib.hid h
  clear h
  go_enter Tryd.func118, Tryd.ntmps118
  go_wp2
  go_loopw [3, 4] (fun nv kv wr => ∃ (k n q : Int), kv = .int .i64 k ∧ nv = .int .i64 n ∧ Hid (DigAt p ((natsOf s).drop p) k n q) ∧ RdS wr g s q (-1) ∧ Only (fun x => x = g) w wr) (fun _ kv _ => 3 - (intOf kv).toNat)
  case atStart => exact ⟨0, 0, p, rfl, rfl, Lib.hid (.inl ⟨rfl, rfl, rfl⟩), H.out, Only.refl _ _⟩
  case round =>
    obtain ⟨k, n, q, rfl, rfl, hdig, hR, ho⟩ := hrel
    have HR := Lib.hid hR
    have Ho := Lib.hid ho
    rcases hdig.out with ⟨rfl, rfl, rfl⟩ | ⟨rfl, rfl, a, r, hl, ha, rfl⟩ | ⟨rfl, rfl, a, b, r, hl, ha, hb, rfl⟩
    · have x0 := hR.c0
      have x1 := hR.c1
      have f1 := hR.f1
      have hp0 : (0 : Int) ≤ (p : Int) := by omega
      clear hdig hR ho
      rcases Nat.lt_or_ge p s.size with hlt | hge
      · obtain ⟨a, hc⟩ : ∃ c, (s[p]'hlt).toNat = c := ⟨_, rfl⟩
        have ha256 : a < 256 := by rw [← hc]; exact (s[p]'hlt).toNat_lt
        have hdr : (natsOf s).drop p = a :: (natsOf s).drop (p + 1) := by rw [nats_dropR s p hlt, hc]
        have hq : decide (p < s.size) = true := by simpa using hlt
        have hpi : (p : Int) < (s.size : Int) := by omega
        have hlen := nats_lenR s (p + 1)
        by_cases hd : digB a = true
        · have HN : Hid (DigAt p ((natsOf s).drop p) 1 ((a : Int) - 48) ((p : Int) + 1)) := Lib.hid (.inr (.inl ⟨rfl, rfl, a, _, hdr, hd, rfl⟩))
          have hdd := (dig_iffR _).1 hd
          have g1 : decide (48 ≤ a) = true := by simp; omega
          have g2 : decide ((48 : Int) ≤ (a : Int)) = true := by simp; omega
          have g3 : (48 : Int) ≤ (a : Int) := by omega
          have g4 : decide (a ≤ 57) = true := by simp; omega
          have g5 : decide ((a : Int) ≤ 57) = true := by simp; omega
          have g6 : (a : Int) ≤ 57 := by omega
          have hw1 : IntKind.i64.wrap (a : Int) = (a : Int) := IntWalk.i64_in _ (by omega)
          have hw2 : IntKind.i64.wrap ((a : Int) - 48) = (a : Int) - 48 := IntWalk.i64_in _ (by omega)
          clear hdr hd hdd
          go_wp2
          go_quiet (fail)
          go_wp2
          go_quiet (fail)
          go_wp2
          go_roundw
          case rel => exact ⟨1, (a : Int) - 48, (p : Int) + 1, rfl, int_eq (by omega), HN, (HR.out.drewN _).set1 _, ((Ho.out.drewN _).setCell (p := ⟨g, 1, none⟩) (.inl rfl) _)⟩
          case measure => simp [intOf]
        · have hnd : a < 48 ∨ 57 < a := by rw [dig_iffR] at hd; omega
          clear hd
          rcases hnd with hnd | hnd
          · have g1 : decide (48 ≤ a) = false := by simp; omega
            have g2 : decide ((48 : Int) ≤ (a : Int)) = false := by simp; omega
            have g3 : (a : Int) < 48 := by omega
            have HP : Hid (digitsP ((natsOf s).drop p) = .bad (((natsOf s).drop (p + 1)).length + 1)) := Lib.hid (by
              rw [hdr]
              simp only [digitsP]
              rw [if_neg (by rw [dig_iffR]; omega)])
            clear hdr
            go_wp2
            go_quiet (fail)
            go_wp2_with fail
            refine (rfail_ok _ g s (p : Int) (p : Int) (HR.out.drewN _)).mono ?_
            rintro e w2 ⟨rfl, h2, ho2⟩
            have H2 := Lib.hid h2
            have Ho2 := Lib.hid ho2
            clear h2 ho2
            go_wp2
            go_ret
            rw [HP.out]
            exact Took.bad (V := isIR) (U := minusI) (p := p) ((Ho.out.drewN _).trans Ho2.out (fun _ _ h => h)) rfl (by omega) (by omega) (by omega) H2.out
          · have g1 : decide (48 ≤ a) = true := by simp; omega
            have g2 : decide ((48 : Int) ≤ (a : Int)) = true := by simp; omega
            have g3 : (48 : Int) ≤ (a : Int) := by omega
            have g4 : decide (a ≤ 57) = false := by simp; omega
            have g5 : decide ((a : Int) ≤ 57) = false := by simp; omega
            have g6 : (57 : Int) < (a : Int) := by omega
            have HP : Hid (digitsP ((natsOf s).drop p) = .bad (((natsOf s).drop (p + 1)).length + 1)) := Lib.hid (by
              rw [hdr]
              simp only [digitsP]
              rw [if_neg (by rw [dig_iffR]; omega)])
            clear hdr
            go_wp2
            go_quiet (fail)
            go_wp2_with fail
            refine (rfail_ok _ g s (p : Int) (p : Int) (HR.out.drewN _)).mono ?_
            rintro e w2 ⟨rfl, h2, ho2⟩
            have H2 := Lib.hid h2
            have Ho2 := Lib.hid ho2
            clear h2 ho2
            go_wp2
            go_ret
            rw [HP.out]
            exact Took.bad (V := isIR) (U := minusI) (p := p) ((Ho.out.drewN _).trans Ho2.out (fun _ _ h => h)) rfl (by omega) (by omega) (by omega) H2.out
      · have he : p = s.size := by omega
        have HP : Hid (digitsP ((natsOf s).drop p) = .bad 0) := Lib.hid (by rw [he, nats_endR]; rfl)
        have hq : decide (p < s.size) = false := by simp; omega
        have He := Lib.hid he
        clear he
        go_wp2
        go_quiet (fail)
        go_wp2_with fail
        refine (rfail_ok _ g s (p : Int) (p : Int) (HR.out.drewN _)).mono ?_
        rintro e w2 ⟨rfl, h2, ho2⟩
        have H2 := Lib.hid h2
        have Ho2 := Lib.hid ho2
        clear h2 ho2
        go_wp2
        go_ret
        rw [HP.out]
        exact Took.bad (V := isIR) (U := minusI) (p := p) ((Ho.out.drewN _).trans Ho2.out (fun _ _ h => h)) rfl (by omega) (by omega) (by have := He.out; omega) H2.out
    · have hlp : p < s.size := by
        have := nats_lenR s p
        rw [hl] at this
        simp only [List.length_cons] at this
        omega
      have hr1 : r = (natsOf s).drop (p + 1) := by
        have := congrArg List.tail hl
        rw [List.tail_drop] at this
        exact this.symm
      have hda := (dig_iffR _).1 ha
      have x0 := hR.c0
      have x1 := hR.c1
      have f1 := hR.f1
      have hp0 : (0 : Int) ≤ (p : Int) + 1 := by omega
      clear hdig hR ho
      rcases Nat.lt_or_ge (p + 1) s.size with hlt | hge
      · obtain ⟨b, hc⟩ : ∃ c, (s[p + 1]'hlt).toNat = c := ⟨_, rfl⟩
        have hdr : (natsOf s).drop (p + 1) = b :: (natsOf s).drop (p + 2) := by rw [nats_dropR s (p + 1) hlt, hc]
        have hq : decide ((p : Int) + 1 < (s.size : Int)) = true := by simp; omega
        have hpi : (p : Int) + 1 < (s.size : Int) := by omega
        have htn : ((p : Int) + 1).toNat = p + 1 := by omega
        by_cases hd : digB b = true
        · have HN : Hid (DigAt p ((natsOf s).drop p) 2 (10 * ((a : Int) - 48) + ((b : Int) - 48)) ((p : Int) + 1 + 1)) := Lib.hid (.inr (.inr ⟨rfl, rfl, a, b, _, by rw [hl, hr1, hdr], ha, hd, rfl⟩))
          have hdd := (dig_iffR _).1 hd
          have g1 : decide (48 ≤ b) = true := by simp; omega
          have g2 : decide ((48 : Int) ≤ (b : Int)) = true := by simp; omega
          have g3 : (48 : Int) ≤ (b : Int) := by omega
          have g4 : decide (b ≤ 57) = true := by simp; omega
          have g5 : decide ((b : Int) ≤ 57) = true := by simp; omega
          have g6 : (b : Int) ≤ 57 := by omega
          have hw1 : IntKind.i64.wrap (10 * ((a : Int) - 48)) = 10 * ((a : Int) - 48) := IntWalk.i64_in _ (by omega)
          have hw2 : IntKind.i64.wrap (10 * ((a : Int) - 48) + (b : Int)) = 10 * ((a : Int) - 48) + (b : Int) := IntWalk.i64_in _ (by omega)
          have hw3 : IntKind.i64.wrap (10 * ((a : Int) - 48) + (b : Int) - 48) = 10 * ((a : Int) - 48) + (b : Int) - 48 := IntWalk.i64_in _ (by omega)
          clear hdr hd hdd hl ha hr1
          go_wp2
          go_quiet (fail)
          go_wp2
          go_quiet (fail)
          go_wp2
          go_roundw
          case rel => exact ⟨2, 10 * ((a : Int) - 48) + ((b : Int) - 48), (p : Int) + 1 + 1, rfl, int_eq (by omega), HN, (HR.out.drewN _).set1 _, ((Ho.out.drewN _).setCell (p := ⟨g, 1, none⟩) (.inl rfl) _)⟩
          case measure => simp [intOf]
        · have hnd : b < 48 ∨ 57 < b := by rw [dig_iffR] at hd; omega
          clear hd
          rcases hnd with hnd | hnd
          · have g1 : decide (48 ≤ b) = false := by simp; omega
            have g2 : decide ((48 : Int) ≤ (b : Int)) = false := by simp; omega
            have g3 : (b : Int) < 48 := by omega
            have HP : Hid (digitsP ((natsOf s).drop p) = .ok ((a : Int) - 48) ((natsOf s).drop (p + 1))) := Lib.hid (by
              rw [hl, hr1]
              simp only [digitsP]
              rw [if_pos ha, hdr]
              simp only
              rw [if_neg (by rw [dig_iffR]; omega)])
            clear hdr hl ha hr1
            go_wp2
            go_quiet (fail)
            go_wp2
            go_ret
            rw [HP.out]
            exact Took.ok (V := isIR) (U := minusI) (p := p + 1) (Ho.out.drewN _) rfl (by omega) rfl (RdS.to (HR.out.drewN _) (by omega) rfl)
          · have g1 : decide (48 ≤ b) = true := by simp; omega
            have g2 : decide ((48 : Int) ≤ (b : Int)) = true := by simp; omega
            have g3 : (48 : Int) ≤ (b : Int) := by omega
            have g4 : decide (b ≤ 57) = false := by simp; omega
            have g5 : decide ((b : Int) ≤ 57) = false := by simp; omega
            have g6 : (57 : Int) < (b : Int) := by omega
            have HP : Hid (digitsP ((natsOf s).drop p) = .ok ((a : Int) - 48) ((natsOf s).drop (p + 1))) := Lib.hid (by
              rw [hl, hr1]
              simp only [digitsP]
              rw [if_pos ha, hdr]
              simp only
              rw [if_neg (by rw [dig_iffR]; omega)])
            clear hdr hl ha hr1
            go_wp2
            go_quiet (fail)
            go_wp2
            go_ret
            rw [HP.out]
            exact Took.ok (V := isIR) (U := minusI) (p := p + 1) (Ho.out.drewN _) rfl (by omega) rfl (RdS.to (HR.out.drewN _) (by omega) rfl)
      · have he : p + 1 = s.size := by omega
        have HP : Hid (digitsP ((natsOf s).drop p) = .ok ((a : Int) - 48) ((natsOf s).drop (p + 1))) := Lib.hid (by
          rw [hl, hr1, he, nats_endR]
          simp only [digitsP]
          rw [if_pos ha])
        have hq : decide ((p : Int) + 1 < (s.size : Int)) = false := by simp; omega
        clear he hl ha hr1
        go_wp2
        go_quiet (fail)
        go_wp2
        go_ret
        rw [HP.out]
        exact Took.ok (V := isIR) (U := minusI) (p := p + 1) (Ho.out.drewN _) rfl (by omega) rfl (RdS.to (HR.out.drewN _) (by omega) rfl)
    · have hlp : p + 1 < s.size := by
        have := nats_lenR s p
        rw [hl] at this
        simp only [List.length_cons] at this
        omega
      have hr2 : r = (natsOf s).drop (p + 2) := by
        have := congrArg (fun l => List.tail (List.tail l)) hl
        simp only [List.tail_drop, List.tail_cons] at this
        exact this.symm
      have HP : Hid (digitsP ((natsOf s).drop p) = .ok (10 * ((a : Int) - 48) + ((b : Int) - 48)) ((natsOf s).drop (p + 2))) := Lib.hid (by
        rw [hl, hr2]
        simp only [digitsP]
        rw [if_pos ha, if_pos hb])
      have x0 := hR.c0
      have x1 := hR.c1
      have f1 := hR.f1
      clear hdig hR ho hl hr2 ha hb
      go_wp2
      go_quiet (fail)
      go_wp2
      go_ret
      rw [HP.out]
      exact Took.ok (V := isIR) (U := minusI) (p := p + 2) (Ho.out.drewN _) rfl (by omega) rfl (RdS.to (HR.out.drewN _) (by omega) rfl)
end Go.Proofs.YtmggajpecgnjkaaDoor

/-
  Contract of the reference's curly. No statement of the seat is proved here.
-/
namespace Go.Proofs.YtmggajpecgnjkaaDoor
open Go Go.RowKit
set_option maxRecDepth 100000


/-- an answer that is two numbers -/
def isP (x : Int × Int) (v : Value) (_ : World) : Prop := v = .tuple #[.int .i64 x.1, .int .i64 x.2] ∧ isInt x.1 ∧ isInt x.2
def anyP (v : Value) (_ : World) : Prop := ∃ a b : Int, v = .tuple #[.int .i64 a, .int .i64 b] ∧ isInt a ∧ isInt b
theorem curlyEnd_no {l : List Nat} (lo hi : Int) (h : isNextR 125 l = false) : curlyEnd lo hi l = .bad l.length := by
  unfold curlyEnd
  split
  · simp [isNextR] at h
  · rfl
theorem isNext_at (s : ByteArray) (q c : Nat) (hq : q ≤ s.size) (h : isNextR c ((natsOf s).drop q) = true) : q < s.size ∧ (natsOf s).drop q = c :: (natsOf s).drop (q + 1) := by
  rcases Nat.lt_or_ge q s.size with hlt | hge
  · refine ⟨hlt, ?_⟩
    rw [nats_dropR s q hlt] at h ⊢
    simp only [isNextR, List.head?_cons, beq_iff_eq, Option.some.injEq] at h
    rw [h]
  · obtain rfl : q = s.size := by omega
    rw [nats_endR] at h
    simp [isNextR] at h
theorem digits_intR {l : List Nat} {n : Int} {r : List Nat} (hl : ∀ b ∈ l, b < 256) (h : digitsP l = .ok n r) : isInt n := by
  unfold digitsP at h
  unfold isInt
  rcases l with _ | ⟨a, l1⟩
  · cases h
  · have ha := hl a (by simp)
    simp only at h
    split at h
    · rcases l1 with _ | ⟨b, l2⟩
      · simp only [PR.ok.injEq] at h; omega
      · have hb := hl b (by simp)
        simp only at h
        split at h <;> (simp only [PR.ok.injEq] at h; omega)
    · cases h
theorem drop_lt (s : ByteArray) (p : Nat) : ∀ b ∈ (natsOf s).drop p, b < 256 := fun b hb => natsOf_lt s b (List.mem_of_mem_drop hb)

set_option maxRecDepth 100000 in
set_option maxHeartbeats 16000000 in
theorem rcurly_any (w : World) (g : Nat) (s : ByteArray) (p : Nat) (hs : s.size ≤ 1000000) (hp : p < s.size) (h : RdS w g s (p : Int) (-1)) :
    Calls Tryd.prog 98 #[.pointer (some ⟨g, 0, none⟩)] w (Took w g s (curlyP ((natsOf s).drop (p + 1))) isP anyP) := by
  have hsi : (s.size : Int) ≤ 1000000 := by omega
  have hpi : (p : Int) ≤ 1000000 := by omega
  have x1 := h.c1
  have f1 := h.f1
  have h1 : RdS (w.setCell ⟨g, 1, none⟩ (.int .i64 ((p : Int) + 1))) g s ((p + 1 : Nat) : Int) (-1) := RdS.to (h.set1 ((p : Int) + 1)) (by omega) rfl
  have H1 := Lib.hid h1
  have Ho1 := Lib.hid ((Only.refl (fun x => x = g) w).setCell (p := ⟨g, 1, none⟩) (.inl rfl) (.int .i64 ((p : Int) + 1)))
  clear h h1
  go_enter Tryd.func98, Tryd.ntmps98
  go_wp2_with fail
  refine (rdigits_any _ g s (p + 1) hs (by omega) H1.out).mono ?_
  rintro e w2 ⟨ho2, v, rfl, hpost⟩
  have Ho2 := Lib.hid (Ho1.out.trans ho2 (fun _ _ h => h))
  clear ho2 x1 f1
  cases hd : digitsP ((natsOf s).drop (p + 1)) with
  | bad left =>
    rw [hd] at hpost
    obtain ⟨rfl, hleft, pb, hpb, h2⟩ := hpost
    have HP : Hid (curlyP ((natsOf s).drop (p + 1)) = .bad left) := Lib.hid (by unfold curlyP; rw [hd]; rfl)
    have H2 := Lib.hid h2
    have q0 := h2.c0
    have q1 := h2.c1
    have q2 := h2.c2
    have q3 := h2.f1
    clear h2 hd
    go_wp2_with fail
    refine (rnext_bad _ g s _ _ 44 (by omega) H2.out).mono ?_
    rintro e wy ⟨rfl, ny, rfl⟩
    go_wp2_with fail
    refine (rnext_bad _ g s _ _ 125 (by omega) (H2.out.drewN _)).mono ?_
    rintro e wz ⟨rfl, nz, rfl⟩
    go_wp2_with fail
    refine (rfail_bad _ g s _ _ _ (by omega) (H2.out.drewN _)).mono ?_
    rintro e wf ⟨rfl, hf, hof⟩
    have HF := Lib.hid hf
    have HoF := Lib.hid hof
    clear hf hof
    go_wp2
    go_ret2
    rw [HP.out]
    exact Took.bad (V := isP) (U := anyP) ((Ho2.out.drewN _).trans HoF.out (fun _ _ h => h)) ⟨0, 0, rfl, by unfold isInt; omega, by unfold isInt; omega⟩ hleft hpb rfl HF.out
  | ok lo l1 =>
    rw [hd] at hpost
    obtain ⟨rfl, p1, hp1, hl1, h2⟩ := hpost
    subst hl1
    have HIlo := Lib.hid (digits_intR (drop_lt s (p + 1)) hd)
    have H2 := Lib.hid h2
    have q0 := h2.c0
    have q1 := h2.c1
    have q2 := h2.c2
    have q3 := h2.f1
    clear h2
    obtain ⟨nby, hnby⟩ : ∃ b, isNextR 44 ((natsOf s).drop p1) = b := ⟨_, rfl⟩
    have HNy : Hid (∀ W, RdS W g s ((p1 : Nat) : Int) (-1) → Calls Tryd.prog 64 #[.pointer (some ⟨g, 0, none⟩), .int .u8 44] W fun e w' => e = .returned (.bool nby) ∧ ∃ n, w' = W.drewN n) := Lib.hid fun W hW => by
      have := rnext_any W g s p1 44 hs hp1 hW
      rw [hnby] at this
      exact this
    cases nby with
    | false =>
      have HIhi := HIlo
      have HP : Hid (curlyP ((natsOf s).drop (p + 1)) = curlyEnd lo lo ((natsOf s).drop p1)) := Lib.hid (by
        unfold curlyP
        rw [hd]
        simp only [PR.bind]
        split
        · rename_i h; rw [h] at hnby; simp [isNextR] at hnby
        · rfl)
      clear hd hnby
      go_wp2_with fail
      refine (HNy.out _ H2.out).mono ?_
      rintro e wy ⟨rfl, ny, rfl⟩
      obtain ⟨nbz, hnbz⟩ : ∃ b, isNextR 125 ((natsOf s).drop p1) = b := ⟨_, rfl⟩
      have HNz : Hid (∀ W, RdS W g s ((p1 : Nat) : Int) (-1) → Calls Tryd.prog 64 #[.pointer (some ⟨g, 0, none⟩), .int .u8 125] W fun e w' => e = .returned (.bool nbz) ∧ ∃ n, w' = W.drewN n) := Lib.hid fun W hW => by
        have := rnext_any W g s p1 125 hs hp1 hW
        rw [hnbz] at this
        exact this
      cases nbz with
      | false =>
        have HE : Hid (curlyEnd lo lo ((natsOf s).drop p1) = .bad (s.size - p1)) := Lib.hid (by rw [curlyEnd_no _ _ hnbz, nats_lenR])
        clear hnbz
        go_wp2_with fail
        refine (HNz.out _ (H2.out.drewN _)).mono ?_
        rintro e wz ⟨rfl, nz, rfl⟩
        go_wp2_with fail
        refine (rfail_ok _ g s ((p1 : Nat) : Int) ((p1 : Nat) : Int) (H2.out.drewN _)).mono ?_
        rintro e wf ⟨rfl, hf, hof⟩
        have HF := Lib.hid hf
        have HoF := Lib.hid hof
        clear hf hof
        go_wp2
        go_ret2
        rw [HP.out, HE.out]
        exact Took.bad (V := isP) (U := anyP) (p := p1) ((Ho2.out.drewN _).trans HoF.out (fun _ _ h => h)) ⟨0, 0, rfl, by unfold isInt; omega, by unfold isInt; omega⟩ (by omega) (by omega) (by omega) HF.out
      | true =>
        obtain ⟨hqs, hqd⟩ := isNext_at s p1 125 hp1 hnbz
        have HE : Hid (curlyEnd lo lo ((natsOf s).drop p1) = if repB lo lo then .ok (lo, lo) ((natsOf s).drop (p1 + 1)) else .bad (((natsOf s).drop (p1 + 1)).length + 1)) := Lib.hid (by rw [hqd]; rfl)
        obtain ⟨rb, hrb⟩ : ∃ b, repB lo lo = b := ⟨_, rfl⟩
        have HRp : Hid (∀ W, Calls Tryd.prog 69 #[.int .i64 lo, .int .i64 lo] W fun e w' => e = .returned (.bool rb) ∧ W = w') := Lib.hid fun W => by
          have := rrep_any lo lo W
          rw [hrb] at this
          exact this
        have Hrb := Lib.hid hrb
        have hqlen := nats_lenR s (p1 + 1)
        clear hnbz hqd hrb
        go_wp2_with fail
        refine (HNz.out _ (H2.out.drewN _)).mono ?_
        rintro e wz ⟨rfl, nz, rfl⟩
        go_wp2_with fail
        refine (HRp.out _).mono ?_
        rintro e wz2 ⟨rfl, rfl⟩
        cases rb with
        | true =>
          go_wp2
          go_ret2
          rw [HP.out, HE.out, Hrb.out, if_pos rfl]
          exact Took.ok (V := isP) (U := anyP) (p := p1 + 1) ((Ho2.out.drewN _).setCell (p := ⟨g, 1, none⟩) (.inl rfl) _) ⟨rfl, HIlo.out, HIhi.out⟩ (by omega) rfl (RdS.to ((H2.out.drewN _).set1 _) (by omega) rfl)
        | false =>
          go_wp2_with fail
          refine (rfail_ok _ g s ((p1 : Nat) : Int) ((p1 : Nat) : Int) (H2.out.drewN _)).mono ?_
          rintro e wf ⟨rfl, hf, hof⟩
          have z1 := hf.c1
          have z2 := hf.f1
          have HF := Lib.hid hf
          have HoF := Lib.hid hof
          clear hf hof
          go_wp2
          go_ret2
          rw [HP.out, HE.out, Hrb.out, if_neg (by simp)]
          exact Took.bad (V := isP) (U := anyP) (p := p1 + 1) (((Ho2.out.drewN _).trans HoF.out (fun _ _ h => h)).setCell (p := ⟨g, 1, none⟩) (.inl rfl) _) ⟨lo, lo, rfl, HIlo.out, HIhi.out⟩ (by omega) (by omega) (by omega) (RdS.to (HF.out.set1 _) (by omega) rfl)
    | true =>
      obtain ⟨hp1s, hp1d⟩ := isNext_at s p1 44 hp1 hnby
      have hq1 : p1 + 1 ≤ s.size := by omega
      have HP0 : curlyP ((natsOf s).drop (p + 1)) = if ((natsOf s).drop (p1 + 1)).head? = some 125 then curlyEnd lo (-1) ((natsOf s).drop (p1 + 1)) else (digitsP ((natsOf s).drop (p1 + 1))).bind fun hi l3 => curlyEnd lo hi l3 := by
        unfold curlyP
        rw [hd]
        simp only [PR.bind]
        rw [hp1d]
        rfl
      have HP1 := Lib.hid HP0
      clear hd hnby hp1d HP0
      go_wp2_with fail
      refine (HNy.out _ H2.out).mono ?_
      rintro e wy ⟨rfl, ny, rfl⟩
      have H3 := Lib.hid (RdS.to ((H2.out.drewN ny).set1 ((p1 : Int) + 1)) (show (p1 : Int) + 1 = ((p1 + 1 : Nat) : Int) by omega) rfl)
      have Ho3 := Lib.hid ((Ho2.out.drewN ny).setCell (p := ⟨g, 1, none⟩) (.inl rfl) (.int .i64 ((p1 : Int) + 1)))
      have hp1i : (p1 : Int) ≤ 1000000 := by omega
      obtain ⟨nbx, hnbx⟩ : ∃ b, isNextR 125 ((natsOf s).drop (p1 + 1)) = b := ⟨_, rfl⟩
      have HNx : Hid (∀ W, RdS W g s (((p1 + 1) : Nat) : Int) (-1) → Calls Tryd.prog 64 #[.pointer (some ⟨g, 0, none⟩), .int .u8 125] W fun e w' => e = .returned (.bool nbx) ∧ ∃ n, w' = W.drewN n) := Lib.hid fun W hW => by
        have := rnext_any W g s (p1 + 1) 125 hs hq1 hW
        rw [hnbx] at this
        exact this
      go_wp2_with fail
      refine (HNx.out _ H3.out).mono ?_
      rintro e wx ⟨rfl, nx, rfl⟩
      have H4 := Lib.hid (H3.out.drewN nx)
      have Ho4 := Lib.hid (Ho3.out.drewN nx)
      cases nbx with
      | true =>
        have HIhi : Hid (isInt (-1)) := Lib.hid (by unfold isInt; omega)
        have HP : Hid (curlyP ((natsOf s).drop (p + 1)) = curlyEnd lo (-1) ((natsOf s).drop (p1 + 1))) := Lib.hid (by
          rw [HP1.out, if_pos]
          simpa [isNextR] using hnbx)
        clear hnbx
        obtain ⟨nbz, hnbz⟩ : ∃ b, isNextR 125 ((natsOf s).drop (p1 + 1)) = b := ⟨_, rfl⟩
        have HNz : Hid (∀ W, RdS W g s (((p1 + 1) : Nat) : Int) (-1) → Calls Tryd.prog 64 #[.pointer (some ⟨g, 0, none⟩), .int .u8 125] W fun e w' => e = .returned (.bool nbz) ∧ ∃ n, w' = W.drewN n) := Lib.hid fun W hW => by
          have := rnext_any W g s (p1 + 1) 125 hs hq1 hW
          rw [hnbz] at this
          exact this
        cases nbz with
        | false =>
          have HE : Hid (curlyEnd lo (-1) ((natsOf s).drop (p1 + 1)) = .bad (s.size - (p1 + 1))) := Lib.hid (by rw [curlyEnd_no _ _ hnbz, nats_lenR])
          clear hnbz
          go_wp2_with fail
          refine (HNz.out _ (H3.out.drewN _)).mono ?_
          rintro e wz ⟨rfl, nz, rfl⟩
          go_wp2_with fail
          refine (rfail_ok _ g s (((p1 + 1) : Nat) : Int) (((p1 + 1) : Nat) : Int) (H3.out.drewN _)).mono ?_
          rintro e wf ⟨rfl, hf, hof⟩
          have HF := Lib.hid hf
          have HoF := Lib.hid hof
          clear hf hof
          go_wp2
          go_ret2
          rw [HP.out, HE.out]
          exact Took.bad (V := isP) (U := anyP) (p := (p1 + 1)) ((Ho3.out.drewN _).trans HoF.out (fun _ _ h => h)) ⟨0, 0, rfl, by unfold isInt; omega, by unfold isInt; omega⟩ (by omega) (by omega) (by omega) HF.out
        | true =>
          obtain ⟨hqs, hqd⟩ := isNext_at s (p1 + 1) 125 hq1 hnbz
          have HE : Hid (curlyEnd lo (-1) ((natsOf s).drop (p1 + 1)) = if repB lo (-1) then .ok (lo, (-1)) ((natsOf s).drop ((p1 + 1) + 1)) else .bad (((natsOf s).drop ((p1 + 1) + 1)).length + 1)) := Lib.hid (by rw [hqd]; rfl)
          obtain ⟨rb, hrb⟩ : ∃ b, repB lo (-1) = b := ⟨_, rfl⟩
          have HRp : Hid (∀ W, Calls Tryd.prog 69 #[.int .i64 lo, .int .i64 (-1)] W fun e w' => e = .returned (.bool rb) ∧ W = w') := Lib.hid fun W => by
            have := rrep_any lo (-1) W
            rw [hrb] at this
            exact this
          have Hrb := Lib.hid hrb
          have hqlen := nats_lenR s ((p1 + 1) + 1)
          clear hnbz hqd hrb
          go_wp2_with fail
          refine (HNz.out _ (H3.out.drewN _)).mono ?_
          rintro e wz ⟨rfl, nz, rfl⟩
          go_wp2_with fail
          refine (HRp.out _).mono ?_
          rintro e wz2 ⟨rfl, rfl⟩
          cases rb with
          | true =>
            go_wp2
            go_ret2
            rw [HP.out, HE.out, Hrb.out, if_pos rfl]
            exact Took.ok (V := isP) (U := anyP) (p := (p1 + 1) + 1) ((Ho3.out.drewN _).setCell (p := ⟨g, 1, none⟩) (.inl rfl) _) ⟨rfl, HIlo.out, HIhi.out⟩ (by omega) rfl (RdS.to ((H3.out.drewN _).set1 _) (by omega) rfl)
          | false =>
            go_wp2_with fail
            refine (rfail_ok _ g s (((p1 + 1) : Nat) : Int) (((p1 + 1) : Nat) : Int) (H3.out.drewN _)).mono ?_
            rintro e wf ⟨rfl, hf, hof⟩
            have z1 := hf.c1
            have z2 := hf.f1
            have HF := Lib.hid hf
            have HoF := Lib.hid hof
            clear hf hof
            go_wp2
            go_ret2
            rw [HP.out, HE.out, Hrb.out, if_neg (by simp)]
            exact Took.bad (V := isP) (U := anyP) (p := (p1 + 1) + 1) (((Ho3.out.drewN _).trans HoF.out (fun _ _ h => h)).setCell (p := ⟨g, 1, none⟩) (.inl rfl) _) ⟨lo, (-1), rfl, HIlo.out, HIhi.out⟩ (by omega) (by omega) (by omega) (RdS.to (HF.out.set1 _) (by omega) rfl)
      | false =>
        have HP2 : Hid (curlyP ((natsOf s).drop (p + 1)) = (digitsP ((natsOf s).drop (p1 + 1))).bind fun hi l3 => curlyEnd lo hi l3) := Lib.hid (by
          rw [HP1.out, if_neg]
          intro h
          simp [isNextR, h] at hnbx)
        clear hnbx
        go_wp2_with fail
        refine (rdigits_any _ g s (p1 + 1) hs (by omega) H4.out).mono ?_
        rintro e w5 ⟨ho5, v5, rfl, hpost⟩
        have Ho5 := Lib.hid (Ho4.out.trans ho5 (fun _ _ h => h))
        clear ho5
        cases hd : digitsP ((natsOf s).drop (p1 + 1)) with
        | bad left =>
          rw [hd] at hpost
          obtain ⟨rfl, hleft, pb, hpb, h5⟩ := hpost
          have HP : Hid (curlyP ((natsOf s).drop (p + 1)) = .bad left) := Lib.hid (by rw [HP2.out, hd]; rfl)
          have H5 := Lib.hid h5
          clear q0 q1 q2 q3
          have q0 := h5.c0
          have q1 := h5.c1
          have q2 := h5.c2
          have q3 := h5.f1
          clear h5 hd
          go_wp2_with fail
          refine (rnext_bad _ g s _ _ 125 (by omega) H5.out).mono ?_
          rintro e wz ⟨rfl, nz, rfl⟩
          go_wp2_with fail
          refine (rfail_bad _ g s _ _ _ (by omega) (H5.out.drewN _)).mono ?_
          rintro e wf ⟨rfl, hf, hof⟩
          have HF := Lib.hid hf
          have HoF := Lib.hid hof
          clear hf hof
          go_wp2
          go_ret2
          rw [HP.out]
          exact Took.bad (V := isP) (U := anyP) ((Ho5.out.drewN _).trans HoF.out (fun _ _ h => h)) ⟨0, 0, rfl, by unfold isInt; omega, by unfold isInt; omega⟩ hleft hpb rfl HF.out
        | ok hi l3 =>
          rw [hd] at hpost
          obtain ⟨rfl, p3, hp3, hl3, h5⟩ := hpost
          subst hl3
          have HIhi := Lib.hid (digits_intR (drop_lt s (p1 + 1)) hd)
          have HP : Hid (curlyP ((natsOf s).drop (p + 1)) = curlyEnd lo hi ((natsOf s).drop p3)) := Lib.hid (by rw [HP2.out, hd]; rfl)
          have H5 := Lib.hid h5
          clear q0 q1 q2 q3
          have q0 := h5.c0
          have q1 := h5.c1
          have q2 := h5.c2
          have q3 := h5.f1
          clear h5 hd
          obtain ⟨nbz, hnbz⟩ : ∃ b, isNextR 125 ((natsOf s).drop p3) = b := ⟨_, rfl⟩
          have HNz : Hid (∀ W, RdS W g s ((p3 : Nat) : Int) (-1) → Calls Tryd.prog 64 #[.pointer (some ⟨g, 0, none⟩), .int .u8 125] W fun e w' => e = .returned (.bool nbz) ∧ ∃ n, w' = W.drewN n) := Lib.hid fun W hW => by
            have := rnext_any W g s p3 125 hs hp3 hW
            rw [hnbz] at this
            exact this
          cases nbz with
          | false =>
            have HE : Hid (curlyEnd lo hi ((natsOf s).drop p3) = .bad (s.size - p3)) := Lib.hid (by rw [curlyEnd_no _ _ hnbz, nats_lenR])
            clear hnbz
            go_wp2_with fail
            refine (HNz.out _ H5.out).mono ?_
            rintro e wz ⟨rfl, nz, rfl⟩
            go_wp2_with fail
            refine (rfail_ok _ g s ((p3 : Nat) : Int) ((p3 : Nat) : Int) (H5.out.drewN _)).mono ?_
            rintro e wf ⟨rfl, hf, hof⟩
            have HF := Lib.hid hf
            have HoF := Lib.hid hof
            clear hf hof
            go_wp2
            go_ret2
            rw [HP.out, HE.out]
            exact Took.bad (V := isP) (U := anyP) (p := p3) ((Ho5.out.drewN _).trans HoF.out (fun _ _ h => h)) ⟨0, 0, rfl, by unfold isInt; omega, by unfold isInt; omega⟩ (by omega) (by omega) (by omega) HF.out
          | true =>
            obtain ⟨hqs, hqd⟩ := isNext_at s p3 125 hp3 hnbz
            have HE : Hid (curlyEnd lo hi ((natsOf s).drop p3) = if repB lo hi then .ok (lo, hi) ((natsOf s).drop (p3 + 1)) else .bad (((natsOf s).drop (p3 + 1)).length + 1)) := Lib.hid (by rw [hqd]; rfl)
            obtain ⟨rb, hrb⟩ : ∃ b, repB lo hi = b := ⟨_, rfl⟩
            have HRp : Hid (∀ W, Calls Tryd.prog 69 #[.int .i64 lo, .int .i64 hi] W fun e w' => e = .returned (.bool rb) ∧ W = w') := Lib.hid fun W => by
              have := rrep_any lo hi W
              rw [hrb] at this
              exact this
            have Hrb := Lib.hid hrb
            have hqlen := nats_lenR s (p3 + 1)
            clear hnbz hqd hrb
            go_wp2_with fail
            refine (HNz.out _ H5.out).mono ?_
            rintro e wz ⟨rfl, nz, rfl⟩
            go_wp2_with fail
            refine (HRp.out _).mono ?_
            rintro e wz2 ⟨rfl, rfl⟩
            cases rb with
            | true =>
              go_wp2
              go_ret2
              rw [HP.out, HE.out, Hrb.out, if_pos rfl]
              exact Took.ok (V := isP) (U := anyP) (p := p3 + 1) ((Ho5.out.drewN _).setCell (p := ⟨g, 1, none⟩) (.inl rfl) _) ⟨rfl, HIlo.out, HIhi.out⟩ (by omega) rfl (RdS.to ((H5.out.drewN _).set1 _) (by omega) rfl)
            | false =>
              go_wp2_with fail
              refine (rfail_ok _ g s ((p3 : Nat) : Int) ((p3 : Nat) : Int) (H5.out.drewN _)).mono ?_
              rintro e wf ⟨rfl, hf, hof⟩
              have z1 := hf.c1
              have z2 := hf.f1
              have HF := Lib.hid hf
              have HoF := Lib.hid hof
              clear hf hof
              go_wp2
              go_ret2
              rw [HP.out, HE.out, Hrb.out, if_neg (by simp)]
              exact Took.bad (V := isP) (U := anyP) (p := p3 + 1) (((Ho5.out.drewN _).trans HoF.out (fun _ _ h => h)).setCell (p := ⟨g, 1, none⟩) (.inl rfl) _) ⟨lo, hi, rfl, HIlo.out, HIhi.out⟩ (by omega) (by omega) (by omega) (RdS.to (HF.out.set1 _) (by omega) rfl)
end Go.Proofs.YtmggajpecgnjkaaDoor

/-
  Words for the reference's methods that answer an expression; its times behind an error. No statement of the seat is proved here.
-/
namespace Go.Proofs.YtmggajpecgnjkaaDoor
open Go Go.RowKit
set_option maxRecDepth 100000


/-- an answer that is an expression, no row of which lies in the reader's block -/
def isReR (d0 g : Nat) (x : Ex) (v : Value) (w : World) : Prop := ∃ cs, v = reV cs ∧ ReR (fun b => b ≠ g ∧ d0 ≤ b) w x cs
def anyRe (d0 g : Nat) (v : Value) (w : World) : Prop := ∃ x, isReR d0 g x v w
theorem isReR.any {d0 g : Nat} {x : Ex} {v : Value} {w : World} (h : isReR d0 g x v w) : anyRe d0 g v w := ⟨x, h⟩
/-- rows that were there, apart from a block made since -/
theorem ReR.old {d0 g h : Nat} {w w' : World} {x : Ex} {cs : List Value} (hx : ReR (fun b => b ≠ g ∧ d0 ≤ b) w x cs) (hh : w.heap.size ≤ h) (ho : Only (fun b => b = g) w w') : ReR (fun b => (b ≠ g ∧ d0 ≤ b) ∧ b ≠ h) w' x cs :=
  ReR.keep (fun b hb hl => ho.block b hl hb.1) (fun b hb hl => ⟨hb, by omega⟩) _ hx

set_option maxRecDepth 100000 in
set_option maxHeartbeats 8000000 in
theorem rtimesx_bad (w : World) (d0 : Nat) (hd0 : d0 ≤ w.heap.size) (g : Nat) (s : ByteArray) (p b : Int) (hb : 0 ≤ b) (h : RdS w g s p b) (x : Ex) (cs : List Value) (hx : ReR (fun b => b ≠ g ∧ d0 ≤ b) w x cs) :
    Calls Tryd.prog 78 #[.pointer (some ⟨g, 0, none⟩), reV cs] w fun e w' => ∃ v, e = .returned v ∧ isReR d0 g x v w' ∧ RdS w' g s p b ∧ Only (fun b => b = g) w w' := by
  obtain ⟨k, p0, p1, p2, p3, ks, A, c, lo, hi, rfl, rfl, h1, h2, -, -, -, hs, h3⟩ := hx.fields
  have hlt := h.lt
  have hxo := hx.old (h := w.heap.size + 1) (by omega) (Only.refl _ w)
  have h0 := (h.alloc (Obj.cells #[.int .i64 k, .int .u64 (p0 : Int), .int .u64 (p1 : Int), .int .u64 (p2 : Int), .int .u64 (p3 : Int), .slice A ks.length c, .int .i64 lo, .int .i64 hi] 27)).alloc (Obj.cells zeroReR 27)
  have hB1 := (Blk.new w 27 #[.int .i64 k, .int .u64 (p0 : Int), .int .u64 (p1 : Int), .int .u64 (p2 : Int), .int .u64 (p3 : Int), .slice A ks.length c, .int .i64 lo, .int .i64 hi]).alloc (Obj.cells zeroReR 27)
  have hB2 := Blk.new (w.alloc (Obj.cells #[.int .i64 k, .int .u64 (p0 : Int), .int .u64 (p1 : Int), .int .u64 (p2 : Int), .int .u64 (p3 : Int), .slice A ks.length c, .int .i64 lo, .int .i64 hi] 27)) 27 zeroReR
  rw [World.size_alloc] at hB2
  have ho := ((Only.refl (fun b => b = g) w).alloc (Obj.cells #[.int .i64 k, .int .u64 (p0 : Int), .int .u64 (p1 : Int), .int .u64 (p2 : Int), .int .u64 (p3 : Int), .slice A ks.length c, .int .i64 lo, .int .i64 hi] 27)).alloc (Obj.cells zeroReR 27)
  obtain ⟨w0, hw0⟩ : ∃ w0, w0 = (w.alloc (Obj.cells #[.int .i64 k, .int .u64 (p0 : Int), .int .u64 (p1 : Int), .int .u64 (p2 : Int), .int .u64 (p3 : Int), .slice A ks.length c, .int .i64 lo, .int .i64 hi] 27)).alloc (Obj.cells zeroReR 27) := ⟨_, rfl⟩
  rw [← hw0] at h0 hB1 hB2 ho
  have hxn := ReR.ext hx (show Below w.heap.size w w0 by rw [hw0]; exact ext2 w _ _)
  have hxo0 := ReR.ext hxo (show Below w.heap.size w w0 by rw [hw0]; exact ext2 w _ _)
  have Hw0 := Lib.hid hw0
  have H0 := Lib.hid h0
  have HB1 := Lib.hid hB1
  have HB2 := Lib.hid hB2
  have Ho := Lib.hid ho
  have Hxo := Lib.hid hxo0
  have hone : (#[.int .i64 k, .int .u64 (p0 : Int), .int .u64 (p1 : Int), .int .u64 (p2 : Int), .int .u64 (p3 : Int), .slice A ks.length c, .int .i64 lo, .int .i64 hi] : Array Value).all (·.oneCell') = true := by simp [Value.oneCell']
  have Hone := Lib.hid hone
  clear h hx hxo h0 hB1 hB2 ho hxn hxo0 hw0 hs h3 hone
  unfold reV
  go_enter Tryd.func78, Tryd.ntmps78
  go_wp2_with fail
  have e0 : (w.alloc (Obj.cells #[.int .i64 k, .int .u64 (p0 : Int), .int .u64 (p1 : Int), .int .u64 (p2 : Int), .int .u64 (p3 : Int), .slice A ks.length c, .int .i64 lo, .int .i64 hi] 27)).alloc (Obj.cells #[.int .i64 0, .int .u64 0, .int .u64 0, .int .u64 0, .int .u64 0, .slice none 0 0, .int .i64 0, .int .i64 0] 27) = w0 := Hw0.out.symm
  rw [e0]
  clear e0
  refine (rnext_bad _ g s p b 42 hb H0.out).mono ?_
  rintro e wa ⟨rfl, na, rfl⟩
  go_wp2_with fail
  refine (rnext_bad _ g s p b 43 hb (H0.out.drewN _)).mono ?_
  rintro e wb ⟨rfl, nb, rfl⟩
  go_wp2_with fail
  refine (rnext_bad _ g s p b 63 hb (H0.out.drewN _)).mono ?_
  rintro e wc ⟨rfl, nc, rfl⟩
  go_wp2_with fail
  refine (rnext_bad _ g s p b 123 hb (H0.out.drewN _)).mono ?_
  rintro e wd ⟨rfl, nd, rfl⟩
  have c0 := HB1.out.cell 0
  have c1 := HB1.out.cell 1
  have c2 := HB1.out.cell 2
  have c3 := HB1.out.cell 3
  have c4 := HB1.out.cell 4
  have c5 := HB1.out.cell 5
  have c6 := HB1.out.cell 6
  have c7 := HB1.out.cell 7
  go_wp2_with (refine wpList_store_re rfl _ _ rfl (w.heap.size + 1) rfl rfl rfl rfl Hone.out (HB2.out.drewN _) ?_; intro w3 hB3 ho3)
  refine bodyPost_ret (results_re rfl _ _ (w.heap.size + 1) _ _ rfl hB3 rfl) rfl ⟨_, rfl, ⟨_, rfl, ?_⟩, ?_, ?_⟩
  · exact ReR.mono ((Hxo.out.ext (ext_drewN (Below.refl _ _) _)).only ho3 (fun b hb h => hb.2 h)) (fun b hb _ => hb.1)
  · exact (H0.out.drewN _).only ho3 (by omega)
  · exact (Ho.out.drewN _).trans ho3 (fun i hi h => by omega)
end Go.Proofs.YtmggajpecgnjkaaDoor
