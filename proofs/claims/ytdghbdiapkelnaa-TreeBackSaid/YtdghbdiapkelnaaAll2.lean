/-
  Texts of this claim, joined (part 2): contracts and lemmas that the last text goes by. No statement of the seat is proved here.
-/
import Derived.Test.YtdghbdiapkelnaaAll0
import Derived.Test.YtdghbdiapkelnaaAll1
import Derived.Test.YtdghbdiapkelnaaRows
import Derived.Deep.QuietTactic
import Derived.BigQuiet
import Derived.Deep.RegionHeld3
import Derived.Deep.RegionWith
import Derived.Deep.DeepCutAuto
import Derived.Deep.DeepMust
import Derived.Laws.IdiomStrings
set_option linter.unusedVariables false
set_option linter.unusedSimpArgs false
/-
  Parts and tokens in memory: rows of two cells each. No statement of the seat is proved here.
-/
namespace Go.Proofs.Ytdghbdiapkelnaa
open Go Go.RowKit
set_option maxRecDepth 100000

def encP (p : Prt) : List Value := [.bool p.any, strV p.text]
def encT (t : Tok) : List Value := [.int .i64 t.kind, strV t.text]
def cellsP (l : List Prt) : List Value := l.flatMap encP
def cellsT (l : List Tok) : List Value := l.flatMap encT
theorem cellsP_len (l : List Prt) : (cellsP l).length = l.length * 2 := flat_len encP 2 (fun _ => rfl) l
theorem cellsT_len (l : List Tok) : (cellsT l).length = l.length * 2 := flat_len encT 2 (fun _ => rfl) l
theorem cellsP_snoc (l : List Prt) (p : Prt) : cellsP (l ++ [p]) = cellsP l ++ encP p := by unfold cellsP; rw [List.flatMap_append]; simp
theorem cellsP_one (l : List Prt) : ∀ u ∈ cellsP l, u.oneCell' = true := fun u hu => by
  obtain ⟨p, _, hp⟩ := List.mem_flatMap.1 hu
  simp only [encP, List.mem_cons, List.not_mem_nil, or_false] at hp
  rcases hp with rfl | rfl <;> rfl

/-- parts lie from an address on -/
structure PartsAt (w : World) (A : Option Addr) (l : List Prt) : Prop where
  rd : Rd w A (cellsP l)
  flat : l ≠ [] → Flat A
structure ToksAt (w : World) (A : Option Addr) (l : List Tok) : Prop where
  rd : Rd w A (cellsT l)
  flat : l ≠ [] → Flat A
section
variable {w w' : World} {A : Option Addr} {l : List Prt} {ts : List Tok}
theorem PartsAt.ext (h : PartsAt w A l) (hb : Below w.heap.size w w') : PartsAt w' A l := ⟨h.rd.ext hb, h.flat⟩
theorem ToksAt.ext (h : ToksAt w A ts) (hb : Below w.heap.size w w') : ToksAt w' A ts := ⟨h.rd.ext hb, h.flat⟩
theorem PartsAt.at_ (h : PartsAt w A l) {k : Nat} (hk : k < l.length) : ∃ g o, A = some ⟨g, o, none⟩ ∧ w.cell? ⟨g, o + k * 2, none⟩ = some (.bool l[k].any) ∧ w.cell? ⟨g, o + k * 2 + 1, none⟩ = some (strV l[k].text) := by
  have h0 := flat_at encP 2 (fun _ => rfl) l k 0 hk (by omega)
  have h1 := flat_at encP 2 (fun _ => rfl) l k 1 hk (by omega)
  obtain ⟨ad, e, c0⟩ := h.rd (k * 2 + 0) (.bool l[k].any) h0
  obtain ⟨ad', e', c1⟩ := h.rd (k * 2 + 1) (strV l[k].text) h1
  rw [e] at e'; injection e' with e'; subst e'
  obtain ⟨g, o, rfl⟩ := h.flat (by intro hl; rw [hl] at hk; simp at hk) ad e
  rw [Addr.add_mid] at c0 c1
  refine ⟨g, o, e, c0, ?_⟩
  rw [← Nat.add_assoc] at c1
  exact c1
theorem ToksAt.at_ (h : ToksAt w A ts) {k : Nat} (hk : k < ts.length) : ∃ g o, A = some ⟨g, o, none⟩ ∧ w.cell? ⟨g, o + k * 2, none⟩ = some (.int .i64 ts[k].kind) ∧ w.cell? ⟨g, o + k * 2 + 1, none⟩ = some (strV ts[k].text) := by
  have h0 := flat_at encT 2 (fun _ => rfl) ts k 0 hk (by omega)
  have h1 := flat_at encT 2 (fun _ => rfl) ts k 1 hk (by omega)
  obtain ⟨ad, e, c0⟩ := h.rd (k * 2 + 0) (.int .i64 ts[k].kind) h0
  obtain ⟨ad', e', c1⟩ := h.rd (k * 2 + 1) (strV ts[k].text) h1
  rw [e] at e'; injection e' with e'; subst e'
  obtain ⟨g, o, rfl⟩ := h.flat (by intro hl; rw [hl] at hk; simp at hk) ad e
  rw [Addr.add_mid] at c0 c1
  refine ⟨g, o, e, c0, ?_⟩
  rw [← Nat.add_assoc] at c1
  exact c1
theorem parts_new {n c : Nat} (h : NewO w w' 72 2 A n c (cellsP l)) : PartsAt w' A l := ⟨h.rd, fun _ => h.row.flat⟩
end
/-- a row of parts that was made anew -/
def NewP (w w' : World) (A : Option Addr) (c : Nat) (l : List Prt) : Prop := NewO w w' 72 2 A l.length c (cellsP l)
theorem NewP.at_ {w w' : World} {A : Option Addr} {c : Nat} {l : List Prt} (h : NewP w w' A c l) : PartsAt w' A l := parts_new h
theorem NewP.bel {w w' : World} {A : Option Addr} {c : Nat} {l : List Prt} (h : NewP w w' A c l) : Below w.heap.size w w' := NewO.bel h

theorem info_part : (Try.prog.info? 72).map (fun i => (i.zero, i.size, i.bytes)) = some (some (.agg #[.bool false, .string ⟨#[]⟩]), 2, 24) := by kernel_rfl
theorem size_part {ds : Array Value} (h : ds.size = 2) : (Try.prog.info? 72).map (·.size) = some ds.size := by rw [h]; kernel_rfl
def zeroP : Array Value := #[.bool false, .string ⟨#[]⟩]
theorem make_parts (W : World) (n : Nat) (h : n ≤ 1000000) (z : Array Value) (hz : z = zeroP) : (Instr.makeSlice 39 (.int .i64 (n : Int)) (.int .i64 (n : Int))).run Try.prog W =
    .ok (.slice (some ⟨W.heap.size, 0, none⟩) n n) (W.alloc (.cells (madeCells z (n * 2)) 72)) := by
  subst hz
  obtain ⟨i, hi, hz, hsz, hby⟩ := info_parts info_part
  have hr := run_make (P := Try.prog) W 39 72 i _ Try.underlying39 hi hz .i64 .i64 (n : Int) (n : Int) (by omega) (by omega) (by rw [hby]; omega) (by omega)
  simp only [Int.toNat_natCast, hsz] at hr
  exact hr
/-- block 'g' holds these parts, and room for more: 'n' in all -/
def FillP (w : World) (g n : Nat) (l : List Prt) : Prop := ∃ cs : Array Value, Blk w g 72 cs ∧ cs.size = n * 2 ∧ ∀ (j : Nat) (u : Value), (cellsP l)[j]? = some u → cs[j]? = some u
section
variable {T : Nat → Prop} {w w' : World} {g n : Nat} {l : List Prt}
theorem FillP.start (w : World) (n : Nat) : FillP (w.alloc (.cells (madeCells zeroP (n * 2)) 72)) w.heap.size n [] :=
  ⟨_, Blk.new _ _ _, by simp [madeCells], fun j u h => by simp [cellsP] at h⟩
theorem FillP.lt (h : FillP w g n l) : g < w.heap.size := by obtain ⟨cs, h1, _⟩ := h; exact h1.lt
theorem FillP.ext (h : FillP w g n l) (hb : Below w.heap.size w w') : FillP w' g n l := by
  obtain ⟨cs, h1, h2, h3⟩ := h
  exact ⟨cs, h1.ext hb, h2, h3⟩
theorem FillP.put {x : Prt} (h : FillP w g n l) (hl : l.length < n) : FillP (w.setCells g (l.length * 2) (encP x)) g n (l ++ [x]) := by
  obtain ⟨cs, h1, h2, h3⟩ := h
  obtain ⟨cs', k1, k2, k3, k4⟩ := Blk.setCells (encP x) (l.length * 2) h1 (by rw [h2]; show l.length * 2 + 2 ≤ _; omega)
  refine ⟨cs', k1, k2.trans h2, fun j u hu => ?_⟩
  rw [cellsP_snoc, List.getElem?_append, cellsP_len] at hu
  split at hu
  · rename_i hj
    rw [k4 j (.inl hj)]
    exact h3 j u hu
  · rename_i hj
    have := k3 _ u hu
    rwa [show l.length * 2 + (j - l.length * 2) = j by omega] at this
theorem FillP.whole (h : FillP w g n l) (hl : l.length = n) (hm : n ≤ maxLen) (w0 : World) (hb : Below w0.heap.size w0 w) (hg : w0.heap.size ≤ g) : NewP w0 w (some ⟨g, 0, none⟩) n l := by
  obtain ⟨cs, h1, h2, h3⟩ := h
  subst hl
  refine ⟨⟨cellsP_len l, .inr ⟨g, 0, cs, rfl, Nat.le_refl _, hm, h1, by omega, fun j u hu => by rw [Nat.zero_add]; exact h3 j u hu⟩⟩, hb, fun k hk => ?_⟩
  rw [inA_some] at hk
  omega
end
theorem wpList_store_part {ops : Array Oper} {rest : List Oper} {op : Oper} {a : Act} {w : World} {Q : Exit → Act → World → Prop} (hgd : op.guard = none) (x y : Operand) (ho : op.op = .store 72 x y)
    (g o : Nat) (hx : a.eval x = .pointer (some ⟨g, o, none⟩)) {p : Prt} (hy : a.eval y = .agg #[.bool p.any, strV p.text])
    {n : Nat} {l : List Prt} (hF : FillP w g n l) (hoo : o = l.length * 2) (hl : l.length < n)
    (h : ∀ w', FillP w' g n (l ++ [p]) → Only (fun k => k = g) w w' → wpList Try.prog ops Q rest (a.put op.dst undef) w') : wpList Try.prog ops Q (op :: rest) a w := by
  subst hoo
  refine wpList_store_mid hgd 72 x y ho g _ #[.bool p.any, strV p.text] hx hy ?_ (size_part rfl) (by simp [Value.oneCell', strV]) (h _ (hF.put hl) ((Only.refl (fun k => k = g) w).setCells (.inl rfl) _ _))
  obtain ⟨cs, h2, h3, _⟩ := hF
  exact h2.there _ _ (by rw [h3]; show l.length * 2 + 2 ≤ _; omega)
theorem wpList_store_part2 {ops : Array Oper} {rest : List Oper} {op : Oper} {a : Act} {w : World} {Q : Exit → Act → World → Prop} (hgd : op.guard = none) (x y : Operand) (ho : op.op = .store 72 x y)
    (g o : Nat) (hx : a.eval x = .pointer (some ⟨g, o, none⟩)) {p : Prt} {b : Bool} {Z : ByteArray} (hy : a.eval y = .agg #[.bool b, .string Z]) (hp : encP p = [.bool b, .string Z])
    {n : Nat} {l : List Prt} (hF : FillP w g n l) (hoo : o = l.length * 2) (hl : l.length < n)
    (h : ∀ w', FillP w' g n (l ++ [p]) → Only (fun k => k = g) w w' → wpList Try.prog ops Q rest (a.put op.dst undef) w') : wpList Try.prog ops Q (op :: rest) a w := by
  refine wpList_store_part hgd x y ho g o hx (p := p) ?_ hF hoo hl h
  simp only [encP, List.cons.injEq, and_true] at hp
  rw [hy, hp.1, hp.2]
/-- a whole part into a variable -/
theorem wpList_store_pvar {ops : Array Oper} {rest : List Oper} {op : Oper} {a : Act} {w : World} {Q : Exit → Act → World → Prop} (hgd : op.guard = none) (x y : Operand) (ho : op.op = .store 72 x y)
    (g : Nat) (hx : a.eval x = .pointer (some ⟨g, 0, none⟩)) {b : Bool} {Z : ByteArray} (hy : a.eval y = .agg #[.bool b, .string Z]) {cs : Array Value} (hB : Blk w g 72 cs) (hs : cs.size = 2)
    (h : ∀ w', Blk w' g 72 #[.bool b, .string Z] → Only (fun k => k = g) w w' → wpList Try.prog ops Q rest (a.put op.dst undef) w') : wpList Try.prog ops Q (op :: rest) a w := by
  refine wpList_store_mid hgd 72 x y ho g 0 #[.bool b, .string Z] hx hy (hB.there 0 _ (by rw [hs]; show 0 + 2 ≤ 2; omega)) (size_part rfl) (by simp [Value.oneCell']) (h _ ?_ ((Only.refl (fun k => k = g) w).setCells (.inl rfl) _ _))
  have := hB.whole [.bool b, .string Z] (by rw [hs]; rfl)
  simpa using this
theorem str_hide (xs : List UInt8) : ∃ Z : ByteArray, strV xs = .string Z ∧ Z.size = xs.length := ⟨_, rfl, by simp [ByteArray.size]⟩
theorem ret_bool {a b : Bool} (h : a = b) : Ending.returned (.bool a) = .returned (.bool b) := by rw [h]
theorem ret_i64 {a b : Int} (h : a = b) : Ending.returned (.int .i64 a) = .returned (.int .i64 b) := by rw [h]
end Go.Proofs.Ytdghbdiapkelnaa

/-
  The contracts of Wild, Alike, Same, Fits, the program's and the reference's. No statement of the seat is proved here.
-/
namespace Go.Proofs.Ytdghbdiapkelnaa
open Go Go.RowKit
set_option maxRecDepth 100000

set_option maxHeartbeats 1000000 in
theorem rwild_any (A : Option Addr) (n c : Nat) (l : List Prt) (w : World) (hn : n = l.length) (h : PartsAt w A l) (hl : l.length ≤ 1000000) :
    Calls Try.prog 30 #[.slice A n c] w fun e w' => e = .returned (.int .i64 (wildN l : Int)) ∧ Below w.heap.size w w' := by
  subst hn
  have hli : (l.length : Int) ≤ 1000000 := by omega
  go_enter Try.func30, Try.ntmps30
  go_wp2
  go_loopw [3, 4] (fun s i wr => ∃ k m : Nat, k ≤ l.length ∧ m ≤ k ∧ i = .int .i64 (k : Int) ∧ s = .int .i64 (m : Int) ∧ Hid (m = wildTo l k) ∧ Hid (Below w.heap.size w wr)) (fun _ i _ => l.length - (intOf i).toNat)
  case atStart => exact ⟨0, 0, Nat.zero_le _, Nat.zero_le _, rfl, rfl, Lib.hid (by simp [wildTo, wildN]), Lib.hid (Below.refl _ _)⟩
  case round =>
    obtain ⟨k, m, hk, hm, rfl, rfl, Hm, Hb⟩ := hrel
    by_cases hlt : k < l.length
    · obtain ⟨g, o, rfl, c0, c1⟩ := (h.ext Hb.out).at_ hlt
      obtain ⟨Z, hZ, hz⟩ := str_hide l[k].text
      rw [hZ] at c1
      clear hZ hz
      have Hs := Lib.hid (wildTo_succ l k hlt)
      have hki : (k : Int) < (l.length : Int) := by omega
      cases hA : l[k].any
      · rw [hA] at c0
        have HA := Lib.hid hA
        clear hA
        go_wp2
        go_roundw
        case rel => exact ⟨k + 1, m, by omega, by omega, by go_num, by go_num, Lib.hid (by rw [Hs.out, HA.out, Hm.out]; rfl), Lib.hid (by first | exact ext_alloc Hb.out _ | exact Hb.out)⟩
        case measure => simp [intOf]; omega
      · rw [hA] at c0
        have HA := Lib.hid hA
        clear hA
        go_wp2
        go_roundw
        case rel => exact ⟨k + 1, m + 1, by omega, by omega, by go_num, by go_num, Lib.hid (by rw [Hs.out, HA.out, Hm.out]; rfl), Lib.hid (by first | exact ext_alloc Hb.out _ | exact Hb.out)⟩
        case measure => simp [intOf]; omega
    · obtain rfl : k = l.length := by omega
      have hb : (m : Int) = (wildN l : Int) := by rw [Hm.out, wildTo_all]
      have HB := Lib.hid hb
      clear hb
      go_wp2
      go_ret
      exact ⟨ret_i64 HB.out, Hb.out⟩
end Go.Proofs.Ytdghbdiapkelnaa

/-
  The contracts of Alike, Fits, Same, the program's and the reference's; the laws' texts. No statement of the seat is proved here.
-/
namespace Go.Proofs.Ytdghbdiapkelnaa
open Go Go.RowKit
set_option maxRecDepth 100000
theorem fitB_any {p : Prt} {t : Tok} (h : p.any = true) : fitB p t = true := by simp [fitB, h]
theorem fitB_no {p : Prt} {t : Tok} (h : p.any = false) : fitB p t = decide (p.text = t.text) := by simp [fitB, h]

set_option maxHeartbeats 2000000 in
theorem alike_any (A : Option Addr) (n c : Nat) (l : List Prt) (B : Option Addr) (n2 d : Nat) (ts : List Tok) (w : World) (hn : n = l.length) (hn2 : n2 = ts.length) (h : PartsAt w A l) (h2 : ToksAt w B ts) (hl : l.length ≤ 1000000) (hl2 : ts.length ≤ 1000000) :
    Calls Try.prog 96 #[.slice A n c, .slice B n2 d] w fun e w' => e = .returned (.int .i64 (alikeI l ts)) ∧ Below w.heap.size w w' := by
  subst hn hn2
  have hli : (l.length : Int) ≤ 1000000 := by omega
  have hli2 : (ts.length : Int) ≤ 1000000 := by omega
  by_cases hne : l.length = ts.length
  · have hr : alikeI l ts = (alikeN l ts : Int) := if_pos hne
    rw [hr]
    have Hne := Lib.hid hne
    have hnei : (l.length : Int) = (ts.length : Int) := by omega
    clear hr hne
    go_enter Try.func96, Try.ntmps96
    go_wp2
    have HneI := Lib.hid hnei
    clear hnei
    go_loopw [5, 15] (fun s i wr => ∃ k m : Nat, k ≤ l.length ∧ m ≤ k ∧ i = .int .i64 (k : Int) ∧ s = .int .i64 (m : Int) ∧ Hid (m = alikeTo l ts k) ∧ Hid (Below w.heap.size w wr)) (fun _ i _ => l.length - (intOf i).toNat)
    case atStart => exact ⟨0, 0, Nat.zero_le _, Nat.zero_le _, rfl, rfl, Lib.hid (by simp [alikeTo]), Lib.hid (Below.refl _ _)⟩
    case round =>
      obtain ⟨k, m, hk, hm, rfl, rfl, Hm, Hb⟩ := hrel
      by_cases hlt : k < l.length
      · have hlt2 : k < ts.length := by have := Hne.out; omega
        obtain ⟨g, o, rfl, c0, c1⟩ := (h.ext Hb.out).at_ hlt
        obtain ⟨g2, o2, rfl, c2, c3⟩ := (h2.ext Hb.out).at_ hlt2
        have Hs := Lib.hid (alikeTo_succ l ts k hlt hlt2)
        have hki : (k : Int) < (l.length : Int) := by omega
        have hki2 : (k : Int) < (ts.length : Int) := by omega
        have hk0 : (0 : Int) ≤ (k : Int) := by omega
        clear c2
        obtain ⟨Y, Z, hY, hZ, hc⟩ := str_cases l[k].text ts[k].text
        rw [hY] at c1
        rw [hZ] at c3
        clear hY hZ
        cases hA : l[k].any
        · rw [hA] at c0
          rcases hc with ⟨he, rfl⟩ | ⟨he, hf⟩
          · have HA : Hid (fitB l[k] ts[k] = true) := Lib.hid (by rw [fitB_no hA]; exact decide_eq_true he)
            clear hA he
            have q3 : (wr.alloc (Obj.cells #[.bool false, .string Y] 72)).cell? ⟨g2, o2 + k * 2 + 1, none⟩ = some (.string Y) := (World.cell?_of_block (Below.heap_alloc wr _ g2 (World.block_lt_of_cell? wr _ c3))).trans c3
            go_wp2
            go_quiet (fail)
            go_wp2
            go_roundw
            case rel => exact ⟨k + 1, m + 1, by omega, by omega, by go_num, by go_num, Lib.hid (by rw [Hs.out, HA.out, Hm.out]; rfl), Lib.hid (by first | exact ext_drewN (ext_alloc Hb.out _) _ | exact ext_drewN Hb.out _)⟩
            case measure => simp [intOf]; omega
          · have HA : Hid (fitB l[k] ts[k] = false) := Lib.hid (by rw [fitB_no hA]; exact decide_eq_false he)
            clear hA he
            have q3 : (wr.alloc (Obj.cells #[.bool false, .string Y] 72)).cell? ⟨g2, o2 + k * 2 + 1, none⟩ = some (.string Z) := (World.cell?_of_block (Below.heap_alloc wr _ g2 (World.block_lt_of_cell? wr _ c3))).trans c3
            go_wp2
            go_quiet (fail)
            go_wp2
            go_roundw
            case rel => exact ⟨k + 1, m + 0, by omega, by omega, by go_num, by go_num, Lib.hid (by rw [Hs.out, HA.out, Hm.out]; rfl), Lib.hid (by first | exact ext_drewN (ext_alloc Hb.out _) _ | exact ext_drewN Hb.out _)⟩
            case measure => simp [intOf]; omega
        · rw [hA] at c0
          have HA : Hid (fitB l[k] ts[k] = true) := Lib.hid (fitB_any hA)
          clear hA hc
          go_wp2
          go_quiet (fail)
          go_wp2
          go_roundw
          case rel => exact ⟨k + 1, m + 1, by omega, by omega, by go_num, by go_num, Lib.hid (by rw [Hs.out, HA.out, Hm.out]; rfl), Lib.hid (by first | exact ext_drewN (ext_alloc Hb.out _) _ | exact ext_drewN Hb.out _)⟩
          case measure => simp [intOf]; omega
      · obtain rfl : k = l.length := by omega
        have hb : (m : Int) = (alikeN l ts : Int) := by rw [Hm.out, alikeTo_all l ts Hne.out]
        have HB := Lib.hid hb
        have hx : ¬ (l.length : Int) < (ts.length : Int) := by have := Hne.out; omega
        clear hb
        go_wp2
        go_ret
        exact ⟨ret_i64 HB.out, Hb.out⟩
  · have hr : alikeI l ts = -1 := if_neg hne
    rw [hr]
    have hnei : ¬ (l.length : Int) = (ts.length : Int) := by omega
    clear hr
    go_enter Try.func96, Try.ntmps96
    go_wp2
    go_ret
    exact ⟨rfl, Below.refl _ _⟩

set_option maxHeartbeats 2000000 in
theorem ralike_any (A : Option Addr) (n c : Nat) (l : List Prt) (B : Option Addr) (n2 d : Nat) (ts : List Tok) (w : World) (hn : n = l.length) (hn2 : n2 = ts.length) (h : PartsAt w A l) (h2 : ToksAt w B ts) (hl : l.length ≤ 1000000) (hl2 : ts.length ≤ 1000000) :
    Calls Try.prog 31 #[.slice A n c, .slice B n2 d] w fun e w' => e = .returned (.int .i64 (alikeI l ts)) ∧ Below w.heap.size w w' := by
  subst hn hn2
  have hli : (l.length : Int) ≤ 1000000 := by omega
  have hli2 : (ts.length : Int) ≤ 1000000 := by omega
  by_cases hne : l.length = ts.length
  · have hr : alikeI l ts = (alikeN l ts : Int) := if_pos hne
    rw [hr]
    have Hne := Lib.hid hne
    have hnei : (l.length : Int) = (ts.length : Int) := by omega
    clear hr hne
    go_enter Try.func31, Try.ntmps31
    go_wp2
    have HneI := Lib.hid hnei
    clear hnei
    go_loopw [5, 6] (fun s i wr => ∃ k m : Nat, k ≤ l.length ∧ m ≤ k ∧ i = .int .i64 (k : Int) ∧ s = .int .i64 (m : Int) ∧ Hid (m = alikeTo l ts k) ∧ Hid (Below w.heap.size w wr)) (fun _ i _ => l.length - (intOf i).toNat)
    case atStart => exact ⟨0, 0, Nat.zero_le _, Nat.zero_le _, rfl, rfl, Lib.hid (by simp [alikeTo]), Lib.hid (Below.refl _ _)⟩
    case round =>
      obtain ⟨k, m, hk, hm, rfl, rfl, Hm, Hb⟩ := hrel
      by_cases hlt : k < l.length
      · have hlt2 : k < ts.length := by have := Hne.out; omega
        obtain ⟨g, o, rfl, c0, c1⟩ := (h.ext Hb.out).at_ hlt
        obtain ⟨g2, o2, rfl, c2, c3⟩ := (h2.ext Hb.out).at_ hlt2
        have Hs := Lib.hid (alikeTo_succ l ts k hlt hlt2)
        have hki : (k : Int) < (l.length : Int) := by omega
        have hki2 : (k : Int) < (ts.length : Int) := by omega
        have hk0 : (0 : Int) ≤ (k : Int) := by omega
        clear c2
        obtain ⟨Y, Z, hY, hZ, hc⟩ := str_cases l[k].text ts[k].text
        rw [hY] at c1
        rw [hZ] at c3
        clear hY hZ
        cases hA : l[k].any
        · rw [hA] at c0
          rcases hc with ⟨he, rfl⟩ | ⟨he, hf⟩
          · have HA : Hid (fitB l[k] ts[k] = true) := Lib.hid (by rw [fitB_no hA]; exact decide_eq_true he)
            clear hA he
            go_wp2
            go_quiet (fail)
            go_wp2
            go_roundw
            case rel => exact ⟨k + 1, m + 1, by omega, by omega, by go_num, by go_num, Lib.hid (by rw [Hs.out, HA.out, Hm.out]; rfl), Lib.hid (by first | exact ext_drewN (ext_alloc Hb.out _) _ | exact ext_drewN Hb.out _)⟩
            case measure => simp [intOf]; omega
          · have HA : Hid (fitB l[k] ts[k] = false) := Lib.hid (by rw [fitB_no hA]; exact decide_eq_false he)
            clear hA he
            go_wp2
            go_quiet (fail)
            go_wp2
            go_roundw
            case rel => exact ⟨k + 1, m + 0, by omega, by omega, by go_num, by go_num, Lib.hid (by rw [Hs.out, HA.out, Hm.out]; rfl), Lib.hid (by first | exact ext_drewN (ext_alloc Hb.out _) _ | exact ext_drewN Hb.out _)⟩
            case measure => simp [intOf]; omega
        · rw [hA] at c0
          have HA : Hid (fitB l[k] ts[k] = true) := Lib.hid (fitB_any hA)
          clear hA hc
          go_wp2
          go_quiet (fail)
          go_wp2
          go_roundw
          case rel => exact ⟨k + 1, m + 1, by omega, by omega, by go_num, by go_num, Lib.hid (by rw [Hs.out, HA.out, Hm.out]; rfl), Lib.hid (by first | exact ext_drewN (ext_alloc Hb.out _) _ | exact ext_drewN Hb.out _)⟩
          case measure => simp [intOf]; omega
      · obtain rfl : k = l.length := by omega
        have hb : (m : Int) = (alikeN l ts : Int) := by rw [Hm.out, alikeTo_all l ts Hne.out]
        have HB := Lib.hid hb
        have hx : ¬ (l.length : Int) < (ts.length : Int) := by have := Hne.out; omega
        clear hb
        go_wp2
        go_ret
        exact ⟨ret_i64 HB.out, Hb.out⟩
  · have hr : alikeI l ts = -1 := if_neg hne
    rw [hr]
    have hnei : ¬ (l.length : Int) = (ts.length : Int) := by omega
    clear hr
    go_enter Try.func31, Try.ntmps31
    go_wp2
    go_ret
    exact ⟨rfl, Below.refl _ _⟩
end Go.Proofs.Ytdghbdiapkelnaa

/-
  The contracts of Same (and slices.Equal below it), the reference's Same, Fits; the laws' texts. No statement of the seat is proved here.
-/
namespace Go.Proofs.Ytdghbdiapkelnaa
open Go Go.RowKit
set_option maxRecDepth 100000
theorem prt_eq {p q : Prt} (h1 : p.any = q.any) (h2 : p.text = q.text) : p = q := by cases p; cases q; simp_all
/-- what an equality of lists tells -/
def SaysEq (b : Bool) (w : World) (e : Ending) (w' : World) : Prop := e = .returned (.bool b) ∧ Below w.heap.size w w'

set_option maxHeartbeats 2000000 in
theorem equal_any (A : Option Addr) (n c : Nat) (l : List Prt) (B : Option Addr) (n2 d : Nat) (m : List Prt) (w : World) (hn : n = l.length) (hn2 : n2 = m.length) (h : PartsAt w A l) (h2 : PartsAt w B m) (hl : l.length ≤ 1000000) (hl2 : m.length ≤ 1000000) :
    Calls Try.prog 97 #[.slice A n c, .slice B n2 d] w (SaysEq (decide (l = m)) w) := by
  subst hn hn2
  have hli : (l.length : Int) ≤ 1000000 := by omega
  have hli2 : (m.length : Int) ≤ 1000000 := by omega
  by_cases hne : l.length = m.length
  · have Hne := Lib.hid hne
    rw [← hne]
    clear hne hl2 hli2
    go_enter Try.func97, Try.ntmps97
    go_wp2
    go_loopw [13] (fun i wr => ∃ k : Nat, k ≤ l.length ∧ i = .int .i64 (k : Int) ∧ Hid (l.take k = m.take k) ∧ Hid (Below w.heap.size w wr)) (fun i _ => l.length - (intOf i).toNat)
    case atStart => exact ⟨0, Nat.zero_le _, rfl, Lib.hid (by simp), Lib.hid (Below.refl _ _)⟩
    case round =>
      obtain ⟨k, hk, rfl, Heq, Hb⟩ := hrel
      by_cases hlt : k < l.length
      · have hlt2 : k < m.length := by have := Hne.out; omega
        obtain ⟨g, o, rfl, c0, c1⟩ := (h.ext Hb.out).at_ hlt
        obtain ⟨g2, o2, rfl, c2, c3⟩ := (h2.ext Hb.out).at_ hlt2
        have hki : (k : Int) < (l.length : Int) := by omega
        have hki2 : (k : Int) < (m.length : Int) := by omega
        have hk0 : (0 : Int) ≤ (k : Int) := by omega
        have hdif : l[k] ≠ m[k] → false = decide (l = m) := fun hx => (decide_eq_false (fun h => hx (by simp only [h]))).symm
        have Hdif := Lib.hid hdif
        clear hdif
        obtain ⟨Y, Z, hY, hZ, hc⟩ := str_cases l[k].text m[k].text
        rw [hY] at c1
        rw [hZ] at c3
        clear hY hZ
        by_cases hAB : l[k].any = m[k].any
        · rcases hc with ⟨he, rfl⟩ | ⟨he, hf⟩
          · have HE : Hid (l[k] = m[k]) := Lib.hid (prt_eq hAB he)
            rw [← hAB] at c2
            clear hAB he
            cases hA : l[k].any <;> rw [hA] at c0 c2 <;> clear hA
            all_goals
              go_wp2
              go_quiet (fail)
              go_wp2
              go_roundw
              case rel => exact ⟨k + 1, by omega, by go_num, Lib.hid (by rw [take_snoc' _ _ hlt, take_snoc' _ _ hlt2, Heq.out, HE.out]), Lib.hid (ext_drewN Hb.out _)⟩
              case measure => simp [intOf]; omega
          · have HD : Hid (false = decide (l = m)) := Lib.hid (Hdif.out (fun e => he (by rw [e])))
            rw [← hAB] at c2
            clear hAB he
            cases hA : l[k].any <;> rw [hA] at c0 c2 <;> clear hA
            all_goals
              go_wp2
              go_quiet (fail)
              go_wp2
              go_ret
              exact ⟨ret_bool HD.out, ext_drewN Hb.out _⟩
        · have HD : Hid (false = decide (l = m)) := Lib.hid (Hdif.out (fun e => hAB (by rw [e])))
          clear hc
          cases hA : l[k].any <;> cases hB : m[k].any
          · exact absurd (hA.trans hB.symm) hAB
          · rw [hA] at c0
            rw [hB] at c2
            clear hA hB hAB
            go_wp2
            go_quiet (fail)
            go_wp2
            go_ret
            exact ⟨ret_bool HD.out, ext_drewN Hb.out _⟩
          · rw [hA] at c0
            rw [hB] at c2
            clear hA hB hAB
            go_wp2
            go_quiet (fail)
            go_wp2
            go_ret
            exact ⟨ret_bool HD.out, ext_drewN Hb.out _⟩
          · exact absurd (hA.trans hB.symm) hAB
      · obtain rfl : k = l.length := by omega
        have hb : true = decide (l = m) := (decide_eq_true (by have := Heq.out; rwa [List.take_length, Hne.out, List.take_length] at this)).symm
        have HB := Lib.hid hb
        clear hb
        go_wp2
        go_ret
        exact ⟨ret_bool HB.out, Hb.out⟩
  · have hd : false = decide (l = m) := (decide_eq_false (fun h => hne (by rw [h]))).symm
    have hnei : ¬ (l.length : Int) = (m.length : Int) := by omega
    have HD := Lib.hid hd
    clear hd
    go_enter Try.func97, Try.ntmps97
    go_wp2
    go_ret
    exact ⟨ret_bool HD.out, Below.refl _ _⟩

set_option maxHeartbeats 2000000 in
theorem rsame_any (A : Option Addr) (n c : Nat) (l : List Prt) (B : Option Addr) (n2 d : Nat) (m : List Prt) (w : World) (hn : n = l.length) (hn2 : n2 = m.length) (h : PartsAt w A l) (h2 : PartsAt w B m) (hl : l.length ≤ 1000000) (hl2 : m.length ≤ 1000000) :
    Calls Try.prog 23 #[.slice A n c, .slice B n2 d] w (SaysEq (decide (l = m)) w) := by
  subst hn hn2
  have hli : (l.length : Int) ≤ 1000000 := by omega
  have hli2 : (m.length : Int) ≤ 1000000 := by omega
  by_cases hne : l.length = m.length
  · have Hne := Lib.hid hne
    rw [← hne]
    clear hne hl2 hli2
    go_enter Try.func23, Try.ntmps23
    go_wp2
    go_loopw [5] (fun i wr => ∃ k : Nat, k ≤ l.length ∧ i = .int .i64 (k : Int) ∧ Hid (l.take k = m.take k) ∧ Hid (Below w.heap.size w wr)) (fun i _ => l.length - (intOf i).toNat)
    case atStart => exact ⟨0, Nat.zero_le _, rfl, Lib.hid (by simp), Lib.hid (Below.refl _ _)⟩
    case round =>
      obtain ⟨k, hk, rfl, Heq, Hb⟩ := hrel
      by_cases hlt : k < l.length
      · have hlt2 : k < m.length := by have := Hne.out; omega
        obtain ⟨g, o, rfl, c0, c1⟩ := (h.ext Hb.out).at_ hlt
        obtain ⟨g2, o2, rfl, c2, c3⟩ := (h2.ext Hb.out).at_ hlt2
        have hki : (k : Int) < (l.length : Int) := by omega
        have hki2 : (k : Int) < (m.length : Int) := by omega
        have hk0 : (0 : Int) ≤ (k : Int) := by omega
        have hdif : l[k] ≠ m[k] → false = decide (l = m) := fun hx => (decide_eq_false (fun h => hx (by simp only [h]))).symm
        have Hdif := Lib.hid hdif
        clear hdif
        obtain ⟨Y, Z, hY, hZ, hc⟩ := str_cases l[k].text m[k].text
        rw [hY] at c1
        rw [hZ] at c3
        clear hY hZ
        by_cases hAB : l[k].any = m[k].any
        · rcases hc with ⟨he, rfl⟩ | ⟨he, hf⟩
          · have HE : Hid (l[k] = m[k]) := Lib.hid (prt_eq hAB he)
            rw [← hAB] at c2
            clear hAB he
            cases hA : l[k].any <;> rw [hA] at c0 c2 <;> clear hA
            all_goals
              go_wp2
              go_quiet (fail)
              go_wp2
              go_roundw
              case rel => exact ⟨k + 1, by omega, by go_num, Lib.hid (by rw [take_snoc' _ _ hlt, take_snoc' _ _ hlt2, Heq.out, HE.out]), Lib.hid (ext_drewN Hb.out _)⟩
              case measure => simp [intOf]; omega
          · have HD : Hid (false = decide (l = m)) := Lib.hid (Hdif.out (fun e => he (by rw [e])))
            rw [← hAB] at c2
            clear hAB he
            cases hA : l[k].any <;> rw [hA] at c0 c2 <;> clear hA
            all_goals
              go_wp2
              go_quiet (fail)
              go_wp2
              go_ret
              exact ⟨ret_bool HD.out, ext_drewN Hb.out _⟩
        · have HD : Hid (false = decide (l = m)) := Lib.hid (Hdif.out (fun e => hAB (by rw [e])))
          clear hc
          cases hA : l[k].any <;> cases hB : m[k].any
          · exact absurd (hA.trans hB.symm) hAB
          · rw [hA] at c0
            rw [hB] at c2
            clear hA hB hAB
            go_wp2
            go_quiet (fail)
            go_wp2
            go_ret
            exact ⟨ret_bool HD.out, ext_drewN Hb.out _⟩
          · rw [hA] at c0
            rw [hB] at c2
            clear hA hB hAB
            go_wp2
            go_quiet (fail)
            go_wp2
            go_ret
            exact ⟨ret_bool HD.out, ext_drewN Hb.out _⟩
          · exact absurd (hA.trans hB.symm) hAB
      · obtain rfl : k = l.length := by omega
        have hb : true = decide (l = m) := (decide_eq_true (by have := Heq.out; rwa [List.take_length, Hne.out, List.take_length] at this)).symm
        have HB := Lib.hid hb
        clear hb
        go_wp2
        go_ret
        exact ⟨ret_bool HB.out, Hb.out⟩
  · have hd : false = decide (l = m) := (decide_eq_false (fun h => hne (by rw [h]))).symm
    have hnei : ¬ (l.length : Int) = (m.length : Int) := by omega
    have HD := Lib.hid hd
    clear hd
    go_enter Try.func23, Try.ntmps23
    go_wp2
    go_ret
    exact ⟨ret_bool HD.out, Below.refl _ _⟩

theorem same_any (A : Option Addr) (n c : Nat) (l : List Prt) (B : Option Addr) (n2 d : Nat) (m : List Prt) (w : World) (hn : n = l.length) (hn2 : n2 = m.length) (h : PartsAt w A l) (h2 : PartsAt w B m) (hl : l.length ≤ 1000000) (hl2 : m.length ≤ 1000000) :
    Calls Try.prog 91 #[.slice A n c, .slice B n2 d] w (SaysEq (decide (l = m)) w) := by
  subst hn hn2
  have HC := fun W (hb : Below w.heap.size w W) => equal_any A _ c l B _ d m W rfl rfl (h.ext hb) (h2.ext hb) hl hl2
  go_enter Try.func91, Try.ntmps91
  go_wp2_with fail
  refine (HC _ (Below.refl _ _)).mono ?_
  rintro e w1 ⟨rfl, hb⟩
  have Hb := Lib.hid hb
  clear hb
  go_wp2
  go_ret
  exact ⟨rfl, Hb.out⟩
end Go.Proofs.Ytdghbdiapkelnaa

/-
  The contracts of ofOne and Of, the program's and the reference's. No statement of the seat is proved here.
-/
namespace Go.Proofs.Ytdghbdiapkelnaa
open Go Go.RowKit
set_option maxRecDepth 100000

theorem results_part {fn : Func} {t : Tmp} (h : fn.results = #[.cell t 72]) (tmps : Array Value) (w : World) (g : Nat) (e : TypeId) (cs : Array Value) (hc : cs.size = 2)
    (ht : tmps.getD t undef = .pointer (some ⟨g, 0, none⟩)) (hb : Blk w g e cs) : (results fn tmps).run Try.prog w = .ok (.agg cs) w := by
  have hl := run_loadVar_row (P := Try.prog) w g e 72 cs (0, 0) _ hb Try.underlying72 rfl (size_part hc)
  rw [Array.getD_eq_getD_getElem?] at ht
  simp [results, h, ht, asAddr, hl]
theorem blk_at (w : World) (t : TypeId) (cs : Array Value) {g : Nat} (hg : g = w.heap.size) : Blk (w.alloc (.cells cs t)) g t cs := by subst hg; exact Blk.new w t cs
theorem ofT_yes {t : Tok} (h : varies t.kind = true) : ofT t = dot := by unfold ofT; rw [if_pos h]
theorem ofT_no {t : Tok} (h : varies t.kind = false) : ofT t = ⟨false, t.text⟩ := by unfold ofT; rw [if_neg (by rw [h]; decide)]
def partV (p : Prt) : Value := .agg #[.bool p.any, strV p.text]
def SaysPart (p : Prt) (w : World) (e : Ending) (w' : World) : Prop := e = .returned (partV p) ∧ Below w.heap.size w w'

set_option maxHeartbeats 1000000 in
theorem ofone_any (t : Tok) (w : World) :
    Calls Try.prog 92 #[.agg #[.int .i64 t.kind, strV t.text]] w (SaysPart (ofT t) w) := by
  obtain ⟨Z, hZ, -⟩ := str_hide t.text
  by_cases hv : varies t.kind = true
  · have hp : SaysPart dot w = SaysPart (ofT t) w := by rw [ofT_yes hv]
    rw [← hp, hZ]
    have h5 := (varies_iff _).1 hv
    obtain ⟨k, hk⟩ : ∃ k, t.kind = k := ⟨_, rfl⟩
    rw [hk] at h5 ⊢
    clear hp hk hv hZ
    obtain rfl | rfl | rfl | rfl | rfl | rfl : k = 0 ∨ k = 1 ∨ k = 2 ∨ k = 3 ∨ k = 4 ∨ k = 5 := by omega
    all_goals
      clear h5
      go_enter Try.func92, Try.ntmps92
      go_wp2
      exact bodyPost_ret (v := partV dot) (results_part rfl _ _ _ 72 #[.bool true, .string ⟨#[]⟩] rfl rfl (blk_at _ _ _ (by simp))) rfl ⟨rfl, ext2 _ _ _⟩
  · have hv' : varies t.kind = false := by simpa using hv
    have hp : SaysPart ⟨false, t.text⟩ w = SaysPart (ofT t) w := by rw [ofT_no hv']
    have h5 : ¬ (0 ≤ t.kind ∧ t.kind ≤ 5) := fun h => hv ((varies_iff _).2 h)
    rw [← hp]
    unfold SaysPart partV
    dsimp only
    rw [hZ]
    obtain ⟨k, hk⟩ : ∃ k, t.kind = k := ⟨_, rfl⟩
    rw [hk] at h5 ⊢
    clear hp hk hv hv' hZ
    have k0 : ¬ k = 0 := by omega
    have k1 : ¬ k = 1 := by omega
    have k2 : ¬ k = 2 := by omega
    have k3 : ¬ k = 3 := by omega
    have k4 : ¬ k = 4 := by omega
    have k5 : ¬ k = 5 := by omega
    clear h5
    go_enter Try.func92, Try.ntmps92
    go_wp2
    exact bodyPost_ret (v := .agg #[.bool false, .string Z]) (results_part rfl _ _ _ 72 #[.bool false, .string Z] rfl rfl (blk_at _ _ _ (by simp))) rfl ⟨rfl, ext2 _ _ _⟩
end Go.Proofs.Ytdghbdiapkelnaa

/-
  The contracts of Of, the program's and the reference's. No statement of the seat is proved here.
-/
namespace Go.Proofs.Ytdghbdiapkelnaa
open Go Go.RowKit
set_option maxRecDepth 100000

def SaysParts (l : List Prt) (w : World) (e : Ending) (w' : World) : Prop := ∃ A c, e = .returned (.slice A l.length c) ∧ NewP w w' A c l
theorem below_own {w wr w2 w3 : World} {g : Nat} (h1 : Below w.heap.size w wr) (h2 : Below wr.heap.size wr w2) (h3 : Only (fun k => k = g) w2 w3) (hg : w.heap.size ≤ g) : Below w.heap.size w w3 := by
  have h4 := ext_trans h1 h2
  exact h4.trans (h3.below (fun i hi => by omega) h4.size)
set_option maxHeartbeats 2000000 in
theorem of_any (B : Option Addr) (n d : Nat) (ts : List Tok) (w : World) (hn : n = ts.length) (h2 : ToksAt w B ts) (hl2 : ts.length ≤ 1000000) :
    Calls Try.prog 67 #[.slice B n d] w (SaysParts (ofL ts) w) := by
  subst hn
  have hli2 : (ts.length : Int) ≤ 1000000 := by omega
  have hmk := make_parts w ts.length hl2
  have hF0 := FillP.start w ts.length
  obtain ⟨O1, hO1⟩ : ∃ O1, O1 = Obj.cells (madeCells zeroP (ts.length * 2)) 72 := ⟨_, rfl⟩
  have hmk' : (Instr.makeSlice 39 (.int .i64 (ts.length : Int)) (.int .i64 (ts.length : Int))).run Try.prog w = .ok (.slice (some ⟨w.heap.size, 0, none⟩) ts.length ts.length) (w.alloc O1) := by rw [hO1]; exact hmk _ rfl
  rw [← hO1] at hF0
  have HF0 := Lib.hid hF0
  clear hF0 hO1 hmk
  go_enter Try.func67, Try.ntmps67
  go_wp2
  go_loopw [11] (fun i wr => ∃ k : Nat, k ≤ ts.length ∧ i = .int .i64 (k : Int) ∧ Hid (FillP wr w.heap.size ts.length ((ofL ts).take k)) ∧ Hid (Below w.heap.size w wr)) (fun i _ => ts.length - (intOf i).toNat)
  case atStart => exact ⟨0, Nat.zero_le _, rfl, Lib.hid (by simpa using HF0.out), Lib.hid (ext_alloc (Below.refl _ _) _)⟩
  case round =>
    clear hmk'
    obtain ⟨k, hk, rfl, HF, Hb⟩ := hrel
    by_cases hlt : k < ts.length
    · obtain ⟨g2, o2, rfl, c2, c3⟩ := (h2.ext Hb.out).at_ hlt
      have hki2 : (k : Int) < (ts.length : Int) := by omega
      have HO := Lib.hid (fun W => ofone_any ts[k] W)
      obtain ⟨Z, hZ, hz⟩ := str_hide ts[k].text
      obtain ⟨K, hK⟩ : ∃ K, ts[k].kind = K := ⟨_, rfl⟩
      rw [hZ] at c3 HO
      rw [hK] at c2 HO
      clear hZ hz hK
      have HT := Lib.hid (ofL_take ts k hlt)
      have HL : Hid (((ofL ts).take k).length = k) := Lib.hid (by rw [List.length_take, ofL_len]; omega)
      go_wp2_with fail
      refine (HO.out _).mono ?_
      rintro e w2 ⟨rfl, hb2⟩
      have Hb2 : Hid (Below wr.heap.size wr w2) := Lib.hid (ext_trans (ext_alloc (Below.refl _ _) _) hb2)
      have HF2 : Hid (FillP w2 w.heap.size ts.length ((ofL ts).take k)) := Lib.hid (HF.out.ext Hb2.out)
      clear hb2
      go_wp2_with (refine wpList_store_part rfl _ _ rfl w.heap.size _ rfl (p := ofT ts[k]) rfl HF2.out (by rw [HL.out]) (by rw [HL.out]; exact hlt) ?_)
      rintro w3 hF3 ho3
      have HF3 := Lib.hid hF3
      have Ho3 := Lib.hid ho3
      clear hF3 ho3
      go_wp2
      go_roundw
      case rel => exact ⟨k + 1, by omega, by go_num, Lib.hid (by rw [HT.out]; exact HF3.out), Lib.hid (below_own Hb.out Hb2.out Ho3.out (Nat.le_refl _))⟩
      case measure => simp [intOf]; omega
    · obtain rfl : k = ts.length := by omega
      have hw : NewP w wr (some ⟨w.heap.size, 0, none⟩) ts.length (ofL ts) := by
        refine FillP.whole (by have := HF.out; rwa [List.take_of_length_le (by rw [ofL_len]; omega)] at this) (ofL_len ts) (by unfold maxLen; omega) w Hb.out (Nat.le_refl _)
      have HW := Lib.hid hw
      have HL := Lib.hid (ofL_len ts)
      clear hw
      go_wp2
      go_ret
      exact ⟨some ⟨w.heap.size, 0, none⟩, ts.length, (by rw [HL.out]; rfl), HW.out⟩
theorem rvaries_any (k : Int) (w : World) : Calls Try.prog 70 #[.int .i64 k] w fun e w' => e = .returned (.bool (varies k)) ∧ w' = w := by
  have hv : varies k = (decide (0 ≤ k) && decide (k ≤ 5)) := rfl
  by_cases h0 : 0 ≤ k
  · by_cases h5 : k ≤ 5
    · have hr : true = varies k := by rw [hv]; simp [h0, h5]
      have HR := Lib.hid hr
      clear hr hv
      go_enter Try.func70, Try.ntmps70
      go_wp2
      go_ret
      exact ⟨ret_bool HR.out, rfl⟩
    · have hr : false = varies k := by rw [hv]; simp [h0, h5]
      have HR := Lib.hid hr
      clear hr hv
      go_enter Try.func70, Try.ntmps70
      go_wp2
      go_ret
      exact ⟨ret_bool HR.out, rfl⟩
  · have hr : false = varies k := by rw [hv]; simp [h0]
    have HR := Lib.hid hr
    clear hr hv
    go_enter Try.func70, Try.ntmps70
    go_wp2
    go_ret
    exact ⟨ret_bool HR.out, rfl⟩
end Go.Proofs.Ytdghbdiapkelnaa

/-
  The contract of the reference's Of. No statement of the seat is proved here.
-/
namespace Go.Proofs.Ytdghbdiapkelnaa
open Go Go.RowKit
set_option maxRecDepth 100000

set_option maxHeartbeats 2000000 in
theorem rof_any (B : Option Addr) (n d : Nat) (ts : List Tok) (w : World) (hn : n = ts.length) (h2 : ToksAt w B ts) (hl2 : ts.length ≤ 1000000) :
    Calls Try.prog 39 #[.slice B n d] w (SaysParts (ofL ts) w) := by
  subst hn
  have hli2 : (ts.length : Int) ≤ 1000000 := by omega
  go_enter Try.func39, Try.ntmps39
  go_wp2
  go_loopw [3, 4] (fun s i wr => ∃ (k : Nat) (A : Option Addr) (c : Nat), k ≤ ts.length ∧ i = .int .i64 (k : Int) ∧ s = .slice A k c ∧ Hid (NewO w wr 72 2 A k c (cellsP ((ofL ts).take k)))) (fun _ i _ => ts.length - (intOf i).toNat)
  case atStart => exact ⟨0, none, 0, Nat.zero_le _, rfl, rfl, Lib.hid (NewO.start w 72 2)⟩
  case round =>
    obtain ⟨k, A, c, hk, rfl, rfl, HN⟩ := hrel
    by_cases hlt : k < ts.length
    · have Hb := Lib.hid HN.out.bel
      obtain ⟨g2, o2, rfl, c2, c3⟩ := (h2.ext Hb.out).at_ hlt
      have hki2 : (k : Int) < (ts.length : Int) := by omega
      obtain ⟨Z, hZ, hz⟩ := str_hide ts[k].text
      obtain ⟨K, hK⟩ : ∃ K, ts[k].kind = K := ⟨_, rfl⟩
      have HC := Lib.hid (rvaries_any K wr)
      have HT := Lib.hid (ofL_take ts k hlt)
      have Hm1 : Hid (k + 1 ≤ maxLen) := Lib.hid (by unfold maxLen; omega)
      have Hm2 : Hid ((k + 1) * 24 ≤ 140737488355328) := Lib.hid (by omega)
      cases hv : varies K
      · have HE : Hid (encP (ofT ts[k]) = [.bool false, .string Z]) := Lib.hid (by rw [ofT_no (by rw [hK]; exact hv)]; unfold encP; rw [← hZ])
        rw [hZ] at c3
        rw [hK] at c2
        rw [hv] at HC
        clear hZ hz hK hv
        go_wp2_with fail
        refine HC.out.mono ?_
        rintro e w' ⟨rfl, rfl⟩
        go_wp2_with (refine wpList_app_new rfl (.tmp 21) (.tmp 28) _ rfl _ _ 2 24 Try.underlying39 info_part rfl A k c _ HN.out (ext_alloc (Below.refl _ _) _) rfl ⟨_, 0, none⟩ 1 [.bool false, .string Z] rfl rfl (Rd.lit _ #[.bool false, .string Z] 72) (by intro u hu; simp at hu; rcases hu with rfl | rfl <;> rfl) Hm1.out Hm2.out ?_; intro A7 c7 w7 hN7 hB7)
        have HN7 := Lib.hid hN7
        clear hN7 hB7
        go_wp2
        go_roundw
        case rel => exact ⟨k + 1, A7, c7, by omega, by go_num, rfl, Lib.hid (by rw [HT.out, cellsP_snoc, HE.out]; exact HN7.out)⟩
        case measure => simp [intOf]; omega
      · have HE : Hid (encP (ofT ts[k]) = [.bool true, .string ⟨#[]⟩]) := Lib.hid (by rw [ofT_yes (by rw [hK]; exact hv)]; rfl)
        rw [hZ] at c3
        rw [hK] at c2
        rw [hv] at HC
        clear hZ hz hK hv
        go_wp2_with fail
        refine HC.out.mono ?_
        rintro e w' ⟨rfl, rfl⟩
        go_wp2_with (refine wpList_app_new rfl (.tmp 17) (.tmp 19) _ rfl _ _ 2 24 Try.underlying39 info_part rfl A k c _ HN.out (ext_alloc (Below.refl _ _) _) rfl ⟨_, 0, none⟩ 1 [.bool true, .string ⟨#[]⟩] rfl rfl (Rd.lit _ #[.bool true, .string ⟨#[]⟩] 72) (by intro u hu; simp at hu; rcases hu with rfl | rfl <;> rfl) Hm1.out Hm2.out ?_; intro A7 c7 w7 hN7 hB7)
        have HN7 := Lib.hid hN7
        clear hN7 hB7
        go_wp2
        go_roundw
        case rel => exact ⟨k + 1, A7, c7, by omega, by go_num, rfl, Lib.hid (by rw [HT.out, cellsP_snoc, HE.out]; exact HN7.out)⟩
        case measure => simp [intOf]; omega
    · obtain rfl : k = ts.length := by omega
      have hN := HN.out
      rw [List.take_of_length_le (by rw [ofL_len]; omega)] at hN
      have hw : NewP w wr A c (ofL ts) := by unfold NewP; rw [ofL_len]; exact hN
      have HW := Lib.hid hw
      have HL := Lib.hid (ofL_len ts)
      clear hw hN
      go_wp2
      go_ret
      exact ⟨A, c, (by rw [HL.out]; rfl), HW.out⟩
end Go.Proofs.Ytdghbdiapkelnaa

/-
  The contracts of Merge, the program's and the reference's. No statement of the seat is proved here.
-/
namespace Go.Proofs.Ytdghbdiapkelnaa
open Go Go.RowKit
set_option maxRecDepth 100000
theorem merge1_dot {p : Prt} (t : Option Tok) (h : p.any = true) : merge1 p t = dot := by unfold merge1; rw [if_pos h]
theorem merge1_none {p : Prt} (h : p.any = false) : merge1 p none = p := by unfold merge1; rw [if_neg (by rw [h]; decide)]
theorem merge1_same {p : Prt} {t : Tok} (h : p.any = false) (he : p.text = t.text) : merge1 p (some t) = p := by rw [merge1_eq, if_neg (by rw [h]; decide), if_pos he]
theorem merge1_other {p : Prt} {t : Tok} (h : p.any = false) (he : p.text ≠ t.text) : merge1 p (some t) = dot := by rw [merge1_eq, if_neg (by rw [h]; decide), if_neg he]
theorem encP_of {p : Prt} {b : Bool} {Z : ByteArray} (h : p.any = b) (hz : strV p.text = .string Z) : encP p = [.bool b, .string Z] := by unfold encP; rw [h, hz]

set_option maxHeartbeats 4000000 in
theorem merge_any_ (A : Option Addr) (n c : Nat) (l : List Prt) (B : Option Addr) (n2 d : Nat) (ts : List Tok) (w : World) (hn : n = l.length) (hn2 : n2 = ts.length) (h : PartsAt w A l) (h2 : ToksAt w B ts) (hl : l.length ≤ 1000000) (hl2 : ts.length ≤ 1000000) :
    Calls Try.prog 90 #[.slice A n c, .slice B n2 d] w (SaysParts (mergeL l ts) w) := by
  subst hn hn2
  have hli : (l.length : Int) ≤ 1000000 := by omega
  have hli2 : (ts.length : Int) ≤ 1000000 := by omega
  have hmk := make_parts w l.length hl
  have hF0 := FillP.start w l.length
  obtain ⟨O1, hO1⟩ : ∃ O1, O1 = Obj.cells (madeCells zeroP (l.length * 2)) 72 := ⟨_, rfl⟩
  have hmk' : (Instr.makeSlice 39 (.int .i64 (l.length : Int)) (.int .i64 (l.length : Int))).run Try.prog w = .ok (.slice (some ⟨w.heap.size, 0, none⟩) l.length l.length) (w.alloc O1) := by rw [hO1]; exact hmk _ rfl
  rw [← hO1] at hF0
  have HF0 := Lib.hid hF0
  clear hF0 hO1 hmk
  go_enter Try.func90, Try.ntmps90
  go_wp2
  go_loopw [13] (fun i wr => ∃ k : Nat, k ≤ l.length ∧ i = .int .i64 (k : Int) ∧ Hid (FillP wr w.heap.size l.length ((mergeL l ts).take k)) ∧ Hid (Below w.heap.size w wr)) (fun i _ => l.length - (intOf i).toNat)
  case atStart => exact ⟨0, Nat.zero_le _, rfl, Lib.hid (by simpa using HF0.out), Lib.hid (ext_alloc (Below.refl _ _) _)⟩
  case round =>
    clear hmk'
    obtain ⟨k, hk, rfl, HF, Hb⟩ := hrel
    by_cases hlt : k < l.length
    · obtain ⟨g, o, rfl, c0, c1⟩ := (h.ext Hb.out).at_ hlt
      have hki : (k : Int) < (l.length : Int) := by omega
      have hk0 : (0 : Int) ≤ (k : Int) := by omega
      have HT := Lib.hid (mergeL_take l ts k hlt)
      have HL : Hid (((mergeL l ts).take k).length = k) := Lib.hid (by rw [List.length_take, mergeL_len]; omega)
      have Hm1 : Hid (k + 1 ≤ maxLen) := Lib.hid (by unfold maxLen; omega)
      have Hm2 : Hid ((k + 1) * 24 ≤ 140737488355328) := Lib.hid (by omega)
      cases hA : l[k].any
      · rw [hA] at c0
        by_cases hlt2 : k < ts.length
        · obtain ⟨g2, o2, rfl, -, c3⟩ := (h2.ext Hb.out).at_ hlt2
          have hki2 : (k : Int) < (ts.length : Int) := by omega
          have hget : ts[k]? = some ts[k] := List.getElem?_eq_getElem hlt2
          rw [hget] at HT
          clear hget
          obtain ⟨Y, Z, hY, hZ, hc⟩ := str_cases l[k].text ts[k].text
          rw [hY] at c1
          rw [hZ] at c3
          rcases hc with ⟨he, rfl⟩ | ⟨he, hf⟩
          · have HE : Hid (encP (merge1 l[k] (some ts[k])) = [.bool false, .string Y]) := Lib.hid (by rw [merge1_same hA he]; exact encP_of hA hY)
            clear hY hZ hA he
            have q3 : (wr.alloc (Obj.cells #[.bool false, .string Y] 72)).cell? ⟨g2, o2 + k * 2 + 1, none⟩ = some (.string Y) := (World.cell?_of_block (Below.heap_alloc wr _ g2 (World.block_lt_of_cell? wr _ c3))).trans c3
            go_wp2
            go_quiet (fail)
            go_wp2_with (first | fail | (refine wpList_store_part2 rfl _ _ rfl w.heap.size _ rfl rfl HE.out (HF.out.ext (ext_drewN (ext_alloc (Below.refl _ _) _) _)) (by rw [HL.out]) (by rw [HL.out]; exact hlt) ?_; intro w3 hF3 ho3))
            have HF3 := Lib.hid hF3
            have Hb3 : Hid (Below w.heap.size w w3) := Lib.hid (below_own Hb.out (ext_drewN (ext_alloc (Below.refl _ _) _) _) ho3 (Nat.le_refl _))
            clear hF3 ho3
            go_wp2
            go_roundw
            case rel => exact ⟨k + 1, by omega, by go_num, Lib.hid (by rw [HT.out]; exact HF3.out), Hb3⟩
            case measure => simp [intOf]; omega
          · have HE : Hid (encP (merge1 l[k] (some ts[k])) = [.bool true, .string ⟨#[]⟩]) := Lib.hid (by rw [merge1_other hA he]; rfl)
            clear hY hZ hA he
            have q3 : (wr.alloc (Obj.cells #[.bool false, .string Y] 72)).cell? ⟨g2, o2 + k * 2 + 1, none⟩ = some (.string Z) := (World.cell?_of_block (Below.heap_alloc wr _ g2 (World.block_lt_of_cell? wr _ c3))).trans c3
            go_wp2
            go_quiet (fail)
            go_wp2_with (first | (refine wpList_store_pvar rfl _ _ rfl wr.heap.size rfl rfl (Blk.drewN (Blk.new wr _ _) _) rfl ?_; intro w2 hB2 ho2; have Hb2 : Hid (Below wr.heap.size wr w2) := Lib.hid (below_own (Below.refl _ _) (ext_drewN (ext_alloc (Below.refl _ _) _) _) ho2 (Nat.le_refl _)); have d0 : w2.cell? ⟨wr.heap.size, 0, none⟩ = some (.bool true) := hB2.cell 0; have d1 : w2.cell? ⟨wr.heap.size, 1, none⟩ = some (.string ⟨#[]⟩) := hB2.cell 1; clear hB2 ho2) | (refine wpList_store_part2 rfl _ _ rfl w.heap.size _ rfl rfl HE.out (HF.out.ext Hb2.out) (by rw [HL.out]) (by rw [HL.out]; exact hlt) ?_; intro w3 hF3 ho3))
            have HF3 := Lib.hid hF3
            have Hb3 : Hid (Below w.heap.size w w3) := Lib.hid (below_own Hb.out Hb2.out ho3 (Nat.le_refl _))
            clear hF3 ho3
            go_wp2
            go_roundw
            case rel => exact ⟨k + 1, by omega, by go_num, Lib.hid (by rw [HT.out]; exact HF3.out), Hb3⟩
            case measure => simp [intOf]; omega
        · have hki2 : ¬ (k : Int) < (ts.length : Int) := by omega
          have hdk : decide (k < ts.length) = false := decide_eq_false hlt2
          have hget : ts[k]? = none := List.getElem?_eq_none (by omega)
          rw [hget] at HT
          clear hget
          obtain ⟨Y, hY, -⟩ := str_hide l[k].text
          rw [hY] at c1
          have HE : Hid (encP (merge1 l[k] none) = [.bool false, .string Y]) := Lib.hid (by rw [merge1_none hA]; exact encP_of hA hY)
          clear hY hA
          go_wp2
          go_quiet (fail)
          go_wp2_with (first | fail | (refine wpList_store_part2 rfl _ _ rfl w.heap.size _ rfl rfl HE.out (HF.out.ext (ext_drewN (ext_alloc (Below.refl _ _) _) _)) (by rw [HL.out]) (by rw [HL.out]; exact hlt) ?_; intro w3 hF3 ho3))
          have HF3 := Lib.hid hF3
          have Hb3 : Hid (Below w.heap.size w w3) := Lib.hid (below_own Hb.out (ext_drewN (ext_alloc (Below.refl _ _) _) _) ho3 (Nat.le_refl _))
          clear hF3 ho3
          go_wp2
          go_roundw
          case rel => exact ⟨k + 1, by omega, by go_num, Lib.hid (by rw [HT.out]; exact HF3.out), Hb3⟩
          case measure => simp [intOf]; omega
      · rw [hA] at c0
        obtain ⟨Y, hY, -⟩ := str_hide l[k].text
        rw [hY] at c1
        have HE : Hid (encP (merge1 l[k] ts[k]?) = [.bool true, .string ⟨#[]⟩]) := Lib.hid (by rw [merge1_dot _ hA]; rfl)
        clear hY hA
        go_wp2
        go_quiet (fail)
        go_wp2_with (first | (refine wpList_store_pvar rfl _ _ rfl wr.heap.size rfl rfl (Blk.drewN (Blk.new wr _ _) _) rfl ?_; intro w2 hB2 ho2; have Hb2 : Hid (Below wr.heap.size wr w2) := Lib.hid (below_own (Below.refl _ _) (ext_drewN (ext_alloc (Below.refl _ _) _) _) ho2 (Nat.le_refl _)); have d0 : w2.cell? ⟨wr.heap.size, 0, none⟩ = some (.bool true) := hB2.cell 0; have d1 : w2.cell? ⟨wr.heap.size, 1, none⟩ = some (.string ⟨#[]⟩) := hB2.cell 1; clear hB2 ho2) | (refine wpList_store_part2 rfl _ _ rfl w.heap.size _ rfl rfl HE.out (HF.out.ext Hb2.out) (by rw [HL.out]) (by rw [HL.out]; exact hlt) ?_; intro w3 hF3 ho3))
        have HF3 := Lib.hid hF3
        have Hb3 : Hid (Below w.heap.size w w3) := Lib.hid (below_own Hb.out Hb2.out ho3 (Nat.le_refl _))
        clear hF3 ho3
        go_wp2
        go_roundw
        case rel => exact ⟨k + 1, by omega, by go_num, Lib.hid (by rw [HT.out]; exact HF3.out), Hb3⟩
        case measure => simp [intOf]; omega
    · obtain rfl : k = l.length := by omega
      have hw : NewP w wr (some ⟨w.heap.size, 0, none⟩) l.length (mergeL l ts) := by
        refine FillP.whole (by have := HF.out; rwa [List.take_of_length_le (by rw [mergeL_len]; omega)] at this) (mergeL_len l ts) (by unfold maxLen; omega) w Hb.out (Nat.le_refl _)
      have HW := Lib.hid hw
      have HL := Lib.hid (mergeL_len l ts)
      clear hw
      go_wp2
      go_ret
      exact ⟨some ⟨w.heap.size, 0, none⟩, l.length, (by rw [HL.out]; rfl), HW.out⟩

set_option maxHeartbeats 4000000 in
theorem rmerge_any (A : Option Addr) (n c : Nat) (l : List Prt) (B : Option Addr) (n2 d : Nat) (ts : List Tok) (w : World) (hn : n = l.length) (hn2 : n2 = ts.length) (h : PartsAt w A l) (h2 : ToksAt w B ts) (hl : l.length ≤ 1000000) (hl2 : ts.length ≤ 1000000) :
    Calls Try.prog 42 #[.slice A n c, .slice B n2 d] w (SaysParts (mergeL l ts) w) := by
  subst hn hn2
  have hli : (l.length : Int) ≤ 1000000 := by omega
  have hli2 : (ts.length : Int) ≤ 1000000 := by omega
  go_enter Try.func42, Try.ntmps42
  go_wp2
  go_loopw [5, 6] (fun s i wr => ∃ (k : Nat) (A2 : Option Addr) (c2 : Nat), k ≤ l.length ∧ i = .int .i64 (k : Int) ∧ s = .slice A2 k c2 ∧ Hid (NewO w wr 72 2 A2 k c2 (cellsP ((mergeL l ts).take k)))) (fun _ i _ => l.length - (intOf i).toNat)
  case atStart => exact ⟨0, none, 0, Nat.zero_le _, rfl, rfl, Lib.hid (NewO.start w 72 2)⟩
  case round =>
    obtain ⟨k, A2, c2, hk, rfl, rfl, HN⟩ := hrel
    have Hb := Lib.hid HN.out.bel
    by_cases hlt : k < l.length
    · obtain ⟨g, o, rfl, c0, c1⟩ := (h.ext Hb.out).at_ hlt
      have hki : (k : Int) < (l.length : Int) := by omega
      have hk0 : (0 : Int) ≤ (k : Int) := by omega
      have HT := Lib.hid (mergeL_take l ts k hlt)
      have HL : Hid (((mergeL l ts).take k).length = k) := Lib.hid (by rw [List.length_take, mergeL_len]; omega)
      have Hm1 : Hid (k + 1 ≤ maxLen) := Lib.hid (by unfold maxLen; omega)
      have Hm2 : Hid ((k + 1) * 24 ≤ 140737488355328) := Lib.hid (by omega)
      cases hA : l[k].any
      · rw [hA] at c0
        by_cases hlt2 : k < ts.length
        · obtain ⟨g2, o2, rfl, -, c3⟩ := (h2.ext Hb.out).at_ hlt2
          have hki2 : (k : Int) < (ts.length : Int) := by omega
          have hget : ts[k]? = some ts[k] := List.getElem?_eq_getElem hlt2
          rw [hget] at HT
          clear hget
          obtain ⟨Y, Z, hY, hZ, hc⟩ := str_cases l[k].text ts[k].text
          rw [hY] at c1
          rw [hZ] at c3
          rcases hc with ⟨he, rfl⟩ | ⟨he, hf⟩
          · have HE : Hid (encP (merge1 l[k] (some ts[k])) = [.bool false, .string Y]) := Lib.hid (by rw [merge1_same hA he]; exact encP_of hA hY)
            clear hY hZ hA he
            have q3 : (wr.alloc (Obj.cells #[.bool false, .string Y] 72)).cell? ⟨g2, o2 + k * 2 + 1, none⟩ = some (.string Y) := (World.cell?_of_block (Below.heap_alloc wr _ g2 (World.block_lt_of_cell? wr _ c3))).trans c3
            go_wp2
            go_quiet (fail)
            go_wp2_with (first | fail | (refine wpList_app_new rfl (.tmp 37) (.tmp 39) _ rfl _ _ 2 24 Try.underlying39 info_part rfl A2 k c2 _ HN.out (by repeat (first | exact Below.refl _ _ | refine ext_alloc ?_ _ | refine ext_drewN ?_ _)) rfl ⟨_, 0, none⟩ 1 [.bool false, .string Y] rfl rfl (Rd.lit_at _ #[.bool false, .string Y] 72 (by first | rfl | simp | exact (World.size_alloc _ _).symm)) (by intro u hu; simp at hu; rcases hu with rfl | rfl <;> rfl) Hm1.out Hm2.out ?_; intro A7 c7 w7 hN7 hB7))
            have HN7 := Lib.hid hN7
            clear hN7 hB7
            go_wp2
            go_roundw
            case rel => exact ⟨k + 1, A7, c7, by omega, by go_num, rfl, Lib.hid (by rw [HT.out, cellsP_snoc, HE.out]; exact HN7.out)⟩
            case measure => simp [intOf]; omega
          · have HE : Hid (encP (merge1 l[k] (some ts[k])) = [.bool true, .string ⟨#[]⟩]) := Lib.hid (by rw [merge1_other hA he]; rfl)
            clear hY hZ hA he
            have q3 : (wr.alloc (Obj.cells #[.bool false, .string Y] 72)).cell? ⟨g2, o2 + k * 2 + 1, none⟩ = some (.string Z) := (World.cell?_of_block (Below.heap_alloc wr _ g2 (World.block_lt_of_cell? wr _ c3))).trans c3
            go_wp2
            go_quiet (fail)
            go_wp2_with (first | (refine wpList_store_pvar rfl _ _ rfl wr.heap.size rfl rfl (Blk.drewN (Blk.new wr _ _) _) rfl ?_; intro w2 hB2 ho2; have Hb2 : Hid (Below wr.heap.size wr w2) := Lib.hid (below_own (Below.refl _ _) (ext_drewN (ext_alloc (Below.refl _ _) _) _) ho2 (Nat.le_refl _)); have d0 : w2.cell? ⟨wr.heap.size, 0, none⟩ = some (.bool true) := hB2.cell 0; have d1 : w2.cell? ⟨wr.heap.size, 1, none⟩ = some (.string ⟨#[]⟩) := hB2.cell 1; clear hB2 ho2) | (refine wpList_app_new rfl (.tmp 37) (.tmp 39) _ rfl _ _ 2 24 Try.underlying39 info_part rfl A2 k c2 _ HN.out (by repeat (first | exact Hb2.out | refine ext_alloc ?_ _ | refine ext_drewN ?_ _)) rfl ⟨_, 0, none⟩ 1 [.bool true, .string ⟨#[]⟩] rfl rfl (Rd.lit_at _ #[.bool true, .string ⟨#[]⟩] 72 (by first | rfl | simp | exact (World.size_alloc _ _).symm)) (by intro u hu; simp at hu; rcases hu with rfl | rfl <;> rfl) Hm1.out Hm2.out ?_; intro A7 c7 w7 hN7 hB7))
            have HN7 := Lib.hid hN7
            clear hN7 hB7
            go_wp2
            go_roundw
            case rel => exact ⟨k + 1, A7, c7, by omega, by go_num, rfl, Lib.hid (by rw [HT.out, cellsP_snoc, HE.out]; exact HN7.out)⟩
            case measure => simp [intOf]; omega
        · have hki2 : ¬ (k : Int) < (ts.length : Int) := by omega
          have hdk : decide (k < ts.length) = false := decide_eq_false hlt2
          have hget : ts[k]? = none := List.getElem?_eq_none (by omega)
          rw [hget] at HT
          clear hget
          obtain ⟨Y, hY, -⟩ := str_hide l[k].text
          rw [hY] at c1
          have HE : Hid (encP (merge1 l[k] none) = [.bool false, .string Y]) := Lib.hid (by rw [merge1_none hA]; exact encP_of hA hY)
          clear hY hA
          go_wp2
          go_quiet (fail)
          go_wp2_with (first | fail | (refine wpList_app_new rfl (.tmp 37) (.tmp 39) _ rfl _ _ 2 24 Try.underlying39 info_part rfl A2 k c2 _ HN.out (by repeat (first | exact Below.refl _ _ | refine ext_alloc ?_ _ | refine ext_drewN ?_ _)) rfl ⟨_, 0, none⟩ 1 [.bool false, .string Y] rfl rfl (Rd.lit_at _ #[.bool false, .string Y] 72 (by first | rfl | simp | exact (World.size_alloc _ _).symm)) (by intro u hu; simp at hu; rcases hu with rfl | rfl <;> rfl) Hm1.out Hm2.out ?_; intro A7 c7 w7 hN7 hB7))
          have HN7 := Lib.hid hN7
          clear hN7 hB7
          go_wp2
          go_roundw
          case rel => exact ⟨k + 1, A7, c7, by omega, by go_num, rfl, Lib.hid (by rw [HT.out, cellsP_snoc, HE.out]; exact HN7.out)⟩
          case measure => simp [intOf]; omega
      · rw [hA] at c0
        obtain ⟨Y, hY, -⟩ := str_hide l[k].text
        rw [hY] at c1
        have HE : Hid (encP (merge1 l[k] ts[k]?) = [.bool true, .string ⟨#[]⟩]) := Lib.hid (by rw [merge1_dot _ hA]; rfl)
        clear hY hA
        go_wp2
        go_quiet (fail)
        go_wp2_with (first | (refine wpList_store_pvar rfl _ _ rfl wr.heap.size rfl rfl (Blk.drewN (Blk.new wr _ _) _) rfl ?_; intro w2 hB2 ho2; have Hb2 : Hid (Below wr.heap.size wr w2) := Lib.hid (below_own (Below.refl _ _) (ext_drewN (ext_alloc (Below.refl _ _) _) _) ho2 (Nat.le_refl _)); have d0 : w2.cell? ⟨wr.heap.size, 0, none⟩ = some (.bool true) := hB2.cell 0; have d1 : w2.cell? ⟨wr.heap.size, 1, none⟩ = some (.string ⟨#[]⟩) := hB2.cell 1; clear hB2 ho2) | (refine wpList_app_new rfl (.tmp 37) (.tmp 39) _ rfl _ _ 2 24 Try.underlying39 info_part rfl A2 k c2 _ HN.out (by repeat (first | exact Hb2.out | refine ext_alloc ?_ _ | refine ext_drewN ?_ _)) rfl ⟨_, 0, none⟩ 1 [.bool true, .string ⟨#[]⟩] rfl rfl (Rd.lit_at _ #[.bool true, .string ⟨#[]⟩] 72 (by first | rfl | simp | exact (World.size_alloc _ _).symm)) (by intro u hu; simp at hu; rcases hu with rfl | rfl <;> rfl) Hm1.out Hm2.out ?_; intro A7 c7 w7 hN7 hB7))
        have HN7 := Lib.hid hN7
        clear hN7 hB7
        go_wp2
        go_roundw
        case rel => exact ⟨k + 1, A7, c7, by omega, by go_num, rfl, Lib.hid (by rw [HT.out, cellsP_snoc, HE.out]; exact HN7.out)⟩
        case measure => simp [intOf]; omega
    · obtain rfl : k = l.length := by omega
      have hN := HN.out
      rw [List.take_of_length_le (by rw [mergeL_len]; omega)] at hN
      have hw : NewP w wr A2 c2 (mergeL l ts) := by unfold NewP; rw [mergeL_len]; exact hN
      have HW := Lib.hid hw
      have HL := Lib.hid (mergeL_len l ts)
      clear hw hN
      go_wp2
      go_ret
      exact ⟨A2, c2, (by rw [HL.out]; rfl), HW.out⟩
end Go.Proofs.Ytdghbdiapkelnaa
