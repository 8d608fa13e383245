/-
  Texts of this claim, joined (part 9): contracts and lemmas that the last text goes by. No statement of the seat is proved here.
-/
import Derived.Test.YtdghbdiapkelnaaAll3
import Derived.Test.YtdghbdiapkelnaaAll5
import Derived.Shelf.Strings.Builder1
import Derived.Ground.NamesProg
import Derived.Test.YtdghbdiapkelnaaProg
import Derived.Lib.Builder
import Derived.Lib.AppendStr
set_option linter.unusedVariables false
set_option linter.unusedSimpArgs false
/-
  DERIVED: THE SHELF's CONTRACTS AT THIS DUMP, IN PLAIN WORDS (tools/lay-plain.mjs out of 'YtdghbdiapkelnaaShelfB0.lean', which tools/lay-shelf.mjs wrote): THE SAME DECLARATIONS UNDER THE SAME NAMES: 'import', 'namespace', 'open', 'def', 'theorem' AND NOTHING ELSE: no command of the shelf's: FOR A HAND-IN. Each laying: the table of numbers ('.._ren') and one theorem, a field a fact of the dump's own or the kernel's comparison; each contract: ONE APPLICATION.
-/
namespace Go.Proofs
open Go.Shelf
def Try.layString_ren : Go.Shelf.Ren := ⟨fun | 169 => 69 | n => n, fun | 70 => 117 | 9 => 9 | 0 => 0 | 72 => 119 | 37 => 48 | 127 => 151 | 3 => 3 | 5 => 5 | n => n, fun | n => n⟩
theorem Try.layString : Go.Proofs.Lays.n169 Try.prog Try.layString_ren := {
  mixed := by kernel_rfl
  f169 := Try.func69.trans (congrArg some (by kernel_rfl))
  t0 := Try.underlying0
  a0 := Try.isAgg0
  z0 := Try.sizeOf0
  v0 := Try.zeroValue0
  t3 := Try.underlying3
  a3 := Try.isAgg3
  z3 := Try.sizeOf3
  v3 := Try.zeroValue3
  t9 := Try.underlying9
  a9 := Try.isAgg9
  z9 := Try.sizeOf9
  v9 := Try.zeroValue9
  t37 := Try.underlying48
  a37 := Try.isAgg48
  z37 := Try.sizeOf48
  v37 := Try.zeroValue48
  t70 := Try.underlying117
  a70 := Try.isAgg117
  z70 := Try.sizeOf117
  v70 := Try.zeroValue117
  t72 := Try.underlying119
  a72 := Try.isAgg119
  z72 := Try.sizeOf119
  v72 := Try.zeroValue119
  t127 := Try.underlying151
  a127 := Try.isAgg151
  z127 := Try.sizeOf151
  v127 := Try.zeroValue151 }
end Go.Proofs

/-
  The contracts of a strings.Builder that the call has made: copyCheck, WriteString, String. No statement of the seat is proved here.
-/
namespace Go.Proofs.Ytdghbdiapkelnaa
open Go Go.RowKit
set_option maxRecDepth 100000

section
variable {T e : TypeId} {B b : Nat} {p : Value} {bs : List Value} {w w' : World}
theorem builder_ext (h : Lib.BuilderAt T e B b p bs w) (hb : Below w.heap.size w w') : Lib.BuilderAt T e B b p bs w' := by
  obtain ⟨hB, v, h1, h2, h3⟩ := h
  refine ⟨hB, v, (hb.block b (lt_of_block h1)).trans h1, ⟨h2.1, ?_⟩, h3⟩
  rcases h2.2 with h4 | ⟨g, cap, cur, h4, h5, h6, r⟩
  · exact .inl h4
  · exact .inr ⟨g, cap, cur, h4, h5, (hb.block g (lt_of_block h6)).trans h6, r⟩
theorem isbuilder_ext (h : Lib.IsBuilder T e B b bs w) (hb : Below w.heap.size w w') : Lib.IsBuilder T e B b bs w' := by
  rcases h with h | h
  · exact .inl (builder_ext h hb)
  · exact .inr (builder_ext h hb)
end
theorem info_sb : ∃ j, Try.prog.info? 119 = some j ∧ j.size = 2 := by
  have h : (Try.prog.info? 119).map (·.size) = some 2 := by kernel_rfl
  obtain ⟨j, h1, h2⟩ := Option.map_eq_some_iff.1 h
  exact ⟨j, h1, h2⟩
theorem lies_sb : liesAt Try.prog Try.prog.depth 119 (2 / Try.prog.cellsOf 119) 0 119 1 = true := by kernel_rfl
theorem info_byte : (Try.prog.info? 5).map (fun i => (i.zero, i.size, i.bytes)) = some (some (.int .u8 0), 1, 1) := by kernel_rfl
theorem extra_sb : Builder.Extra Try.prog Try.layString_ren := {
  sizeBuilder := by kernel_rfl
  liesBuilder := by kernel_rfl
  t5 := Try.underlying5
  a5 := Try.isAgg5
  z5 := Try.sizeOf5
  v5 := Try.zeroValue5
  infoByte := by kernel_rfl
  cellsByte := by kernel_rfl
  sizeByte := by kernel_rfl
  neB5 := by decide }
theorem sbstring_any (B b : Nat) (l : List UInt8) (w : World) (h : Lib.IsBuilder 119 5 B b (Lib.byteCells l) w) (hBw : B ≤ w.heap.size) :
    Calls Try.prog 69 #[.pointer (some ⟨b, 0, none⟩)] w fun e w' => e = .returned (.string ⟨l.toArray⟩) ∧ Below B w w' := Any.Builder_String_any Try.layString extra_sb B b l w h hBw

set_option maxHeartbeats 1000000 in
theorem sbcheck_used (b : Nat) (w : World) (h0 : w.cell? ⟨b, 0, none⟩ = some (.pointer (some ⟨b, 0, none⟩))) :
    Calls Try.prog 93 #[.pointer (some ⟨b, 0, none⟩)] w fun e w' => e = .returned (.tuple #[]) ∧ w' = w := by
  obtain ⟨j, hj, _⟩ := info_sb
  go_enter Try.func93, Try.ntmps93
  go_wp2
  rw [Lib.run_neq_ptr_same w _ Try.underlying117 hj]
  go_wp2
  go_end0
  exact ⟨rfl, rfl⟩
set_option maxHeartbeats 1000000 in
theorem sbcheck_fresh (b : Nat) (w : World) (h0 : w.cell? ⟨b, 0, none⟩ = some (.pointer none)) (hsh : w.shape? b = some (119, 2)) (hfz : w.frozen? ⟨b, 0, none⟩ = false) :
    Calls Try.prog 93 #[.pointer (some ⟨b, 0, none⟩)] w fun e w' => e = .returned (.tuple #[]) ∧ w' = w.setCell ⟨b, 0, none⟩ (.pointer (some ⟨b, 0, none⟩)) := by
  obtain ⟨j, hj, hjs⟩ := info_sb
  go_enter Try.func93, Try.ntmps93
  go_wp2
  rw [Lib.run_to_unsafe w ⟨b, 0, none⟩ Try.underlying117 Try.underlying154 hj (by rw [hjs]; decide) hsh (Nat.zero_lt_succ 1)]
  simp only [Result.andThen]
  rw [Oper.upon_value]
  go_wp2
  rw [run_callFunc_extern Try.func98 (by kernel_rfl) (by kernel_rfl) (by kernel_rfl) (e := Extern.AbiNoEscape.same) (by kernel_rfl)]
  rw [Lib.run_noEscape]
  simp only [Result.andThen]
  rw [Oper.upon_value]
  go_wp2
  rw [Lib.run_from_unsafe w ⟨b, 0, none⟩ Try.underlying154 Try.underlying117 hj hsh lies_sb]
  simp only [Result.andThen]
  rw [Oper.upon_value]
  go_wp2
  go_end0
  exact ⟨rfl, rfl⟩
theorem sbcheck_any (B b : Nat) (bs : List Value) (w : World) (h : Lib.IsBuilder 119 5 B b bs w) :
    Calls Try.prog 93 #[.pointer (some ⟨b, 0, none⟩)] w fun e w' => e = .returned (.tuple #[]) ∧ (Lib.BuilderAt 119 5 B b (.pointer (some ⟨b, 0, none⟩)) bs w' ∧ Below B w w') := by
  rcases h with h | h
  · refine (sbcheck_fresh b w h.cell0 h.shape h.frozen0).mono ?_
    rintro e w' ⟨rfl, rfl⟩
    exact ⟨rfl, h.used _, (Below.refl B w).setCell (p := ⟨b, 0, none⟩) h.1 _⟩
  · refine (sbcheck_used b w h.cell0).mono ?_
    rintro e w' ⟨rfl, rfl⟩
    exact ⟨rfl, h, Below.refl B w'⟩
set_option maxHeartbeats 2000000 in
theorem sbwrite_any (B b : Nat) (bs : List Value) (s : ByteArray) (w : World) (h : Lib.IsBuilder 119 5 B b bs w) (hlen : bs.length + s.size ≤ 140737488355328) (hBw : B ≤ w.heap.size) :
    Calls Try.prog 68 #[.pointer (some ⟨b, 0, none⟩), .string s] w fun e w' => e = .returned (.tuple #[.int .i64 s.size, .nilIface]) ∧ (Lib.BuilderAt 119 5 B b (.pointer (some ⟨b, 0, none⟩)) (bs ++ Lib.strCells s) w' ∧ Below B w w') := by
  obtain ⟨i0, hi, hz0, hz1, hz2⟩ := info_parts info_byte
  go_enter Try.func68, Try.ntmps68
  go_wp2_with (go_at_call 93; refine (sbcheck_any B b bs _ h).mono ?_)
  rintro e w1 ⟨rfl, h1, hb1⟩
  obtain ⟨hB, v, hbk, hown, hne⟩ := h1
  have c0 : w1.cell? ⟨b, 0, none⟩ = some (.pointer (some ⟨b, 0, none⟩)) := by rw [Lib.cell_of_heap hbk]; rfl
  have c1 : w1.cell? ⟨b, 1, none⟩ = some v := by rw [Lib.cell_of_heap hbk]; rfl
  go_wp2_with (at_builtin; refine Lib.wpList_append_own_string _ rfl _ _ 48 9 rfl B 5 i0 Try.underlying48 Try.underlying9 hi hz0 hz1 hz2 _ _ _ rfl hown s rfl ?c3 ?c4 ?c5 ?_)
  case c3 => unfold maxLen; omega
  case c4 => omega
  case c5 => have := hb1.size; omega
  intro v' w2 hown' hgrow _
  have hlt : b < w1.heap.size := lt_of_block hbk
  have hb2 : w2.heap[b]? = some (.cells #[.pointer (some ⟨b, 0, none⟩), v] 119 (0, 0)) := by
    rw [hgrow.block b hlt (fun e => hne e.symm)]
    exact hbk
  have d0 : w2.cell? ⟨b, 0, none⟩ = some (.pointer (some ⟨b, 0, none⟩)) := by rw [Lib.cell_of_heap hb2]; rfl
  have d1 : w2.cell? ⟨b, 1, none⟩ = some v := by rw [Lib.cell_of_heap hb2]; rfl
  have f1 : w2.frozen? ⟨b, 1, none⟩ = false := Lib.frozen_of_heap hb2 1
  obtain ⟨ao, n', cap, rfl⟩ : ∃ ao n' cap, v' = .slice ao n' cap := by
    rcases hown'.2 with ⟨hv, _⟩ | ⟨g, cap, cur, hv, _⟩
    · exact ⟨_, _, _, hv⟩
    · exact ⟨_, _, _, hv⟩
  go_wp2
  go_ret2
  refine ⟨rfl, ?_, ?_⟩
  · exact Lib.BuilderAt.put (T := 119) (e := 5) hB hb2 (bs' := bs ++ Lib.strCells s) (by simpa [Lib.strCells_length] using hown') (by decide)
  · exact (hb1.grown hgrow (by have := hb1.size; omega) (fun k hk => (hown.lt k hk).1)).setCell (p := ⟨b, 1, none⟩) hB _
end Go.Proofs.Ytdghbdiapkelnaa

/-
  What is rendered. No statement of the seat is proved here.
-/
namespace Go.Proofs.Ytdghbdiapkelnaa
open Go Go.RowKit
set_option maxRecDepth 100000

def rendE (l : List Prt) (vs : List (List UInt8)) : Int := if vs.length = wildN l then 0 else 1
def rendS (l : List Prt) (vs : List (List UInt8)) : List UInt8 := if vs.length = wildN l then renderL l vs else []
def SaysRender (l : List Prt) (vs : List (List UInt8)) (w : World) (e : Ending) (w' : World) : Prop := e = .returned (.tuple #[strV (rendS l vs), .int .i64 (rendE l vs)]) ∧ Below w.heap.size w w'
theorem rTo_len (l : List Prt) (vs : List (List UInt8)) (k j : Nat) (h : k + j ≤ l.length) : (rTo l vs k).length ≤ (rTo l vs (k + j)).length := by
  induction j with
  | zero => exact Nat.le_refl _
  | succ j ih =>
    have := ih (by omega)
    rw [← Nat.add_assoc, rTo_succ _ _ _ (by omega), List.length_append]
    omega
theorem rTo_le (l : List Prt) (vs : List (List UInt8)) (k : Nat) (h : k ≤ l.length) : (rTo l vs k).length ≤ (renderL l vs).length := by
  have := rTo_len l vs k (l.length - k) (by omega)
  rwa [show k + (l.length - k) = l.length by omega] at this
theorem cells_app (a b : List UInt8) {Z : ByteArray} (h : strV b = .string Z) : Lib.byteCells (a ++ b) = Lib.byteCells a ++ Lib.strCells Z := by
  injection h with h
  rw [← h]
  simp [Lib.byteCells, Lib.strCells]
theorem drop_str {w : World} {V : Option Addr} {c : Nat} {vs : List (List UInt8)} (h : Rd w V (vs.map strV)) (hc : vs.length ≤ c) (m : Nat) (x : List UInt8) (r : List (List UInt8)) (hv : vs = x :: r) :
    Rd w (if c = 1 then V else V.map (·.add 1)) (r.map strV) := by
  subst hv
  have h1 := Rd.cut h (k := 1) (cap := c) (by simpa using hc)
  simpa using h1
theorem drop_cons (vs : List (List UInt8)) (m : Nat) (h : m < vs.length) : vs.drop m = vs.getD m [] :: vs.drop (m + 1) := by
  rw [List.drop_eq_getElem_cons h, List.getD_eq_getElem?_getD, List.getElem?_eq_getElem h]; rfl
end Go.Proofs.Ytdghbdiapkelnaa

/-
  The group that is most alike; tokens as a line (program). No statement of the seat is proved here.
-/
namespace Go.Proofs.Ytdghbdiapkelnaa
open Go Go.RowKit Go.Maps
set_option maxRecDepth 100000

theorem Good.tmpl_len {t : Tr} (h : Good t) (id : Nat) : (tmpl t id).length ≤ 64 := by
  unfold tmpl
  by_cases h0 : id = 0
  · rw [if_pos h0]; decide
  · rw [if_neg h0, List.getD_eq_getElem?_getD]
    by_cases hj : id - 1 < t.ts.length
    · rw [List.getElem?_eq_getElem hj]; exact (h.long _ (List.getElem_mem hj)).2
    · rw [List.getElem?_eq_none (by omega)]; simp
theorem alike_bounds {ps : List Prt} {l : List Tok} (hl : l.length ≤ 64) : -1 ≤ alikeI ps l ∧ alikeI ps l ≤ 64 := by
  have h := @alike_le ps l
  refine ⟨?_, by omega⟩
  unfold alikeI
  split
  · omega
  · omega
theorem lik_bounds (t : Tr) (gr : List Nat) {l : List Tok} (hl : l.length ≤ 64) : ∀ k, 0 ≤ (likTo t gr l k).2 ∧ (likTo t gr l k).2 ≤ 64 ∧ (likTo t gr l k).1 ≤ k
  | 0 => by simp [likTo]
  | k + 1 => by
    obtain ⟨h1, h2, h3⟩ := lik_bounds t gr hl k
    have h4 := @alike_bounds (tmpl t (gr.getD k 0)) l hl
    rw [likTo]
    split
    · simp only; omega
    · omega
section
variable {S : Nat → Prop} {w : World} {g : Nat} {t : Tr} {A R : Option Addr} {c d : Nat} {xs ys : List Value} {M : Option Nat}
set_option maxHeartbeats 8000000 in
theorem likest_any (h : TrAt S w g t A c xs R d ys M) (hG : Good t) {i : Nat} (hi : i < t.lv.length) {gR oR : Nat} (hR : R = some ⟨gR, oR, none⟩) (B : Option Addr) (e2 : Nat) (l : List Tok) (hT : ToksAt w B l) (hl : l.length ≤ 64) :
    Calls Try.prog 89 #[.pointer (some ⟨g, 0, none⟩), .pointer (some ⟨gR, oR + i * 4, none⟩), .slice B l.length e2] w fun e w' => e = .returned (.tuple #[.int .i64 ((likTo t t.lv[i].gr l t.lv[i].gr.length).1 : Int), .int .i64 (likTo t t.lv[i].gr l t.lv[i].gr.length).2]) ∧ Below w.heap.size w w' := by
  obtain ⟨gR', oR', G, e, hR', -, -, -, x3, -, hg, -⟩ := h.leaf hi
  rw [hR] at hR'
  injection hR' with hR'
  injection hR' with e3 e4
  subst e3 e4
  obtain ⟨-, hg8, -, hgi⟩ := hG.gr _ (List.getElem_mem hi)
  have hti := hG.ids
  have HAt := Lib.hid (fun (W : World) (hb : Below w.heap.size w W) (id : Nat) (hid : id ≤ t.ts.length) => at_any (h.ext hb) (by omega) hid)
  have HAl := Lib.hid (fun (W : World) (hb : Below w.heap.size w W) (id : Nat) C f (hp : PartsAt W C (tmpl t id)) => alike_any C (tmpl t id).length f (tmpl t id) B l.length e2 l W rfl rfl hp (hT.ext hb) (by have := hG.tmpl_len id; omega) (by omega))
  have HBd := Lib.hid (fun k => lik_bounds t t.lv[i].gr hl k)
  have HAb := Lib.hid (fun id => @alike_bounds (tmpl t id) l hl)
  have HSt : Hid (∀ k, likTo t t.lv[i].gr l (k + 1) = if (likTo t t.lv[i].gr l k).2 < alikeI (tmpl t (t.lv[i].gr.getD k 0)) l then (k, alikeI (tmpl t (t.lv[i].gr.getD k 0)) l) else likTo t t.lv[i].gr l k) := Lib.hid (fun k => rfl)
  have H0 : Hid (likTo t t.lv[i].gr l 0 = (0, 0)) := Lib.hid rfl
  have Hgi : Hid (∀ q ∈ t.lv[i].gr, 1 ≤ q ∧ q ≤ t.ts.length) := Lib.hid (fun q hq => ⟨(hgi q hq).1, (hgi q hq).2.1⟩)
  clear hgi
  have Hg := Lib.hid hg.rd
  generalize t.lv[i].gr = gr at *
  have hgl : (gr.length : Int) ≤ 8 := by omega
  obtain ⟨LK, hLK⟩ : ∃ LK : Nat → Nat × Int, LK = likTo t gr l := ⟨_, rfl⟩
  rw [← hLK] at HBd HSt H0 ⊢
  clear h hG hT hR hi hg hg8 hti hLK
  go_enter Try.func89, Try.ntmps89
  go_wp2
  go_loopw [6, 7, 16] (fun a b j wr => ∃ k : Nat, k ≤ gr.length ∧ j = .int .i64 (k : Int) ∧ a = .int .i64 ((LK k).1 : Int) ∧ b = .int .i64 (LK k).2 ∧ Hid (Below w.heap.size w wr)) (fun _ _ j _ => gr.length - (intOf j).toNat)
  case atStart => exact ⟨0, Nat.zero_le _, rfl, by rw [H0.out]; rfl, by rw [H0.out], Lib.hid (Below.refl _ _)⟩
  case round =>
    obtain ⟨k, hk, rfl, rfl, rfl, Hb⟩ := hrel
    clear x3
    by_cases hlt : k < gr.length
    · have hki : (k : Int) < (gr.length : Int) := by omega
      obtain ⟨ad, had, hc⟩ := (Hg.out.ext Hb.out).at_ (k := k) (by simpa using hlt)
      rw [List.getElem_map] at hc
      unfold natV at hc
      have hgd : gr.getD k 0 = gr[k] := by rw [List.getD_eq_getElem?_getD, List.getElem?_eq_getElem hlt]; rfl
      have hid := Hgi.out _ (List.getElem_mem hlt)
      have HX := Lib.hid (HAt.out wr Hb.out gr[k] hid.2)
      have HY := Lib.hid (fun W (hb : Below w.heap.size w W) => HAl.out W hb gr[k])
      have HS := Lib.hid (HSt.out k)
      rw [hgd] at HS
      have hab := HAb.out gr[k]
      generalize alikeI (tmpl t gr[k]) l = al at *
      generalize tmpl t gr[k] = tp at *
      generalize gr[k] = id_ at *
      obtain ⟨q1, q2⟩ : ∃ q1 q2, LK k = (q1, q2) := ⟨_, _, rfl⟩
      obtain ⟨q2, hq⟩ := q2
      have hbd := HBd.out k
      rw [hq] at HS hbd ⊢
      dsimp only at HS hbd ⊢
      subst had
      clear hgd hid
      go_wp2_with fail
      refine HX.out.mono ?_
      rintro e w1 ⟨C, f, rfl, hp1, hf1, hb1⟩
      have HZ := Lib.hid (HY.out w1 (ext_trans Hb.out hb1) C f hp1)
      have Hb1 := Lib.hid (ext_trans Hb.out hb1)
      clear hp1 hf1 hb1 hc HX HY
      go_wp2_with fail
      refine HZ.out.mono ?_
      rintro e w2 ⟨rfl, hb2⟩
      have Hb2 := Lib.hid (ext_trans Hb1.out hb2)
      clear hb2 HZ
      by_cases hq2 : q2 < al
      · have HS2 : Hid (LK (k + 1) = (k, al)) := Lib.hid (by rw [HS.out, if_pos hq2])
        go_wp2
        go_roundw
        case rel => exact ⟨k + 1, by omega, by go_num, by rw [HS2.out], by rw [HS2.out], Hb2⟩
        case measure => simp [intOf]; omega
      · have HS2 : Hid (LK (k + 1) = (q1, q2)) := Lib.hid (by rw [HS.out, if_neg hq2])
        go_wp2
        go_roundw
        case rel => exact ⟨k + 1, by omega, by go_num, by rw [HS2.out], by rw [HS2.out], Hb2⟩
        case measure => simp [intOf]; omega
    · obtain rfl : k = gr.length := by omega
      go_wp2
      go_ret2
      exact ⟨rfl, Hb.out⟩
end
end Go.Proofs.Ytdghbdiapkelnaa

/-
  The number of tokens that belong to a leaf. No statement of the seat is proved here.
-/
namespace Go.Proofs.Ytdghbdiapkelnaa
open Go Go.RowKit Go.Maps
set_option maxRecDepth 100000

theorem info_tint : (Try.prog.info? 3).map (fun i => (i.zero, i.size, i.bytes)) = some (some (.int .i64 0), 1, 8) := by kernel_rfl
section
variable {S T : Nat → Prop} {w w6 : World} {g : Nat} {t : Tr} {A R : Option Addr} {c d : Nat} {xs ys ys' : List Value} {M : Option Nat}
/-- a leaf's groups turned -/
theorem TrAt.regroup (h : TrAt S w g t A c xs R d ys M) {i : Nat} (hi : i < t.lv.length) {G : Option Addr} {e : Nat} (hy : ys[i * 4 + 3]? = some (.slice G t.lv[i].gr.length e)) {gs : List Nat} {G' : Option Addr} {e' : Nat}
    (hO : Only (fun k => inA G k ∨ inA R k) w w6) (hrows : RowO w6 96 4 R t.lv.length d ys') (hy1 : ys'[i * 4 + 3]? = some (.slice G' gs.length e')) (hy2 : ∀ q, q ≠ i * 4 + 3 → ys'[q]? = ys[q]?)
    (hr : RowO w6 3 1 G' gs.length e' (gs.map natV)) (hA : ∀ k, inA G' k → inA G k ∨ (w.heap.size ≤ k ∧ k < w6.heap.size)) (hs : ∀ k, S k → T k) (hN : ∀ k, w.heap.size ≤ k → k < w6.heap.size → T k) (hl : ∀ k, T k → k < w6.heap.size) :
    TrAt T w6 g ⟨t.ts, t.lv.set i ⟨t.lv[i].count, t.lv[i].a, t.lv[i].b, gs⟩⟩ A c xs R d ys' M := by
  obtain ⟨G0, e0, z0, z1, z2, z3, z4, z5⟩ := h.lvAt i hi
  rw [hy] at z3
  injection z3 with z3
  injection z3 with z3 _ z6
  subst z3 z6
  have keep : ∀ {B : Option Addr} {m c2 : Nat} {zs : List Value} {e : TypeId} {sz : Nat}, RowO w e sz B m c2 zs → e ≠ 3 → e ≠ 96 → RowO w6 e sz B m c2 zs := fun hr h1 h2 =>
    hr.only hO (fun k hk hx => by
      rcases hx with hx | hx
      · exact hr.ne_rowT z4 h1 k hk hx
      · exact hr.ne_rowT h.rows h2 k hk hx)
  have hll : (t.lv.set i ⟨t.lv[i].count, t.lv[i].a, t.lv[i].b, gs⟩).length = t.lv.length := List.length_set
  have far : ∀ j, j ≠ i → j < t.lv.length → ∀ G2 n2 e2, ys[j * 4 + 3]? = some (.slice G2 n2 e2) → ∀ k, inA G k → ¬ inA G2 k := fun j hj hjl G2 n2 e2 h2 k hk hk2 => by
    rcases Nat.lt_or_gt_of_ne hj with hlt | hgt
    · exact h.apart j i G2 G n2 _ e2 e hlt h2 hy k hk2 hk
    · exact h.apart i j G G2 _ n2 e e2 hgt hy h2 k hk hk2
  refine ⟨?_, keep h.own (by decide) (by decide), ?_, ?_, fun j hj => ?_, fun j hj => ?_, fun a b G1 G2 n n' e1 e2 hab h1 h2 => ?_, fun y hyy => ?_, hs _ h.sg, fun k hk => hs _ (h.sA k hk), fun k hk => hs _ (h.sR k hk), fun b hb => hs _ (h.sM b hb), hl⟩
  · show Blk _ g _ #[.slice A t.ts.length c, .slice R (t.lv.set i _).length d, .map M]
    rw [hll]
    exact h.blk.only hO (fun hx => by
      rcases hx with hx | hx
      · exact z4.ne_blk h.blk (by decide) hx
      · exact h.rows.ne_blk h.blk (by decide) hx)
  · show RowO _ _ 4 R (t.lv.set i _).length d _
    rw [hll]
    exact hrows
  · have hm := h.map.only hO (fun b hb hx => by
      rcases hx with hx | hx
      · exact h.mapNeR hb z4 hx
      · exact h.mapNeR hb h.rows hx)
    rcases hm with ⟨h1, h2⟩ | ⟨b, h1, h2⟩
    · rw [h2] at hi; exact absurd hi (by simp)
    · refine .inr ⟨b, h1, ?_⟩
      show ownsPlace _ b (t.lv.set i _).length (placeTo (t.lv.set i _) (t.lv.set i _).length)
      rw [hll, placeTo_same (mv := t.lv) _ (fun j hj => ?_)]
      · exact h2
      · rw [List.getD_eq_getElem?_getD, List.getD_eq_getElem?_getD]
        by_cases hji : i = j
        · subst hji
          rw [List.getElem?_set_self hi, List.getElem?_eq_getElem hi]
          rfl
        · rw [List.getElem?_set_ne hji]
  · obtain ⟨B, e', h1, h2, h3⟩ := h.tsAt j hj
    exact ⟨B, e', h1, keep h2 (by decide) (by decide), fun k hk => hs k (h3 k hk)⟩
  · have hj' : j < t.lv.length := by have : j < (t.lv.set i ⟨t.lv[i].count, t.lv[i].a, t.lv[i].b, gs⟩).length := hj; rwa [hll] at this
    by_cases hji : i = j
    · subst hji
      simp only [List.getElem_set_self]
      exact ⟨G', e', by rw [hy2 _ (by omega)]; exact z0, by rw [hy2 _ (by omega)]; exact z1, by rw [hy2 _ (by omega)]; exact z2, hy1, hr, fun k hk => (hA k hk).elim (fun hx => hs _ (z5 k hx)) (fun hx => hN k hx.1 hx.2)⟩
    · simp only [List.getElem_set_ne hji]
      obtain ⟨G2, e2, y0, y1, y2, y3, y4, y5⟩ := h.lvAt j hj'
      refine ⟨G2, e2, by rw [hy2 _ (by omega)]; exact y0, by rw [hy2 _ (by omega)]; exact y1, by rw [hy2 _ (by omega)]; exact y2, by rw [hy2 _ (by omega)]; exact y3, ?_, fun k hk => hs k (y5 k hk)⟩
      exact y4.only hO (fun k hk hx => by
        rcases hx with hx | hx
        · exact far j (fun h => hji h.symm) hj' G2 _ e2 y3 k hx hk
        · exact y4.ne_rowT h.rows (by decide) k hk hx)
  · have hlen : ∀ q : Nat, (∃ v : Value, ys'[q * 4 + 3]? = some v) → q < t.lv.length := fun q ⟨v, hv⟩ => by
      have h3 := (List.getElem?_eq_some_iff.1 hv).1
      have h4 := hrows.1
      omega
    have ha := hlen a ⟨_, h1⟩
    have hb := hlen b ⟨_, h2⟩
    have old : ∀ j, j ≠ i → j < t.lv.length → ∀ G2 n2 e2, ys[j * 4 + 3]? = some (.slice G2 n2 e2) → ∀ k, inA G' k → ¬ inA G2 k := fun j hj hjl G2 n2 e2 h2 k hk hk2 => by
      rcases hA k hk with hx | hx
      · exact far j hj hjl G2 n2 e2 h2 k hx hk2
      · obtain ⟨G3, e3, _, _, _, y3, _, y5⟩ := h.lvAt j hjl
        rw [h2] at y3
        injection y3 with y3
        injection y3 with y3 _ _
        have := h.lt k (y5 k (by rw [← y3]; exact hk2))
        omega
    by_cases hai : a = i
    · subst hai
      rw [hy1] at h1
      injection h1 with h1
      injection h1 with h1 _ _
      subst h1
      rw [hy2 _ (by omega)] at h2
      exact fun k hk => old b (by omega) hb G2 n' e2 h2 k hk
    · by_cases hbi : b = i
      · subst hbi
        rw [hy1] at h2
        injection h2 with h2
        injection h2 with h2 _ _
        subst h2
        rw [hy2 _ (by omega)] at h1
        exact fun k hk hk2 => old a hai ha G1 n e1 h1 k hk2 hk
      · rw [hy2 _ (by omega)] at h1 h2
        exact h.apart a b G1 G2 n n' e1 e2 hab h1 h2
  · rcases List.mem_or_eq_of_mem_set hyy with hyy | rfl
    · exact h.okl y hyy
    · exact (show okLf t.lv[i] from h.okl _ (List.getElem_mem hi))
theorem grewS.trans {w2 w3 : World} (h12 : w.heap.size ≤ w2.heap.size) (h23 : w2.heap.size ≤ w3.heap.size) {k : Nat} (h : grewS (grewS S w w2) w2 w3 k) : grewS S w w3 k := by
  rcases h with (h | h) | h
  · exact .inl h
  · exact .inr ⟨h.1, by omega⟩
  · exact .inr ⟨by omega, h.2⟩
theorem TrAt.stay (h : TrAt S w g t A c xs R d ys M) {w' : World} (hb : Below w.heap.size w w') : TrIn (grewS S w w') w' g t ∧ Only S w w' :=
  ⟨⟨A, c, xs, R, d, ys, M, (h.ext hb).wider (fun k hk => .inl hk) (fun k hk => by
    rcases hk with hk | hk
    · exact Nat.lt_of_lt_of_le (h.lt k hk) hb.size
    · exact hk.2)⟩, Only.of_ext hb⟩

set_option maxHeartbeats 16000000 in
theorem atleaf_any (h : TrAt S w g t A c xs R d ys M) (hG : Good t) {i : Nat} (hi : i < t.lv.length) {gR oR : Nat} (hR : R = some ⟨gR, oR, none⟩) (B : Option Addr) (e2 : Nat) (l : List Tok) (hc : t.lv[i].count = l.length) (hT : ToksAt w B l) (hl : l.length ≤ 64) :
    Calls Try.prog 65 #[.pointer (some ⟨g, 0, none⟩), .pointer (some ⟨gR, oR + i * 4, none⟩), .slice B l.length e2] w fun e w' => e = .returned (.int .i64 ((atLeaf t i t.lv[i] l).2 : Int)) ∧ TrIn (grewS S w w') w' g (atLeaf t i t.lv[i] l).1 ∧ Only S w w' := by
  subst hR
  obtain ⟨gR', oR', G, e, hR', -, -, -, x3, hy3, hg, hgS⟩ := h.leaf hi
  injection hR' with hR'
  injection hR' with e3 e4
  subst e3 e4
  obtain ⟨hg1, hg8, hgt, hgi⟩ := hG.gr _ (List.getElem_mem hi)
  have hti := hG.ids
  have hw := lik_what t t.lv[i].gr l (fun q hq => by rw [(hgi q hq).2.2, hc]) t.lv[i].gr.length (Nat.le_refl _) hg1
  have HL := Lib.hid (likest_any h hG hi rfl B e2 l hT hl)
  have H := Lib.hid h
  have HG := Lib.hid hG
  have HT := Lib.hid hT
  have Hg := Lib.hid hg
  have HgS := Lib.hid hgS
  have Hy3 := Lib.hid hy3
  have HFu := Lib.hid (fun (W : World) (hb : Below w.heap.size w W) => full_any (h.ext hb) (by omega))
  have HAt := Lib.hid (fun (W : World) (hb : Below w.heap.size w W) (id : Nat) (hid : id ≤ t.ts.length) => at_any (h.ext hb) (by omega) hid)
  have HUn : Hid (atLeaf t i t.lv[i] l = if 2 * (likTo t t.lv[i].gr l t.lv[i].gr.length).2 < (l.length : Int) then
      if t.lv[i].gr.length = 8 ∨ fullT t = true then (t, 0) else (addT t (ofL l) (t.lv.set i ⟨t.lv[i].count, t.lv[i].a, t.lv[i].b, t.lv[i].gr ++ [t.ts.length + 1]⟩), t.ts.length + 1)
    else if mergeL (tmpl t (t.lv[i].gr.getD (likTo t t.lv[i].gr l t.lv[i].gr.length).1 0)) l = tmpl t (t.lv[i].gr.getD (likTo t t.lv[i].gr l t.lv[i].gr.length).1 0) then (t, t.lv[i].gr.getD (likTo t t.lv[i].gr l t.lv[i].gr.length).1 0)
    else if fullT t = true then (t, 0)
    else (addT t (mergeL (tmpl t (t.lv[i].gr.getD (likTo t t.lv[i].gr l t.lv[i].gr.length).1 0)) l) (t.lv.set i ⟨t.lv[i].count, t.lv[i].a, t.lv[i].b, t.lv[i].gr.set (likTo t t.lv[i].gr l t.lv[i].gr.length).1 (t.ts.length + 1)⟩), t.ts.length + 1)) := Lib.hid rfl
  generalize atLeaf t i t.lv[i] l = RR at *
  obtain ⟨⟨q1, q2⟩, hq⟩ : ∃ q, likTo t t.lv[i].gr l t.lv[i].gr.length = q := ⟨_, rfl⟩
  rw [hq] at HL HUn hw
  dsimp only at HL HUn hw
  obtain ⟨w1', w2', -, -, -⟩ := hw
  have Hgi := Lib.hid hgi
  have hbd := lik_bounds t t.lv[i].gr hl t.lv[i].gr.length
  rw [hq] at hbd
  dsimp only at hbd
  obtain ⟨gl, hgl⟩ : ∃ gl, t.lv[i].gr.length = gl := ⟨_, rfl⟩
  rw [hgl] at x3 w1' hg1 hg8
  have Hgl := Lib.hid hgl
  have hgli : (gl : Int) ≤ 8 := by omega
  have hli : (l.length : Int) ≤ 64 := by omega
  have hq1i : (q1 : Int) < (gl : Int) := by omega
  have hq20 : 0 ≤ q2 := hbd.1
  have hq264 : q2 ≤ 64 := hbd.2.1
  have Hx3 : Hid (∀ W, Below w.heap.size w W → W.cell? ⟨gR, oR + i * 4 + 3, none⟩ = some (.slice G gl e)) := Lib.hid (fun W hW => cell_only x3 (Only.of_ext (S := fun _ => False) hW) (fun h => h))
  clear h hG hT hg hgS hgi hq hbd hy3 hgl hgt
  by_cases hlt : 2 * q2 < (l.length : Int)
  · have HU1 : Hid (RR = if gl = 8 ∨ fullT t = true then (t, 0) else (addT t (ofL l) (t.lv.set i ⟨t.lv[i].count, t.lv[i].a, t.lv[i].b, t.lv[i].gr ++ [t.ts.length + 1]⟩), t.ts.length + 1)) := Lib.hid (by rw [HUn.out, if_pos hlt, Hgl.out])
    clear HUn
    go_enter Try.func65, Try.ntmps65
    go_wp2_with fail
    refine HL.out.mono ?_
    rintro ev w1 ⟨rfl, hb1⟩
    have x4 := Hx3.out w1 hb1
    have Hb1 := Lib.hid hb1
    clear hb1 x3 HL
    by_cases h8 : gl = 8
    · have HR0 : Hid (RR = (t, 0)) := Lib.hid (by rw [HU1.out, if_pos (.inl h8)])
      have h8i : (gl : Int) = 8 := by omega
      have h8b : ((gl : Int) == 8) = true := by rw [h8i]; rfl
      go_wp2
      go_ret
      rw [HR0.out]
      exact ⟨rfl, H.out.stay Hb1.out⟩
    · have h8i : ¬ (gl : Int) = 8 := by omega
      have h8b : ((gl : Int) == 8) = false := beq_eq_false_iff_ne.2 h8i
      go_wp2_with fail
      refine (HFu.out w1 Hb1.out).mono ?_
      rintro ev w1x ⟨rfl, hwx⟩
      have hwx := hwx.symm
      subst hwx
      cases hf : fullT t with
      | true =>
        have HR0 : Hid (RR = (t, 0)) := Lib.hid (by rw [HU1.out, if_pos (.inr hf)])
        clear hf
        go_wp2
        go_ret
        rw [HR0.out]
        exact ⟨rfl, H.out.stay Hb1.out⟩
      | false =>
        have HR0 : Hid (RR = (addT t (ofL l) (t.lv.set i ⟨t.lv[i].count, t.lv[i].a, t.lv[i].b, t.lv[i].gr ++ [t.ts.length + 1]⟩), t.ts.length + 1)) := Lib.hid (by rw [HU1.out, if_neg (fun hx => by rcases hx with hx | hx; exact h8 hx; rw [hf] at hx; cases hx)])
        have HOf := Lib.hid (fun (W : World) (hb : Below w.heap.size w W) => of_any B l.length e2 l W rfl (HT.out.ext hb) (by omega))
        have HAd := Lib.hid (fun (W : World) (hb : Below w.heap.size w W) C f (hp : RowO W 72 2 C (ofL l).length f (cellsP (ofL l))) => add_any (H.out.ext hb) (by omega) hp)
        clear hf h8 HFu HU1
        go_wp2_with fail
        refine wp_region_held_drew (S := fun _ => True) (by kernel_rfl) ?_ (fun hHeld => ?_)
        · all_goals trivial
        refine wpAnyH_take (i := 0) (v := ?_) (take_list rfl) (by kernel_rfl) (by kernel_rfl) (by kernel_rfl) (fun _ _ _ h => h) (Or.inl ⟨by rfl, ?_⟩) (by assumption) ?_
        rotate_left
        · intro w hSw
          try dsimp only at hSw
          first | (go_simp; done) | (go_simp; with_reducible rfl)
        try simp only [Act.put, List.setIfInBounds_toArray, List.set_cons_zero, List.set_cons_succ]
        refine wpAnyH_take (i := 1) (v := ?_) (take_list rfl) (by kernel_rfl) (by kernel_rfl) (by kernel_rfl) (fun _ _ _ h => h) (Or.inl ⟨by rfl, ?_⟩) (by assumption) ?_
        rotate_left
        · intro w hSw
          try dsimp only at hSw
          first | (go_simp; done) | (go_simp; with_reducible rfl)
        try simp only [Act.put, List.setIfInBounds_toArray, List.set_cons_zero, List.set_cons_succ]
        refine wpAnyH_take (i := 2) (v := ?_) (take_list rfl) (by kernel_rfl) (by kernel_rfl) (by kernel_rfl) (fun _ _ _ h => h) (Or.inl ⟨by rfl, ?_⟩) (by assumption) ?_
        rotate_left
        · intro w hSw
          try dsimp only at hSw
          first | (go_simp; done) | (go_simp; with_reducible rfl)
        try simp only [Act.put, List.setIfInBounds_toArray, List.set_cons_zero, List.set_cons_succ]
        refine wpAnyH_take (i := 3) (v := ?_) (take_list rfl) (by kernel_rfl) (by kernel_rfl) (by kernel_rfl) (fun _ _ _ h => h) (Or.inl ⟨by rfl, ?_⟩) (by assumption) ?_
        rotate_left
        · intro w hSw
          try dsimp only at hSw
          first | (go_simp; done) | (go_simp; with_reducible rfl)
        try simp only [Act.put, List.setIfInBounds_toArray, List.set_cons_zero, List.set_cons_succ]
        refine wpAnyH_ready (rs := [4]) (by kernel_rfl) (by simp) ?_
        refine AllReadyH.cons (take_list rfl) (fun K hK => ?_) ?_
        · skip
          go_simp
          refine (HOf.out _ (ext_trans Hb1.out (by repeat (first | exact Below.refl _ _ | apply ext_drew | apply ext_drewN | apply ext_alloc)))).mono ?_
          rintro ev w2 ⟨C, f, rfl, hn2⟩
          dsimp only
          have Hn2 := Lib.hid hn2.row
          have HnC : Hid (∀ k, inA C k → w1.heap.size ≤ k) := Lib.hid (fun k hk => hn2.2.2 k hk)
          have Hb2 : Hid (Below w1.heap.size w1 w2) := Lib.hid (ext_trans (by repeat (first | exact Below.refl _ _ | apply ext_drew | apply ext_drewN | apply ext_alloc)) hn2.bel)
          clear hn2
          refine hK.out _ _ ?_ (fun hHeld => ?_)
          · try dsimp only
            all_goals trivial
          clear hK K
          refine wpAnyH_ready (rs := [5]) (by kernel_rfl) (by simp) ?_
          refine AllReadyH.cons (take_list rfl) (fun K hK => ?_) ?_
          · skip
            go_simp
            refine (HAd.out _ (ext_trans Hb1.out (ext_trans Hb2.out (by repeat (first | exact Below.refl _ _ | apply ext_drew | apply ext_drewN | apply ext_alloc)))) C f (Hn2.out.ext (by repeat (first | exact Below.refl _ _ | apply ext_drew | apply ext_drewN | apply ext_alloc)))).mono ?_
            rintro ev w3 ⟨rfl, hT3, hO3⟩
            dsimp only
            have HT3 := Lib.hid hT3
            have HO3 : Hid (Only S w w3) := Lib.hid (((Only.of_ext (S := S) (ext_trans Hb1.out (ext_trans Hb2.out (by repeat (first | exact Below.refl _ _ | apply ext_drew | apply ext_drewN | apply ext_alloc) : Below w2.heap.size w2 _))))).trans hO3 (fun _ _ h => h))
            have Hs3 : Hid (w1.heap.size ≤ w3.heap.size ∧ w.heap.size ≤ w1.heap.size ∧ w2.heap.size ≤ w3.heap.size) := Lib.hid ⟨by have h1 := Hb2.out.size; have h2 : w2.heap.size ≤ w3.heap.size := hO3.size; omega, Hb1.out.size, by have h2 : w2.heap.size ≤ w3.heap.size := hO3.size; omega⟩
            clear hT3 hO3
            refine hK.out _ _ ?_ (fun hHeld => ?_)
            · try dsimp only
              all_goals trivial
            clear hK K
            refine wpAnyH_take (i := 6) (v := ?_) (take_list rfl) (by kernel_rfl) (by kernel_rfl) (by kernel_rfl) (fun _ _ _ h => h) (Or.inl ⟨by rfl, ?_⟩) (by assumption) ?_
            rotate_left
            · intro w hSw
              try dsimp only at hSw
              first | (go_simp; done) | (go_simp; with_reducible rfl)
            try simp only [Act.put, List.setIfInBounds_toArray, List.set_cons_zero, List.set_cons_succ]
            refine wpAnyH_done (by kernel_rfl) ?_ _
            obtain ⟨A3, c3, hT3⟩ := HT3.out
            have Hz3 := Lib.hid (hT3.wider (T := grewS S w w3) (fun k hk => by
              have h1 := Hs3.out
              rcases hk with (hk | hk) | hk
              · exact .inl hk
              · exact .inr ⟨by have h5 : w2.heap.size ≤ k := hk.1; have h6 := Hb2.out.size; omega, hk.2⟩
              · exact .inr ⟨by have := HnC.out k hk; omega, by have := Hn2.out.lt hk; omega⟩) (fun k hk => by
              rcases hk with hk | hk
              · have := H.out.lt k hk; have := HO3.out.size; omega
              · exact hk.2))
            obtain ⟨gRx, oRx, Gx, ex, hRx, -, -, -, y3, hy4, hg4, hgS4⟩ := Hz3.out.leaf (j := i) hi
            injection hRx with hRx
            injection hRx with ea eb
            subst ea eb
            have hy5 := Hy3.out
            rw [hy4] at hy5
            injection hy5 with hy5
            injection hy5 with hy5 _ hy6
            subst hy5 hy6
            replace y3 : w3.cell? ⟨gR, oR + i * 4 + 3, none⟩ = some (.slice Gx gl ex) := by rw [← Hgl.out]; exact y3
            have Hg4 : Hid (RowO w3 3 1 Gx gl ex (t.lv[i].gr.map natV)) := Lib.hid (by rw [← Hgl.out]; exact hg4)
            have hp1 : gl + 1 ≤ maxLen := by unfold maxLen; omega
            have hp2 : (gl + 1) * 8 ≤ 140737488355328 := by omega
            have Hrw := Lib.hid Hz3.out.rows
            have Hfr : Hid (∀ W, Blk W gR 96 #[] → True) := Lib.hid (fun _ _ => trivial)
            clear hT3 hg4 hgS4 hy4 Hfr
            go_wp2_with (at_builtin
                         have hbl : Below w3.heap.size w3 (w3.alloc (.cells #[.int .i64 ((t.ts.length : Int) + 1)] 3)) := ext_alloc (Below.refl _ _) _
                         refine wpList_appO _ rfl (.tmp 46) (.tmp 48) _ rfl 3 _ 1 8 Try.underlying82 info_tint rfl Gx gl ex (t.lv[i].gr.map natV) rfl (Hg4.out.ext hbl) (some ⟨w3.heap.size, 0, none⟩) 1 1 [.int .i64 ((t.ts.length : Int) + 1)] rfl rfl (Rd.lit_at _ #[.int .i64 ((t.ts.length : Int) + 1)] _ rfl) (by intro u hu; simp at hu; subst hu; rfl) (by intro h; cases h) hp1 hp2 ?_
                         intro A5 c5 w5 hr5 ho5 hA5
                         have hO5 : Only (inA Gx) w3 w5 := (Only.of_ext (S := inA Gx) hbl).trans ho5 (fun _ _ h => h)
                         have hrw5 := Hrw.out.only hO5 (fun k hk hx => Hrw.out.ne_rowT Hg4.out (by decide) k hk hx)
                         have hyl : i * 4 + 3 < ys.length := by have h1 : ys.length = t.lv.length * 4 := Hrw.out.1; omega
                         have y5 := cell_only y3 hO5 (fun hx => Hrw.out.ne_rowT Hg4.out (by decide) gR (by rw [inA_some]) hx)
                         have f5 := hrw5.free (oR + i * 4 + 3)
                         have hset := hrw5.set (i * 4 + 3) hyl (.slice A5 (gl + 1) c5)
                         rw [← Nat.add_assoc] at hset
                         have hz6 : (w5.setCell ⟨gR, oR + i * 4 + 3, none⟩ (.slice A5 (gl + 1) c5)).heap.size = w5.heap.size := by simp [World.setCell]
                         have hs5 := hO5.size
                         have HTr : Hid (TrAt (grewS S w (w5.setCell ⟨gR, oR + i * 4 + 3, none⟩ (.slice A5 (gl + 1) c5))) (w5.setCell ⟨gR, oR + i * 4 + 3, none⟩ (.slice A5 (gl + 1) c5)) g ⟨t.ts ++ [ofL l], t.lv.set i ⟨t.lv[i].count, t.lv[i].a, t.lv[i].b, t.lv[i].gr ++ [t.ts.length + 1]⟩⟩ A3 c3 (xs ++ [.slice C (ofL l).length f]) (some ⟨gR, oR, none⟩) d (ys.set (i * 4 + 3) (.slice A5 (gl + 1) c5)) M) := Lib.hid (by
                           refine Hz3.out.regroup (i := i) hi (G := Gx) (e := ex) (gs := t.lv[i].gr ++ [t.ts.length + 1]) (G' := A5) (e' := c5) ?_ ?_ hset ?_ (fun q hq => List.getElem?_set_ne (fun h => hq h.symm)) ?_ (fun k hk => ?_) (fun k hk => ?_) (fun k h1 h2 => ?_) (fun k hk => ?_)
                           · exact Hy3.out
                           · exact (hO5.mono (fun _ _ h => .inl h)).setCell (.inl (.inr (by show inA (some _) gR; rw [inA_some]))) _
                           · rw [List.getElem?_set_self hyl, List.length_append, Hgl.out]; rfl
                           · rw [List.length_append, Hgl.out, List.map_append]
                             exact (show RowO w5 3 1 A5 (gl + 1) c5 (t.lv[i].gr.map natV ++ [.int .i64 ((t.ts.length : Int) + 1)]) from hr5).keep fun k hk => Below.heap_setCell w5 _ _ k (fun e => hr5.ne_rowT hrw5 (by decide) k hk (by rw [inA_some]; exact e.symm))
                           · rcases hA5 k hk with hx | ⟨hx, hy⟩
                             · exact .inl hx
                             · exact .inr ⟨by have := hbl.size; omega, by rw [hz6]; exact hy⟩
                           · rcases hk with hk | hk
                             · exact .inl hk
                             · exact .inr ⟨hk.1, by rw [hz6]; omega⟩
                           · exact .inr ⟨by have := Hs3.out; omega, h2⟩
                           · rcases hk with hk | hk
                             · have := H.out.lt k hk; have := HO3.out.size; rw [hz6]; omega
                             · exact hk.2)
                         have HO6 : Hid (Only S w (w5.setCell ⟨gR, oR + i * 4 + 3, none⟩ (.slice A5 (gl + 1) c5))) := Lib.hid ((HO3.out.trans hO5 (fun k _ hk => HgS.out k hk)).setCell (.inl (H.out.sR gR (by rw [inA_some]))) _)
                         clear hr5 ho5 hA5 hO5 hrw5 hyl hset hz6 hs5 hbl)
            go_ret
            rw [HR0.out]
            exact ⟨by first | rfl | (push_cast; rfl), ⟨_, _, _, _, _, _, _, HTr.out⟩, HO6.out⟩
          exact AllReadyH.nil
        exact AllReadyH.nil
  · have HU1 : Hid (RR = if mergeL (tmpl t (t.lv[i].gr.getD q1 0)) l = tmpl t (t.lv[i].gr.getD q1 0) then (t, t.lv[i].gr.getD q1 0) else if fullT t = true then (t, 0)
      else (addT t (mergeL (tmpl t (t.lv[i].gr.getD q1 0)) l) (t.lv.set i ⟨t.lv[i].count, t.lv[i].a, t.lv[i].b, t.lv[i].gr.set q1 (t.ts.length + 1)⟩), t.ts.length + 1)) := Lib.hid (by rw [HUn.out, if_neg hlt])
    have hq1n : q1 < t.lv[i].gr.length := by rw [Hgl.out]; exact w1'
    have hidm := Hgi.out _ (List.getElem_mem hq1n)
    have hgd : t.lv[i].gr.getD q1 0 = t.lv[i].gr[q1] := by rw [List.getD_eq_getElem?_getD, List.getElem?_eq_getElem hq1n]; rfl
    rw [hgd] at HU1
    obtain ⟨ad, had, hcg⟩ := Hg.out.rd.at_ (k := q1) (by simpa using hq1n)
    rw [List.getElem_map] at hcg
    unfold natV at hcg
    obtain ⟨gG, oG, hGe⟩ := Hg.out.addr (by omega)
    rw [hGe] at had
    injection had with had
    rw [← had, Addr.add_mid] at hcg
    have hidl : t.lv[i].gr[q1] ≤ t.ts.length := hidm.2.1
    have Hcg : Hid (∀ W, Below w.heap.size w W → W.cell? ⟨gG, oG + q1, none⟩ = some (.int .i64 (t.lv[i].gr[q1] : Int))) := Lib.hid (fun W hW => cell_only hcg (Only.of_ext (S := fun _ => False) hW) (fun h => h))
    generalize hid_ : t.lv[i].gr[q1] = id_ at *
    have HGe := Lib.hid hGe
    subst hGe
    have HAt1 := Lib.hid (fun (W : World) (hb : Below w.heap.size w W) => HAt.out W hb id_ hidl)
    obtain ⟨old, hold⟩ : ∃ old, tmpl t id_ = old := ⟨_, rfl⟩
    have holl : old.length ≤ 64 := by rw [← hold]; exact HG.out.tmpl_len id_
    rw [hold] at HAt1 HU1
    have HMg := Lib.hid (fun (W : World) (hb : Below w.heap.size w W) C f (hp : PartsAt W C old) => merge_any_ C old.length f old B l.length e2 l W rfl rfl hp (HT.out.ext hb) (by omega) (by omega))
    have HSm := Lib.hid (fun (W : World) C f D f2 (hp : PartsAt W C (mergeL old l)) (hp2 : PartsAt W D old) => same_any C (mergeL old l).length f (mergeL old l) D old.length f2 old W rfl rfl hp hp2 (by rw [mergeL_len]; omega) (by omega))
    have HAd := Lib.hid (fun (W : World) (hb : Below w.heap.size w W) C f (hp : RowO W 72 2 C (mergeL old l).length f (cellsP (mergeL old l))) => add_any (H.out.ext hb) (by omega) hp)
    clear HUn hgd hold had hcg HAt hidm hidl HG
    go_enter Try.func65, Try.ntmps65
    go_wp2_with fail
    refine HL.out.mono ?_
    rintro ev w1 ⟨rfl, hb1⟩
    have HK : Hid (∀ W, Below w1.heap.size w1 W → W.cell? ⟨gR, oR + i * 4 + 3, none⟩ = some (.slice (some ⟨gG, oG, none⟩) gl e) ∧ W.cell? ⟨gG, oG + q1, none⟩ = some (.int .i64 (id_ : Int))) := Lib.hid (fun W hW => ⟨Hx3.out W (ext_trans hb1 hW), Hcg.out W (ext_trans hb1 hW)⟩)
    have Hb1 := Lib.hid hb1
    clear hb1 x3 HL
    go_wp2_with fail
    refine wp_region_held_drew (S := fun W => W.cell? ⟨gR, oR + i * 4 + 3, none⟩ = some (.slice (some ⟨gG, oG, none⟩) gl e) ∧ W.cell? ⟨gG, oG + q1, none⟩ = some (.int .i64 (id_ : Int))) (by kernel_rfl) ?_ (fun hHeld => ?_)
    · exact HK.out _ (by repeat (first | exact Below.refl _ _ | apply ext_drew | apply ext_drewN | apply ext_alloc))
    refine wpAnyH_take (i := 0) (v := ?_) (take_list rfl) (by kernel_rfl) (by kernel_rfl) (by kernel_rfl) (fun _ _ _ h => h) (Or.inl ⟨by rfl, ?_⟩) (by assumption) ?_
    rotate_left
    · intro w hSw
      try dsimp only at hSw
      first | (go_simp; done) | (go_simp; with_reducible rfl)
    try simp only [Act.put, List.setIfInBounds_toArray, List.set_cons_zero, List.set_cons_succ]
    refine wpAnyH_take (i := 1) (v := ?_) (take_list rfl) (by kernel_rfl) (by kernel_rfl) (by kernel_rfl) (fun _ _ _ h => h) (Or.inl ⟨by rfl, ?_⟩) (by assumption) ?_
    rotate_left
    · intro w hSw
      try dsimp only at hSw
      first | (go_simp; done) | (go_simp; with_reducible rfl)
    try simp only [Act.put, List.setIfInBounds_toArray, List.set_cons_zero, List.set_cons_succ]
    refine wpAnyH_take (i := 2) (v := ?_) (take_list rfl) (by kernel_rfl) (by kernel_rfl) (by kernel_rfl) (fun _ _ _ h => h) (Or.inl ⟨by rfl, ?_⟩) (by assumption) ?_
    rotate_left
    · intro w hSw
      try dsimp only at hSw
      first | (go_simp; done) | (go_simp; with_reducible rfl)
    try simp only [Act.put, List.setIfInBounds_toArray, List.set_cons_zero, List.set_cons_succ]
    refine wpAnyH_take (i := 3) (v := ?_) (take_list rfl) (by kernel_rfl) (by kernel_rfl) (by kernel_rfl) (fun _ _ _ h => h) (Or.inl ⟨by rfl, ?_⟩) (by assumption) ?_
    rotate_left
    · intro w hSw
      try dsimp only at hSw
      first | (go_simp; done) | (go_simp; with_reducible rfl)
    try simp only [Act.put, List.setIfInBounds_toArray, List.set_cons_zero, List.set_cons_succ]
    refine wpAnyH_take (i := 4) (v := ?_) (take_list rfl) (by kernel_rfl) (by kernel_rfl) (by kernel_rfl) (fun _ _ _ h => h) (Or.inl ⟨by rfl, ?_⟩) (by assumption) ?_
    rotate_left
    · intro w hSw
      try dsimp only at hSw
      first | (go_simp; done) | (go_simp; with_reducible rfl)
    try simp only [Act.put, List.setIfInBounds_toArray, List.set_cons_zero, List.set_cons_succ]
    refine wpAnyH_take (i := 5) (v := ?_) (take_list rfl) (by kernel_rfl) (by kernel_rfl) (by kernel_rfl) (fun _ _ _ h => h) (Or.inl ⟨by rfl, ?_⟩) (by assumption) ?_
    rotate_left
    · intro w hSw
      try dsimp only at hSw
      first | (go_simp; done) | (go_simp; with_reducible rfl)
    try simp only [Act.put, List.setIfInBounds_toArray, List.set_cons_zero, List.set_cons_succ]
    refine wpAnyH_take (i := 6) (v := ?_) (take_list rfl) (by kernel_rfl) (by kernel_rfl) (by kernel_rfl) (fun _ _ _ h => h) (Or.inl ⟨by rfl, ?_⟩) (by assumption) ?_
    rotate_left
    · intro w hSw
      try dsimp only at hSw
      first | (go_simp; done) | (go_simp; with_reducible rfl)
    try simp only [Act.put, List.setIfInBounds_toArray, List.set_cons_zero, List.set_cons_succ]
    refine wpAnyH_take (i := 7) (v := ?_) (take_list rfl) (by kernel_rfl) (by kernel_rfl) (by kernel_rfl) (fun _ _ _ h => h) (Or.inl ⟨by rfl, ?_⟩) (by assumption) ?_
    rotate_left
    · intro w hSw
      try dsimp only at hSw
      first | (go_simp; done) | (go_simp; with_reducible rfl)
    try simp only [Act.put, List.setIfInBounds_toArray, List.set_cons_zero, List.set_cons_succ]
    refine wpAnyH_take (i := 8) (v := ?_) (take_list rfl) (by kernel_rfl) (by kernel_rfl) (by kernel_rfl) (fun _ _ _ h => h) (Or.inl ⟨by rfl, ?_⟩) (by assumption) ?_
    rotate_left
    · intro w hSw
      try dsimp only at hSw
      first | (go_simp; done) | (go_simp; with_reducible rfl)
    try simp only [Act.put, List.setIfInBounds_toArray, List.set_cons_zero, List.set_cons_succ]
    refine wpAnyH_take (i := 9) (v := ?_) (take_list rfl) (by kernel_rfl) (by kernel_rfl) (by kernel_rfl) (fun _ _ _ h => h) (Or.inl ⟨by rfl, ?_⟩) (by assumption) ?_
    rotate_left
    · intro w hSw
      try dsimp only at hSw
      first | (go_simp; done) | (go_simp; with_reducible rfl)
    try simp only [Act.put, List.setIfInBounds_toArray, List.set_cons_zero, List.set_cons_succ]
    refine wpAnyH_ready (rs := [10]) (by kernel_rfl) (by simp) ?_
    refine AllReadyH.cons (take_list rfl) (fun K hK => ?_) ?_
    · skip
      go_simp
      refine (HAt1.out _ (ext_trans Hb1.out (by repeat (first | exact Below.refl _ _ | apply ext_drew | apply ext_drewN | apply ext_alloc)))).mono ?_
      rintro ev w2 ⟨C, f, rfl, hp2, hf2, hb2⟩
      dsimp only
      have Hp2 := Lib.hid hp2
      have HE2 : Hid (Below w1.heap.size w1 w2) := Lib.hid (ext_trans (by repeat (first | exact Below.refl _ _ | apply ext_drew | apply ext_drewN | apply ext_alloc)) hb2)
      clear hp2 hf2 hb2
      refine hK.out _ _ ?_ (fun hHeld => ?_)
      · try dsimp only
        exact HK.out _ (by repeat (first | exact HE2.out | apply ext_drew | apply ext_drewN | apply ext_alloc))
      clear hK K
      refine wpAnyH_take (i := 11) (v := ?_) (take_list rfl) (by kernel_rfl) (by kernel_rfl) (by kernel_rfl) (fun _ _ _ h => h) (Or.inl ⟨by rfl, ?_⟩) (by assumption) ?_
      rotate_left
      · intro w hSw
        try dsimp only at hSw
        first | (go_simp; done) | (go_simp; with_reducible rfl)
      try simp only [Act.put, List.setIfInBounds_toArray, List.set_cons_zero, List.set_cons_succ]
      refine wpAnyH_done (by kernel_rfl) ?_ _
      go_wp2_with fail
      refine (HMg.out w2 (ext_trans Hb1.out HE2.out) C f Hp2.out).mono ?_
      rintro ev w3 ⟨D, f3, rfl, hn3⟩
      have Hn3 := Lib.hid hn3.row
      have HnD : Hid (∀ k, inA D k → w2.heap.size ≤ k) := Lib.hid hn3.2.2
      have Hb3 : Hid (Below w1.heap.size w1 w3) := Lib.hid (ext_trans HE2.out hn3.bel)
      have HX := Lib.hid (HSm.out w3 D f3 C f hn3.at_ (Hp2.out.ext hn3.bel))
      clear hn3
      go_wp2_with fail
      refine HX.out.mono ?_
      rintro ev w4 ⟨rfl, hb4⟩
      have Hb4 : Hid (Below w1.heap.size w1 w4) := Lib.hid (ext_trans Hb3.out hb4)
      have Hn4 := Lib.hid (Hn3.out.ext hb4)
      obtain ⟨k3, k4⟩ := HK.out w4 Hb4.out
      clear hb4 HX
      by_cases hmg : mergeL old l = old
      · have HR0 : Hid (RR = (t, id_)) := Lib.hid (by rw [HU1.out, if_pos hmg])
        have hdm : decide (mergeL old l = old) = true := decide_eq_true hmg
        clear hmg
        go_wp2
        go_ret
        rw [HR0.out]
        exact ⟨rfl, H.out.stay (ext_trans Hb1.out Hb4.out)⟩
      have hdm : decide (mergeL old l = old) = false := decide_eq_false hmg
      go_wp2_with fail
      refine (HFu.out w4 (ext_trans Hb1.out Hb4.out)).mono ?_
      rintro ev w4x ⟨rfl, hwx⟩
      have hwx := hwx.symm
      subst hwx
      cases hf : fullT t with
      | true =>
        have HR0 : Hid (RR = (t, 0)) := Lib.hid (by rw [HU1.out, if_neg hmg, if_pos hf])
        clear hf hmg hdm
        go_wp2
        go_ret
        rw [HR0.out]
        exact ⟨rfl, H.out.stay (ext_trans Hb1.out Hb4.out)⟩
      | false =>
        have HR0 : Hid (RR = (addT t (mergeL old l) (t.lv.set i ⟨t.lv[i].count, t.lv[i].a, t.lv[i].b, t.lv[i].gr.set q1 (t.ts.length + 1)⟩), t.ts.length + 1)) := Lib.hid (by rw [HU1.out, if_neg hmg, if_neg (by rw [hf]; simp)])
        clear hf hmg hdm HFu HSm HMg HU1
        have HE4 := Hb4
        clear Hn3
        go_wp2_with fail
        refine wp_region_held_drew (S := fun W => W.cell? ⟨gR, oR + i * 4 + 3, none⟩ = some (.slice (some ⟨gG, oG, none⟩) gl e)) (by kernel_rfl) ?_ (fun hHeld => ?_)
        · exact (HK.out _ (by repeat (first | exact HE4.out | apply ext_drew | apply ext_drewN | apply ext_alloc))).1
        refine wpAnyH_take (i := 0) (v := ?_) (take_list rfl) (by kernel_rfl) (by kernel_rfl) (by kernel_rfl) (fun _ _ _ h => h) (Or.inl ⟨by rfl, ?_⟩) (by assumption) ?_
        rotate_left
        · intro w hSw
          try dsimp only at hSw
          first | (go_simp; done) | (go_simp; with_reducible rfl)
        try simp only [Act.put, List.setIfInBounds_toArray, List.set_cons_zero, List.set_cons_succ]
        refine wpAnyH_take (i := 1) (v := ?_) (take_list rfl) (by kernel_rfl) (by kernel_rfl) (by kernel_rfl) (fun _ _ _ h => h) (Or.inl ⟨by rfl, ?_⟩) (by assumption) ?_
        rotate_left
        · intro w hSw
          try dsimp only at hSw
          first | (go_simp; done) | (go_simp; with_reducible rfl)
        try simp only [Act.put, List.setIfInBounds_toArray, List.set_cons_zero, List.set_cons_succ]
        refine wpAnyH_take (i := 2) (v := ?_) (take_list rfl) (by kernel_rfl) (by kernel_rfl) (by kernel_rfl) (fun _ _ _ h => h) (Or.inl ⟨by rfl, ?_⟩) (by assumption) ?_
        rotate_left
        · intro w hSw
          try dsimp only at hSw
          first | (go_simp; done) | (go_simp; with_reducible rfl)
        try simp only [Act.put, List.setIfInBounds_toArray, List.set_cons_zero, List.set_cons_succ]
        refine wpAnyH_take (i := 3) (v := ?_) (take_list rfl) (by kernel_rfl) (by kernel_rfl) (by kernel_rfl) (fun _ _ _ h => h) (Or.inl ⟨by rfl, ?_⟩) (by assumption) ?_
        rotate_left
        · intro w hSw
          try dsimp only at hSw
          first | (go_simp; done) | (go_simp; with_reducible rfl)
        try simp only [Act.put, List.setIfInBounds_toArray, List.set_cons_zero, List.set_cons_succ]
        refine wpAnyH_take (i := 4) (v := ?_) (take_list rfl) (by kernel_rfl) (by kernel_rfl) (by kernel_rfl) (fun _ _ _ h => h) (Or.inl ⟨by rfl, ?_⟩) (by assumption) ?_
        rotate_left
        · intro w hSw
          try dsimp only at hSw
          first | (go_simp; done) | (go_simp; with_reducible rfl)
        try simp only [Act.put, List.setIfInBounds_toArray, List.set_cons_zero, List.set_cons_succ]
        refine wpAnyH_take (i := 5) (v := ?_) (take_list rfl) (by kernel_rfl) (by kernel_rfl) (by kernel_rfl) (fun _ _ _ h => h) (Or.inl ⟨by rfl, ?_⟩) (by assumption) ?_
        rotate_left
        · intro w hSw
          try dsimp only at hSw
          first | (go_simp; done) | (go_simp; with_reducible rfl)
        try simp only [Act.put, List.setIfInBounds_toArray, List.set_cons_zero, List.set_cons_succ]
        refine wpAnyH_take (i := 6) (v := ?_) (take_list rfl) (by kernel_rfl) (by kernel_rfl) (by kernel_rfl) (fun _ _ _ h => h) (Or.inl ⟨by rfl, ?_⟩) (by assumption) ?_
        rotate_left
        · intro w hSw
          try dsimp only at hSw
          first | (go_simp; done) | (go_simp; with_reducible rfl)
        try simp only [Act.put, List.setIfInBounds_toArray, List.set_cons_zero, List.set_cons_succ]
        refine wpAnyH_take (i := 7) (v := ?_) (take_list rfl) (by kernel_rfl) (by kernel_rfl) (by kernel_rfl) (fun _ _ _ h => h) (Or.inl ⟨by rfl, ?_⟩) (by assumption) ?_
        rotate_left
        · intro w hSw
          try dsimp only at hSw
          first | (go_simp; done) | (go_simp; with_reducible rfl)
        try simp only [Act.put, List.setIfInBounds_toArray, List.set_cons_zero, List.set_cons_succ]
        refine wpAnyH_take (i := 8) (v := ?_) (take_list rfl) (by kernel_rfl) (by kernel_rfl) (by kernel_rfl) (fun _ _ _ h => h) (Or.inl ⟨by rfl, ?_⟩) (by assumption) ?_
        rotate_left
        · intro w hSw
          try dsimp only at hSw
          first | (go_simp; done) | (go_simp; with_reducible rfl)
        try simp only [Act.put, List.setIfInBounds_toArray, List.set_cons_zero, List.set_cons_succ]
        refine wpAnyH_ready (rs := [9]) (by kernel_rfl) (by simp) ?_
        refine AllReadyH.cons (take_list rfl) (fun K hK => ?_) ?_
        · skip
          go_simp
          refine (HAd.out _ (ext_trans Hb1.out (by repeat (first | exact HE4.out | apply ext_drew | apply ext_drewN | apply ext_alloc))) D f3 (Hn4.out.ext (by repeat (first | exact Below.refl _ _ | apply ext_drew | apply ext_drewN | apply ext_alloc)))).mono ?_
          rintro ev w5 ⟨rfl, hT5, hO5⟩
          dsimp only
          obtain ⟨A5, c5, hT5⟩ := hT5
          have hsz5 : w4.heap.size ≤ w5.heap.size := hO5.size
          have HO5 : Hid (Only S w w5) := Lib.hid (((Only.of_ext (S := S) (ext_trans Hb1.out (by repeat (first | exact HE4.out | apply ext_drew | apply ext_drewN | apply ext_alloc)))).trans hO5 (fun _ _ h => h)))
          have hs := HO5.out.size
          have Hz5 := Lib.hid (hT5.wider (T := grewS S w w5) (fun k hk => by
            rcases hk with (hk | hk) | hk
            · exact .inl hk
            · exact .inr ⟨by have h5 : w4.heap.size ≤ k := hk.1; have h6 := HE4.out.size; have h7 := Hb1.out.size; omega, hk.2⟩
            · exact .inr ⟨by have h5 := HnD.out k hk; have h6 := HE2.out.size; have h7 := Hb1.out.size; omega, by have := Hn4.out.lt hk; omega⟩) (fun k hk => by
            rcases hk with hk | hk
            · have := H.out.lt k hk; omega
            · exact hk.2))
          obtain ⟨gRx, oRx, Gx, ex, hRx, -, -, -, y3, hy4, hg4, hgS4⟩ := Hz5.out.leaf (j := i) hi
          injection hRx with hRx
          injection hRx with ea eb
          subst ea eb
          have hy5 := Hy3.out
          rw [hy4] at hy5
          injection hy5 with hy5
          injection hy5 with hy5 _ hy6
          subst hy5 hy6
          replace y3 : w5.cell? ⟨gR, oR + i * 4 + 3, none⟩ = some (.slice (some ⟨gG, oG, none⟩) gl ex) := by rw [← Hgl.out]; exact y3
          have Hg4 : Hid (RowO w5 3 1 (some ⟨gG, oG, none⟩) gl ex (t.lv[i].gr.map natV)) := Lib.hid (by rw [← Hgl.out]; exact hg4)
          have hq1l : q1 < (t.lv[i].gr.map natV).length := by rw [List.length_map, Hgl.out]; exact w1'
          obtain ⟨adg, hag, hcg⟩ := Hg4.out.rd.at_ (k := q1) hq1l
          injection hag with hag
          rw [← hag, Addr.add_mid] at hcg
          have fg := Hg4.out.free (oG + q1)
          have hset := Hg4.out.set q1 hq1l (.int .i64 ((t.ts.length : Int) + 1))
          have hO6 : Only (inA (some ⟨gG, oG, none⟩)) w5 (w5.setCell ⟨gG, oG + q1, none⟩ (.int .i64 ((t.ts.length : Int) + 1))) := (Only.refl _ _).setCell (.inl (by rw [inA_some])) _
          have hz6 : (w5.setCell ⟨gG, oG + q1, none⟩ (.int .i64 ((t.ts.length : Int) + 1))).heap.size = w5.heap.size := by simp [World.setCell]
          have hrw6 := Hz5.out.rows.only hO6 (fun k hk hx => Hz5.out.rows.ne_rowT Hg4.out (by decide) k hk hx)
          have HTr : Hid (TrAt (grewS S w (w5.setCell ⟨gG, oG + q1, none⟩ (.int .i64 ((t.ts.length : Int) + 1)))) (w5.setCell ⟨gG, oG + q1, none⟩ (.int .i64 ((t.ts.length : Int) + 1))) g ⟨t.ts ++ [mergeL old l], t.lv.set i ⟨t.lv[i].count, t.lv[i].a, t.lv[i].b, t.lv[i].gr.set q1 (t.ts.length + 1)⟩⟩ A5 c5 (xs ++ [.slice D (mergeL old l).length f3]) (some ⟨gR, oR, none⟩) d ys M) := Lib.hid (by
            refine Hz5.out.regroup (i := i) hi (G := some ⟨gG, oG, none⟩) (e := ex) (gs := t.lv[i].gr.set q1 (t.ts.length + 1)) (G' := some ⟨gG, oG, none⟩) (e' := ex) ?_ (hO6.mono (fun _ _ h => .inl h)) hrw6 ?_ (fun q hq => rfl) ?_ (fun k hk => .inl hk) (fun k hk => ?_) (fun k h1 h2 => ?_) (fun k hk => ?_)
            · exact hy4
            · rw [List.length_set]; exact hy4
            · rw [List.length_set, List.map_set, Hgl.out]; exact hset
            · rcases hk with hk | hk
              · exact .inl hk
              · exact .inr ⟨hk.1, by rw [hz6]; exact hk.2⟩
            · exact .inr ⟨by omega, h2⟩
            · rcases hk with hk | hk
              · have := H.out.lt k hk; rw [hz6]; omega
              · exact hk.2)
          have HO6 : Hid (Only S w (w5.setCell ⟨gG, oG + q1, none⟩ (.int .i64 ((t.ts.length : Int) + 1)))) := Lib.hid (HO5.out.trans hO6 (fun k _ hk => HgS.out k hk))
          have l3 := cell_only y3 hO6 (fun hx => Hz5.out.rows.ne_rowT Hg4.out (by decide) gR (by rw [inA_some]) hx)
          clear hT5 hO5 hg4 hgS4 hy4 hset hO6 hrw6 hag
          refine hK.out _ _ ?_ (fun hHeld => ?_)
          · try dsimp only
            exact y3
          clear hK K
          refine wpAnyH_take (i := 10) (v := ?_) (take_list rfl) (by kernel_rfl) (by kernel_rfl) (by kernel_rfl) (fun _ _ _ h => h) (Or.inl ⟨by rfl, ?_⟩) (by assumption) ?_
          rotate_left
          · intro w hSw
            try dsimp only at hSw
            first | (go_simp; done) | (go_simp; with_reducible rfl)
          try simp only [Act.put, List.setIfInBounds_toArray, List.set_cons_zero, List.set_cons_succ]
          refine wpAnyH_ready (rs := [11]) (by kernel_rfl) (by simp) ?_
          refine AllReadyH.cons (take_list rfl) (fun K hK => ?_) ?_
          · skip
            go_simp
            refine hK.out _ _ ?_ (fun hHeld => ?_)
            · try dsimp only
              exact l3
            clear hK K
            refine wpAnyH_done (by kernel_rfl) ?_ _
            go_wp2
            go_ret
            rw [HR0.out]
            exact ⟨by first | rfl | (push_cast; rfl), ⟨_, _, _, _, _, _, _, HTr.out⟩, HO6.out⟩
          exact AllReadyH.nil
        exact AllReadyH.nil
    exact AllReadyH.nil
end
end Go.Proofs.Ytdghbdiapkelnaa
