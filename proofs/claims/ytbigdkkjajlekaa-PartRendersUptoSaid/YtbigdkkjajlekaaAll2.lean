/-
  Texts of this claim, joined (part 2): contracts and lemmas that the last text goes by. No statement of the seat is proved here.
-/
import Derived.Test.YtbigdkkjajlekaaAll1
import Derived.Test.YtbigdkkjajlekaaAll0
import Derived.Shelf.Strings.Builder1
import Derived.Ground.NamesProg
import Derived.Test.YtbigdkkjajlekaaProg
import Derived.Lib.Builder
import Derived.Lib.AppendStr
import Derived.SizedLaws
import Derived.SliceStrings
import Derived.Deep.Slices
set_option linter.unusedVariables false
set_option linter.unusedSimpArgs false
/-
  DERIVED: THE SHELF's CONTRACTS AT THIS DUMP, IN PLAIN WORDS (tools/lay-plain.mjs out of 'YtbigdkkjajlekaaShelfB0.lean', which tools/lay-shelf.mjs wrote): THE SAME DECLARATIONS UNDER THE SAME NAMES: 'import', 'namespace', 'open', 'def', 'theorem' AND NOTHING ELSE: no command of the shelf's: FOR A HAND-IN. Each laying: the table of numbers ('.._ren') and one theorem, a field a fact of the dump's own or the kernel's comparison; each contract: ONE APPLICATION.
-/
namespace Go.Proofs
open Go.Shelf
def Try.layString_ren : Go.Shelf.Ren := ⟨fun | 169 => 32 | n => n, fun | 70 => 57 | 9 => 9 | 0 => 0 | 72 => 60 | 37 => 58 | 127 => 66 | 3 => 3 | 5 => 5 | n => n, fun | n => n⟩
theorem Try.layString : Go.Proofs.Lays.n169 Try.prog Try.layString_ren := {
  mixed := by kernel_rfl
  f169 := Try.func32.trans (congrArg some (by kernel_rfl))
  t0 := Try.underlying0
  a0 := Try.isAgg0
  z0 := Try.sizeOf0
  v0 := Try.zeroValue0
  t3 := Try.underlying3
  a3 := Try.isAgg3
  z3 := Try.sizeOf3
  v3 := Try.zeroValue3
  t9 := Try.underlying9
  a9 := Try.isAgg9
  z9 := Try.sizeOf9
  v9 := Try.zeroValue9
  t37 := Try.underlying58
  a37 := Try.isAgg58
  z37 := Try.sizeOf58
  v37 := Try.zeroValue58
  t70 := Try.underlying57
  a70 := Try.isAgg57
  z70 := Try.sizeOf57
  v70 := Try.zeroValue57
  t72 := Try.underlying60
  a72 := Try.isAgg60
  z72 := Try.sizeOf60
  v72 := Try.zeroValue60
  t127 := Try.underlying66
  a127 := Try.isAgg66
  z127 := Try.sizeOf66
  v127 := Try.zeroValue66 }
end Go.Proofs

/-
  The contracts of a strings.Builder that the call has made: copyCheck, WriteString, String. No statement of the seat is proved here.
-/
namespace Go.Proofs.Ytbigdkkjajlekaa
open Go Go.RowKit
set_option maxRecDepth 100000

section
variable {T e : TypeId} {B b : Nat} {p : Value} {bs : List Value} {w w' : World}
theorem builder_ext (h : Lib.BuilderAt T e B b p bs w) (hb : Below w.heap.size w w') : Lib.BuilderAt T e B b p bs w' := by
  obtain ⟨hB, v, h1, h2, h3⟩ := h
  refine ⟨hB, v, (hb.block b (lt_of_block h1)).trans h1, ⟨h2.1, ?_⟩, h3⟩
  rcases h2.2 with h4 | ⟨g, cap, cur, h4, h5, h6, r⟩
  · exact .inl h4
  · exact .inr ⟨g, cap, cur, h4, h5, (hb.block g (lt_of_block h6)).trans h6, r⟩
theorem isbuilder_ext (h : Lib.IsBuilder T e B b bs w) (hb : Below w.heap.size w w') : Lib.IsBuilder T e B b bs w' := by
  rcases h with h | h
  · exact .inl (builder_ext h hb)
  · exact .inr (builder_ext h hb)
end
theorem info_sb : ∃ j, Try.prog.info? 60 = some j ∧ j.size = 2 := by
  have h : (Try.prog.info? 60).map (·.size) = some 2 := by kernel_rfl
  obtain ⟨j, h1, h2⟩ := Option.map_eq_some_iff.1 h
  exact ⟨j, h1, h2⟩
theorem lies_sb : liesAt Try.prog Try.prog.depth 60 (2 / Try.prog.cellsOf 60) 0 60 1 = true := by kernel_rfl
theorem info_byte : (Try.prog.info? 5).map (fun i => (i.zero, i.size, i.bytes)) = some (some (.int .u8 0), 1, 1) := by kernel_rfl
theorem extra_sb : Builder.Extra Try.prog Try.layString_ren := {
  sizeBuilder := by kernel_rfl
  liesBuilder := by kernel_rfl
  t5 := Try.underlying5
  a5 := Try.isAgg5
  z5 := Try.sizeOf5
  v5 := Try.zeroValue5
  infoByte := by kernel_rfl
  cellsByte := by kernel_rfl
  sizeByte := by kernel_rfl
  neB5 := by decide }
theorem sbstring_any (B b : Nat) (l : List UInt8) (w : World) (h : Lib.IsBuilder 60 5 B b (Lib.byteCells l) w) (hBw : B ≤ w.heap.size) :
    Calls Try.prog 32 #[.pointer (some ⟨b, 0, none⟩)] w fun e w' => e = .returned (.string ⟨l.toArray⟩) ∧ Below B w w' := Any.Builder_String_any Try.layString extra_sb B b l w h hBw

set_option maxHeartbeats 1000000 in
theorem sbcheck_used (b : Nat) (w : World) (h0 : w.cell? ⟨b, 0, none⟩ = some (.pointer (some ⟨b, 0, none⟩))) :
    Calls Try.prog 33 #[.pointer (some ⟨b, 0, none⟩)] w fun e w' => e = .returned (.tuple #[]) ∧ w' = w := by
  obtain ⟨j, hj, _⟩ := info_sb
  go_enter Try.func33, Try.ntmps33
  go_wp2
  rw [Lib.run_neq_ptr_same w _ Try.underlying57 hj]
  go_wp2
  go_end0
  exact ⟨rfl, rfl⟩
set_option maxHeartbeats 1000000 in
theorem sbcheck_fresh (b : Nat) (w : World) (h0 : w.cell? ⟨b, 0, none⟩ = some (.pointer none)) (hsh : w.shape? b = some (60, 2)) (hfz : w.frozen? ⟨b, 0, none⟩ = false) :
    Calls Try.prog 33 #[.pointer (some ⟨b, 0, none⟩)] w fun e w' => e = .returned (.tuple #[]) ∧ w' = w.setCell ⟨b, 0, none⟩ (.pointer (some ⟨b, 0, none⟩)) := by
  obtain ⟨j, hj, hjs⟩ := info_sb
  go_enter Try.func33, Try.ntmps33
  go_wp2
  rw [Lib.run_to_unsafe w ⟨b, 0, none⟩ Try.underlying57 Try.underlying67 hj (by rw [hjs]; decide) hsh (Nat.zero_lt_succ 1)]
  simp only [Result.andThen]
  rw [Oper.upon_value]
  go_wp2
  rw [run_callFunc_extern Try.func34 (by kernel_rfl) (by kernel_rfl) (by kernel_rfl) (e := Extern.AbiNoEscape.same) (by kernel_rfl)]
  rw [Lib.run_noEscape]
  simp only [Result.andThen]
  rw [Oper.upon_value]
  go_wp2
  rw [Lib.run_from_unsafe w ⟨b, 0, none⟩ Try.underlying67 Try.underlying57 hj hsh lies_sb]
  simp only [Result.andThen]
  rw [Oper.upon_value]
  go_wp2
  go_end0
  exact ⟨rfl, rfl⟩
theorem sbcheck_any (B b : Nat) (bs : List Value) (w : World) (h : Lib.IsBuilder 60 5 B b bs w) :
    Calls Try.prog 33 #[.pointer (some ⟨b, 0, none⟩)] w fun e w' => e = .returned (.tuple #[]) ∧ (Lib.BuilderAt 60 5 B b (.pointer (some ⟨b, 0, none⟩)) bs w' ∧ Below B w w') := by
  rcases h with h | h
  · refine (sbcheck_fresh b w h.cell0 h.shape h.frozen0).mono ?_
    rintro e w' ⟨rfl, rfl⟩
    exact ⟨rfl, h.used _, (Below.refl B w).setCell (p := ⟨b, 0, none⟩) h.1 _⟩
  · refine (sbcheck_used b w h.cell0).mono ?_
    rintro e w' ⟨rfl, rfl⟩
    exact ⟨rfl, h, Below.refl B w'⟩
set_option maxHeartbeats 2000000 in
theorem sbwrite_any (B b : Nat) (bs : List Value) (s : ByteArray) (w : World) (h : Lib.IsBuilder 60 5 B b bs w) (hlen : bs.length + s.size ≤ 140737488355328) (hBw : B ≤ w.heap.size) :
    Calls Try.prog 31 #[.pointer (some ⟨b, 0, none⟩), .string s] w fun e w' => e = .returned (.tuple #[.int .i64 s.size, .nilIface]) ∧ (Lib.BuilderAt 60 5 B b (.pointer (some ⟨b, 0, none⟩)) (bs ++ Lib.strCells s) w' ∧ Below B w w') := by
  obtain ⟨i0, hi, hz0, hz1, hz2⟩ := info_parts info_byte
  go_enter Try.func31, Try.ntmps31
  go_wp2_with (go_at_call 33; refine (sbcheck_any B b bs _ h).mono ?_)
  rintro e w1 ⟨rfl, h1, hb1⟩
  obtain ⟨hB, v, hbk, hown, hne⟩ := h1
  have c0 : w1.cell? ⟨b, 0, none⟩ = some (.pointer (some ⟨b, 0, none⟩)) := by rw [Lib.cell_of_heap hbk]; rfl
  have c1 : w1.cell? ⟨b, 1, none⟩ = some v := by rw [Lib.cell_of_heap hbk]; rfl
  go_wp2_with (at_builtin; refine Lib.wpList_append_own_string _ rfl _ _ 58 9 rfl B 5 i0 Try.underlying58 Try.underlying9 hi hz0 hz1 hz2 _ _ _ rfl hown s rfl ?c3 ?c4 ?c5 ?_)
  case c3 => unfold maxLen; omega
  case c4 => omega
  case c5 => have := hb1.size; omega
  intro v' w2 hown' hgrow _
  have hlt : b < w1.heap.size := lt_of_block hbk
  have hb2 : w2.heap[b]? = some (.cells #[.pointer (some ⟨b, 0, none⟩), v] 60 (0, 0)) := by
    rw [hgrow.block b hlt (fun e => hne e.symm)]
    exact hbk
  have d0 : w2.cell? ⟨b, 0, none⟩ = some (.pointer (some ⟨b, 0, none⟩)) := by rw [Lib.cell_of_heap hb2]; rfl
  have d1 : w2.cell? ⟨b, 1, none⟩ = some v := by rw [Lib.cell_of_heap hb2]; rfl
  have f1 : w2.frozen? ⟨b, 1, none⟩ = false := Lib.frozen_of_heap hb2 1
  obtain ⟨ao, n', cap, rfl⟩ : ∃ ao n' cap, v' = .slice ao n' cap := by
    rcases hown'.2 with ⟨hv, _⟩ | ⟨g, cap, cur, hv, _⟩
    · exact ⟨_, _, _, hv⟩
    · exact ⟨_, _, _, hv⟩
  go_wp2
  go_ret2
  refine ⟨rfl, ?_, ?_⟩
  · exact Lib.BuilderAt.put (T := 60) (e := 5) hB hb2 (bs' := bs ++ Lib.strCells s) (by simpa [Lib.strCells_length] using hown') (by decide)
  · exact (hb1.grown hgrow (by have := hb1.size; omega) (fun k hk => (hown.lt k hk).1)).setCell (p := ⟨b, 1, none⟩) hB _
end Go.Proofs.Ytbigdkkjajlekaa

/-
  The contract of Render. No statement of the seat is proved here.
-/
namespace Go.Proofs.Ytbigdkkjajlekaa
open Go Go.RowKit
set_option maxRecDepth 100000

def rendE (l : List Prt) (vs : List (List UInt8)) : Int := if vs.length = wildN l then 0 else 1
def rendS (l : List Prt) (vs : List (List UInt8)) : List UInt8 := if vs.length = wildN l then renderL l vs else []
def SaysRender (l : List Prt) (vs : List (List UInt8)) (w : World) (e : Ending) (w' : World) : Prop := e = .returned (.tuple #[strV (rendS l vs), .int .i64 (rendE l vs)]) ∧ Below w.heap.size w w'
theorem rTo_len (l : List Prt) (vs : List (List UInt8)) (k j : Nat) (h : k + j ≤ l.length) : (rTo l vs k).length ≤ (rTo l vs (k + j)).length := by
  induction j with
  | zero => exact Nat.le_refl _
  | succ j ih =>
    have := ih (by omega)
    rw [← Nat.add_assoc, rTo_succ _ _ _ (by omega), List.length_append]
    omega
theorem rTo_le (l : List Prt) (vs : List (List UInt8)) (k : Nat) (h : k ≤ l.length) : (rTo l vs k).length ≤ (renderL l vs).length := by
  have := rTo_len l vs k (l.length - k) (by omega)
  rwa [show k + (l.length - k) = l.length by omega] at this
theorem cells_app (a b : List UInt8) {Z : ByteArray} (h : strV b = .string Z) : Lib.byteCells (a ++ b) = Lib.byteCells a ++ Lib.strCells Z := by
  injection h with h
  rw [← h]
  simp [Lib.byteCells, Lib.strCells]
theorem drop_str {w : World} {V : Option Addr} {c : Nat} {vs : List (List UInt8)} (h : Rd w V (vs.map strV)) (hc : vs.length ≤ c) (m : Nat) (x : List UInt8) (r : List (List UInt8)) (hv : vs = x :: r) :
    Rd w (if c = 1 then V else V.map (·.add 1)) (r.map strV) := by
  subst hv
  have h1 := Rd.cut h (k := 1) (cap := c) (by simpa using hc)
  simpa using h1
theorem drop_cons (vs : List (List UInt8)) (m : Nat) (h : m < vs.length) : vs.drop m = vs.getD m [] :: vs.drop (m + 1) := by
  rw [List.drop_eq_getElem_cons h, List.getD_eq_getElem?_getD, List.getElem?_eq_getElem h]; rfl
set_option maxHeartbeats 4000000 in
theorem render_any (A : Option Addr) (n c : Nat) (l : List Prt) (V : Option Addr) (nv cv : Nat) (vs : List (List UInt8)) (w : World) (hn : n = l.length) (hnv : nv = vs.length) (h : PartsAt w A l) (hV : Rd w V (vs.map strV)) (hcv : vs.length ≤ cv) (hl : l.length ≤ 1000000) (hvl : vs.length ≤ 1000000) (hsum : (renderL l vs).length ≤ 140737488355328) :
    Calls Try.prog 25 #[.slice A n c, .slice V nv cv] w (SaysRender l vs w) := by
  subst hn hnv
  have hli : (l.length : Int) ≤ 1000000 := by omega
  have hvi : (vs.length : Int) ≤ 1000000 := by omega
  have HC := wild_any A _ c l w rfl h hl
  by_cases he : vs.length = wildN l
  · have hp : SaysRender l vs w = fun e w' => e = .returned (.tuple #[strV (renderL l vs), .int .i64 0]) ∧ Below w.heap.size w w' := by
      funext e w'; unfold SaysRender rendS rendE; rw [if_pos he, if_pos he]
    rw [hp]
    rw [← he] at HC
    have He := Lib.hid he
    clear hp he
    go_enter Try.func25, Try.ntmps25
    go_wp2_with fail
    refine HC.mono ?_
    rintro e w1 ⟨rfl, hb1⟩
    have Hb1 := Lib.hid hb1
    have HI0 := Lib.hid (Lib.fresh_isBuilder 60 5 w1)
    clear hb1 HC
    go_wp2
    go_loopw [1, 17] (fun v i wr => ∃ (k r : Nat) (V' : Option Addr) (c' : Nat), k ≤ l.length ∧ r ≤ c' ∧ r ≤ 1000000 ∧ i = .int .i64 (k : Int) ∧ v = .slice V' r c' ∧ Hid (r + wildTo l k = vs.length) ∧ Hid (Rd w V' ((vs.drop (wildTo l k)).map strV)) ∧ Hid (Lib.IsBuilder 60 5 w1.heap.size w1.heap.size (Lib.byteCells (rTo l vs k)) wr) ∧ Hid (Below w1.heap.size w1 wr)) (fun _ i _ => l.length - (intOf i).toNat)
    case atStart => exact ⟨0, vs.length, V, cv, Nat.zero_le _, hcv, hvl, rfl, rfl, Lib.hid (by simp [wildTo, wildN]), Lib.hid (by simpa [wildTo, wildN] using hV), Lib.hid HI0.out, Lib.hid (ext_alloc (Below.refl _ _) _)⟩
    case round =>
      clear HI0
      obtain ⟨k, r, V', c', hk, hrc, hr6, rfl, rfl, Hr, HV, HI, Hb⟩ := hrel
      by_cases hlt : k < l.length
      · obtain ⟨g, o, rfl, c0, c1⟩ := (h.ext (ext_trans Hb1.out Hb.out)).at_ hlt
        have hki : (k : Int) < (l.length : Int) := by omega
        have HS := Lib.hid (rTo_succ l vs k hlt)
        have HW := Lib.hid (wildTo_succ l k hlt)
        have HLe := Lib.hid (rTo_le l vs (k + 1) (by omega))
        obtain ⟨Y, hY, hYs⟩ := str_hide l[k].text
        rw [hY] at c1
        have HBs := Lib.hid Hb.out.size
        have HWr : ∀ (x : List UInt8) (Z : ByteArray), strV x = .string Z → Z.size = x.length → rTo l vs (k + 1) = rTo l vs k ++ x → Hid (∀ W, Below wr.heap.size wr W → Calls Try.prog 31 #[.pointer (some ⟨w1.heap.size, 0, none⟩), .string Z] W fun e w' => e = .returned (.tuple #[.int .i64 Z.size, .nilIface]) ∧ Hid (Lib.IsBuilder 60 5 w1.heap.size w1.heap.size (Lib.byteCells (rTo l vs (k + 1))) w') ∧ Hid (Below w1.heap.size w1 w')) := fun x Z hZ hZs hx => Lib.hid (fun W hb => by
            refine (sbwrite_any w1.heap.size w1.heap.size (Lib.byteCells (rTo l vs k)) Z W (isbuilder_ext HI.out hb) ?_ ?_).mono ?_
            · have := HLe.out
              rw [hx, List.length_append] at this
              simp only [Lib.byteCells, List.length_map]
              omega
            · have := hb.size; have := HBs.out; omega
            · rintro e w' ⟨rfl, h1, h2⟩
              refine ⟨rfl, Lib.hid (.inr ?_), Lib.hid ((ext_trans Hb.out hb).trans h2)⟩
              rw [hx, cells_app (rTo l vs k) x hZ]; exact h1)
        cases hA : l[k].any
        · rw [hA] at c0
          have HWr2 := HWr _ Y hY hYs (by rw [HS.out, hA]; rfl)
          have HW2 : Hid (wildTo l (k + 1) = wildTo l k) := Lib.hid (by rw [HW.out, hA]; rfl)
          clear hA hY hYs HWr
          go_wp2_with fail
          refine (HWr2.out _ (ext_alloc (Below.refl _ _) _)).mono ?_
          rintro e w2 ⟨rfl, HI2, Hb2⟩
          go_wp2
          go_roundw
          case rel => exact ⟨k + 1, r, V', c', by omega, hrc, hr6, by go_num, rfl, Lib.hid (by rw [HW2.out]; exact Hr.out), Lib.hid (by rw [HW2.out]; exact HV.out), HI2, Hb2⟩
          case measure => simp [intOf]; omega
        · rw [hA] at c0
          have hwl := wildTo_lt l k hlt hA
          rw [← He.out] at hwl
          have hr0 : 0 < r := by have := Hr.out; omega
          have HD := Lib.hid (drop_cons vs (wildTo l k) hwl)
          obtain ⟨x, hx⟩ : ∃ x, vs.getD (wildTo l k) [] = x := ⟨_, rfl⟩
          rw [hx] at HD
          have HW2 : Hid (wildTo l (k + 1) = wildTo l k + 1) := Lib.hid (by rw [HW.out, hA]; rfl)
          obtain ⟨Z, hZ, hZs⟩ := str_hide x
          have HWr2 := HWr x Z hZ hZs (by rw [HS.out, hA, ← hx]; rfl)
          have HVd : Hid (Rd w (if c' = 1 then V' else V'.map (·.add 1)) ((vs.drop (wildTo l (k + 1))).map strV)) := Lib.hid (by
            rw [HW2.out]
            exact drop_str HV.out (by rw [List.length_drop]; have := Hr.out; omega) 0 _ _ HD.out)
          have hv0 : Rd wr V' ((vs.drop (wildTo l k)).map strV) := HV.out.ext (ext_trans Hb1.out Hb.out)
          rw [HD.out] at hv0
          obtain ⟨ad, rfl, q0⟩ := hv0 0 _ rfl
          rw [hZ] at q0
          have q1 : (wr.alloc (Obj.cells #[.bool true, .string Y] 51)).cell? ad = some (.string Z) := by
            have h1 : wr.cell? ad = some (.string Z) := q0
            exact (World.cell?_of_block (Below.heap_alloc wr _ _ (World.block_lt_of_cell? wr _ h1))).trans h1
          have hri : (0 : Int) < (r : Int) := by omega
          have hrj : (1 : Int) ≤ (r : Int) := by omega
          have hrk : (r : Int) ≤ (c' : Int) := by omega
          clear hA hY hYs HWr hwl hx hZ hZs hv0 q0
          by_cases hc1 : c' = 1
          · have hv1 := HVd.out
            rw [if_pos hc1] at hv1
            have HV1 := Lib.hid hv1
            obtain rfl : r = 1 := by omega
            subst hc1
            clear hv1
            go_wp2
            go_quiet (fail)
            go_wp2_with fail
            refine (HWr2.out _ (ext_drewN (ext_alloc (Below.refl _ _) _) _)).mono ?_
            rintro e w2 ⟨rfl, HI2, Hb2⟩
            go_wp2
            go_roundw
            case rel => exact ⟨k + 1, 0, some ad, 0, by omega, by omega, by omega, by go_num, rfl, Lib.hid (by rw [HW2.out]; have := Hr.out; omega), HV1, HI2, Hb2⟩
            case measure => simp [intOf]; omega
          · have hv1 := HVd.out
            rw [if_neg hc1] at hv1
            have HV1 := Lib.hid hv1
            clear hv1
            go_wp2
            go_quiet (fail)
            go_wp2_with fail
            refine (HWr2.out _ (ext_drewN (ext_alloc (Below.refl _ _) _) _)).mono ?_
            rintro e w2 ⟨rfl, HI2, Hb2⟩
            go_wp2
            go_roundw
            case rel => exact ⟨k + 1, r - 1, some (ad.add 1), c' - 1, by omega, by omega, by omega, by go_num, rfl, Lib.hid (by rw [HW2.out]; have := Hr.out; omega), HV1, HI2, Hb2⟩
            case measure => simp [intOf]; omega
      · obtain rfl : k = l.length := by omega
        have HSt := Lib.hid (sbstring_any w1.heap.size w1.heap.size (renderL l vs) wr HI.out Hb.out.size)
        go_wp2_with fail
        refine HSt.out.mono ?_
        rintro e w2 ⟨rfl, hb2⟩
        have Hb2 : Hid (Below w.heap.size w w2) := Lib.hid ((ext_trans Hb1.out Hb.out).trans (hb2.mono Hb1.out.size))
        clear hb2
        go_wp2
        go_ret2
        exact ⟨rfl, Hb2.out⟩
  · have hp : SaysRender l vs w = fun e w' => e = .returned (.tuple #[strV [], .int .i64 1]) ∧ Below w.heap.size w w' := by
      funext e w'; unfold SaysRender rendS rendE; rw [if_neg he, if_neg he]
    rw [hp]
    have hei : ¬ (vs.length : Int) = (wildN l : Int) := by omega
    generalize wildN l = m at hei HC
    clear hp he
    go_enter Try.func25, Try.ntmps25
    go_wp2_with fail
    refine HC.mono ?_
    rintro e w1 ⟨rfl, hb1⟩
    have Hb1 := Lib.hid hb1
    clear hb1 HC
    go_wp2
    go_ret2
    exact ⟨rfl, Hb1.out⟩
end Go.Proofs.Ytbigdkkjajlekaa

/-
  The contracts of the reference's Render and Join. No statement of the seat is proved here.
-/
namespace Go.Proofs.Ytbigdkkjajlekaa
open Go Go.RowKit
set_option maxRecDepth 100000

theorem str_app {a b : List UInt8} {S Y : ByteArray} (h1 : strV a = .string S) (h2 : strV b = .string Y) : strV (a ++ b) = .string (S ++ Y) := by
  injection h1 with h1
  injection h2 with h2
  rw [← h1, ← h2]
  unfold strV
  congr 1
theorem str_size {a : List UInt8} {S : ByteArray} (h : strV a = .string S) : S.size = a.length := by
  injection h with h
  rw [← h]
  simp [ByteArray.size]
set_option maxHeartbeats 4000000 in
theorem rjoin_any (B : Option Addr) (n d : Nat) (ts : List Tok) (w : World) (hn : n = ts.length) (h2 : ToksAt w B ts) (hl2 : ts.length ≤ 1000000) (hsum : sumT ts ts.length ≤ 140737488355328) :
    Calls Try.prog 27 #[.slice B n d] w fun e w' => e = .returned (strV (joinL ts)) ∧ w' = w := by
  subst hn
  have hli2 : (ts.length : Int) ≤ 1000000 := by omega
  go_enter Try.func27, Try.ntmps27
  go_wp2
  go_loop [3, 4] (fun s i => ∃ (k : Nat) (S : ByteArray), k ≤ ts.length ∧ i = .int .i64 (k : Int) ∧ s = .string S ∧ Hid (strV (joinTo ts k) = .string S)) (fun _ i => ts.length - (intOf i).toNat)
  case atStart => exact ⟨0, ⟨#[]⟩, Nat.zero_le _, rfl, rfl, Lib.hid rfl⟩
  case round =>
    obtain ⟨k, S, hk, rfl, rfl, HS⟩ := hrel
    by_cases hlt : k < ts.length
    · obtain ⟨g2, o2, rfl, -, c3⟩ := h2.at_ hlt
      have hki2 : (k : Int) < (ts.length : Int) := by omega
      obtain ⟨Z, hZ, hZs⟩ := str_hide ts[k].text
      rw [hZ] at c3
      have HE : Hid (strV (joinTo ts (k + 1)) = .string (S ++ Z)) := Lib.hid (by rw [joinTo_succ ts k hlt]; exact str_app HS.out hZ)
      have hsz : S.size + Z.size ≤ 140737488355328 := by
        have h1 := joinTo_len ts (k + 1)
        have h3 := sumT_mono ts (k + 1)
        rw [joinTo_succ ts k hlt, List.length_append] at h1
        have h4 := str_size HS.out
        omega
      clear hZ hZs
      go_wp2
      go_round
      case rel => exact ⟨k + 1, S ++ Z, by omega, by go_num, rfl, HE⟩
      case measure => simp [intOf]; omega
    · obtain rfl : k = ts.length := by omega
      go_wp2
      go_ret
      exact ⟨congrArg Ending.returned HS.out.symm, rfl⟩
set_option maxHeartbeats 4000000 in
theorem rrender_any (A : Option Addr) (n c : Nat) (l : List Prt) (V : Option Addr) (nv cv : Nat) (vs : List (List UInt8)) (w : World) (hn : n = l.length) (hnv : nv = vs.length) (h : PartsAt w A l) (hV : Rd w V (vs.map strV)) (hl : l.length ≤ 1000000) (hvl : vs.length ≤ 1000000) (hsum : (renderL l vs).length ≤ 140737488355328) :
    Calls Try.prog 26 #[.slice A n c, .slice V nv cv] w (SaysRender l vs w) := by
  subst hn hnv
  have hli : (l.length : Int) ≤ 1000000 := by omega
  have hvi : (vs.length : Int) ≤ 1000000 := by omega
  have HC := rwild_any A _ c l w rfl h hl
  by_cases he : vs.length = wildN l
  · have hp : SaysRender l vs w = fun e w' => e = .returned (.tuple #[strV (renderL l vs), .int .i64 0]) ∧ Below w.heap.size w w' := by
      funext e w'; unfold SaysRender rendS rendE; rw [if_pos he, if_pos he]
    rw [hp]
    rw [← he] at HC
    have He := Lib.hid he
    clear hp he
    go_enter Try.func26, Try.ntmps26
    go_wp2_with fail
    refine HC.mono ?_
    rintro e w1 ⟨rfl, hb1⟩
    have Hb1 := Lib.hid hb1
    clear hb1 HC
    go_wp2
    go_loop [6, 7, 8] (fun s j i => ∃ (k m : Nat) (S : ByteArray), k ≤ l.length ∧ m ≤ k ∧ i = .int .i64 (k : Int) ∧ j = .int .i64 (m : Int) ∧ s = .string S ∧ Hid (m = wildTo l k) ∧ Hid (strV (rTo l vs k) = .string S)) (fun _ _ i => l.length - (intOf i).toNat)
    case atStart => exact ⟨0, 0, ⟨#[]⟩, Nat.zero_le _, Nat.zero_le _, rfl, rfl, rfl, Lib.hid (by simp [wildTo, wildN]), Lib.hid rfl⟩
    case round =>
      obtain ⟨k, m, S, hk, hm, rfl, rfl, rfl, Hm, HS⟩ := hrel
      by_cases hlt : k < l.length
      · obtain ⟨g, o, rfl, c0, c1⟩ := (h.ext Hb1.out).at_ hlt
        have hki : (k : Int) < (l.length : Int) := by omega
        have HR := Lib.hid (rTo_succ l vs k hlt)
        have HW := Lib.hid (wildTo_succ l k hlt)
        have hle := rTo_le l vs (k + 1) (by omega)
        obtain ⟨Y, hY, hYs⟩ := str_hide l[k].text
        rw [hY] at c1
        have hss := str_size HS.out
        cases hA : l[k].any
        · rw [hA] at c0
          have he2 : rTo l vs (k + 1) = rTo l vs k ++ l[k].text := by rw [HR.out, hA]; rfl
          have HE : Hid (strV (rTo l vs (k + 1)) = .string (S ++ Y)) := Lib.hid (by rw [he2]; exact str_app HS.out hY)
          have hsz : S.size + Y.size ≤ 140737488355328 := by rw [he2, List.length_append] at hle; omega
          have HW2 : Hid (wildTo l (k + 1) = wildTo l k) := Lib.hid (by rw [HW.out, hA]; rfl)
          clear hA hY hYs hss he2 hle
          go_wp2
          go_round
          case rel => exact ⟨k + 1, m, S ++ Y, by omega, by omega, by go_num, rfl, rfl, Lib.hid (by rw [HW2.out]; exact Hm.out), HE⟩
          case measure => simp [intOf]; omega
        · rw [hA] at c0
          have hwl := wildTo_lt l k hlt hA
          rw [← He.out, ← Hm.out] at hwl
          obtain ⟨ad, rfl, q0⟩ := rd_str (hV.ext Hb1.out) hwl
          obtain ⟨Z, hZ, hZs⟩ := str_hide vs[m]
          rw [hZ] at q0
          have he2 : rTo l vs (k + 1) = rTo l vs k ++ vs[m] := by
            rw [HR.out, hA, ← Hm.out]
            simp only [if_true]
            rw [List.getD_eq_getElem?_getD, List.getElem?_eq_getElem hwl]; rfl
          have HE : Hid (strV (rTo l vs (k + 1)) = .string (S ++ Z)) := Lib.hid (by rw [he2]; exact str_app HS.out hZ)
          have hsz : S.size + Z.size ≤ 140737488355328 := by rw [he2, List.length_append] at hle; omega
          have HW2 : Hid (wildTo l (k + 1) = wildTo l k + 1) := Lib.hid (by rw [HW.out, hA]; rfl)
          have hmi : (m : Int) < (vs.length : Int) := by omega
          clear hA hY hYs hss he2 hle hZ hZs
          go_wp2
          go_round
          case rel => exact ⟨k + 1, m + 1, S ++ Z, by omega, by omega, by go_num, by go_num, rfl, Lib.hid (by rw [HW2.out, Hm.out]), HE⟩
          case measure => simp [intOf]; omega
      · obtain rfl : k = l.length := by omega
        go_wp2
        go_ret2
        exact ⟨by rw [show strV (renderL l vs) = .string S from HS.out]; rfl, Hb1.out⟩
  · have hp : SaysRender l vs w = fun e w' => e = .returned (.tuple #[strV [], .int .i64 1]) ∧ Below w.heap.size w w' := by
      funext e w'; unfold SaysRender rendS rendE; rw [if_neg he, if_neg he]
    rw [hp]
    have hei : ¬ (vs.length : Int) = (wildN l : Int) := by omega
    generalize wildN l = m at hei HC
    clear hp he
    go_enter Try.func26, Try.ntmps26
    go_wp2_with fail
    refine HC.mono ?_
    rintro e w1 ⟨rfl, hb1⟩
    have Hb1 := Lib.hid hb1
    clear hb1 HC
    go_wp2
    go_ret2
    exact ⟨rfl, Hb1.out⟩
end Go.Proofs.Ytbigdkkjajlekaa

/-
  The contract of the laws' known. No statement of the seat is proved here.
-/
namespace Go.Proofs.Ytbigdkkjajlekaa
open Go Go.RowKit
set_option maxRecDepth 100000

def knownT : List Tok := [⟨6, [117, 112]⟩, ⟨4, [51]⟩]
theorem known_of : ofL knownT = [⟨false, [117, 112]⟩, dot] := by decide
theorem known_wild : wildN (ofL knownT) = 1 := by decide
set_option maxHeartbeats 2000000 in
theorem known14_any (w : World) : Calls Try.prog 24 #[] w fun e w' => e = .returned (.bool true) ∧ Below w.heap.size w w' := by
  have ht : ToksAt (w.alloc (Obj.cells #[.int .i64 6, .string ⟨#[117, 112]⟩, .int .i64 4, .string ⟨#[51]⟩] 53)) (some ⟨w.heap.size, 0, none⟩) knownT :=
    ⟨Rd.lit w #[.int .i64 6, .string ⟨#[117, 112]⟩, .int .i64 4, .string ⟨#[51]⟩] 53, fun _ ad e => by injection e with e; exact ⟨_, _, e.symm⟩⟩
  have Ht := Lib.hid ht
  have HO := Lib.hid (of_any _ 2 2 knownT _ rfl ht (by decide))
  clear ht
  go_enter Try.func24, Try.ntmps24
  go_wp2_with fail
  refine HO.out.mono ?_
  rintro e w2 ⟨A, c, rfl, hN⟩
  have hp := hN.at_
  obtain ⟨g, o, rfl, c0, c1⟩ := hp.at_ (k := 0) (by decide)
  obtain ⟨g', o', e', c2, c3⟩ := hp.at_ (k := 1) (by decide)
  injection e' with e'
  injection e' with e1 e2
  subst e1 e2
  have d1 : w2.cell? ⟨g, o + 1, none⟩ = some (.string ⟨#[117, 112]⟩) := by rw [show o + 1 = o + 0 * 2 + 1 by omega]; exact c1
  have d2 : w2.cell? ⟨g, o + 2, none⟩ = some (.bool true) := c2
  have HN := Lib.hid hN
  have HW := Lib.hid (wild_any (some ⟨g, o, none⟩) 2 c (ofL knownT) w2 rfl hp (by decide))
  rw [known_wild] at HW
  have HF : Hid (∀ W, Below w2.heap.size w2 W → Calls Try.prog 15 #[.slice (some ⟨g, o, none⟩) 2 c, .slice (some ⟨w.heap.size, 0, none⟩) 2 2] W (SaysEq true W)) := Lib.hid (fun W hb => by
    have := fits_any (some ⟨g, o, none⟩) 2 c (ofL knownT) (some ⟨w.heap.size, 0, none⟩) 2 2 knownT W rfl rfl (hp.ext hb) (Ht.out.ext (ext_trans hN.bel hb)) (by decide) (by decide)
    rwa [fits_of] at this)
  have Hb2 : Hid (Below w.heap.size w w2) := Lib.hid (ext_trans (ext_alloc (Below.refl _ _) _) hN.bel)
  clear c0 c1 c2 c3 hp hN
  go_wp2_with fail
  refine HW.out.mono ?_
  rintro e w3 ⟨rfl, hb3⟩
  have Hb3 := Lib.hid hb3
  clear hb3
  go_wp2_with fail
  refine (HF.out _ Hb3.out).mono ?_
  rintro e w4 ⟨rfl, hb4⟩
  have Hb4 := Lib.hid hb4
  clear hb4
  go_wp2
  go_ret
  exact ⟨rfl, ext_trans (ext_trans Hb2.out Hb3.out) Hb4.out⟩
end Go.Proofs.Ytbigdkkjajlekaa

/-
  Parts, tokens and texts as arguments of the laws, with what the form's reach and bulk say of them. No statement of the seat is proved here.
-/
namespace Go.Proofs.Ytbigdkkjajlekaa
open Go Go.ChangeShapes Go.WideShapes Go.ChangeAt Go.RowKit
set_option maxRecDepth 100000

/-! ### bulk -/
theorem bulk_one {H : Type} (d : DataW H) : 1 ≤ Rows.uptoBulk d := by
  cases d with
  | lit l => cases l <;> simp [Rows.uptoBulk]
  | nil => simp [Rows.uptoBulk]
  | ptr d => simp [Rows.uptoBulk]
  | slice elems spare => simp [Rows.uptoBulk]
  | agg parts => simp [Rows.uptoBulk]
  | iface t d => simp [Rows.uptoBulk]
  | map entries => simp [Rows.uptoBulk]
  | held h => simp [Rows.uptoBulk]
theorem bulk_all {H : Type} (l : List (DataW H)) : Rows.uptoBulkAll l = (l.map Rows.uptoBulk).sum := by
  induction l with
  | nil => simp [Rows.uptoBulkAll]
  | cons x r ih => simp only [Rows.uptoBulkAll, List.map_cons, List.sum_cons, ih]
theorem bulk_slice {H : Type} (a b : List (DataW H)) : (a.map Rows.uptoBulk).sum + 1 ≤ Rows.uptoBulk (.slice a b) := by
  simp only [Rows.uptoBulk, bulk_all]
  omega
theorem bulk_agg {H : Type} (a : List (DataW H)) : Rows.uptoBulk (.agg a) = (a.map Rows.uptoBulk).sum + 1 := by
  simp only [Rows.uptoBulk, bulk_all]
theorem bulk_str {H : Type} (s : List UInt8) : Rows.uptoBulk (DataW.lit (H := H) (.string s)) = s.length + 1 := by
  simp [Rows.uptoBulk]
theorem sum_le_sum {α : Type} (f g : α → Nat) : ∀ l : List α, (∀ x ∈ l, f x ≤ g x) → (l.map f).sum ≤ (l.map g).sum
  | [], _ => Nat.le_refl _
  | x :: r, h => by
    rw [List.map_cons, List.sum_cons, List.map_cons, List.sum_cons]
    have := h x (List.mem_cons_self ..)
    have := sum_le_sum f g r (fun y hy => h y (List.mem_cons_of_mem _ hy))
    omega
/-! ### weights -/
theorem weightsAll_mem {H : Type} {P : Program} {e : TypeId} : ∀ {l : List (DataW H)} {d : DataW H}, d ∈ l → ∀ n ∈ d.weights P e, n ∈ DataW.weightsAll P e l
  | x :: r, d, hd, n, hn => by
    simp only [DataW.weightsAll, List.mem_append]
    rcases List.mem_cons.1 hd with rfl | hd
    · exact .inl hn
    · exact .inr (weightsAll_mem hd n hn)
theorem weight_elem {H : Type} {P : Program} {t e : TypeId} {elems spare : List (DataW H)} {d : DataW H} (hu : P.underlying t = some (.slice e)) (hd : d ∈ elems) (n : Nat) (hn : n ∈ d.weights P e) : n ∈ DataW.weights P t (.slice elems spare) := by
  simp only [DataW.weights, hu, List.mem_cons, List.mem_append]
  exact .inr (.inl (weightsAll_mem hd n hn))
theorem weight_len {H : Type} {P : Program} {t e : TypeId} {elems spare : List (DataW H)} (hu : P.underlying t = some (.slice e)) : (elems.length + spare.length) * P.bytesOf e ∈ DataW.weights P t (.slice elems spare) := by
  simp only [DataW.weights, hu, List.mem_cons, true_or]
/-- what is told of a row's texts -/
structure Sz (ns : List Nat) (len : Nat) (ls : List Nat) : Prop where
  each : ∀ n ∈ ls, n ∈ ns
  len : len = 0 ∨ ∃ m ∈ ns, len ≤ m
theorem Sz.le {ns : List Nat} {len : Nat} {ls : List Nat} (h : Sz ns len ls) (hr : ∀ n ∈ ns, n ≤ 140737488355328) : (∀ n ∈ ls, n ≤ 140737488355328) ∧ len ≤ 140737488355328 := by
  refine ⟨fun n hn => hr n (h.each n hn), ?_⟩
  rcases h.len with h0 | ⟨m, hm, hl⟩
  · omega
  · exact Nat.le_trans hl (hr m hm)
theorem sized_of {H : Type} {P : Program} {ts : List TypeId} {ds : List (DataW H)} (hz : (DataW.weightsEach P ts ds).all (· ≤ reachBytes) = true) {j : Nat} {t : TypeId} {d : DataW H} (ht : ts[j]? = some t) (hd : ds[j]? = some d) : ∀ n ∈ d.weights P t, n ≤ 140737488355328 := fun n hn => by
  have h1 := List.all_eq_true.1 hz n (DataW.weights_mem_each ht hd n hn)
  have h2 := reachBytes_lt
  simp only [decide_eq_true_eq] at h1
  omega

section
variable {H : Type} {enc : TypeId × Value → H} {W : World} {base : Nat}
theorem flat_of_cell {w : World} {ad : Addr} {u : Value} (h : w.cell? (ad.add 0) = some u) : ∃ g o, ad = ⟨g, o, none⟩ := by
  obtain ⟨g, o, s⟩ := ad
  cases s with
  | none => exact ⟨g, o, rfl⟩
  | some s =>
    unfold World.cell? Addr.add at h
    simp at h
    split at h <;> simp at h
theorem cells_st : Try.prog.cellsOf 9 = 1 := by kernel_rfl
theorem cells_bo : Try.prog.cellsOf 4 = 1 := by kernel_rfl
/-- cells, each element of so many, read as a list -/
theorem rd_flat {β : Type} (a : Addr) (len sz : Nat) (T : Nat → β) (enc : β → List Value) (hsz : ∀ b, (enc b).length = sz) (hpos : 0 < sz) (h : ∀ k, k < len → ∀ j u, (enc (T k))[j]? = some u → W.cell? (a.add (k * sz + j)) = some u) :
    Rd W (some a) (((List.range len).map T).flatMap enc) := by
  have key : ∀ n, n ≤ len → Rd W (some a) (((List.range n).map T).flatMap enc) ∧ (((List.range n).map T).flatMap enc).length = n * sz := by
    intro n
    induction n with
    | zero => intro _; exact ⟨Rd.nil _ _, by simp⟩
    | succ n ih =>
      intro hn
      obtain ⟨h1, h2⟩ := ih (by omega)
      have e : (((List.range (n + 1)).map T).flatMap enc) = (((List.range n).map T).flatMap enc) ++ enc (T n) := by
        rw [List.range_succ, List.map_append, List.flatMap_append]
        simp
      refine ⟨fun j u hu => ?_, by rw [e, List.length_append, h2, hsz, Nat.add_mul]; omega⟩
      rw [e, List.getElem?_append, h2] at hu
      split at hu
      · exact h1 j u hu
      · rename_i hj
        refine ⟨a, rfl, ?_⟩
        have := h n (by omega) _ u hu
        rwa [show n * sz + (j - n * sz) = j by omega] at this
  exact (key len (Nat.le_refl _)).1

theorem cells_parts : Try.prog.cellsOf 51 = 2 := by kernel_rfl
theorem bytes_parts : Try.prog.bytesOf 51 = 24 := by kernel_rfl
theorem arg_parts {v : Value} {d : DataW H} {p : List MemPlace} (hv : Value.okWide Try.prog W .any base 23 v) (h : DataW.Trod enc Try.prog W 0 (fun _ => true) true 23 v d p) :
    ∃ (A : Option Addr) (n c : Nat) (xs : List Prt), v = .slice A n c ∧ n = xs.length ∧ xs.length ≤ c ∧ c ≤ maxLen ∧ PartsAt W A xs ∧ Sz (d.weights Try.prog 23) xs.length (xs.map (·.text.length)) ∧ (xs.map wP).sum + 1 ≤ Rows.uptoBulk d := by
  obtain ⟨a0, len, cap, rfl⟩ := okWide_slice Try.underlying23 hv
  obtain ⟨fuel, hf⟩ := h
  rcases Deep.open_slice Try.underlying23 hf with ⟨hcs, hx⟩ | ⟨a, len', cap', m, n, D, Pl, hcs, _, hl, hm, hmm, hx, hi⟩
  · simp [Value.cells] at hcs
    obtain ⟨rfl, rfl, rfl⟩ := hcs
    exact ⟨none, 0, 0, [], rfl, rfl, Nat.le_refl _, Nat.zero_le _, ⟨Rd.nil _ _, fun h => absurd rfl h⟩, ⟨by simp, .inl rfl⟩, bulk_one d⟩
  · simp [Value.cells] at hcs
    obtain ⟨rfl, rfl, rfl⟩ := hcs
    simp only [if_true] at hmm
    rw [hmm, cells_parts] at hi
    have each : ∀ k, k < cap → ∃ t : Prt, W.cell? (a.add (k * 2)) = some (.bool t.any) ∧ W.cell? (a.add (k * 2 + 1)) = some (strV t.text) ∧ t.text.length ∈ (D k).weights Try.prog 51 ∧ t.text.length + 1 ≤ Rows.uptoBulk (D k) := by
      intro k hk
      obtain ⟨cs', hc, ht⟩ := hi k hk
      obtain ⟨_, hcl, hat⟩ := World.cells?_some hc
      obtain ⟨ys, n', hn', hy, hlen, hyl, hg⟩ := DataW.trod_struct Try.underlying51 ht
      match cs', hcl with
      | [e0, e1], _ =>
        match ys, hyl with
        | [y0, y1], _ =>
          have g0 := hg 0 _ rfl
          have g1 := hg 1 _ rfl
          simp only [cells_bo, cells_st, List.drop_zero, List.drop_succ_cons, List.take_succ_cons, List.take_zero, List.getElem?_cons_zero, List.getElem?_cons_succ] at g0 g1
          obtain ⟨z0, q0, r0⟩ := DataW.trod_bool Try.underlying4 g0
          obtain ⟨s1, q1, r1, m1⟩ := DataW.trod_string Try.underlying9 g1
          injection q0 with q0
          injection q1 with q1
          have k0 := hat 0 (by omega)
          have k1 := hat 1 (by omega)
          rw [add_add_] at k0 k1
          have hy1 : D k = .agg [y0.1, y1.1] := by have := congrArg Prod.fst hy; simpa using this
          refine ⟨⟨z0, s1.data.toList⟩, ?_, ?_, ?_, ?_⟩
          · rw [Nat.add_zero] at k0; rw [k0]
            show some e0 = _
            rw [q0]
          · rw [k1]
            show some e1 = _
            rw [q1]; simp [strV]
          · rw [hy1, r1]
            simp [DataW.weights, Try.underlying51, DataW.weightsEach]
          · rw [hy1, bulk_agg, r1]
            simp only [List.map_cons, List.map_nil, List.sum_cons, List.sum_nil, bulk_str]
            omega
    obtain ⟨T, hT⟩ : ∃ T : Nat → Prt, ∀ k, k < cap → W.cell? (a.add (k * 2)) = some (.bool (T k).any) ∧ W.cell? (a.add (k * 2 + 1)) = some (strV (T k).text) ∧ (T k).text.length ∈ (D k).weights Try.prog 51 ∧ (T k).text.length + 1 ≤ Rows.uptoBulk (D k) :=
      ⟨fun k => if h : k < cap then Classical.choose (each k h) else default, fun k hk => by simp only [dif_pos hk]; exact Classical.choose_spec (each k hk)⟩
    refine ⟨some a, len, cap, (List.range len).map T, rfl, by simp, by simpa using hl, hm, ⟨?_, fun hne ad e => ?_⟩, ⟨fun n hn => ?_, ?_⟩, ?_⟩
    · refine rd_flat a len 2 T encP (fun b => rfl) (by omega) (fun k hk j u hu => ?_)
      obtain ⟨t0, t1, _⟩ := hT k (by omega)
      match j, hu with
      | 0, hu => simp [encP] at hu; rw [← hu]; exact t0
      | 1, hu => simp [encP] at hu; rw [← hu]; exact t1
    · injection e with e
      subst e
      have h0 : 0 < len := by
        rcases Nat.eq_zero_or_pos len with h0 | h0
        · subst h0; exact absurd rfl hne
        · exact h0
      have := (hT 0 (by omega)).1
      exact flat_of_cell (by simpa using this)
    · rw [List.map_map] at hn
      obtain ⟨k, hk, rfl⟩ := List.mem_map.1 hn
      have hk' := List.mem_range.1 hk
      simp only [Prod.mk.injEq] at hx
      rw [hx.1]
      exact weight_elem Try.underlying23 (List.mem_map.2 ⟨k, hk, rfl⟩) _ (hT k (by omega)).2.2.1
    · simp only [Prod.mk.injEq] at hx
      refine .inr ⟨_, by rw [hx.1]; exact weight_len Try.underlying23, ?_⟩
      rw [bytes_parts]
      simp only [List.length_map, List.length_range]
      omega
    · simp only [Prod.mk.injEq] at hx
      rw [hx.1]
      refine Nat.le_trans ?_ (bulk_slice _ _)
      rw [List.map_map, List.map_map]
      refine Nat.add_le_add_right (sum_le_sum _ _ _ (fun k hk => ?_)) 1
      have hk' := List.mem_range.1 hk
      exact (hT k (by omega)).2.2.2

theorem cells_toks : Try.prog.cellsOf 53 = 2 := by kernel_rfl
theorem bytes_toks : Try.prog.bytesOf 53 = 24 := by kernel_rfl
theorem arg_toks {v : Value} {d : DataW H} {p : List MemPlace} (hv : Value.okWide Try.prog W .any base 24 v) (h : DataW.Trod enc Try.prog W 0 (fun _ => true) true 24 v d p) :
    ∃ (A : Option Addr) (n c : Nat) (xs : List Tok), v = .slice A n c ∧ n = xs.length ∧ xs.length ≤ c ∧ c ≤ maxLen ∧ ToksAt W A xs ∧ Sz (d.weights Try.prog 24) xs.length (xs.map (·.text.length)) ∧ (xs.map wT).sum + 1 ≤ Rows.uptoBulk d := by
  obtain ⟨a0, len, cap, rfl⟩ := okWide_slice Try.underlying24 hv
  obtain ⟨fuel, hf⟩ := h
  rcases Deep.open_slice Try.underlying24 hf with ⟨hcs, hx⟩ | ⟨a, len', cap', m, n, D, Pl, hcs, _, hl, hm, hmm, hx, hi⟩
  · simp [Value.cells] at hcs
    obtain ⟨rfl, rfl, rfl⟩ := hcs
    exact ⟨none, 0, 0, [], rfl, rfl, Nat.le_refl _, Nat.zero_le _, ⟨Rd.nil _ _, fun h => absurd rfl h⟩, ⟨by simp, .inl rfl⟩, bulk_one d⟩
  · simp [Value.cells] at hcs
    obtain ⟨rfl, rfl, rfl⟩ := hcs
    simp only [if_true] at hmm
    rw [hmm, cells_toks] at hi
    have each : ∀ k, k < cap → ∃ t : Tok, W.cell? (a.add (k * 2)) = some (.int .i64 t.kind) ∧ W.cell? (a.add (k * 2 + 1)) = some (strV t.text) ∧ t.text.length ∈ (D k).weights Try.prog 53 ∧ t.text.length + 1 ≤ Rows.uptoBulk (D k) := by
      intro k hk
      obtain ⟨cs', hc, ht⟩ := hi k hk
      obtain ⟨_, hcl, hat⟩ := World.cells?_some hc
      obtain ⟨ys, n', hn', hy, hlen, hyl, hg⟩ := DataW.trod_struct Try.underlying53 ht
      match cs', hcl with
      | [e0, e1], _ =>
        match ys, hyl with
        | [y0, y1], _ =>
          have g0 := hg 0 _ rfl
          have g1 := hg 1 _ rfl
          simp only [cells_int, cells_st, List.drop_zero, List.drop_succ_cons, List.take_succ_cons, List.take_zero, List.getElem?_cons_zero, List.getElem?_cons_succ] at g0 g1
          obtain ⟨z0, q0, r0, w0⟩ := DataW.trod_int Try.underlying3 g0
          obtain ⟨s1, q1, r1, m1⟩ := DataW.trod_string Try.underlying9 g1
          injection q0 with q0
          injection q1 with q1
          have k0 := hat 0 (by omega)
          have k1 := hat 1 (by omega)
          rw [add_add_] at k0 k1
          have hy1 : D k = .agg [y0.1, y1.1] := by have := congrArg Prod.fst hy; simpa using this
          refine ⟨⟨z0, s1.data.toList⟩, ?_, ?_, ?_, ?_⟩
          · rw [Nat.add_zero] at k0; rw [k0]
            show some e0 = _
            rw [q0]
          · rw [k1]
            show some e1 = _
            rw [q1]; simp [strV]
          · rw [hy1, r1]
            simp [DataW.weights, Try.underlying53, DataW.weightsEach]
          · rw [hy1, bulk_agg, r1]
            simp only [List.map_cons, List.map_nil, List.sum_cons, List.sum_nil, bulk_str]
            omega
    obtain ⟨T, hT⟩ : ∃ T : Nat → Tok, ∀ k, k < cap → W.cell? (a.add (k * 2)) = some (.int .i64 (T k).kind) ∧ W.cell? (a.add (k * 2 + 1)) = some (strV (T k).text) ∧ (T k).text.length ∈ (D k).weights Try.prog 53 ∧ (T k).text.length + 1 ≤ Rows.uptoBulk (D k) :=
      ⟨fun k => if h : k < cap then Classical.choose (each k h) else default, fun k hk => by simp only [dif_pos hk]; exact Classical.choose_spec (each k hk)⟩
    refine ⟨some a, len, cap, (List.range len).map T, rfl, by simp, by simpa using hl, hm, ⟨?_, fun hne ad e => ?_⟩, ⟨fun n hn => ?_, ?_⟩, ?_⟩
    · refine rd_flat a len 2 T encT (fun b => rfl) (by omega) (fun k hk j u hu => ?_)
      obtain ⟨t0, t1, _⟩ := hT k (by omega)
      match j, hu with
      | 0, hu => simp [encT] at hu; rw [← hu]; exact t0
      | 1, hu => simp [encT] at hu; rw [← hu]; exact t1
    · injection e with e
      subst e
      have h0 : 0 < len := by
        rcases Nat.eq_zero_or_pos len with h0 | h0
        · subst h0; exact absurd rfl hne
        · exact h0
      have := (hT 0 (by omega)).1
      exact flat_of_cell (by simpa using this)
    · rw [List.map_map] at hn
      obtain ⟨k, hk, rfl⟩ := List.mem_map.1 hn
      have hk' := List.mem_range.1 hk
      simp only [Prod.mk.injEq] at hx
      rw [hx.1]
      exact weight_elem Try.underlying24 (List.mem_map.2 ⟨k, hk, rfl⟩) _ (hT k (by omega)).2.2.1
    · simp only [Prod.mk.injEq] at hx
      refine .inr ⟨_, by rw [hx.1]; exact weight_len Try.underlying24, ?_⟩
      rw [bytes_toks]
      simp only [List.length_map, List.length_range]
      omega
    · simp only [Prod.mk.injEq] at hx
      rw [hx.1]
      refine Nat.le_trans ?_ (bulk_slice _ _)
      rw [List.map_map, List.map_map]
      refine Nat.add_le_add_right (sum_le_sum _ _ _ (fun k hk => ?_)) 1
      have hk' := List.mem_range.1 hk
      exact (hT k (by omega)).2.2.2

theorem arg_texts {v : Value} {d : DataW H} {p : List MemPlace} (hv : Value.okWide Try.prog W .any base 36 v) (h : DataW.Trod enc Try.prog W 0 (fun _ => true) true 36 v d p) :
    ∃ (A : Option Addr) (n c : Nat) (xs : List (List UInt8)), v = .slice A n c ∧ n = xs.length ∧ xs.length ≤ c ∧ c ≤ maxLen ∧ Rd W A (xs.map strV) ∧ (xs.map fun s => s.length + 1).sum + 1 ≤ Rows.uptoBulk d := by
  obtain ⟨a0, len, cap, rfl⟩ := okWide_slice Try.underlying36 hv
  obtain ⟨fuel, hf⟩ := h
  rcases open_strings Try.underlying36 Try.underlying9 cells_st hf with ⟨hcs, hx⟩ | ⟨a, len', cap', ss, hcs, _, hl, hm, hz, hx, hcell, hwz⟩
  · simp [Value.cells] at hcs
    obtain ⟨rfl, rfl, rfl⟩ := hcs
    exact ⟨none, 0, 0, [], rfl, rfl, Nat.le_refl _, Nat.zero_le _, Rd.nil _ _, bulk_one d⟩
  · simp [Value.cells] at hcs
    obtain ⟨rfl, rfl, rfl⟩ := hcs
    simp only [if_true] at hz
    have hlen : ((ss.take len).map fun s => s.data.toList).length = len := by simp; omega
    refine ⟨some a, len, cap, (ss.take len).map fun s => s.data.toList, rfl, hlen.symm, by rw [hlen]; exact hl, hm, fun j u hu => ⟨a, rfl, ?_⟩, ?_⟩
    · have hj : j < len := by
        have := (List.getElem?_eq_some_iff.1 hu).1
        simp at this; omega
      rw [hcell j (by omega), ← hu]
      have hjs : j < ss.length := by omega
      simp [List.getD, hj, hjs, strV]
    · simp only [Prod.mk.injEq] at hx
      rw [hx.1]
      have h1 := bulk_slice (H := H) (strs (ss.take len)) (strs (ss.drop len))
      refine Nat.le_trans ?_ h1
      have h2 : ((strs (H := H) (ss.take len)).map Rows.uptoBulk) = (((ss.take len).map fun s => s.data.toList).map fun s => s.length + 1) := by
        unfold strs
        rw [List.map_map, List.map_map]
        exact List.map_congr_left fun s _ => bulk_str _
      rw [h2]
      exact Nat.le_refl _
end
end Go.Proofs.Ytbigdkkjajlekaa
