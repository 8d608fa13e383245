/-
  Texts of this claim, joined (part 8): contracts and lemmas that the last text goes by. No statement of the seat is proved here.
-/
import Derived.Test.YtmggajpecgnjkaaDoorAll7
import Derived.Test.YtmggajpecgnjkaaDoorAll2
import Derived.Test.YtmggajpecgnjkaaDoorAll5
import Derived.Test.YtmggajpecgnjkaaDoorAll3
import Derived.Test.YtmggajpecgnjkaaDoorCards
import Derived.Test.YtmggajpecgnjkaaDoorTie
import Derived.Lib.LaidTab
import Derived.Stop.LaidErr
set_option linter.unusedVariables false
set_option linter.unusedSimpArgs false
/-
  What stage 6's laws share: the table out of 'laid', known, weight. No statement of the seat is proved here.
-/
namespace Go.Proofs.YtmggajpecgnjkaaDoor
open Go Go.ChangeShapes Go.WideShapes Go.ChangeAt Go.RowKit
set_option maxRecDepth 100000

theorem cells_tab : Tryd.prog.cellsOf 150 = 64 := by kernel_rfl
theorem gTab : Tryd.prog.globalNamed "math/bits.deBruijn64tab" = some 0 := by kernel_rfl
theorem gTabType : (Tryd.prog.globals[0]?).map (·.type) = some 150 := by kernel_rfl
/-- the list of every row of this seat -/
def theLaid : List (String × DataW Unit) := [("math/bits.deBruijn32tab", Rows.laid_math_bits_deBruijn32tab), ("math/bits.deBruijn64tab", Rows.laid_math_bits_deBruijn64tab), ("internal/strconv.uint64pow10", Rows.laid_internal_strconv_uint64pow10)]
theorem tab_same : ∀ i : Fin 64, (([0, 1, 56, 2, 57, 49, 28, 3, 61, 58, 42, 50, 38, 29, 17, 4, 62, 47, 59, 36, 45, 43, 51, 22, 53, 39, 33, 30, 24, 18, 12, 5, 63, 55, 48, 27, 60, 41, 37, 16, 46, 35, 44, 21, 52, 32, 23, 11, 54, 26, 40, 15, 34, 20, 31, 10, 25, 14, 19, 9, 13, 8, 7, 6] : List Int).getD i.val 0) = ((Lib.deBruijn64tab.getD i.val 0 : Nat) : Int) := by decide +kernel
theorem tab_of_laid {W : World} (h : laidMetH Tryd.prog theLaid W) : Tab W := by
  have h1 : Lib.TabIs Tryd.prog W "math/bits.deBruijn64tab" .u8 [0, 1, 56, 2, 57, 49, 28, 3, 61, 58, 42, 50, 38, 29, 17, 4, 62, 47, 59, 36, 45, 43, 51, 22, 53, 39, 33, 30, 24, 18, 12, 5, 63, 55, 48, 27, 60, 41, 37, 16, 46, 35, 44, 21, 52, 32, 23, 11, 54, 26, 40, 15, 34, 20, 31, 10, 25, 14, 19, 9, 13, 8, 7, 6] :=
    Lib.tabIs_of_head (rest := [("internal/strconv.uint64pow10", Rows.laid_internal_strconv_uint64pow10)]) gTab gTabType Tryd.underlying150 Tryd.underlying5 cells_u8 cells_tab (laidMet.tail (x := ("math/bits.deBruijn32tab", Rows.laid_math_bits_deBruijn32tab)) h)
  intro i hi
  have hi' : i < 64 := hi
  have h2 := h1.cell gTab i (by simpa using hi')
  rw [h2]
  have h3 := tab_same ⟨i, hi'⟩
  exact congrArg (fun z => some (Value.int .u8 z)) h3

/-! ### known -/
def knownL : List Nat := [97, 40, 98, 124, 41, 91, 48, 45, 57, 93, 123, 50, 44, 125]
theorem known_parse : (parseE knownL).2 = (0, 0) ∧ printE (parseE knownL).1 = knownL := by decide +kernel
theorem known_bs : (⟨#[97, 40, 98, 124, 41, 91, 48, 45, 57, 93, 123, 50, 44, 125]⟩ : ByteArray) = bsN knownL := rfl
theorem known_nats : natsOf ⟨#[97, 40, 98, 124, 41, 91, 48, 45, 57, 93, 123, 50, 44, 125]⟩ = knownL := rfl
set_option maxHeartbeats 2000000 in
theorem known_any (w : World) (ht : Tab w) : Calls Tryd.prog 19 #[] w fun e w' => e = .returned (.bool true) ∧ Below w.heap.size w w' := by
  have hp := parse_any ⟨#[97, 40, 98, 124, 41, 91, 48, 45, 57, 93, 123, 50, 44, 125]⟩ (by decide) w ht
  rw [known_nats] at hp
  obtain ⟨h1, h2⟩ := known_parse
  obtain ⟨r, hr⟩ : ∃ r, parseE knownL = r := ⟨_, rfl⟩
  rw [hr] at hp h1 h2
  obtain ⟨x, a, e⟩ := r
  simp only [Prod.mk.injEq] at h1
  obtain ⟨rfl, rfl⟩ := h1
  simp only at h2
  have Hp := Lib.hid hp
  have H2 := Lib.hid h2
  have Ht := Lib.hid ht
  clear hp hr h2 ht
  go_enter Tryd.func19, Tryd.ntmps19
  go_wp2_with fail
  refine Hp.out.mono ?_
  rintro e w2 ⟨⟨cs, he, hr⟩, hb2⟩
  have h8 := reR_arr hr
  obtain ⟨u0, u1, u2, u3, u4, u5, u6, u7, hcs⟩ := arr_eight h8.1
  have hcl : cs = [u0, u1, u2, u3, u4, u5, u6, u7] := by have := congrArg Array.toList hcs; simpa using this
  subst hcl
  have he' : e = .returned (.tuple #[.agg #[u0, u1, u2, u3, u4, u5, u6, u7], .int .i64 0, .int .i64 0]) := he
  subst he'
  have hone := h8.2
  have Hr := Lib.hid hr
  have Hb2 := Lib.hid hb2
  clear he hr hb2 h8 hcs
  go_wp2_with (refine wpList_store_re rfl _ _ rfl w2.heap.size rfl rfl rfl rfl hone (Blk.new _ _ _) ?_; intro w3 hB3 ho3; have c0 := hB3.cell 0; have c1 := hB3.cell 1; have c2 := hB3.cell 2; have c3 := hB3.cell 3; have c4 := hB3.cell 4; have c5 := hB3.cell 5; have c6 := hB3.cell 6; have c7 := hB3.cell 7)
  have hb23 : Below w2.heap.size w2 w3 := ((Below.refl _ _).alloc (Nat.le_refl _) _).trans (ho3.below (fun i hi => Nat.le_of_eq hi.symm) (by simp))
  have hr3 := Hr.out.ext hb23
  refine (pprint_any _ x _ w3 (Ht.out.ext (ext_trans Hb2.out hb23)) hr3).mono ?_
  rintro e w4 ⟨rfl, hb4⟩
  rw [H2.out, ← known_bs]
  clear c0 c1 c2 c3 c4 c5 c6 c7 hB3 hr3
  go_wp2
  go_ret
  exact ⟨rfl, ext_trans (ext_trans Hb2.out hb23) hb4⟩

/-! ### how much of so many nodes is left -/
mutual
def leftE : Ex → Int → Int
  | .mk _ _ ks _ _ => fun left => leftL ks (left - 1)
def leftL : List Ex → Int → Int
  | [] => fun left => left
  | x :: xs => fun left => if 0 ≤ left then leftL xs (leftE x left) else left
end
theorem leftL_nodes (l : List Ex) (h : ∀ x ∈ l, ∀ n, (leftE x n ≤ n) ∧ (0 ≤ leftE x n → leftE x n = n - (nodesE x : Int))) : ∀ n, leftL l n ≤ n ∧ (0 ≤ leftL l n → leftL l n = n - (nodesL l : Int)) := by
  induction l with
  | nil => intro n; simp [leftL, nodesL]
  | cons x r ih =>
    intro n
    have ih := ih (fun y hy => h y (by simp [hy]))
    have hx := h x (by simp) n
    have hi := ih (leftE x n)
    simp only [leftL, nodesL]
    split
    · refine ⟨by omega, fun h0 => ?_⟩
      have := hi.2 h0
      have h9 := hx.2 (by omega)
      omega
    · exact ⟨Int.le_refl _, fun h0 => by omega⟩
theorem leftE_nodes (t : Ex) : ∀ n, (leftE t n ≤ n) ∧ (0 ≤ leftE t n → leftE t n = n - (nodesE t : Int)) := by
  refine ex_induct (p := fun t => ∀ n, (leftE t n ≤ n) ∧ (0 ≤ leftE t n → leftE t n = n - (nodesE t : Int))) (fun k s ks lo hi ih n => ?_) t
  have := leftL_nodes ks ih (n - 1)
  simp only [leftE, nodesE]
  refine ⟨by omega, fun h => ?_⟩
  have := this.2 h
  omega
theorem leftL_low (l : List Ex) (h : ∀ x ∈ l, ∀ n, 0 ≤ n → -1 ≤ leftE x n) : ∀ n, -1 ≤ n → -1 ≤ leftL l n := by
  induction l with
  | nil => intro n hn; simpa [leftL] using hn
  | cons x r ih =>
    intro n hn
    simp only [leftL]
    split
    · rename_i h0
      exact ih (fun y hy => h y (by simp [hy])) _ (h x (by simp) n h0)
    · exact hn
theorem leftE_low (t : Ex) : ∀ n, 0 ≤ n → -1 ≤ leftE t n := by
  refine ex_induct (p := fun t => ∀ n, 0 ≤ n → -1 ≤ leftE t n) (fun k s ks lo hi ih n hn => ?_) t
  simp only [leftE]
  exact leftL_low ks ih _ (by omega)

set_option maxHeartbeats 2000000 in
theorem weight_any (S : Nat → Prop) (t : Ex) : ∀ (cs : List Value) (w : World) (n : Int), ReR S w t cs → 0 ≤ n → n ≤ 1000000 →
    Calls Tryd.prog 20 #[reV cs, .int .i64 n] w fun e w' => e = .returned (.int .i64 (leftE t n)) ∧ Below w.heap.size w w' := by
  refine ex_induct (p := fun t => ∀ (cs : List Value) (w : World) (n : Int), ReR S w t cs → 0 ≤ n → n ≤ 1000000 → Calls Tryd.prog 20 #[reV cs, .int .i64 n] w fun e w' => e = .returned (.int .i64 (leftE t n)) ∧ Below w.heap.size w w') (fun k s ks lo hi ih cs w n h hn0 hn => ?_) t
  rw [reR_iff] at h
  obtain ⟨h0, A, c, rfl, h1, h2, h3⟩ := h
  have hle : leftE (.mk k s ks lo hi) n = leftL ks (n - 1) := by simp [leftE]
  rw [hle]
  unfold maxLen at h2
  have Hih := Lib.hid ih
  have H3 := Lib.hid h3
  clear ih h3 h0 hle
  unfold reV reCells
  have hB := Blk.new w 27 #[.int .i64 k, .int .u64 (wordB s 0 : Int), .int .u64 (wordB s 1 : Int), .int .u64 (wordB s 2 : Int), .int .u64 (wordB s 3 : Int), .slice A ks.length c, .int .i64 lo, .int .i64 hi]
  have hkl : (ks.length : Int) ≤ 9223372036854775807 := by omega
  go_enter Tryd.func20, Tryd.ntmps20
  go_wp2
  go_loopw [1, 5] (fun nv i wr => ∃ (j : Nat) (m : Int), j ≤ ks.length ∧ i = .int .i64 (j : Int) ∧ nv = .int .i64 m ∧ m ≤ 1000000 ∧ -1 ≤ m ∧ Hid (leftL ks (n - 1) = leftL (ks.drop j) m) ∧ Blk wr w.heap.size 27 #[.int .i64 k, .int .u64 (wordB s 0 : Int), .int .u64 (wordB s 1 : Int), .int .u64 (wordB s 2 : Int), .int .u64 (wordB s 3 : Int), .slice A ks.length c, .int .i64 lo, .int .i64 hi] ∧ Below w.heap.size w wr) (fun _ i _ => ks.length - (intOf i).toNat)
  case atStart => exact ⟨0, n - 1, Nat.zero_le _, rfl, rfl, by omega, by omega, Lib.hid rfl, hB, (Below.refl _ _).alloc (Nat.le_refl _) _⟩
  case round =>
    obtain ⟨j, m, hj, rfl, rfl, hm, hm1, hL, hB, hb⟩ := hrel
    have c5 := hB.cell 5
    by_cases hlt : j < ks.length
    · have hji : (j : Int) < (ks.length : Int) := by omega
      have hd : ks.drop j = ks[j] :: ks.drop (j + 1) := List.drop_eq_getElem_cons hlt
      by_cases hm0 : 0 ≤ m
      · have hL2 := hL.out
        rw [hd] at hL2
        simp only [leftL] at hL2
        rw [if_pos hm0] at hL2
        have HL2 := Lib.hid hL2
        have hlm := (leftE_nodes ks[j] m).1
        have hlm2 := leftE_low ks[j] m hm0
        obtain ⟨g, o, u0, u1, u2, u3, u4, u5, u6, u7, rfl, hr, x0, x1, x2, x3, x4, x5, x6, x7, -⟩ := (H3.out.ext hb).kid hlt
        have Hc := Lib.hid (Hih.out _ (List.getElem_mem hlt) _ wr m hr hm0 hm)
        obtain ⟨q, hq⟩ : ∃ q, leftE ks[j] m = q := ⟨_, rfl⟩
        rw [hq] at Hc hlm hlm2 HL2
        have HB := Lib.hid hB
        clear hr hd hL hL2 hq hB
        go_wp2_with fail
        refine Hc.out.mono ?_
        rintro e w2 ⟨rfl, hb2⟩
        go_wp2
        go_roundw
        case rel => exact ⟨j + 1, q, by omega, by go_num, rfl, by omega, hlm2, HL2, HB.out.ext hb2, ext_trans hb hb2⟩
        case measure => simp [intOf]; omega
      · have hm0' : m < 0 := by omega
        have HE : Hid (leftL ks (n - 1) = m) := Lib.hid (by rw [hL.out, hd]; simp only [leftL]; rw [if_neg hm0])
        clear hd hL hm0
        go_wp2
        go_ret
        exact ⟨by rw [HE.out]; rfl, hb⟩
    · obtain rfl : j = ks.length := by omega
      have HE : Hid (leftL ks (n - 1) = m) := Lib.hid (by rw [hL.out, List.drop_length]; rfl)
      clear hL
      go_wp2
      go_ret
      exact ⟨by rw [HE.out]; rfl, hb⟩
end Go.Proofs.YtmggajpecgnjkaaDoor

/-
  A world for the witness of stage 6's and 7's cards: the tables hold what the rows list. No statement of the seat is proved here.
-/
namespace Go.Proofs.YtmggajpecgnjkaaDoor
open Go Go.ChangeShapes Go.WideShapes Go.ChangeAt Go.RowKit
theorem nats_bsN {l : List Nat} (h : ∀ b ∈ l, b < 256) : natsOf (bsN l) = l := by
  unfold natsOf bsN
  simp only [List.map_map]
  conv => rhs; rw [← List.map_id l]
  refine List.map_congr_left fun b hb => ?_
  have := h b hb
  simp only [Function.comp, Nat.toUInt8, UInt8.toNat_ofNat', id]
  omega
noncomputable def laidWorld (os : Os) : World :=
  { World.holding Tryd.prog os ⟨#[], #[], []⟩ with heap := ((((World.holding Tryd.prog os ⟨#[], #[], []⟩).heap.modify 3 fun
      | .cells _ t frozen => .cells #[.int .u8 0, .int .u8 1, .int .u8 28, .int .u8 2, .int .u8 29, .int .u8 14, .int .u8 24, .int .u8 3, .int .u8 30, .int .u8 22, .int .u8 20, .int .u8 15, .int .u8 25, .int .u8 17, .int .u8 4, .int .u8 8, .int .u8 31, .int .u8 27, .int .u8 13, .int .u8 23, .int .u8 21, .int .u8 19, .int .u8 16, .int .u8 7, .int .u8 26, .int .u8 12, .int .u8 18, .int .u8 6, .int .u8 11, .int .u8 5, .int .u8 10, .int .u8 9] t frozen
      | o => o).modify 0 fun
      | .cells _ t frozen => .cells #[.int .u8 0, .int .u8 1, .int .u8 56, .int .u8 2, .int .u8 57, .int .u8 49, .int .u8 28, .int .u8 3, .int .u8 61, .int .u8 58, .int .u8 42, .int .u8 50, .int .u8 38, .int .u8 29, .int .u8 17, .int .u8 4, .int .u8 62, .int .u8 47, .int .u8 59, .int .u8 36, .int .u8 45, .int .u8 43, .int .u8 51, .int .u8 22, .int .u8 53, .int .u8 39, .int .u8 33, .int .u8 30, .int .u8 24, .int .u8 18, .int .u8 12, .int .u8 5, .int .u8 63, .int .u8 55, .int .u8 48, .int .u8 27, .int .u8 60, .int .u8 41, .int .u8 37, .int .u8 16, .int .u8 46, .int .u8 35, .int .u8 44, .int .u8 21, .int .u8 52, .int .u8 32, .int .u8 23, .int .u8 11, .int .u8 54, .int .u8 26, .int .u8 40, .int .u8 15, .int .u8 34, .int .u8 20, .int .u8 31, .int .u8 10, .int .u8 25, .int .u8 14, .int .u8 19, .int .u8 9, .int .u8 13, .int .u8 8, .int .u8 7, .int .u8 6] t frozen
      | o => o).modify 2 fun
      | .cells _ t frozen => .cells #[.int .u64 1, .int .u64 10, .int .u64 100, .int .u64 1000, .int .u64 10000, .int .u64 100000, .int .u64 1000000, .int .u64 10000000, .int .u64 100000000, .int .u64 1000000000, .int .u64 10000000000, .int .u64 100000000000, .int .u64 1000000000000, .int .u64 10000000000000, .int .u64 100000000000000, .int .u64 1000000000000000, .int .u64 10000000000000000, .int .u64 100000000000000000, .int .u64 1000000000000000000, .int .u64 10000000000000000000] t frozen
      | o => o) }
end Go.Proofs.YtmggajpecgnjkaaDoor

/-
  RegexBytes, its walk: a byte told by a stroke and its digits. No statement of the seat is proved here (RegexBytes closes it).
-/
namespace Go.Proofs.YtmggajpecgnjkaaDoor
open Go Go.ChangeShapes Go.WideShapes Go.ChangeAt Go.RowKit
set_option maxRecDepth 100000

def byS (b : Nat) : List Nat := [92, 120, hexD (b / 16), hexD (b % 16)]
def byT (b : Nat) : List Nat := [91, 92, 120, hexD (b / 16), hexD (b % 16), 93]
theorem by_facts : ∀ b : Fin 256, ((sameE (parseE (byS b.val)).1 (textX [b.val]) = true ∧ (parseE (byS b.val)).2.2 = 0 ∧ nodesE (parseE (byS b.val)).1 ≤ 1000000)) ∧ (sameE (parseE (byT b.val)).1 (textX [b.val]) = true ∧ (parseE (byT b.val)).2.2 = 0 ∧ nodesE (parseE (byT b.val)).1 ≤ 1000000) := by decide +kernel

/-- at a step of a region that draws its order: a conversion whose run is known -/
theorem step_conv {P : Program} {w : World} {ops : Array Oper} {o : Oper} {a : Act} {K : Act → World → Prop} {Q : Exit → Act → World → Prop} {E : Prop} (hgd : o.guard = none) (s t : TypeId) (x : Operand)
    (ho : o.op = .convert s t x) (v r : Value) (hx : a.eval x = v) (hrun : (convert s t v).run P w = .ok r w) (h : K (a.put o.dst r) w) :
    if Region.wanted o (yielded ops a.tmps) = true then Oper.wp P o a w K Q else E := by
  have hw : Region.wanted o (yielded ops a.tmps) = true := by simp [Region.wanted, hgd]
  rw [if_pos hw]
  unfold Oper.wp execOp
  simp only [ho, Sem.run_bind, Sem.run_pure, Result.andThen_ok, hx, hrun]
  exact h

set_option maxHeartbeats 4000000 in
theorem bytes_any (b : Nat) (hb : b < 256) (w : World) (ht : Tab w) :
    Calls Tryd.prog 8 #[.int .u8 (b : Int)] w fun e w' => e = .returned (.bool true) ∧ Below w.heap.size w w' := by
  obtain ⟨⟨s1, s2, s3⟩, u1, u2, u3⟩ := by_facts ⟨b, hb⟩
  simp only at s1 s2 s3 u1 u2 u3
  have hs16 := shr4 b hb
  have h15 : bits BinOp.and IntKind.u8 (b : Int) 15 = ((b % 16 : Nat) : Int) := and15i ⟨b, hb⟩
  have ha16 : b / 16 < 16 := by omega
  have hb16 : b % 16 < 16 := by omega
  have ea := hexS_at ⟨b / 16, ha16⟩
  have eb := hexS_at ⟨b % 16, hb16⟩
  simp only at ea eb
  unfold byS at s1 s2 s3
  unfold byT at u1 u2 u3
  have k1 := hexD_lt (c := b / 16) (by omega)
  have k2 := hexD_lt (c := b % 16) (by omega)
  generalize hq1 : b / 16 = a1 at hs16 ha16 ea k1 s1 s2 s3 u1 u2 u3
  generalize hq2 : b % 16 = a2 at h15 hb16 eb k2 s1 s2 s3 u1 u2 u3
  generalize hexD a1 = x1 at ea k1 s1 s2 s3 u1 u2 u3
  generalize hexD a2 = x2 at eb k2 s1 s2 s3 u1 u2 u3
  unfold hexS at ea eb
  have l1 : (a1 : Int) < 16 := by omega
  have l2 : (a2 : Int) < 16 := by omega
  have e1i : (((⟨#[48, 49, 50, 51, 52, 53, 54, 55, 56, 57, 97, 98, 99, 100, 101, 102]⟩ : ByteArray)[a1]'(by show a1 < 16; exact ha16)).toNat : Int) = (x1 : Int) := by rw [ea]
  have e2i : (((⟨#[48, 49, 50, 51, 52, 53, 54, 55, 56, 57, 97, 98, 99, 100, 101, 102]⟩ : ByteArray)[a2]'(by show a2 < 16; exact hb16)).toNat : Int) = (x2 : Int) := by rw [eb]
  have kc := conv_nb (w.alloc (Obj.cells #[.int .u8 (x1 : Int), .int .u8 (x2 : Int)] 5)).drew (some ⟨w.heap.size, 0, none⟩) 2 2 [x1, x2] rfl (by simp [k1, k2]) (Rd.lit w #[.int .u8 (x1 : Int), .int .u8 (x2 : Int)] 5).drew
  have kc0 := conv_nb (w.alloc (Obj.cells #[.int .u8 (x1 : Int), .int .u8 (x2 : Int)] 5)) (some ⟨w.heap.size, 0, none⟩) 2 2 [x1, x2] rfl (by simp [k1, k2]) (Rd.lit w #[.int .u8 (x1 : Int), .int .u8 (x2 : Int)] 5)
  have kc2 := conv_nb (w.drew.alloc (Obj.cells #[.int .u8 (x1 : Int), .int .u8 (x2 : Int)] 5)) (some ⟨w.heap.size, 0, none⟩) 2 2 [x1, x2] rfl (by simp [k1, k2]) (Rd.lit w.drew #[.int .u8 (x1 : Int), .int .u8 (x2 : Int)] 5)
  obtain ⟨Z, hZ⟩ : ∃ Z, bsN [x1, x2] = Z := ⟨_, rfl⟩
  obtain ⟨Y, hY⟩ : ∃ Y, bsN [92, 120, x1, x2] = Y := ⟨_, rfl⟩
  obtain ⟨X, hX⟩ : ∃ X, bsN [91, 92, 120, x1, x2, 93] = X := ⟨_, rfl⟩
  have e2 : (⟨#[92, 120]⟩ : ByteArray) ++ Z = Y := by rw [← hZ, ← hY]; exact bsN_append [92, 120] _
  have e3 : (⟨#[91]⟩ : ByteArray) ++ Y ++ (⟨#[93]⟩ : ByteArray) = X := by
    rw [← hX, ← hY]
    have q := bsN_append [91] [92, 120, x1, x2]
    have q2 := bsN_append ([91] ++ [92, 120, x1, x2]) [93]
    rw [← q] at q2
    exact q2
  have hzs : Z.size = 2 := by rw [← hZ, bsN_size]; rfl
  have hys : Y.size = 4 := by rw [← hY, bsN_size]; rfl
  have hxs : X.size = 6 := by rw [← hX, bsN_size]; rfl
  have hzl : Z.size ≤ 2 := by omega
  have ny : natsOf Y = [92, 120, x1, x2] := by rw [← hY]; exact nats_bsN (by simp [k1, k2])
  have nx : natsOf X = [91, 92, 120, x1, x2, 93] := by rw [← hX]; exact nats_bsN (by simp [k1, k2])
  rw [hZ] at kc kc0 kc2
  have hzn : ¬ 9223372036854775807 < 2 + Z.size := by omega
  have hzn2 : 2 + Z.size ≤ 9223372036854775807 := by omega
  have HPy : Hid (∀ W, Tab W → Calls Tryd.prog 16 #[.string Y] W fun e w' => ParseAns W.heap.size (parseE [92, 120, x1, x2]) e w' ∧ Below W.heap.size W w') := Lib.hid fun W hW => by
    have := parse_any Y (by omega) W hW
    rwa [ny] at this
  have HPx : Hid (∀ W, Tab W → Calls Tryd.prog 16 #[.string X] W fun e w' => ParseAns W.heap.size (parseE [91, 92, 120, x1, x2, 93]) e w' ∧ Below W.heap.size W w') := Lib.hid fun W hW => by
    have := parse_any X (by omega) W hW
    rwa [nx] at this
  have Ht := Lib.hid ht
  have HS := Lib.hid s1
  have HS3 := Lib.hid s3
  have HU := Lib.hid u1
  have HU3 := Lib.hid u3
  have Hys := Lib.hid hys
  have He2 := Lib.hid e2
  have hyl : Y.size ≤ 4 := by omega
  obtain ⟨S1, hS1⟩ : ∃ S1, bsN [b] = S1 := ⟨_, rfl⟩
  have HTx : Hid (∀ W, Calls Tryd.prog 27 #[.string S1] W fun e w' => ∃ cs, e = .returned (reV cs) ∧ ReR (fun g => W.heap.size ≤ g) w' (textX [b]) cs ∧ Below W.heap.size W w') := Lib.hid fun W => by
    have hsz : S1.size = 1 := by rw [← hS1, bsN_size]; rfl
    have hn1 : natsOf S1 = [b] := by rw [← hS1]; exact nats_bsN (by simpa using hb)
    have := rtextx_any S1 W (by omega)
    rwa [hn1] at this
  have HS1 := Lib.hid hS1
  have He3 := Lib.hid e3
  obtain ⟨R, hR⟩ : ∃ R, parseE [92, 120, x1, x2] = R := ⟨_, rfl⟩
  obtain ⟨Q, hQ⟩ : ∃ Q, parseE [91, 92, 120, x1, x2, 93] = Q := ⟨_, rfl⟩
  rw [hR] at HPy HS HS3 s2
  rw [hQ] at HPx HU HU3 u2
  obtain ⟨r, ra, re⟩ := R
  obtain ⟨q, qa, qe⟩ := Q
  simp only at s2 u2
  subst s2 u2
  clear hS1 s1 s3 u1 u3 ht hR hQ hys hxs hzs e2 e3 hZ hY hX ny nx hq1 hq2 ea eb
  go_enter Tryd.func8, Tryd.ntmps8
  go_wp2
  -- REGION 1
  refine wp_region_held_drew (S := fun _ => True) (by kernel_rfl) ?_ (fun hHeld => ?_)
  · trivial
  refine wpAnyH_take (i := 0) (v := ?_) (take_list rfl) (by kernel_rfl) (by kernel_rfl) (by kernel_rfl) (fun _ _ _ h => h) (Or.inl ⟨by rfl, ?_⟩) (by assumption) ?_
  rotate_left
  · intro w hSw
    try dsimp only at hSw
    first | (go_simp; done) | (go_simp; with_reducible rfl)
  try simp only [Act.put, List.setIfInBounds_toArray, List.set_cons_zero, List.set_cons_succ]
  refine wpAnyH_take (i := 1) (v := ?_) (take_list rfl) (by kernel_rfl) (by kernel_rfl) (by kernel_rfl) (fun _ _ _ h => h) (Or.inl ⟨by rfl, ?_⟩) (by assumption) ?_
  rotate_left
  · intro w hSw
    try dsimp only at hSw
    first | (go_simp; done) | (go_simp; with_reducible rfl)
  try simp only [Act.put, List.setIfInBounds_toArray, List.set_cons_zero, List.set_cons_succ]
  refine wpAnyH_take (i := 2) (v := ?_) (take_list rfl) (by kernel_rfl) (by kernel_rfl) (by kernel_rfl) (fun _ _ _ h => h) (Or.inl ⟨by rfl, ?_⟩) (by assumption) ?_
  rotate_left
  · intro w hSw
    try dsimp only at hSw
    first | (go_simp; done) | (go_simp; with_reducible rfl)
  try simp only [Act.put, List.setIfInBounds_toArray, List.set_cons_zero, List.set_cons_succ]
  refine wpAnyH_take (i := 3) (v := ?_) (take_list rfl) (by kernel_rfl) (by kernel_rfl) (by kernel_rfl) (fun _ _ _ h => h) (Or.inl ⟨by rfl, ?_⟩) (by assumption) ?_
  rotate_left
  · intro w hSw
    try dsimp only at hSw
    first | (go_simp; done) | (go_simp; with_reducible rfl)
  try simp only [Act.put, List.setIfInBounds_toArray, List.set_cons_zero, List.set_cons_succ]
  refine wpAnyH_take (i := 4) (v := ?_) (take_list rfl) (by kernel_rfl) (by kernel_rfl) (by kernel_rfl) (fun _ _ _ h => h) (Or.inl ⟨by rfl, ?_⟩) (by assumption) ?_
  rotate_left
  · intro w hSw
    try dsimp only at hSw
    first | (go_simp; done) | (go_simp; with_reducible rfl)
  try simp only [Act.put, List.setIfInBounds_toArray, List.set_cons_zero, List.set_cons_succ]
  refine wpAnyH_take (i := 5) (v := ?_) (take_list rfl) (by kernel_rfl) (by kernel_rfl) (by kernel_rfl) (fun _ _ _ h => h) (Or.inl ⟨by rfl, ?_⟩) (by assumption) ?_
  rotate_left
  · intro w hSw
    try dsimp only at hSw
    first | (go_simp; done) | (go_simp; with_reducible rfl)
  try simp only [Act.put, List.setIfInBounds_toArray, List.set_cons_zero, List.set_cons_succ]
  refine wpAnyH_ready (rs := [6]) (by kernel_rfl) (by simp) ?_
  refine AllReadyH.cons (take_list rfl) (fun K hK => ?_) ?_
  · skip
    go_simp
    refine hK.out _ _ ?_ (fun hHeld => ?_)
    · try dsimp only
      try trivial
    clear hK K
    refine wpAnyH_ready (rs := [7]) (by kernel_rfl) (by simp) ?_
    refine AllReadyH.cons (take_list rfl) (fun K hK => ?_) ?_
    · skip
      refine step_conv rfl 44 9 (.tmp 17) rfl _ (.string Z) rfl (by first | exact kc | exact kc0 | exact kc2) ?_
      refine hK.out _ _ ?_ (fun hHeld => ?_)
      · try dsimp only
        try trivial
      clear hK K
      refine wpAnyH_take (i := 8) (v := ?_) (take_list rfl) (by kernel_rfl) (by kernel_rfl) (by kernel_rfl) (fun _ _ _ h => h) (Or.inl ⟨by rfl, ?_⟩) (by assumption) ?_
      rotate_left
      · intro w hSw
        try dsimp only at hSw
        first | (go_simp; done) | (go_simp; with_reducible rfl)
      try simp only [Act.put, List.setIfInBounds_toArray, List.set_cons_zero, List.set_cons_succ]
      refine wpAnyH_take (i := 9) (v := ?_) (take_list rfl) (by kernel_rfl) (by kernel_rfl) (by kernel_rfl) (fun _ _ _ h => h) (Or.inl ⟨by rfl, ?_⟩) (by assumption) ?_
      rotate_left
      · intro w hSw
        try dsimp only at hSw
        first | (go_simp; done) | (go_simp; with_reducible rfl)
      try simp only [Act.put, List.setIfInBounds_toArray, List.set_cons_zero, List.set_cons_succ]
      refine wpAnyH_done (by kernel_rfl) ?_ _
      obtain ⟨w1, hw1⟩ : ∃ w1, w1 = (w.alloc (Obj.cells #[Value.int .u8 (x1 : Int), .int .u8 (x2 : Int)] 5)).drew := ⟨_, rfl⟩
      have hb1 : Below w.heap.size w w1 := by rw [hw1]; exact ext_drew ((Below.refl _ _).alloc (Nat.le_refl _) _)
      have Hw1 := Lib.hid hw1
      have Hb1 := Lib.hid hb1
      clear hw1 hb1 kc kc0 kc2
      go_wp2_with fail
      rw [He2.out, ← Hw1.out]
      refine (HPy.out w1 (Ht.out.ext Hb1.out)).mono ?_
      rintro e w2 ⟨⟨ds, he, hr2⟩, hb2⟩
      have h8 := reR_arr hr2
      obtain ⟨u0, u1, u2, u3, u4, u5, u6, u7, hcs⟩ := arr_eight h8.1
      have hcl : ds = [u0, u1, u2, u3, u4, u5, u6, u7] := by have := congrArg Array.toList hcs; simpa using this
      subst hcl
      have he' : e = .returned (.tuple #[.agg #[u0, u1, u2, u3, u4, u5, u6, u7], .int .i64 (ra : Int), .int .i64 0]) := he
      subst he'
      have hone := h8.2
      have Hr2 := Lib.hid hr2
      have Hb2 := Lib.hid (ext_trans Hb1.out hb2)
      clear he hr2 hb2 h8 hcs
      go_wp2_with (refine wpList_store_re rfl _ _ rfl w2.heap.size rfl rfl rfl rfl hone (Blk.new _ _ _) ?_; intro w3 hB3 ho3)
      have hb23 : Below w2.heap.size w2 w3 := ((Below.refl _ _).alloc (Nat.le_refl _) _).trans (ho3.below (fun i hi => Nat.le_of_eq hi.symm) (by simp))
      have Hb3 := Lib.hid (ext_trans Hb2.out hb23)
      have Hr3 := Lib.hid (Hr2.out.ext hb23)
      have HB3 := Lib.hid hB3
      clear hone Hr2 Hb2 hB3 ho3 hb23
      rw [He3.out]
      refine (HPx.out w3 (Ht.out.ext Hb3.out)).mono ?_
      rintro e w4 ⟨⟨ds, he, hr4⟩, hb4⟩
      have h8 := reR_arr hr4
      obtain ⟨v0, v1, v2, v3, v4, v5, v6, v7, hcs⟩ := arr_eight h8.1
      have hcl : ds = [v0, v1, v2, v3, v4, v5, v6, v7] := by have := congrArg Array.toList hcs; simpa using this
      subst hcl
      have he' : e = .returned (.tuple #[.agg #[v0, v1, v2, v3, v4, v5, v6, v7], .int .i64 (qa : Int), .int .i64 0]) := he
      subst he'
      have hone := h8.2
      have Hr4 := Lib.hid hr4
      have Hr34 := Lib.hid (Hr3.out.ext hb4)
      have HB4 := Lib.hid (HB3.out.ext hb4)
      have hR4 := HB4.out.lt
      have Hb4 := Lib.hid (ext_trans Hb3.out hb4)
      clear he hr4 hb4 h8 hcs HB3 Hr3 Hb3
      go_wp2_with (refine wpList_store_re rfl _ _ rfl w4.heap.size rfl rfl rfl rfl hone (Blk.new _ _ _) ?_; intro w5 hB5 ho5; have kt := conv_nb (w5.alloc (Obj.cells #[.int .u8 (b : Int)] 5)) (some ⟨w5.heap.size, 0, none⟩) 1 1 [b] rfl (by simpa using hb) (Rd.lit w5 #[.int .u8 (b : Int)] 5); rw [HS1.out] at kt)
      have hb45 : Below w4.heap.size w4 w5 := ((Below.refl _ _).alloc (Nat.le_refl _) _).trans (ho5.below (fun i hi => Nat.le_of_eq hi.symm) (by simp))
      have hb5a : Below w5.heap.size w5 (w5.alloc (Obj.cells #[Value.int .u8 (b : Int)] 5)) := (Below.refl _ _).alloc (Nat.le_refl _) _
      have HBa5 := Lib.hid (((HB4.out.alloc (Obj.cells #[.int .i64 0, .int .u64 0, .int .u64 0, .int .u64 0, .int .u64 0, .slice none 0 0, .int .i64 0, .int .i64 0] 27)).only ho5 (by omega)).ext hb5a)
      have HBb5 := Lib.hid (hB5.ext hb5a)
      have Hr5 := Lib.hid ((Hr34.out.ext hb45).ext hb5a)
      have Hq5 := Lib.hid ((Hr4.out.ext hb45).ext hb5a)
      have Hb5 := Lib.hid (ext_trans (ext_trans Hb4.out hb45) hb5a)
      clear hone hB5 ho5 kt hb45 hb5a HB4 Hr4 Hr34 hR4 Hb4
      refine (HTx.out _).mono ?_
      rintro e w6 ⟨ds, rfl, hr6, hb6⟩
      have h8 := reR_arr hr6
      obtain ⟨t0, t1, t2, t3, t4, t5, t6, t7, hcs⟩ := arr_eight h8.1
      have hcl : ds = [t0, t1, t2, t3, t4, t5, t6, t7] := by have := congrArg Array.toList hcs; simpa using this
      subst hcl
      have hone := h8.2
      have Hr6 := Lib.hid hr6
      have HBa6 := Lib.hid (HBa5.out.ext hb6)
      have HBb6 := Lib.hid (HBb5.out.ext hb6)
      have hRa := HBa6.out.lt
      have hRb := HBb6.out.lt
      have Hp6 := Lib.hid (Hr5.out.ext hb6)
      have Hq6 := Lib.hid (Hq5.out.ext hb6)
      have Hb6 := Lib.hid (ext_trans Hb5.out hb6)
      clear hr6 hb6 h8 hcs HBa5 HBb5 Hr5 Hq5 Hb5
      simp only [reV]
      go_wp2_with (refine wpList_store_re rfl _ _ rfl w6.heap.size rfl rfl rfl rfl hone (Blk.new _ _ _) ?_; intro w7 hB7 ho7; have f0 := hB7.cell 0; have f1 := hB7.cell 1; have f2 := hB7.cell 2; have f3 := hB7.cell 3; have f4 := hB7.cell 4; have f5 := hB7.cell 5; have f6 := hB7.cell 6; have f7 := hB7.cell 7; have hBa7 := (HBa6.out.alloc (Obj.cells #[.int .i64 0, .int .u64 0, .int .u64 0, .int .u64 0, .int .u64 0, .slice none 0 0, .int .i64 0, .int .i64 0] 27)).only ho7 (by omega); have c0 := hBa7.cell 0; have c1 := hBa7.cell 1; have c2 := hBa7.cell 2; have c3 := hBa7.cell 3; have c4 := hBa7.cell 4; have c5 := hBa7.cell 5; have c6 := hBa7.cell 6; have c7 := hBa7.cell 7; have hBb7 := (HBb6.out.alloc (Obj.cells #[.int .i64 0, .int .u64 0, .int .u64 0, .int .u64 0, .int .u64 0, .slice none 0 0, .int .i64 0, .int .i64 0] 27)).only ho7 (by omega))
      have hb67 : Below w6.heap.size w6 w7 := ((Below.refl _ _).alloc (Nat.le_refl _) _).trans (ho7.below (fun i hi => Nat.le_of_eq hi.symm) (by simp))
      have HBt := Lib.hid hB7
      have HBb := Lib.hid hBb7
      have Hb7 := Lib.hid (ext_trans Hb6.out hb67)
      have Ht7 := Lib.hid (Hr6.out.ext hb67)
      have Hp7 := Lib.hid (Hp6.out.ext hb67)
      have Hq7 := Lib.hid (Hq6.out.ext hb67)
      clear hone hB7 ho7 hBa7 hBb7 hb67 HBa6 HBb6 Hp6 Hq6 Hr6 Hb6 hRa hRb c0 c1 c2 c3 c4 c5 c6 c7 f0 f1 f2 f3 f4 f5 f6 f7
      have hS := rsame_any _ _ r (textX [b]) _ _ w7 Hp7.out Ht7.out HS3.out
      rw [HS.out] at hS
      refine hS.mono ?_
      rintro e w8 ⟨rfl, hb8⟩
      have hBt8 := HBt.out.ext hb8
      have hBb8 := HBb.out.ext hb8
      have f0 := hBt8.cell 0
      have f1 := hBt8.cell 1
      have f2 := hBt8.cell 2
      have f3 := hBt8.cell 3
      have f4 := hBt8.cell 4
      have f5 := hBt8.cell 5
      have f6 := hBt8.cell 6
      have f7 := hBt8.cell 7
      have c0 := hBb8.cell 0
      have c1 := hBb8.cell 1
      have c2 := hBb8.cell 2
      have c3 := hBb8.cell 3
      have c4 := hBb8.cell 4
      have c5 := hBb8.cell 5
      have c6 := hBb8.cell 6
      have c7 := hBb8.cell 7
      have Hb8 := Lib.hid (ext_trans Hb7.out hb8)
      have Ht8 := Lib.hid (Ht7.out.ext hb8)
      have Hq8 := Lib.hid (Hq7.out.ext hb8)
      clear hS hb8 hBt8 hBb8 Hp7 Ht7 Hq7 Hb7
      go_wp2_with fail
      clear c0 c1 c2 c3 c4 c5 c6 c7 f0 f1 f2 f3 f4 f5 f6 f7
      have hS := rsame_any _ _ q (textX [b]) _ _ w8 Hq8.out Ht8.out HU3.out
      rw [HU.out] at hS
      refine hS.mono ?_
      rintro e w9 ⟨rfl, hb9⟩
      have Hb9 := Lib.hid (ext_trans Hb8.out hb9)
      clear hS hb9
      go_wp2_with fail
      refine (known_any w9 (Ht.out.ext Hb9.out)).mono ?_
      rintro e w10 ⟨rfl, hb10⟩
      go_wp2
      go_ret
      exact ⟨rfl, ext_trans Hb9.out hb10⟩
    exact AllReadyH.nil
  exact AllReadyH.nil
  -- BEHIND
end Go.Proofs.YtmggajpecgnjkaaDoor

/-
  RegexTimes: what texts of times are parsed as. No statement of the seat is proved here.
-/
namespace Go.Proofs.YtmggajpecgnjkaaDoor
set_option maxRecDepth 100000

/-- an expression's kind, least, most, how many kids -/
def headE : Ex → Int × Int × Int × Nat
  | .mk k _ ks lo hi => (k, lo, hi, ks.length)
def tmOk (l : List Nat) (low want : Int) : Bool :=
  let P := parseE l
  if low ≤ 32 ∧ (want = -1 ∨ (1 ≤ want ∧ want ≤ 32 ∧ low ≤ want)) then decide (P.2.2 = 0 ∧ headE P.1 = (4, low, want, 1)) else decide (P.2 = (l.length - 1, 2) ∧ headE P.1 = (0, 0, 0, 0)) && sameE P.1 emptyE
theorem tm_one : ∀ a : Fin 100, tmOk ([97, 123] ++ twoB a.val ++ [125]) a.val a.val = true ∧ tmOk ([97, 123] ++ twoB a.val ++ [44, 125]) a.val (-1) = true := by decide +kernel
theorem tm_two : ∀ a b : Fin 100, a ≠ b → tmOk ([97, 123] ++ twoB a.val ++ [44] ++ twoB b.val ++ [125]) a.val b.val = true := by decide +kernel
end Go.Proofs.YtmggajpecgnjkaaDoor

/-
  Contract of the law's own two (winnowerlaw6.two). No statement of the seat is proved here.
-/
namespace Go.Proofs.YtmggajpecgnjkaaDoor
open Go Go.RowKit
set_option maxRecDepth 100000

set_option maxHeartbeats 1000000 in
theorem ltwo_any (n : Nat) (hn : n < 100) (w : World) : Calls Tryd.prog 32 #[.int .i64 (n : Int)] w fun e w' => e = .returned (.string (bsN (twoB n))) ∧ Below w.heap.size w w' := by
  unfold twoB
  rcases Nat.lt_or_ge n 10 with h | h
  · have hi : (n : Int) < 10 := by omega
    rw [if_pos h]
    have kc := conv_nb (w.alloc (Obj.cells #[.int .u8 ((48 + n : Nat) : Int)] 5)) (some ⟨w.heap.size, 0, none⟩) 1 1 [48 + n] rfl (by simp; omega) (Rd.lit w #[.int .u8 ((48 + n : Nat) : Int)] 5)
    rw [show ((48 + n : Nat) : Int) = 48 + (n : Int) by omega] at kc
    generalize bsN [48 + n] = Z at kc ⊢
    go_enter Tryd.func32, Tryd.ntmps32
    go_wp2
    go_ret
    exact ⟨rfl, (Below.refl _ _).alloc (Nat.le_refl _) _⟩
  · have hi : (10 : Int) ≤ (n : Int) := by omega
    have hd := divi n
    have hm := modi n
    rw [if_neg (by omega)]
    have ha16 : n / 10 < 10 := by omega
    have hb16 : n % 10 < 10 := by omega
    generalize n / 10 = a at hd ha16 ⊢
    generalize n % 10 = b at hm hb16 ⊢
    have kc := conv_nb (w.alloc (Obj.cells #[.int .u8 ((48 + a : Nat) : Int), .int .u8 ((48 + b : Nat) : Int)] 5)) (some ⟨w.heap.size, 0, none⟩) 2 2 [48 + a, 48 + b] rfl (by simp; omega) (Rd.lit w #[.int .u8 ((48 + a : Nat) : Int), .int .u8 ((48 + b : Nat) : Int)] 5)
    rw [show ((48 + a : Nat) : Int) = 48 + (a : Int) by omega, show ((48 + b : Nat) : Int) = 48 + (b : Int) by omega] at kc
    generalize bsN [48 + a, 48 + b] = Z at kc ⊢
    go_enter Tryd.func32, Tryd.ntmps32
    go_wp2
    go_ret
    exact ⟨rfl, (Below.refl _ _).alloc (Nat.le_refl _) _⟩
end Go.Proofs.YtmggajpecgnjkaaDoor

/-
  RegexTimes, its walk: signs of times. No statement of the seat is proved here (RegexTimes closes it).
-/
namespace Go.Proofs.YtmggajpecgnjkaaDoor
open Go Go.ChangeShapes Go.WideShapes Go.ChangeAt Go.RowKit
set_option maxRecDepth 100000

theorem tm_may {l : List Nat} {low want : Int} (h : tmOk l low want = true) (hm : low ≤ 32 ∧ (want = -1 ∨ (1 ≤ want ∧ want ≤ 32 ∧ low ≤ want))) : ∃ s ks a, parseE l = (.mk 4 s ks low want, a, 0) ∧ ks.length = 1 := by
  unfold tmOk at h
  obtain ⟨R, hR⟩ : ∃ R, parseE l = R := ⟨_, rfl⟩
  rw [hR] at h ⊢
  obtain ⟨⟨k, s, ks, lo, hi⟩, a, e⟩ := R
  simp only [if_pos hm, decide_eq_true_eq, headE, Prod.mk.injEq] at h
  obtain ⟨rfl, rfl, rfl, rfl, hk⟩ := h
  exact ⟨s, ks, a, rfl, hk⟩
theorem tm_not {l : List Nat} {low want : Int} (h : tmOk l low want = true) (hm : ¬ (low ≤ 32 ∧ (want = -1 ∨ (1 ≤ want ∧ want ≤ 32 ∧ low ≤ want)))) : parseE l = (emptyE, l.length - 1, 2) := by
  unfold tmOk at h
  obtain ⟨R, hR⟩ : ∃ R, parseE l = R := ⟨_, rfl⟩
  rw [hR] at h ⊢
  obtain ⟨x, a, e⟩ := R
  simp only [if_neg hm, Bool.and_eq_true, decide_eq_true_eq, Prod.mk.injEq] at h
  obtain ⟨⟨⟨rfl, rfl⟩, _⟩, h2⟩ := h
  rw [(sameE_iff _ _).1 h2]
theorem twoB_le2 (n : Nat) : (twoB n).length ≤ 2 := by unfold twoB; split <;> simp
theorem twoB_lt256 {n : Nat} (h : n < 100) : ∀ b ∈ twoB n, b < 256 := by
  intro b hb
  unfold twoB at hb
  split at hb
  · simp at hb; omega
  · simp at hb; omega

set_option maxHeartbeats 1000000 in
theorem times_open (a b : Nat) (ha : a < 100) (hb : b < 100) (w : World) (ht : Tab w) :
    Calls Tryd.prog 9 #[.int .i64 (a : Int), .int .i64 (b : Int), .bool true] w fun e w' => e = .returned (.bool true) ∧ Below w.heap.size w w' := by
  have ha0 : ¬ ((a : Int) < 0) := by omega
  have ha1 : ¬ (99 < (a : Int)) := by omega
  have hb0 : ¬ ((b : Int) < 0) := by omega
  have hb1 : ¬ (99 < (b : Int)) := by omega
  have hTm := (tm_one ⟨a, ha⟩).2
  simp only at hTm
  have hlt : ∀ x ∈ [97, 123] ++ twoB a ++ [44, 125], x < 256 := by
    intro x hx
    have h1 := twoB_lt256 (n := a) (by omega)
    have h2 := twoB_lt256 (n := b) (by omega)
    simp only [List.mem_append, List.mem_cons, List.not_mem_nil, or_false] at hx
    rcases hx with (hx | hx) | hx
    · omega
    · exact h1 _ hx
    · omega
  have hnY := nats_bsN hlt
  have hsY := bsN_size ([97, 123] ++ twoB a ++ [44, 125])
  have hll : ([97, 123] ++ twoB a ++ [44, 125]).length ≤ 9 := by have := twoB_le2 a; have := twoB_le2 b; simp only [List.length_append, List.length_cons, List.length_nil]; omega
  obtain ⟨L, hL⟩ : ∃ L, ([97, 123] ++ twoB a ++ [44, 125]).length = L := ⟨_, rfl⟩
  have hL1 : 1 ≤ L := by rw [← hL]; simp only [List.length_append, List.length_cons, List.length_nil]; omega
  rw [hL] at hsY hll
  obtain ⟨Y, hY⟩ : ∃ Y, bsN ([97, 123] ++ twoB a ++ [44, 125]) = Y := ⟨_, rfl⟩
  obtain ⟨Z, hZ⟩ : ∃ Z, bsN (twoB a) = Z := ⟨_, rfl⟩
  have HZ : Hid (∀ W, Calls Tryd.prog 32 #[.int .i64 (a : Int)] W fun e w' => e = .returned (.string Z) ∧ Below W.heap.size W w') := Lib.hid fun W => by
    have := ltwo_any a (by omega) W
    rwa [hZ] at this
  have hsZ : Z.size ≤ 2 := by rw [← hZ, bsN_size]; exact twoB_le2 a
  have e2 : (⟨#[97, 123]⟩ : ByteArray) ++ Z ++ (⟨#[44, 125]⟩ : ByteArray) = Y := by
    rw [← hY, ← hZ, ← bsN_append, ← bsN_append]; rfl
  have He := Lib.hid e2
  clear e2 hZ
  rw [hY] at hnY hsY
  have HP : Hid (∀ W, Tab W → Calls Tryd.prog 16 #[.string Y] W fun e w' => ParseAns W.heap.size (parseE ([97, 123] ++ twoB a ++ [44, 125])) e w' ∧ Below W.heap.size W w') := Lib.hid fun W hW => by
    have := parse_any Y (by omega) W hW
    rwa [hnY] at this
  have Ht := Lib.hid ht
  have HTm := Lib.hid hTm
  have HL := Lib.hid hL
  have hyl : Y.size ≤ 9 := by omega
  have hy1 : 1 ≤ Y.size := by omega
  have HsY := Lib.hid hsY
  clear ht hTm hL hlt hnY hsY hY hll hL1
  go_enter Tryd.func9, Tryd.ntmps9
  go_wp2_with fail
  refine (HZ.out _).mono ?_
  rintro e w1 ⟨rfl, hb1'⟩
  have Hb1 := Lib.hid hb1'
  clear hb1'
  go_wp2_with fail
  refine (HZ.out _).mono ?_
  rintro e w2 ⟨rfl, hb2'⟩
  have Hb3 := Lib.hid (ext_trans Hb1.out hb2')
  clear hb2'
  go_wp2_with fail
  rw [He.out]
  by_cases hm : ((a : Int) ≤ 32 ∧ ((-1 : Int) = -1 ∨ (1 ≤ (-1 : Int) ∧ (-1 : Int) ≤ 32 ∧ (a : Int) ≤ (-1 : Int))))
  · have h32 : (a : Int) ≤ 32 := hm.1
    clear hm
    go_wp2_with fail
    obtain ⟨s0, ks0, a0, hPE, hkl⟩ := tm_may HTm.out ⟨h32, .inl rfl⟩
    have HPE := Lib.hid hPE
    clear hPE
    have HP' := HP.out
    rw [HPE.out] at HP'
    have HP2 := Lib.hid HP'
    clear HP' HP
    refine (HP2.out _ (Ht.out.ext Hb3.out)).mono ?_
    rintro e w4 ⟨⟨ds, he, hr4⟩, hb4⟩
    obtain ⟨k, p0, p1, p2, p3, ks, A, c, lo, hi, hte, rfl, h1, h2, -, -, -, -, -⟩ := hr4.fields
    obtain ⟨rfl, -, rfl, rfl, rfl⟩ := Ex.mk.inj hte
    rw [hkl] at he
    have he' : e = .returned (.tuple #[.agg #[.int .i64 4, .int .u64 (p0 : Int), .int .u64 (p1 : Int), .int .u64 (p2 : Int), .int .u64 (p3 : Int), .slice A 1 c, .int .i64 (a : Int), .int .i64 (-1)], .int .i64 (a0 : Int), .int .i64 0]) := he
    subst he'
    have hone : (#[.int .i64 4, .int .u64 (p0 : Int), .int .u64 (p1 : Int), .int .u64 (p2 : Int), .int .u64 (p3 : Int), .slice A 1 c, .int .i64 (a : Int), .int .i64 (-1)] : Array Value).all (·.oneCell') = true := by simp [Value.oneCell']
    have Hb4 := Lib.hid (ext_trans Hb3.out hb4)
    clear he hr4 hb4 hte h1 h2 hkl
    go_wp2_with (have hh := hone; clear hone; refine wpList_store_re rfl _ _ rfl w4.heap.size rfl rfl rfl rfl hh (Blk.new _ _ _) ?_; intro w5 hB5 ho5; have c0 := hB5.cell 0; have c1 := hB5.cell 1; have c2 := hB5.cell 2; have c3 := hB5.cell 3; have c4 := hB5.cell 4; have c5 := hB5.cell 5; have c6 := hB5.cell 6; have c7 := hB5.cell 7)
    have hb45 : Below w4.heap.size w4 w5 := ((Below.refl _ _).alloc (Nat.le_refl _) _).trans (ho5.below (fun i hi => Nat.le_of_eq hi.symm) (by simp))
    have Hb5 := Lib.hid (ext_trans Hb4.out hb45)
    clear hb45 ho5 hB5 c0 c1 c2 c3 c4 c5 c6 c7
    refine (known_any w5 (Ht.out.ext Hb5.out)).mono ?_
    rintro e w6 ⟨rfl, hb6⟩
    go_wp2
    go_ret
    exact ⟨rfl, ext_trans Hb5.out hb6⟩
  · have h32 : 32 < (a : Int) := by omega
    clear hm
    go_wp2_with fail
    have hPE := tm_not HTm.out (fun h => by have := h.1; omega)
    have HPE := Lib.hid hPE
    clear hPE
    have HP' := HP.out
    rw [HPE.out] at HP'
    have HP2 := Lib.hid HP'
    clear HP' HP
    refine (HP2.out _ (Ht.out.ext Hb3.out)).mono ?_
    rintro e w4 ⟨⟨ds, he, hr4⟩, hb4⟩
    have h8 := reR_arr hr4
    obtain ⟨u0, u1, u2, u3, u4, u5, u6, u7, hcs⟩ := arr_eight h8.1
    have hcl : ds = [u0, u1, u2, u3, u4, u5, u6, u7] := by have := congrArg Array.toList hcs; simpa using this
    subst hcl
    have he' : e = .returned (.tuple #[.agg #[u0, u1, u2, u3, u4, u5, u6, u7], .int .i64 ((L - 1 : Nat) : Int), .int .i64 2]) := by rw [← HL.out]; exact he
    subst he'
    have hone := h8.2
    have hL1 : ((L - 1 : Nat) : Int) = (Y.size : Int) - 1 := by have := HsY.out; omega
    rw [hL1]
    have Hr4 := Lib.hid hr4
    have Hb4 := Lib.hid (ext_trans Hb3.out hb4)
    clear he hr4 hb4 h8 hcs hL1
    go_wp2_with (have hh := hone; clear hone; refine wpList_store_re rfl _ _ rfl w4.heap.size rfl rfl rfl rfl hh (Blk.new _ _ _) ?_; intro w5 hB5 ho5; have c0 := hB5.cell 0; have c1 := hB5.cell 1; have c2 := hB5.cell 2; have c3 := hB5.cell 3; have c4 := hB5.cell 4; have c5 := hB5.cell 5; have c6 := hB5.cell 6; have c7 := hB5.cell 7)
    have hb45 : Below w4.heap.size w4 w5 := ((Below.refl _ _).alloc (Nat.le_refl _) _).trans (ho5.below (fun i hi => Nat.le_of_eq hi.symm) (by simp))
    have Hb5 := Lib.hid (ext_trans Hb4.out hb45)
    have hsame := rsame_any _ (fun _ => True) emptyE emptyE _ _ w5 (Hr4.out.ext hb45) (reR_leaf w5 (by unfold isInt; omega) zero_ok : ReR (fun _ => True) w5 emptyE [.int .i64 0, .int .u64 0, .int .u64 0, .int .u64 0, .int .u64 0, .slice none 0 0, .int .i64 0, .int .i64 0]) (by decide)
    rw [(sameE_iff emptyE emptyE).2 rfl] at hsame
    clear hb45 ho5 hB5 c0 c1 c2 c3 c4 c5 c6 c7 Hr4
    refine hsame.mono ?_
    rintro e w6 ⟨rfl, hb6⟩
    have Hb6 := Lib.hid (ext_trans Hb5.out hb6)
    clear hsame hb6
    go_wp2_with fail
    refine (known_any w6 (Ht.out.ext Hb6.out)).mono ?_
    rintro e w7 ⟨rfl, hb7⟩
    go_wp2
    go_ret
    exact ⟨rfl, ext_trans Hb6.out hb7⟩

set_option maxHeartbeats 1000000 in
theorem times_two (a b : Nat) (ha : a < 100) (hb : b < 100) (hab : a ≠ b) (w : World) (ht : Tab w) :
    Calls Tryd.prog 9 #[.int .i64 (a : Int), .int .i64 (b : Int), .bool false] w fun e w' => e = .returned (.bool true) ∧ Below w.heap.size w w' := by
  have ha0 : ¬ ((a : Int) < 0) := by omega
  have ha1 : ¬ (99 < (a : Int)) := by omega
  have hb0 : ¬ ((b : Int) < 0) := by omega
  have hb1 : ¬ (99 < (b : Int)) := by omega
  have hTm := tm_two ⟨a, ha⟩ ⟨b, hb⟩ (by simpa [Fin.ext_iff] using hab)
  simp only at hTm
  have hne : ((b : Int) != (a : Int)) = true := by rw [bne_iff_ne]; omega
  have hlt : ∀ x ∈ [97, 123] ++ twoB a ++ [44] ++ twoB b ++ [125], x < 256 := by
    intro x hx
    have h1 := twoB_lt256 (n := a) (by omega)
    have h2 := twoB_lt256 (n := b) (by omega)
    simp only [List.mem_append, List.mem_cons, List.not_mem_nil, or_false] at hx
    rcases hx with (((hx | hx) | hx) | hx) | hx
    · omega
    · exact h1 _ hx
    · omega
    · exact h2 _ hx
    · omega
  have hnY := nats_bsN hlt
  have hsY := bsN_size ([97, 123] ++ twoB a ++ [44] ++ twoB b ++ [125])
  have hll : ([97, 123] ++ twoB a ++ [44] ++ twoB b ++ [125]).length ≤ 9 := by have := twoB_le2 a; have := twoB_le2 b; simp only [List.length_append, List.length_cons, List.length_nil]; omega
  obtain ⟨L, hL⟩ : ∃ L, ([97, 123] ++ twoB a ++ [44] ++ twoB b ++ [125]).length = L := ⟨_, rfl⟩
  have hL1 : 1 ≤ L := by rw [← hL]; simp only [List.length_append, List.length_cons, List.length_nil]; omega
  rw [hL] at hsY hll
  obtain ⟨Y, hY⟩ : ∃ Y, bsN ([97, 123] ++ twoB a ++ [44] ++ twoB b ++ [125]) = Y := ⟨_, rfl⟩
  obtain ⟨Z, hZ⟩ : ∃ Z, bsN (twoB a) = Z := ⟨_, rfl⟩
  have HZ : Hid (∀ W, Calls Tryd.prog 32 #[.int .i64 (a : Int)] W fun e w' => e = .returned (.string Z) ∧ Below W.heap.size W w') := Lib.hid fun W => by
    have := ltwo_any a (by omega) W
    rwa [hZ] at this
  have hsZ : Z.size ≤ 2 := by rw [← hZ, bsN_size]; exact twoB_le2 a
  obtain ⟨X, hX⟩ : ∃ X, bsN (twoB b) = X := ⟨_, rfl⟩
  have HX : Hid (∀ W, Calls Tryd.prog 32 #[.int .i64 (b : Int)] W fun e w' => e = .returned (.string X) ∧ Below W.heap.size W w') := Lib.hid fun W => by
    have := ltwo_any b (by omega) W
    rwa [hX] at this
  have hsX : X.size ≤ 2 := by rw [← hX, bsN_size]; exact twoB_le2 b
  have e2 : (⟨#[97, 123]⟩ : ByteArray) ++ Z ++ (⟨#[44]⟩ : ByteArray) ++ X ++ (⟨#[125]⟩ : ByteArray) = Y := by
    rw [← hY, ← hZ, ← hX, ← bsN_append, ← bsN_append, ← bsN_append, ← bsN_append]; rfl
  have He := Lib.hid e2
  clear e2 hZ hX hab
  rw [hY] at hnY hsY
  have HP : Hid (∀ W, Tab W → Calls Tryd.prog 16 #[.string Y] W fun e w' => ParseAns W.heap.size (parseE ([97, 123] ++ twoB a ++ [44] ++ twoB b ++ [125])) e w' ∧ Below W.heap.size W w') := Lib.hid fun W hW => by
    have := parse_any Y (by omega) W hW
    rwa [hnY] at this
  have Ht := Lib.hid ht
  have HTm := Lib.hid hTm
  have HL := Lib.hid hL
  have hyl : Y.size ≤ 9 := by omega
  have hy1 : 1 ≤ Y.size := by omega
  have HsY := Lib.hid hsY
  clear ht hTm hL hlt hnY hsY hY hll hL1
  go_enter Tryd.func9, Tryd.ntmps9
  go_wp2_with fail
  refine (HZ.out _).mono ?_
  rintro e w1 ⟨rfl, hb1'⟩
  have Hb1 := Lib.hid hb1'
  clear hb1'
  go_wp2_with fail
  refine (HZ.out _).mono ?_
  rintro e w2 ⟨rfl, hb2'⟩
  have Hb2 := Lib.hid (ext_trans Hb1.out hb2')
  clear hb2'
  go_wp2_with fail
  refine (HX.out _).mono ?_
  rintro e w3 ⟨rfl, hb3'⟩
  have Hb3 := Lib.hid (ext_trans Hb2.out hb3')
  clear hb3'
  go_wp2_with fail
  rw [He.out]
  by_cases hm : ((a : Int) ≤ 32 ∧ ((b : Int) = -1 ∨ (1 ≤ (b : Int) ∧ (b : Int) ≤ 32 ∧ (a : Int) ≤ (b : Int))))
  · have h32 : (a : Int) ≤ 32 := hm.1
    have g1 : 1 ≤ (b : Int) := by omega
    have g2 : (b : Int) ≤ 32 := by omega
    have g3 : (a : Int) ≤ (b : Int) := by omega
    have g4 : ((b : Int) == -1) = false := by rw [beq_eq_false_iff_ne]; omega
    have hm := Lib.hid hm
    go_wp2_with fail
    obtain ⟨s0, ks0, a0, hPE, hkl⟩ := tm_may HTm.out hm.out
    have HPE := Lib.hid hPE
    clear hPE
    have HP' := HP.out
    rw [HPE.out] at HP'
    have HP2 := Lib.hid HP'
    clear HP' HP
    refine (HP2.out _ (Ht.out.ext Hb3.out)).mono ?_
    rintro e w4 ⟨⟨ds, he, hr4⟩, hb4⟩
    obtain ⟨k, p0, p1, p2, p3, ks, A, c, lo, hi, hte, rfl, h1, h2, -, -, -, -, -⟩ := hr4.fields
    obtain ⟨rfl, -, rfl, rfl, rfl⟩ := Ex.mk.inj hte
    rw [hkl] at he
    have he' : e = .returned (.tuple #[.agg #[.int .i64 4, .int .u64 (p0 : Int), .int .u64 (p1 : Int), .int .u64 (p2 : Int), .int .u64 (p3 : Int), .slice A 1 c, .int .i64 (a : Int), .int .i64 (b : Int)], .int .i64 (a0 : Int), .int .i64 0]) := he
    subst he'
    have hone : (#[.int .i64 4, .int .u64 (p0 : Int), .int .u64 (p1 : Int), .int .u64 (p2 : Int), .int .u64 (p3 : Int), .slice A 1 c, .int .i64 (a : Int), .int .i64 (b : Int)] : Array Value).all (·.oneCell') = true := by simp [Value.oneCell']
    have Hb4 := Lib.hid (ext_trans Hb3.out hb4)
    clear he hr4 hb4 hte h1 h2 hkl
    go_wp2_with (have hh := hone; clear hone; refine wpList_store_re rfl _ _ rfl w4.heap.size rfl rfl rfl rfl hh (Blk.new _ _ _) ?_; intro w5 hB5 ho5; have c0 := hB5.cell 0; have c1 := hB5.cell 1; have c2 := hB5.cell 2; have c3 := hB5.cell 3; have c4 := hB5.cell 4; have c5 := hB5.cell 5; have c6 := hB5.cell 6; have c7 := hB5.cell 7)
    have hb45 : Below w4.heap.size w4 w5 := ((Below.refl _ _).alloc (Nat.le_refl _) _).trans (ho5.below (fun i hi => Nat.le_of_eq hi.symm) (by simp))
    have Hb5 := Lib.hid (ext_trans Hb4.out hb45)
    clear hb45 ho5 hB5 c0 c1 c2 c3 c4 c5 c6 c7
    refine (known_any w5 (Ht.out.ext Hb5.out)).mono ?_
    rintro e w6 ⟨rfl, hb6⟩
    go_wp2
    go_ret
    exact ⟨rfl, ext_trans Hb5.out hb6⟩
  · have g4 : ((b : Int) == -1) = false := by rw [beq_eq_false_iff_ne]; omega
    by_cases r1 : 32 < (a : Int)
    · have hm := Lib.hid hm
      go_wp2_with fail
      have hPE := tm_not HTm.out hm.out
      have HPE := Lib.hid hPE
      clear hPE
      have HP' := HP.out
      rw [HPE.out] at HP'
      have HP2 := Lib.hid HP'
      clear HP' HP
      refine (HP2.out _ (Ht.out.ext Hb3.out)).mono ?_
      rintro e w4 ⟨⟨ds, he, hr4⟩, hb4⟩
      have h8 := reR_arr hr4
      obtain ⟨u0, u1, u2, u3, u4, u5, u6, u7, hcs⟩ := arr_eight h8.1
      have hcl : ds = [u0, u1, u2, u3, u4, u5, u6, u7] := by have := congrArg Array.toList hcs; simpa using this
      subst hcl
      have he' : e = .returned (.tuple #[.agg #[u0, u1, u2, u3, u4, u5, u6, u7], .int .i64 ((L - 1 : Nat) : Int), .int .i64 2]) := by rw [← HL.out]; exact he
      subst he'
      have hone := h8.2
      have hL1 : ((L - 1 : Nat) : Int) = (Y.size : Int) - 1 := by have := HsY.out; omega
      rw [hL1]
      have Hr4 := Lib.hid hr4
      have Hb4 := Lib.hid (ext_trans Hb3.out hb4)
      clear he hr4 hb4 h8 hcs hL1
      go_wp2_with (have hh := hone; clear hone; refine wpList_store_re rfl _ _ rfl w4.heap.size rfl rfl rfl rfl hh (Blk.new _ _ _) ?_; intro w5 hB5 ho5; have c0 := hB5.cell 0; have c1 := hB5.cell 1; have c2 := hB5.cell 2; have c3 := hB5.cell 3; have c4 := hB5.cell 4; have c5 := hB5.cell 5; have c6 := hB5.cell 6; have c7 := hB5.cell 7)
      have hb45 : Below w4.heap.size w4 w5 := ((Below.refl _ _).alloc (Nat.le_refl _) _).trans (ho5.below (fun i hi => Nat.le_of_eq hi.symm) (by simp))
      have Hb5 := Lib.hid (ext_trans Hb4.out hb45)
      have hsame := rsame_any _ (fun _ => True) emptyE emptyE _ _ w5 (Hr4.out.ext hb45) (reR_leaf w5 (by unfold isInt; omega) zero_ok : ReR (fun _ => True) w5 emptyE [.int .i64 0, .int .u64 0, .int .u64 0, .int .u64 0, .int .u64 0, .slice none 0 0, .int .i64 0, .int .i64 0]) (by decide)
      rw [(sameE_iff emptyE emptyE).2 rfl] at hsame
      clear hb45 ho5 hB5 c0 c1 c2 c3 c4 c5 c6 c7 Hr4
      refine hsame.mono ?_
      rintro e w6 ⟨rfl, hb6⟩
      have Hb6 := Lib.hid (ext_trans Hb5.out hb6)
      clear hsame hb6
      go_wp2_with fail
      refine (known_any w6 (Ht.out.ext Hb6.out)).mono ?_
      rintro e w7 ⟨rfl, hb7⟩
      go_wp2
      go_ret
      exact ⟨rfl, ext_trans Hb6.out hb7⟩
    have r1 : (a : Int) ≤ 32 := by omega
    by_cases r2 : (b : Int) < 1
    · have r2 : ¬ (1 ≤ (b : Int)) := by omega
      have hm := Lib.hid hm
      go_wp2_with fail
      have hPE := tm_not HTm.out hm.out
      have HPE := Lib.hid hPE
      clear hPE
      have HP' := HP.out
      rw [HPE.out] at HP'
      have HP2 := Lib.hid HP'
      clear HP' HP
      refine (HP2.out _ (Ht.out.ext Hb3.out)).mono ?_
      rintro e w4 ⟨⟨ds, he, hr4⟩, hb4⟩
      have h8 := reR_arr hr4
      obtain ⟨u0, u1, u2, u3, u4, u5, u6, u7, hcs⟩ := arr_eight h8.1
      have hcl : ds = [u0, u1, u2, u3, u4, u5, u6, u7] := by have := congrArg Array.toList hcs; simpa using this
      subst hcl
      have he' : e = .returned (.tuple #[.agg #[u0, u1, u2, u3, u4, u5, u6, u7], .int .i64 ((L - 1 : Nat) : Int), .int .i64 2]) := by rw [← HL.out]; exact he
      subst he'
      have hone := h8.2
      have hL1 : ((L - 1 : Nat) : Int) = (Y.size : Int) - 1 := by have := HsY.out; omega
      rw [hL1]
      have Hr4 := Lib.hid hr4
      have Hb4 := Lib.hid (ext_trans Hb3.out hb4)
      clear he hr4 hb4 h8 hcs hL1
      go_wp2_with (have hh := hone; clear hone; refine wpList_store_re rfl _ _ rfl w4.heap.size rfl rfl rfl rfl hh (Blk.new _ _ _) ?_; intro w5 hB5 ho5; have c0 := hB5.cell 0; have c1 := hB5.cell 1; have c2 := hB5.cell 2; have c3 := hB5.cell 3; have c4 := hB5.cell 4; have c5 := hB5.cell 5; have c6 := hB5.cell 6; have c7 := hB5.cell 7)
      have hb45 : Below w4.heap.size w4 w5 := ((Below.refl _ _).alloc (Nat.le_refl _) _).trans (ho5.below (fun i hi => Nat.le_of_eq hi.symm) (by simp))
      have Hb5 := Lib.hid (ext_trans Hb4.out hb45)
      have hsame := rsame_any _ (fun _ => True) emptyE emptyE _ _ w5 (Hr4.out.ext hb45) (reR_leaf w5 (by unfold isInt; omega) zero_ok : ReR (fun _ => True) w5 emptyE [.int .i64 0, .int .u64 0, .int .u64 0, .int .u64 0, .int .u64 0, .slice none 0 0, .int .i64 0, .int .i64 0]) (by decide)
      rw [(sameE_iff emptyE emptyE).2 rfl] at hsame
      clear hb45 ho5 hB5 c0 c1 c2 c3 c4 c5 c6 c7 Hr4
      refine hsame.mono ?_
      rintro e w6 ⟨rfl, hb6⟩
      have Hb6 := Lib.hid (ext_trans Hb5.out hb6)
      clear hsame hb6
      go_wp2_with fail
      refine (known_any w6 (Ht.out.ext Hb6.out)).mono ?_
      rintro e w7 ⟨rfl, hb7⟩
      go_wp2
      go_ret
      exact ⟨rfl, ext_trans Hb6.out hb7⟩
    have r2 : 1 ≤ (b : Int) := by omega
    by_cases r3 : 32 < (b : Int)
    · have hm := Lib.hid hm
      go_wp2_with fail
      have hPE := tm_not HTm.out hm.out
      have HPE := Lib.hid hPE
      clear hPE
      have HP' := HP.out
      rw [HPE.out] at HP'
      have HP2 := Lib.hid HP'
      clear HP' HP
      refine (HP2.out _ (Ht.out.ext Hb3.out)).mono ?_
      rintro e w4 ⟨⟨ds, he, hr4⟩, hb4⟩
      have h8 := reR_arr hr4
      obtain ⟨u0, u1, u2, u3, u4, u5, u6, u7, hcs⟩ := arr_eight h8.1
      have hcl : ds = [u0, u1, u2, u3, u4, u5, u6, u7] := by have := congrArg Array.toList hcs; simpa using this
      subst hcl
      have he' : e = .returned (.tuple #[.agg #[u0, u1, u2, u3, u4, u5, u6, u7], .int .i64 ((L - 1 : Nat) : Int), .int .i64 2]) := by rw [← HL.out]; exact he
      subst he'
      have hone := h8.2
      have hL1 : ((L - 1 : Nat) : Int) = (Y.size : Int) - 1 := by have := HsY.out; omega
      rw [hL1]
      have Hr4 := Lib.hid hr4
      have Hb4 := Lib.hid (ext_trans Hb3.out hb4)
      clear he hr4 hb4 h8 hcs hL1
      go_wp2_with (have hh := hone; clear hone; refine wpList_store_re rfl _ _ rfl w4.heap.size rfl rfl rfl rfl hh (Blk.new _ _ _) ?_; intro w5 hB5 ho5; have c0 := hB5.cell 0; have c1 := hB5.cell 1; have c2 := hB5.cell 2; have c3 := hB5.cell 3; have c4 := hB5.cell 4; have c5 := hB5.cell 5; have c6 := hB5.cell 6; have c7 := hB5.cell 7)
      have hb45 : Below w4.heap.size w4 w5 := ((Below.refl _ _).alloc (Nat.le_refl _) _).trans (ho5.below (fun i hi => Nat.le_of_eq hi.symm) (by simp))
      have Hb5 := Lib.hid (ext_trans Hb4.out hb45)
      have hsame := rsame_any _ (fun _ => True) emptyE emptyE _ _ w5 (Hr4.out.ext hb45) (reR_leaf w5 (by unfold isInt; omega) zero_ok : ReR (fun _ => True) w5 emptyE [.int .i64 0, .int .u64 0, .int .u64 0, .int .u64 0, .int .u64 0, .slice none 0 0, .int .i64 0, .int .i64 0]) (by decide)
      rw [(sameE_iff emptyE emptyE).2 rfl] at hsame
      clear hb45 ho5 hB5 c0 c1 c2 c3 c4 c5 c6 c7 Hr4
      refine hsame.mono ?_
      rintro e w6 ⟨rfl, hb6⟩
      have Hb6 := Lib.hid (ext_trans Hb5.out hb6)
      clear hsame hb6
      go_wp2_with fail
      refine (known_any w6 (Ht.out.ext Hb6.out)).mono ?_
      rintro e w7 ⟨rfl, hb7⟩
      go_wp2
      go_ret
      exact ⟨rfl, ext_trans Hb6.out hb7⟩
    have r3 : (b : Int) ≤ 32 := by omega
    have r4 : (b : Int) < (a : Int) := by omega
    have r5 : b < a := by omega
    have r6 : decide (a ≤ b) = false := by simp; omega
    have hm := Lib.hid hm
    go_wp2_with fail
    have hPE := tm_not HTm.out hm.out
    have HPE := Lib.hid hPE
    clear hPE
    have HP' := HP.out
    rw [HPE.out] at HP'
    have HP2 := Lib.hid HP'
    clear HP' HP
    refine (HP2.out _ (Ht.out.ext Hb3.out)).mono ?_
    rintro e w4 ⟨⟨ds, he, hr4⟩, hb4⟩
    have h8 := reR_arr hr4
    obtain ⟨u0, u1, u2, u3, u4, u5, u6, u7, hcs⟩ := arr_eight h8.1
    have hcl : ds = [u0, u1, u2, u3, u4, u5, u6, u7] := by have := congrArg Array.toList hcs; simpa using this
    subst hcl
    have he' : e = .returned (.tuple #[.agg #[u0, u1, u2, u3, u4, u5, u6, u7], .int .i64 ((L - 1 : Nat) : Int), .int .i64 2]) := by rw [← HL.out]; exact he
    subst he'
    have hone := h8.2
    have hL1 : ((L - 1 : Nat) : Int) = (Y.size : Int) - 1 := by have := HsY.out; omega
    rw [hL1]
    have Hr4 := Lib.hid hr4
    have Hb4 := Lib.hid (ext_trans Hb3.out hb4)
    clear he hr4 hb4 h8 hcs hL1
    go_wp2_with (have hh := hone; clear hone; refine wpList_store_re rfl _ _ rfl w4.heap.size rfl rfl rfl rfl hh (Blk.new _ _ _) ?_; intro w5 hB5 ho5; have c0 := hB5.cell 0; have c1 := hB5.cell 1; have c2 := hB5.cell 2; have c3 := hB5.cell 3; have c4 := hB5.cell 4; have c5 := hB5.cell 5; have c6 := hB5.cell 6; have c7 := hB5.cell 7)
    have hb45 : Below w4.heap.size w4 w5 := ((Below.refl _ _).alloc (Nat.le_refl _) _).trans (ho5.below (fun i hi => Nat.le_of_eq hi.symm) (by simp))
    have Hb5 := Lib.hid (ext_trans Hb4.out hb45)
    have hsame := rsame_any _ (fun _ => True) emptyE emptyE _ _ w5 (Hr4.out.ext hb45) (reR_leaf w5 (by unfold isInt; omega) zero_ok : ReR (fun _ => True) w5 emptyE [.int .i64 0, .int .u64 0, .int .u64 0, .int .u64 0, .int .u64 0, .slice none 0 0, .int .i64 0, .int .i64 0]) (by decide)
    rw [(sameE_iff emptyE emptyE).2 rfl] at hsame
    clear hb45 ho5 hB5 c0 c1 c2 c3 c4 c5 c6 c7 Hr4
    refine hsame.mono ?_
    rintro e w6 ⟨rfl, hb6⟩
    have Hb6 := Lib.hid (ext_trans Hb5.out hb6)
    clear hsame hb6
    go_wp2_with fail
    refine (known_any w6 (Ht.out.ext Hb6.out)).mono ?_
    rintro e w7 ⟨rfl, hb7⟩
    go_wp2
    go_ret
    exact ⟨rfl, ext_trans Hb6.out hb7⟩

set_option maxHeartbeats 1000000 in
theorem times_same (a b : Nat) (ha : a < 100) (hb : b < 100) (hab : a = b) (w : World) (ht : Tab w) :
    Calls Tryd.prog 9 #[.int .i64 (a : Int), .int .i64 (b : Int), .bool false] w fun e w' => e = .returned (.bool true) ∧ Below w.heap.size w w' := by
  have ha0 : ¬ ((a : Int) < 0) := by omega
  have ha1 : ¬ (99 < (a : Int)) := by omega
  have hb0 : ¬ ((b : Int) < 0) := by omega
  have hb1 : ¬ (99 < (b : Int)) := by omega
  have hTm := (tm_one ⟨a, ha⟩).1
  simp only at hTm
  have hne : ((b : Int) != (a : Int)) = false := by rw [bne_eq_false_iff_eq]; omega
  clear hab
  have hlt : ∀ x ∈ [97, 123] ++ twoB a ++ [125], x < 256 := by
    intro x hx
    have h1 := twoB_lt256 (n := a) (by omega)
    have h2 := twoB_lt256 (n := b) (by omega)
    simp only [List.mem_append, List.mem_cons, List.not_mem_nil, or_false] at hx
    rcases hx with (hx | hx) | hx
    · omega
    · exact h1 _ hx
    · omega
  have hnY := nats_bsN hlt
  have hsY := bsN_size ([97, 123] ++ twoB a ++ [125])
  have hll : ([97, 123] ++ twoB a ++ [125]).length ≤ 9 := by have := twoB_le2 a; have := twoB_le2 b; simp only [List.length_append, List.length_cons, List.length_nil]; omega
  obtain ⟨L, hL⟩ : ∃ L, ([97, 123] ++ twoB a ++ [125]).length = L := ⟨_, rfl⟩
  have hL1 : 1 ≤ L := by rw [← hL]; simp only [List.length_append, List.length_cons, List.length_nil]; omega
  rw [hL] at hsY hll
  obtain ⟨Y, hY⟩ : ∃ Y, bsN ([97, 123] ++ twoB a ++ [125]) = Y := ⟨_, rfl⟩
  obtain ⟨Z, hZ⟩ : ∃ Z, bsN (twoB a) = Z := ⟨_, rfl⟩
  have HZ : Hid (∀ W, Calls Tryd.prog 32 #[.int .i64 (a : Int)] W fun e w' => e = .returned (.string Z) ∧ Below W.heap.size W w') := Lib.hid fun W => by
    have := ltwo_any a (by omega) W
    rwa [hZ] at this
  have hsZ : Z.size ≤ 2 := by rw [← hZ, bsN_size]; exact twoB_le2 a
  have e2 : (⟨#[97, 123]⟩ : ByteArray) ++ Z ++ (⟨#[125]⟩ : ByteArray) = Y := by
    rw [← hY, ← hZ, ← bsN_append, ← bsN_append]; rfl
  have He := Lib.hid e2
  clear e2 hZ
  rw [hY] at hnY hsY
  have HP : Hid (∀ W, Tab W → Calls Tryd.prog 16 #[.string Y] W fun e w' => ParseAns W.heap.size (parseE ([97, 123] ++ twoB a ++ [125])) e w' ∧ Below W.heap.size W w') := Lib.hid fun W hW => by
    have := parse_any Y (by omega) W hW
    rwa [hnY] at this
  have Ht := Lib.hid ht
  have HTm := Lib.hid hTm
  have HL := Lib.hid hL
  have hyl : Y.size ≤ 9 := by omega
  have hy1 : 1 ≤ Y.size := by omega
  have HsY := Lib.hid hsY
  clear ht hTm hL hlt hnY hsY hY hll hL1
  go_enter Tryd.func9, Tryd.ntmps9
  go_wp2_with fail
  refine (HZ.out _).mono ?_
  rintro e w1 ⟨rfl, hb1'⟩
  have Hb3 := Lib.hid hb1'
  clear hb1'
  go_wp2_with fail
  rw [He.out]
  by_cases hm : ((a : Int) ≤ 32 ∧ ((a : Int) = -1 ∨ (1 ≤ (a : Int) ∧ (a : Int) ≤ 32 ∧ (a : Int) ≤ (a : Int))))
  · have h32 : (a : Int) ≤ 32 := hm.1
    have g1 : 1 ≤ (a : Int) := by omega
    have g2 : (a : Int) ≤ 32 := by omega
    have g3 : (a : Int) ≤ (a : Int) := by omega
    have g4 : ((a : Int) == -1) = false := by rw [beq_eq_false_iff_ne]; omega
    have hm := Lib.hid hm
    go_wp2_with fail
    obtain ⟨s0, ks0, a0, hPE, hkl⟩ := tm_may HTm.out hm.out
    have HPE := Lib.hid hPE
    clear hPE
    have HP' := HP.out
    rw [HPE.out] at HP'
    have HP2 := Lib.hid HP'
    clear HP' HP
    refine (HP2.out _ (Ht.out.ext Hb3.out)).mono ?_
    rintro e w4 ⟨⟨ds, he, hr4⟩, hb4⟩
    obtain ⟨k, p0, p1, p2, p3, ks, A, c, lo, hi, hte, rfl, h1, h2, -, -, -, -, -⟩ := hr4.fields
    obtain ⟨rfl, -, rfl, rfl, rfl⟩ := Ex.mk.inj hte
    rw [hkl] at he
    have he' : e = .returned (.tuple #[.agg #[.int .i64 4, .int .u64 (p0 : Int), .int .u64 (p1 : Int), .int .u64 (p2 : Int), .int .u64 (p3 : Int), .slice A 1 c, .int .i64 (a : Int), .int .i64 (a : Int)], .int .i64 (a0 : Int), .int .i64 0]) := he
    subst he'
    have hone : (#[.int .i64 4, .int .u64 (p0 : Int), .int .u64 (p1 : Int), .int .u64 (p2 : Int), .int .u64 (p3 : Int), .slice A 1 c, .int .i64 (a : Int), .int .i64 (a : Int)] : Array Value).all (·.oneCell') = true := by simp [Value.oneCell']
    have Hb4 := Lib.hid (ext_trans Hb3.out hb4)
    clear he hr4 hb4 hte h1 h2 hkl
    go_wp2_with (have hh := hone; clear hone; refine wpList_store_re rfl _ _ rfl w4.heap.size rfl rfl rfl rfl hh (Blk.new _ _ _) ?_; intro w5 hB5 ho5; have c0 := hB5.cell 0; have c1 := hB5.cell 1; have c2 := hB5.cell 2; have c3 := hB5.cell 3; have c4 := hB5.cell 4; have c5 := hB5.cell 5; have c6 := hB5.cell 6; have c7 := hB5.cell 7)
    have hb45 : Below w4.heap.size w4 w5 := ((Below.refl _ _).alloc (Nat.le_refl _) _).trans (ho5.below (fun i hi => Nat.le_of_eq hi.symm) (by simp))
    have Hb5 := Lib.hid (ext_trans Hb4.out hb45)
    clear hb45 ho5 hB5 c0 c1 c2 c3 c4 c5 c6 c7
    refine (known_any w5 (Ht.out.ext Hb5.out)).mono ?_
    rintro e w6 ⟨rfl, hb6⟩
    go_wp2
    go_ret
    exact ⟨rfl, ext_trans Hb5.out hb6⟩
  · have g4 : ((a : Int) == -1) = false := by rw [beq_eq_false_iff_ne]; omega
    by_cases r1 : 32 < (a : Int)
    · have hm := Lib.hid hm
      go_wp2_with fail
      have hPE := tm_not HTm.out hm.out
      have HPE := Lib.hid hPE
      clear hPE
      have HP' := HP.out
      rw [HPE.out] at HP'
      have HP2 := Lib.hid HP'
      clear HP' HP
      refine (HP2.out _ (Ht.out.ext Hb3.out)).mono ?_
      rintro e w4 ⟨⟨ds, he, hr4⟩, hb4⟩
      have h8 := reR_arr hr4
      obtain ⟨u0, u1, u2, u3, u4, u5, u6, u7, hcs⟩ := arr_eight h8.1
      have hcl : ds = [u0, u1, u2, u3, u4, u5, u6, u7] := by have := congrArg Array.toList hcs; simpa using this
      subst hcl
      have he' : e = .returned (.tuple #[.agg #[u0, u1, u2, u3, u4, u5, u6, u7], .int .i64 ((L - 1 : Nat) : Int), .int .i64 2]) := by rw [← HL.out]; exact he
      subst he'
      have hone := h8.2
      have hL1 : ((L - 1 : Nat) : Int) = (Y.size : Int) - 1 := by have := HsY.out; omega
      rw [hL1]
      have Hr4 := Lib.hid hr4
      have Hb4 := Lib.hid (ext_trans Hb3.out hb4)
      clear he hr4 hb4 h8 hcs hL1
      go_wp2_with (have hh := hone; clear hone; refine wpList_store_re rfl _ _ rfl w4.heap.size rfl rfl rfl rfl hh (Blk.new _ _ _) ?_; intro w5 hB5 ho5; have c0 := hB5.cell 0; have c1 := hB5.cell 1; have c2 := hB5.cell 2; have c3 := hB5.cell 3; have c4 := hB5.cell 4; have c5 := hB5.cell 5; have c6 := hB5.cell 6; have c7 := hB5.cell 7)
      have hb45 : Below w4.heap.size w4 w5 := ((Below.refl _ _).alloc (Nat.le_refl _) _).trans (ho5.below (fun i hi => Nat.le_of_eq hi.symm) (by simp))
      have Hb5 := Lib.hid (ext_trans Hb4.out hb45)
      have hsame := rsame_any _ (fun _ => True) emptyE emptyE _ _ w5 (Hr4.out.ext hb45) (reR_leaf w5 (by unfold isInt; omega) zero_ok : ReR (fun _ => True) w5 emptyE [.int .i64 0, .int .u64 0, .int .u64 0, .int .u64 0, .int .u64 0, .slice none 0 0, .int .i64 0, .int .i64 0]) (by decide)
      rw [(sameE_iff emptyE emptyE).2 rfl] at hsame
      clear hb45 ho5 hB5 c0 c1 c2 c3 c4 c5 c6 c7 Hr4
      refine hsame.mono ?_
      rintro e w6 ⟨rfl, hb6⟩
      have Hb6 := Lib.hid (ext_trans Hb5.out hb6)
      clear hsame hb6
      go_wp2_with fail
      refine (known_any w6 (Ht.out.ext Hb6.out)).mono ?_
      rintro e w7 ⟨rfl, hb7⟩
      go_wp2
      go_ret
      exact ⟨rfl, ext_trans Hb6.out hb7⟩
    have r1 : (a : Int) ≤ 32 := by omega
    by_cases r2 : (a : Int) < 1
    · have r2 : ¬ (1 ≤ (a : Int)) := by omega
      have hm := Lib.hid hm
      go_wp2_with fail
      have hPE := tm_not HTm.out hm.out
      have HPE := Lib.hid hPE
      clear hPE
      have HP' := HP.out
      rw [HPE.out] at HP'
      have HP2 := Lib.hid HP'
      clear HP' HP
      refine (HP2.out _ (Ht.out.ext Hb3.out)).mono ?_
      rintro e w4 ⟨⟨ds, he, hr4⟩, hb4⟩
      have h8 := reR_arr hr4
      obtain ⟨u0, u1, u2, u3, u4, u5, u6, u7, hcs⟩ := arr_eight h8.1
      have hcl : ds = [u0, u1, u2, u3, u4, u5, u6, u7] := by have := congrArg Array.toList hcs; simpa using this
      subst hcl
      have he' : e = .returned (.tuple #[.agg #[u0, u1, u2, u3, u4, u5, u6, u7], .int .i64 ((L - 1 : Nat) : Int), .int .i64 2]) := by rw [← HL.out]; exact he
      subst he'
      have hone := h8.2
      have hL1 : ((L - 1 : Nat) : Int) = (Y.size : Int) - 1 := by have := HsY.out; omega
      rw [hL1]
      have Hr4 := Lib.hid hr4
      have Hb4 := Lib.hid (ext_trans Hb3.out hb4)
      clear he hr4 hb4 h8 hcs hL1
      go_wp2_with (have hh := hone; clear hone; refine wpList_store_re rfl _ _ rfl w4.heap.size rfl rfl rfl rfl hh (Blk.new _ _ _) ?_; intro w5 hB5 ho5; have c0 := hB5.cell 0; have c1 := hB5.cell 1; have c2 := hB5.cell 2; have c3 := hB5.cell 3; have c4 := hB5.cell 4; have c5 := hB5.cell 5; have c6 := hB5.cell 6; have c7 := hB5.cell 7)
      have hb45 : Below w4.heap.size w4 w5 := ((Below.refl _ _).alloc (Nat.le_refl _) _).trans (ho5.below (fun i hi => Nat.le_of_eq hi.symm) (by simp))
      have Hb5 := Lib.hid (ext_trans Hb4.out hb45)
      have hsame := rsame_any _ (fun _ => True) emptyE emptyE _ _ w5 (Hr4.out.ext hb45) (reR_leaf w5 (by unfold isInt; omega) zero_ok : ReR (fun _ => True) w5 emptyE [.int .i64 0, .int .u64 0, .int .u64 0, .int .u64 0, .int .u64 0, .slice none 0 0, .int .i64 0, .int .i64 0]) (by decide)
      rw [(sameE_iff emptyE emptyE).2 rfl] at hsame
      clear hb45 ho5 hB5 c0 c1 c2 c3 c4 c5 c6 c7 Hr4
      refine hsame.mono ?_
      rintro e w6 ⟨rfl, hb6⟩
      have Hb6 := Lib.hid (ext_trans Hb5.out hb6)
      clear hsame hb6
      go_wp2_with fail
      refine (known_any w6 (Ht.out.ext Hb6.out)).mono ?_
      rintro e w7 ⟨rfl, hb7⟩
      go_wp2
      go_ret
      exact ⟨rfl, ext_trans Hb6.out hb7⟩
    have r2 : 1 ≤ (a : Int) := by omega
    by_cases r3 : 32 < (a : Int)
    · omega
    have r3 : (a : Int) ≤ 32 := by omega
    have r4 : (a : Int) < (a : Int) := by omega
    omega

set_option maxHeartbeats 2000000 in
theorem times_out (low high : Int) (o : Bool) (hl : isInt low) (hh : isInt high) (h : low < 0 ∨ 99 < low ∨ high < 0 ∨ 99 < high) (w : World) (ht : Tab w) :
    Calls Tryd.prog 9 #[.int .i64 low, .int .i64 high, .bool o] w fun e w' => e = .returned (.bool true) ∧ Below w.heap.size w w' := by
  have hK := known_any w ht
  unfold isInt at hl hh
  rcases Int.lt_or_le low 0 with h1 | h1
  · clear h
    go_enter Tryd.func9, Tryd.ntmps9
    go_wp2_with fail
    refine hK.mono ?_
    rintro e w2 ⟨rfl, hb2⟩
    go_wp2
    go_ret
    exact ⟨rfl, hb2⟩
  rcases Int.lt_or_le 99 low with h2 | h2
  · clear h
    go_enter Tryd.func9, Tryd.ntmps9
    go_wp2_with fail
    refine hK.mono ?_
    rintro e w2 ⟨rfl, hb2⟩
    go_wp2
    go_ret
    exact ⟨rfl, hb2⟩
  rcases Int.lt_or_le high 0 with h3 | h3
  · clear h
    go_enter Tryd.func9, Tryd.ntmps9
    go_wp2_with fail
    refine hK.mono ?_
    rintro e w2 ⟨rfl, hb2⟩
    go_wp2
    go_ret
    exact ⟨rfl, hb2⟩
  have h4 : 99 < high := by omega
  clear h
  go_enter Tryd.func9, Tryd.ntmps9
  go_wp2_with fail
  refine hK.mono ?_
  rintro e w2 ⟨rfl, hb2⟩
  go_wp2
  go_ret
  exact ⟨rfl, hb2⟩

theorem times_all (low high : Int) (o : Bool) (hl : isInt low) (hh : isInt high) (w : World) (ht : Tab w) :
    Calls Tryd.prog 9 #[.int .i64 low, .int .i64 high, .bool o] w fun e w' => e = .returned (.bool true) ∧ Below w.heap.size w w' := by
  by_cases h : low < 0 ∨ 99 < low ∨ high < 0 ∨ 99 < high
  · exact times_out low high o hl hh h w ht
  obtain ⟨a, rfl⟩ : ∃ a : Nat, low = (a : Int) := ⟨low.toNat, by omega⟩
  obtain ⟨b, rfl⟩ : ∃ b : Nat, high = (b : Int) := ⟨high.toNat, by omega⟩
  cases o with
  | true => exact times_open a b (by omega) (by omega) w ht
  | false =>
    by_cases hab : a = b
    · exact times_same a b (by omega) (by omega) hab w ht
    · exact times_two a b (by omega) (by omega) hab w ht
end Go.Proofs.YtmggajpecgnjkaaDoor

/-
  RegexRows, its walk: a row of texts in brackets. No statement of the seat is proved here (RegexRows closes it).
-/
namespace Go.Proofs.YtmggajpecgnjkaaDoor
open Go Go.ChangeShapes Go.WideShapes Go.ChangeAt Go.RowKit
set_option maxRecDepth 100000

set_option maxHeartbeats 4000000 in
theorem rows_any (A0 : Option Addr) (c0 : Nat) (l : List ByteArray) (w : World) (ht : Tab w) (hc0 : l.length ≤ c0) (hm0 : c0 ≤ maxLen) (hr : Rd w A0 (l.map Value.string)) (hmx : ∀ s ∈ l, s.size ≤ maxLen) :
    Calls Tryd.prog 10 #[.slice A0 l.length c0] w fun e w' => e = .returned (.bool true) ∧ Below w.heap.size w w' := by
  unfold maxLen at hm0
  by_cases h2 : l.length < 2
  · have h2i : (l.length : Int) < 2 := by omega
    clear hr hmx ht
    go_enter Tryd.func10, Tryd.ntmps10
    go_wp2
    go_ret
    exact ⟨rfl, Below.refl _ _⟩
  by_cases h8 : 8 < l.length
  · have h8i : (8 : Int) < (l.length : Int) := by omega
    clear hr hmx ht
    go_enter Tryd.func10, Tryd.ntmps10
    go_wp2
    go_ret
    exact ⟨rfl, Below.refl _ _⟩
  have h2i : 2 ≤ (l.length : Int) := by omega
  have h8i : (l.length : Int) ≤ 8 := by omega
  have Ht := Lib.hid ht
  have Hr := Lib.hid hr
  have Hmx := Lib.hid hmx
  clear hr hmx ht
  have hlk : ∀ (k : Nat) (hk : k < l.length), (l.map natsOf)[k]'(by simpa using hk) = natsOf l[k] := fun k hk => by simp
  have Hlk := Lib.hid hlk
  clear hlk
  go_enter Tryd.func10, Tryd.ntmps10
  go_wp2
  go_loopw [3, 4, 5] (fun s v i wr => ∃ (k : Nat) (A : Option Addr) (c : Nat) (Z : ByteArray), k ≤ l.length ∧ i = .int .i64 (k : Int) ∧ s = .string Z ∧ v = .slice A k c ∧ Hid (Z = bsN (rowB ((l.map natsOf).take k))) ∧ Hid (RowE (fun g => w.heap.size ≤ g) wr A k c (((l.map natsOf).take k).map textX)) ∧ Hid (∀ g, inA A g → w.heap.size ≤ g) ∧ Hid (∀ u ∈ (l.map natsOf).take k, u.length ≤ 10 ∧ ∀ b ∈ u, b < 256) ∧ Hid (Below w.heap.size w wr)) (fun _ _ i _ => l.length - (intOf i).toNat)
  case atStart => exact ⟨0, none, 0, ⟨#[]⟩, Nat.zero_le _, rfl, rfl, rfl, Lib.hid rfl, Lib.hid (RowE.none_ _ _), Lib.hid (fun g hg => absurd hg (inA_none g)), Lib.hid (by simp), Lib.hid (Below.refl _ _)⟩
  case round =>
    obtain ⟨k, A, c, Z, hk, rfl, rfl, rfl, hZ, hrow, hA, hten, hb⟩ := hrel
    have hzl : Z.size ≤ 328 := by
      rw [hZ.out, bsN_size]
      have := rowB_len hten.out
      rw [List.length_take, List.length_map] at this
      omega
    by_cases hlt : k < l.length
    · have hki : (k : Int) < (l.length : Int) := by omega
      obtain ⟨ad, rfl, hcd⟩ := Hr.out k (.string l[k]) (by simp [hlt])
      have HC : Hid (∀ W, Below wr.heap.size wr W → W.cell? (ad.add k) = some (.string l[k])) := Lib.hid fun W hW => by
        have h1 := (World.cell?_of_block (a := ad.add k) (hb.out.block _ (World.block_lt_of_cell? w _ hcd))).trans hcd
        exact (World.cell?_of_block (a := ad.add k) (hW.block _ (World.block_lt_of_cell? wr _ h1))).trans h1
      have hc := HC.out wr (Below.refl _ _)
      by_cases h10 : 10 < l[k].size
      · have h10i : (10 : Int) < (l[k].size : Int) := by omega
        clear hcd
        go_wp2
        go_ret
        exact ⟨rfl, hb.out⟩
      · have h10i : (l[k].size : Int) ≤ 10 := by omega
        have hu : (natsOf l[k]).length ≤ 10 ∧ ∀ b ∈ natsOf l[k], b < 256 := ⟨by rw [natsOf_len]; omega, natsOf_lt _⟩
        have hkm : k < (l.map natsOf).length := by simpa using hlt
        have htk := rowB_take (l.map natsOf) k hkm (by rw [Hlk.out k hlt]; exact hu)
        rw [Hlk.out k hlt] at htk
        have hts : (l.map natsOf).take (k + 1) = (l.map natsOf).take k ++ [natsOf l[k]] := by rw [List.take_succ_eq_append_getElem hkm, Hlk.out k hlt]
        have HMap : Hid (((l.map natsOf).take (k + 1)).map textX = (((l.map natsOf).take k).map textX) ++ [textX (natsOf l[k])]) := Lib.hid (by rw [hts, List.map_append]; rfl)
        have Hten1 : Hid (∀ u ∈ (l.map natsOf).take (k + 1), u.length ≤ 10 ∧ ∀ b ∈ u, b < 256) := Lib.hid (by
          rw [hts]
          intro u hu'
          rcases List.mem_append.1 hu' with h | h
          · exact hten.out u h
          · rw [List.mem_singleton.1 h]; exact hu)
        have hnd : nodesE (textX (natsOf l[k])) ≤ 1000000 := by have := (sm_textX _ hu.2).nodes; omega
        obtain ⟨P, hP⟩ : ∃ P, bsN (printE (textX (natsOf l[k]))) = P := ⟨_, rfl⟩
        obtain ⟨Z1, hZ1⟩ : ∃ Z1, bsN (rowB ((l.map natsOf).take (k + 1))) = Z1 := ⟨_, rfl⟩
        have hpl : P.size ≤ 40 := by
          rw [← hP, bsN_size, printE, if_pos (isE_text hu.2 hu.1)]
          have := (sm_textX _ hu.2).len
          omega
        have HTx : Hid (∀ W, Calls Tryd.prog 27 #[.string l[k]] W fun e w' => ∃ cs, e = .returned (reV cs) ∧ ReR (fun g => W.heap.size ≤ g) w' (textX (natsOf l[k])) cs ∧ Below W.heap.size W w') := Lib.hid fun W => rtextx_any _ W (by omega)
        have HPr : Hid (∀ W cs (S : Nat → Prop), ReR S W (textX (natsOf l[k])) cs → Calls Tryd.prog 22 #[reV cs] W fun e w' => e = .returned (.string P) ∧ Below W.heap.size W w') := Lib.hid fun W cs S h => by
          have := rprint_any S _ cs W h hnd
          rwa [hP] at this
        have HZ1 : Hid (Z1 = bsN (rowB ((l.map natsOf).take (k + 1)))) := Lib.hid hZ1.symm
        have hm1 : k + 1 ≤ maxLen := by unfold maxLen; omega
        have hm2 : (k + 1) * 80 ≤ 140737488355328 := by omega
        have Hm1 := Lib.hid hm1
        have Hm2 := Lib.hid hm2
        clear hm1 hm2 hnd hu hkm hts hcd
        rcases Nat.eq_zero_or_pos k with h0 | h0
        · have He : Hid (Z ++ P = Z1) := Lib.hid (by
            rw [hZ.out, ← hP, ← hZ1, htk, if_neg (by omega), ← bsN_append]; rfl)
          have h0i : ¬ ((0 : Int) < (k : Int)) := by omega
          clear hZ htk hP hZ1 h0
          go_wp2_with fail
          refine (HTx.out _).mono ?_
          rintro e w2 ⟨cs2, rfl, hcs2, hb2⟩
          have Hb2 := Lib.hid hb2
          have hP2 := HPr.out w2 cs2 _ hcs2
          clear hb2 hcs2 hc
          go_wp2_with fail
          refine hP2.mono ?_
          rintro e w3 ⟨rfl, hb3⟩
          have Hb3 := Lib.hid (ext_trans Hb2.out hb3)
          have hc := HC.out w3 Hb3.out
          clear hb3 hP2
          go_wp2_with fail
          refine (HTx.out _).mono ?_
          rintro e w4 ⟨cs4, rfl, hcs4, hb4⟩
          have h8 := hcs4.size
          obtain ⟨u0, u1, u2, u3, u4, u5, u6, u7, rfl⟩ := eight_cells h8
          have Hb4 := Lib.hid (ext_trans Hb3.out hb4)
          have hcs4' : ReR (fun g => w.heap.size ≤ g ∧ ¬ inA A g) w4 (textX (natsOf l[k])) [u0, u1, u2, u3, u4, u5, u6, u7] := hcs4.mono fun g hg _ => ⟨by have := Hb3.out.size; have := hb.out.size; omega, fun hin => by have := hrow.out.lt hin; have := Hb3.out.size; omega⟩
          have Hcs4 := Lib.hid hcs4'
          have hone4 := hcs4.one
          obtain ⟨xs, hxs, hxl, hxp⟩ := (hrow.out.ext Hb4.out).ext ((Below.refl w4.heap.size w4).alloc (Nat.le_refl _) (Obj.cells #[u0, u1, u2, u3, u4, u5, u6, u7] 27))
          have Hxs := Lib.hid hxs
          have Hxp := Lib.hid hxp
          have Hxl := Lib.hid hxl
          have Hone4 := Lib.hid hone4
          clear hcs4 h8 hcs4' hone4 hxs hxp hxl hb4 hc
          unfold reV
          go_wp2_with (refine wpList_appO _ rfl (.tmp 41) (.tmp 47) _ rfl _ _ 8 80 Tryd.underlying25 info_re rfl A k c xs rfl Hxs.out (some ⟨w4.heap.size, 0, none⟩) 1 1 [u0, u1, u2, u3, u4, u5, u6, u7] rfl rfl (Rd.lit w4 #[u0, u1, u2, u3, u4, u5, u6, u7] 27) Hone4.out (by intro h; cases h) Hm1.out Hm2.out ?_; intro A' c' w5 hrow5 honly hA')
          have hN := RowE.grow (x := textX (natsOf l[k])) (Hcs4.out.ext ((Below.refl w4.heap.size w4).alloc (Nat.le_refl _) (Obj.cells #[u0, u1, u2, u3, u4, u5, u6, u7] 27))) Hxs.out Hxl.out Hxp.out hrow5 honly hA'
          have hbw : Below w.heap.size w w5 := ((ext_trans hb.out Hb4.out).alloc (by have := (ext_trans hb.out Hb4.out).size; omega) _).trans (honly.below (fun g hg => hA.out g hg) (by have := (ext_trans hb.out Hb4.out).size; simp; omega))
          have HN := Lib.hid hN
          have Hbw := Lib.hid hbw
          have HA' : Hid (∀ g, inA A' g → w.heap.size ≤ g) := Lib.hid fun g hg => (hA' g hg).elim (hA.out g) (fun h => by have := hb.out.size; have := Hb4.out.size; have := h.1; simp at this; omega)
          clear hN hbw hrow5 honly hA'
          rw [He.out]
          go_wp2
          go_roundw
          case rel => exact ⟨k + 1, A', c', Z1, by omega, by go_num, rfl, rfl, HZ1, Lib.hid (by rw [HMap.out]; exact HN.out), HA', Hten1, Hbw⟩
          case measure => simp [intOf]; omega
        · have He : Hid (Z ++ (⟨#[124]⟩ : ByteArray) ++ P = Z1) := Lib.hid (by
            rw [hZ.out, ← hP, ← hZ1, htk, if_pos h0, ← bsN_append, ← bsN_append, ByteArray.append_assoc]; rfl)
          have h0i : (0 : Int) < (k : Int) := by omega
          clear hZ htk hP hZ1 h0
          go_wp2_with fail
          refine (HTx.out _).mono ?_
          rintro e w2 ⟨cs2, rfl, hcs2, hb2⟩
          have Hb2 := Lib.hid hb2
          have hP2 := HPr.out w2 cs2 _ hcs2
          clear hb2 hcs2 hc
          go_wp2_with fail
          refine hP2.mono ?_
          rintro e w3 ⟨rfl, hb3⟩
          have Hb3 := Lib.hid (ext_trans Hb2.out hb3)
          have hc := HC.out w3 Hb3.out
          clear hb3 hP2
          go_wp2_with fail
          refine (HTx.out _).mono ?_
          rintro e w4 ⟨cs4, rfl, hcs4, hb4⟩
          have h8 := hcs4.size
          obtain ⟨u0, u1, u2, u3, u4, u5, u6, u7, rfl⟩ := eight_cells h8
          have Hb4 := Lib.hid (ext_trans Hb3.out hb4)
          have hcs4' : ReR (fun g => w.heap.size ≤ g ∧ ¬ inA A g) w4 (textX (natsOf l[k])) [u0, u1, u2, u3, u4, u5, u6, u7] := hcs4.mono fun g hg _ => ⟨by have := Hb3.out.size; have := hb.out.size; omega, fun hin => by have := hrow.out.lt hin; have := Hb3.out.size; omega⟩
          have Hcs4 := Lib.hid hcs4'
          have hone4 := hcs4.one
          obtain ⟨xs, hxs, hxl, hxp⟩ := (hrow.out.ext Hb4.out).ext ((Below.refl w4.heap.size w4).alloc (Nat.le_refl _) (Obj.cells #[u0, u1, u2, u3, u4, u5, u6, u7] 27))
          have Hxs := Lib.hid hxs
          have Hxp := Lib.hid hxp
          have Hxl := Lib.hid hxl
          have Hone4 := Lib.hid hone4
          clear hcs4 h8 hcs4' hone4 hxs hxp hxl hb4 hc
          unfold reV
          go_wp2_with (refine wpList_appO _ rfl (.tmp 41) (.tmp 47) _ rfl _ _ 8 80 Tryd.underlying25 info_re rfl A k c xs rfl Hxs.out (some ⟨w4.heap.size, 0, none⟩) 1 1 [u0, u1, u2, u3, u4, u5, u6, u7] rfl rfl (Rd.lit w4 #[u0, u1, u2, u3, u4, u5, u6, u7] 27) Hone4.out (by intro h; cases h) Hm1.out Hm2.out ?_; intro A' c' w5 hrow5 honly hA')
          have hN := RowE.grow (x := textX (natsOf l[k])) (Hcs4.out.ext ((Below.refl w4.heap.size w4).alloc (Nat.le_refl _) (Obj.cells #[u0, u1, u2, u3, u4, u5, u6, u7] 27))) Hxs.out Hxl.out Hxp.out hrow5 honly hA'
          have hbw : Below w.heap.size w w5 := ((ext_trans hb.out Hb4.out).alloc (by have := (ext_trans hb.out Hb4.out).size; omega) _).trans (honly.below (fun g hg => hA.out g hg) (by have := (ext_trans hb.out Hb4.out).size; simp; omega))
          have HN := Lib.hid hN
          have Hbw := Lib.hid hbw
          have HA' : Hid (∀ g, inA A' g → w.heap.size ≤ g) := Lib.hid fun g hg => (hA' g hg).elim (hA.out g) (fun h => by have := hb.out.size; have := Hb4.out.size; have := h.1; simp at this; omega)
          clear hN hbw hrow5 honly hA'
          rw [He.out]
          go_wp2
          go_roundw
          case rel => exact ⟨k + 1, A', c', Z1, by omega, by go_num, rfl, rfl, HZ1, Lib.hid (by rw [HMap.out]; exact HN.out), HA', Hten1, Hbw⟩
          case measure => simp [intOf]; omega
    · obtain rfl : k = l.length := by omega
      have hL : (l.map natsOf).take l.length = l.map natsOf := List.take_of_length_le (by simp)
      have hten' := hten.out
      have hrow' := hrow.out
      have hZ' := hZ.out
      rw [hL] at hten' hrow' hZ'
      have hPar := rows_parse (l := l.map natsOf) (by simpa using by omega) (by simpa using by omega) hten'
      have hIs := isE_row (l := l.map natsOf) (by simpa using by omega) (by simpa using by omega) hten'
      have hAl := rowX_alt (l := l.map natsOf) (by simpa using by omega)
      have hnX : nodesE (rowX (l.map natsOf)) ≤ 1000000 := by
        have := hIs.1
        simp only [isE, Bool.and_eq_true, decide_eq_true_eq] at this
        omega
      have hB256 : ∀ b ∈ rowB (l.map natsOf), b < 256 := by
        rw [← rowB_text]
        have := hIs.1
        simp only [isE, Bool.and_eq_true, decide_eq_true_eq] at this
        exact textE_lt this.1.1.1.1
      obtain ⟨Y, hY⟩ : ∃ Y, bsN (40 :: (rowB (l.map natsOf) ++ [41])) = Y := ⟨_, rfl⟩
      have hnY : natsOf Y = 40 :: (rowB (l.map natsOf) ++ [41]) := by
        rw [← hY]
        refine nats_bsN fun b hb' => ?_
        simp only [List.mem_cons, List.mem_append, List.not_mem_nil, or_false] at hb'
        rcases hb' with rfl | h | rfl
        · omega
        · exact hB256 b h
        · omega
      have He : Hid ((⟨#[40]⟩ : ByteArray) ++ Z ++ (⟨#[41]⟩ : ByteArray) = Y) := Lib.hid (by
        rw [hZ', ← hY]
        have q := bsN_append [40] (rowB (l.map natsOf))
        have q2 := bsN_append ([40] ++ rowB (l.map natsOf)) [41]
        rw [← q] at q2
        exact q2)
      have hyl : Y.size ≤ 330 := by
        rw [← hY, bsN_size]
        have := rowB_len hten'
        rw [List.length_map] at this
        simp
        omega
      have HP : Hid (∀ W, Tab W → Calls Tryd.prog 16 #[.string Y] W fun e w' => ParseAns W.heap.size (rowX (l.map natsOf), 0, 0) e w' ∧ Below W.heap.size W w') := Lib.hid fun W hW => by
        have := parse_any Y (by omega) W hW
        rwa [hnY, hPar] at this
      have hlen' := hrow'.len
      have HA' : Hid (∀ W, Below wr.heap.size wr W → Calls Tryd.prog 31 #[.slice A l.length c] W fun e w' => ∃ cs, e = .returned (reV cs) ∧ ReR (fun _ => True) w' (rowX (l.map natsOf)) cs ∧ Below W.heap.size W w') := Lib.hid fun W hW => by
        have := ralt_any (fun _ => True) A l.length c ((l.map natsOf).map textX) W (by simp) (by rw [hlen']; exact hrow'.le) hrow'.cap ((hrow'.ext hW).kids fun g _ _ => trivial)
        rwa [hAl] at this
      have HSa : Hid (∀ W cs ds, ReR (fun _ => True) W (rowX (l.map natsOf)) cs → ReR (fun _ => True) W (rowX (l.map natsOf)) ds → Calls Tryd.prog 18 #[reV cs, reV ds] W fun e w' => e = .returned (.bool true) ∧ Below W.heap.size W w') := Lib.hid fun W cs ds h1 h2 => by
        have := rsame_any _ _ _ _ cs ds W h1 h2 hnX
        rwa [(sameE_iff _ _).2 rfl] at this
      have Hb := Lib.hid hb.out
      clear hL hten' hrow' hZ' hPar hIs hAl hnX hB256 hY hnY hlen' hZ hrow hA hten
      go_wp2_with fail
      rw [He.out]
      refine (HP.out _ (Ht.out.ext Hb.out)).mono ?_
      rintro e w4 ⟨⟨ds, he, hr4⟩, hb4⟩
      have h8' := reR_arr hr4
      obtain ⟨u0, u1, u2, u3, u4, u5, u6, u7, hcs⟩ := arr_eight h8'.1
      have hcl : ds = [u0, u1, u2, u3, u4, u5, u6, u7] := by have := congrArg Array.toList hcs; simpa using this
      subst hcl
      have he' : e = .returned (.tuple #[.agg #[u0, u1, u2, u3, u4, u5, u6, u7], .int .i64 0, .int .i64 0]) := he
      subst he'
      have hone := h8'.2
      have Hr4 := Lib.hid (hr4.mono (T := fun _ => True) (fun _ _ _ => trivial))
      have Hb4 := Lib.hid hb4
      clear he hr4 hb4 h8' hcs
      go_wp2_with (refine wpList_store_re rfl _ _ rfl w4.heap.size rfl rfl rfl rfl hone (Blk.new _ _ _) ?_; intro w5 hB5 ho5)
      have hb45 : Below w4.heap.size w4 w5 := ((Below.refl _ _).alloc (Nat.le_refl _) _).trans (ho5.below (fun i hi => Nat.le_of_eq hi.symm) (by simp))
      have Hb5 := Lib.hid (ext_trans Hb4.out hb45)
      have Hr5 := Lib.hid (Hr4.out.ext hb45)
      have HB5 := Lib.hid hB5
      have HS : Hid (∀ W, Below w5.heap.size w5 W → W.cell? ⟨w4.heap.size, 0, none⟩ = some u0 ∧ W.cell? ⟨w4.heap.size, 1, none⟩ = some u1 ∧ W.cell? ⟨w4.heap.size, 2, none⟩ = some u2 ∧ W.cell? ⟨w4.heap.size, 3, none⟩ = some u3 ∧ W.cell? ⟨w4.heap.size, 4, none⟩ = some u4 ∧ W.cell? ⟨w4.heap.size, 5, none⟩ = some u5 ∧ W.cell? ⟨w4.heap.size, 6, none⟩ = some u6 ∧ W.cell? ⟨w4.heap.size, 7, none⟩ = some u7) := Lib.hid fun W hW =>
        have hB := HB5.out.ext hW
        ⟨hB.cell 0, hB.cell 1, hB.cell 2, hB.cell 3, hB.cell 4, hB.cell 5, hB.cell 6, hB.cell 7⟩
      clear hb45 ho5 hB5 hone Hr4 Hb4
      have HTab : Hid (∀ W, Below w5.heap.size w5 W → Tab W) := Lib.hid fun W hW => Ht.out.ext (ext_trans (ext_trans Hb.out Hb5.out) hW)
      have HA5 : Hid (∀ W, Below w5.heap.size w5 W → Calls Tryd.prog 31 #[.slice A l.length c] W fun e w' => ∃ cs, e = .returned (reV cs) ∧ ReR (fun _ => True) w' (rowX (l.map natsOf)) cs ∧ Below W.heap.size W w') := Lib.hid fun W hW => HA'.out W (ext_trans Hb5.out hW)
      have HSa5 : Hid (∀ W ds, Below w5.heap.size w5 W → ReR (fun _ => True) W (rowX (l.map natsOf)) ds → Calls Tryd.prog 18 #[.agg #[u0, u1, u2, u3, u4, u5, u6, u7], reV ds] W fun e w' => e = .returned (.bool true) ∧ Below W.heap.size W w') := Lib.hid fun W ds hW h2 => HSa.out W _ _ (Hr5.out.ext hW) h2
      clear HA' HSa HP
      go_wp2
      go_region_held3 (fun w' => w'.cell? ⟨w4.heap.size, 0, none⟩ = some u0 ∧ w'.cell? ⟨w4.heap.size, 1, none⟩ = some u1 ∧ w'.cell? ⟨w4.heap.size, 2, none⟩ = some u2 ∧ w'.cell? ⟨w4.heap.size, 3, none⟩ = some u3 ∧ w'.cell? ⟨w4.heap.size, 4, none⟩ = some u4 ∧ w'.cell? ⟨w4.heap.size, 5, none⟩ = some u5 ∧ w'.cell? ⟨w4.heap.size, 6, none⟩ = some u6 ∧ w'.cell? ⟨w4.heap.size, 7, none⟩ = some u7)
        (first | exact HS.out _ (by repeat (first | exact hbx | apply ext_drew | exact Below.refl _ _)))
        (first
        | (go_at_call 31; ((with_reducible refine (HA5.out _ ?_).mono ?_)); (repeat (first | exact hbx | apply ext_drew | exact Below.refl _ _)); rintro e w6 ⟨cs6, rfl, hr6, hbx'⟩; have hbx : Below w5.heap.size w5 w6 := ext_trans (by repeat (first | exact hbx | apply ext_drew | exact Below.refl _ _)) hbx')
        | (go_at_call 18; ((with_reducible refine (HSa5.out _ _ ?_ hr6).mono ?_)); (repeat (first | exact hbx | apply ext_drew | exact Below.refl _ _)); rintro e w7 ⟨rfl, hbx'⟩; have hbx : Below w5.heap.size w5 w7 := ext_trans (by repeat (first | exact hbx | apply ext_drew | exact Below.refl _ _)) hbx')
        | (go_at_call 19; ((with_reducible refine (known_any _ (HTab.out _ ?_)).mono ?_)); (repeat (first | exact hbx | apply ext_drew | exact Below.refl _ _)); rintro e w8 ⟨rfl, hbx'⟩; have hbx : Below w5.heap.size w5 w8 := ext_trans (by repeat (first | exact hbx | apply ext_drew | exact Below.refl _ _)) hbx'))
      all_goals
        go_wp2
        go_ret
        exact ⟨rfl, ext_trans (ext_trans Hb.out Hb5.out) (by repeat (first | exact hbx | apply ext_drew))⟩
end Go.Proofs.YtmggajpecgnjkaaDoor

/-
  RegexMakes, its walk: the expression of a text, and of many. No statement of the seat is proved here (RegexMakes closes it).
-/
namespace Go.Proofs.YtmggajpecgnjkaaDoor
open Go Go.ChangeShapes Go.WideShapes Go.ChangeAt Go.RowKit
set_option maxRecDepth 100000

theorem nodesL_each {l : List Ex} (h : ∀ x ∈ l, nodesE x ≤ 50) : nodesL l ≤ 50 * l.length := by
  have := nodesL_le h
  omega
set_option maxHeartbeats 4000000 in
theorem makes_any (s : ByteArray) (A : Option Addr) (c : Nat) (l : List Ex) (w : World) (ht : Tab w) (hs : s.size ≤ maxLen) (hc : l.length ≤ c) (hm : c ≤ maxLen) (hk : Kids (fun _ => True) w A l) :
    Calls Tryd.prog 7 #[.string s, .slice A l.length c] w fun e w' => e = .returned (.bool true) ∧ Below w.heap.size w w' := by
  have hm' := hm
  unfold maxLen at hm' hs
  by_cases h1 : 300 < s.size
  · have h1i : (300 : Int) < (s.size : Int) := by omega
    clear hk ht
    go_enter Tryd.func7, Tryd.ntmps7
    go_wp2
    go_ret
    exact ⟨rfl, Below.refl _ _⟩
  have h1i : (s.size : Int) ≤ 300 := by omega
  by_cases h2 : 20 < l.length
  · have h2i : (20 : Int) < (l.length : Int) := by omega
    clear hk ht
    go_enter Tryd.func7, Tryd.ntmps7
    go_wp2
    go_ret
    exact ⟨rfl, Below.refl _ _⟩
  have h2i : (l.length : Int) ≤ 20 := by omega
  have Ht := Lib.hid ht
  have Hk := Lib.hid hk
  have Hm := Lib.hid hm
  clear ht hk hm
  go_enter Tryd.func7, Tryd.ntmps7
  go_wp2
  go_loopw [5] (fun i wr => ∃ k : Nat, k ≤ l.length ∧ i = .int .i64 (k : Int) ∧ Hid (∀ x ∈ l.take k, nodesE x ≤ 50) ∧ Hid (Below w.heap.size w wr)) (fun i _ => l.length - (intOf i).toNat)
  case atStart => exact ⟨0, Nat.zero_le _, rfl, Lib.hid (by simp), Lib.hid (Below.refl _ _)⟩
  case round =>
    obtain ⟨k, hk, rfl, hall, hb⟩ := hrel
    by_cases hlt : k < l.length
    · have hki : (k : Int) < (l.length : Int) := by omega
      obtain ⟨g, o, k', q0, q1, q2, q3, ks', A', c', lo', hi', rfl, hx, hr, x0, x1, x2, x3, x4, x5, x6, x7, -⟩ := (Hk.out.ext hb.out).kidX hlt
      have HW := Lib.hid (weight_any _ _ _ wr 50 hr (by omega) (by omega))
      obtain ⟨q, hq⟩ : ∃ q, leftE l[k] 50 = q := ⟨_, rfl⟩
      rw [hq] at HW
      have hqn := leftE_nodes l[k] 50
      rw [hq] at hqn
      have hqi := leftE_low l[k] 50 (by omega)
      rw [hq] at hqi
      have Hqn := Lib.hid hqn
      have hq2 : q ≤ 50 := hqn.1
      have Hts : Hid (l.take (k + 1) = l.take k ++ [l[k]]) := Lib.hid (List.take_succ_eq_append_getElem hlt)
      clear hq hqn hx hr
      go_wp2_with fail
      refine HW.out.mono ?_
      rintro e w2 ⟨rfl, hb2⟩
      have Hb2 := Lib.hid (ext_trans hb.out hb2)
      clear hb2 x0 x1 x2 x3 x4 x5 x6 x7
      by_cases hq0 : q < 0
      · go_wp2
        go_ret
        exact ⟨rfl, Hb2.out⟩
      · have hq0' : 0 ≤ q := by omega
        clear hq0
        go_wp2
        go_roundw
        case rel => exact ⟨k + 1, by omega, by go_num, Lib.hid (by
            rw [Hts.out]
            intro x hx
            rcases List.mem_append.1 hx with h | h
            · exact hall.out x h
            · rw [List.mem_singleton.1 h]
              have := Hqn.out.2 hq0'
              omega), Hb2⟩
        case measure => simp [intOf]; omega
    · obtain rfl : k = l.length := by omega
      have hall' := hall.out
      rw [List.take_length] at hall'
      have hN : nodesL l ≤ 1000000 := by have := nodesL_each hall'; omega
      have hNs : nodesE (seqE l) ≤ 1000000 := by
        match l, hN with
        | [], _ => decide
        | [x], h => simp only [nodesL] at h; exact h
        | x :: y :: r, h => simp only [seqE, nodesE]; have := nodesL_each hall'; omega
      have hNa : nodesE (altE l) ≤ 1000000 := by
        match l, hN with
        | [], _ => decide
        | [x], h => simp only [nodesL] at h; exact h
        | x :: y :: r, h => simp only [altE, nodesE]; have := nodesL_each hall'; omega
      have hNt : nodesE (textX (natsOf s)) ≤ 1000000 := by
        have := (sm_textX (natsOf s) (natsOf_lt s)).nodes
        rw [natsOf_len] at this
        omega
      have HP : Hid (∀ W, Calls Tryd.prog 26 #[.string s] W fun e w' => ∃ cs, e = .returned (reV cs) ∧ ReR (fun g => W.heap.size ≤ g) w' (textX (natsOf s)) cs ∧ Below W.heap.size W w') := Lib.hid fun W => ptext_any s W (by omega)
      have HR : Hid (∀ W, Calls Tryd.prog 27 #[.string s] W fun e w' => ∃ cs, e = .returned (reV cs) ∧ ReR (fun g => W.heap.size ≤ g) w' (textX (natsOf s)) cs ∧ Below W.heap.size W w') := Lib.hid fun W => rtextx_any s W (by omega)
      have HSq : Hid (∀ W, Below wr.heap.size wr W → Calls Tryd.prog 28 #[.slice A l.length c] W fun e w' => ∃ cs, e = .returned (reV cs) ∧ ReR (fun g => W.heap.size ≤ g) w' (seqE l) cs ∧ Below W.heap.size W w') := Lib.hid fun W hW => pseq_any (fun _ => True) A l.length c l W rfl hc Hm.out (Hk.out.ext (ext_trans hb.out hW)) hN
      have HAl : Hid (∀ W, Below wr.heap.size wr W → Calls Tryd.prog 30 #[.slice A l.length c] W fun e w' => ∃ cs, e = .returned (reV cs) ∧ ReR (fun g => W.heap.size ≤ g) w' (altE l) cs ∧ Below W.heap.size W w') := Lib.hid fun W hW => palt_any (fun _ => True) A l.length c l W rfl hc Hm.out (Hk.out.ext (ext_trans hb.out hW)) hN
      have HRs : Hid (∀ W, Below wr.heap.size wr W → Calls Tryd.prog 29 #[.slice A l.length c] W fun e w' => ∃ cs, e = .returned (reV cs) ∧ ReR (fun _ => True) w' (seqE l) cs ∧ Below W.heap.size W w') := Lib.hid fun W hW => rseq_any (fun _ => True) A l.length c l W rfl hc Hm.out (Hk.out.ext (ext_trans hb.out hW))
      have HRa : Hid (∀ W, Below wr.heap.size wr W → Calls Tryd.prog 31 #[.slice A l.length c] W fun e w' => ∃ cs, e = .returned (reV cs) ∧ ReR (fun _ => True) w' (altE l) cs ∧ Below W.heap.size W w') := Lib.hid fun W hW => ralt_any (fun _ => True) A l.length c l W rfl hc Hm.out (Hk.out.ext (ext_trans hb.out hW))
      have HSa : Hid (∀ (S T : Nat → Prop) W t cs ds, nodesE t ≤ 1000000 → ReR S W t cs → ReR T W t ds → Calls Tryd.prog 18 #[reV cs, reV ds] W fun e w' => e = .returned (.bool true) ∧ Below W.heap.size W w') := Lib.hid fun S T W t cs ds hn h1 h2 => by
        have := rsame_any S T t t cs ds W h1 h2 hn
        rwa [(sameE_iff t t).2 rfl] at this
      have HNs := Lib.hid hNs
      have HNa := Lib.hid hNa
      have HNt := Lib.hid hNt
      have HTab : Hid (∀ W, Below wr.heap.size wr W → Tab W) := Lib.hid fun W hW => Ht.out.ext (ext_trans hb.out hW)
      clear hall hall' hN hNs hNa hNt
      go_wp2_with fail
      refine (HP.out _).mono ?_
      rintro e w2 ⟨cs2, rfl, hr2, hb2⟩
      have Hr2 := Lib.hid hr2
      have Hb2 := Lib.hid hb2
      clear hr2 hb2
      go_wp2_with fail
      refine (HR.out _).mono ?_
      rintro e w3 ⟨cs3, rfl, hr3, hb3⟩
      have hS3 := HSa.out _ _ w3 _ cs2 cs3 HNt.out (Hr2.out.ext hb3) hr3
      have Hb3 := Lib.hid (ext_trans Hb2.out hb3)
      clear hr3 hb3
      go_wp2_with fail
      refine hS3.mono ?_
      rintro e w4 ⟨rfl, hb4⟩
      have Hb4 := Lib.hid (ext_trans Hb3.out hb4)
      clear hb4 hS3
      go_wp2_with fail
      refine (HSq.out _ Hb4.out).mono ?_
      rintro e w5 ⟨cs5, rfl, hr5, hb5⟩
      have Hr5 := Lib.hid hr5
      have Hb5 := Lib.hid (ext_trans Hb4.out hb5)
      clear hr5 hb5
      go_wp2_with fail
      refine (HRs.out _ Hb5.out).mono ?_
      rintro e w6 ⟨cs6, rfl, hr6, hb6⟩
      have hS6 := HSa.out _ _ w6 _ cs5 cs6 HNs.out (Hr5.out.ext hb6) hr6
      have Hb6 := Lib.hid (ext_trans Hb5.out hb6)
      clear hr6 hb6
      go_wp2_with fail
      refine hS6.mono ?_
      rintro e w7 ⟨rfl, hb7⟩
      have Hb7 := Lib.hid (ext_trans Hb6.out hb7)
      clear hb7 hS6
      go_wp2_with fail
      refine (HAl.out _ Hb7.out).mono ?_
      rintro e w8 ⟨cs8, rfl, hr8, hb8⟩
      have Hr8 := Lib.hid hr8
      have Hb8 := Lib.hid (ext_trans Hb7.out hb8)
      clear hr8 hb8
      go_wp2_with fail
      refine (HRa.out _ Hb8.out).mono ?_
      rintro e w9 ⟨cs9, rfl, hr9, hb9⟩
      have hS9 := HSa.out _ _ w9 _ cs8 cs9 HNa.out (Hr8.out.ext hb9) hr9
      have Hb9 := Lib.hid (ext_trans Hb8.out hb9)
      clear hr9 hb9
      go_wp2_with fail
      refine hS9.mono ?_
      rintro e w10 ⟨rfl, hb10⟩
      have Hb10 := Lib.hid (ext_trans Hb9.out hb10)
      clear hb10 hS9
      go_wp2_with fail
      refine (known_any _ (HTab.out _ Hb10.out)).mono ?_
      rintro e w11 ⟨rfl, hb11⟩
      go_wp2
      go_ret
      exact ⟨rfl, ext_trans hb.out (ext_trans Hb10.out hb11)⟩
end Go.Proofs.YtmggajpecgnjkaaDoor

/-
  RegexLooks, its walk: any expression as a text, whether it may be; any two whether they are one. No statement of the seat is proved here (RegexLooks closes it).
-/
namespace Go.Proofs.YtmggajpecgnjkaaDoor
open Go Go.ChangeShapes Go.WideShapes Go.ChangeAt Go.RowKit
set_option maxRecDepth 100000

set_option maxHeartbeats 4000000 in
theorem looks_any (a b : Ex) (cs ds : List Value) (w : World) (ht : Tab w) (ha : ReR (fun _ => True) w a cs) (hbb : ReR (fun _ => True) w b ds) :
    Calls Tryd.prog 4 #[reV cs, reV ds] w fun e w' => e = .returned (.bool true) ∧ Below w.heap.size w w' := by
  obtain ⟨k, p0, p1, p2, p3, ks, A, c, lo, hi, -, rfl, h1, h2, -, -, -, -, -⟩ := ha.fields
  obtain ⟨k', q0, q1, q2, q3, ks', A', c', lo', hi', -, rfl, h1', h2', -, -, -, -, -⟩ := hbb.fields
  unfold maxLen at h2 h2'
  have hbox := ext2 w (Obj.cells #[.int .i64 k, .int .u64 (p0 : Int), .int .u64 (p1 : Int), .int .u64 (p2 : Int), .int .u64 (p3 : Int), .slice A ks.length c, .int .i64 lo, .int .i64 hi] 27) (Obj.cells #[.int .i64 k', .int .u64 (q0 : Int), .int .u64 (q1 : Int), .int .u64 (q2 : Int), .int .u64 (q3 : Int), .slice A' ks'.length c', .int .i64 lo', .int .i64 hi'] 27)
  obtain ⟨w1, hw1⟩ : ∃ w1, w1 = (w.alloc (Obj.cells #[.int .i64 k, .int .u64 (p0 : Int), .int .u64 (p1 : Int), .int .u64 (p2 : Int), .int .u64 (p3 : Int), .slice A ks.length c, .int .i64 lo, .int .i64 hi] 27)).alloc (Obj.cells #[.int .i64 k', .int .u64 (q0 : Int), .int .u64 (q1 : Int), .int .u64 (q2 : Int), .int .u64 (q3 : Int), .slice A' ks'.length c', .int .i64 lo', .int .i64 hi'] 27) := ⟨_, rfl⟩
  have hB1 : Blk w1 w.heap.size 27 #[.int .i64 k, .int .u64 (p0 : Int), .int .u64 (p1 : Int), .int .u64 (p2 : Int), .int .u64 (p3 : Int), .slice A ks.length c, .int .i64 lo, .int .i64 hi] := by rw [hw1]; exact (Blk.new w _ _).alloc _
  have hB2 : Blk w1 (w.heap.size + 1) 27 #[.int .i64 k', .int .u64 (q0 : Int), .int .u64 (q1 : Int), .int .u64 (q2 : Int), .int .u64 (q3 : Int), .slice A' ks'.length c', .int .i64 lo', .int .i64 hi'] := by
    have := Blk.new (w.alloc (Obj.cells #[.int .i64 k, .int .u64 (p0 : Int), .int .u64 (p1 : Int), .int .u64 (p2 : Int), .int .u64 (p3 : Int), .slice A ks.length c, .int .i64 lo, .int .i64 hi] 27)) 27 #[.int .i64 k', .int .u64 (q0 : Int), .int .u64 (q1 : Int), .int .u64 (q2 : Int), .int .u64 (q3 : Int), .slice A' ks'.length c', .int .i64 lo', .int .i64 hi']
    rw [World.size_alloc] at this
    rw [hw1]; exact this
  rw [← hw1] at hbox
  have HS : Hid (∀ W, Below w1.heap.size w1 W → W.cell? ⟨w.heap.size, 0, none⟩ = some (.int .i64 k) ∧ W.cell? ⟨w.heap.size, 1, none⟩ = some (.int .u64 (p0 : Int)) ∧ W.cell? ⟨w.heap.size, 2, none⟩ = some (.int .u64 (p1 : Int)) ∧ W.cell? ⟨w.heap.size, 3, none⟩ = some (.int .u64 (p2 : Int)) ∧ W.cell? ⟨w.heap.size, 4, none⟩ = some (.int .u64 (p3 : Int)) ∧ W.cell? ⟨w.heap.size, 5, none⟩ = some (.slice A ks.length c) ∧ W.cell? ⟨w.heap.size, 6, none⟩ = some (.int .i64 lo) ∧ W.cell? ⟨w.heap.size, 7, none⟩ = some (.int .i64 hi) ∧ W.cell? ⟨w.heap.size + 1, 0, none⟩ = some (.int .i64 k') ∧ W.cell? ⟨w.heap.size + 1, 1, none⟩ = some (.int .u64 (q0 : Int)) ∧ W.cell? ⟨w.heap.size + 1, 2, none⟩ = some (.int .u64 (q1 : Int)) ∧ W.cell? ⟨w.heap.size + 1, 3, none⟩ = some (.int .u64 (q2 : Int)) ∧ W.cell? ⟨w.heap.size + 1, 4, none⟩ = some (.int .u64 (q3 : Int)) ∧ W.cell? ⟨w.heap.size + 1, 5, none⟩ = some (.slice A' ks'.length c') ∧ W.cell? ⟨w.heap.size + 1, 6, none⟩ = some (.int .i64 lo') ∧ W.cell? ⟨w.heap.size + 1, 7, none⟩ = some (.int .i64 hi')) := Lib.hid fun W hW =>
    have kB1 := hB1.ext hW
    have kB2 := hB2.ext hW
    ⟨kB1.cell 0, kB1.cell 1, kB1.cell 2, kB1.cell 3, kB1.cell 4, kB1.cell 5, kB1.cell 6, kB1.cell 7, kB2.cell 0, kB2.cell 1, kB2.cell 2, kB2.cell 3, kB2.cell 4, kB2.cell 5, kB2.cell 6, kB2.cell 7⟩
  have HWa : Hid (∀ W, Below w1.heap.size w1 W → Calls Tryd.prog 20 #[.agg #[.int .i64 k, .int .u64 (p0 : Int), .int .u64 (p1 : Int), .int .u64 (p2 : Int), .int .u64 (p3 : Int), .slice A ks.length c, .int .i64 lo, .int .i64 hi], .int .i64 150] W fun e w' => e = .returned (.int .i64 (leftE a 150)) ∧ Below W.heap.size W w') := Lib.hid fun W hW => weight_any _ a _ W 150 (ha.ext (ext_trans hbox hW)) (by omega) (by omega)
  have HWb : Hid (∀ W, Below w1.heap.size w1 W → Calls Tryd.prog 20 #[.agg #[.int .i64 k', .int .u64 (q0 : Int), .int .u64 (q1 : Int), .int .u64 (q2 : Int), .int .u64 (q3 : Int), .slice A' ks'.length c', .int .i64 lo', .int .i64 hi'], .int .i64 150] W fun e w' => e = .returned (.int .i64 (leftE b 150)) ∧ Below W.heap.size W w') := Lib.hid fun W hW => weight_any _ b _ W 150 (hbb.ext (ext_trans hbox hW)) (by omega) (by omega)
  obtain ⟨qa, hqa⟩ : ∃ q, leftE a 150 = q := ⟨_, rfl⟩
  obtain ⟨qb, hqb⟩ : ∃ q, leftE b 150 = q := ⟨_, rfl⟩
  rw [hqa] at HWa
  rw [hqb] at HWb
  have hna := leftE_nodes a 150
  have hnb := leftE_nodes b 150
  have hia := leftE_low a 150 (by omega)
  have hib := leftE_low b 150 (by omega)
  rw [hqa] at hna hia
  rw [hqb] at hnb hib
  have hqa2 : qa ≤ 150 := hna.1
  have hqb2 : qb ≤ 150 := hnb.1
  have Hna := Lib.hid hna
  have Hnb := Lib.hid hnb
  have Ha := Lib.hid ha
  have Hbb := Lib.hid hbb
  have Ht := Lib.hid ht
  have Hbox := Lib.hid hbox
  have Hw1 := Lib.hid hw1
  obtain ⟨c0, c1, c2, c3, c4, c5, c6, c7, d0, d1, d2, d3, d4, d5, d6, d7⟩ := HS.out w1 (Below.refl _ _)
  rw [hw1] at c0 c1 c2 c3 c4 c5 c6 c7 d0 d1 d2 d3 d4 d5 d6 d7
  clear hqa hqb hna hnb ha hbb ht hbox hB1 hB2 hw1
  show Calls Tryd.prog 4 #[.agg #[.int .i64 k, .int .u64 (p0 : Int), .int .u64 (p1 : Int), .int .u64 (p2 : Int), .int .u64 (p3 : Int), .slice A ks.length c, .int .i64 lo, .int .i64 hi], .agg #[.int .i64 k', .int .u64 (q0 : Int), .int .u64 (q1 : Int), .int .u64 (q2 : Int), .int .u64 (q3 : Int), .slice A' ks'.length c', .int .i64 lo', .int .i64 hi']] w _
  go_enter Tryd.func4, Tryd.ntmps4
  go_wp2_with fail
  rw [← Hw1.out]
  refine (HWa.out _ (Below.refl _ _)).mono ?_
  rintro e w3 ⟨rfl, hb3⟩
  have Hb3 := Lib.hid hb3
  clear c0 c1 c2 c3 c4 c5 c6 c7 d0 d1 d2 d3 d4 d5 d6 d7
  obtain ⟨c0, c1, c2, c3, c4, c5, c6, c7, d0, d1, d2, d3, d4, d5, d6, d7⟩ := HS.out w3 Hb3.out
  clear hb3
  by_cases hqa0 : qa < 0
  · clear c0 c1 c2 c3 c4 c5 c6 c7 d0 d1 d2 d3 d4 d5 d6 d7
    go_wp2
    go_ret
    exact ⟨rfl, ext_trans Hbox.out Hb3.out⟩
  have hqa0' : 0 ≤ qa := by omega
  clear hqa0
  go_wp2_with fail
  refine (HWb.out _ Hb3.out).mono ?_
  rintro e w4 ⟨rfl, hb4⟩
  have Hb4 := Lib.hid (ext_trans Hb3.out hb4)
  clear hb4 c0 c1 c2 c3 c4 c5 c6 c7 d0 d1 d2 d3 d4 d5 d6 d7
  by_cases hqb0 : qb < 0
  · go_wp2
    go_ret
    exact ⟨rfl, ext_trans Hbox.out Hb4.out⟩
  have hqb0' : 0 ≤ qb := by omega
  clear hqb0
  have hnA : nodesE a ≤ 1000000 := by have := Hna.out.2 hqa0'; omega
  have hnB : nodesE b ≤ 1000000 := by have := Hnb.out.2 hqb0'; omega
  obtain ⟨Z, hZ⟩ : ∃ Z, bsN (printE a) = Z := ⟨_, rfl⟩
  obtain ⟨I, hI⟩ : ∃ I, isE a = I := ⟨_, rfl⟩
  obtain ⟨q, hq⟩ : ∃ q, sameE a b = q := ⟨_, rfl⟩
  have HA : Hid (∀ W, Below w4.heap.size w4 W → ReR (fun _ => True) W a [.int .i64 k, .int .u64 (p0 : Int), .int .u64 (p1 : Int), .int .u64 (p2 : Int), .int .u64 (p3 : Int), .slice A ks.length c, .int .i64 lo, .int .i64 hi]) := Lib.hid fun W hW => Ha.out.ext (ext_trans (ext_trans Hbox.out Hb4.out) hW)
  have HB : Hid (∀ W, Below w4.heap.size w4 W → ReR (fun _ => True) W b [.int .i64 k', .int .u64 (q0 : Int), .int .u64 (q1 : Int), .int .u64 (q2 : Int), .int .u64 (q3 : Int), .slice A' ks'.length c', .int .i64 lo', .int .i64 hi']) := Lib.hid fun W hW => Hbb.out.ext (ext_trans (ext_trans Hbox.out Hb4.out) hW)
  have HTab : Hid (∀ W, Below w4.heap.size w4 W → Tab W) := Lib.hid fun W hW => Ht.out.ext (ext_trans (ext_trans Hbox.out Hb4.out) hW)
  have HPp : Hid (∀ W, Below w4.heap.size w4 W → Calls Tryd.prog 21 #[.agg #[.int .i64 k, .int .u64 (p0 : Int), .int .u64 (p1 : Int), .int .u64 (p2 : Int), .int .u64 (p3 : Int), .slice A ks.length c, .int .i64 lo, .int .i64 hi]] W fun e w' => e = .returned (.string Z) ∧ Below W.heap.size W w') := Lib.hid fun W hW => by have := pprint_any _ a _ W (HTab.out W hW) (HA.out W hW); rwa [hZ] at this
  have HPr : Hid (∀ W, Below w4.heap.size w4 W → Calls Tryd.prog 22 #[.agg #[.int .i64 k, .int .u64 (p0 : Int), .int .u64 (p1 : Int), .int .u64 (p2 : Int), .int .u64 (p3 : Int), .slice A ks.length c, .int .i64 lo, .int .i64 hi]] W fun e w' => e = .returned (.string Z) ∧ Below W.heap.size W w') := Lib.hid fun W hW => by have := rprint_any _ a _ W (HA.out W hW) hnA; rwa [hZ] at this
  have HIp : Hid (∀ W, Below w4.heap.size w4 W → Calls Tryd.prog 23 #[.agg #[.int .i64 k, .int .u64 (p0 : Int), .int .u64 (p1 : Int), .int .u64 (p2 : Int), .int .u64 (p3 : Int), .slice A ks.length c, .int .i64 lo, .int .i64 hi]] W fun e w' => e = .returned (.bool I) ∧ Below W.heap.size W w') := Lib.hid fun W hW => by have := pis_any _ a _ W (HTab.out W hW) (HA.out W hW); rwa [hI] at this
  have HIr : Hid (∀ W, Below w4.heap.size w4 W → Calls Tryd.prog 24 #[.agg #[.int .i64 k, .int .u64 (p0 : Int), .int .u64 (p1 : Int), .int .u64 (p2 : Int), .int .u64 (p3 : Int), .slice A ks.length c, .int .i64 lo, .int .i64 hi]] W fun e w' => e = .returned (.bool I) ∧ Below W.heap.size W w') := Lib.hid fun W hW => by have := ris_any _ a _ W (HA.out W hW) hnA; rwa [hI] at this
  have HSp : Hid (∀ W, Below w4.heap.size w4 W → Calls Tryd.prog 25 #[.agg #[.int .i64 k, .int .u64 (p0 : Int), .int .u64 (p1 : Int), .int .u64 (p2 : Int), .int .u64 (p3 : Int), .slice A ks.length c, .int .i64 lo, .int .i64 hi], .agg #[.int .i64 k', .int .u64 (q0 : Int), .int .u64 (q1 : Int), .int .u64 (q2 : Int), .int .u64 (q3 : Int), .slice A' ks'.length c', .int .i64 lo', .int .i64 hi']] W fun e w' => e = .returned (.bool q) ∧ Below W.heap.size W w') := Lib.hid fun W hW => by have := psame_any _ _ a b _ _ W (HA.out W hW) (HB.out W hW) hnA; rwa [hq] at this
  have HSr : Hid (∀ W, Below w4.heap.size w4 W → Calls Tryd.prog 18 #[.agg #[.int .i64 k, .int .u64 (p0 : Int), .int .u64 (p1 : Int), .int .u64 (p2 : Int), .int .u64 (p3 : Int), .slice A ks.length c, .int .i64 lo, .int .i64 hi], .agg #[.int .i64 k', .int .u64 (q0 : Int), .int .u64 (q1 : Int), .int .u64 (q2 : Int), .int .u64 (q3 : Int), .slice A' ks'.length c', .int .i64 lo', .int .i64 hi']] W fun e w' => e = .returned (.bool q) ∧ Below W.heap.size W w') := Lib.hid fun W hW => by have := rsame_any _ _ a b _ _ W (HA.out W hW) (HB.out W hW) hnA; rwa [hq] at this
  have HSs : Hid (∀ W, Below w4.heap.size w4 W → Calls Tryd.prog 25 #[.agg #[.int .i64 k, .int .u64 (p0 : Int), .int .u64 (p1 : Int), .int .u64 (p2 : Int), .int .u64 (p3 : Int), .slice A ks.length c, .int .i64 lo, .int .i64 hi], .agg #[.int .i64 k, .int .u64 (p0 : Int), .int .u64 (p1 : Int), .int .u64 (p2 : Int), .int .u64 (p3 : Int), .slice A ks.length c, .int .i64 lo, .int .i64 hi]] W fun e w' => e = .returned (.bool true) ∧ Below W.heap.size W w') := Lib.hid fun W hW => by have := psame_any _ _ a a _ _ W (HA.out W hW) (HA.out W hW) hnA; rwa [(sameE_iff a a).2 rfl] at this
  have HSw : Hid (∀ W, Below w4.heap.size w4 W → W.cell? ⟨w.heap.size, 0, none⟩ = some (.int .i64 k) ∧ W.cell? ⟨w.heap.size, 1, none⟩ = some (.int .u64 (p0 : Int)) ∧ W.cell? ⟨w.heap.size, 2, none⟩ = some (.int .u64 (p1 : Int)) ∧ W.cell? ⟨w.heap.size, 3, none⟩ = some (.int .u64 (p2 : Int)) ∧ W.cell? ⟨w.heap.size, 4, none⟩ = some (.int .u64 (p3 : Int)) ∧ W.cell? ⟨w.heap.size, 5, none⟩ = some (.slice A ks.length c) ∧ W.cell? ⟨w.heap.size, 6, none⟩ = some (.int .i64 lo) ∧ W.cell? ⟨w.heap.size, 7, none⟩ = some (.int .i64 hi) ∧ W.cell? ⟨w.heap.size + 1, 0, none⟩ = some (.int .i64 k') ∧ W.cell? ⟨w.heap.size + 1, 1, none⟩ = some (.int .u64 (q0 : Int)) ∧ W.cell? ⟨w.heap.size + 1, 2, none⟩ = some (.int .u64 (q1 : Int)) ∧ W.cell? ⟨w.heap.size + 1, 3, none⟩ = some (.int .u64 (q2 : Int)) ∧ W.cell? ⟨w.heap.size + 1, 4, none⟩ = some (.int .u64 (q3 : Int)) ∧ W.cell? ⟨w.heap.size + 1, 5, none⟩ = some (.slice A' ks'.length c') ∧ W.cell? ⟨w.heap.size + 1, 6, none⟩ = some (.int .i64 lo') ∧ W.cell? ⟨w.heap.size + 1, 7, none⟩ = some (.int .i64 hi')) := Lib.hid fun W hW => HS.out W (ext_trans Hb4.out hW)
  clear hZ hI hq hnA hnB HS HWa HWb
  go_wp2
  go_region_held3 (fun W => W.cell? ⟨w.heap.size, 0, none⟩ = some (.int .i64 k) ∧ W.cell? ⟨w.heap.size, 1, none⟩ = some (.int .u64 (p0 : Int)) ∧ W.cell? ⟨w.heap.size, 2, none⟩ = some (.int .u64 (p1 : Int)) ∧ W.cell? ⟨w.heap.size, 3, none⟩ = some (.int .u64 (p2 : Int)) ∧ W.cell? ⟨w.heap.size, 4, none⟩ = some (.int .u64 (p3 : Int)) ∧ W.cell? ⟨w.heap.size, 5, none⟩ = some (.slice A ks.length c) ∧ W.cell? ⟨w.heap.size, 6, none⟩ = some (.int .i64 lo) ∧ W.cell? ⟨w.heap.size, 7, none⟩ = some (.int .i64 hi) ∧ W.cell? ⟨w.heap.size + 1, 0, none⟩ = some (.int .i64 k') ∧ W.cell? ⟨w.heap.size + 1, 1, none⟩ = some (.int .u64 (q0 : Int)) ∧ W.cell? ⟨w.heap.size + 1, 2, none⟩ = some (.int .u64 (q1 : Int)) ∧ W.cell? ⟨w.heap.size + 1, 3, none⟩ = some (.int .u64 (q2 : Int)) ∧ W.cell? ⟨w.heap.size + 1, 4, none⟩ = some (.int .u64 (q3 : Int)) ∧ W.cell? ⟨w.heap.size + 1, 5, none⟩ = some (.slice A' ks'.length c') ∧ W.cell? ⟨w.heap.size + 1, 6, none⟩ = some (.int .i64 lo') ∧ W.cell? ⟨w.heap.size + 1, 7, none⟩ = some (.int .i64 hi'))
    (first | exact HSw.out _ (by repeat (first | exact hbx | apply ext_drew | exact Below.refl _ _)))
    (first
    | (go_at_call 21; ((with_reducible refine (HPp.out _ ?_).mono ?_)); (repeat (first | exact hbx | apply ext_drew | exact Below.refl _ _)); rintro e x1 ⟨rfl, hbx'⟩; have hbx : Below w4.heap.size w4 x1 := ext_trans (by repeat (first | exact hbx | apply ext_drew | exact Below.refl _ _)) hbx')
    | (go_at_call 22; ((with_reducible refine (HPr.out _ ?_).mono ?_)); (repeat (first | exact hbx | apply ext_drew | exact Below.refl _ _)); rintro e x2 ⟨rfl, hbx'⟩; have hbx : Below w4.heap.size w4 x2 := ext_trans (by repeat (first | exact hbx | apply ext_drew | exact Below.refl _ _)) hbx')
    | (go_at_call 23; ((with_reducible refine (HIp.out _ ?_).mono ?_)); (repeat (first | exact hbx | apply ext_drew | exact Below.refl _ _)); rintro e x3 ⟨rfl, hbx'⟩; have hbx : Below w4.heap.size w4 x3 := ext_trans (by repeat (first | exact hbx | apply ext_drew | exact Below.refl _ _)) hbx')
    | (go_at_call 24; ((with_reducible refine (HIr.out _ ?_).mono ?_)); (repeat (first | exact hbx | apply ext_drew | exact Below.refl _ _)); rintro e x4 ⟨rfl, hbx'⟩; have hbx : Below w4.heap.size w4 x4 := ext_trans (by repeat (first | exact hbx | apply ext_drew | exact Below.refl _ _)) hbx')
    | (go_at_call 25; ((with_reducible refine (HSp.out _ ?_).mono ?_)); (repeat (first | exact hbx | apply ext_drew | exact Below.refl _ _)); rintro e x5 ⟨rfl, hbx'⟩; have hbx : Below w4.heap.size w4 x5 := ext_trans (by repeat (first | exact hbx | apply ext_drew | exact Below.refl _ _)) hbx')
    | (go_at_call 18; ((with_reducible refine (HSr.out _ ?_).mono ?_)); (repeat (first | exact hbx | apply ext_drew | exact Below.refl _ _)); rintro e x6 ⟨rfl, hbx'⟩; have hbx : Below w4.heap.size w4 x6 := ext_trans (by repeat (first | exact hbx | apply ext_drew | exact Below.refl _ _)) hbx')
    | (go_at_call 25; ((with_reducible refine (HSs.out _ ?_).mono ?_)); (repeat (first | exact hbx | apply ext_drew | exact Below.refl _ _)); rintro e x7 ⟨rfl, hbx'⟩; have hbx : Below w4.heap.size w4 x7 := ext_trans (by repeat (first | exact hbx | apply ext_drew | exact Below.refl _ _)) hbx')
    | (go_at_call 19; ((with_reducible refine (known_any _ (HTab.out _ ?_)).mono ?_)); (repeat (first | exact hbx | apply ext_drew | exact Below.refl _ _)); rintro e x8 ⟨rfl, hbx'⟩; have hbx : Below w4.heap.size w4 x8 := ext_trans (by repeat (first | exact hbx | apply ext_drew | exact Below.refl _ _)) hbx'))
  all_goals
    go_wp2
    go_ret
    exact ⟨rfl, ext_trans (ext_trans Hbox.out Hb4.out) (by repeat (first | exact hbx | apply ext_drew))⟩
end Go.Proofs.YtmggajpecgnjkaaDoor
