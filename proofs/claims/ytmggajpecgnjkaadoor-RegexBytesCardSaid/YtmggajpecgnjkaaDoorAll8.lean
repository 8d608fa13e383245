/-
  Texts of this claim, joined (part 8): contracts and lemmas that the last text goes by. No statement of the seat is proved here.
-/
import Derived.Test.YtmggajpecgnjkaaDoorAll7
import Derived.Test.YtmggajpecgnjkaaDoorAll2
import Derived.Test.YtmggajpecgnjkaaDoorAll5
import Derived.Test.YtmggajpecgnjkaaDoorAll3
import Derived.Test.YtmggajpecgnjkaaDoorCards
import Derived.Test.YtmggajpecgnjkaaDoorTie
import Derived.Lib.LaidTab
import Derived.Stop.LaidErr
set_option linter.unusedVariables false
set_option linter.unusedSimpArgs false
/-
  What stage 6's laws share: the table out of 'laid', known, weight. No statement of the seat is proved here.
-/
namespace Go.Proofs.YtmggajpecgnjkaaDoor
open Go Go.ChangeShapes Go.WideShapes Go.ChangeAt Go.RowKit
set_option maxRecDepth 100000

theorem cells_tab : Tryd.prog.cellsOf 150 = 64 := by kernel_rfl
theorem gTab : Tryd.prog.globalNamed "math/bits.deBruijn64tab" = some 0 := by kernel_rfl
theorem gTabType : (Tryd.prog.globals[0]?).map (·.type) = some 150 := by kernel_rfl
/-- the list of every row of this seat -/
def theLaid : List (String × DataW Unit) := [("math/bits.deBruijn32tab", Rows.laid_math_bits_deBruijn32tab), ("math/bits.deBruijn64tab", Rows.laid_math_bits_deBruijn64tab), ("internal/strconv.uint64pow10", Rows.laid_internal_strconv_uint64pow10)]
theorem tab_same : ∀ i : Fin 64, (([0, 1, 56, 2, 57, 49, 28, 3, 61, 58, 42, 50, 38, 29, 17, 4, 62, 47, 59, 36, 45, 43, 51, 22, 53, 39, 33, 30, 24, 18, 12, 5, 63, 55, 48, 27, 60, 41, 37, 16, 46, 35, 44, 21, 52, 32, 23, 11, 54, 26, 40, 15, 34, 20, 31, 10, 25, 14, 19, 9, 13, 8, 7, 6] : List Int).getD i.val 0) = ((Lib.deBruijn64tab.getD i.val 0 : Nat) : Int) := by decide +kernel
theorem tab_of_laid {W : World} (h : laidMetH Tryd.prog theLaid W) : Tab W := by
  have h1 : Lib.TabIs Tryd.prog W "math/bits.deBruijn64tab" .u8 [0, 1, 56, 2, 57, 49, 28, 3, 61, 58, 42, 50, 38, 29, 17, 4, 62, 47, 59, 36, 45, 43, 51, 22, 53, 39, 33, 30, 24, 18, 12, 5, 63, 55, 48, 27, 60, 41, 37, 16, 46, 35, 44, 21, 52, 32, 23, 11, 54, 26, 40, 15, 34, 20, 31, 10, 25, 14, 19, 9, 13, 8, 7, 6] :=
    Lib.tabIs_of_head (rest := [("internal/strconv.uint64pow10", Rows.laid_internal_strconv_uint64pow10)]) gTab gTabType Tryd.underlying150 Tryd.underlying5 cells_u8 cells_tab (laidMet.tail (x := ("math/bits.deBruijn32tab", Rows.laid_math_bits_deBruijn32tab)) h)
  intro i hi
  have hi' : i < 64 := hi
  have h2 := h1.cell gTab i (by simpa using hi')
  rw [h2]
  have h3 := tab_same ⟨i, hi'⟩
  exact congrArg (fun z => some (Value.int .u8 z)) h3

/-! ### known -/
def knownL : List Nat := [97, 40, 98, 124, 41, 91, 48, 45, 57, 93, 123, 50, 44, 125]
theorem known_parse : (parseE knownL).2 = (0, 0) ∧ printE (parseE knownL).1 = knownL := by decide +kernel
theorem known_bs : (⟨#[97, 40, 98, 124, 41, 91, 48, 45, 57, 93, 123, 50, 44, 125]⟩ : ByteArray) = bsN knownL := rfl
theorem known_nats : natsOf ⟨#[97, 40, 98, 124, 41, 91, 48, 45, 57, 93, 123, 50, 44, 125]⟩ = knownL := rfl
set_option maxHeartbeats 2000000 in
theorem known_any (w : World) (ht : Tab w) : Calls Tryd.prog 19 #[] w fun e w' => e = .returned (.bool true) ∧ Below w.heap.size w w' := by
  have hp := parse_any ⟨#[97, 40, 98, 124, 41, 91, 48, 45, 57, 93, 123, 50, 44, 125]⟩ (by decide) w ht
  rw [known_nats] at hp
  obtain ⟨h1, h2⟩ := known_parse
  obtain ⟨r, hr⟩ : ∃ r, parseE knownL = r := ⟨_, rfl⟩
  rw [hr] at hp h1 h2
  obtain ⟨x, a, e⟩ := r
  simp only [Prod.mk.injEq] at h1
  obtain ⟨rfl, rfl⟩ := h1
  simp only at h2
  have Hp := Lib.hid hp
  have H2 := Lib.hid h2
  have Ht := Lib.hid ht
  clear hp hr h2 ht
  go_enter Tryd.func19, Tryd.ntmps19
  go_wp2_with fail
  refine Hp.out.mono ?_
  rintro e w2 ⟨⟨cs, he, hr⟩, hb2⟩
  have h8 := reR_arr hr
  obtain ⟨u0, u1, u2, u3, u4, u5, u6, u7, hcs⟩ := arr_eight h8.1
  have hcl : cs = [u0, u1, u2, u3, u4, u5, u6, u7] := by have := congrArg Array.toList hcs; simpa using this
  subst hcl
  have he' : e = .returned (.tuple #[.agg #[u0, u1, u2, u3, u4, u5, u6, u7], .int .i64 0, .int .i64 0]) := he
  subst he'
  have hone := h8.2
  have Hr := Lib.hid hr
  have Hb2 := Lib.hid hb2
  clear he hr hb2 h8 hcs
  go_wp2_with (refine wpList_store_re rfl _ _ rfl w2.heap.size rfl rfl rfl rfl hone (Blk.new _ _ _) ?_; intro w3 hB3 ho3; have c0 := hB3.cell 0; have c1 := hB3.cell 1; have c2 := hB3.cell 2; have c3 := hB3.cell 3; have c4 := hB3.cell 4; have c5 := hB3.cell 5; have c6 := hB3.cell 6; have c7 := hB3.cell 7)
  have hb23 : Below w2.heap.size w2 w3 := ((Below.refl _ _).alloc (Nat.le_refl _) _).trans (ho3.below (fun i hi => Nat.le_of_eq hi.symm) (by simp))
  have hr3 := Hr.out.ext hb23
  refine (pprint_any _ x _ w3 (Ht.out.ext (ext_trans Hb2.out hb23)) hr3).mono ?_
  rintro e w4 ⟨rfl, hb4⟩
  rw [H2.out, ← known_bs]
  clear c0 c1 c2 c3 c4 c5 c6 c7 hB3 hr3
  go_wp2
  go_ret
  exact ⟨rfl, ext_trans (ext_trans Hb2.out hb23) hb4⟩

/-! ### how much of so many nodes is left -/
mutual
def leftE : Ex → Int → Int
  | .mk _ _ ks _ _ => fun left => leftL ks (left - 1)
def leftL : List Ex → Int → Int
  | [] => fun left => left
  | x :: xs => fun left => if 0 ≤ left then leftL xs (leftE x left) else left
end
theorem leftL_nodes (l : List Ex) (h : ∀ x ∈ l, ∀ n, (leftE x n ≤ n) ∧ (0 ≤ leftE x n → leftE x n = n - (nodesE x : Int))) : ∀ n, leftL l n ≤ n ∧ (0 ≤ leftL l n → leftL l n = n - (nodesL l : Int)) := by
  induction l with
  | nil => intro n; simp [leftL, nodesL]
  | cons x r ih =>
    intro n
    have ih := ih (fun y hy => h y (by simp [hy]))
    have hx := h x (by simp) n
    have hi := ih (leftE x n)
    simp only [leftL, nodesL]
    split
    · refine ⟨by omega, fun h0 => ?_⟩
      have := hi.2 h0
      have h9 := hx.2 (by omega)
      omega
    · exact ⟨Int.le_refl _, fun h0 => by omega⟩
theorem leftE_nodes (t : Ex) : ∀ n, (leftE t n ≤ n) ∧ (0 ≤ leftE t n → leftE t n = n - (nodesE t : Int)) := by
  refine ex_induct (p := fun t => ∀ n, (leftE t n ≤ n) ∧ (0 ≤ leftE t n → leftE t n = n - (nodesE t : Int))) (fun k s ks lo hi ih n => ?_) t
  have := leftL_nodes ks ih (n - 1)
  simp only [leftE, nodesE]
  refine ⟨by omega, fun h => ?_⟩
  have := this.2 h
  omega
theorem leftL_low (l : List Ex) (h : ∀ x ∈ l, ∀ n, 0 ≤ n → -1 ≤ leftE x n) : ∀ n, -1 ≤ n → -1 ≤ leftL l n := by
  induction l with
  | nil => intro n hn; simpa [leftL] using hn
  | cons x r ih =>
    intro n hn
    simp only [leftL]
    split
    · rename_i h0
      exact ih (fun y hy => h y (by simp [hy])) _ (h x (by simp) n h0)
    · exact hn
theorem leftE_low (t : Ex) : ∀ n, 0 ≤ n → -1 ≤ leftE t n := by
  refine ex_induct (p := fun t => ∀ n, 0 ≤ n → -1 ≤ leftE t n) (fun k s ks lo hi ih n hn => ?_) t
  simp only [leftE]
  exact leftL_low ks ih _ (by omega)

set_option maxHeartbeats 2000000 in
theorem weight_any (S : Nat → Prop) (t : Ex) : ∀ (cs : List Value) (w : World) (n : Int), ReR S w t cs → 0 ≤ n → n ≤ 1000000 →
    Calls Tryd.prog 20 #[reV cs, .int .i64 n] w fun e w' => e = .returned (.int .i64 (leftE t n)) ∧ Below w.heap.size w w' := by
  refine ex_induct (p := fun t => ∀ (cs : List Value) (w : World) (n : Int), ReR S w t cs → 0 ≤ n → n ≤ 1000000 → Calls Tryd.prog 20 #[reV cs, .int .i64 n] w fun e w' => e = .returned (.int .i64 (leftE t n)) ∧ Below w.heap.size w w') (fun k s ks lo hi ih cs w n h hn0 hn => ?_) t
  rw [reR_iff] at h
  obtain ⟨h0, A, c, rfl, h1, h2, h3⟩ := h
  have hle : leftE (.mk k s ks lo hi) n = leftL ks (n - 1) := by simp [leftE]
  rw [hle]
  unfold maxLen at h2
  have Hih := Lib.hid ih
  have H3 := Lib.hid h3
  clear ih h3 h0 hle
  unfold reV reCells
  have hB := Blk.new w 27 #[.int .i64 k, .int .u64 (wordB s 0 : Int), .int .u64 (wordB s 1 : Int), .int .u64 (wordB s 2 : Int), .int .u64 (wordB s 3 : Int), .slice A ks.length c, .int .i64 lo, .int .i64 hi]
  have hkl : (ks.length : Int) ≤ 9223372036854775807 := by omega
  go_enter Tryd.func20, Tryd.ntmps20
  go_wp2
  go_loopw [1, 5] (fun nv i wr => ∃ (j : Nat) (m : Int), j ≤ ks.length ∧ i = .int .i64 (j : Int) ∧ nv = .int .i64 m ∧ m ≤ 1000000 ∧ -1 ≤ m ∧ Hid (leftL ks (n - 1) = leftL (ks.drop j) m) ∧ Blk wr w.heap.size 27 #[.int .i64 k, .int .u64 (wordB s 0 : Int), .int .u64 (wordB s 1 : Int), .int .u64 (wordB s 2 : Int), .int .u64 (wordB s 3 : Int), .slice A ks.length c, .int .i64 lo, .int .i64 hi] ∧ Below w.heap.size w wr) (fun _ i _ => ks.length - (intOf i).toNat)
  case atStart => exact ⟨0, n - 1, Nat.zero_le _, rfl, rfl, by omega, by omega, Lib.hid rfl, hB, (Below.refl _ _).alloc (Nat.le_refl _) _⟩
  case round =>
    obtain ⟨j, m, hj, rfl, rfl, hm, hm1, hL, hB, hb⟩ := hrel
    have c5 := hB.cell 5
    by_cases hlt : j < ks.length
    · have hji : (j : Int) < (ks.length : Int) := by omega
      have hd : ks.drop j = ks[j] :: ks.drop (j + 1) := List.drop_eq_getElem_cons hlt
      by_cases hm0 : 0 ≤ m
      · have hL2 := hL.out
        rw [hd] at hL2
        simp only [leftL] at hL2
        rw [if_pos hm0] at hL2
        have HL2 := Lib.hid hL2
        have hlm := (leftE_nodes ks[j] m).1
        have hlm2 := leftE_low ks[j] m hm0
        obtain ⟨g, o, u0, u1, u2, u3, u4, u5, u6, u7, rfl, hr, x0, x1, x2, x3, x4, x5, x6, x7, -⟩ := (H3.out.ext hb).kid hlt
        have Hc := Lib.hid (Hih.out _ (List.getElem_mem hlt) _ wr m hr hm0 hm)
        obtain ⟨q, hq⟩ : ∃ q, leftE ks[j] m = q := ⟨_, rfl⟩
        rw [hq] at Hc hlm hlm2 HL2
        have HB := Lib.hid hB
        clear hr hd hL hL2 hq hB
        go_wp2_with fail
        refine Hc.out.mono ?_
        rintro e w2 ⟨rfl, hb2⟩
        go_wp2
        go_roundw
        case rel => exact ⟨j + 1, q, by omega, by go_num, rfl, by omega, hlm2, HL2, HB.out.ext hb2, ext_trans hb hb2⟩
        case measure => simp [intOf]; omega
      · have hm0' : m < 0 := by omega
        have HE : Hid (leftL ks (n - 1) = m) := Lib.hid (by rw [hL.out, hd]; simp only [leftL]; rw [if_neg hm0])
        clear hd hL hm0
        go_wp2
        go_ret
        exact ⟨by rw [HE.out]; rfl, hb⟩
    · obtain rfl : j = ks.length := by omega
      have HE : Hid (leftL ks (n - 1) = m) := Lib.hid (by rw [hL.out, List.drop_length]; rfl)
      clear hL
      go_wp2
      go_ret
      exact ⟨by rw [HE.out]; rfl, hb⟩
end Go.Proofs.YtmggajpecgnjkaaDoor

/-
  A world for the witness of stage 6's and 7's cards: the tables hold what the rows list. No statement of the seat is proved here.
-/
namespace Go.Proofs.YtmggajpecgnjkaaDoor
open Go Go.ChangeShapes Go.WideShapes Go.ChangeAt Go.RowKit
theorem nats_bsN {l : List Nat} (h : ∀ b ∈ l, b < 256) : natsOf (bsN l) = l := by
  unfold natsOf bsN
  simp only [List.map_map]
  conv => rhs; rw [← List.map_id l]
  refine List.map_congr_left fun b hb => ?_
  have := h b hb
  simp only [Function.comp, Nat.toUInt8, UInt8.toNat_ofNat', id]
  omega
noncomputable def laidWorld (os : Os) : World :=
  { World.holding Tryd.prog os ⟨#[], #[], []⟩ with heap := ((((World.holding Tryd.prog os ⟨#[], #[], []⟩).heap.modify 3 fun
      | .cells _ t frozen => .cells #[.int .u8 0, .int .u8 1, .int .u8 28, .int .u8 2, .int .u8 29, .int .u8 14, .int .u8 24, .int .u8 3, .int .u8 30, .int .u8 22, .int .u8 20, .int .u8 15, .int .u8 25, .int .u8 17, .int .u8 4, .int .u8 8, .int .u8 31, .int .u8 27, .int .u8 13, .int .u8 23, .int .u8 21, .int .u8 19, .int .u8 16, .int .u8 7, .int .u8 26, .int .u8 12, .int .u8 18, .int .u8 6, .int .u8 11, .int .u8 5, .int .u8 10, .int .u8 9] t frozen
      | o => o).modify 0 fun
      | .cells _ t frozen => .cells #[.int .u8 0, .int .u8 1, .int .u8 56, .int .u8 2, .int .u8 57, .int .u8 49, .int .u8 28, .int .u8 3, .int .u8 61, .int .u8 58, .int .u8 42, .int .u8 50, .int .u8 38, .int .u8 29, .int .u8 17, .int .u8 4, .int .u8 62, .int .u8 47, .int .u8 59, .int .u8 36, .int .u8 45, .int .u8 43, .int .u8 51, .int .u8 22, .int .u8 53, .int .u8 39, .int .u8 33, .int .u8 30, .int .u8 24, .int .u8 18, .int .u8 12, .int .u8 5, .int .u8 63, .int .u8 55, .int .u8 48, .int .u8 27, .int .u8 60, .int .u8 41, .int .u8 37, .int .u8 16, .int .u8 46, .int .u8 35, .int .u8 44, .int .u8 21, .int .u8 52, .int .u8 32, .int .u8 23, .int .u8 11, .int .u8 54, .int .u8 26, .int .u8 40, .int .u8 15, .int .u8 34, .int .u8 20, .int .u8 31, .int .u8 10, .int .u8 25, .int .u8 14, .int .u8 19, .int .u8 9, .int .u8 13, .int .u8 8, .int .u8 7, .int .u8 6] t frozen
      | o => o).modify 2 fun
      | .cells _ t frozen => .cells #[.int .u64 1, .int .u64 10, .int .u64 100, .int .u64 1000, .int .u64 10000, .int .u64 100000, .int .u64 1000000, .int .u64 10000000, .int .u64 100000000, .int .u64 1000000000, .int .u64 10000000000, .int .u64 100000000000, .int .u64 1000000000000, .int .u64 10000000000000, .int .u64 100000000000000, .int .u64 1000000000000000, .int .u64 10000000000000000, .int .u64 100000000000000000, .int .u64 1000000000000000000, .int .u64 10000000000000000000] t frozen
      | o => o) }
end Go.Proofs.YtmggajpecgnjkaaDoor

/-
  RegexBytes, its walk: a byte told by a stroke and its digits. No statement of the seat is proved here (RegexBytes closes it).
-/
namespace Go.Proofs.YtmggajpecgnjkaaDoor
open Go Go.ChangeShapes Go.WideShapes Go.ChangeAt Go.RowKit
set_option maxRecDepth 100000

def byS (b : Nat) : List Nat := [92, 120, hexD (b / 16), hexD (b % 16)]
def byT (b : Nat) : List Nat := [91, 92, 120, hexD (b / 16), hexD (b % 16), 93]
theorem by_facts : ∀ b : Fin 256, ((sameE (parseE (byS b.val)).1 (textX [b.val]) = true ∧ (parseE (byS b.val)).2.2 = 0 ∧ nodesE (parseE (byS b.val)).1 ≤ 1000000)) ∧ (sameE (parseE (byT b.val)).1 (textX [b.val]) = true ∧ (parseE (byT b.val)).2.2 = 0 ∧ nodesE (parseE (byT b.val)).1 ≤ 1000000) := by decide +kernel

/-- at a step of a region that draws its order: a conversion whose run is known -/
theorem step_conv {P : Program} {w : World} {ops : Array Oper} {o : Oper} {a : Act} {K : Act → World → Prop} {Q : Exit → Act → World → Prop} {E : Prop} (hgd : o.guard = none) (s t : TypeId) (x : Operand)
    (ho : o.op = .convert s t x) (v r : Value) (hx : a.eval x = v) (hrun : (convert s t v).run P w = .ok r w) (h : K (a.put o.dst r) w) :
    if Region.wanted o (yielded ops a.tmps) = true then Oper.wp P o a w K Q else E := by
  have hw : Region.wanted o (yielded ops a.tmps) = true := by simp [Region.wanted, hgd]
  rw [if_pos hw]
  unfold Oper.wp execOp
  simp only [ho, Sem.run_bind, Sem.run_pure, Result.andThen_ok, hx, hrun]
  exact h

set_option maxHeartbeats 4000000 in
theorem bytes_any (b : Nat) (hb : b < 256) (w : World) (ht : Tab w) :
    Calls Tryd.prog 8 #[.int .u8 (b : Int)] w fun e w' => e = .returned (.bool true) ∧ Below w.heap.size w w' := by
  obtain ⟨⟨s1, s2, s3⟩, u1, u2, u3⟩ := by_facts ⟨b, hb⟩
  simp only at s1 s2 s3 u1 u2 u3
  have hs16 := shr4 b hb
  have h15 : bits BinOp.and IntKind.u8 (b : Int) 15 = ((b % 16 : Nat) : Int) := and15i ⟨b, hb⟩
  have ha16 : b / 16 < 16 := by omega
  have hb16 : b % 16 < 16 := by omega
  have ea := hexS_at ⟨b / 16, ha16⟩
  have eb := hexS_at ⟨b % 16, hb16⟩
  simp only at ea eb
  unfold byS at s1 s2 s3
  unfold byT at u1 u2 u3
  have k1 := hexD_lt (c := b / 16) (by omega)
  have k2 := hexD_lt (c := b % 16) (by omega)
  generalize hq1 : b / 16 = a1 at hs16 ha16 ea k1 s1 s2 s3 u1 u2 u3
  generalize hq2 : b % 16 = a2 at h15 hb16 eb k2 s1 s2 s3 u1 u2 u3
  generalize hexD a1 = x1 at ea k1 s1 s2 s3 u1 u2 u3
  generalize hexD a2 = x2 at eb k2 s1 s2 s3 u1 u2 u3
  unfold hexS at ea eb
  have l1 : (a1 : Int) < 16 := by omega
  have l2 : (a2 : Int) < 16 := by omega
  have e1i : (((⟨#[48, 49, 50, 51, 52, 53, 54, 55, 56, 57, 97, 98, 99, 100, 101, 102]⟩ : ByteArray)[a1]'(by show a1 < 16; exact ha16)).toNat : Int) = (x1 : Int) := by rw [ea]
  have e2i : (((⟨#[48, 49, 50, 51, 52, 53, 54, 55, 56, 57, 97, 98, 99, 100, 101, 102]⟩ : ByteArray)[a2]'(by show a2 < 16; exact hb16)).toNat : Int) = (x2 : Int) := by rw [eb]
  have kc := conv_nb (w.alloc (Obj.cells #[.int .u8 (x1 : Int), .int .u8 (x2 : Int)] 5)).drew (some ⟨w.heap.size, 0, none⟩) 2 2 [x1, x2] rfl (by simp [k1, k2]) (Rd.lit w #[.int .u8 (x1 : Int), .int .u8 (x2 : Int)] 5).drew
  have kc0 := conv_nb (w.alloc (Obj.cells #[.int .u8 (x1 : Int), .int .u8 (x2 : Int)] 5)) (some ⟨w.heap.size, 0, none⟩) 2 2 [x1, x2] rfl (by simp [k1, k2]) (Rd.lit w #[.int .u8 (x1 : Int), .int .u8 (x2 : Int)] 5)
  have kc2 := conv_nb (w.drew.alloc (Obj.cells #[.int .u8 (x1 : Int), .int .u8 (x2 : Int)] 5)) (some ⟨w.heap.size, 0, none⟩) 2 2 [x1, x2] rfl (by simp [k1, k2]) (Rd.lit w.drew #[.int .u8 (x1 : Int), .int .u8 (x2 : Int)] 5)
  obtain ⟨Z, hZ⟩ : ∃ Z, bsN [x1, x2] = Z := ⟨_, rfl⟩
  obtain ⟨Y, hY⟩ : ∃ Y, bsN [92, 120, x1, x2] = Y := ⟨_, rfl⟩
  obtain ⟨X, hX⟩ : ∃ X, bsN [91, 92, 120, x1, x2, 93] = X := ⟨_, rfl⟩
  have e2 : (⟨#[92, 120]⟩ : ByteArray) ++ Z = Y := by rw [← hZ, ← hY]; exact bsN_append [92, 120] _
  have e3 : (⟨#[91]⟩ : ByteArray) ++ Y ++ (⟨#[93]⟩ : ByteArray) = X := by
    rw [← hX, ← hY]
    have q := bsN_append [91] [92, 120, x1, x2]
    have q2 := bsN_append ([91] ++ [92, 120, x1, x2]) [93]
    rw [← q] at q2
    exact q2
  have hzs : Z.size = 2 := by rw [← hZ, bsN_size]; rfl
  have hys : Y.size = 4 := by rw [← hY, bsN_size]; rfl
  have hxs : X.size = 6 := by rw [← hX, bsN_size]; rfl
  have hzl : Z.size ≤ 2 := by omega
  have ny : natsOf Y = [92, 120, x1, x2] := by rw [← hY]; exact nats_bsN (by simp [k1, k2])
  have nx : natsOf X = [91, 92, 120, x1, x2, 93] := by rw [← hX]; exact nats_bsN (by simp [k1, k2])
  rw [hZ] at kc kc0 kc2
  have hzn : ¬ 9223372036854775807 < 2 + Z.size := by omega
  have hzn2 : 2 + Z.size ≤ 9223372036854775807 := by omega
  have HPy : Hid (∀ W, Tab W → Calls Tryd.prog 16 #[.string Y] W fun e w' => ParseAns W.heap.size (parseE [92, 120, x1, x2]) e w' ∧ Below W.heap.size W w') := Lib.hid fun W hW => by
    have := parse_any Y (by omega) W hW
    rwa [ny] at this
  have HPx : Hid (∀ W, Tab W → Calls Tryd.prog 16 #[.string X] W fun e w' => ParseAns W.heap.size (parseE [91, 92, 120, x1, x2, 93]) e w' ∧ Below W.heap.size W w') := Lib.hid fun W hW => by
    have := parse_any X (by omega) W hW
    rwa [nx] at this
  have Ht := Lib.hid ht
  have HS := Lib.hid s1
  have HS3 := Lib.hid s3
  have HU := Lib.hid u1
  have HU3 := Lib.hid u3
  have Hys := Lib.hid hys
  have He2 := Lib.hid e2
  have hyl : Y.size ≤ 4 := by omega
  obtain ⟨S1, hS1⟩ : ∃ S1, bsN [b] = S1 := ⟨_, rfl⟩
  have HTx : Hid (∀ W, Calls Tryd.prog 27 #[.string S1] W fun e w' => ∃ cs, e = .returned (reV cs) ∧ ReR (fun g => W.heap.size ≤ g) w' (textX [b]) cs ∧ Below W.heap.size W w') := Lib.hid fun W => by
    have hsz : S1.size = 1 := by rw [← hS1, bsN_size]; rfl
    have hn1 : natsOf S1 = [b] := by rw [← hS1]; exact nats_bsN (by simpa using hb)
    have := rtextx_any S1 W (by omega)
    rwa [hn1] at this
  have HS1 := Lib.hid hS1
  have He3 := Lib.hid e3
  obtain ⟨R, hR⟩ : ∃ R, parseE [92, 120, x1, x2] = R := ⟨_, rfl⟩
  obtain ⟨Q, hQ⟩ : ∃ Q, parseE [91, 92, 120, x1, x2, 93] = Q := ⟨_, rfl⟩
  rw [hR] at HPy HS HS3 s2
  rw [hQ] at HPx HU HU3 u2
  obtain ⟨r, ra, re⟩ := R
  obtain ⟨q, qa, qe⟩ := Q
  simp only at s2 u2
  subst s2 u2
  clear hS1 s1 s3 u1 u3 ht hR hQ hys hxs hzs e2 e3 hZ hY hX ny nx hq1 hq2 ea eb
  go_enter Tryd.func8, Tryd.ntmps8
  go_wp2
  -- REGION 1
  refine wp_region_held_drew (S := fun _ => True) (by kernel_rfl) ?_ (fun hHeld => ?_)
  · trivial
  refine wpAnyH_take (i := 0) (v := ?_) (take_list rfl) (by kernel_rfl) (by kernel_rfl) (by kernel_rfl) (fun _ _ _ h => h) (Or.inl ⟨by rfl, ?_⟩) (by assumption) ?_
  rotate_left
  · intro w hSw
    try dsimp only at hSw
    first | (go_simp; done) | (go_simp; with_reducible rfl)
  try simp only [Act.put, List.setIfInBounds_toArray, List.set_cons_zero, List.set_cons_succ]
  refine wpAnyH_take (i := 1) (v := ?_) (take_list rfl) (by kernel_rfl) (by kernel_rfl) (by kernel_rfl) (fun _ _ _ h => h) (Or.inl ⟨by rfl, ?_⟩) (by assumption) ?_
  rotate_left
  · intro w hSw
    try dsimp only at hSw
    first | (go_simp; done) | (go_simp; with_reducible rfl)
  try simp only [Act.put, List.setIfInBounds_toArray, List.set_cons_zero, List.set_cons_succ]
  refine wpAnyH_take (i := 2) (v := ?_) (take_list rfl) (by kernel_rfl) (by kernel_rfl) (by kernel_rfl) (fun _ _ _ h => h) (Or.inl ⟨by rfl, ?_⟩) (by assumption) ?_
  rotate_left
  · intro w hSw
    try dsimp only at hSw
    first | (go_simp; done) | (go_simp; with_reducible rfl)
  try simp only [Act.put, List.setIfInBounds_toArray, List.set_cons_zero, List.set_cons_succ]
  refine wpAnyH_take (i := 3) (v := ?_) (take_list rfl) (by kernel_rfl) (by kernel_rfl) (by kernel_rfl) (fun _ _ _ h => h) (Or.inl ⟨by rfl, ?_⟩) (by assumption) ?_
  rotate_left
  · intro w hSw
    try dsimp only at hSw
    first | (go_simp; done) | (go_simp; with_reducible rfl)
  try simp only [Act.put, List.setIfInBounds_toArray, List.set_cons_zero, List.set_cons_succ]
  refine wpAnyH_take (i := 4) (v := ?_) (take_list rfl) (by kernel_rfl) (by kernel_rfl) (by kernel_rfl) (fun _ _ _ h => h) (Or.inl ⟨by rfl, ?_⟩) (by assumption) ?_
  rotate_left
  · intro w hSw
    try dsimp only at hSw
    first | (go_simp; done) | (go_simp; with_reducible rfl)
  try simp only [Act.put, List.setIfInBounds_toArray, List.set_cons_zero, List.set_cons_succ]
  refine wpAnyH_take (i := 5) (v := ?_) (take_list rfl) (by kernel_rfl) (by kernel_rfl) (by kernel_rfl) (fun _ _ _ h => h) (Or.inl ⟨by rfl, ?_⟩) (by assumption) ?_
  rotate_left
  · intro w hSw
    try dsimp only at hSw
    first | (go_simp; done) | (go_simp; with_reducible rfl)
  try simp only [Act.put, List.setIfInBounds_toArray, List.set_cons_zero, List.set_cons_succ]
  refine wpAnyH_ready (rs := [6]) (by kernel_rfl) (by simp) ?_
  refine AllReadyH.cons (take_list rfl) (fun K hK => ?_) ?_
  · skip
    go_simp
    refine hK.out _ _ ?_ (fun hHeld => ?_)
    · try dsimp only
      try trivial
    clear hK K
    refine wpAnyH_ready (rs := [7]) (by kernel_rfl) (by simp) ?_
    refine AllReadyH.cons (take_list rfl) (fun K hK => ?_) ?_
    · skip
      refine step_conv rfl 44 9 (.tmp 17) rfl _ (.string Z) rfl (by first | exact kc | exact kc0 | exact kc2) ?_
      refine hK.out _ _ ?_ (fun hHeld => ?_)
      · try dsimp only
        try trivial
      clear hK K
      refine wpAnyH_take (i := 8) (v := ?_) (take_list rfl) (by kernel_rfl) (by kernel_rfl) (by kernel_rfl) (fun _ _ _ h => h) (Or.inl ⟨by rfl, ?_⟩) (by assumption) ?_
      rotate_left
      · intro w hSw
        try dsimp only at hSw
        first | (go_simp; done) | (go_simp; with_reducible rfl)
      try simp only [Act.put, List.setIfInBounds_toArray, List.set_cons_zero, List.set_cons_succ]
      refine wpAnyH_take (i := 9) (v := ?_) (take_list rfl) (by kernel_rfl) (by kernel_rfl) (by kernel_rfl) (fun _ _ _ h => h) (Or.inl ⟨by rfl, ?_⟩) (by assumption) ?_
      rotate_left
      · intro w hSw
        try dsimp only at hSw
        first | (go_simp; done) | (go_simp; with_reducible rfl)
      try simp only [Act.put, List.setIfInBounds_toArray, List.set_cons_zero, List.set_cons_succ]
      refine wpAnyH_done (by kernel_rfl) ?_ _
      obtain ⟨w1, hw1⟩ : ∃ w1, w1 = (w.alloc (Obj.cells #[Value.int .u8 (x1 : Int), .int .u8 (x2 : Int)] 5)).drew := ⟨_, rfl⟩
      have hb1 : Below w.heap.size w w1 := by rw [hw1]; exact ext_drew ((Below.refl _ _).alloc (Nat.le_refl _) _)
      have Hw1 := Lib.hid hw1
      have Hb1 := Lib.hid hb1
      clear hw1 hb1 kc kc0 kc2
      go_wp2_with fail
      rw [He2.out, ← Hw1.out]
      refine (HPy.out w1 (Ht.out.ext Hb1.out)).mono ?_
      rintro e w2 ⟨⟨ds, he, hr2⟩, hb2⟩
      have h8 := reR_arr hr2
      obtain ⟨u0, u1, u2, u3, u4, u5, u6, u7, hcs⟩ := arr_eight h8.1
      have hcl : ds = [u0, u1, u2, u3, u4, u5, u6, u7] := by have := congrArg Array.toList hcs; simpa using this
      subst hcl
      have he' : e = .returned (.tuple #[.agg #[u0, u1, u2, u3, u4, u5, u6, u7], .int .i64 (ra : Int), .int .i64 0]) := he
      subst he'
      have hone := h8.2
      have Hr2 := Lib.hid hr2
      have Hb2 := Lib.hid (ext_trans Hb1.out hb2)
      clear he hr2 hb2 h8 hcs
      go_wp2_with (refine wpList_store_re rfl _ _ rfl w2.heap.size rfl rfl rfl rfl hone (Blk.new _ _ _) ?_; intro w3 hB3 ho3)
      have hb23 : Below w2.heap.size w2 w3 := ((Below.refl _ _).alloc (Nat.le_refl _) _).trans (ho3.below (fun i hi => Nat.le_of_eq hi.symm) (by simp))
      have Hb3 := Lib.hid (ext_trans Hb2.out hb23)
      have Hr3 := Lib.hid (Hr2.out.ext hb23)
      have HB3 := Lib.hid hB3
      clear hone Hr2 Hb2 hB3 ho3 hb23
      rw [He3.out]
      refine (HPx.out w3 (Ht.out.ext Hb3.out)).mono ?_
      rintro e w4 ⟨⟨ds, he, hr4⟩, hb4⟩
      have h8 := reR_arr hr4
      obtain ⟨v0, v1, v2, v3, v4, v5, v6, v7, hcs⟩ := arr_eight h8.1
      have hcl : ds = [v0, v1, v2, v3, v4, v5, v6, v7] := by have := congrArg Array.toList hcs; simpa using this
      subst hcl
      have he' : e = .returned (.tuple #[.agg #[v0, v1, v2, v3, v4, v5, v6, v7], .int .i64 (qa : Int), .int .i64 0]) := he
      subst he'
      have hone := h8.2
      have Hr4 := Lib.hid hr4
      have Hr34 := Lib.hid (Hr3.out.ext hb4)
      have HB4 := Lib.hid (HB3.out.ext hb4)
      have hR4 := HB4.out.lt
      have Hb4 := Lib.hid (ext_trans Hb3.out hb4)
      clear he hr4 hb4 h8 hcs HB3 Hr3 Hb3
      go_wp2_with (refine wpList_store_re rfl _ _ rfl w4.heap.size rfl rfl rfl rfl hone (Blk.new _ _ _) ?_; intro w5 hB5 ho5; have kt := conv_nb (w5.alloc (Obj.cells #[.int .u8 (b : Int)] 5)) (some ⟨w5.heap.size, 0, none⟩) 1 1 [b] rfl (by simpa using hb) (Rd.lit w5 #[.int .u8 (b : Int)] 5); rw [HS1.out] at kt)
      have hb45 : Below w4.heap.size w4 w5 := ((Below.refl _ _).alloc (Nat.le_refl _) _).trans (ho5.below (fun i hi => Nat.le_of_eq hi.symm) (by simp))
      have hb5a : Below w5.heap.size w5 (w5.alloc (Obj.cells #[Value.int .u8 (b : Int)] 5)) := (Below.refl _ _).alloc (Nat.le_refl _) _
      have HBa5 := Lib.hid (((HB4.out.alloc (Obj.cells #[.int .i64 0, .int .u64 0, .int .u64 0, .int .u64 0, .int .u64 0, .slice none 0 0, .int .i64 0, .int .i64 0] 27)).only ho5 (by omega)).ext hb5a)
      have HBb5 := Lib.hid (hB5.ext hb5a)
      have Hr5 := Lib.hid ((Hr34.out.ext hb45).ext hb5a)
      have Hq5 := Lib.hid ((Hr4.out.ext hb45).ext hb5a)
      have Hb5 := Lib.hid (ext_trans (ext_trans Hb4.out hb45) hb5a)
      clear hone hB5 ho5 kt hb45 hb5a HB4 Hr4 Hr34 hR4 Hb4
      refine (HTx.out _).mono ?_
      rintro e w6 ⟨ds, rfl, hr6, hb6⟩
      have h8 := reR_arr hr6
      obtain ⟨t0, t1, t2, t3, t4, t5, t6, t7, hcs⟩ := arr_eight h8.1
      have hcl : ds = [t0, t1, t2, t3, t4, t5, t6, t7] := by have := congrArg Array.toList hcs; simpa using this
      subst hcl
      have hone := h8.2
      have Hr6 := Lib.hid hr6
      have HBa6 := Lib.hid (HBa5.out.ext hb6)
      have HBb6 := Lib.hid (HBb5.out.ext hb6)
      have hRa := HBa6.out.lt
      have hRb := HBb6.out.lt
      have Hp6 := Lib.hid (Hr5.out.ext hb6)
      have Hq6 := Lib.hid (Hq5.out.ext hb6)
      have Hb6 := Lib.hid (ext_trans Hb5.out hb6)
      clear hr6 hb6 h8 hcs HBa5 HBb5 Hr5 Hq5 Hb5
      simp only [reV]
      go_wp2_with (refine wpList_store_re rfl _ _ rfl w6.heap.size rfl rfl rfl rfl hone (Blk.new _ _ _) ?_; intro w7 hB7 ho7; have f0 := hB7.cell 0; have f1 := hB7.cell 1; have f2 := hB7.cell 2; have f3 := hB7.cell 3; have f4 := hB7.cell 4; have f5 := hB7.cell 5; have f6 := hB7.cell 6; have f7 := hB7.cell 7; have hBa7 := (HBa6.out.alloc (Obj.cells #[.int .i64 0, .int .u64 0, .int .u64 0, .int .u64 0, .int .u64 0, .slice none 0 0, .int .i64 0, .int .i64 0] 27)).only ho7 (by omega); have c0 := hBa7.cell 0; have c1 := hBa7.cell 1; have c2 := hBa7.cell 2; have c3 := hBa7.cell 3; have c4 := hBa7.cell 4; have c5 := hBa7.cell 5; have c6 := hBa7.cell 6; have c7 := hBa7.cell 7; have hBb7 := (HBb6.out.alloc (Obj.cells #[.int .i64 0, .int .u64 0, .int .u64 0, .int .u64 0, .int .u64 0, .slice none 0 0, .int .i64 0, .int .i64 0] 27)).only ho7 (by omega))
      have hb67 : Below w6.heap.size w6 w7 := ((Below.refl _ _).alloc (Nat.le_refl _) _).trans (ho7.below (fun i hi => Nat.le_of_eq hi.symm) (by simp))
      have HBt := Lib.hid hB7
      have HBb := Lib.hid hBb7
      have Hb7 := Lib.hid (ext_trans Hb6.out hb67)
      have Ht7 := Lib.hid (Hr6.out.ext hb67)
      have Hp7 := Lib.hid (Hp6.out.ext hb67)
      have Hq7 := Lib.hid (Hq6.out.ext hb67)
      clear hone hB7 ho7 hBa7 hBb7 hb67 HBa6 HBb6 Hp6 Hq6 Hr6 Hb6 hRa hRb c0 c1 c2 c3 c4 c5 c6 c7 f0 f1 f2 f3 f4 f5 f6 f7
      have hS := rsame_any _ _ r (textX [b]) _ _ w7 Hp7.out Ht7.out HS3.out
      rw [HS.out] at hS
      refine hS.mono ?_
      rintro e w8 ⟨rfl, hb8⟩
      have hBt8 := HBt.out.ext hb8
      have hBb8 := HBb.out.ext hb8
      have f0 := hBt8.cell 0
      have f1 := hBt8.cell 1
      have f2 := hBt8.cell 2
      have f3 := hBt8.cell 3
      have f4 := hBt8.cell 4
      have f5 := hBt8.cell 5
      have f6 := hBt8.cell 6
      have f7 := hBt8.cell 7
      have c0 := hBb8.cell 0
      have c1 := hBb8.cell 1
      have c2 := hBb8.cell 2
      have c3 := hBb8.cell 3
      have c4 := hBb8.cell 4
      have c5 := hBb8.cell 5
      have c6 := hBb8.cell 6
      have c7 := hBb8.cell 7
      have Hb8 := Lib.hid (ext_trans Hb7.out hb8)
      have Ht8 := Lib.hid (Ht7.out.ext hb8)
      have Hq8 := Lib.hid (Hq7.out.ext hb8)
      clear hS hb8 hBt8 hBb8 Hp7 Ht7 Hq7 Hb7
      go_wp2_with fail
      clear c0 c1 c2 c3 c4 c5 c6 c7 f0 f1 f2 f3 f4 f5 f6 f7
      have hS := rsame_any _ _ q (textX [b]) _ _ w8 Hq8.out Ht8.out HU3.out
      rw [HU.out] at hS
      refine hS.mono ?_
      rintro e w9 ⟨rfl, hb9⟩
      have Hb9 := Lib.hid (ext_trans Hb8.out hb9)
      clear hS hb9
      go_wp2_with fail
      refine (known_any w9 (Ht.out.ext Hb9.out)).mono ?_
      rintro e w10 ⟨rfl, hb10⟩
      go_wp2
      go_ret
      exact ⟨rfl, ext_trans Hb9.out hb10⟩
    exact AllReadyH.nil
  exact AllReadyH.nil
  -- BEHIND
end Go.Proofs.YtmggajpecgnjkaaDoor
