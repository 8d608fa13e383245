/-
  Texts of this claim, joined (part 2): contracts and lemmas that the last text goes by. No statement of the seat is proved here.
-/
import Derived.Test.YtgknlegomoaoeaaDoorAll1
import Derived.Test.YtgknlegomoaoeaaDoorAll0
import Derived.ChangeKeysEq
set_option linter.unusedVariables false
set_option linter.unusedSimpArgs false
/-
  Contracts of the reference's plain, hex, sign, two, times. No statement of the seat is proved here.
-/
namespace Go.Proofs.YtgknlegomoaoeaaDoor
open Go Go.RowKit
set_option maxRecDepth 100000


set_option maxHeartbeats 1000000 in
theorem rplain_any (c : Nat) (hc : c < 256) (w : World) : Calls Tryd.prog 97 #[.int .u8 (c : Int)] w fun e w' => e = .returned (.bool (plainB c)) ∧ w = w' := by
  have h : c < 48 ∨ (48 ≤ c ∧ c ≤ 57) ∨ (58 ≤ c ∧ c < 65) ∨ (65 ≤ c ∧ c ≤ 90) ∨ (91 ≤ c ∧ c < 97) ∨ (97 ≤ c ∧ c ≤ 122) ∨ 123 ≤ c := by omega
  rcases h with h | h | h | h | h | h | h
  all_goals
    first
    | (have hr : plainB c = true := by rw [plain_iff]; omega
       rw [hr]; clear hr
       go_enter Tryd.func97, Tryd.ntmps97
       go_wp2
       all_goals (go_ret; exact ⟨ret_bool (by first | rfl | (exfalso; omega) | (simp; done) | (simp; omega)), rfl⟩))
    | (have hr : plainB c = false := by rw [← Bool.not_eq_true, plain_iff]; omega
       rw [hr]; clear hr
       go_enter Tryd.func97, Tryd.ntmps97
       go_wp2
       all_goals (go_ret; exact ⟨ret_bool (by first | rfl | (exfalso; omega) | (simp; done) | (simp; omega)), rfl⟩))

theorem rhex_any (c : Nat) (hc : c < 16) (w : World) : Calls Tryd.prog 98 #[.int .u8 (c : Int)] w fun e w' => e = .returned (.int .u8 (hexD c : Int)) ∧ w = w' := by
  unfold hexD
  rcases Nat.lt_or_ge c 10 with h | h
  · have hi : (c : Int) < 10 := by omega
    rw [if_pos h]
    go_enter Tryd.func98, Tryd.ntmps98
    go_wp2
    go_ret
    exact ⟨ret_eq (by omega), rfl⟩
  · have hi : (10 : Int) ≤ (c : Int) := by omega
    rw [if_neg (by omega)]
    go_enter Tryd.func98, Tryd.ntmps98
    go_wp2
    go_ret
    exact ⟨ret_eq (by omega), rfl⟩

theorem shr4 (c : Nat) (hc : c < 256) : (c : Int) / 16 = ((c / 16 : Nat) : Int) := by omega
theorem and15i : ∀ c : Fin 256, bits BinOp.and IntKind.u8 ((c.val : Nat) : Int) 15 = ((c.val % 16 : Nat) : Int) := by decide +kernel
set_option maxHeartbeats 1000000 in
theorem rsign_any (c : Nat) (hc : c < 256) (w : World) : Calls Tryd.prog 86 #[.int .u8 (c : Int)] w fun e w' => e = .returned (.string (bsN (signB c))) ∧ Below w.heap.size w w' := by
  have hP := fun W => rplain_any c hc W
  unfold signB
  cases hp : plainB c with
  | true =>
    rw [hp] at hP
    rw [if_pos rfl]
    have kc := conv_nb (w.alloc (Obj.cells #[.int .u8 (c : Int)] 5)) (some ⟨w.heap.size, 0, none⟩) 1 1 [c] rfl (by simpa using hc) (Rd.lit w #[.int .u8 (c : Int)] 5)
    clear hp
    go_enter Tryd.func86, Tryd.ntmps86
    go_wp2_with (first | (go_at_call 97; (with_reducible refine (hP _).mono ?_); rintro e w' ⟨rfl, rfl⟩))
    go_ret
    exact ⟨rfl, (Below.refl _ _).alloc (Nat.le_refl _) _⟩
  | false =>
    rw [hp] at hP
    rw [if_neg (by simp)]
    have k1 := hexD_lt (c := c / 16) (by omega)
    have k2 := hexD_lt (c := c % 16) (by omega)
    have hs := shr4 c hc
    have h15 : bits BinOp.and IntKind.u8 (c : Int) 15 = ((c % 16 : Nat) : Int) := and15i ⟨c, hc⟩
    have ha16 : c / 16 < 16 := by omega
    have hb16 : c % 16 < 16 := by omega
    clear hp
    generalize c / 16 = a at hs k1 ha16 ⊢
    generalize c % 16 = b at h15 k2 hb16 ⊢
    have h1 := rhex_any a ha16
    have h2 := rhex_any b hb16
    generalize hexD a = x at h1 k1 ⊢
    generalize hexD b = y at h2 k2 ⊢
    have kc := conv_nb (w.alloc (Obj.cells #[.int .u8 (x : Int), .int .u8 (y : Int)] 5)) (some ⟨w.heap.size, 0, none⟩) 2 2 [x, y] rfl (by simp [k1, k2]) (Rd.lit w #[.int .u8 (x : Int), .int .u8 (y : Int)] 5)
    obtain ⟨Z, hZ⟩ : ∃ Z, bsN [x, y] = Z := ⟨_, rfl⟩
    have e2 : (⟨#[92, 120]⟩ : ByteArray) ++ Z = bsN [92, 120, x, y] := by rw [← hZ]; exact bsN_append [92, 120] _
    have hzs : Z.size = 2 := by rw [← hZ, bsN_size]; rfl
    have hzl : Z.size ≤ 2 := by omega
    rw [hZ] at kc
    rw [← e2]
    clear k1 k2 ha16 hb16 hZ e2 hzs
    go_enter Tryd.func86, Tryd.ntmps86
    go_wp2_with (first | (go_at_call 97; (with_reducible refine (hP _).mono ?_); rintro e w' ⟨rfl, rfl⟩) | (go_at_call 98; first | ((with_reducible refine (h1 _).mono ?_); rintro e w' ⟨rfl, rfl⟩) | ((with_reducible refine (h2 _).mono ?_); rintro e w' ⟨rfl, rfl⟩)))
    go_ret
    exact ⟨rfl, (Below.refl _ _).alloc (Nat.le_refl _) _⟩

theorem divi (n : Nat) : (n : Int) / 10 = ((n / 10 : Nat) : Int) := by omega
theorem modi (n : Nat) : (n : Int) % 10 = ((n % 10 : Nat) : Int) := by omega
set_option maxHeartbeats 1000000 in
theorem rtwo_any (n : Nat) (hn : n < 100) (w : World) : Calls Tryd.prog 88 #[.int .i64 (n : Int)] w fun e w' => e = .returned (.string (bsN (twoB n))) ∧ Below w.heap.size w w' := by
  unfold twoB
  rcases Nat.lt_or_ge n 10 with h | h
  · have hi : (n : Int) < 10 := by omega
    rw [if_pos h]
    have kc := conv_nb (w.alloc (Obj.cells #[.int .u8 ((48 + n : Nat) : Int)] 5)) (some ⟨w.heap.size, 0, none⟩) 1 1 [48 + n] rfl (by simp; omega) (Rd.lit w #[.int .u8 ((48 + n : Nat) : Int)] 5)
    rw [show ((48 + n : Nat) : Int) = 48 + (n : Int) by omega] at kc
    generalize bsN [48 + n] = Z at kc ⊢
    go_enter Tryd.func88, Tryd.ntmps88
    go_wp2
    go_ret
    exact ⟨rfl, (Below.refl _ _).alloc (Nat.le_refl _) _⟩
  · have hi : (10 : Int) ≤ (n : Int) := by omega
    have hd := divi n
    have hm := modi n
    rw [if_neg (by omega)]
    have ha16 : n / 10 < 10 := by omega
    have hb16 : n % 10 < 10 := by omega
    generalize n / 10 = a at hd ha16 ⊢
    generalize n % 10 = b at hm hb16 ⊢
    have kc := conv_nb (w.alloc (Obj.cells #[.int .u8 ((48 + a : Nat) : Int), .int .u8 ((48 + b : Nat) : Int)] 5)) (some ⟨w.heap.size, 0, none⟩) 2 2 [48 + a, 48 + b] rfl (by simp; omega) (Rd.lit w #[.int .u8 ((48 + a : Nat) : Int), .int .u8 ((48 + b : Nat) : Int)] 5)
    rw [show ((48 + a : Nat) : Int) = 48 + (a : Int) by omega, show ((48 + b : Nat) : Int) = 48 + (b : Int) by omega] at kc
    generalize bsN [48 + a, 48 + b] = Z at kc ⊢
    go_enter Tryd.func88, Tryd.ntmps88
    go_wp2
    go_ret
    exact ⟨rfl, (Below.refl _ _).alloc (Nat.le_refl _) _⟩

/-- a repeat's numbers that may be -/
theorem rep_iff {lo hi : Int} : repB lo hi = true ↔ 0 ≤ lo ∧ lo ≤ 32 ∧ (hi = -1 ∨ (1 ≤ hi ∧ hi ≤ 32 ∧ lo ≤ hi)) := by
  simp [repB, and_assoc]
set_option maxHeartbeats 2000000 in
theorem rtimes_any (lo hi : Int) (h : repB lo hi = true) (w : World) : Calls Tryd.prog 69 #[.int .i64 lo, .int .i64 hi] w fun e w' => e = .returned (.string (bsN (timesT lo hi))) ∧ Below w.heap.size w w' := by
  rw [rep_iff] at h
  obtain ⟨l, rfl⟩ : ∃ l : Nat, lo = (l : Int) := ⟨lo.toNat, by omega⟩
  obtain ⟨h1, h2, h3⟩ := h
  have hT : ∃ Z, bsN (twoB l) = Z ∧ Z.size ≤ 2 ∧ ∀ W, Calls Tryd.prog 88 #[.int .i64 (l : Int)] W fun e w' => e = .returned (.string Z) ∧ Below W.heap.size W w' :=
    ⟨_, rfl, by rw [bsN_size]; exact twoB_len _, fun W => rtwo_any l (by omega) W⟩
  unfold timesT
  by_cases c1 : hi = -1
  · subst c1
    by_cases c2 : l = 0
    · subst c2
      rw [if_pos ⟨rfl, rfl⟩]
      go_enter Tryd.func69, Tryd.ntmps69
      go_wp2
      go_ret
      exact ⟨rfl, Below.refl _ _⟩
    by_cases c3 : l = 1
    · subst c3
      rw [if_neg (by omega), if_pos ⟨rfl, rfl⟩]
      go_enter Tryd.func69, Tryd.ntmps69
      go_wp2
      go_ret
      exact ⟨rfl, Below.refl _ _⟩
    rw [if_neg (by omega), if_neg (by omega), if_neg (by omega), if_neg (by omega), if_pos rfl, Int.toNat_natCast]
    obtain ⟨Z, hZ, hz, hT⟩ := hT
    have e2 : (⟨#[123]⟩ : ByteArray) ++ Z ++ ⟨#[44, 125]⟩ = bsN (123 :: (twoB l ++ [44, 125])) := by rw [← hZ, show (⟨#[123]⟩ : ByteArray) = bsN [123] from rfl, show (⟨#[44, 125]⟩ : ByteArray) = bsN [44, 125] from rfl, bsN_append, bsN_append]; rfl
    rw [← e2]
    have b1 : ((l : Int) == 0) = false := by simp <;> omega
    have b2 : ((l : Int) == 1) = false := by simp <;> omega
    have b3 : ((l : Int) == -1) = false := by simp <;> omega
    clear e2 hZ c2 c3
    go_enter Tryd.func69, Tryd.ntmps69
    go_wp2_with fail
    refine (hT _).mono ?_
    rintro e w2 ⟨rfl, hb2⟩
    go_wp2
    go_ret
    exact ⟨rfl, hb2⟩
  · obtain ⟨x, rfl⟩ : ∃ x : Nat, hi = (x : Int) := ⟨hi.toNat, by omega⟩
    by_cases c2 : l = 0 ∧ x = 1
    · obtain ⟨rfl, rfl⟩ := c2
      rw [if_neg (by omega), if_neg (by omega), if_pos ⟨rfl, rfl⟩]
      go_enter Tryd.func69, Tryd.ntmps69
      go_wp2
      go_ret
      exact ⟨rfl, Below.refl _ _⟩
    have d1 : ((x : Int) == -1) = false := by simp <;> omega
    by_cases c3 : l = x
    · subst c3
      rw [if_neg (by omega), if_neg (by omega), if_neg (by omega), if_pos rfl, Int.toNat_natCast]
      obtain ⟨Z, hZ, hz, hT⟩ := hT
      have e2 : (⟨#[123]⟩ : ByteArray) ++ Z ++ ⟨#[125]⟩ = bsN (123 :: (twoB l ++ [125])) := by rw [← hZ, show (⟨#[123]⟩ : ByteArray) = bsN [123] from rfl, show (⟨#[125]⟩ : ByteArray) = bsN [125] from rfl, bsN_append, bsN_append]; rfl
      rw [← e2]
      clear e2 hZ
      go_enter Tryd.func69, Tryd.ntmps69
      by_cases c4 : l = 1
      · subst c4
        go_wp2_with fail
        refine (hT _).mono ?_
        rintro e w2 ⟨rfl, hb2⟩
        go_wp2
        go_ret
        exact ⟨rfl, hb2⟩
      · have b1 : ((l : Int) == 0) = false := by simp <;> omega
        have b5 : ((l : Int) == 1) = false := by simp <;> omega
        go_wp2_with fail
        refine (hT _).mono ?_
        rintro e w2 ⟨rfl, hb2⟩
        go_wp2
        go_ret
        exact ⟨rfl, hb2⟩
    · rw [if_neg (by omega), if_neg (by omega), if_neg (by omega), if_neg (by omega), if_neg (by omega), Int.toNat_natCast, Int.toNat_natCast]
      obtain ⟨Z, hZ, hz, hT⟩ := hT
      have hT2 : ∀ W, Calls Tryd.prog 88 #[.int .i64 (x : Int)] W fun e w' => e = .returned (.string (bsN (twoB x))) ∧ Below W.heap.size W w' := fun W => rtwo_any x (by omega) W
      have hy : (bsN (twoB x)).size ≤ 2 := by rw [bsN_size]; exact twoB_len _
      have e2 : (⟨#[123]⟩ : ByteArray) ++ Z ++ ⟨#[44]⟩ ++ bsN (twoB x) ++ ⟨#[125]⟩ = bsN (123 :: (twoB l ++ (44 :: (twoB x ++ [125])))) := by
        rw [← hZ, show (⟨#[123]⟩ : ByteArray) = bsN [123] from rfl, show (⟨#[125]⟩ : ByteArray) = bsN [125] from rfl, show (⟨#[44]⟩ : ByteArray) = bsN [44] from rfl, bsN_append, bsN_append, bsN_append, bsN_append]; simp
      rw [← e2]
      clear e2 hZ
      generalize bsN (twoB x) = Y at hT2 hy ⊢
      have b4 : ((l : Int) == (x : Int)) = false := by simp <;> omega
      by_cases c4 : l = 0
      · subst c4
        have b1 : ((x : Int) == 1) = false := by simp <;> omega
        go_enter Tryd.func69, Tryd.ntmps69
        go_wp2_with fail
        refine (hT _).mono ?_
        rintro e w2 ⟨rfl, hb2⟩
        go_wp2_with fail
        refine (hT2 _).mono ?_
        rintro e w3 ⟨rfl, hb3⟩
        go_wp2
        go_ret
        exact ⟨rfl, ext_trans hb2 hb3⟩
      · have b1 : ((l : Int) == 0) = false := by simp <;> omega
        go_enter Tryd.func69, Tryd.ntmps69
        by_cases c5 : l = 1
        · subst c5
          go_wp2_with fail
          refine (hT _).mono ?_
          rintro e w2 ⟨rfl, hb2⟩
          go_wp2_with fail
          refine (hT2 _).mono ?_
          rintro e w3 ⟨rfl, hb3⟩
          go_wp2
          go_ret
          exact ⟨rfl, ext_trans hb2 hb3⟩
        · have b5 : ((l : Int) == 1) = false := by simp <;> omega
          go_wp2_with fail
          refine (hT _).mono ?_
          rintro e w2 ⟨rfl, hb2⟩
          go_wp2_with fail
          refine (hT2 _).mono ?_
          rintro e w3 ⟨rfl, hb3⟩
          go_wp2
          go_ret
          exact ⟨rfl, ext_trans hb2 hb3⟩
end Go.Proofs.YtgknlegomoaoeaaDoor

/-
  Words for rows of neighbours. No statement of the seat is proved here.
-/
namespace Go.Proofs.YtgknlegomoaoeaaDoor
open Go Go.RowKit
set_option maxRecDepth 100000



def encR (p : Nat × Nat) : List Value := [nb p.1, nb p.2]
def cellsR (l : List (Nat × Nat)) : List Value := l.flatMap encR
theorem cellsR_length (l : List (Nat × Nat)) : (cellsR l).length = l.length * 2 := by
  induction l with
  | nil => rfl
  | cons x r ih =>
    have : cellsR (x :: r) = encR x ++ cellsR r := rfl
    rw [this, List.length_append, ih]; simp [encR]; omega
theorem cellsR_append (a b : List (Nat × Nat)) : cellsR (a ++ b) = cellsR a ++ cellsR b := by unfold cellsR; rw [List.flatMap_append]
theorem cellsR_at (l : List (Nat × Nat)) (k : Nat) (h : k < l.length) : (cellsR l)[k * 2]? = some (nb l[k].1) ∧ (cellsR l)[k * 2 + 1]? = some (nb l[k].2) := by
  have e : cellsR l = cellsR (l.take k) ++ (encR l[k] ++ cellsR (l.drop (k + 1))) := by
    conv => lhs; rw [← List.take_append_drop k l, cellsR_append, List.drop_eq_getElem_cons h]
    rfl
  have hl : (cellsR (l.take k)).length = k * 2 := by rw [cellsR_length, List.length_take]; congr 1; omega
  rw [e]
  constructor
  · rw [List.getElem?_append_right (by omega), hl, Nat.sub_self]; rfl
  · rw [List.getElem?_append_right (by omega), hl, Nat.add_sub_cancel_left]; rfl
theorem cellsR_set (l : List (Nat × Nat)) (a h b : Nat) : (cellsR (l ++ [(a, h)])).set (l.length * 2 + 1) (nb b) = cellsR (l ++ [(a, b)]) := by
  rw [cellsR_append, cellsR_append, List.set_append, if_neg (by rw [cellsR_length]; omega), cellsR_length, Nat.add_sub_cancel_left]
  rfl
theorem info_two : (Tryd.prog.info? 127).map (fun i => (i.zero, i.size, i.bytes)) = some (some (.agg #[.int .u8 0, .int .u8 0]), 2, 2) := by kernel_rfl
/-- a row of rows in memory -/
theorem RowO.cellR {w : World} {e : TypeId} {A : Option Addr} {c : Nat} {l : List (Nat × Nat)} (h : RowO w e 2 A l.length c (cellsR l)) {k : Nat} (hk : k < l.length) :
    ∃ g o, A = some ⟨g, o, none⟩ ∧ w.cell? ⟨g, o + k * 2, none⟩ = some (.int .u8 (l[k].1 : Int)) ∧ w.cell? ⟨g, o + k * 2 + 1, none⟩ = some (.int .u8 (l[k].2 : Int)) := by
  obtain ⟨h1, h2⟩ := cellsR_at l k hk
  obtain ⟨ad, e, c1⟩ := h.rd _ _ h1
  obtain ⟨ad', e', c2⟩ := h.rd _ _ h2
  rw [e] at e'; injection e' with e'; subst e'
  obtain ⟨g, o, rfl⟩ := h.flat ad e
  rw [Addr.add_mid] at c1 c2
  rw [← Nat.add_assoc] at c2
  exact ⟨g, o, e, c1, c2⟩

theorem listB_rises (ws : List Nat) : (listB ws).Pairwise (· < ·) := by unfold listB upB; exact List.pairwise_lt_range.filter _
/-- one byte more of a rising list -/
theorem rows_at {l : List Nat} (hb : ∀ b ∈ l, b < 256) (hp : l.Pairwise (· < ·)) {k : Nat} (hk : k < l.length) :
    (k = 0 ∧ rowsB (l.take k) = [] ∧ rowsB (l.take (k + 1)) = [(l[k], l[k])]) ∨
    ∃ (r : List (Nat × Nat)) (lo h : Nat), 0 < k ∧ rowsB (l.take k) = r ++ [(lo, h)] ∧ h < l[k] ∧ l[k - 1]? = some h ∧ r.length + 1 ≤ k ∧
      (h + 1 = l[k] → rowsB (l.take (k + 1)) = r ++ [(lo, l[k])]) ∧ (h + 1 ≠ l[k] → rowsB (l.take (k + 1)) = r ++ [(lo, h)] ++ [(l[k], l[k])]) := by
  have hbt : ∀ b ∈ l.take k, b < 256 := fun b hm => hb b (List.mem_of_mem_take hm)
  have hsn : rowsB (l.take (k + 1)) = stepR (rowsB (l.take k)) l[k] := by rw [take_snoc l k hk, rowsB_snoc]
  have hlk : (l.take k).length = k := by rw [List.length_take]; omega
  rcases rows_facts _ (l.take k) rfl hbt with ⟨h1, h2⟩ | ⟨m, h, r, lo, h1, h2, h3, h4, _, _⟩
  · left
    have k0 : k = 0 := by rw [h1] at hlk; simpa using hlk.symm
    exact ⟨k0, h2, by rw [hsn, h2, stepR_nil]⟩
  · right
    have hm : m.length + 1 = k := by rw [h1] at hlk; simpa using hlk
    have hkm : (l.take k)[k - 1]? = some h := by rw [h1, show k - 1 = m.length by omega, List.getElem?_concat_length]
    have hk1 : l[k - 1]? = some h := by
      rw [List.getElem?_take] at hkm
      split at hkm
      · exact hkm
      · cases hkm
    have hlt : h < l[k] := by
      have h5 := List.pairwise_iff_getElem.1 hp (k - 1) k (by omega) hk (by omega)
      rw [List.getElem?_eq_getElem (by omega)] at hk1
      injection hk1 with hk1
      rwa [hk1] at h5
    refine ⟨r, lo, h, by omega, h2, hlt, hk1, ?_, fun e => ?_, fun e => ?_⟩
    · rw [h2, hlk, List.length_append] at h4
      simpa using h4
    · rw [hsn, h2, stepR_join _ _ _ _ e]
    · rw [hsn, h2, stepR_new _ _ _ _ e]

end Go.Proofs.YtgknlegomoaoeaaDoor

/-
  Contract of the reference's Has. No statement of the seat is proved here.
-/
namespace Go.Proofs.YtgknlegomoaoeaaDoor
open Go Go.RowKit
set_option maxRecDepth 100000


set_option maxHeartbeats 1000000 in
theorem rhas_any (ws : List Nat) (hs : SetOk ws) (b : Nat) (hb : b < 256) (w : World) :
    Calls Tryd.prog 19 #[setV ws, .int .u8 (b : Int)] w fun e w' => e = .returned (.bool (hasB ws b)) ∧ Below w.heap.size w w' := by
  have hz := cellsU_size hs
  have hB := Blk.new w 24 (cellsU ws)
  have hcell : (w.alloc (.cells (cellsU ws) 24)).cell? ⟨w.heap.size, b / 64, none⟩ = some (.int .u64 (wordB ws (b / 64) : Int)) := (hB.cell _).trans (cellsU_at hs (by omega))
  have key := ref_key (wordB ws (b / 64)) b (hs.wlt _)
  have hlt : b / 64 < 4 := by omega
  have hbel : Below w.heap.size w (w.alloc (.cells (cellsU ws) 24)) := (Below.refl _ _).alloc (Nat.le_refl _) _
  unfold setV
  unfold hasB
  generalize wordB ws (b / 64) = word at hcell key ⊢
  clear hB
  generalize word.testBit (b % 64) = t at key ⊢
  cases t
  · simp only [Bool.false_eq_true, if_false] at key
    go_enter Tryd.func19, Tryd.ntmps19
    go_wp2_with (simp only [key])
    go_ret
    exact ⟨rfl, hbel⟩
  · simp only [if_true] at key
    go_enter Tryd.func19, Tryd.ntmps19
    go_wp2_with (simp only [key])
    go_ret
    exact ⟨rfl, hbel⟩

end Go.Proofs.YtgknlegomoaoeaaDoor

/-
  Contract of the reference's List. No statement of the seat is proved here.
-/
namespace Go.Proofs.YtgknlegomoaoeaaDoor
open Go Go.RowKit
set_option maxRecDepth 100000


set_option maxHeartbeats 4000000 in
theorem rlist_any (ws : List Nat) (hs : SetOk ws) (w : World) :
    Calls Tryd.prog 85 #[setV ws] w fun e w' => ∃ A' c', e = .returned (.slice A' (listB ws).length c') ∧ NewO w w' 5 1 A' (listB ws).length c' ((listB ws).map nb) := by
  have hB1 := Blk.new w 24 (cellsU ws)
  unfold setV
  go_enter Tryd.func85, Tryd.ntmps85
  go_wp2
  go_loopw [3, 4] (fun s i wr => ∃ (k : Nat) (L : List Nat) (A : Option Addr) (c : Nat), k ≤ 256 ∧ i = .int .i64 (k : Int) ∧ L = upB ws k ∧ s = .slice A L.length c ∧ NewO (w.alloc (Obj.cells (cellsU ws) 24)) wr 5 1 A L.length c (L.map nb)) (fun _ i _ => 256 - (intOf i).toNat)
  case atStart => exact ⟨0, [], none, 0, by omega, rfl, by simp [upB], rfl, NewO.start _ _ _⟩
  case round =>
    obtain ⟨k, L, A, c, hk, rfl, hL, rfl, hN⟩ := hrel
    by_cases hlt : k < 256
    · have hki : (k : Int) < 256 := by omega
      have hsn := upB_succ ws k
      rw [← hL] at hsn
      have hle : L.length ≤ 256 := by
        have := upB_len ws k
        rw [← hL] at this
        omega
      have hB2 := hB1.ext hN.bel
      have hcall := rhas_any ws hs k hlt wr
      unfold setV at hcall
      have Hsn := Lib.hid hsn
      have HB1 := Lib.hid hB1
      clear hsn hL hB1
      go_wp2_with (refine wpList_load_set rfl _ rfl w.heap.size rfl hs hB2 ?_)
      refine hcall.mono ?_
      rintro e w2 ⟨rfl, hb2⟩
      have hN2 := hN.ext hb2
      clear hcall hB2
      generalize hasB ws k = t at Hsn
      cases t
      · go_wp2
        go_roundw
        case rel =>
          have h1 := Hsn.out
          simp only [Bool.false_eq_true, if_false, List.append_nil] at h1
          exact ⟨k + 1, L, A, c, by omega, by go_num, h1.symm, rfl, hN2⟩
        case measure => simp [intOf]; omega
      · have hm1 : L.length + 1 ≤ maxLen := by unfold maxLen; omega
        have hm2 : (L.length + 1) * 1 ≤ 140737488355328 := by omega
        go_wp2_with (at_builtin
                     refine wpList_appO _ rfl (.tmp 13) (.tmp 16) _ rfl _ _ 1 1 Tryd.underlying94 info_u8 rfl A _ c _ rfl (hN2.row.alloc _) (some ⟨w2.heap.size, 0, none⟩) 1 1 [_] rfl rfl (Rd.lit _ #[_] _) ?_ ?_ hm1 hm2 ?_
                     · simp; rfl
                     · intro h; cases h
                     intro A3 c3 w4 hrow4 honly4 hA4)
        have hN4 := hN2.grow (ext_alloc (Below.refl _ _) _) hrow4 honly4 hA4
        go_roundw
        case rel =>
          have h1 := Hsn.out
          simp only [if_true] at h1
          refine ⟨k + 1, L ++ [k], A3, c3, by omega, by go_num, h1.symm, by rw [List.length_append]; rfl, ?_⟩
          rw [List.length_append, List.map_append]
          exact hN4
        case measure => simp [intOf]; omega
    · obtain rfl : k = 256 := by omega
      have hL2 : L = listB ws := hL
      subst hL2
      clear hL hB1
      go_wp2
      go_ret
      exact ⟨A, c, rfl, hN.back ((Below.refl _ _).alloc (Nat.le_refl _) _)⟩
end Go.Proofs.YtgknlegomoaoeaaDoor

/-
  Contract of the reference's Ranges. No statement of the seat is proved here.
-/
namespace Go.Proofs.YtgknlegomoaoeaaDoor
open Go Go.RowKit
set_option maxRecDepth 100000


set_option maxHeartbeats 4000000 in
theorem rranges_any (ws : List Nat) (hs : SetOk ws) (w : World) :
    Calls Tryd.prog 87 #[setV ws] w fun e w' => ∃ A' c', e = .returned (.slice A' (rowsB (listB ws)).length c') ∧ NewO w w' 127 2 A' (rowsB (listB ws)).length c' (cellsR (rowsB (listB ws))) := by
  have hB1 := Blk.new w 24 (cellsU ws)
  have hcall := rlist_any ws hs (w.alloc (Obj.cells (cellsU ws) 24))
  have hbs : ∀ b ∈ listB ws, b < 256 := fun b hb => listB_lt hb
  have hps := listB_rises ws
  have hll := listB_len ws
  obtain ⟨l, hl⟩ : ∃ l, listB ws = l := ⟨_, rfl⟩
  rw [hl] at hcall hbs hps hll ⊢
  clear hl
  unfold setV at hcall ⊢
  go_enter Tryd.func87, Tryd.ntmps87
  go_wp2_with (refine wpList_load_set rfl _ rfl w.heap.size rfl hs hB1 ?_)
  refine hcall.mono ?_
  rintro e w2 ⟨AL, cL, rfl, hNL⟩
  clear hcall hB1
  go_wp2
  go_loopw [3, 5] (fun s i wr => ∃ (k : Nat) (R : List (Nat × Nat)) (A : Option Addr) (c : Nat), k ≤ l.length ∧ i = .int .i64 (k : Int) ∧ R = rowsB (l.take k) ∧ s = .slice A R.length c ∧ NewO w2 wr 127 2 A R.length c (cellsR R)) (fun _ i _ => l.length - (intOf i).toNat)
  case atStart => exact ⟨0, [], none, 0, by omega, rfl, rfl, rfl, NewO.start _ _ _⟩
  case round =>
    obtain ⟨k, R, A, c, hk, rfl, hR, rfl, hN⟩ := hrel
    by_cases hlt : k < l.length
    · have hki : (k : Int) < (l.length : Int) := by omega
      have hrd := hNL.rd.ext hN.bel
      obtain ⟨ad, rfl, q⟩ := hrd.at_ (k := k) (by simpa using hlt)
      simp only [List.getElem_map, nb] at q
      have hbb := hbs l[k] (List.getElem_mem hlt)
      have hne : ¬ inA A ad.block := fun hin => by
        have h1 := hN.2.2 _ hin
        obtain ⟨ad', e', h2⟩ := hNL.rd.at_ (k := k) (by simpa using hlt)
        injection e' with e'
        subst e'
        have h3 := World.block_lt_of_cell? _ _ h2
        rw [block_add] at h3
        omega
      have Hne := Lib.hid hne
      rcases rows_at hbs hps hlt with ⟨hk0, h1, h2⟩ | ⟨r, lo, h, hk0, h1, hhb, hk1, hrl, hj, hn⟩
      · obtain rfl : R = [] := hR.trans h1
        have H2 := Lib.hid h2
        clear hR h1 h2
        generalize l[k] = b at q hbb H2
        have hkf : ¬ ((0 : Int) < (k : Int)) := by omega
        have hkn : ¬ (0 < k) := by omega
        have Hk0 := Lib.hid hk0
        obtain ⟨m, hm⟩ : ∃ m, ([] : List (Nat × Nat)).length = m := ⟨_, rfl⟩
        obtain ⟨xs, hxs⟩ : ∃ xs, cellsR [] = xs := ⟨_, rfl⟩
        rw [hm, hxs] at hN
        rw [hm]
        have hm0 : m = 0 := hm.symm
        have hm1 : m + 1 ≤ maxLen := by unfold maxLen; omega
        have hm2 : (m + 1) * 2 ≤ 140737488355328 := by omega
        have Hm := Lib.hid hm
        have Hxs := Lib.hid hxs
        clear hm hxs hm0 hk0
        have Hrow : Hid (∀ W, Below wr.heap.size wr W → RowO W 127 2 A m c xs) := Lib.hid fun W hW => hN.row.ext hW
        have Hq : Hid (∀ W, Below wr.heap.size wr W → W.cell? (ad.add k) = some (.int .u8 (b : Int))) := Lib.hid fun W hW => (World.cell?_of_block (hW.block _ (World.block_lt_of_cell? wr _ q))).trans q
        have Hm1 := Lib.hid hm1
        have Hm2 := Lib.hid hm2
        have HN := Lib.hid hN
        clear hm1 hm2 hN
        go_wp2
        go_region
        go_wp2
        go_region_held3 (fun w' => w'.cell? (ad.add k) = some (.int .u8 (b : Int)))
          (first | exact q | exact hq3 | exact Hq.out _ (by repeat (first | apply ext_alloc | apply ext_drew | exact Below.refl _ _)))
          (first
          | (refine step_appO _ rfl (.tmp 41) (.tmp 51) _ rfl _ _ 2 2 Tryd.underlying125 info_two rfl A m c xs rfl (Hrow.out _ (by repeat (first | apply ext_alloc | apply ext_drew | exact Below.refl _ _))) (some ⟨_, 0, none⟩) 1 1 [.int .u8 (b : Int), .int .u8 (b : Int)] rfl rfl (Rd.lit_at _ #[.int .u8 (b : Int), .int .u8 (b : Int)] _ (by first | rfl | simp)) (by intro u hu; simp at hu; subst hu; rfl) (by intro h; cases h) Hm1.out Hm2.out ?_; intro A3 c3 w3 hrow3 honly3 hA3; have hq3 := cell_only (Hq.out _ (by repeat (first | apply ext_alloc | apply ext_drew | exact Below.refl _ _))) honly3 (by rw [block_add]; exact hne)))
        have hN3 := HN.out.grow (by repeat (first | apply ext_alloc | apply ext_drew | exact Below.refl _ _)) hrow3 honly3 hA3
        go_wp2
        go_roundw
        case rel =>
          refine ⟨k + 1, [(b, b)], A3, c3, by omega, by go_num, H2.out.symm, by rw [← Hm.out]; rfl, ?_⟩
          rw [← Hm.out, ← Hxs.out] at hN3
          exact hN3
        case measure => simp [intOf]; omega
      · obtain rfl : R = r ++ [(lo, h)] := hR.trans h1
        have Hj := Lib.hid hj
        have Hn := Lib.hid hn
        obtain ⟨ad', e', q0⟩ := hrd.at_ (k := k - 1) (by simp; omega)
        injection e' with e'
        subst e'
        have hlk : l[k - 1]'(by omega) = h := by
          rw [List.getElem?_eq_getElem (by omega)] at hk1
          injection hk1
        simp only [List.getElem_map, nb, hlk] at q0
        clear hR h1 hk1 hj hn hlk
        generalize l[k] = b at q hbb hhb Hj Hn
        have hkt : (0 : Int) < (k : Int) := by omega
        have hkk : ((k : Int) - 1).toNat = k - 1 := by omega
        have hki1 : (k : Int) - 1 < (l.length : Int) := by omega
        have hkb : (k : Int) ≤ 1000000 := by omega
        by_cases he : h + 1 = b
        · obtain ⟨g, o, rfl, q1, q2⟩ := hN.row.cellR (k := r.length) (by simp)
          simp only [List.getElem_append_right (Nat.le_refl _), Nat.sub_self, List.getElem_cons_zero] at q1 q2
          have hfr := hN.row.free (o + r.length * 2 + 1)
          have hN3 := hN.set (r.length * 2 + 1) (by rw [cellsR_length, List.length_append, List.length_singleton]; omega) (nb b)
          rw [← Nat.add_assoc, cellsR_set] at hN3
          have H3 := Lib.hid hN3
          have HN := Lib.hid hN
          have hR3 := Hj.out he
          have HR3 := Lib.hid hR3
          rw [List.length_append, List.length_singleton]
          have hrb : r.length ≤ 1000000 := by omega
          have hlast : ((r.length + 1 : Nat) : Int) - 1 = (r.length : Int) := by omega
          have hhe : (h : Int) + 1 = (b : Int) := by omega
          clear hN3 hR3 hN
          go_wp2
          go_region
          go_wp2
          go_region
          go_wp2
          go_roundw
          case rel =>
            refine ⟨k + 1, r ++ [(lo, b)], some ⟨g, o, none⟩, c, by omega, by go_num, HR3.out.symm, by simp, ?_⟩
            have h3 := H3.out
            rw [List.length_append, List.length_singleton] at h3 ⊢
            exact h3.ext (ext_drew (ext_drew (Below.refl _ _)))
          case measure => simp [intOf]; omega
        · have hR3 := Hn.out he
          have HR3 := Lib.hid hR3
          have hhe : ¬ ((h : Int) + 1 = (b : Int)) := by omega
          obtain ⟨m, hm⟩ : ∃ m, (r ++ [(lo, h)]).length = m := ⟨_, rfl⟩
          obtain ⟨xs, hxs⟩ : ∃ xs, cellsR (r ++ [(lo, h)]) = xs := ⟨_, rfl⟩
          rw [hm, hxs] at hN
          rw [hm]
          have hmk : m ≤ k := by rw [← hm]; simp; omega
          have hm1 : m + 1 ≤ maxLen := by unfold maxLen; omega
          have hm2 : (m + 1) * 2 ≤ 140737488355328 := by omega
          have Hm := Lib.hid hm
          have Hxs := Lib.hid hxs
          clear hm hxs hR3
          have Hrow : Hid (∀ W, Below wr.heap.size wr W → RowO W 127 2 A m c xs) := Lib.hid fun W hW => hN.row.ext hW
          have Hq : Hid (∀ W, Below wr.heap.size wr W → W.cell? (ad.add k) = some (.int .u8 (b : Int))) := Lib.hid fun W hW => (World.cell?_of_block (hW.block _ (World.block_lt_of_cell? wr _ q))).trans q
          have Hm1 := Lib.hid hm1
          have Hm2 := Lib.hid hm2
          have HN := Lib.hid hN
          clear hm1 hm2 hN
          go_wp2
          go_region
          go_wp2
          go_region_held3 (fun w' => w'.cell? (ad.add k) = some (.int .u8 (b : Int)))
            (first | exact q | exact hq3 | exact Hq.out _ (by repeat (first | apply ext_alloc | apply ext_drew | exact Below.refl _ _)))
            (first
            | (refine step_appO _ rfl (.tmp 41) (.tmp 51) _ rfl _ _ 2 2 Tryd.underlying125 info_two rfl A m c xs rfl (Hrow.out _ (by repeat (first | apply ext_alloc | apply ext_drew | exact Below.refl _ _))) (some ⟨_, 0, none⟩) 1 1 [.int .u8 (b : Int), .int .u8 (b : Int)] rfl rfl (Rd.lit_at _ #[.int .u8 (b : Int), .int .u8 (b : Int)] _ (by first | rfl | simp)) (by intro u hu; simp at hu; subst hu; rfl) (by intro h; cases h) Hm1.out Hm2.out ?_; intro A3 c3 w3 hrow3 honly3 hA3; have hq3 := cell_only (Hq.out _ (by repeat (first | apply ext_alloc | apply ext_drew | exact Below.refl _ _))) honly3 (by rw [block_add]; exact hne)))
          have hN3 := HN.out.grow (by repeat (first | apply ext_alloc | apply ext_drew | exact Below.refl _ _)) hrow3 honly3 hA3
          go_wp2
          go_roundw
          case rel =>
            refine ⟨k + 1, r ++ [(lo, h)] ++ [(b, b)], A3, c3, by omega, by go_num, HR3.out.symm, by rw [← Hm.out]; simp, ?_⟩
            rw [← Hm.out, ← Hxs.out] at hN3
            rw [cellsR_append (r ++ [(lo, h)]), show (r ++ [(lo, h)] ++ [(b, b)]).length = (r ++ [(lo, h)]).length + 1 by simp]
            exact hN3
          case measure => simp [intOf]; omega
    · obtain rfl : k = l.length := by omega
      rw [List.take_length] at hR
      subst hR
      go_wp2
      go_ret
      exact ⟨A, c, rfl, (hN.back hNL.bel).back ((Below.refl _ _).alloc (Nat.le_refl _) _)⟩
end Go.Proofs.YtgknlegomoaoeaaDoor

/-
  Contract of the reference's set (a set as a text). No statement of the seat is proved here.
-/
namespace Go.Proofs.YtgknlegomoaoeaaDoor
open Go Go.RowKit
set_option maxRecDepth 100000


theorem cellR_of {w : World} {A : Option Addr} {l : List (Nat × Nat)} (h : Rd w A (cellsR l)) (hf : Flat A) {k : Nat} (hk : k < l.length) :
    ∃ g o, A = some ⟨g, o, none⟩ ∧ w.cell? ⟨g, o + k * 2, none⟩ = some (.int .u8 (l[k].1 : Int)) ∧ w.cell? ⟨g, o + k * 2 + 1, none⟩ = some (.int .u8 (l[k].2 : Int)) := by
  obtain ⟨h1, h2⟩ := cellsR_at l k hk
  obtain ⟨ad, e, c1⟩ := h _ _ h1
  obtain ⟨ad', e', c2⟩ := h _ _ h2
  rw [e] at e'; injection e' with e'; subst e'
  obtain ⟨g, o, rfl⟩ := hf ad e
  rw [Addr.add_mid] at c1 c2
  rw [← Nat.add_assoc] at c2
  exact ⟨g, o, e, c1, c2⟩
theorem rowT_len (p : Nat × Nat) : (rowT p).length ≤ 9 := by
  have h1 := signB_len p.1
  have h2 := signB_len p.2
  unfold rowT
  split <;> simp only [List.length_append, List.length_cons, List.length_nil] <;> omega
theorem rowsT_append (a b : List (Nat × Nat)) : rowsT (a ++ b) = rowsT a ++ rowsT b := by unfold rowsT; rw [List.flatMap_append]
theorem rowsT_len (l : List (Nat × Nat)) : (rowsT l).length ≤ 9 * l.length := by
  induction l with
  | nil => simp [rowsT]
  | cons p r ih =>
    have := rowT_len p
    have e : rowsT (p :: r) = rowT p ++ rowsT r := rowsT_append [p] r |>.trans (by simp [rowsT])
    rw [e]
    simp only [List.length_append, List.length_cons]
    omega
theorem rowsT_take (l : List (Nat × Nat)) (k : Nat) (h : k < l.length) : rowsT (l.take (k + 1)) = rowsT (l.take k) ++ rowT l[k] := by
  rw [List.take_succ_eq_append_getElem h, rowsT_append]; simp [rowsT]
theorem setT_len (s : List Nat) : (setT s).length ≤ 2400 := by
  unfold setT
  split
  · have := signB_len ((listB s).getD 0 0); omega
  · split
    · simp
    · have h1 := rowsT_len (rowsB (listB s))
      have h2 := rowsB_len (l := listB s) (fun b hb => listB_lt hb)
      have h3 := listB_len s
      simp only [List.length_cons, List.length_append, List.length_nil]
      omega

set_option maxRecDepth 100000 in
set_option maxHeartbeats 2000000 in
theorem rset_any (ws : List Nat) (hs : SetOk ws) (w : World) : Calls Tryd.prog 68 #[setV ws] w fun e w' => e = .returned (.string (bsN (setT ws))) ∧ Below w.heap.size w w' := by
  obtain ⟨p0, p1, p2, p3, rfl⟩ := four_words hs
  have hL : ∀ W, Calls Tryd.prog 85 #[.agg #[.int .u64 (p0 : Int), .int .u64 (p1 : Int), .int .u64 (p2 : Int), .int .u64 (p3 : Int)]] W fun e w' => ∃ A' c', e = .returned (.slice A' (listB [p0, p1, p2, p3]).length c') ∧ Rd w' A' ((listB [p0, p1, p2, p3]).map nb) ∧ Flat A' ∧ Below W.heap.size W w' := fun W =>
    (rlist_any _ hs W).mono fun e w' ⟨A', c', e1, h1⟩ => ⟨A', c', e1, h1.rd, h1.row.flat, h1.bel⟩
  have hR : ∀ W, Calls Tryd.prog 87 #[.agg #[.int .u64 (p0 : Int), .int .u64 (p1 : Int), .int .u64 (p2 : Int), .int .u64 (p3 : Int)]] W fun e w' => ∃ A' c', e = .returned (.slice A' (rowsB (listB [p0, p1, p2, p3])).length c') ∧ Rd w' A' (cellsR (rowsB (listB [p0, p1, p2, p3]))) ∧ Flat A' ∧ Below W.heap.size W w' := fun W =>
    (rranges_any _ hs W).mono fun e w' ⟨A', c', e1, h1⟩ => ⟨A', c', e1, h1.rd, h1.row.flat, h1.bel⟩
  have hLl := listB_len [p0, p1, p2, p3]
  have hLlt : ∀ b ∈ listB [p0, p1, p2, p3], b < 256 := fun b hb => listB_lt hb
  have hRl := rowsB_len hLlt
  have hRlt := rowsB_lt hLlt
  have hT : setT [p0, p1, p2, p3] = (if (listB [p0, p1, p2, p3]).length = 1 then signB ((listB [p0, p1, p2, p3]).getD 0 0) else if (listB [p0, p1, p2, p3]).length = 256 then [46] else 91 :: (rowsT (rowsB (listB [p0, p1, p2, p3])) ++ [93])) := rfl
  rw [hT]
  have hB := Blk.new w 24 #[.int .u64 (p0 : Int), .int .u64 (p1 : Int), .int .u64 (p2 : Int), .int .u64 (p3 : Int)]
  show Calls Tryd.prog 68 #[.agg #[.int .u64 (p0 : Int), .int .u64 (p1 : Int), .int .u64 (p2 : Int), .int .u64 (p3 : Int)]] w _
  obtain ⟨L, hLe⟩ : ∃ L, listB [p0, p1, p2, p3] = L := ⟨_, rfl⟩
  rw [hLe] at hL hR hLl hLlt hRl hRlt ⊢
  obtain ⟨R, hRe⟩ : ∃ R, rowsB L = R := ⟨_, rfl⟩
  rw [hRe] at hR hRl hRlt ⊢
  clear hT hLe hRe hs
  have HL := Lib.hid hL
  have HR := Lib.hid hR
  have HB := Lib.hid hB
  have HLlt := Lib.hid hLlt
  have HRlt := Lib.hid hRlt
  have hLi : (L.length : Int) ≤ 256 := by omega
  have hRi : (R.length : Int) ≤ 256 := by omega
  clear hL hR hB hLlt hRlt
  by_cases h1 : L.length = 1
  · obtain ⟨b, rfl⟩ : ∃ b, L = [b] := List.length_eq_one_iff.1 h1
    rw [if_pos (show [b].length = 1 from rfl)]
    have hb := HLlt.out b (by simp)
    have hS := rsign_any b hb
    have HS := Lib.hid hS
    clear hS h1
    go_enter Tryd.func68, Tryd.ntmps68
    go_wp2_with fail
    refine (HL.out _).mono ?_
    rintro e w2 ⟨A1, e1, rfl, hr1, hf1, hb1⟩
    obtain ⟨ad, rfl, x0⟩ := hr1 0 (nb b) rfl
    obtain ⟨g, o, rfl⟩ := hf1 ad rfl
    rw [Addr.add_mid] at x0
    unfold nb at x0
    have x0' : w2.cell? ⟨g, o, none⟩ = some (.int .u8 (b : Int)) := x0
    clear x0 hr1 hf1
    go_wp2_with fail
    refine (HS.out _).mono ?_
    rintro e w3 ⟨rfl, hb3⟩
    go_wp2
    go_ret
    exact ⟨rfl, ext_trans (ext_trans ((Below.refl _ _).alloc (Nat.le_refl _) _) hb1) hb3⟩
  rw [if_neg h1]
  have h1' : ((L.length : Int) == 1) = false := by rw [beq_eq_false_iff_ne]; omega
  by_cases h2 : L.length = 256
  · rw [if_pos h2]
    clear h1
    go_enter Tryd.func68, Tryd.ntmps68
    go_wp2_with fail
    refine (HL.out _).mono ?_
    rintro e w2 ⟨A1, e1, rfl, hr1, hf1, hb1⟩
    clear hr1 hf1
    go_wp2
    go_ret
    exact ⟨rfl, ext_trans ((Below.refl _ _).alloc (Nat.le_refl _) _) hb1⟩
  rw [if_neg h2]
  have h2' : ((L.length : Int) == 256) = false := by rw [beq_eq_false_iff_ne]; omega
  clear h1 h2
  go_enter Tryd.func68, Tryd.ntmps68
  go_wp2_with fail
  refine (HL.out _).mono ?_
  rintro e w2 ⟨A1, e1, rfl, hr1, hf1, hb1⟩
  have hb2 : Below w.heap.size w w2 := ext_trans ((Below.refl _ _).alloc (Nat.le_refl _) _) hb1
  have hB2 := HB.out.ext hb1
  have c0 := hB2.cell 0
  have c1 := hB2.cell 1
  have c2 := hB2.cell 2
  have c3 := hB2.cell 3
  clear hr1 hf1 hB2
  go_wp2_with fail
  refine (HR.out _).mono ?_
  rintro e w3 ⟨A3, e3, rfl, hr3, hf3, hb3⟩
  clear c0 c1 c2 c3
  go_wp2
  go_loopw [4, 6] (fun t i wr => ∃ (k : Nat) (Z : ByteArray), k ≤ R.length ∧ i = .int .i64 (k : Int) ∧ t = .string Z ∧ Hid (Z = bsN (91 :: rowsT (R.take k))) ∧ Below w3.heap.size w3 wr) (fun _ i _ => R.length - (intOf i).toNat)
  case atStart => exact ⟨0, _, Nat.zero_le _, rfl, rfl, Lib.hid rfl, Below.refl _ _⟩
  case round =>
    obtain ⟨k, Z, hk, rfl, rfl, HZ, hbr⟩ := hrel
    have hbw : Below w.heap.size w wr := ext_trans (ext_trans hb2 hb3) hbr
    have hzs : Z.size ≤ 2400 := by
      rw [HZ.out, bsN_size]
      have h1 := rowsT_len (R.take k)
      have h2 := List.length_take_le k R
      simp only [List.length_cons]
      omega
    by_cases hlt : k < R.length
    · have hki : (k : Int) < (R.length : Int) := by omega
      obtain ⟨g, o, rfl, x1, x2⟩ := cellR_of (hr3.ext hbr) hf3 hlt
      obtain ⟨l1, l2⟩ := HRlt.out R[k] (List.getElem_mem hlt)
      have hts := rowsT_take R k hlt
      unfold rowT at hts
      obtain ⟨lo, hlo⟩ : ∃ lo, R[k].1 = lo := ⟨_, rfl⟩
      obtain ⟨hi, hhi⟩ : ∃ hi, R[k].2 = hi := ⟨_, rfl⟩
      rw [hlo] at x1 l1 hts
      rw [hhi] at x2 l2 hts
      have hS1 := rsign_any lo l1
      have hS2 := rsign_any hi l2
      have y1 : (bsN (signB lo)).size ≤ 4 := by rw [bsN_size]; exact signB_len _
      have y2 : (bsN (signB hi)).size ≤ 4 := by rw [bsN_size]; exact signB_len _
      by_cases hlh : lo < hi
      · rw [if_pos hlh] at hts
        have e2 : Z ++ bsN (signB lo) ++ (⟨#[45]⟩ : ByteArray) ++ bsN (signB hi) = bsN (91 :: rowsT (R.take (k + 1))) := by
          rw [HZ.out, hts, show (⟨#[45]⟩ : ByteArray) = bsN [45] from rfl, bsN_append, bsN_append, bsN_append]; simp
        have E2 := Lib.hid e2
        have hlhi : (lo : Int) < (hi : Int) := by omega
        clear e2 hts hlo hhi
        generalize bsN (signB lo) = Y1 at hS1 y1 E2
        generalize bsN (signB hi) = Y2 at hS2 y2 E2
        have HS1 := Lib.hid hS1
        have HS2 := Lib.hid hS2
        have X1 := Lib.hid x1
        have X2 := Lib.hid x2
        clear hS1 hS2
        go_wp2_with fail
        refine (HS1.out _).mono ?_
        rintro e w5 ⟨rfl, hb5⟩
        clear x1 x2
        have x1 := (World.cell?_of_block (a := ⟨g, o + k * 2, none⟩) (hb5.block _ (World.block_lt_of_cell? wr _ X1.out))).trans X1.out
        have x2 := (World.cell?_of_block (a := ⟨g, o + k * 2 + 1, none⟩) (hb5.block _ (World.block_lt_of_cell? wr _ X2.out))).trans X2.out
        go_wp2
        go_region
        go_wp2_with fail
        refine (HS2.out _).mono ?_
        rintro e w6 ⟨rfl, hb6⟩
        clear x1 x2
        go_wp2
        go_roundw
        case rel => exact ⟨k + 1, _, by omega, by go_num, rfl, E2, ext_trans (ext_drew (ext_trans hbr hb5)) hb6⟩
        case measure => simp [intOf]; omega
      · rw [if_neg hlh] at hts
        have e2 : Z ++ bsN (signB lo) = bsN (91 :: rowsT (R.take (k + 1))) := by
          rw [HZ.out, hts, bsN_append]; simp
        have E2 := Lib.hid e2
        have hlhi : (hi : Int) ≤ (lo : Int) := by omega
        clear e2 hts hlo hhi hS2 y2
        generalize bsN (signB lo) = Y1 at hS1 y1 E2
        have HS1 := Lib.hid hS1
        have X1 := Lib.hid x1
        have X2 := Lib.hid x2
        clear hS1
        go_wp2_with fail
        refine (HS1.out _).mono ?_
        rintro e w5 ⟨rfl, hb5⟩
        clear x1 x2
        have x1 := (World.cell?_of_block (a := ⟨g, o + k * 2, none⟩) (hb5.block _ (World.block_lt_of_cell? wr _ X1.out))).trans X1.out
        have x2 := (World.cell?_of_block (a := ⟨g, o + k * 2 + 1, none⟩) (hb5.block _ (World.block_lt_of_cell? wr _ X2.out))).trans X2.out
        go_wp2
        go_region
        go_wp2
        go_roundw
        case rel => exact ⟨k + 1, _, by omega, by go_num, rfl, E2, ext_drew (ext_trans hbr hb5)⟩
        case measure => simp [intOf]; omega
    · obtain rfl : k = R.length := by omega
      have e2 : Z ++ (⟨#[93]⟩ : ByteArray) = bsN (91 :: (rowsT R ++ [93])) := by
        rw [HZ.out, show (⟨#[93]⟩ : ByteArray) = bsN [93] from rfl, bsN_append, List.take_length]; simp
      have E2 := Lib.hid e2
      clear e2
      go_wp2
      go_ret
      exact ⟨ret_str E2.out, hbw⟩
end Go.Proofs.YtgknlegomoaoeaaDoor

/-
  Contract of the reference's text (an expression as a text). No statement of the seat is proved here.
-/
namespace Go.Proofs.YtgknlegomoaoeaaDoor
open Go Go.RowKit
set_option maxRecDepth 100000


theorem textL_len (k : Int) (l : List Ex) : ∀ f, (∀ x ∈ l, (textE x).length + 3 ≤ 2420 * nodesE x) → (textL k f l).length ≤ 2420 * nodesL l := by
  induction l with
  | nil => simp [textL]
  | cons x r ih =>
    intro f h
    have h1 := ih false (fun y hy => h y (by simp [hy]))
    have h2 := h x (by simp)
    have e : (textL k f (x :: r)).length = (if k = 3 ∧ f = false then [124] else ([] : List Nat)).length + (if inB k x.kind then 40 :: (textE x ++ [41]) else textE x).length + (textL k false r).length := by
      simp only [textL, List.length_append]
    rw [e]
    have h4 : (if k = 3 ∧ f = false then [124] else ([] : List Nat)).length ≤ 1 := by split <;> simp
    have h5 : (if inB k x.kind then 40 :: (textE x ++ [41]) else textE x).length ≤ (textE x).length + 2 := by split <;> simp
    simp only [nodesL]
    omega
theorem textE_len (t : Ex) : (textE t).length + 3 ≤ 2420 * nodesE t := by
  refine ex_induct (p := fun t => (textE t).length + 3 ≤ 2420 * nodesE t) (fun k s ks lo hi ih => ?_) t
  have h1 := textL_len k ks true ih
  have h2 := setT_len s
  simp only [textE, nodesE]
  split
  · omega
  · split
    · cases ks with
      | nil => simp [textR, nodesL]
      | cons x r =>
        have h3 := ih x (by simp)
        have h4 := timesT_len lo hi
        have h5 : (if x.kind = 1 then textE x else 40 :: (textE x ++ [41])).length ≤ (textE x).length + 2 := by split <;> simp
        simp only [textR, nodesL, List.length_append]
        omega
    · omega

/-- what a node that may be tells of its kids -/
theorem one_kids {deep : Nat} {k : Int} {s : List Nat} {ks : List Ex} {lo hi : Int} (h : oneE deep (.mk k s ks lo hi) = true) :
    (∀ x ∈ ks, oneE (deep + 1) x = true) ∧ (k = 4 → ks.length = 1 ∧ repB lo hi = true) ∧ (k = 0 ∨ k = 1 ∨ k = 2 ∨ k = 3 ∨ k = 4) := by
  simp only [oneE] at h
  split at h
  · cases h
  split at h
  · rename_i h1
    rw [List.isEmpty_iff] at h
    subst h
    exact ⟨by simp, by omega, by omega⟩
  split at h
  · rename_i h1
    rw [Bool.and_eq_true, List.isEmpty_iff] at h
    rw [h.1]
    exact ⟨by simp, by omega, by omega⟩
  split at h
  · rename_i h1
    rw [Bool.and_eq_true, oneL_all, List.all_eq_true] at h
    exact ⟨h.2, by omega, by omega⟩
  split at h
  · rename_i h1
    rw [Bool.and_eq_true, Bool.and_eq_true, oneL_all, List.all_eq_true, decide_eq_true_eq] at h
    exact ⟨h.2, fun _ => h.1, by omega⟩
  · cases h

theorem byteArray_no (Z : ByteArray) (T : List Nat) : Z ++ bsN ([] ++ T) = Z ++ bsN T := rfl
theorem byteArray_nos (Z : ByteArray) (T : List Nat) : Z ++ bsN ([124] ++ T) = Z ++ (⟨#[124]⟩ : ByteArray) ++ bsN T := by
  rw [← bsN_append, ← ByteArray.append_assoc]; rfl
theorem byteArray_br (Z : ByteArray) (T : List Nat) : Z ++ bsN ([] ++ 40 :: (T ++ [41])) = Z ++ (⟨#[40]⟩ : ByteArray) ++ bsN T ++ (⟨#[41]⟩ : ByteArray) := by
  rw [show ([] ++ 40 :: (T ++ [41])) = [40] ++ (T ++ [41]) from rfl, ← bsN_append, ← bsN_append, ← ByteArray.append_assoc, ← ByteArray.append_assoc]; rfl
theorem byteArray_brs (Z : ByteArray) (T : List Nat) : Z ++ bsN ([124] ++ 40 :: (T ++ [41])) = Z ++ (⟨#[124]⟩ : ByteArray) ++ (⟨#[40]⟩ : ByteArray) ++ bsN T ++ (⟨#[41]⟩ : ByteArray) := by
  rw [show ([124] ++ 40 :: (T ++ [41])) = [124] ++ ([40] ++ (T ++ [41])) from rfl, ← bsN_append, ← bsN_append, ← bsN_append, ← ByteArray.append_assoc, ← ByteArray.append_assoc, ← ByteArray.append_assoc]; rfl

set_option maxRecDepth 100000 in
set_option maxHeartbeats 4000000 in
theorem rtext_any (S : Nat → Prop) (t : Ex) : ∀ (cs : List Value) (w : World) (deep : Nat), ReR S w t cs → nodesE t ≤ 1000000 → oneE deep t = true →
    Calls Tryd.prog 44 #[reV cs] w fun e w' => e = .returned (.string (bsN (textE t))) ∧ Below w.heap.size w w' := by
  refine ex_induct (p := fun t => ∀ (cs : List Value) (w : World) (deep : Nat), ReR S w t cs → nodesE t ≤ 1000000 → oneE deep t = true → Calls Tryd.prog 44 #[reV cs] w fun e w' => e = .returned (.string (bsN (textE t))) ∧ Below w.heap.size w w') (fun k s ks lo hi ih cs w deep h hn hone => ?_) t
  rw [reR_iff] at h
  obtain ⟨⟨hk, hs, hlo, hhi⟩, A, c, rfl, h1, h2, h3⟩ := h
  obtain ⟨o1, o2, o3⟩ := one_kids hone
  have hln := length_nodesL ks
  have hlen := textE_len (.mk k s ks lo hi)
  have hno : nodesE (.mk k s ks lo hi) = 1 + nodesL ks := by simp [nodesE]
  rw [hno] at hn hlen
  have hli : (ks.length : Int) ≤ 1000000 := by omega
  unfold maxLen at h2
  have hSet := fun W => rset_any s hs W
  have Hih := Lib.hid ih
  have H3 := Lib.hid h3
  have O1 := Lib.hid o1
  have hT : textE (.mk k s ks lo hi) = if k = 1 then setT s else if k = 4 then textR lo hi ks else textL k true ks := by simp [textE]
  rw [hT]
  clear ih h3 hno hone o1
  obtain ⟨p0, p1, p2, p3, rfl⟩ := four_words hs
  clear hs hk hlo hhi
  have hB := Blk.new w 27 #[.int .i64 k, .int .u64 (p0 : Int), .int .u64 (p1 : Int), .int .u64 (p2 : Int), .int .u64 (p3 : Int), .slice A ks.length c, .int .i64 lo, .int .i64 hi]
  have hSet' : ∀ W, Calls Tryd.prog 68 #[.agg #[.int .u64 (p0 : Int), .int .u64 (p1 : Int), .int .u64 (p2 : Int), .int .u64 (p3 : Int)]] W fun e w' => e = .returned (.string (bsN (setT [p0, p1, p2, p3]))) ∧ Below W.heap.size W w' := hSet
  have HSet := Lib.hid hSet'
  clear hSet hSet'
  show Calls Tryd.prog 44 #[.agg #[.int .i64 k, .int .u64 (p0 : Int), .int .u64 (p1 : Int), .int .u64 (p2 : Int), .int .u64 (p3 : Int), .slice A ks.length c, .int .i64 lo, .int .i64 hi]] w _
  by_cases hk1 : k = 1
  · subst hk1
    rw [if_pos rfl]
    clear hT o2 o3
    go_enter Tryd.func44, Tryd.ntmps44
    go_wp2_with fail
    refine (HSet.out _).mono ?_
    rintro e w2 ⟨rfl, hb2⟩
    go_wp2
    go_ret
    exact ⟨rfl, ext_trans ((Below.refl _ _).alloc (Nat.le_refl _) _) hb2⟩
  rw [if_neg hk1]
  have hk1' : (k == 1) = false := by simpa using hk1
  by_cases hk4 : k = 4
  · subst hk4
    rw [if_pos rfl]
    obtain ⟨hl1, hrep⟩ := o2 rfl
    obtain ⟨x, rfl⟩ := List.length_eq_one_iff.1 hl1
    obtain ⟨g, o, k', q0, q1, q2, q3, ks', A', c', lo', hi', rfl, hx, hr, x0, x1, x2, x3, x4, x5, x6, x7, -⟩ := (H3.out.ext ((Below.refl _ _).alloc (Nat.le_refl _) (Obj.cells #[.int .i64 4, .int .u64 (p0 : Int), .int .u64 (p1 : Int), .int .u64 (p2 : Int), .int .u64 (p3 : Int), .slice A [x].length c, .int .i64 lo, .int .i64 hi] 27))).kidX (k := 0) (by simp)
    have hx1 : [x][0] = x := rfl
    rw [hx1] at hx hr
    rw [Nat.zero_mul, Nat.add_zero] at x0 x1 x2 x3 x4 x5 x6 x7
    have hr' : ReR S _ x #[.int .i64 k', .int .u64 (q0 : Int), .int .u64 (q1 : Int), .int .u64 (q2 : Int), .int .u64 (q3 : Int), .slice A' ks'.length c', .int .i64 lo', .int .i64 hi'].toList := hr
    clear hx1 hr
    have hB' : Blk (w.alloc (Obj.cells #[.int .i64 4, .int .u64 (p0 : Int), .int .u64 (p1 : Int), .int .u64 (p2 : Int), .int .u64 (p3 : Int), .slice (some ⟨g, o, none⟩) 1 c, .int .i64 lo, .int .i64 hi] 27)) w.heap.size 27 #[.int .i64 4, .int .u64 (p0 : Int), .int .u64 (p1 : Int), .int .u64 (p2 : Int), .int .u64 (p3 : Int), .slice (some ⟨g, o, none⟩) 1 c, .int .i64 lo, .int .i64 hi] := Blk.new _ _ _
    clear hB
    obtain ⟨wa, hwa⟩ : ∃ wa, wa = w.alloc (Obj.cells #[.int .i64 4, .int .u64 (p0 : Int), .int .u64 (p1 : Int), .int .u64 (p2 : Int), .int .u64 (p3 : Int), .slice (some ⟨g, o, none⟩) 1 c, .int .i64 lo, .int .i64 hi] 27) := ⟨_, rfl⟩
    have hba : Below w.heap.size w wa := by rw [hwa]; exact (Below.refl _ _).alloc (Nat.le_refl _) _
    have hB : Blk wa w.heap.size 27 #[.int .i64 4, .int .u64 (p0 : Int), .int .u64 (p1 : Int), .int .u64 (p2 : Int), .int .u64 (p3 : Int), .slice (some ⟨g, o, none⟩) 1 c, .int .i64 lo, .int .i64 hi] := by rw [hwa]; exact hB'
    have hr : ReR S wa x #[.int .i64 k', .int .u64 (q0 : Int), .int .u64 (q1 : Int), .int .u64 (q2 : Int), .int .u64 (q3 : Int), .slice A' ks'.length c', .int .i64 lo', .int .i64 hi'].toList := by rw [hwa]; exact hr'
    change (w.alloc (Obj.cells #[.int .i64 4, .int .u64 (p0 : Int), .int .u64 (p1 : Int), .int .u64 (p2 : Int), .int .u64 (p3 : Int), .slice (some ⟨g, o, none⟩) 1 c, .int .i64 lo, .int .i64 hi] 27)).cell? _ = _ at x0 x1 x2 x3 x4 x5 x6 x7
    rw [← hwa] at x0 x1 x2 x3 x4 x5 x6 x7
    have HWa := Lib.hid hwa
    have X0 := Lib.hid x0
    clear hB' hr' hwa
    have hmem : nodesE x ≤ nodesL [x] := nodesL_mem (by simp)
    have hyl := textE_len x
    have hys : (bsN (textE x)).size ≤ 2420000000 := by
      rw [bsN_size]
      omega
    have hyt : (bsN (timesT lo hi)).size ≤ 7 := by rw [bsN_size]; exact timesT_len _ _
    have HTm := Lib.hid fun W => rtimes_any lo hi hrep W
    have hcall : ∀ W, Below wa.heap.size wa W → Calls Tryd.prog 44 #[.agg #[.int .i64 k', .int .u64 (q0 : Int), .int .u64 (q1 : Int), .int .u64 (q2 : Int), .int .u64 (q3 : Int), .slice A' ks'.length c', .int .i64 lo', .int .i64 hi']] W fun e w' => e = .returned (.string (bsN (textE x))) ∧ Below W.heap.size W w' := fun W hW =>
      Hih.out _ (by simp) _ W (deep + 1) (hr.ext hW) (by omega) (O1.out _ (by simp))
    have hxk : x.kind = k' := by rw [hx]; rfl
    have hRr : textR lo hi [x] = (if k' = 1 then textE x else 40 :: (textE x ++ [41])) ++ timesT lo hi := by simp [textR, hxk]
    obtain ⟨T, hTe⟩ : ∃ T, textE x = T := ⟨_, rfl⟩
    rw [hTe] at hys hcall hRr
    have HT := Lib.hid hcall
    have HRr := Lib.hid hRr
    clear hcall hRr hx hr hT o2 o3 hl1 hrep hyl hmem hk1 hk1' hlen
    show Calls Tryd.prog 44 #[.agg #[.int .i64 4, .int .u64 (p0 : Int), .int .u64 (p1 : Int), .int .u64 (p2 : Int), .int .u64 (p3 : Int), .slice (some ⟨g, o, none⟩) 1 c, .int .i64 lo, .int .i64 hi]] w _
    by_cases hkk : k' = 1
    · subst hkk
      have hkk : True := trivial
      have HS : Hid (∀ W, Below wa.heap.size wa W → W.cell? ⟨w.heap.size, 5, none⟩ = some (.slice (some ⟨g, o, none⟩) 1 c) ∧ W.cell? ⟨w.heap.size, 6, none⟩ = some (.int .i64 lo) ∧ W.cell? ⟨w.heap.size, 7, none⟩ = some (.int .i64 hi) ∧ W.cell? ⟨g, o, none⟩ = some ((.int .i64 1)) ∧ W.cell? ⟨g, o + 1, none⟩ = some (.int .u64 (q0 : Int)) ∧ W.cell? ⟨g, o + 2, none⟩ = some (.int .u64 (q1 : Int)) ∧ W.cell? ⟨g, o + 3, none⟩ = some (.int .u64 (q2 : Int)) ∧ W.cell? ⟨g, o + 4, none⟩ = some (.int .u64 (q3 : Int)) ∧ W.cell? ⟨g, o + 5, none⟩ = some (.slice A' ks'.length c') ∧ W.cell? ⟨g, o + 6, none⟩ = some (.int .i64 lo') ∧ W.cell? ⟨g, o + 7, none⟩ = some (.int .i64 hi')) := Lib.hid fun W hW =>
        have f := fun (ad : Addr) (v : Value) (h : wa.cell? ad = some v) => (World.cell?_of_block (a := ad) (hW.block _ (World.block_lt_of_cell? wa ad h))).trans h
        ⟨f _ _ (hB.cell 5), f _ _ (hB.cell 6), f _ _ (hB.cell 7), f _ _ x0, f _ _ x1, f _ _ x2, f _ _ x3, f _ _ x4, f _ _ x5, f _ _ x6, f _ _ x7⟩
      have E2 : Hid (bsN T ++ bsN (timesT lo hi) = bsN (textR lo hi [x])) := Lib.hid (by rw [HRr.out, if_pos rfl, bsN_append])
      have c0 := hB.cell 0
      have c5 := hB.cell 5
      clear hTe hkk hxk
      generalize bsN T = Y1 at hys HT E2
      generalize bsN (timesT lo hi) = Y2 at hyt HTm E2
      have y0 := x0
      rw [HWa.out] at y0
      have n1 : ¬ 9223372036854775807 < Y1.size + Y2.size := by omega
      clear hB x1 x2 x3 x4 x5 x6 x7
      go_enter Tryd.func44, Tryd.ntmps44
      go_wp2
      rw [← HWa.out]
      go_region_held3 (fun w' => w'.cell? ⟨w.heap.size, 5, none⟩ = some (.slice (some ⟨g, o, none⟩) 1 c) ∧ w'.cell? ⟨w.heap.size, 6, none⟩ = some (.int .i64 lo) ∧ w'.cell? ⟨w.heap.size, 7, none⟩ = some (.int .i64 hi) ∧ w'.cell? ⟨g, o, none⟩ = some ((.int .i64 1)) ∧ w'.cell? ⟨g, o + 1, none⟩ = some (.int .u64 (q0 : Int)) ∧ w'.cell? ⟨g, o + 2, none⟩ = some (.int .u64 (q1 : Int)) ∧ w'.cell? ⟨g, o + 3, none⟩ = some (.int .u64 (q2 : Int)) ∧ w'.cell? ⟨g, o + 4, none⟩ = some (.int .u64 (q3 : Int)) ∧ w'.cell? ⟨g, o + 5, none⟩ = some (.slice A' ks'.length c') ∧ w'.cell? ⟨g, o + 6, none⟩ = some (.int .i64 lo') ∧ w'.cell? ⟨g, o + 7, none⟩ = some (.int .i64 hi'))
        (first | exact HS.out _ (by repeat (first | exact hbx | exact hby | apply ext_drew | exact Below.refl _ _)))
        (first
        | (go_at_call 44; ((with_reducible refine (HT.out _ ?_).mono ?_)); (repeat (first | exact hby | apply ext_drew | exact Below.refl _ _)); rintro e w5 ⟨rfl, hbx'⟩; have hbx : Below wa.heap.size wa w5 := ext_trans (by repeat (first | exact hby | apply ext_drew | exact Below.refl _ _)) hbx')
        | (go_at_call 69; ((with_reducible refine (HTm.out _).mono ?_)); rintro e w6 ⟨rfl, hby'⟩; have hby : Below wa.heap.size wa w6 := ext_trans (by repeat (first | exact hbx | apply ext_drew | exact Below.refl _ _)) hby'))
      all_goals
        go_wp2
        go_ret
        exact ⟨ret_str E2.out, ext_trans hba (by repeat (first | exact hby | apply ext_drew))⟩
    · have hk1' : (k' == 1) = false := by simpa using hkk
      have HS : Hid (∀ W, Below wa.heap.size wa W → W.cell? ⟨w.heap.size, 5, none⟩ = some (.slice (some ⟨g, o, none⟩) 1 c) ∧ W.cell? ⟨w.heap.size, 6, none⟩ = some (.int .i64 lo) ∧ W.cell? ⟨w.heap.size, 7, none⟩ = some (.int .i64 hi) ∧ W.cell? ⟨g, o, none⟩ = some ((.int .i64 k')) ∧ W.cell? ⟨g, o + 1, none⟩ = some (.int .u64 (q0 : Int)) ∧ W.cell? ⟨g, o + 2, none⟩ = some (.int .u64 (q1 : Int)) ∧ W.cell? ⟨g, o + 3, none⟩ = some (.int .u64 (q2 : Int)) ∧ W.cell? ⟨g, o + 4, none⟩ = some (.int .u64 (q3 : Int)) ∧ W.cell? ⟨g, o + 5, none⟩ = some (.slice A' ks'.length c') ∧ W.cell? ⟨g, o + 6, none⟩ = some (.int .i64 lo') ∧ W.cell? ⟨g, o + 7, none⟩ = some (.int .i64 hi')) := Lib.hid fun W hW =>
        have f := fun (ad : Addr) (v : Value) (h : wa.cell? ad = some v) => (World.cell?_of_block (a := ad) (hW.block _ (World.block_lt_of_cell? wa ad h))).trans h
        ⟨f _ _ (hB.cell 5), f _ _ (hB.cell 6), f _ _ (hB.cell 7), f _ _ x0, f _ _ x1, f _ _ x2, f _ _ x3, f _ _ x4, f _ _ x5, f _ _ x6, f _ _ x7⟩
      have E2 : Hid ((⟨#[40]⟩ : ByteArray) ++ bsN T ++ (⟨#[41]⟩ : ByteArray) ++ bsN (timesT lo hi) = bsN (textR lo hi [x])) := Lib.hid (by rw [HRr.out, if_neg hkk, show (⟨#[40]⟩ : ByteArray) = bsN [40] from rfl, show (⟨#[41]⟩ : ByteArray) = bsN [41] from rfl, bsN_append, bsN_append, bsN_append]; simp [List.append_assoc])
      have c0 := hB.cell 0
      have c5 := hB.cell 5
      clear hTe hkk hxk
      generalize bsN T = Y1 at hys HT E2
      generalize bsN (timesT lo hi) = Y2 at hyt HTm E2
      have y0 := x0
      rw [HWa.out] at y0
      have n1 : ¬ 9223372036854775807 < 1 + Y1.size := by omega
      have n2 : ¬ 9223372036854775807 < 1 + Y1.size + 1 := by omega
      have n3 : ¬ 9223372036854775807 < 1 + Y1.size + 1 + Y2.size := by omega
      clear hB x1 x2 x3 x4 x5 x6 x7
      go_enter Tryd.func44, Tryd.ntmps44
      go_wp2
      rw [← HWa.out]
      go_region_held3 (fun w' => w'.cell? ⟨w.heap.size, 5, none⟩ = some (.slice (some ⟨g, o, none⟩) 1 c) ∧ w'.cell? ⟨w.heap.size, 6, none⟩ = some (.int .i64 lo) ∧ w'.cell? ⟨w.heap.size, 7, none⟩ = some (.int .i64 hi) ∧ w'.cell? ⟨g, o, none⟩ = some ((.int .i64 k')) ∧ w'.cell? ⟨g, o + 1, none⟩ = some (.int .u64 (q0 : Int)) ∧ w'.cell? ⟨g, o + 2, none⟩ = some (.int .u64 (q1 : Int)) ∧ w'.cell? ⟨g, o + 3, none⟩ = some (.int .u64 (q2 : Int)) ∧ w'.cell? ⟨g, o + 4, none⟩ = some (.int .u64 (q3 : Int)) ∧ w'.cell? ⟨g, o + 5, none⟩ = some (.slice A' ks'.length c') ∧ w'.cell? ⟨g, o + 6, none⟩ = some (.int .i64 lo') ∧ w'.cell? ⟨g, o + 7, none⟩ = some (.int .i64 hi'))
        (first | exact HS.out _ (by repeat (first | exact hbx | exact hby | apply ext_drew | exact Below.refl _ _)))
        (first
        | (go_at_call 44; ((with_reducible refine (HT.out _ ?_).mono ?_)); (repeat (first | exact hby | apply ext_drew | exact Below.refl _ _)); rintro e w5 ⟨rfl, hbx'⟩; have hbx : Below wa.heap.size wa w5 := ext_trans (by repeat (first | exact hby | apply ext_drew | exact Below.refl _ _)) hbx')
        | (go_at_call 69; ((with_reducible refine (HTm.out _).mono ?_)); rintro e w6 ⟨rfl, hby'⟩; have hby : Below wa.heap.size wa w6 := ext_trans (by repeat (first | exact hbx | apply ext_drew | exact Below.refl _ _)) hby'))
      all_goals
        go_wp2
        go_ret
        exact ⟨ret_str E2.out, ext_trans hba (by repeat (first | exact hby | apply ext_drew))⟩
  rw [if_neg hk4]
  have hk4' : (k == 4) = false := by simpa using hk4
  have hlt3 := textL_len k ks true (fun x _ => textE_len x)
  clear hT hlen
  go_enter Tryd.func44, Tryd.ntmps44
  go_wp2
  go_loopw [3, 4] (fun z i wr => ∃ (j : Nat) (Z : ByteArray), j ≤ ks.length ∧ i = .int .i64 (j : Int) ∧ z = .string Z ∧ Hid (Z = bsN (textL k true (ks.take j))) ∧ Blk wr w.heap.size 27 #[.int .i64 k, .int .u64 (p0 : Int), .int .u64 (p1 : Int), .int .u64 (p2 : Int), .int .u64 (p3 : Int), .slice A ks.length c, .int .i64 lo, .int .i64 hi] ∧ Below w.heap.size w wr) (fun _ i _ => ks.length - (intOf i).toNat)
  case atStart => exact ⟨0, _, Nat.zero_le _, rfl, rfl, Lib.hid (by simp [textL]; rfl), hB, (Below.refl _ _).alloc (Nat.le_refl _) _⟩
  case round =>
    obtain ⟨j, Z, hj, rfl, rfl, HZ, hB, hb⟩ := hrel
    have c5 := hB.cell 5
    by_cases hlt : j < ks.length
    · have hji : (j : Int) < (ks.length : Int) := by omega
      have c0 := hB.cell 0
      obtain ⟨g, o, k', q0, q1, q2, q3, ks', A', c', lo', hi', rfl, hx, hr, x0, x1, x2, x3, x4, x5, x6, x7, -⟩ := (H3.out.ext hb).kidX hlt
      have Hx := Lib.hid hx
      clear hx
      have hmem := nodesL_mem (List.getElem_mem hlt)
      have hzl := textL_len k (ks.take j) true (fun x _ => textE_len x)
      have hnt := nodesL_take_le ks j
      have hzs : Z.size ≤ 2420000000 := by
        rw [HZ.out, bsN_size]
        omega
      have hyl := textE_len ks[j]
      have hys : (bsN (textE ks[j])).size ≤ 2420000000 := by
        rw [bsN_size]
        omega
      have hcall : ∀ W, Below wr.heap.size wr W → Calls Tryd.prog 44 #[.agg #[.int .i64 k', .int .u64 (q0 : Int), .int .u64 (q1 : Int), .int .u64 (q2 : Int), .int .u64 (q3 : Int), .slice A' ks'.length c', .int .i64 lo', .int .i64 hi']] W fun e w' => e = .returned (.string (bsN (textE ks[j]))) ∧ Below W.heap.size W w' := fun W hW =>
        Hih.out _ (List.getElem_mem hlt) _ W (deep + 1) (hr.ext hW) (by omega) (O1.out _ (List.getElem_mem hlt))
      have hts : bsN (textL k true (ks.take (j + 1))) = Z ++ bsN ((if k = 3 ∧ 0 < j then [124] else []) ++ (if inB k k' then 40 :: (textE ks[j] ++ [41]) else textE ks[j])) := by
        rw [textL_take k ks j hlt, HZ.out, bsN_append]
        have : ks[j].kind = k' := by rw [Hx.out]; rfl
        rw [this]
      obtain ⟨T, hTe⟩ : ∃ T, textE ks[j] = T := ⟨_, rfl⟩
      rw [hTe] at hys hcall hts
      have HT := Lib.hid hcall
      have Hts := Lib.hid hts
      have HB := Lib.hid hB
      have hB1 := hB.alloc (Obj.cells #[.int .i64 k', .int .u64 (q0 : Int), .int .u64 (q1 : Int), .int .u64 (q2 : Int), .int .u64 (q3 : Int), .slice A' ks'.length c', .int .i64 lo', .int .i64 hi'] 27)
      have hB2 := Blk.new wr 27 #[.int .i64 k', .int .u64 (q0 : Int), .int .u64 (q1 : Int), .int .u64 (q2 : Int), .int .u64 (q3 : Int), .slice A' ks'.length c', .int .i64 lo', .int .i64 hi']
      have d0 := hB1.cell 0
      have d5 := hB1.cell 5
      have e0 := hB2.cell 0
      have e1 := hB2.cell 1
      have e2 := hB2.cell 2
      have e3 := hB2.cell 3
      have e4 := hB2.cell 4
      have e5 := hB2.cell 5
      have e6 := hB2.cell 6
      have e7 := hB2.cell 7
      have hba : Below wr.heap.size wr (wr.alloc (Obj.cells #[.int .i64 k', .int .u64 (q0 : Int), .int .u64 (q1 : Int), .int .u64 (q2 : Int), .int .u64 (q3 : Int), .slice A' ks'.length c', .int .i64 lo', .int .i64 hi'] 27)) := (Below.refl _ _).alloc (Nat.le_refl _) _
      have Hba := Lib.hid hba
      clear hcall hts hB hB1 hB2 hba hr hTe hyl hzl o2 hlt3
      rcases o3 with rfl | rfl | rfl | rfl | rfl
      · clear hk1 hk4
        by_cases hk3 : k' = 3
        · subst hk3
          have E2 : Hid (Z ++ (⟨#[40]⟩ : ByteArray) ++ bsN T ++ (⟨#[41]⟩ : ByteArray) = bsN (textL 0 true (ks.take (j + 1)))) := Lib.hid (by rw [Hts.out, if_neg (by omega), if_pos (by decide), byteArray_br])
          clear Hts
          generalize bsN T = Y at hys HT E2
          go_wp2_with fail
          refine (HT.out _ Hba.out).mono ?_
          rintro e w5 ⟨rfl, hb5⟩
          go_wp2
          go_roundw
          case rel => exact ⟨j + 1, _, by omega, by go_num, rfl, E2, (HB.out.ext Hba.out).ext hb5, ext_trans (ext_trans hb Hba.out) hb5⟩
          case measure => simp [intOf]; omega
        have hkk3 : (k' == 3) = false := by simpa using hk3
        have E2 : Hid (Z ++ bsN T = bsN (textL 0 true (ks.take (j + 1)))) := Lib.hid (by rw [Hts.out, if_neg (by omega), if_neg (by simp [inB, hk3]), byteArray_no])
        clear Hts hk3
        generalize bsN T = Y at hys HT E2
        go_wp2_with fail
        refine (HT.out _ Hba.out).mono ?_
        rintro e w5 ⟨rfl, hb5⟩
        go_wp2
        go_roundw
        case rel => exact ⟨j + 1, _, by omega, by go_num, rfl, E2, (HB.out.ext Hba.out).ext hb5, ext_trans (ext_trans hb Hba.out) hb5⟩
        case measure => simp [intOf]; omega
      · exact absurd rfl hk1
      · clear hk1 hk4
        by_cases hk3 : k' = 3
        · subst hk3
          have E2 : Hid (Z ++ (⟨#[40]⟩ : ByteArray) ++ bsN T ++ (⟨#[41]⟩ : ByteArray) = bsN (textL 2 true (ks.take (j + 1)))) := Lib.hid (by rw [Hts.out, if_neg (by omega), if_pos (by decide), byteArray_br])
          clear Hts
          generalize bsN T = Y at hys HT E2
          go_wp2_with fail
          refine (HT.out _ Hba.out).mono ?_
          rintro e w5 ⟨rfl, hb5⟩
          go_wp2
          go_roundw
          case rel => exact ⟨j + 1, _, by omega, by go_num, rfl, E2, (HB.out.ext Hba.out).ext hb5, ext_trans (ext_trans hb Hba.out) hb5⟩
          case measure => simp [intOf]; omega
        have hkk3 : (k' == 3) = false := by simpa using hk3
        by_cases hk2 : k' = 2
        · subst hk2
          have E2 : Hid (Z ++ (⟨#[40]⟩ : ByteArray) ++ bsN T ++ (⟨#[41]⟩ : ByteArray) = bsN (textL 2 true (ks.take (j + 1)))) := Lib.hid (by rw [Hts.out, if_neg (by omega), if_pos (by decide), byteArray_br])
          clear Hts
          generalize bsN T = Y at hys HT E2
          go_wp2_with fail
          refine (HT.out _ Hba.out).mono ?_
          rintro e w5 ⟨rfl, hb5⟩
          go_wp2
          go_roundw
          case rel => exact ⟨j + 1, _, by omega, by go_num, rfl, E2, (HB.out.ext Hba.out).ext hb5, ext_trans (ext_trans hb Hba.out) hb5⟩
          case measure => simp [intOf]; omega
        have hkk2 : (k' == 2) = false := by simpa using hk2
        by_cases hk0 : k' = 0
        · subst hk0
          have E2 : Hid (Z ++ (⟨#[40]⟩ : ByteArray) ++ bsN T ++ (⟨#[41]⟩ : ByteArray) = bsN (textL 2 true (ks.take (j + 1)))) := Lib.hid (by rw [Hts.out, if_neg (by omega), if_pos (by decide), byteArray_br])
          clear Hts
          generalize bsN T = Y at hys HT E2
          go_wp2_with fail
          refine (HT.out _ Hba.out).mono ?_
          rintro e w5 ⟨rfl, hb5⟩
          go_wp2
          go_roundw
          case rel => exact ⟨j + 1, _, by omega, by go_num, rfl, E2, (HB.out.ext Hba.out).ext hb5, ext_trans (ext_trans hb Hba.out) hb5⟩
          case measure => simp [intOf]; omega
        have hkk0 : (k' == 0) = false := by simpa using hk0
        have E2 : Hid (Z ++ bsN T = bsN (textL 2 true (ks.take (j + 1)))) := Lib.hid (by rw [Hts.out, if_neg (by omega), if_neg (by simp [inB, hk3, hk2, hk0]), byteArray_no])
        clear Hts hk3 hk2 hk0
        generalize bsN T = Y at hys HT E2
        go_wp2_with fail
        refine (HT.out _ Hba.out).mono ?_
        rintro e w5 ⟨rfl, hb5⟩
        go_wp2
        go_roundw
        case rel => exact ⟨j + 1, _, by omega, by go_num, rfl, E2, (HB.out.ext Hba.out).ext hb5, ext_trans (ext_trans hb Hba.out) hb5⟩
        case measure => simp [intOf]; omega
      · clear hk1 hk4
        by_cases hj0 : 0 < j
        · have hj0i : (0 : Int) < (j : Int) := by omega
          by_cases hk3 : k' = 3
          · subst hk3
            have E2 : Hid (Z ++ (⟨#[124]⟩ : ByteArray) ++ (⟨#[40]⟩ : ByteArray) ++ bsN T ++ (⟨#[41]⟩ : ByteArray) = bsN (textL 3 true (ks.take (j + 1)))) := Lib.hid (by rw [Hts.out, if_pos ⟨rfl, hj0⟩, if_pos (by decide), byteArray_brs])
            clear Hts
            generalize bsN T = Y at hys HT E2
            go_wp2_with fail
            refine (HT.out _ Hba.out).mono ?_
            rintro e w5 ⟨rfl, hb5⟩
            go_wp2
            go_roundw
            case rel => exact ⟨j + 1, _, by omega, by go_num, rfl, E2, (HB.out.ext Hba.out).ext hb5, ext_trans (ext_trans hb Hba.out) hb5⟩
            case measure => simp [intOf]; omega
          have hkk3 : (k' == 3) = false := by simpa using hk3
          have E2 : Hid (Z ++ (⟨#[124]⟩ : ByteArray) ++ bsN T = bsN (textL 3 true (ks.take (j + 1)))) := Lib.hid (by rw [Hts.out, if_pos ⟨rfl, hj0⟩, if_neg (by simp [inB, hk3]), byteArray_nos])
          clear Hts hk3
          generalize bsN T = Y at hys HT E2
          go_wp2_with fail
          refine (HT.out _ Hba.out).mono ?_
          rintro e w5 ⟨rfl, hb5⟩
          go_wp2
          go_roundw
          case rel => exact ⟨j + 1, _, by omega, by go_num, rfl, E2, (HB.out.ext Hba.out).ext hb5, ext_trans (ext_trans hb Hba.out) hb5⟩
          case measure => simp [intOf]; omega
        · have hj0i : (j : Int) ≤ 0 := by omega
          by_cases hk3 : k' = 3
          · subst hk3
            have E2 : Hid (Z ++ (⟨#[40]⟩ : ByteArray) ++ bsN T ++ (⟨#[41]⟩ : ByteArray) = bsN (textL 3 true (ks.take (j + 1)))) := Lib.hid (by rw [Hts.out, if_neg (by omega), if_pos (by decide), byteArray_br])
            clear Hts
            generalize bsN T = Y at hys HT E2
            go_wp2_with fail
            refine (HT.out _ Hba.out).mono ?_
            rintro e w5 ⟨rfl, hb5⟩
            go_wp2
            go_roundw
            case rel => exact ⟨j + 1, _, by omega, by go_num, rfl, E2, (HB.out.ext Hba.out).ext hb5, ext_trans (ext_trans hb Hba.out) hb5⟩
            case measure => simp [intOf]; omega
          have hkk3 : (k' == 3) = false := by simpa using hk3
          have E2 : Hid (Z ++ bsN T = bsN (textL 3 true (ks.take (j + 1)))) := Lib.hid (by rw [Hts.out, if_neg (by omega), if_neg (by simp [inB, hk3]), byteArray_no])
          clear Hts hk3
          generalize bsN T = Y at hys HT E2
          go_wp2_with fail
          refine (HT.out _ Hba.out).mono ?_
          rintro e w5 ⟨rfl, hb5⟩
          go_wp2
          go_roundw
          case rel => exact ⟨j + 1, _, by omega, by go_num, rfl, E2, (HB.out.ext Hba.out).ext hb5, ext_trans (ext_trans hb Hba.out) hb5⟩
          case measure => simp [intOf]; omega
      · exact absurd rfl hk4
    · obtain rfl : j = ks.length := by omega
      rw [List.take_length] at HZ
      go_wp2
      go_ret
      exact ⟨ret_str HZ.out, hb⟩
end Go.Proofs.YtgknlegomoaoeaaDoor

/-
  Sets compared. No statement of the seat is proved here.
-/
namespace Go.Proofs.YtgknlegomoaoeaaDoor
open Go Go.RowKit
set_option maxRecDepth 100000


theorem eq_int (d : Nat) (e : TypeId) (k : IntKind) (hu : Tryd.prog.underlying e = some (.int k)) (z : Int) (W : World) : (Op.equalIn (d + 1) e (.int k z) (.int k z)).run Tryd.prog W = .ok true W := by
  simp only [Op.equalIn, Sem.run_bind, run_underlying hu, Result.andThen_ok]
  simp
theorem eqItems_self (d : Nat) (e : TypeId) (k : IntKind) (hu : Tryd.prog.underlying e = some (.int k)) (c : Nat) (xs : Array Value) (W : World) : ∀ (is : List Nat), (∀ i ∈ is, ∃ z, (part e xs (i * c)).run Tryd.prog W = .ok (.int k z) W) →
    (Op.eqItems (d + 1) e c xs xs is).run Tryd.prog W = .ok true W
  | [], _ => rfl
  | i :: is, h => by
    obtain ⟨z, hz⟩ := h i (by simp)
    have ih := eqItems_self d e k hu c xs W is fun j hj => h j (by simp [hj])
    simp only [Op.eqItems, Sem.run_bind, hz, Result.andThen_ok, eq_int d e k hu z W]
    exact ih
theorem info_w : ∃ i, Tryd.prog.info? 22 = some i := by
  cases h : Tryd.prog.info? 22 with
  | some i => exact ⟨i, rfl⟩
  | none =>
    have h2 : (Tryd.prog.info? 22).isSome = true := by kernel_rfl
    rw [h] at h2; cases h2
theorem info_b : ∃ i, Tryd.prog.info? 5 = some i := by
  cases h : Tryd.prog.info? 5 with
  | some i => exact ⟨i, rfl⟩
  | none =>
    have h2 : (Tryd.prog.info? 5).isSome = true := by kernel_rfl
    rw [h] at h2; cases h2
theorem cells_w : Tryd.prog.cellsOf 22 = 1 := by kernel_rfl
theorem cells_b : Tryd.prog.cellsOf 5 = 1 := by kernel_rfl
/-- a set is itself -/
theorem eq_set {ws : List Nat} (hs : SetOk ws) (W : World) : (Op.equalIn 10000 24 (.agg (cellsU ws)) (.agg (cellsU ws))).run Tryd.prog W = .ok true W := by
  obtain ⟨i, hi⟩ := info_w
  refine (run_equalIn_array W 9999 _ _ Tryd.underlying24 hi).trans ?_
  rw [cells_w]
  obtain ⟨a, b, c, d, rfl⟩ := four_words hs
  refine eqItems_self 9998 22 .u64 Tryd.underlying22 1 _ W _ fun i hi => ?_
  have h0 : (part 22 #[.int .u64 (a : Int), .int .u64 (b : Int), .int .u64 (c : Int), .int .u64 (d : Int)] (0 * 1)).run Tryd.prog W = .ok (.int .u64 (a : Int)) W := by kernel_rfl
  have h1 : (part 22 #[.int .u64 (a : Int), .int .u64 (b : Int), .int .u64 (c : Int), .int .u64 (d : Int)] (1 * 1)).run Tryd.prog W = .ok (.int .u64 (b : Int)) W := by kernel_rfl
  have h2 : (part 22 #[.int .u64 (a : Int), .int .u64 (b : Int), .int .u64 (c : Int), .int .u64 (d : Int)] (2 * 1)).run Tryd.prog W = .ok (.int .u64 (c : Int)) W := by kernel_rfl
  have h3 : (part 22 #[.int .u64 (a : Int), .int .u64 (b : Int), .int .u64 (c : Int), .int .u64 (d : Int)] (3 * 1)).run Tryd.prog W = .ok (.int .u64 (d : Int)) W := by kernel_rfl
  have h4 := List.mem_range.1 hi
  match i, h4 with
  | 0, _ => exact ⟨_, h0⟩
  | 1, _ => exact ⟨_, h1⟩
  | 2, _ => exact ⟨_, h2⟩
  | 3, _ => exact ⟨_, h3⟩

theorem eq_int2 (d : Nat) (e : TypeId) (k : IntKind) (hu : Tryd.prog.underlying e = some (.int k)) (z y : Int) (W : World) : (Op.equalIn (d + 1) e (.int k z) (.int k y)).run Tryd.prog W = .ok (z == y) W := by
  simp only [Op.equalIn, Sem.run_bind, run_underlying hu, Result.andThen_ok]
  simp
theorem eqItems_all (d : Nat) (e : TypeId) (k : IntKind) (hu : Tryd.prog.underlying e = some (.int k)) (c : Nat) (xs ys : Array Value) (f g : Nat → Int) (W : World) : ∀ (is : List Nat), (∀ i ∈ is, (part e xs (i * c)).run Tryd.prog W = .ok (.int k (f i)) W ∧ (part e ys (i * c)).run Tryd.prog W = .ok (.int k (g i)) W) →
    (Op.eqItems (d + 1) e c xs ys is).run Tryd.prog W = .ok (is.all fun i => f i == g i) W
  | [], _ => rfl
  | i :: is, h => by
    obtain ⟨h1, h2⟩ := h i (by simp)
    have ih := eqItems_all d e k hu c xs ys f g W is fun j hj => h j (by simp [hj])
    simp only [Op.eqItems, Sem.run_bind, h1, h2, Result.andThen_ok, eq_int2 d e k hu, List.all_cons]
    cases hb : f i == g i with
    | true => simp only [Bool.not_true, Bool.false_eq_true, if_false, Bool.true_and]; exact ih
    | false => simp
/-- two sets -/
theorem eq_sets {a b : List Nat} (ha : SetOk a) (hb : SetOk b) (W : World) : (Op.equalIn 10000 24 (.agg (cellsU a)) (.agg (cellsU b))).run Tryd.prog W = .ok (decide (a = b)) W := by
  obtain ⟨i, hi⟩ := info_w
  refine (run_equalIn_array W 9999 _ _ Tryd.underlying24 hi).trans ?_
  rw [cells_w]
  have key : ∀ {ws : List Nat}, SetOk ws → ∀ i ∈ List.range 4, (part 22 (cellsU ws) (i * 1)).run Tryd.prog W = .ok (.int .u64 (wordB ws i : Int)) W := fun {ws} hs i hi => by
    obtain ⟨a, b, c, d, rfl⟩ := four_words hs
    have h0 : (part 22 #[.int .u64 (a : Int), .int .u64 (b : Int), .int .u64 (c : Int), .int .u64 (d : Int)] (0 * 1)).run Tryd.prog W = .ok (.int .u64 (a : Int)) W := by kernel_rfl
    have h1 : (part 22 #[.int .u64 (a : Int), .int .u64 (b : Int), .int .u64 (c : Int), .int .u64 (d : Int)] (1 * 1)).run Tryd.prog W = .ok (.int .u64 (b : Int)) W := by kernel_rfl
    have h2 : (part 22 #[.int .u64 (a : Int), .int .u64 (b : Int), .int .u64 (c : Int), .int .u64 (d : Int)] (2 * 1)).run Tryd.prog W = .ok (.int .u64 (c : Int)) W := by kernel_rfl
    have h3 : (part 22 #[.int .u64 (a : Int), .int .u64 (b : Int), .int .u64 (c : Int), .int .u64 (d : Int)] (3 * 1)).run Tryd.prog W = .ok (.int .u64 (d : Int)) W := by kernel_rfl
    have h4 := List.mem_range.1 hi
    match i, h4 with
    | 0, _ => exact h0
    | 1, _ => exact h1
    | 2, _ => exact h2
    | 3, _ => exact h3
  refine (eqItems_all 9998 22 .u64 Tryd.underlying22 1 _ _ (fun i => (wordB a i : Int)) (fun i => (wordB b i : Int)) W _ fun i hi => ⟨key ha i hi, key hb i hi⟩).trans ?_
  congr 1
  rw [Bool.eq_iff_iff, decide_eq_true_eq, List.all_eq_true]
  constructor
  · intro h
    exact word_ext ha hb fun i hi => by have := h i (List.mem_range.2 hi); simp only [beq_iff_eq] at this; omega
  · rintro rfl i _
    simp
end Go.Proofs.YtgknlegomoaoeaaDoor

/-
  Contracts of the reference's repeat, one, Same. No statement of the seat is proved here.
-/
namespace Go.Proofs.YtgknlegomoaoeaaDoor
open Go Go.RowKit
set_option maxRecDepth 100000


set_option maxHeartbeats 1000000 in
theorem rrep_any (lo hi : Int) (w : World) : Calls Tryd.prog 67 #[.int .i64 lo, .int .i64 hi] w fun e w' => e = .returned (.bool (repB lo hi)) ∧ w = w' := by
  obtain ⟨r, hr⟩ : ∃ r, repB lo hi = r := ⟨_, rfl⟩
  rw [hr]
  have Hr : Hid (r = true ↔ 0 ≤ lo ∧ lo ≤ 32 ∧ (hi = -1 ∨ (1 ≤ hi ∧ hi ≤ 32 ∧ lo ≤ hi))) := Lib.hid (by rw [← hr]; simp [repB, and_assoc])
  clear hr
  by_cases h1 : 0 ≤ lo
  · by_cases h2 : lo ≤ 32
    · by_cases h3 : hi = -1
      · have e : r = true := Hr.out.2 ⟨h1, h2, .inl h3⟩
        subst e h3
        clear Hr
        go_enter Tryd.func67, Tryd.ntmps67
        go_wp2
        all_goals (go_ret; exact ⟨by first | rfl | exact ret_bool (by simp; omega), rfl⟩)
      · have h3' : (hi == -1) = false := by simpa using h3
        by_cases h4 : 1 ≤ hi
        · by_cases h5 : hi ≤ 32
          · by_cases h6 : lo ≤ hi
            · have e : r = true := Hr.out.2 ⟨h1, h2, .inr ⟨h4, h5, h6⟩⟩
              subst e
              clear Hr h3
              go_enter Tryd.func67, Tryd.ntmps67
              go_wp2
              all_goals (go_ret; exact ⟨by first | rfl | exact ret_bool (by simp; omega), rfl⟩)
            · have e : r = false := by rw [← Bool.not_eq_true, Hr.out]; omega
              subst e
              have h6' : hi < lo := by omega
              clear Hr h3 h6
              go_enter Tryd.func67, Tryd.ntmps67
              go_wp2
              all_goals (go_ret; exact ⟨by first | rfl | exact ret_bool (by simp; omega), rfl⟩)
          · have e : r = false := by rw [← Bool.not_eq_true, Hr.out]; omega
            subst e
            have h6' : 32 < hi := by omega
            clear Hr h3 h5
            go_enter Tryd.func67, Tryd.ntmps67
            go_wp2
            all_goals (go_ret; exact ⟨by first | rfl | exact ret_bool (by simp; omega), rfl⟩)
        · have e : r = false := by rw [← Bool.not_eq_true, Hr.out]; omega
          subst e
          have h6' : hi < 1 := by omega
          clear Hr h3 h4
          go_enter Tryd.func67, Tryd.ntmps67
          go_wp2
          all_goals (go_ret; exact ⟨by first | rfl | exact ret_bool (by simp; omega), rfl⟩)
    · have e : r = false := by rw [← Bool.not_eq_true, Hr.out]; omega
      subst e
      have h6' : 32 < lo := by omega
      clear Hr h2
      go_enter Tryd.func67, Tryd.ntmps67
      go_wp2
      all_goals (go_ret; exact ⟨by first | rfl | exact ret_bool (by simp; omega), rfl⟩)
  · have e : r = false := by rw [← Bool.not_eq_true, Hr.out]; omega
    subst e
    have h6' : lo < 0 := by omega
    clear Hr h1
    go_enter Tryd.func67, Tryd.ntmps67
    go_wp2
    all_goals (go_ret; exact ⟨by first | rfl | exact ret_bool (by simp; omega), rfl⟩)

set_option maxRecDepth 100000 in
set_option maxHeartbeats 4000000 in
theorem rone_any (S : Nat → Prop) (t : Ex) : ∀ (cs : List Value) (w : World) (deep : Nat), ReR S w t cs → nodesE t ≤ 1000000 → deep ≤ 17 →
    Calls Tryd.prog 41 #[reV cs, .int .i64 (deep : Int)] w fun e w' => e = .returned (.bool (oneE deep t)) ∧ Below w.heap.size w w' := by
  refine ex_induct (p := fun t => ∀ (cs : List Value) (w : World) (deep : Nat), ReR S w t cs → nodesE t ≤ 1000000 → deep ≤ 17 → Calls Tryd.prog 41 #[reV cs, .int .i64 (deep : Int)] w fun e w' => e = .returned (.bool (oneE deep t)) ∧ Below w.heap.size w w') (fun k s ks lo hi ih cs w deep h hn hdp => ?_) t
  rw [reR_iff] at h
  obtain ⟨⟨hk, hs, hlo, hhi⟩, A, c, rfl, h1, h2, h3⟩ := h
  have hln := length_nodesL ks
  have hno : nodesE (.mk k s ks lo hi) = 1 + nodesL ks := by simp [nodesE]
  rw [hno] at hn
  have hli : (ks.length : Int) ≤ 1000000 := by omega
  unfold maxLen at h2
  obtain ⟨r, hr⟩ : ∃ r, oneE deep (.mk k s ks lo hi) = r := ⟨_, rfl⟩
  rw [hr]
  have hz := fun W => eq_sets hs zero_ok W
  obtain ⟨zb, hzb⟩ : ∃ b, decide (s = zeroB) = b := ⟨_, rfl⟩
  rw [hzb] at hz
  have hr2 : (if 16 < deep ∨ (k ≠ 1 ∧ zb = false) ∨ (k ≠ 4 ∧ (lo ≠ 0 ∨ hi ≠ 0)) then false
    else if k = 0 then ks.isEmpty
    else if k = 1 then ks.isEmpty && !zb
    else if k = 2 ∨ k = 3 then decide (2 ≤ ks.length) && oneL (deep + 1) ks
    else if k = 4 then decide (ks.length = 1) && repB lo hi && oneL (deep + 1) ks
    else false) = r := by
    rw [← hr, ← hzb]
    simp [oneE]
  clear hno hr hzb
  have Hr := Lib.hid hr2
  have Hih := Lib.hid ih
  have H3 := Lib.hid h3
  clear ih h3 hr2
  obtain ⟨p0, p1, p2, p3, rfl⟩ := four_words hs
  clear hs hk hlo hhi
  have hB := Blk.new w 27 #[.int .i64 k, .int .u64 (p0 : Int), .int .u64 (p1 : Int), .int .u64 (p2 : Int), .int .u64 (p3 : Int), .slice A ks.length c, .int .i64 lo, .int .i64 hi]
  have hz' : ∀ W, (Op.equalIn 10000 24 (.agg #[.int .u64 (p0 : Int), .int .u64 (p1 : Int), .int .u64 (p2 : Int), .int .u64 (p3 : Int)]) (.agg #[.int .u64 0, .int .u64 0, .int .u64 0, .int .u64 0])).run Tryd.prog W = .ok zb W := hz
  clear hz
  show Calls Tryd.prog 41 #[.agg #[.int .i64 k, .int .u64 (p0 : Int), .int .u64 (p1 : Int), .int .u64 (p2 : Int), .int .u64 (p3 : Int), .slice A ks.length c, .int .i64 lo, .int .i64 hi], .int .i64 (deep : Int)] w _
  rcases Nat.lt_or_ge 16 deep with hd | hd
  · have hdi : (16 : Int) < (deep : Int) := by omega
    go_enter Tryd.func41, Tryd.ntmps41
    go_wp2
    all_goals
      go_ret
      exact ⟨ret_bool (by rw [← Hr.out]; rw [if_pos (.inl hd)]), (Below.refl _ _).alloc (Nat.le_refl _) _⟩

  have hdi : (deep : Int) ≤ 16 := by omega
  have HRep := Lib.hid fun W => rrep_any lo hi W
  have hd' : ¬ 16 < deep := by omega
  cases zb with
  | false =>
    by_cases hk1 : k = 1
    · subst hk1
      by_cases hlo : lo = 0
      · subst hlo
        by_cases hhi : hi = 0
        · subst hhi
          by_cases hle : ks.length = 0
          · have he : ks = [] := List.eq_nil_of_length_eq_zero hle
            subst he
            clear hle
            go_enter Tryd.func41, Tryd.ntmps41
            go_wp2
            all_goals
              go_ret
              exact ⟨ret_bool (by rw [← Hr.out]; simp [hd']), (Below.refl _ _).alloc (Nat.le_refl _) _⟩
          · have hlp : (0 : Int) < (ks.length : Int) := by omega
            have hle' : ((ks.length : Int) == 0) = false := by rw [beq_eq_false_iff_ne]; omega
            have hemp : ks.isEmpty = false := by cases ks <;> simp_all
            have Hemp := Lib.hid hemp
            clear hle hemp
            go_enter Tryd.func41, Tryd.ntmps41
            go_wp2
            all_goals
              go_ret
              exact ⟨ret_bool (by rw [← Hr.out]; simp [hd', Hemp.out]), (Below.refl _ _).alloc (Nat.le_refl _) _⟩
        · have hh : (hi != 0) = true := by simpa using hhi
          have Hhi := Lib.hid hhi
          clear hhi
          go_enter Tryd.func41, Tryd.ntmps41
          go_wp2
          all_goals
            go_ret
            exact ⟨ret_bool (by rw [← Hr.out]; rw [if_pos (.inr (.inr ⟨by decide, .inr Hhi.out⟩))]), (Below.refl _ _).alloc (Nat.le_refl _) _⟩
      · have hh : (lo != 0) = true := by simpa using hlo
        have Hlo := Lib.hid hlo
        clear hlo
        go_enter Tryd.func41, Tryd.ntmps41
        go_wp2
        all_goals
          go_ret
          exact ⟨ret_bool (by rw [← Hr.out]; rw [if_pos (.inr (.inr ⟨by decide, .inl Hlo.out⟩))]), (Below.refl _ _).alloc (Nat.le_refl _) _⟩
    · have hh : (k != 1) = true := by simpa using hk1
      have Hk1 := Lib.hid hk1
      clear hk1
      go_enter Tryd.func41, Tryd.ntmps41
      go_wp2
      all_goals
        go_ret
        exact ⟨ret_bool (by rw [← Hr.out]; rw [if_pos (.inr (.inl ⟨Hk1.out, by trivial⟩))]), (Below.refl _ _).alloc (Nat.le_refl _) _⟩
  | true =>
    by_cases hk4 : k = 4
    · subst hk4
      have Hr' : Hid ((decide (ks.length = 1) && repB lo hi && oneL (deep + 1) ks) = r) := Lib.hid (by rw [← Hr.out]; simp [hd'])
      clear Hr
      by_cases hle : ks.length = 1
      · have hle' : ((ks.length : Int) != 1) = false := by simp <;> omega
        obtain ⟨rb, hrb⟩ : ∃ b, repB lo hi = b := ⟨_, rfl⟩
        rw [hrb] at HRep
        cases rb with
        | true =>
          have HrL : Hid (oneL (deep + 1) ks = r) := Lib.hid (by rw [← Hr'.out, hrb]; simp [hle])
          clear hle hrb Hr'
          go_enter Tryd.func41, Tryd.ntmps41
          go_wp2_with (first | (go_at_call 67; (with_reducible refine (HRep.out _).mono ?_); rintro e w' ⟨rfl, rfl⟩))
          go_loopw [5] (fun i wr => ∃ j : Nat, j ≤ ks.length ∧ i = .int .i64 (j : Int) ∧ oneL (deep + 1) (ks.take j) = true ∧ Blk wr w.heap.size 27 #[.int .i64 4, .int .u64 (p0 : Int), .int .u64 (p1 : Int), .int .u64 (p2 : Int), .int .u64 (p3 : Int), .slice A ks.length c, .int .i64 lo, .int .i64 hi] ∧ Below w.heap.size w wr) (fun i _ => ks.length - (intOf i).toNat)
          case atStart => exact ⟨0, Nat.zero_le _, rfl, by simp [oneL], hB, (Below.refl _ _).alloc (Nat.le_refl _) _⟩
          case round =>
            obtain ⟨j, hj, rfl, hall, hB, hb⟩ := hrel
            have c5 := hB.cell 5
            by_cases hlt : j < ks.length
            · have hji : (j : Int) < (ks.length : Int) := by omega
              obtain ⟨g, o, u0, u1, u2, u3, u4, u5, u6, u7, rfl, hr, x0, x1, x2, x3, x4, x5, x6, x7, -⟩ := (H3.out.ext hb).kid hlt
              have hmem := nodesL_mem (List.getElem_mem hlt)
              obtain ⟨q, hq⟩ : ∃ q, oneE (deep + 1) ks[j] = q := ⟨_, rfl⟩
              have hcall : ∀ W, Below wr.heap.size wr W → Calls Tryd.prog 41 #[.agg #[u0, u1, u2, u3, u4, u5, u6, u7], .int .i64 ((deep : Int) + 1)] W fun e w' => e = .returned (.bool q) ∧ Below W.heap.size W w' := fun W hW => by
                have := Hih.out _ (List.getElem_mem hlt) _ W (deep + 1) (hr.ext hW) (by omega) (by omega)
                rw [hq] at this
                exact this
              have Hc := Lib.hid hcall
              have HB := Lib.hid hB
              have Hall := Lib.hid hall
              have Hq := Lib.hid hq
              clear hcall hB hr hall hq c5
              have c5 := HB.out.cell 5
              go_wp2_with fail
              refine (Hc.out _ (Below.refl _ _)).mono ?_
              rintro e w2 ⟨rfl, hb2⟩
              cases q with
              | true =>
                go_wp2
                go_roundw
                case rel => exact ⟨j + 1, by omega, by go_num, by rw [List.take_succ_eq_append_getElem hlt, oneL_all, List.all_append, ← oneL_all, Hall.out]; simp [Hq.out], HB.out.ext hb2, ext_trans hb hb2⟩
                case measure => simp [intOf]; omega
              | false =>
                go_wp2
                go_ret
                exact ⟨ret_bool (by rw [← HrL.out, oneL_all, Eq.comm, ← Bool.not_eq_true, List.all_eq_true]; intro h; have := h _ (List.getElem_mem hlt); rw [Hq.out] at this; cases this), ext_trans hb hb2⟩
            · obtain rfl : j = ks.length := by omega
              rw [List.take_length] at hall
              have Hall := Lib.hid hall
              clear hall
              go_wp2
              go_ret
              exact ⟨ret_bool (by rw [← HrL.out, Hall.out]), hb⟩
        | false =>
          have Hr : Hid (false = r) := Lib.hid (by rw [← Hr'.out, hrb]; simp)
          clear hle hrb Hr'
          go_enter Tryd.func41, Tryd.ntmps41
          go_wp2_with (first | (go_at_call 67; (with_reducible refine (HRep.out _).mono ?_); rintro e w' ⟨rfl, rfl⟩))
          all_goals
            go_ret
            exact ⟨ret_bool (by rw [← Hr.out]), (Below.refl _ _).alloc (Nat.le_refl _) _⟩
      · have hle' : ((ks.length : Int) != 1) = true := by simp <;> omega
        have Hr : Hid (false = r) := Lib.hid (by rw [← Hr'.out]; simp [hle])
        clear hle Hr'
        go_enter Tryd.func41, Tryd.ntmps41
        go_wp2
        all_goals
          go_ret
          exact ⟨ret_bool (by rw [← Hr.out]), (Below.refl _ _).alloc (Nat.le_refl _) _⟩
    · have hh4 : (k != 4) = true := by simpa using hk4
      have hk4' : (k == 4) = false := by simpa using hk4
      by_cases hl : lo = 0 ∧ hi = 0
      · obtain ⟨rfl, rfl⟩ := hl
        by_cases hk0 : k = 0
        · subst hk0
          clear hk4 hk4' hh4
          by_cases hle : ks.length = 0
          · have he : ks = [] := List.eq_nil_of_length_eq_zero hle
            subst he
            clear hle
            go_enter Tryd.func41, Tryd.ntmps41
            go_wp2
            all_goals
              go_ret
              exact ⟨ret_bool (by rw [← Hr.out]; simp [hd']), (Below.refl _ _).alloc (Nat.le_refl _) _⟩
          · have hlp : (0 : Int) < (ks.length : Int) := by omega
            have hle' : ((ks.length : Int) == 0) = false := by rw [beq_eq_false_iff_ne]; omega
            have hemp : ks.isEmpty = false := by cases ks <;> simp_all
            have Hemp := Lib.hid hemp
            clear hle hemp
            go_enter Tryd.func41, Tryd.ntmps41
            go_wp2
            all_goals
              go_ret
              exact ⟨ret_bool (by rw [← Hr.out]; simp [hd', Hemp.out]), (Below.refl _ _).alloc (Nat.le_refl _) _⟩
        have hk0' : (k == 0) = false := by simpa using hk0
        by_cases hk1 : k = 1
        · subst hk1
          clear hk4 hk4' hh4 hk0 hk0'
          go_enter Tryd.func41, Tryd.ntmps41
          go_wp2
          all_goals
            go_ret
            exact ⟨ret_bool (by rw [← Hr.out]; simp [hd']), (Below.refl _ _).alloc (Nat.le_refl _) _⟩
        have hk1' : (k == 1) = false := by simpa using hk1
        have hh1 : (k != 1) = true := by simpa using hk1
        by_cases hk2 : k = 2
        · subst hk2
          have Hr' : Hid ((decide (2 ≤ ks.length) && oneL (deep + 1) ks) = r) := Lib.hid (by rw [← Hr.out]; simp [hd'])
          clear hk4 hk4' hh4 hk0 hk0' hk1 hk1' hh1 Hr
          by_cases hle : ks.length < 2
          · have hlei : (ks.length : Int) < 2 := by omega
            have Hr : Hid (false = r) := Lib.hid (by rw [← Hr'.out, decide_eq_false (by omega)]; simp)
            clear Hr'
            go_enter Tryd.func41, Tryd.ntmps41
            go_wp2
            all_goals
              go_ret
              exact ⟨ret_bool (by rw [← Hr.out]), (Below.refl _ _).alloc (Nat.le_refl _) _⟩
          · have hlei : (2 : Int) ≤ (ks.length : Int) := by omega
            have HrL : Hid (oneL (deep + 1) ks = r) := Lib.hid (by rw [← Hr'.out, decide_eq_true (by omega)]; simp)
            clear Hr' hle
            go_enter Tryd.func41, Tryd.ntmps41
            go_wp2_with (first | (go_at_call 67; (with_reducible refine (HRep.out _).mono ?_); rintro e w' ⟨rfl, rfl⟩))
            go_loopw [5] (fun i wr => ∃ j : Nat, j ≤ ks.length ∧ i = .int .i64 (j : Int) ∧ oneL (deep + 1) (ks.take j) = true ∧ Blk wr w.heap.size 27 #[.int .i64 2, .int .u64 (p0 : Int), .int .u64 (p1 : Int), .int .u64 (p2 : Int), .int .u64 (p3 : Int), .slice A ks.length c, .int .i64 0, .int .i64 0] ∧ Below w.heap.size w wr) (fun i _ => ks.length - (intOf i).toNat)
            case atStart => exact ⟨0, Nat.zero_le _, rfl, by simp [oneL], hB, (Below.refl _ _).alloc (Nat.le_refl _) _⟩
            case round =>
              obtain ⟨j, hj, rfl, hall, hB, hb⟩ := hrel
              have c5 := hB.cell 5
              by_cases hlt : j < ks.length
              · have hji : (j : Int) < (ks.length : Int) := by omega
                obtain ⟨g, o, u0, u1, u2, u3, u4, u5, u6, u7, rfl, hr, x0, x1, x2, x3, x4, x5, x6, x7, -⟩ := (H3.out.ext hb).kid hlt
                have hmem := nodesL_mem (List.getElem_mem hlt)
                obtain ⟨q, hq⟩ : ∃ q, oneE (deep + 1) ks[j] = q := ⟨_, rfl⟩
                have hcall : ∀ W, Below wr.heap.size wr W → Calls Tryd.prog 41 #[.agg #[u0, u1, u2, u3, u4, u5, u6, u7], .int .i64 ((deep : Int) + 1)] W fun e w' => e = .returned (.bool q) ∧ Below W.heap.size W w' := fun W hW => by
                  have := Hih.out _ (List.getElem_mem hlt) _ W (deep + 1) (hr.ext hW) (by omega) (by omega)
                  rw [hq] at this
                  exact this
                have Hc := Lib.hid hcall
                have HB := Lib.hid hB
                have Hall := Lib.hid hall
                have Hq := Lib.hid hq
                clear hcall hB hr hall hq c5
                have c5 := HB.out.cell 5
                go_wp2_with fail
                refine (Hc.out _ (Below.refl _ _)).mono ?_
                rintro e w2 ⟨rfl, hb2⟩
                cases q with
                | true =>
                  go_wp2
                  go_roundw
                  case rel => exact ⟨j + 1, by omega, by go_num, by rw [List.take_succ_eq_append_getElem hlt, oneL_all, List.all_append, ← oneL_all, Hall.out]; simp [Hq.out], HB.out.ext hb2, ext_trans hb hb2⟩
                  case measure => simp [intOf]; omega
                | false =>
                  go_wp2
                  go_ret
                  exact ⟨ret_bool (by rw [← HrL.out, oneL_all, Eq.comm, ← Bool.not_eq_true, List.all_eq_true]; intro h; have := h _ (List.getElem_mem hlt); rw [Hq.out] at this; cases this), ext_trans hb hb2⟩
              · obtain rfl : j = ks.length := by omega
                rw [List.take_length] at hall
                have Hall := Lib.hid hall
                clear hall
                go_wp2
                go_ret
                exact ⟨ret_bool (by rw [← HrL.out, Hall.out]), hb⟩
        have hk2' : (k == 2) = false := by simpa using hk2
        by_cases hk3 : k = 3
        · subst hk3
          have Hr' : Hid ((decide (2 ≤ ks.length) && oneL (deep + 1) ks) = r) := Lib.hid (by rw [← Hr.out]; simp [hd'])
          clear hk4 hk4' hh4 hk0 hk0' hk1 hk1' hh1 hk2 hk2' Hr
          by_cases hle : ks.length < 2
          · have hlei : (ks.length : Int) < 2 := by omega
            have Hr : Hid (false = r) := Lib.hid (by rw [← Hr'.out, decide_eq_false (by omega)]; simp)
            clear Hr'
            go_enter Tryd.func41, Tryd.ntmps41
            go_wp2
            all_goals
              go_ret
              exact ⟨ret_bool (by rw [← Hr.out]), (Below.refl _ _).alloc (Nat.le_refl _) _⟩
          · have hlei : (2 : Int) ≤ (ks.length : Int) := by omega
            have HrL : Hid (oneL (deep + 1) ks = r) := Lib.hid (by rw [← Hr'.out, decide_eq_true (by omega)]; simp)
            clear Hr' hle
            go_enter Tryd.func41, Tryd.ntmps41
            go_wp2_with (first | (go_at_call 67; (with_reducible refine (HRep.out _).mono ?_); rintro e w' ⟨rfl, rfl⟩))
            go_loopw [5] (fun i wr => ∃ j : Nat, j ≤ ks.length ∧ i = .int .i64 (j : Int) ∧ oneL (deep + 1) (ks.take j) = true ∧ Blk wr w.heap.size 27 #[.int .i64 3, .int .u64 (p0 : Int), .int .u64 (p1 : Int), .int .u64 (p2 : Int), .int .u64 (p3 : Int), .slice A ks.length c, .int .i64 0, .int .i64 0] ∧ Below w.heap.size w wr) (fun i _ => ks.length - (intOf i).toNat)
            case atStart => exact ⟨0, Nat.zero_le _, rfl, by simp [oneL], hB, (Below.refl _ _).alloc (Nat.le_refl _) _⟩
            case round =>
              obtain ⟨j, hj, rfl, hall, hB, hb⟩ := hrel
              have c5 := hB.cell 5
              by_cases hlt : j < ks.length
              · have hji : (j : Int) < (ks.length : Int) := by omega
                obtain ⟨g, o, u0, u1, u2, u3, u4, u5, u6, u7, rfl, hr, x0, x1, x2, x3, x4, x5, x6, x7, -⟩ := (H3.out.ext hb).kid hlt
                have hmem := nodesL_mem (List.getElem_mem hlt)
                obtain ⟨q, hq⟩ : ∃ q, oneE (deep + 1) ks[j] = q := ⟨_, rfl⟩
                have hcall : ∀ W, Below wr.heap.size wr W → Calls Tryd.prog 41 #[.agg #[u0, u1, u2, u3, u4, u5, u6, u7], .int .i64 ((deep : Int) + 1)] W fun e w' => e = .returned (.bool q) ∧ Below W.heap.size W w' := fun W hW => by
                  have := Hih.out _ (List.getElem_mem hlt) _ W (deep + 1) (hr.ext hW) (by omega) (by omega)
                  rw [hq] at this
                  exact this
                have Hc := Lib.hid hcall
                have HB := Lib.hid hB
                have Hall := Lib.hid hall
                have Hq := Lib.hid hq
                clear hcall hB hr hall hq c5
                have c5 := HB.out.cell 5
                go_wp2_with fail
                refine (Hc.out _ (Below.refl _ _)).mono ?_
                rintro e w2 ⟨rfl, hb2⟩
                cases q with
                | true =>
                  go_wp2
                  go_roundw
                  case rel => exact ⟨j + 1, by omega, by go_num, by rw [List.take_succ_eq_append_getElem hlt, oneL_all, List.all_append, ← oneL_all, Hall.out]; simp [Hq.out], HB.out.ext hb2, ext_trans hb hb2⟩
                  case measure => simp [intOf]; omega
                | false =>
                  go_wp2
                  go_ret
                  exact ⟨ret_bool (by rw [← HrL.out, oneL_all, Eq.comm, ← Bool.not_eq_true, List.all_eq_true]; intro h; have := h _ (List.getElem_mem hlt); rw [Hq.out] at this; cases this), ext_trans hb hb2⟩
              · obtain rfl : j = ks.length := by omega
                rw [List.take_length] at hall
                have Hall := Lib.hid hall
                clear hall
                go_wp2
                go_ret
                exact ⟨ret_bool (by rw [← HrL.out, Hall.out]), hb⟩
        have hk3' : (k == 3) = false := by simpa using hk3
        have Hr' : Hid (false = r) := Lib.hid (by rw [← Hr.out]; simp [hd', hk0, hk1, hk2, hk3, hk4])
        clear hk4 hk0 hk1 hk2 hk3 Hr
        have Hr := Hr'
        go_enter Tryd.func41, Tryd.ntmps41
        go_wp2
        all_goals
          go_ret
          exact ⟨ret_bool (by rw [← Hr.out]), (Below.refl _ _).alloc (Nat.le_refl _) _⟩
      · have Hr' : Hid (false = r) := Lib.hid (by rw [← Hr.out, if_pos (.inr (.inr ⟨hk4, by omega⟩))])
        clear Hr hk4
        have Hr := Hr'
        clear Hr'
        by_cases hlo : lo = 0
        · subst hlo
          have hh : (hi != 0) = true := by simp <;> omega
          clear hl
          go_enter Tryd.func41, Tryd.ntmps41
          go_wp2
          all_goals
            go_ret
            exact ⟨ret_bool (by rw [← Hr.out]), (Below.refl _ _).alloc (Nat.le_refl _) _⟩
        · have hh : (lo != 0) = true := by simpa using hlo
          clear hl hlo
          go_enter Tryd.func41, Tryd.ntmps41
          go_wp2
          all_goals
            go_ret
            exact ⟨ret_bool (by rw [← Hr.out]), (Below.refl _ _).alloc (Nat.le_refl _) _⟩
end Go.Proofs.YtgknlegomoaoeaaDoor

/-
  Contracts of the program's mayRepeat, formed. No statement of the seat is proved here.
-/
namespace Go.Proofs.YtgknlegomoaoeaaDoor
open Go Go.RowKit
set_option maxRecDepth 100000

set_option maxHeartbeats 1000000 in
theorem mayrep_any (lo hi : Int) (w : World) : Calls Tryd.prog 106 #[.int .i64 lo, .int .i64 hi] w fun e w' => e = .returned (.bool (repB lo hi)) ∧ w = w' := by
  obtain ⟨r, hr⟩ : ∃ r, repB lo hi = r := ⟨_, rfl⟩
  rw [hr]
  have Hr : Hid (r = true ↔ 0 ≤ lo ∧ lo ≤ 32 ∧ (hi = -1 ∨ (1 ≤ hi ∧ hi ≤ 32 ∧ lo ≤ hi))) := Lib.hid (by rw [← hr]; simp [repB, and_assoc])
  clear hr
  have hc : lo < 0 ∨ 32 < lo ∨ (0 ≤ lo ∧ lo ≤ 32 ∧ hi = -1) ∨ (0 ≤ lo ∧ lo ≤ 32 ∧ hi ≠ -1) := by omega
  rcases hc with h1 | h1 | ⟨h1, h2, rfl⟩ | ⟨h1, h2, h3⟩
  · go_enter Tryd.func106, Tryd.ntmps106
    go_wp2
    all_goals (go_ret; exact ⟨ret_bool (by rw [Bool.eq_iff_iff, Hr.out]; simp; omega), rfl⟩)
  · have h0 : 0 ≤ lo := by omega
    go_enter Tryd.func106, Tryd.ntmps106
    go_wp2
    all_goals (go_ret; exact ⟨ret_bool (by rw [Bool.eq_iff_iff, Hr.out]; simp; omega), rfl⟩)
  · go_enter Tryd.func106, Tryd.ntmps106
    go_wp2
    all_goals (go_ret; exact ⟨ret_bool (by rw [Bool.eq_iff_iff, Hr.out]; simp; omega), rfl⟩)
  · have h3' : (hi == -1) = false := by simpa using h3
    obtain ⟨M, hM⟩ : ∃ M, (if lo < 1 then 1 else lo) = M := ⟨_, rfl⟩
    have hM2 : (M ≤ hi) ↔ (lo ≤ hi ∧ 1 ≤ hi) := by rw [← hM]; split <;> omega
    have HM2 := Lib.hid hM2
    clear hM2
    by_cases hm : M ≤ hi
    · go_enter Tryd.func106, Tryd.ntmps106
      go_wp2
      all_goals (go_ret; exact ⟨ret_bool (by have := HM2.out; rw [Bool.eq_iff_iff, Hr.out]; simp; omega), rfl⟩)
    · have hm' : hi < M := by omega
      clear hm
      go_enter Tryd.func106, Tryd.ntmps106
      go_wp2
      all_goals (go_ret; exact ⟨ret_bool (by have := HM2.out; rw [Bool.eq_iff_iff, Hr.out]; simp; omega), rfl⟩)

/-- 'formE' by what the program asks -/
def formB (k : Int) (zb tb rb : Bool) (n : Nat) : Bool :=
  if k = 0 then zb && tb && decide (n = 0) else if k = 1 then !zb && tb && decide (n = 0) else if k = 2 ∨ k = 3 then zb && tb && decide (2 ≤ n)
  else if k = 4 then zb && rb && decide (n = 1) else false
theorem formB_eq (k : Int) (s : List Nat) (ks : List Ex) (lo hi : Int) : formE (.mk k s ks lo hi) = formB k (decide (s = zeroB)) (decide (lo = 0) && decide (hi = 0)) (repB lo hi) ks.length := by
  have e : ks.isEmpty = decide (ks.length = 0) := by cases ks <;> simp
  simp only [formE, formB, e, Bool.and_assoc]
  repeat' split
  all_goals simp_all

theorem nat_beq0 (n : Nat) : ((n : Int) == 0) = decide (n = 0) := by rw [Bool.eq_iff_iff]; simp
theorem nat_beq1 (n : Nat) : ((n : Int) == 1) = decide (n = 1) := by rw [Bool.eq_iff_iff]; simp; omega
theorem nat_ge2 (n : Nat) : decide ((2 : Int) ≤ (n : Int)) = decide (2 ≤ n) := by rw [Bool.eq_iff_iff]; simp; omega
set_option maxHeartbeats 8000000 in
theorem formed_any (S : Nat → Prop) (t : Ex) (cs : List Value) (w : World) (h : ReR S w t cs) :
    Calls Tryd.prog 93 #[reV cs] w fun e w' => e = .returned (.bool (formE t)) ∧ Below w.heap.size w w' := by
  cases t with
  | mk k s ks lo hi =>
  rw [reR_iff] at h
  obtain ⟨⟨hk, hs, hlo, hhi⟩, A, c, rfl, h1, h2, h3⟩ := h
  rw [formB_eq]
  clear h3 hk hlo hhi
  have hz := fun W => eq_sets hs zero_ok W
  obtain ⟨zb, hzb⟩ : ∃ b, decide (s = zeroB) = b := ⟨_, rfl⟩
  rw [hzb] at hz ⊢
  obtain ⟨p0, p1, p2, p3, rfl⟩ := four_words hs
  clear hs hzb
  obtain ⟨n, hn⟩ : ∃ n, ks.length = n := ⟨_, rfl⟩
  unfold reV reCells
  rw [hn] at h1 ⊢
  clear hn
  unfold maxLen at h2
  have hni : (n : Int) ≤ 9223372036854775807 := by omega
  obtain ⟨r, hr⟩ : ∃ r, formB k zb (decide (lo = 0) && decide (hi = 0)) (repB lo hi) n = r := ⟨_, rfl⟩
  rw [hr]
  have HRep := Lib.hid fun W => mayrep_any lo hi W
  obtain ⟨rb, hrb⟩ : ∃ b, repB lo hi = b := ⟨_, rfl⟩
  rw [hrb] at hr HRep
  clear hrb
  have hz' : ∀ W, (Op.equalIn 10000 24 (.agg #[.int .u64 (p0 : Int), .int .u64 (p1 : Int), .int .u64 (p2 : Int), .int .u64 (p3 : Int)]) (.agg #[.int .u64 0, .int .u64 0, .int .u64 0, .int .u64 0])).run Tryd.prog W = .ok zb W := hz
  clear hz
  have hB := Blk.new w 27 #[.int .i64 k, .int .u64 (p0 : Int), .int .u64 (p1 : Int), .int .u64 (p2 : Int), .int .u64 (p3 : Int), .slice A n c, .int .i64 lo, .int .i64 hi]
  have hlh : (lo = 0 ∧ hi = 0) ∨ (lo = 0 ∧ hi ≠ 0) ∨ lo ≠ 0 := by omega
  show Calls Tryd.prog 93 #[.agg #[.int .i64 k, .int .u64 (p0 : Int), .int .u64 (p1 : Int), .int .u64 (p2 : Int), .int .u64 (p3 : Int), .slice A n c, .int .i64 lo, .int .i64 hi]] w _
  have Hr := Lib.hid hr
  clear hr
  rcases hlh with ⟨rfl, rfl⟩ | ⟨rfl, hh⟩ | hh
  · cases zb <;> cases rb
    all_goals
      go_enter Tryd.func93, Tryd.ntmps93
      go_wp2
      go_quiet (fail)
      go_wp2_with (go_at_call 106; (with_reducible refine (HRep.out _).mono ?_); rintro e w' ⟨rfl, rfl⟩)
      all_goals
        go_ret
        exact ⟨ret_bool (by rw [← Hr.out]; simp_all [formB, nat_beq0, nat_beq1, nat_ge2]), ext_drewN ((Below.refl _ _).alloc (Nat.le_refl _) _) _⟩
  · have hh' : (hi == 0) = false := by simpa using hh
    cases zb <;> cases rb
    all_goals
      go_enter Tryd.func93, Tryd.ntmps93
      go_wp2
      go_quiet (fail)
      go_wp2_with (go_at_call 106; (with_reducible refine (HRep.out _).mono ?_); rintro e w' ⟨rfl, rfl⟩)
      all_goals
        go_ret
        exact ⟨ret_bool (by rw [← Hr.out]; simp_all [formB, nat_beq0, nat_beq1, nat_ge2]), ext_drewN ((Below.refl _ _).alloc (Nat.le_refl _) _) _⟩
  · have hh' : (lo == 0) = false := by simpa using hh
    cases zb <;> cases rb
    all_goals
      go_enter Tryd.func93, Tryd.ntmps93
      go_wp2
      go_quiet (fail)
      go_wp2_with (go_at_call 106; (with_reducible refine (HRep.out _).mono ?_); rintro e w' ⟨rfl, rfl⟩)
      all_goals
        go_ret
        exact ⟨ret_bool (by rw [← Hr.out]; simp_all [formB, nat_beq0, nat_beq1, nat_ge2]), ext_drewN ((Below.refl _ _).alloc (Nat.le_refl _) _) _⟩
end Go.Proofs.YtgknlegomoaoeaaDoor

/-
  Contract of List. No statement of the seat is proved here.
-/
namespace Go.Proofs.YtgknlegomoaoeaaDoor
open Go Go.RowKit
set_option maxRecDepth 100000


set_option maxHeartbeats 4000000 in
theorem list_any (ws : List Nat) (hs : SetOk ws) (w : World) (ht : Tab w) :
    Calls Tryd.prog 71 #[setV ws] w fun e w' => ∃ A' c', e = .returned (.slice A' (listB ws).length c') ∧ NewO w w' 5 1 A' (listB ws).length c' ((listB ws).map nb) := by
  have hB1 := Blk.new w 24 (cellsU ws)
  unfold setV
  go_enter Tryd.func71, Tryd.ntmps71
  go_wp2_with (refine wpList_load_set rfl _ rfl w.heap.size rfl hs hB1 ?_)
  go_loopw [3, 4, 5, 6, 8] (fun s _ _ _ i wr => ∃ (k : Nat) (L : List Nat) (A : Option Addr) (c : Nat), k ≤ 4 ∧ i = .int .i64 (k : Int) ∧ L = upB ws (64 * k) ∧ s = .slice A L.length c ∧ NewO w wr 5 1 A L.length c (L.map nb)) (fun _ _ _ _ i _ => 4 - (intOf i).toNat)
  case atStart => exact ⟨0, [], none, 0, by omega, rfl, by simp [upB], rfl, (NewO.start w _ _).ext ((Below.refl _ _).alloc (Nat.le_refl _) _)⟩
  case round =>
    obtain ⟨k, L, A, c, hk, rfl, hL, rfl, hN⟩ := hrel
    by_cases hlt : k < 4
    · have hki : (k : Int) < 4 := by omega
      have hsn : upB ws (64 * (k + 1)) = L ++ wordL k (wordB ws k) := by rw [hL, upB_word]; rfl
      have hlen : (L ++ wordL k (wordB ws k)).length ≤ 256 := by
        rw [← hsn]
        have := upB_len ws (64 * (k + 1))
        omega
      have Hsn := Lib.hid hsn
      have Hlen := Lib.hid hlen
      have HL := Lib.hid hL
      have hx := hs.wlt k
      clear hsn hlen hL hB1
      obtain ⟨x, hxe⟩ : ∃ x, wordB ws k = x := ⟨_, rfl⟩
      rw [hxe] at Hsn Hlen hx
      have Hxe := Lib.hid hxe
      obtain ⟨wo, hwo⟩ : ∃ wo : World, wo = wr := ⟨_, rfl⟩
      subst hwo
      go_wp2_with (refine wpList_index_set rfl _ _ rfl hs hlt rfl rfl ?_; rw [Hxe.out])
      clear hxe
      go_loopw [3, 6] (fun s v w3 => ∃ (y : Nat) (M : List Nat) (A2 : Option Addr) (c2 : Nat), v = .int .u64 (y : Int) ∧ y < 18446744073709551616 ∧ L ++ wordL k x = M ++ wordL k y ∧ s = .slice A2 M.length c2 ∧ NewO w w3 5 1 A2 M.length c2 (M.map nb)) (fun _ v _ => (intOf v).toNat)
      case atStart => exact ⟨x, L, A, c, rfl, hx, rfl, rfl, hN⟩
      case round =>
        obtain ⟨y, M, A2, c2, rfl, hy, hLM, rfl, hN2⟩ := hrel
        have hMl : M.length ≤ 256 := by
          have h1 := Hlen.out
          rw [hLM, List.length_append] at h1
          omega
        by_cases h0 : y = 0
        · subst h0
          have hLM2 : L ++ wordL k x = M := by rw [hLM, wordL_zero, List.append_nil]
          have HLM2 := Lib.hid hLM2
          clear hLM hLM2
          go_wp2
          go_roundw
          case rel => exact ⟨k + 1, M, A2, c2, by omega, by go_num, by rw [Hsn.out, HLM2.out], rfl, hN2⟩
          case measure => simp [intOf]; omega
        · obtain ⟨hcons, hct, hlty⟩ := wb_cons h0 hy
          have hLM3 := hLM
          rw [wordL_cons h0 hy] at hLM3
          have hcall := tz_any y h0 hy wr (ht.ext hN2.bel)
          have hyb : ((y : Int) == 0) = false := by simp; omega
          have hyn : ¬ ((y : Int) = 0) := by omega
          have hand : bits BinOp.and IntKind.u64 (y : Int) ((y : Int) - 1) = ((y &&& (y - 1) : Nat) : Int) := by
            have := bits_and_u64_nat y (y - 1) hy (by omega)
            rwa [show ((y - 1 : Nat) : Int) = (y : Int) - 1 by omega] at this
          have hal : y &&& (y - 1) < 18446744073709551616 := by omega
          clear hcons hLM
          generalize Lib.ctz 64 y = t at hct hcall hLM3
          generalize y &&& (y - 1) = z at hlty hand hal hLM3
          obtain ⟨b, hb⟩ : ∃ b, 64 * k + t = b := ⟨_, rfl⟩
          rw [hb] at hLM3
          have hbb : b < 256 := by omega
          have hbe : (k : Int) * 64 + (t : Int) = (b : Int) := by omega
          have hm1 : M.length + 1 ≤ maxLen := by unfold maxLen; omega
          have hm2 : (M.length + 1) * 1 ≤ 140737488355328 := by omega
          have HLM := Lib.hid hLM3
          have Hb := Lib.hid hb
          clear hLM3 hb
          go_wp2_with fail
          refine hcall.mono ?_
          rintro e w3 ⟨rfl, rfl⟩
          clear hcall
          go_wp2_with (at_builtin
                       refine wpList_appO _ rfl (.tmp 19) (.tmp 26) _ rfl _ _ 1 1 Tryd.underlying94 info_u8 rfl A2 _ c2 _ rfl (hN2.row.alloc _) (some ⟨wr.heap.size, 0, none⟩) 1 1 [_] rfl rfl (Rd.lit _ #[_] _) ?_ ?_ hm1 hm2 ?_
                       · simp; rfl
                       · intro h; cases h
                       intro A3 c3 w4 hrow4 honly4 hA4)
          have hN4 := hN2.grow (ext_alloc (Below.refl _ _) _) hrow4 honly4 hA4
          go_roundw
          case rel =>
            refine ⟨z, M ++ [b], A3, c3, rfl, hal, by rw [HLM.out, List.append_assoc]; rfl, by rw [List.length_append]; rfl, ?_⟩
            rw [List.length_append, List.map_append]
            exact hN4
          case measure => simp [intOf]; omega
    · obtain rfl : k = 4 := by omega
      have hL2 : L = listB ws := hL
      subst hL2
      clear hL hB1
      go_wp2
      go_ret
      exact ⟨A, c, rfl, hN⟩

end Go.Proofs.YtgknlegomoaoeaaDoor

/-
  Contract of Ranges. No statement of the seat is proved here.
-/
namespace Go.Proofs.YtgknlegomoaoeaaDoor
open Go Go.RowKit
set_option maxRecDepth 100000


set_option maxHeartbeats 4000000 in
theorem ranges_any (ws : List Nat) (hs : SetOk ws) (w : World) (ht : Tab w) :
    Calls Tryd.prog 107 #[setV ws] w fun e w' => ∃ A' c', e = .returned (.slice A' (rowsB (listB ws)).length c') ∧ NewO w w' 127 2 A' (rowsB (listB ws)).length c' (cellsR (rowsB (listB ws))) := by
  have hB1 := Blk.new w 24 (cellsU ws)
  have hcall := list_any ws hs (w.alloc (Obj.cells (cellsU ws) 24)) (ht.ext ((Below.refl _ _).alloc (Nat.le_refl _) _))
  have hbs : ∀ b ∈ listB ws, b < 256 := fun b hb => listB_lt hb
  have hps := listB_rises ws
  have hll := listB_len ws
  obtain ⟨l, hl⟩ : ∃ l, listB ws = l := ⟨_, rfl⟩
  rw [hl] at hcall hbs hps hll ⊢
  clear hl ht
  unfold setV at hcall ⊢
  go_enter Tryd.func107, Tryd.ntmps107
  go_wp2_with (refine wpList_load_set rfl _ rfl w.heap.size rfl hs hB1 ?_)
  refine hcall.mono ?_
  rintro e w2 ⟨AL, cL, rfl, hNL⟩
  clear hcall hB1
  go_wp2
  go_loopw [3, 5, 6, 10] (fun s _ _ i wr => ∃ (k : Nat) (R : List (Nat × Nat)) (A : Option Addr) (c : Nat), k ≤ l.length ∧ i = .int .i64 (k : Int) ∧ R = rowsB (l.take k) ∧ s = .slice A R.length c ∧ NewO w2 wr 127 2 A R.length c (cellsR R)) (fun _ _ _ i _ => l.length - (intOf i).toNat)
  case atStart => exact ⟨0, [], none, 0, by omega, rfl, rfl, rfl, NewO.start _ _ _⟩
  case round =>
    obtain ⟨k, R, A, c, hk, rfl, hR, rfl, hN⟩ := hrel
    by_cases hlt : k < l.length
    · have hki : (k : Int) < (l.length : Int) := by omega
      obtain ⟨ad, rfl, q⟩ := (hNL.rd.ext hN.bel).at_ (k := k) (by simpa using hlt)
      simp only [List.getElem_map, nb] at q
      have hbb := hbs l[k] (List.getElem_mem hlt)
      rcases rows_at hbs hps hlt with ⟨hk0, h1, h2⟩ | ⟨r, lo, h, hk0, h1, hhb, hk1, hrl, hj, hn⟩
      · obtain rfl : R = [] := hR.trans h1
        have H2 := Lib.hid h2
        clear hR h1 h2 hk0
        generalize l[k] = b at q hbb H2
        have hm1 : 0 + 1 ≤ maxLen := by unfold maxLen; omega
        have hm2 : (0 + 1) * 2 ≤ 140737488355328 := by omega
        go_wp2_with (at_builtin
                     refine wpList_appO _ rfl (.tmp 34) (.tmp 38) _ rfl _ _ 2 2 Tryd.underlying125 info_two rfl A _ c _ rfl (hN.row.alloc _) (some ⟨wr.heap.size, 0, none⟩) 1 1 (encR (b, b)) rfl rfl (Rd.lit _ #[.int .u8 (b : Int), .int .u8 (b : Int)] _) ?_ ?_ hm1 hm2 ?_
                     · simp [encR, nb]; rfl
                     · intro h; cases h
                     intro A3 c3 w3 hrow3 honly3 hA3)
        have hN3 := hN.grow (ext_alloc (Below.refl _ _) _) hrow3 honly3 hA3
        go_roundw
        case rel => exact ⟨k + 1, [(b, b)], A3, c3, by omega, by go_num, H2.out.symm, rfl, hN3⟩
        case measure => simp [intOf]; omega
      · obtain rfl : R = r ++ [(lo, h)] := hR.trans h1
        have Hj := Lib.hid hj
        have Hn := Lib.hid hn
        clear hR h1 hk1 hj hn
        generalize l[k] = b at q hbb hhb Hj Hn
        obtain ⟨g, o, rfl, q1, q2⟩ := hN.row.cellR (k := r.length) (by simp)
        simp only [List.getElem_append_right (Nat.le_refl _), Nat.sub_self, List.getElem_cons_zero] at q1 q2
        rw [List.length_append, List.length_singleton] at hN ⊢
        have hfr := hN.row.free (o + r.length * 2 + 1)
        have hrb : r.length ≤ 1000000 := by omega
        have hlast : ((r.length + 1 : Nat) : Int) - 1 = (r.length : Int) := by omega
        have hb1 : IntKind.u8.wrap ((b : Int) - 1) = (b : Int) - 1 := by rw [IntKind.wrap_u8]; omega
        by_cases he : h + 1 = b
        · have hN3 := hN.set (r.length * 2 + 1) (by rw [cellsR_length, List.length_append, List.length_singleton]; omega) (nb b)
          rw [← Nat.add_assoc, cellsR_set] at hN3
          have H3 := Lib.hid hN3
          have hR3 := Hj.out he
          have HR3 := Lib.hid hR3
          have hhe : (h : Int) = (b : Int) - 1 := by omega
          have heq : ((h : Int) == (b : Int) - 1) = true := by simp; omega
          clear hN3 hR3
          go_wp2
          go_roundw
          case rel =>
            refine ⟨k + 1, r ++ [(lo, b)], some ⟨g, o, none⟩, c, by omega, by go_num, HR3.out.symm, by simp, ?_⟩
            rw [List.length_append, List.length_singleton]
            exact H3.out
          case measure => simp [intOf]; omega
        · have hne : ((h : Int) == (b : Int) - 1) = false := by simp; omega
          have hnn : ¬ ((h : Int) = (b : Int) - 1) := by omega
          have hR3 := Hn.out he
          have HR3 := Lib.hid hR3
          have hm1 : r.length + 1 + 1 ≤ maxLen := by unfold maxLen; omega
          have hm2 : (r.length + 1 + 1) * 2 ≤ 140737488355328 := by omega
          clear hR3
          go_wp2_with (at_builtin
                       refine wpList_appO _ rfl (.tmp 34) (.tmp 38) _ rfl _ _ 2 2 Tryd.underlying125 info_two rfl (some ⟨g, o, none⟩) _ c _ rfl (hN.row.alloc _) (some ⟨wr.heap.size, 0, none⟩) 1 1 (encR (b, b)) rfl rfl (Rd.lit _ #[.int .u8 (b : Int), .int .u8 (b : Int)] _) ?_ ?_ hm1 hm2 ?_
                       · simp [encR, nb]; rfl
                       · intro h; cases h
                       intro A3 c3 w3 hrow3 honly3 hA3)
          have hN3 := hN.grow (ext_alloc (Below.refl _ _) _) hrow3 honly3 hA3
          go_roundw
          case rel =>
            refine ⟨k + 1, r ++ [(lo, h)] ++ [(b, b)], A3, c3, by omega, by go_num, HR3.out.symm, by simp, ?_⟩
            rw [cellsR_append]
            simpa [cellsR] using hN3
          case measure => simp [intOf]; omega
    · obtain rfl : k = l.length := by omega
      rw [List.take_length] at hR
      subst hR
      go_wp2
      go_ret
      exact ⟨A, c, rfl, (hN.back hNL.bel).back ((Below.refl _ _).alloc (Nat.le_refl _) _)⟩
end Go.Proofs.YtgknlegomoaoeaaDoor

/-
  Contract of Count. No statement of the seat is proved here.
-/
namespace Go.Proofs.YtgknlegomoaoeaaDoor
open Go Go.RowKit
set_option maxRecDepth 100000


set_option maxHeartbeats 2000000 in
theorem count_any (ws : List Nat) (hs : SetOk ws) (w : World) :
    Calls Tryd.prog 108 #[setV ws] w fun e w' => e = .returned (.int .i64 ((listB ws).length : Int)) ∧ Below w.heap.size w w' := by
  have hB1 := Blk.new w 24 (cellsU ws)
  unfold setV
  go_enter Tryd.func108, Tryd.ntmps108
  go_wp2_with (refine wpList_load_set rfl _ rfl w.heap.size rfl hs hB1 ?_)
  go_loopw [3, 5, 7] (fun s _ i wr => ∃ (k m : Nat), k ≤ 4 ∧ i = .int .i64 (k : Int) ∧ s = .int .i64 (m : Int) ∧ m = cntB ws k ∧ Below w.heap.size w wr) (fun _ _ i _ => 4 - (intOf i).toNat)
  case atStart => exact ⟨0, 0, by omega, rfl, rfl, (cntB_zero ws).symm, (Below.refl _ _).alloc (Nat.le_refl _) _⟩
  case round =>
    obtain ⟨k, m, hk, rfl, rfl, hm, hbel⟩ := hrel
    have hle := cntB_le ws k
    rw [← hm] at hle
    by_cases hlt : k < 4
    · have hki : (k : Int) < 4 := by omega
      have hsn := cntB_succ ws k
      rw [← hm] at hsn
      have hle2 := cntB_le ws (k + 1)
      rw [hsn] at hle2
      have hcall := onescount_any (wordB ws k) (hs.wlt k) wr
      have Hsn := Lib.hid hsn
      clear hsn hm hB1
      generalize Lib.onesCount (wordB ws k) = p at hcall Hsn hle2
      go_wp2_with (first | (refine wpList_index_set rfl _ _ rfl hs hlt rfl rfl ?_) | fail)
      refine hcall.mono ?_
      rintro e w2 ⟨rfl, rfl⟩
      clear hcall
      go_wp2
      go_roundw
      case rel => exact ⟨k + 1, m + p, by omega, by go_num, by go_num, Hsn.out.symm, hbel⟩
      case measure => simp [intOf]; omega
    · obtain rfl : k = 4 := by omega
      have hm2 := hm.trans (listB_cnt ws)
      have Hm2 := Lib.hid hm2
      clear hm hm2 hB1
      go_wp2
      go_ret
      exact ⟨by rw [Hm2.out]; rfl, hbel⟩

end Go.Proofs.YtgknlegomoaoeaaDoor
