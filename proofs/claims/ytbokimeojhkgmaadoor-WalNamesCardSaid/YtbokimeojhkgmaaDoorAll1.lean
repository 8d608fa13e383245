/-
  Texts of this claim, joined (part 1): contracts and lemmas that the last text goes by. No statement of the seat is proved here.
-/
import Derived.Test.YtbokimeojhkgmaaDoorAll0
import Derived.ChangeMaps5
import Derived.Test.YtbokimeojhkgmaaDoorRows
import Derived.ProofKit
import Derived.LaidLaws
import Derived.SizedLaws
import Derived.Deep.Slices
import Derived.Deep.MidRow
import Derived.Deep.RegionHeld3
set_option linter.unusedVariables false
set_option linter.unusedSimpArgs false
/-
  strconv's ParseUint in base 36 at any text: that it answers. No statement of the seat is proved here.
-/
namespace Go.Proofs.YtbokimeojhkgmaaDoor
open Go Go.RowKit
set_option maxRecDepth 100000

def errV (k : Int) : Value := .iface 99 (.int .i64 k)
/-- a number and no error, or a number and an error of two kinds -/
def UAns (e : Ending) : Prop := ∃ N : Int, 0 ≤ N ∧ N ≤ 18446744073709551615 ∧ (e = .returned (.tuple #[.int .u64 N, .nilIface]) ∨ e = .returned (.tuple #[.int .u64 N, errV 1]) ∨ e = .returned (.tuple #[.int .u64 N, errV 2]))
theorem or_range (c : Nat) (h : c < 256) : 0 ≤ bits .or .u8 (c : Int) 32 ∧ bits .or .u8 (c : Int) 32 < 256 := by
  have : ∀ k : Fin 256, 0 ≤ bits .or .u8 (k.val : Int) 32 ∧ bits .or .u8 (k.val : Int) 32 < 256 := by decide
  exact this ⟨c, h⟩

set_option maxHeartbeats 4000000 in
theorem parseUW_any (xs : List UInt8) (w : World) (hl : xs.length ≤ 1000) :
    Calls Tryd.prog 61 #[strV xs, .int .i64 36, .int .i64 64] w fun e w' => UAns e ∧ Below w.heap.size w w' := by
  unfold strV
  by_cases h0 : xs.length = 0
  · obtain rfl := List.eq_nil_of_length_eq_zero h0
    go_enter Tryd.func61, Tryd.ntmps61
    go_wp2
    go_ret2
    exact ⟨⟨0, by omega, by omega, .inr (.inr rfl)⟩, Below.refl _ _⟩
  have hem : xs.isEmpty = false := by cases xs with | nil => simp at h0 | cons a b => rfl
  have hmx : IntKind.u64.wrap (IntKind.u64.wrap 18446744073709551616 - 1) = 18446744073709551615 := by kernel_rfl
  obtain ⟨ad, cc, w1, hcv, hrd, hb⟩ := str_bytes w xs
  have Hrd := Lib.hid hrd
  have Hb := Lib.hid hb
  clear hrd hb h0
  go_enter Tryd.func61, Tryd.ntmps61
  go_wp2
  generalize hC : (512409557603043101 : Int) = C
  generalize hM : (18446744073709551615 : Int) = M
  have HCM : Hid (C = 512409557603043101 ∧ M = 18446744073709551615) := Lib.hid ⟨hC.symm, hM.symm⟩
  clear hC hM hmx hcv
  go_loopw [12, 13, 101] (fun ub n i wr => ∃ (k : Nat) (N : Int), k ≤ xs.length ∧ ub = .bool false ∧ i = .int .i64 (k : Int) ∧ n = .int .u64 N ∧ Hid (0 ≤ N ∧ N ≤ M) ∧ Hid (Below w1.heap.size w1 wr)) (fun _ _ i _ => xs.length - (intOf i).toNat)
  case atStart => exact ⟨0, 0, Nat.zero_le _, rfl, rfl, rfl, Lib.hid (by have := HCM.out; omega), Lib.hid (Below.refl _ _)⟩
  case round =>
    obtain ⟨k, N, hk, rfl, rfl, rfl, HN, Hr⟩ := hrel
    have Hb2 := Lib.hid (ext_trans Hb.out Hr.out)
    by_cases hlt : k < xs.length
    · have hki : (k : Int) < (xs.length : Int) := by omega
      obtain ⟨ad', e1, hc⟩ := (Hrd.out.ext Hr.out).at_ (k := k) (by simpa using hlt)
      injection e1 with e1
      subst e1
      rw [List.getElem_map] at hc
      unfold bv at hc
      obtain ⟨c, hcc⟩ : ∃ c, xs[k].toNat = c := ⟨_, rfl⟩
      rw [hcc] at hc
      have hc256 : c < 256 := by rw [← hcc]; exact xs[k].toNat_lt
      clear hcc
      have HG : Hid (∀ d : Int, 0 ≤ d → d < 36 → N < C →
          IntKind.u64.wrap (N * 36) = N * 36 ∧ ((N * 36 + d ≤ M ∧ IntKind.u64.wrap (N * 36 + d) = N * 36 + d) ∨ (M < N * 36 + d ∧ IntKind.u64.wrap (N * 36 + d) = N * 36 + d - 18446744073709551616))) := Lib.hid (fun d h1 h2 h3 => by
        have := HCM.out
        have := HN.out
        rw [IntKind.wrap_u64, IntKind.wrap_u64]
        refine ⟨by omega, ?_⟩
        by_cases h : N * 36 + d ≤ M
        · exact .inl ⟨h, by omega⟩
        · exact .inr ⟨by omega, by omega⟩)
      have HM0 : Hid (0 ≤ M ∧ M ≤ 18446744073709551615) := Lib.hid (by have := HCM.out; omega)
      by_cases h10 : 48 ≤ c ∧ c ≤ 57
      · obtain ⟨g1, g2⟩ := h10
        have g1i : 48 ≤ (c : Int) := by omega
        have g2i : (c : Int) ≤ 57 := by omega
        have hw1 : IntKind.u8.wrap ((c : Int) - 48) = (c : Int) - 48 := by rw [IntKind.wrap_u8]; omega
        have h36 : (c : Int) - 48 < 36 := by omega
        by_cases hNC : N < C
        · obtain ⟨f2, hov⟩ := HG.out ((c : Int) - 48) (by omega) (by omega) hNC
          rcases hov with ⟨f5, f3⟩ | ⟨f5, f3⟩
          · have f4 : N * 36 ≤ N * 36 + ((c : Int) - 48) := by omega
            have HN2 : Hid (0 ≤ N * 36 + ((c : Int) - 48) ∧ N * 36 + ((c : Int) - 48) ≤ M) := Lib.hid ⟨by have := HN.out; omega, f5⟩
            go_wp2
            go_roundw
            case rel => exact ⟨k + 1, _, by omega, rfl, by go_num, rfl, HN2, Hr⟩
            case measure => simp [intOf]; omega
          · have f4 : N * 36 + ((c : Int) - 48) - 18446744073709551616 < N * 36 := by omega
            generalize hV : N * 36 + ((c : Int) - 48) - 18446744073709551616 = V at f3 f4
            clear hV f5
            go_wp2
            go_ret2
            exact ⟨⟨M, HM0.out.1, HM0.out.2, .inr (.inl rfl)⟩, Hb2.out⟩
        · have hNC2 : C ≤ N := by omega
          clear hNC
          go_wp2
          go_ret2
          exact ⟨⟨M, HM0.out.1, HM0.out.2, .inr (.inl rfl)⟩, Hb2.out⟩
      · obtain ⟨L, hL⟩ : ∃ L, bits .or .u8 (c : Int) 32 = L := ⟨_, rfl⟩
        have hLr := or_range c hc256
        rw [hL] at hLr
        obtain ⟨l0, l1⟩ := hLr
        have hs1 : (c : Int) < 48 ∨ 57 < (c : Int) := by omega
        have hs2 : c = 95 ∨ ((c : Int) == 95) = false := by
          by_cases h : c = 95
          · exact .inl h
          · exact .inr (by rw [beq_eq_false_iff_ne]; omega)
        clear h10
        by_cases hA : 97 ≤ L ∧ L ≤ 122
        · obtain ⟨g1, g2⟩ := hA
          have hs3 : ((c : Int) == 95) = false := by
            rcases hs2 with rfl | h
            · have e : bits .or .u8 ((95 : Nat) : Int) 32 = 127 := by kernel_rfl
              rw [e] at hL
              omega
            · exact h
          have hw1 : IntKind.u8.wrap (L - 97) = L - 97 := by rw [IntKind.wrap_u8]; omega
          have hw2 : IntKind.u8.wrap (L - 97 + 10) = L - 97 + 10 := by rw [IntKind.wrap_u8]; omega
          have h36 : L - 97 + 10 < 36 := by omega
          clear hs2 l0 l1
          rcases hs1 with hs1 | hs1
          all_goals
            by_cases hNC : N < C
            · obtain ⟨f2, hov⟩ := HG.out (L - 97 + 10) (by omega) (by omega) hNC
              rcases hov with ⟨f5, f3⟩ | ⟨f5, f3⟩
              · have f4 : N * 36 ≤ N * 36 + (L - 97 + 10) := by omega
                have HN2 : Hid (0 ≤ N * 36 + (L - 97 + 10) ∧ N * 36 + (L - 97 + 10) ≤ M) := Lib.hid ⟨by have := HN.out; omega, f5⟩
                go_wp2
                go_roundw
                case rel => exact ⟨k + 1, _, by omega, rfl, by go_num, rfl, HN2, Hr⟩
                case measure => simp [intOf]; omega
              · have f4 : N * 36 + (L - 97 + 10) - 18446744073709551616 < N * 36 := by omega
                generalize hV : N * 36 + (L - 97 + 10) - 18446744073709551616 = V at f3 f4
                clear hV f5
                go_wp2
                go_ret2
                exact ⟨⟨M, HM0.out.1, HM0.out.2, .inr (.inl rfl)⟩, Hb2.out⟩
            · have hNC2 : C ≤ N := by omega
              clear hNC
              go_wp2
              go_ret2
              exact ⟨⟨M, HM0.out.1, HM0.out.2, .inr (.inl rfl)⟩, Hb2.out⟩
        · have hs3 : L < 97 ∨ 122 < L := by omega
          clear hA l0 l1
          rcases hs2 with rfl | hs2
          · have e : bits .or .u8 ((95 : Nat) : Int) 32 = 127 := by kernel_rfl
            clear hs1 hs3 hL
            go_wp2
            go_ret2
            exact ⟨⟨0, by omega, by omega, .inr (.inr rfl)⟩, Hb2.out⟩
          · rcases hs1 with hs1 | hs1 <;> rcases hs3 with hs3 | hs3
            all_goals
              go_wp2
              go_ret2
              exact ⟨⟨0, by omega, by omega, .inr (.inr rfl)⟩, Hb2.out⟩
    · obtain rfl : k = xs.length := by omega
      have HM0 : Hid (0 ≤ N ∧ N ≤ 18446744073709551615) := Lib.hid (by have := HCM.out; have := HN.out; omega)
      go_wp2
      go_ret2
      exact ⟨⟨N, HM0.out.1, HM0.out.2, .inl rfl⟩, Hb2.out⟩
end Go.Proofs.YtbokimeojhkgmaaDoor

/-
  strconv's ParseInt in base 36 at any text: that it answers. No statement of the seat is proved here.
-/
namespace Go.Proofs.YtbokimeojhkgmaaDoor
open Go Go.RowKit
set_option maxRecDepth 100000

def IAns (e : Ending) : Prop := ∃ v : Int, e = .returned (.tuple #[.int .i64 v, .nilIface]) ∨ e = .returned (.tuple #[.int .i64 v, errV 1]) ∨ e = .returned (.tuple #[.int .i64 v, errV 2])

theorem ne_nil (k : Int) (W : World) : (binOp .neq 74 (errV k) .nilIface).run Tryd.prog W = .ok (.bool true) W := by kernel_rfl
theorem ne_one (W : World) : (binOp .neq 74 (errV 1) (errV 1)).run Tryd.prog W = .ok (.bool false) W := by kernel_rfl
theorem ne_two (W : World) : (binOp .neq 74 (errV 2) (errV 1)).run Tryd.prog W = .ok (.bool true) W := by kernel_rfl
set_option maxHeartbeats 4000000 in
theorem parseIW_any (xs : List UInt8) (w : World) (hl : xs.length ≤ 1000) :
    Calls Tryd.prog 57 #[strV xs, .int .i64 36, .int .i64 64] w fun e w' => IAns e ∧ Below w.heap.size w w' := by
  rcases xs with _ | ⟨k, D⟩
  · unfold strV
    go_enter Tryd.func57, Tryd.ntmps57
    go_wp2
    go_ret2
    exact ⟨⟨0, .inr (.inr rfl)⟩, Below.refl _ _⟩
  have hsz : (⟨(k :: D).toArray⟩ : ByteArray).size = D.length + 1 := rfl
  have hsl := fun W => tail_str k D W
  have hi0 : ((((⟨(k :: D).toArray⟩ : ByteArray)[0]'(by rw [hsz]; omega)).toNat : Nat) : Int) = (k.toNat : Int) := rfl
  have HA := Lib.hid (fun W => parseUW_any (k :: D) W hl)
  have HT := Lib.hid (fun W => parseUW_any D W (by simp at hl; omega))
  unfold strV at HA HT ⊢
  obtain ⟨c, hcc⟩ : ∃ c, k.toNat = c := ⟨_, rfl⟩
  rw [hcc] at hi0
  obtain ⟨Z, hZ⟩ : ∃ Z : ByteArray, (⟨(k :: D).toArray⟩ : ByteArray) = Z := ⟨_, rfl⟩
  have hz0 : 0 < Z.size := by rw [← hZ, hsz]; omega
  have hZ0 : (Z.toList == []) = false := by rw [← hZ]; simp
  have hi02 : (((Z[0]'hz0).toNat : Nat) : Int) = (c : Int) := by subst hZ; exact hi0
  rw [hZ] at hsl HA ⊢
  obtain ⟨Y, hY⟩ : ∃ Y : ByteArray, (⟨D.toArray⟩ : ByteArray) = Y := ⟨_, rfl⟩
  rw [hY] at hsl HT
  obtain ⟨M, hM⟩ : ∃ M, IntKind.u64.wrap 9223372036854775808 = M := ⟨_, rfl⟩
  clear hi0 hZ hsz hY hcc hl
  by_cases h43 : c = 43
  · subst h43
    clear HA
    go_enter Tryd.func57, Tryd.ntmps57
    go_wp2_with fail
    refine (HT.out _).mono ?_
    rintro e w2 ⟨⟨N, n0, n1, hE⟩, hb⟩
    have Hb := Lib.hid hb
    clear hb HT n1
    have hNM : N < M ∨ M ≤ N := by omega
    have e1 := fun W => ne_nil 1 W
    have e2 := fun W => ne_nil 2 W
    have e3 := ne_one
    have e4 := ne_two
    unfold errV at hE e1 e2 e3 e4
    rcases hE with rfl | rfl | rfl <;> rcases hNM with hNM | hNM
    all_goals
      go_wp2
      go_ret2
      exact ⟨⟨_, by first | exact .inl rfl | exact .inr (.inl rfl) | exact .inr (.inr rfl)⟩, Hb.out⟩
  by_cases h45 : c = 45
  · subst h45
    clear HA
    go_enter Tryd.func57, Tryd.ntmps57
    go_wp2_with fail
    refine (HT.out _).mono ?_
    rintro e w2 ⟨⟨N, n0, n1, hE⟩, hb⟩
    have Hb := Lib.hid hb
    clear hb HT n1
    have hNM : M < N ∨ N ≤ M := by omega
    have e1 := fun W => ne_nil 1 W
    have e2 := fun W => ne_nil 2 W
    have e3 := ne_one
    have e4 := ne_two
    unfold errV at hE e1 e2 e3 e4
    rcases hE with rfl | rfl | rfl <;> rcases hNM with hNM | hNM
    all_goals
      go_wp2
      go_ret2
      exact ⟨⟨_, by first | exact .inl rfl | exact .inr (.inl rfl) | exact .inr (.inr rfl)⟩, Hb.out⟩
  · have hc1 : ((c : Int) == 43) = false := by rw [beq_eq_false_iff_ne]; omega
    have hc2 : ((c : Int) == 45) = false := by rw [beq_eq_false_iff_ne]; omega
    clear h43 h45 HT
    go_enter Tryd.func57, Tryd.ntmps57
    go_wp2_with fail
    refine (HA.out _).mono ?_
    rintro e w2 ⟨⟨N, n0, n1, hE⟩, hb⟩
    have Hb := Lib.hid hb
    clear hb HA n1
    have hNM : N < M ∨ M ≤ N := by omega
    have e1 := fun W => ne_nil 1 W
    have e2 := fun W => ne_nil 2 W
    have e3 := ne_one
    have e4 := ne_two
    unfold errV at hE e1 e2 e3 e4
    rcases hE with rfl | rfl | rfl <;> rcases hNM with hNM | hNM
    all_goals
      go_wp2
      go_ret2
      exact ⟨⟨_, by first | exact .inl rfl | exact .inr (.inl rfl) | exact .inr (.inr rfl)⟩, Hb.out⟩
end Go.Proofs.YtbokimeojhkgmaaDoor

/-
  The laws' known example (Number, Name), and two names. No statement of the seat is proved here.
-/
namespace Go.Proofs.YtbokimeojhkgmaaDoor
open Go Go.RowKit
set_option maxRecDepth 100000

theorem w10 : nameW 119 36 = [119, 49, 48] := by
  show nameW 119 ((36 : Nat) : Int) = _
  rw [nameW_in (n := 36) (by omega) (by omega) (by omega), d36_big (by omega), d36_small (by omega)]
  decide
set_option maxHeartbeats 1000000 in
theorem known20_any (w : World) : Calls Tryd.prog 12 #[] w fun e w' => e = .returned (.bool true) ∧ Below w.heap.size w w' := by
  have e1 : nameW 119 ((36 : Nat) : Int) = [119, 49, 48] := w10
  have H1h : Hid (Calls Tryd.prog 17 #[.string ⟨#[119, 49, 48]⟩] w fun e w' => e = .returned (.tuple #[.int .u8 119, .int .i64 36, .bool true]) ∧ Below w.heap.size w w') := Lib.hid (by
    have h := number_any 119 36 w (by omega) (by omega) (by omega)
    rw [e1] at h
    exact h)
  have H2 : Hid (∀ W, Calls Tryd.prog 19 #[.int .u8 119, .int .i64 36] W fun e w' => e = .returned (.string ⟨#[119, 49, 48]⟩) ∧ Below W.heap.size W w') := Lib.hid (fun W => by
    have h := name_any 119 36 W (by omega)
    unfold SaysName at h
    rw [w10] at h
    exact h)
  go_enter Tryd.func12, Tryd.ntmps12
  go_wp2_with fail
  refine H1h.out.mono ?_
  rintro e w2 ⟨rfl, hb⟩
  have Hb := Lib.hid hb
  clear hb H1h
  go_wp2_with fail
  refine (H2.out _).mono ?_
  rintro e w3 ⟨rfl, hb⟩
  have Hb3 := Lib.hid (ext_trans Hb.out hb)
  clear hb H2
  go_wp2
  go_ret
  exact ⟨rfl, Hb3.out⟩
/-- what is said of two names -/
theorem name_eq {k : Nat} {a b : Int} (h1 : nameW k a ≠ []) (h2 : nameW k b ≠ []) : (nameW k a = nameW k b ↔ a = b) ∧ (a < b → (nameW k a).length ≤ (nameW k b).length) := by
  have g : ∀ n, nameW k n ≠ [] → 97 ≤ k ∧ k ≤ 122 ∧ 0 ≤ n ∧ n ≤ 34359738368 := fun n h => by
    by_cases hc : 97 ≤ k ∧ k ≤ 122 ∧ 0 ≤ n ∧ n ≤ 34359738368
    · exact hc
    · exact absurd (nameW_out hc) h
  obtain ⟨p1, p2, p3, p4⟩ := g a h1
  obtain ⟨q1, q2, q3, q4⟩ := g b h2
  obtain ⟨m, rfl⟩ : ∃ m : Nat, a = m := ⟨a.toNat, by omega⟩
  obtain ⟨n, rfl⟩ : ∃ n : Nat, b = n := ⟨b.toNat, by omega⟩
  rw [nameW_in p1 p2 (by omega), nameW_in q1 q2 (by omega)]
  refine ⟨⟨fun h => ?_, fun h => ?_⟩, fun h => ?_⟩
  · injection h with _ h
    have := d36_inj m n h
    omega
  · have : m = n := by omega
    rw [this]
  · have := d36_mono n m (by omega)
    simpa using this
end Go.Proofs.YtbokimeojhkgmaaDoor

/-
  A text as an argument. No statement of the seat is proved here.
-/
namespace Go.Proofs.YtbokimeojhkgmaaDoor
open Go Go.RowKit
theorem str_xs (s : ByteArray) (h : s.size ≤ maxLen) : ∃ xs : List UInt8, (.string s : Value) = strV xs ∧ xs.length ≤ maxLen := ⟨s.data.toList, by unfold strV; simp, by simpa using h⟩
end Go.Proofs.YtbokimeojhkgmaaDoor

/-
  A world for the witness of the cards of stage 20, with octet's table: the tables and the two errors hold what the rows list. No statement of the seat is proved here.
-/
namespace Go.Proofs.YtbokimeojhkgmaaDoor
open Go Go.ChangeShapes Go.WideShapes Go.ChangeAt Go.RowKit
noncomputable def laidWorld (os : Os) : World :=
  { World.holding Tryd.prog os ⟨#[], #[], []⟩ with heap := (((((((((World.holding Tryd.prog os ⟨#[], #[], []⟩).heap.modify 4 fun
      | .cells _ t frozen => .cells #[.int .u8 0, .int .u8 1, .int .u8 28, .int .u8 2, .int .u8 29, .int .u8 14, .int .u8 24, .int .u8 3, .int .u8 30, .int .u8 22, .int .u8 20, .int .u8 15, .int .u8 25, .int .u8 17, .int .u8 4, .int .u8 8, .int .u8 31, .int .u8 27, .int .u8 13, .int .u8 23, .int .u8 21, .int .u8 19, .int .u8 16, .int .u8 7, .int .u8 26, .int .u8 12, .int .u8 18, .int .u8 6, .int .u8 11, .int .u8 5, .int .u8 10, .int .u8 9] t frozen
      | o => o).modify 5 fun
      | .cells _ t frozen => .cells #[.int .u8 0, .int .u8 1, .int .u8 56, .int .u8 2, .int .u8 57, .int .u8 49, .int .u8 28, .int .u8 3, .int .u8 61, .int .u8 58, .int .u8 42, .int .u8 50, .int .u8 38, .int .u8 29, .int .u8 17, .int .u8 4, .int .u8 62, .int .u8 47, .int .u8 59, .int .u8 36, .int .u8 45, .int .u8 43, .int .u8 51, .int .u8 22, .int .u8 53, .int .u8 39, .int .u8 33, .int .u8 30, .int .u8 24, .int .u8 18, .int .u8 12, .int .u8 5, .int .u8 63, .int .u8 55, .int .u8 48, .int .u8 27, .int .u8 60, .int .u8 41, .int .u8 37, .int .u8 16, .int .u8 46, .int .u8 35, .int .u8 44, .int .u8 21, .int .u8 52, .int .u8 32, .int .u8 23, .int .u8 11, .int .u8 54, .int .u8 26, .int .u8 40, .int .u8 15, .int .u8 34, .int .u8 20, .int .u8 31, .int .u8 10, .int .u8 25, .int .u8 14, .int .u8 19, .int .u8 9, .int .u8 13, .int .u8 8, .int .u8 7, .int .u8 6] t frozen
      | o => o).modify 3 fun
      | .cells _ t frozen => .cells #[.int .u64 1, .int .u64 10, .int .u64 100, .int .u64 1000, .int .u64 10000, .int .u64 100000, .int .u64 1000000, .int .u64 10000000, .int .u64 100000000, .int .u64 1000000000, .int .u64 10000000000, .int .u64 100000000000, .int .u64 1000000000000, .int .u64 10000000000000, .int .u64 100000000000000, .int .u64 1000000000000000, .int .u64 10000000000000000, .int .u64 100000000000000000, .int .u64 1000000000000000000, .int .u64 10000000000000000000] t frozen
      | o => o).modify 0 fun
      | .cells _ t frozen => .cells #[.int .u32 0, .int .u32 498536548, .int .u32 997073096, .int .u32 651767980, .int .u32 1994146192, .int .u32 1802195444, .int .u32 1303535960, .int .u32 1342533948, .int .u32 3988292384, .int .u32 4027552580, .int .u32 3604390888, .int .u32 3412177804, .int .u32 2607071920, .int .u32 2262029012, .int .u32 2685067896, .int .u32 3183342108] t frozen
      | o => o)).modify 2 fun
      | .cells _ t frozen => .cells #[.iface 122 (.pointer (some ⟨(World.holding Tryd.prog os ⟨#[], #[], []⟩).heap.size, 0, none⟩))] t frozen
      | o => o).modify 1 fun
      | .cells _ t frozen => .cells #[.iface 122 (.pointer (some ⟨(World.holding Tryd.prog os ⟨#[], #[], []⟩).heap.size + 1, 0, none⟩))] t frozen
      | o => o).push (.cells #[.string ⟨#[118, 97, 108, 117, 101, 32, 111, 117, 116, 32, 111, 102, 32, 114, 97, 110, 103, 101]⟩] 124)).push (.cells #[.string ⟨#[105, 110, 118, 97, 108, 105, 100, 32, 115, 121, 110, 116, 97, 120]⟩] 124) }
end Go.Proofs.YtbokimeojhkgmaaDoor

/-
  Arguments read element by element, and what the form's reach and bulk say of them. No statement of the seat is proved here.
-/
namespace Go.Proofs.YtbokimeojhkgmaaDoor
open Go Go.ChangeShapes Go.WideShapes Go.ChangeAt Go.RowKit
set_option maxRecDepth 100000

/-! ### bulk, weights -/
theorem rb_one {H : Type} (d : DataW H) : 1 ≤ Rows.uptoBulk d := by
  cases d with
  | lit l => cases l <;> simp [Rows.uptoBulk]
  | nil => simp [Rows.uptoBulk]
  | ptr d => simp [Rows.uptoBulk]
  | slice elems spare => simp [Rows.uptoBulk]
  | agg parts => simp [Rows.uptoBulk]
  | iface t d => simp [Rows.uptoBulk]
  | map entries => simp [Rows.uptoBulk]
  | held h => simp [Rows.uptoBulk]
theorem rb_all {H : Type} (l : List (DataW H)) : Rows.uptoBulkAll l = (l.map Rows.uptoBulk).sum := by
  induction l with
  | nil => simp [Rows.uptoBulkAll]
  | cons x r ih => simp only [Rows.uptoBulkAll, List.map_cons, List.sum_cons, ih]
theorem rb_slice {H : Type} (a b : List (DataW H)) : (a.map Rows.uptoBulk).sum + 1 ≤ Rows.uptoBulk (.slice a b) := by
  simp only [Rows.uptoBulk, rb_all]
  omega
theorem rb_agg {H : Type} (a : List (DataW H)) : Rows.uptoBulk (.agg a) = (a.map Rows.uptoBulk).sum + 1 := by
  simp only [Rows.uptoBulk, rb_all]
theorem rb_str {H : Type} (s : List UInt8) : Rows.uptoBulk (DataW.lit (H := H) (.string s)) = s.length + 1 := by
  simp [Rows.uptoBulk]
theorem rb_sum {α : Type} (f g : α → Nat) : ∀ l : List α, (∀ x ∈ l, f x ≤ g x) → (l.map f).sum ≤ (l.map g).sum
  | [], _ => Nat.le_refl _
  | x :: r, h => by
    rw [List.map_cons, List.sum_cons, List.map_cons, List.sum_cons]
    have := h x (List.mem_cons_self ..)
    have := rb_sum f g r (fun y hy => h y (List.mem_cons_of_mem _ hy))
    omega
theorem rw_mem {H : Type} {P : Program} {e : TypeId} : ∀ {l : List (DataW H)} {d : DataW H}, d ∈ l → ∀ n ∈ d.weights P e, n ∈ DataW.weightsAll P e l
  | x :: r, d, hd, n, hn => by
    simp only [DataW.weightsAll, List.mem_append]
    rcases List.mem_cons.1 hd with rfl | hd
    · exact .inl hn
    · exact .inr (rw_mem hd n hn)
theorem rw_elem {H : Type} {P : Program} {t e : TypeId} {elems spare : List (DataW H)} {d : DataW H} (hu : P.underlying t = some (.slice e)) (hd : d ∈ elems) (n : Nat) (hn : n ∈ d.weights P e) : n ∈ DataW.weights P t (.slice elems spare) := by
  simp only [DataW.weights, hu, List.mem_cons, List.mem_append]
  exact .inr (.inl (rw_mem hd n hn))
theorem rw_len {H : Type} {P : Program} {t e : TypeId} {elems spare : List (DataW H)} (hu : P.underlying t = some (.slice e)) : (elems.length + spare.length) * P.bytesOf e ∈ DataW.weights P t (.slice elems spare) := by
  simp only [DataW.weights, hu, List.mem_cons, true_or]

/-- What a datum is known to weigh: of these each is among its weights; its bulk is at least so much. -/
structure Told {H : Type} (t : TypeId) (d : DataW H) (ns : List Nat) (b : Nat) : Prop where
  each : ∀ n ∈ ns, n ∈ d.weights Tryd.prog t
  bulk : b ≤ Rows.uptoBulk d
/-- .. of an argument, under the first form's reach -/
theorem Told.sized {H : Type} {ts : List TypeId} {ds : List (DataW H)} (hz : (DataW.weightsEach Tryd.prog ts ds).all (· ≤ reachBytes) = true) {j : Nat} {t : TypeId} {d : DataW H} {ns : List Nat} {b : Nat} (h : Told t d ns b) (ht : ts[j]? = some t) (hd : ds[j]? = some d) : ∀ n ∈ ns, n ≤ 140737488355328 := fun n hn => by
  have h1 := List.all_eq_true.1 hz n (DataW.weights_mem_each ht hd n (h.each n hn))
  have h2 := reachBytes_lt
  simp only [decide_eq_true_eq] at h1
  omega

/-! ### rows in memory -/
/-- A row in memory, element by element: 'R' tells the cells of each. -/
def RowR {α : Type} (R : World → List Value → α → Prop) (sz : Nat) (w : World) (A : Option Addr) (l : List α) : Prop :=
  ∀ (k : Nat) (hk : k < l.length), ∃ g o cs, A = some ⟨g, o, none⟩ ∧ cs.length = sz ∧ (∀ (j : Nat) (u : Value), cs[j]? = some u → w.cell? ⟨g, o + k * sz + j, none⟩ = some u) ∧ R w cs l[k]
/-- what is told of one world holds of each that came of it -/
def Lasts {α : Type} (R : World → List Value → α → Prop) : Prop := ∀ (w w' : World) (cs : List Value) (a : α), Below w.heap.size w w' → R w cs a → R w' cs a
section
variable {α : Type} {R : World → List Value → α → Prop} {sz : Nat} {w w' : World} {A : Option Addr} {l : List α}
theorem RowR.nil (w : World) (A : Option Addr) : RowR R sz w A [] := fun k hk => absurd hk (by simp)
theorem RowR.ext (hR : Lasts R) (h : RowR R sz w A l) (hb : Below w.heap.size w w') : RowR R sz w' A l := fun k hk => by
  obtain ⟨g, o, cs, e, hl, hc, hr⟩ := h k hk
  refine ⟨g, o, cs, e, hl, fun j u hu => ?_, hR _ _ _ _ hb hr⟩
  have h1 := hc j u hu
  have hlt := World.block_lt_of_cell? w _ h1
  exact (World.cell?_of_block (hb.block _ hlt)).trans h1
theorem RowR.lasts {sz : Nat} (hR : Lasts R) : ∀ (w w' : World) (A : Option Addr) (l : List α), Below w.heap.size w w' → RowR R sz w A l → RowR R sz w' A l := fun _ _ _ _ hb h => h.ext hR hb
end

/-! ### a slice, opened -/
section
variable {H : Type} {enc : TypeId × Value → H} {W : World}
theorem spot_none {a : Addr} {u : Value} (h : W.cell? (a.add 0) = some u) : ∃ g o, a = ⟨g, o, none⟩ := by
  obtain ⟨g, o, s⟩ := a
  cases s with
  | none => exact ⟨g, o, rfl⟩
  | some s =>
    unfold World.cell? Addr.add at h
    simp at h
    split at h <;> simp at h

/-- A slice as a row: what holds of each element that is read ('R' its cells; 'ns' what it is known to weigh, 'b' its bulk). -/
theorem read_slice {α : Type} {t e : TypeId} {sz : Nat} (R : World → List Value → α → Prop) (ns : α → List Nat) (b : α → Nat) (bytes : Nat) (ht : Tryd.prog.underlying t = some (.slice e)) (hsz : Tryd.prog.cellsOf e = sz) (hby : Tryd.prog.bytesOf e = bytes) (hpos : 0 < sz)
    (each : ∀ (n : Nat) (cs : List Value) (x : DataW H × List MemPlace), cs.length = sz → DataW.trod enc Tryd.prog W 0 (fun _ => true) true n e cs = some x → ∃ a : α, R W cs a ∧ Told e x.1 (ns a) (b a))
    {fuel : Nat} {cs : List Value} {x : DataW H × List MemPlace} (h : DataW.trod enc Tryd.prog W 0 (fun _ => true) true fuel t cs = some x) :
    ∃ (A : Option Addr) (len cap : Nat) (l : List α), cs = [.slice A len cap] ∧ len = l.length ∧ len ≤ cap ∧ cap ≤ maxLen ∧ (A = none → cap = 0) ∧ RowR R sz W A l ∧
      Told t x.1 (if cap = 0 then [] else cap * bytes :: l.flatMap ns) ((l.map b).sum + 1) := by
  rcases Deep.open_slice ht h with ⟨rfl, rfl⟩ | ⟨a, len, cap, m, n, D, Pl, rfl, _, hl, hm, hmm, rfl, hi⟩
  · exact ⟨none, 0, 0, [], rfl, rfl, Nat.le_refl _, Nat.zero_le _, fun _ => rfl, RowR.nil _ _, ⟨by simp, rb_one _⟩⟩
  · simp only [if_true] at hmm
    subst hmm
    rw [hsz] at hi
    have hex : ∀ k, k < m → ∃ (cs' : List Value) (z : α), cs'.length = sz ∧ (∀ j, j < sz → W.cell? ((a.add (k * sz)).add j) = cs'[j]?) ∧ R W cs' z ∧ Told e (D k) (ns z) (b z) := by
      intro k hk
      obtain ⟨cs', hc, htr⟩ := hi k hk
      obtain ⟨_, hcl, hat⟩ := World.cells?_some hc
      obtain ⟨z, hz, hq⟩ := each n cs' _ hcl htr
      exact ⟨cs', z, hcl, hat, hz, hq⟩
    by_cases h0 : m = 0
    · subst h0
      obtain rfl : len = 0 := by omega
      exact ⟨some a, 0, 0, [], rfl, rfl, Nat.le_refl _, Nat.zero_le _, fun _ => rfl, RowR.nil _ _, ⟨by simp, rb_one _⟩⟩
    · obtain ⟨_, z0, _⟩ := hex 0 (by omega)
      have hex2 : ∀ k, ∃ p : List Value × α, k < m → p.1.length = sz ∧ (∀ j, j < sz → W.cell? ((a.add (k * sz)).add j) = p.1[j]?) ∧ R W p.1 p.2 ∧ Told e (D k) (ns p.2) (b p.2) := fun k => by
        by_cases hk : k < m
        · obtain ⟨cs', z, h1⟩ := hex k hk
          exact ⟨(cs', z), fun _ => h1⟩
        · exact ⟨([], z0), fun h => absurd h hk⟩
      obtain ⟨T, hT⟩ := Classical.axiomOfChoice hex2
      obtain ⟨g, o, rfl⟩ : ∃ g o, a = ⟨g, o, none⟩ := by
        obtain ⟨h1, h2, _⟩ := hT 0 (by omega)
        have h3 := h2 0 hpos
        rw [add_add_, List.getElem?_eq_getElem (by omega)] at h3
        exact spot_none (by simpa using h3)
      refine ⟨some ⟨g, o, none⟩, len, m, (List.range len).map fun k => (T k).2, rfl, by simp, hl, hm, (fun h => by cases h), fun k hk => ?_, ⟨fun w hw => ?_, ?_⟩⟩
      · have hk' : k < len := by simpa using hk
        obtain ⟨h1, h2, h3, _⟩ := hT k (by omega)
        refine ⟨g, o, (T k).1, rfl, h1, fun j u hu => ?_, by simpa using h3⟩
        have hj : j < sz := by have := (List.getElem?_eq_some_iff.1 hu).1; omega
        have h4 := h2 j hj
        rw [add_add_, Addr.add_mid, hu] at h4
        rw [Nat.add_assoc]
        exact h4
      · rw [if_neg h0] at hw
        rcases List.mem_cons.1 hw with rfl | hw
        · have h5 := rw_len (H := H) (P := Tryd.prog) (elems := (List.range len).map D) (spare := (List.range (m - len)).map fun j => D (len + j)) ht
          rw [hby] at h5
          simpa [show len + (m - len) = m by omega] using h5
        · obtain ⟨z, hz, hw⟩ := List.mem_flatMap.1 hw
          obtain ⟨k, hk, rfl⟩ := List.mem_map.1 hz
          have hk' := List.mem_range.1 hk
          exact rw_elem ht (List.mem_map.2 ⟨k, hk, rfl⟩) w ((hT k (by omega)).2.2.2.each w hw)
      · refine Nat.le_trans ?_ (rb_slice _ _)
        rw [List.map_map, List.map_map]
        refine Nat.add_le_add_right (rb_sum _ _ _ (fun k hk => ?_)) 1
        have hk' := List.mem_range.1 hk
        exact (hT k (by omega)).2.2.2.bulk

/-! ### texts -/
/-- a text's one cell -/
def IsStr (_ : World) (cs : List Value) (s : List UInt8) : Prop := cs = [strV s]
theorem IsStr.lasts : Lasts IsStr := fun _ _ _ _ _ h => h
theorem rd_of_rowR {A : Option Addr} {l : List (List UInt8)} (h : RowR IsStr 1 W A l) : Rd W A (l.map strV) := fun j u hu => by
  have hj : j < l.length := by have := (List.getElem?_eq_some_iff.1 hu).1; simpa using this
  obtain ⟨g, o, cs, rfl, _, hc, rfl⟩ := h j hj
  refine ⟨_, rfl, ?_⟩
  rw [Addr.add_mid]
  have := hc 0 _ rfl
  rw [Nat.mul_one, Nat.add_zero] at this
  rw [this, ← hu]
  simp [hj]
theorem cellsR_str : Tryd.prog.cellsOf 9 = 1 := by kernel_rfl
theorem bytesR_str : Tryd.prog.bytesOf 9 = 16 := by kernel_rfl
theorem read_str {n : Nat} {cs : List Value} {x : DataW H × List MemPlace} (h : DataW.trod enc Tryd.prog W 0 (fun _ => true) true n 9 cs = some x) : ∃ s : List UInt8, IsStr W cs s ∧ Told 9 x.1 [s.length] (s.length + 1) := by
  obtain ⟨s, rfl, rfl, hm⟩ := DataW.trod_string Tryd.underlying9 h
  refine ⟨s.data.toList, by simp [IsStr, strV], ⟨fun n hn => ?_, ?_⟩⟩
  · simp only [List.mem_singleton] at hn
    subst hn
    simp [DataW.weights]
  · rw [rb_str]
    exact Nat.le_refl _
/-- a slice of texts -/
def bulkS (l : List (List UInt8)) : Nat := (l.map fun s => s.length + 1).sum
theorem read_strs {n : Nat} {cs : List Value} {x : DataW H × List MemPlace} (h : DataW.trod enc Tryd.prog W 0 (fun _ => true) true n 22 cs = some x) :
    ∃ (A : Option Addr) (len cap : Nat) (l : List (List UInt8)), cs = [.slice A len cap] ∧ len = l.length ∧ len ≤ cap ∧ cap ≤ maxLen ∧ (A = none → cap = 0) ∧ Rd W A (l.map strV) ∧
      Told 22 x.1 (if cap = 0 then [] else cap * 16 :: l.flatMap fun s => [s.length]) (bulkS l + 1) := by
  obtain ⟨A, len, cap, l, h1, h2, h3, h4, h5, h6, h7⟩ := read_slice IsStr (fun s => [s.length]) (fun s => s.length + 1) 16 Tryd.underlying22 cellsR_str bytesR_str (by omega) (fun n cs x _ hx => read_str hx) h
  exact ⟨A, len, cap, l, h1, h2, h3, h4, h5, rd_of_rowR h6, h7⟩
end
end Go.Proofs.YtbokimeojhkgmaaDoor

/-
  Batches in memory and as arguments; the laws' helpers texts and long. No statement of the seat is proved here.
-/
namespace Go.Proofs.YtbokimeojhkgmaaDoor
open Go Go.ChangeShapes Go.WideShapes Go.ChangeAt Go.RowKit
set_option maxRecDepth 100000

theorem ne_str {xs ys : List UInt8} (h : xs ≠ ys) : ((⟨xs.toArray⟩ : ByteArray).toList == (⟨ys.toArray⟩ : ByteArray).toList) = false := by
  rw [beq_eq_false_iff_ne, ByteArray.toList_mk, ByteArray.toList_mk]
  exact h
/-- two texts are one, or not, as the walk spells it -/
theorem str_cases (xs ys : List UInt8) : ∃ Y Z : ByteArray, strV xs = .string Y ∧ strV ys = .string Z ∧ ((xs = ys ∧ Y = Z) ∨ (xs ≠ ys ∧ (Y.toList == Z.toList) = false)) := by
  refine ⟨_, _, rfl, rfl, ?_⟩
  by_cases h : xs = ys
  · exact .inl ⟨h, by rw [h]⟩
  · exact .inr ⟨h, ne_str h⟩
theorem rd_str {w : World} {A : Option Addr} {xs : List (List UInt8)} (h : Rd w A (xs.map strV)) {k : Nat} (hk : k < xs.length) : ∃ ad, A = some ad ∧ w.cell? (ad.add k) = some (strV xs[k]) := by
  have := h k (strV xs[k]) (by rw [List.getElem?_map, List.getElem?_eq_getElem hk]; rfl)
  exact this
def SaysEq (b : Bool) (w : World) (e : Ending) (w' : World) : Prop := e = .returned (.bool b) ∧ Below w.heap.size w w'
set_option maxRecDepth 100000 in
set_option maxHeartbeats 2000000 in
theorem texts_any {w : World} (A : Option Addr) (c : Nat) (xs : List (List UInt8)) (hA : Rd w A (xs.map strV)) (B : Option Addr) (d : Nat) (ys : List (List UInt8)) (hB : Rd w B (ys.map strV)) (h1 : xs.length ≤ 1000000) (h2 : ys.length ≤ 1000000) :
    Calls Tryd.prog 23 #[.slice A xs.length c, .slice B ys.length d] w (SaysEq (decide (xs = ys)) w) := by
  by_cases hl : xs.length = ys.length
  · have hli : (xs.length : Int) = (ys.length : Int) := by omega
    rw [← hl]
    have Hl := Lib.hid hl
    have hn : (xs.length : Int) ≤ 1000000 := by omega
    clear hl hli h2
    go_enter Tryd.func23, Tryd.ntmps23
    go_wp2
    go_loopw [5] (fun i wr => ∃ k : Nat, k ≤ xs.length ∧ i = .int .i64 (k : Int) ∧ xs.take k = ys.take k ∧ Below w.heap.size w wr) (fun i _ => xs.length - (intOf i).toNat)
    case atStart => exact ⟨0, Nat.zero_le _, rfl, by simp, Below.refl _ _⟩
    case round =>
      obtain ⟨k, hk, rfl, heq, hb⟩ := hrel
      have Heq := Lib.hid heq
      clear heq
      by_cases hlt : k < xs.length
      · have hlt2 : k < ys.length := by have := Hl.out; omega
        have hki : (k : Int) < (xs.length : Int) := by omega
        obtain ⟨ad, rfl, q1⟩ := rd_str (hA.ext hb) hlt
        obtain ⟨ad2, rfl, q2⟩ := rd_str (hB.ext hb) hlt2
        obtain ⟨Y, Z, e1, e2, hc⟩ := str_cases xs[k] ys[k]
        rw [e1] at q1
        rw [e2] at q2
        clear e1 e2
        have hk2 : (k : Int) < (ys.length : Int) := by omega
        rcases hc with ⟨he, rfl⟩ | ⟨hne, hf⟩
        · have He := Lib.hid he
          clear he
          go_wp2_with fail
          go_quiet (fail)
          go_wp2
          go_roundw
          case rel => exact ⟨k + 1, by omega, by go_num, by rw [List.take_succ_eq_append_getElem hlt, List.take_succ_eq_append_getElem hlt2, Heq.out, He.out], ext_drewN hb _⟩
          case measure => simp [intOf]; omega
        · have hd : decide (xs = ys) = false := decide_eq_false (fun h => hne (by simp only [h]))
          have Hd := Lib.hid hd
          clear hne hd
          go_wp2_with fail
          go_quiet (fail)
          go_wp2
          go_ret
          exact ⟨by rw [Hd.out]; rfl, ext_drewN hb _⟩
      · obtain rfl : k = xs.length := by omega
        have hd : decide (xs = ys) = true := decide_eq_true (by
          have h3 := Heq.out
          rw [List.take_length, Hl.out, List.take_length] at h3
          exact h3)
        have Hd := Lib.hid hd
        clear hd
        go_wp2
        go_ret
        exact ⟨by rw [Hd.out]; rfl, hb⟩
  · have hd : decide (xs = ys) = false := decide_eq_false (fun h => hl (by rw [h]))
    have hli : ¬ (xs.length : Int) = (ys.length : Int) := by omega
    rw [hd]
    clear hd
    go_enter Tryd.func23, Tryd.ntmps23
    go_wp2
    go_ret
    exact ⟨rfl, Below.refl _ _⟩


/-! ### batches -/
structure Bt where
  first : Int
  lines : List (List UInt8)
def IsBt (w : World) (cs : List Value) (b : Bt) : Prop := isInt b.first ∧ ∃ (B : Option Addr) (c : Nat), cs = [.int .i64 b.first, .slice B b.lines.length c] ∧ b.lines.length ≤ c ∧ c ≤ maxLen ∧ (B = none → c = 0) ∧ Rd w B (b.lines.map strV)
theorem IsBt.lasts : Lasts IsBt := fun _ _ _ _ hb ⟨h0, B, c, h1, h2, h3, h4, h5⟩ => ⟨h0, B, c, h1, h2, h3, h4, h5.ext hb⟩
def lensB (b : Bt) : List Nat := b.lines.map List.length
def bulkB (b : Bt) : Nat := bulkS b.lines + 3
section
variable {H : Type} {enc : TypeId × Value → H} {W : World}
theorem cells_bt : Tryd.prog.cellsOf 24 = 2 := by kernel_rfl
theorem bytes_bt : Tryd.prog.bytesOf 24 = 32 := by kernel_rfl
theorem cellsR_int : Tryd.prog.cellsOf 3 = 1 := by kernel_rfl
theorem cellsR_strs : Tryd.prog.cellsOf 22 = 1 := by kernel_rfl
theorem read_bt {n : Nat} {cs : List Value} {x : DataW H × List MemPlace} (hl : cs.length = 2) (h : DataW.trod enc Tryd.prog W 0 (fun _ => true) true n 24 cs = some x) : ∃ b : Bt, IsBt W cs b ∧ Told 24 x.1 (lensB b) (bulkB b) := by
  obtain ⟨ys, n', hn', rfl, hlen, hyl, hg⟩ := DataW.trod_struct Tryd.underlying24 h
  match cs, hl with
  | [e0, e1], _ =>
    match ys, hyl with
    | [y0, y1], _ =>
      have g0 := hg 0 _ rfl
      have g1 := hg 1 _ rfl
      simp only [cellsR_int, cellsR_strs, List.drop_zero, List.drop_succ_cons, List.take_succ_cons, List.take_zero, List.getElem?_cons_zero, List.getElem?_cons_succ] at g0 g1
      obtain ⟨z0, q0, r0, w0⟩ := DataW.trod_int Tryd.underlying3 g0
      obtain ⟨A, len, cap, l, q1, rfl, h3, h4, h5, h6, h7⟩ := read_strs g1
      injection q0 with q0
      injection q1 with q1
      subst q0 q1
      refine ⟨⟨z0, l⟩, ⟨int_of_wf w0, A, cap, rfl, h3, h4, h5, h6⟩, ⟨fun n hn => ?_, ?_⟩⟩
      · obtain ⟨s, hs, rfl⟩ := List.mem_map.1 hn
        have h0 : cap ≠ 0 := by
          rintro rfl
          rw [List.eq_nil_of_length_eq_zero (by simpa using h3 : l.length = 0)] at hs
          cases hs
        have h8 := h7.each s.length (by rw [if_neg h0]; exact List.mem_cons_of_mem _ (List.mem_flatMap.2 ⟨s, hs, by simp⟩))
        simp only [List.map_cons, List.map_nil]
        simp only [DataW.weights, Tryd.underlying24, DataW.weightsEach, List.map_cons, List.map_nil, List.mem_append]
        exact .inr (.inl h8)
      · have h8 := h7.bulk
        have h9 := rb_one y0.1
        simp only [List.map_cons, List.map_nil]
        rw [rb_agg]
        simp only [List.map_cons, List.map_nil, List.sum_cons, List.sum_nil]
        unfold bulkB
        show bulkS l + 3 ≤ _
        omega
/-- a row of batches as an argument -/
theorem arg_batches {base : Nat} {v : Value} {d : DataW H} {p : List MemPlace} (hv : Value.okWide Tryd.prog W .any base 46 v) (h : DataW.Trod enc Tryd.prog W 0 (fun _ => true) true 46 v d p) :
    ∃ (A : Option Addr) (n c : Nat) (l : List Bt), v = .slice A n c ∧ n = l.length ∧ l.length ≤ c ∧ c ≤ maxLen ∧ RowR IsBt 2 W A l ∧ Told 46 d (if c = 0 then [] else c * 32 :: l.flatMap lensB) ((l.map bulkB).sum + 1) := by
  obtain ⟨a0, len, cap, rfl⟩ := okWide_slice Tryd.underlying46 hv
  obtain ⟨fuel, hf⟩ := h
  obtain ⟨A, len', cap', l, h1, rfl, h3, h4, _, h6, h7⟩ := read_slice IsBt lensB bulkB 32 Tryd.underlying46 cells_bt bytes_bt (by omega) (fun n cs x hl hx => read_bt hl hx) hf
  simp [Value.cells] at h1
  obtain ⟨rfl, rfl, rfl⟩ := h1
  exact ⟨a0, l.length, cap, l, rfl, rfl, h3, h4, h6, h7⟩
end
theorem lens_of {l : List Bt} {c M : Nat} (hc : l.length ≤ c) (h : ∀ n ∈ (if c = 0 then [] else c * 32 :: l.flatMap lensB), n ≤ M) : ∀ b ∈ l, ∀ s ∈ b.lines, s.length ≤ M := fun b hb s hs => by
  have h0 : c ≠ 0 := by
    rintro rfl
    rw [List.eq_nil_of_length_eq_zero (by omega : l.length = 0)] at hb
    cases hb
  exact h _ (by rw [if_neg h0]; exact List.mem_cons_of_mem _ (List.mem_flatMap.2 ⟨b, hb, List.mem_map.2 ⟨s, hs, rfl⟩⟩))
/-- how much batches are, as the laws count -/
def cntL (l : List (List UInt8)) : Nat := (l.map fun s => 1 + s.length).sum
def cntB (l : List Bt) : Nat := (l.map fun b => cntL b.lines).sum
theorem cntL_take (l : List (List UInt8)) {k : Nat} (h : k < l.length) : cntL (l.take (k + 1)) = cntL (l.take k) + (1 + l[k].length) := by
  unfold cntL
  rw [List.take_succ_eq_append_getElem h, List.map_append, List.sum_append]
  simp
theorem cntB_take (l : List Bt) {k : Nat} (h : k < l.length) : cntB (l.take (k + 1)) = cntB (l.take k) + cntL l[k].lines := by
  unfold cntB
  rw [List.take_succ_eq_append_getElem h, List.map_append, List.sum_append]
  simp
theorem cntL_le (l : List (List UInt8)) (k : Nat) : cntL (l.take k) ≤ cntL l := by
  conv => rhs; rw [← List.take_append_drop k l]
  unfold cntL
  rw [List.map_append, List.sum_append]
  omega
theorem cntB_le (l : List Bt) (k : Nat) : cntB (l.take k) ≤ cntB l := by
  conv => rhs; rw [← List.take_append_drop k l]
  unfold cntB
  rw [List.map_append, List.sum_append]
  omega
theorem cntL_len (l : List (List UInt8)) : l.length ≤ cntL l := by
  unfold cntL
  induction l with
  | nil => simp
  | cons a r ih => simp at ih ⊢; omega
theorem cntL_mem {l : List (List UInt8)} {s : List UInt8} (h : s ∈ l) : s.length ≤ cntL l := by
  unfold cntL
  induction l with
  | nil => cases h
  | cons a r ih =>
    rcases List.mem_cons.1 h with rfl | h
    · simp; omega
    · have := ih h; simp at this ⊢; omega

set_option maxHeartbeats 4000000 in
theorem long_any {w : World} (A : Option Addr) (c : Nat) (l : List Bt) (hA : RowR IsBt 2 w A l) (hl : l.length ≤ maxLen) (hs : ∀ b ∈ l, ∀ s ∈ b.lines, s.length ≤ 140737488355328) :
    Calls Tryd.prog 9 #[.slice A l.length c] w fun e w' => e = .returned (.bool (decide (9000 < cntB l))) ∧ w = w' := by
  unfold maxLen at hl
  have hli : (l.length : Int) ≤ 9223372036854775807 := by omega
  clear hl
  go_enter Tryd.func9, Tryd.ntmps9
  go_wp2
  go_loop [3, 4] (fun n i => ∃ k : Nat, k ≤ l.length ∧ i = .int .i64 (k : Int) ∧ n = .int .i64 (cntB (l.take k) : Int) ∧ cntB (l.take k) ≤ 9000) (fun _ i => l.length - (intOf i).toNat)
  case atStart => exact ⟨0, Nat.zero_le _, rfl, rfl, by simp [cntB]⟩
  case round =>
    obtain ⟨k, hk, rfl, rfl, hn⟩ := hrel
    by_cases hlt : k < l.length
    · obtain ⟨g, o, cs, rfl, _, hc, -, B, cb, rfl, hbc, hbm, -, hrd⟩ := hA k hlt
      have hki : (k : Int) < (l.length : Int) := by omega
      have c1 := hc 1 _ rfl
      have hstep := Lib.hid (cntB_take l hlt)
      have htot := Lib.hid (cntB_le l (k + 1))
      have hs1 := Lib.hid (hs l[k] (List.getElem_mem hlt))
      generalize l[k] = b at *
      generalize cntB (l.take k) = N at *
      have hbl : (b.lines.length : Int) ≤ 9223372036854775807 := by unfold maxLen at hbm; omega
      clear hc hbc hbm
      go_wp2
      go_loop [3, 5] (fun n j => ∃ i : Nat, i ≤ b.lines.length ∧ j = .int .i64 (i : Int) ∧ n = .int .i64 ((N + cntL (b.lines.take i) : Nat) : Int) ∧ N + cntL (b.lines.take i) ≤ 9000) (fun _ j => b.lines.length - (intOf j).toNat)
      case atStart => exact ⟨0, Nat.zero_le _, rfl, by simp [cntL], by simp [cntL]; omega⟩
      case round =>
        obtain ⟨i, hi, rfl, rfl, hn2⟩ := hrel
        by_cases hil : i < b.lines.length
        · obtain ⟨ad, rfl, hcell⟩ := rd_str hrd hil
          have hii : (i : Int) < (b.lines.length : Int) := by omega
          have hsl := hs1.out b.lines[i] (List.getElem_mem hil)
          have hst := Lib.hid (cntL_take b.lines hil)
          have hle2 := Lib.hid (cntL_le b.lines (i + 1))
          unfold strV at hcell
          have hz : (⟨b.lines[i].toArray⟩ : ByteArray).size = b.lines[i].length := rfl
          obtain ⟨Z, hZ⟩ : ∃ Z : ByteArray, (⟨b.lines[i].toArray⟩ : ByteArray) = Z := ⟨_, rfl⟩
          rw [hZ] at hcell hz
          obtain ⟨M, hM⟩ : ∃ M, N + cntL (b.lines.take i) = M := ⟨_, rfl⟩
          rw [hM] at hn2 ⊢
          have hzi : (Z.size : Int) ≤ 140737488355328 := by omega
          have Hz := Lib.hid hz
          have HM := Lib.hid hM
          clear hZ hz hM hsl
          have f1 : IntKind.i64.wrap ((M : Int) + 1) = (M : Int) + 1 := IntWalk.i64_in _ (by omega)
          have f2 : IntKind.i64.wrap ((M : Int) + 1 + (Z.size : Int)) = (M : Int) + 1 + (Z.size : Int) := IntWalk.i64_in _ (by omega)
          by_cases hbig : 9000 < (M : Int) + 1 + (Z.size : Int)
          · have hd : decide (9000 < cntB l) = true := decide_eq_true (by
              have h1 := hstep.out
              have h2 := htot.out
              have h3 := hst.out
              have h4 := hle2.out
              have h5 := HM.out
              have h6 := Hz.out
              omega)
            have Hd := Lib.hid hd
            clear hd
            go_wp2
            go_ret
            exact ⟨by rw [Hd.out]; rfl, rfl⟩
          · go_wp2
            go_round
            case rel => exact ⟨i + 1, by omega, by go_num, by rw [hst.out, ← Hz.out]; have := HM.out; exact congrArg (Value.int .i64) (by omega), by rw [hst.out, ← Hz.out]; have := HM.out; omega⟩
            case measure => simp [intOf]; omega
        · obtain rfl : i = b.lines.length := by omega
          rw [List.take_length] at hn2 ⊢
          go_wp2
          go_round
          case rel => exact ⟨k + 1, by omega, by go_num, by rw [hstep.out], by rw [hstep.out]; exact hn2⟩
          case measure => simp [intOf]; omega
    · obtain rfl : k = l.length := by omega
      rw [List.take_length] at hn ⊢
      have hd : decide (9000 < cntB l) = false := decide_eq_false (by omega)
      have Hd := Lib.hid hd
      clear hd
      go_wp2
      go_ret
      exact ⟨by rw [Hd.out]; rfl, rfl⟩
end Go.Proofs.YtbokimeojhkgmaaDoor

/-
  Chain: rows of texts that a call builds; follows; the program's Chain. No statement of the seat is proved here.
-/
namespace Go.Proofs.YtbokimeojhkgmaaDoor
open Go Go.RowKit
set_option maxRecDepth 100000

theorem info_str : (Tryd.prog.info? 9).map (fun i => (i.zero, i.size, i.bytes)) = some (some (.string ⟨#[]⟩), 1, 16) := by kernel_rfl
theorem strVs_one (l : List (List UInt8)) : ∀ u ∈ l.map strV, u.oneCell' = true := by
  intro u hu
  obtain ⟨x, _, rfl⟩ := List.mem_map.1 hu
  rfl
/-- texts in a list of the call's own, which was made between two worlds -/
def NewS (w w' : World) (A : Option Addr) (c : Nat) (l : List (List UInt8)) : Prop := Own w' (fun k => w.heap.size ≤ k ∧ k < w'.heap.size) 9 A c (l.map strV)
section
variable {w w0 w1 w2 : World} {A : Option Addr} {c : Nat} {l m : List (List UInt8)}
theorem NewS.none_ (w w' : World) : NewS w w' none 0 [] := Own.none_ _ _ _
theorem NewS.ext (h : NewS w w1 A c l) (hb : Below w1.heap.size w1 w2) : NewS w w2 A c l := (Own.ext h hb).mono (fun _ hk _ => ⟨hk.1, Nat.lt_of_lt_of_le hk.2 hb.size⟩)
theorem NewS.rd (h : NewS w w1 A c l) : Rd w1 A (l.map strV) := Own.rd h
theorem NewS.back (h : NewS w w1 A c l) (hs : w0.heap.size ≤ w.heap.size) : NewS w0 w1 A c l := Own.mono h (fun _ hk _ => ⟨Nat.le_trans hs hk.1, hk.2⟩)
theorem NewS.grow (hb : Below w.heap.size w w1) (h : Own w2 (More (fun k => w.heap.size ≤ k ∧ k < w1.heap.size) w1 w2) 9 A c (l.map strV ++ m.map strV)) (ho : Only (fun k => w.heap.size ≤ k ∧ k < w1.heap.size) w1 w2) :
    NewS w w2 A c (l ++ m) ∧ Below w.heap.size w w2 := by
  have h1 := hb.size
  have h2 := ho.size
  refine ⟨?_, hb.trans (ho.below (fun _ h => h.1) hb.size)⟩
  unfold NewS
  rw [List.map_append]
  refine h.mono (fun _ hk _ => ?_)
  rcases hk with hk | hk <;> omega
end

/-! ### all lines -/
def lnTo (l : List Bt) (k : Nat) : List (List UInt8) := (l.take k).flatMap Bt.lines
def nLn (l : List Bt) (k : Nat) : Nat := (lnTo l k).length
theorem lnTo_succ (l : List Bt) {k : Nat} (h : k < l.length) : lnTo l (k + 1) = lnTo l k ++ l[k].lines := by
  unfold lnTo
  rw [List.take_succ_eq_append_getElem h, List.flatMap_append]
  simp
theorem nLn_succ (l : List Bt) {k : Nat} (h : k < l.length) : nLn l (k + 1) = nLn l k + l[k].lines.length := by
  unfold nLn
  rw [lnTo_succ l h, List.length_append]
theorem nLn_le (l : List Bt) : ∀ k, nLn l k ≤ cntB (l.take k)
  | 0 => by simp [nLn, lnTo]
  | k + 1 => by
    by_cases h : k < l.length
    · have ih := nLn_le l k
      have h1 := nLn_succ l h
      have h2 := cntB_take l h
      have h3 := cntL_len l[k].lines
      omega
    · have e1 : lnTo l (k + 1) = lnTo l k := by unfold lnTo; rw [List.take_of_length_le (by omega), List.take_of_length_le (by omega)]
      have e2 : l.take (k + 1) = l.take k := by rw [List.take_of_length_le (by omega), List.take_of_length_le (by omega)]
      unfold nLn
      rw [e1, e2]
      exact nLn_le l k
/-- each begins where the ones ahead end, up to number k -/
def Chn (fr : Int) (l : List Bt) (k : Nat) : Prop := ∀ (j : Nat) (h : j < l.length), j < k → l[j].first = fr + (nLn l j : Int)
theorem Chn.zero (fr : Int) (l : List Bt) : Chn fr l 0 := fun j _ h => absurd h (by omega)
theorem Chn.succ {fr : Int} {l : List Bt} {k : Nat} (h : Chn fr l k) (hk : k < l.length) (he : l[k].first = fr + (nLn l k : Int)) : Chn fr l (k + 1) := fun j hj hl => by
  rcases Nat.lt_succ_iff_lt_or_eq.1 hl with h1 | rfl
  · exact h j hj h1
  · exact he
open Classical in
/-- what Chain says -/
noncomputable def chainB (fr : Int) (l : List Bt) : List (List UInt8) × Bool := if Chn fr l l.length then (lnTo l l.length, true) else ([], false)
theorem chainB_yes {fr : Int} {l : List Bt} (h : Chn fr l l.length) : chainB fr l = (lnTo l l.length, true) := if_pos h
theorem chainB_no {fr : Int} {l : List Bt} {k : Nat} (hk : k < l.length) (he : l[k].first ≠ fr + (nLn l k : Int)) : chainB fr l = ([], false) := if_neg (fun h => he (h k hk hk))

set_option maxHeartbeats 2000000 in
theorem follows_any (a b : Int) (A B : Option Addr) (n m c d : Nat) (w : World) (ha : 0 ≤ a) (ha2 : a ≤ 2199023255552) (hb : isInt b) (hn : n ≤ 9000) :
    Calls Tryd.prog 42 #[.agg #[.int .i64 a, .slice A n c], .agg #[.int .i64 b, .slice B m d]] w fun e w' => e = .returned (.bool (decide (b = a + (n : Int)))) ∧ Below w.heap.size w w' := by
  obtain ⟨hb1, hb2⟩ := hb
  have hx : Below w.heap.size w ((w.alloc (.cells #[.int .i64 a, .slice A n c] 24)).alloc (.cells #[.int .i64 b, .slice B m d] 24)) := ((Below.refl _ _).alloc (Nat.le_refl _) _).alloc (by simp) _
  have Hx := Lib.hid hx
  clear hx
  by_cases h : a ≤ b
  · have f1 : IntKind.u64.wrap b = b := by rw [IntKind.wrap_u64]; omega
    have f2 : IntKind.u64.wrap a = a := by rw [IntKind.wrap_u64]; omega
    have f3 : IntKind.u64.wrap (b - a) = b - a := by rw [IntKind.wrap_u64]; omega
    have f4 : IntKind.u64.wrap (n : Int) = (n : Int) := by rw [IntKind.wrap_u64]; omega
    by_cases he : b = a + (n : Int)
    · have f5 : (b - a == (n : Int)) = true := beq_iff_eq.2 (by omega)
      have Hd : Hid (decide (b = a + (n : Int)) = true) := Lib.hid (decide_eq_true he)
      clear he
      go_enter Tryd.func42, Tryd.ntmps42
      go_wp2
      go_ret
      exact ⟨by rw [Hd.out]; rfl, Hx.out⟩
    · have f5 : (b - a == (n : Int)) = false := beq_eq_false_iff_ne.2 (by omega)
      have Hd : Hid (decide (b = a + (n : Int)) = false) := Lib.hid (decide_eq_false he)
      clear he
      go_enter Tryd.func42, Tryd.ntmps42
      go_wp2
      go_ret
      exact ⟨by rw [Hd.out]; rfl, Hx.out⟩
  · have h2 : b < a := by omega
    have Hd : Hid (decide (b = a + (n : Int)) = false) := Lib.hid (decide_eq_false (by omega))
    clear h
    go_enter Tryd.func42, Tryd.ntmps42
    go_wp2
    go_ret
    exact ⟨by rw [Hd.out]; rfl, Hx.out⟩
end Go.Proofs.YtbokimeojhkgmaaDoor

/-
  Chain, the program's. No statement of the seat is proved here.
-/
namespace Go.Proofs.YtbokimeojhkgmaaDoor
open Go Go.RowKit
set_option maxRecDepth 100000

set_option maxHeartbeats 8000000 in
theorem chain_any (fr : Int) (A : Option Addr) (c : Nat) (l : List Bt) (w : World) (hf0 : 0 ≤ fr) (hf1 : fr ≤ 1099511627776) (hA : RowR IsBt 2 w A l) (hl : l.length ≤ 30) (hc : cntB l ≤ 9000) :
    Calls Tryd.prog 21 #[.int .i64 fr, .slice A l.length c] w fun e w' => ∃ A' c', e = .returned (.tuple #[.slice A' (chainB fr l).1.length c', .bool (chainB fr l).2]) ∧ NewS w w' A' c' (chainB fr l).1 ∧ Below w.heap.size w w' := by
  go_enter Tryd.func21, Tryd.ntmps21
  go_wp2
  go_loopw [6, 11] (fun s i wr => ∃ (k : Nat) (A1 : Option Addr) (c1 : Nat), k ≤ l.length ∧ i = .int .i64 (k : Int) ∧ s = .slice A1 (nLn l k) c1 ∧ NewS w wr A1 c1 (lnTo l k) ∧ Chn fr l k ∧ Below w.heap.size w wr) (fun _ i _ => l.length - (intOf i).toNat)
  case atStart => exact ⟨0, none, 0, Nat.zero_le _, rfl, rfl, NewS.none_ _ _, Chn.zero _ _, Below.refl _ _⟩
  case round =>
    obtain ⟨k, A1, c1, hk, rfl, rfl, hN, hchn, hb⟩ := hrel
    have Hb := Lib.hid hb
    have HN := Lib.hid hN
    by_cases hlt : k < l.length
    · have hki : (k : Int) < (l.length : Int) := by omega
      have hA2 := hA.ext IsBt.lasts hb
      obtain ⟨g, o, cs, eA, -, hcc, hbi, B, cb, rfl, hbc, hbm, -, hrd⟩ := hA2 k hlt
      have e0 := hcc 0 _ rfl
      have e1 := hcc 1 _ rfl
      rw [Nat.add_zero] at e0
      have Hsn := Lib.hid (nLn_succ l hlt)
      have Hsl := Lib.hid (lnTo_succ l hlt)
      have Hs1 := Lib.hid (nLn_le l k)
      have Hs2 := Lib.hid (nLn_le l (k + 1))
      have Hs3 := Lib.hid (cntB_le l k)
      have Hs4 := Lib.hid (cntB_le l (k + 1))
      have hn9 : nLn l k ≤ 9000 := by have := Hs1.out; have := Hs3.out; omega
      have hk9 : nLn l k + l[k].lines.length ≤ 9000 := by have := Hs2.out; have := Hs4.out; have := Hsn.out; omega
      have hk1 : nLn l k + l[k].lines.length ≤ maxLen := by unfold maxLen; omega
      have hk2 : (nLn l k + l[k].lines.length) * 16 ≤ 140737488355328 := by omega
      have Hrd := Lib.hid hrd
      have Hbi := Lib.hid hbi
      obtain ⟨w1, hw1⟩ : ∃ w1, w1 = wr.alloc (.cells #[.int .i64 l[k].first, .slice B l[k].lines.length cb] 24) := ⟨_, rfl⟩
      have HE0 : Hid (Below wr.heap.size wr w1) := Lib.hid (by rw [hw1]; exact (Below.refl _ _).alloc (Nat.le_refl _) _)
      have HB1 : Hid (Blk w1 wr.heap.size 24 #[.int .i64 l[k].first, .slice B l[k].lines.length cb]) := Lib.hid (by rw [hw1]; exact Blk.new _ _ _)
      have Hw1 := Lib.hid hw1
      have hgood : l[k].first = fr + (nLn l k : Int) → Chn fr l (k + 1) := fun h => hchn.succ hlt h
      have hbad : l[k].first ≠ fr + (nLn l k : Int) → chainB fr l = ([], false) := fun h => chainB_no hlt h
      have Hgood := Lib.hid hgood
      have Hbad := Lib.hid hbad
      have Hc := Lib.hid hchn
      clear hgood hbad hchn
      generalize l[k] = b at *
      subst eA
      clear hA2 hbm hcc hN hb hrd hw1 hk9 hn9
      by_cases hk0 : k = 0
      · subst hk0
        have hz : nLn l 0 = 0 := rfl
        have hb1 := HB1.out.cell 0
        have hb2 := HB1.out.cell 1
        simp only [List.getElem?_toArray, List.getElem?_cons_zero, List.getElem?_cons_succ] at hb1 hb2
        rw [Hw1.out] at hb1 hb2
        simp only [Nat.zero_mul, Nat.add_zero] at e0 e1
        clear hbc hbi hlt hk
        have HQ : Hid (∀ n, Below wr.heap.size wr ((wr.alloc (.cells #[.int .i64 b.first, .slice B b.lines.length cb] 24)).drewN n)) := Lib.hid (fun n => ext_drewN ((Below.refl _ _).alloc (Nat.le_refl _) _) n)
        by_cases he : b.first = fr
        · have hen : (b.first == fr) = true := beq_iff_eq.2 he
          have henn : (b.first != fr) = false := by simp [he]
          have Hchn := Lib.hid (Hgood.out (by rw [he, hz]; simp))
          clear he hz
          go_wp2
          go_quiet (fail)
          go_wp2_with (at_builtin
                       refine wpList_app _ rfl (.tmp 38) (.tmp 40) _ rfl _ _ 16 Tryd.underlying22 info_str rfl A1 (nLn l 0) c1 _ rfl ?_ (HN.out.ext (HQ.out _)) B b.lines.length cb (b.lines.map strV) rfl ?_ (Hrd.out.ext (HQ.out _)) (strVs_one _) hk1 hk2 ?_
                       · rw [List.length_map]; rfl
                       · rw [List.length_map]
                       intro A2 c2 w2 hown2 honly2)
          go_roundw
          case rel =>
            obtain ⟨g1, g2⟩ := NewS.grow (ext_trans Hb.out (HQ.out _)) hown2 honly2
            exact ⟨0 + 1, A2, c2, by omega, by go_num, by rw [Hsn.out], by rw [Hsl.out]; exact g1, Hchn.out, g2⟩
          case measure => simp [intOf]; omega
        · have hen : (b.first == fr) = false := beq_eq_false_iff_ne.2 he
          have henn : (b.first != fr) = true := by simp [he]
          have Hno := Lib.hid (Hbad.out (by rw [hz]; simpa using he))
          clear he hz
          go_wp2
          go_quiet (fail)
          go_wp2
          go_ret2
          rw [Hno.out]
          exact ⟨none, 0, rfl, NewS.none_ _ _, ext_trans Hb.out (HQ.out _)⟩
      · obtain ⟨m, hkm⟩ : ∃ m, k = m + 1 := ⟨k - 1, by omega⟩
        have hm : m < l.length := by omega
        obtain ⟨g', o', cs', eA', -, hcc', -, A0, d0, rfl, -, -, -, -⟩ := (hA.ext IsBt.lasts Hb.out) m hm
        injection eA' with eA'
        injection eA' with eg eo _
        subst eg eo
        have p0 := hcc' 0 _ rfl
        have p1 := hcc' 1 _ rfl
        rw [Nat.add_zero] at p0
        have hfm := Hc.out m hm (by omega)
        have hsm := nLn_succ l hm
        rw [← hkm] at hsm
        have hnm : nLn l m ≤ 9000 := by have := nLn_le l m; have := cntB_le l m; omega
        have hnm2 : nLn l k ≤ 9000 := by have := Hs1.out; have := Hs3.out; omega
        obtain ⟨a0, ha⟩ : ∃ a, l[m].first = a := ⟨_, rfl⟩
        obtain ⟨n0, hn⟩ : ∃ n, l[m].lines.length = n := ⟨_, rfl⟩
        rw [ha] at p0 hfm
        rw [hn] at p1 hsm
        have ha0 : 0 ≤ a0 := by omega
        have ha1 : a0 ≤ 2199023255552 := by omega
        have hn0 : n0 ≤ 9000 := by omega
        have hmi : (m : Int) < (l.length : Int) := by omega
        have f1 : IntKind.i64.wrap ((k : Int) - 1) = (m : Int) := by rw [show (k : Int) - 1 = (m : Int) by omega]; exact IntWalk.i64_in _ (by omega)
        have f2 : ((k : Int) == 0) = false := beq_eq_false_iff_ne.2 (by omega)
        have f3 : decide ((0 : Int) < (k : Int)) = true := decide_eq_true (by omega)
        have f4 : decide (0 < k) = true := decide_eq_true (by omega)
        have hb1 := HB1.out.cell 0
        have hb2 := HB1.out.cell 1
        simp only [List.getElem?_toArray, List.getElem?_cons_zero, List.getElem?_cons_succ] at hb1 hb2
        have HS : Hid (∀ W, Below (wr.alloc (.cells #[.int .i64 b.first, .slice B b.lines.length cb] 24)).heap.size (wr.alloc (.cells #[.int .i64 b.first, .slice B b.lines.length cb] 24)) W → (W.cell? ⟨g, o + m * 2, none⟩ = some (.int .i64 a0) ∧ W.cell? ⟨g, o + m * 2 + 1, none⟩ = some (.slice A0 n0 d0) ∧ W.cell? ⟨wr.heap.size, 0, none⟩ = some (.int .i64 b.first) ∧ W.cell? ⟨wr.heap.size, 1, none⟩ = some (.slice B b.lines.length cb))) := Lib.hid (fun W h2 => by
          rw [← Hw1.out] at h2
          have h1 := ext_trans HE0.out h2
          have q1 := World.block_lt_of_cell? wr _ p0
          have q2 := World.block_lt_of_cell? w1 _ hb1
          exact ⟨(World.cell?_of_block (a := ⟨g, o + m * 2, none⟩) (h1.block _ q1)).trans p0, (World.cell?_of_block (a := ⟨g, o + m * 2 + 1, none⟩) (h1.block _ q1)).trans p1, (World.cell?_of_block (a := ⟨wr.heap.size, 0, none⟩) (h2.block _ q2)).trans hb1, (World.cell?_of_block (a := ⟨wr.heap.size, 1, none⟩) (h2.block _ q2)).trans hb2⟩)
        have Hab : Hid (∀ v : Bool, decide (b.first = a0 + (n0 : Int)) = v → (v = true → b.first = fr + (nLn l k : Int)) ∧ (v = false → b.first ≠ fr + (nLn l k : Int))) := Lib.hid (fun v hv => by
          have e : a0 + (n0 : Int) = fr + (nLn l k : Int) := by omega
          rw [e] at hv
          subst hv
          exact ⟨fun h => of_decide_eq_true h, fun h => of_decide_eq_false h⟩)
        have HX : Hid (∀ W, Below (wr.alloc (.cells #[.int .i64 b.first, .slice B b.lines.length cb] 24)).heap.size (wr.alloc (.cells #[.int .i64 b.first, .slice B b.lines.length cb] 24)) W → Below wr.heap.size wr W) := Lib.hid (fun W h => by rw [← Hw1.out] at h; exact ext_trans HE0.out h)
        obtain ⟨v, hv⟩ : ∃ v, decide (b.first = a0 + (n0 : Int)) = v := ⟨_, rfl⟩
        have HF : Hid (∀ W, Calls Tryd.prog 42 #[.agg #[.int .i64 a0, .slice A0 n0 d0], .agg #[.int .i64 b.first, .slice B b.lines.length cb]] W fun e w' => e = .returned (.bool v) ∧ Below W.heap.size W w') := Lib.hid (fun W => by
          rw [← hv]
          exact follows_any a0 b.first A0 B n0 b.lines.length d0 cb W ha0 ha1 Hbi.out hn0)
        obtain ⟨hv1, hv2⟩ := Hab.out v hv
        clear hfm hsm hnm hnm2 ha hn hb1 hb2 p0 p1 hcc' hbc hbi hlt hk hA hv ha0 ha1 hn0 hkm hm hk0
        go_wp2_with fail
        cases v with
        | true =>
          have Hchn := Lib.hid (Hgood.out (hv1 rfl))
          clear hv1 hv2
          refine wp_region_held_drew (S := fun W => W.cell? ⟨g, o + m * 2, none⟩ = some (.int .i64 a0) ∧ W.cell? ⟨g, o + m * 2 + 1, none⟩ = some (.slice A0 n0 d0) ∧ W.cell? ⟨wr.heap.size, 0, none⟩ = some (.int .i64 b.first) ∧ W.cell? ⟨wr.heap.size, 1, none⟩ = some (.slice B b.lines.length cb)) (by kernel_rfl) ?_ (fun hHeld => ?_)
          · exact HS.out _ (by first | exact HE.out | (repeat (first | exact Below.refl _ _ | apply ext_drew | apply ext_drewN)))
          refine wpAnyH_take (i := 0) (v := ?_) (take_list rfl) (by kernel_rfl) (by kernel_rfl) (by kernel_rfl) (fun _ _ _ h => h) (Or.inl ⟨by rfl, ?_⟩) (by assumption) ?_
          rotate_left
          · intro w hSw
            try dsimp only at hSw
            first | (go_simp; done) | (go_simp; with_reducible rfl)
          try simp only [Act.put, List.setIfInBounds_toArray, List.set_cons_zero, List.set_cons_succ]
          refine wpAnyH_take (i := 1) (v := ?_) (take_list rfl) (by kernel_rfl) (by kernel_rfl) (by kernel_rfl) (fun _ _ _ h => h) (Or.inl ⟨by rfl, ?_⟩) (by assumption) ?_
          rotate_left
          · intro w hSw
            try dsimp only at hSw
            first | (go_simp; done) | (go_simp; with_reducible rfl)
          try simp only [Act.put, List.setIfInBounds_toArray, List.set_cons_zero, List.set_cons_succ]
          refine wpAnyH_take (i := 2) (v := ?_) (take_list rfl) (by kernel_rfl) (by kernel_rfl) (by kernel_rfl) (fun _ _ _ h => h) (Or.inl ⟨by rfl, ?_⟩) (by assumption) ?_
          rotate_left
          · intro w hSw
            try dsimp only at hSw
            first | (go_simp; done) | (go_simp; with_reducible rfl)
          try simp only [Act.put, List.setIfInBounds_toArray, List.set_cons_zero, List.set_cons_succ]
          refine wpAnyH_take (i := 3) (v := undef) (take_list rfl) (by kernel_rfl) (by kernel_rfl) (by kernel_rfl) (fun _ _ _ h => h) (Or.inr ⟨by rfl, rfl⟩) (by assumption) ?_
          try simp only [Act.put, List.setIfInBounds_toArray, List.set_cons_zero, List.set_cons_succ]
          refine wpAnyH_take (i := 4) (v := undef) (take_list rfl) (by kernel_rfl) (by kernel_rfl) (by kernel_rfl) (fun _ _ _ h => h) (Or.inr ⟨by rfl, rfl⟩) (by assumption) ?_
          try simp only [Act.put, List.setIfInBounds_toArray, List.set_cons_zero, List.set_cons_succ]
          refine wpAnyH_take (i := 5) (v := undef) (take_list rfl) (by kernel_rfl) (by kernel_rfl) (by kernel_rfl) (fun _ _ _ h => h) (Or.inr ⟨by rfl, rfl⟩) (by assumption) ?_
          try simp only [Act.put, List.setIfInBounds_toArray, List.set_cons_zero, List.set_cons_succ]
          refine wpAnyH_take (i := 6) (v := undef) (take_list rfl) (by kernel_rfl) (by kernel_rfl) (by kernel_rfl) (fun _ _ _ h => h) (Or.inr ⟨by rfl, rfl⟩) (by assumption) ?_
          try simp only [Act.put, List.setIfInBounds_toArray, List.set_cons_zero, List.set_cons_succ]
          refine wpAnyH_take (i := 7) (v := ?_) (take_list rfl) (by kernel_rfl) (by kernel_rfl) (by kernel_rfl) (fun _ _ _ h => h) (Or.inl ⟨by rfl, ?_⟩) (by assumption) ?_
          rotate_left
          · intro w hSw
            try dsimp only at hSw
            first | (go_simp; done) | (go_simp; with_reducible rfl)
          try simp only [Act.put, List.setIfInBounds_toArray, List.set_cons_zero, List.set_cons_succ]
          refine wpAnyH_take (i := 8) (v := ?_) (take_list rfl) (by kernel_rfl) (by kernel_rfl) (by kernel_rfl) (fun _ _ _ h => h) (Or.inl ⟨by rfl, ?_⟩) (by assumption) ?_
          rotate_left
          · intro w hSw
            try dsimp only at hSw
            first | (go_simp; done) | (go_simp; with_reducible rfl)
          try simp only [Act.put, List.setIfInBounds_toArray, List.set_cons_zero, List.set_cons_succ]
          refine wpAnyH_take (i := 9) (v := ?_) (take_list rfl) (by kernel_rfl) (by kernel_rfl) (by kernel_rfl) (fun _ _ _ h => h) (Or.inl ⟨by rfl, ?_⟩) (by assumption) ?_
          rotate_left
          · intro w hSw
            try dsimp only at hSw
            first | (go_simp; done) | (go_simp; with_reducible rfl)
          try simp only [Act.put, List.setIfInBounds_toArray, List.set_cons_zero, List.set_cons_succ]
          refine wpAnyH_take (i := 10) (v := ?_) (take_list rfl) (by kernel_rfl) (by kernel_rfl) (by kernel_rfl) (fun _ _ _ h => h) (Or.inl ⟨by rfl, ?_⟩) (by assumption) ?_
          rotate_left
          · intro w hSw
            try dsimp only at hSw
            first | (go_simp; done) | (go_simp; with_reducible rfl)
          try simp only [Act.put, List.setIfInBounds_toArray, List.set_cons_zero, List.set_cons_succ]
          refine wpAnyH_take (i := 11) (v := ?_) (take_list rfl) (by kernel_rfl) (by kernel_rfl) (by kernel_rfl) (fun _ _ _ h => h) (Or.inl ⟨by rfl, ?_⟩) (by assumption) ?_
          rotate_left
          · intro w hSw
            try dsimp only at hSw
            first | (go_simp; done) | (go_simp; with_reducible rfl)
          try simp only [Act.put, List.setIfInBounds_toArray, List.set_cons_zero, List.set_cons_succ]
          refine wpAnyH_take (i := 12) (v := ?_) (take_list rfl) (by kernel_rfl) (by kernel_rfl) (by kernel_rfl) (fun _ _ _ h => h) (Or.inl ⟨by rfl, ?_⟩) (by assumption) ?_
          rotate_left
          · intro w hSw
            try dsimp only at hSw
            first | (go_simp; done) | (go_simp; with_reducible rfl)
          try simp only [Act.put, List.setIfInBounds_toArray, List.set_cons_zero, List.set_cons_succ]
          refine wpAnyH_take (i := 13) (v := ?_) (take_list rfl) (by kernel_rfl) (by kernel_rfl) (by kernel_rfl) (fun _ _ _ h => h) (Or.inl ⟨by rfl, ?_⟩) (by assumption) ?_
          rotate_left
          · intro w hSw
            try dsimp only at hSw
            first | (go_simp; done) | (go_simp; with_reducible rfl)
          try simp only [Act.put, List.setIfInBounds_toArray, List.set_cons_zero, List.set_cons_succ]
          refine wpAnyH_take (i := 14) (v := ?_) (take_list rfl) (by kernel_rfl) (by kernel_rfl) (by kernel_rfl) (fun _ _ _ h => h) (Or.inl ⟨by rfl, ?_⟩) (by assumption) ?_
          rotate_left
          · intro w hSw
            try dsimp only at hSw
            first | (go_simp; done) | (go_simp; with_reducible rfl)
          try simp only [Act.put, List.setIfInBounds_toArray, List.set_cons_zero, List.set_cons_succ]
          refine wpAnyH_take (i := 15) (v := ?_) (take_list rfl) (by kernel_rfl) (by kernel_rfl) (by kernel_rfl) (fun _ _ _ h => h) (Or.inl ⟨by rfl, ?_⟩) (by assumption) ?_
          rotate_left
          · intro w hSw
            try dsimp only at hSw
            first | (go_simp; done) | (go_simp; with_reducible rfl)
          try simp only [Act.put, List.setIfInBounds_toArray, List.set_cons_zero, List.set_cons_succ]
          refine wpAnyH_take (i := 16) (v := ?_) (take_list rfl) (by kernel_rfl) (by kernel_rfl) (by kernel_rfl) (fun _ _ _ h => h) (Or.inl ⟨by rfl, ?_⟩) (by assumption) ?_
          rotate_left
          · intro w hSw
            try dsimp only at hSw
            first | (go_simp; done) | (go_simp; with_reducible rfl)
          try simp only [Act.put, List.setIfInBounds_toArray, List.set_cons_zero, List.set_cons_succ]
          refine wpAnyH_take (i := 17) (v := ?_) (take_list rfl) (by kernel_rfl) (by kernel_rfl) (by kernel_rfl) (fun _ _ _ h => h) (Or.inl ⟨by rfl, ?_⟩) (by assumption) ?_
          rotate_left
          · intro w hSw
            try dsimp only at hSw
            first | (go_simp; done) | (go_simp; with_reducible rfl)
          try simp only [Act.put, List.setIfInBounds_toArray, List.set_cons_zero, List.set_cons_succ]
          refine wpAnyH_ready (rs := [18]) (by kernel_rfl) (by simp) ?_
          refine AllReadyH.cons (take_list rfl) (fun K hK => ?_) ?_
          · skip
            go_simp
            refine (HF.out _).mono ?_
            rintro e x1 ⟨rfl, hbx'⟩
            dsimp only
            have HE : Hid (Below (wr.alloc (.cells #[.int .i64 b.first, .slice B b.lines.length cb] 24)).heap.size (wr.alloc (.cells #[.int .i64 b.first, .slice B b.lines.length cb] 24)) x1) := Lib.hid (ext_trans (by repeat (first | exact Below.refl _ _ | apply ext_drew | apply ext_drewN)) hbx')
            refine hK.out _ _ ?_ (fun hHeld => ?_)
            · try dsimp only
              exact HS.out _ (by first | exact HE.out | (repeat (first | exact Below.refl _ _ | apply ext_drew | apply ext_drewN)))
            clear hK K
            refine wpAnyH_take (i := 19) (v := ?_) (take_list rfl) (by kernel_rfl) (by kernel_rfl) (by kernel_rfl) (fun _ _ _ h => h) (Or.inl ⟨by rfl, ?_⟩) (by assumption) ?_
            rotate_left
            · intro w hSw
              try dsimp only at hSw
              first | (go_simp; done) | (go_simp; with_reducible rfl)
            try simp only [Act.put, List.setIfInBounds_toArray, List.set_cons_zero, List.set_cons_succ]
            refine wpAnyH_take (i := 20) (v := ?_) (take_list rfl) (by kernel_rfl) (by kernel_rfl) (by kernel_rfl) (fun _ _ _ h => h) (Or.inl ⟨by rfl, ?_⟩) (by assumption) ?_
            rotate_left
            · intro w hSw
              try dsimp only at hSw
              first | (go_simp; done) | (go_simp; with_reducible rfl)
            try simp only [Act.put, List.setIfInBounds_toArray, List.set_cons_zero, List.set_cons_succ]
            refine wpAnyH_take (i := 21) (v := ?_) (take_list rfl) (by kernel_rfl) (by kernel_rfl) (by kernel_rfl) (fun _ _ _ h => h) (Or.inl ⟨by rfl, ?_⟩) (by assumption) ?_
            rotate_left
            · intro w hSw
              try dsimp only at hSw
              first | (go_simp; done) | (go_simp; with_reducible rfl)
            try simp only [Act.put, List.setIfInBounds_toArray, List.set_cons_zero, List.set_cons_succ]
            refine wpAnyH_done (by kernel_rfl) ?_ _
            go_wp2_with (at_builtin
                         refine wpList_app _ rfl (.tmp 38) (.tmp 40) _ rfl _ _ 16 Tryd.underlying22 info_str rfl A1 (nLn l k) c1 _ rfl ?_ (HN.out.ext (HX.out _ HE.out)) B b.lines.length cb (b.lines.map strV) rfl ?_ (Hrd.out.ext (HX.out _ HE.out)) (strVs_one _) hk1 hk2 ?_
                         · rw [List.length_map]; rfl
                         · rw [List.length_map]
                         intro A2 c2 w2 hown2 honly2)
            go_roundw
            case rel =>
              obtain ⟨g1, g2⟩ := NewS.grow (ext_trans Hb.out (HX.out _ HE.out)) hown2 honly2
              exact ⟨k + 1, A2, c2, by omega, by go_num, by rw [Hsn.out], by rw [Hsl.out]; exact g1, Hchn.out, g2⟩
            case measure => simp [intOf]; omega
          exact AllReadyH.nil
        | false =>
          have Hno := Lib.hid (Hbad.out (hv2 rfl))
          clear hv1 hv2
          refine wp_region_held_drew (S := fun W => W.cell? ⟨g, o + m * 2, none⟩ = some (.int .i64 a0) ∧ W.cell? ⟨g, o + m * 2 + 1, none⟩ = some (.slice A0 n0 d0) ∧ W.cell? ⟨wr.heap.size, 0, none⟩ = some (.int .i64 b.first) ∧ W.cell? ⟨wr.heap.size, 1, none⟩ = some (.slice B b.lines.length cb)) (by kernel_rfl) ?_ (fun hHeld => ?_)
          · exact HS.out _ (by first | exact HE.out | (repeat (first | exact Below.refl _ _ | apply ext_drew | apply ext_drewN)))
          refine wpAnyH_take (i := 0) (v := ?_) (take_list rfl) (by kernel_rfl) (by kernel_rfl) (by kernel_rfl) (fun _ _ _ h => h) (Or.inl ⟨by rfl, ?_⟩) (by assumption) ?_
          rotate_left
          · intro w hSw
            try dsimp only at hSw
            first | (go_simp; done) | (go_simp; with_reducible rfl)
          try simp only [Act.put, List.setIfInBounds_toArray, List.set_cons_zero, List.set_cons_succ]
          refine wpAnyH_take (i := 1) (v := ?_) (take_list rfl) (by kernel_rfl) (by kernel_rfl) (by kernel_rfl) (fun _ _ _ h => h) (Or.inl ⟨by rfl, ?_⟩) (by assumption) ?_
          rotate_left
          · intro w hSw
            try dsimp only at hSw
            first | (go_simp; done) | (go_simp; with_reducible rfl)
          try simp only [Act.put, List.setIfInBounds_toArray, List.set_cons_zero, List.set_cons_succ]
          refine wpAnyH_take (i := 2) (v := ?_) (take_list rfl) (by kernel_rfl) (by kernel_rfl) (by kernel_rfl) (fun _ _ _ h => h) (Or.inl ⟨by rfl, ?_⟩) (by assumption) ?_
          rotate_left
          · intro w hSw
            try dsimp only at hSw
            first | (go_simp; done) | (go_simp; with_reducible rfl)
          try simp only [Act.put, List.setIfInBounds_toArray, List.set_cons_zero, List.set_cons_succ]
          refine wpAnyH_take (i := 3) (v := undef) (take_list rfl) (by kernel_rfl) (by kernel_rfl) (by kernel_rfl) (fun _ _ _ h => h) (Or.inr ⟨by rfl, rfl⟩) (by assumption) ?_
          try simp only [Act.put, List.setIfInBounds_toArray, List.set_cons_zero, List.set_cons_succ]
          refine wpAnyH_take (i := 4) (v := undef) (take_list rfl) (by kernel_rfl) (by kernel_rfl) (by kernel_rfl) (fun _ _ _ h => h) (Or.inr ⟨by rfl, rfl⟩) (by assumption) ?_
          try simp only [Act.put, List.setIfInBounds_toArray, List.set_cons_zero, List.set_cons_succ]
          refine wpAnyH_take (i := 5) (v := undef) (take_list rfl) (by kernel_rfl) (by kernel_rfl) (by kernel_rfl) (fun _ _ _ h => h) (Or.inr ⟨by rfl, rfl⟩) (by assumption) ?_
          try simp only [Act.put, List.setIfInBounds_toArray, List.set_cons_zero, List.set_cons_succ]
          refine wpAnyH_take (i := 6) (v := undef) (take_list rfl) (by kernel_rfl) (by kernel_rfl) (by kernel_rfl) (fun _ _ _ h => h) (Or.inr ⟨by rfl, rfl⟩) (by assumption) ?_
          try simp only [Act.put, List.setIfInBounds_toArray, List.set_cons_zero, List.set_cons_succ]
          refine wpAnyH_take (i := 7) (v := ?_) (take_list rfl) (by kernel_rfl) (by kernel_rfl) (by kernel_rfl) (fun _ _ _ h => h) (Or.inl ⟨by rfl, ?_⟩) (by assumption) ?_
          rotate_left
          · intro w hSw
            try dsimp only at hSw
            first | (go_simp; done) | (go_simp; with_reducible rfl)
          try simp only [Act.put, List.setIfInBounds_toArray, List.set_cons_zero, List.set_cons_succ]
          refine wpAnyH_take (i := 8) (v := ?_) (take_list rfl) (by kernel_rfl) (by kernel_rfl) (by kernel_rfl) (fun _ _ _ h => h) (Or.inl ⟨by rfl, ?_⟩) (by assumption) ?_
          rotate_left
          · intro w hSw
            try dsimp only at hSw
            first | (go_simp; done) | (go_simp; with_reducible rfl)
          try simp only [Act.put, List.setIfInBounds_toArray, List.set_cons_zero, List.set_cons_succ]
          refine wpAnyH_take (i := 9) (v := ?_) (take_list rfl) (by kernel_rfl) (by kernel_rfl) (by kernel_rfl) (fun _ _ _ h => h) (Or.inl ⟨by rfl, ?_⟩) (by assumption) ?_
          rotate_left
          · intro w hSw
            try dsimp only at hSw
            first | (go_simp; done) | (go_simp; with_reducible rfl)
          try simp only [Act.put, List.setIfInBounds_toArray, List.set_cons_zero, List.set_cons_succ]
          refine wpAnyH_take (i := 10) (v := ?_) (take_list rfl) (by kernel_rfl) (by kernel_rfl) (by kernel_rfl) (fun _ _ _ h => h) (Or.inl ⟨by rfl, ?_⟩) (by assumption) ?_
          rotate_left
          · intro w hSw
            try dsimp only at hSw
            first | (go_simp; done) | (go_simp; with_reducible rfl)
          try simp only [Act.put, List.setIfInBounds_toArray, List.set_cons_zero, List.set_cons_succ]
          refine wpAnyH_take (i := 11) (v := ?_) (take_list rfl) (by kernel_rfl) (by kernel_rfl) (by kernel_rfl) (fun _ _ _ h => h) (Or.inl ⟨by rfl, ?_⟩) (by assumption) ?_
          rotate_left
          · intro w hSw
            try dsimp only at hSw
            first | (go_simp; done) | (go_simp; with_reducible rfl)
          try simp only [Act.put, List.setIfInBounds_toArray, List.set_cons_zero, List.set_cons_succ]
          refine wpAnyH_take (i := 12) (v := ?_) (take_list rfl) (by kernel_rfl) (by kernel_rfl) (by kernel_rfl) (fun _ _ _ h => h) (Or.inl ⟨by rfl, ?_⟩) (by assumption) ?_
          rotate_left
          · intro w hSw
            try dsimp only at hSw
            first | (go_simp; done) | (go_simp; with_reducible rfl)
          try simp only [Act.put, List.setIfInBounds_toArray, List.set_cons_zero, List.set_cons_succ]
          refine wpAnyH_take (i := 13) (v := ?_) (take_list rfl) (by kernel_rfl) (by kernel_rfl) (by kernel_rfl) (fun _ _ _ h => h) (Or.inl ⟨by rfl, ?_⟩) (by assumption) ?_
          rotate_left
          · intro w hSw
            try dsimp only at hSw
            first | (go_simp; done) | (go_simp; with_reducible rfl)
          try simp only [Act.put, List.setIfInBounds_toArray, List.set_cons_zero, List.set_cons_succ]
          refine wpAnyH_take (i := 14) (v := ?_) (take_list rfl) (by kernel_rfl) (by kernel_rfl) (by kernel_rfl) (fun _ _ _ h => h) (Or.inl ⟨by rfl, ?_⟩) (by assumption) ?_
          rotate_left
          · intro w hSw
            try dsimp only at hSw
            first | (go_simp; done) | (go_simp; with_reducible rfl)
          try simp only [Act.put, List.setIfInBounds_toArray, List.set_cons_zero, List.set_cons_succ]
          refine wpAnyH_take (i := 15) (v := ?_) (take_list rfl) (by kernel_rfl) (by kernel_rfl) (by kernel_rfl) (fun _ _ _ h => h) (Or.inl ⟨by rfl, ?_⟩) (by assumption) ?_
          rotate_left
          · intro w hSw
            try dsimp only at hSw
            first | (go_simp; done) | (go_simp; with_reducible rfl)
          try simp only [Act.put, List.setIfInBounds_toArray, List.set_cons_zero, List.set_cons_succ]
          refine wpAnyH_take (i := 16) (v := ?_) (take_list rfl) (by kernel_rfl) (by kernel_rfl) (by kernel_rfl) (fun _ _ _ h => h) (Or.inl ⟨by rfl, ?_⟩) (by assumption) ?_
          rotate_left
          · intro w hSw
            try dsimp only at hSw
            first | (go_simp; done) | (go_simp; with_reducible rfl)
          try simp only [Act.put, List.setIfInBounds_toArray, List.set_cons_zero, List.set_cons_succ]
          refine wpAnyH_take (i := 17) (v := ?_) (take_list rfl) (by kernel_rfl) (by kernel_rfl) (by kernel_rfl) (fun _ _ _ h => h) (Or.inl ⟨by rfl, ?_⟩) (by assumption) ?_
          rotate_left
          · intro w hSw
            try dsimp only at hSw
            first | (go_simp; done) | (go_simp; with_reducible rfl)
          try simp only [Act.put, List.setIfInBounds_toArray, List.set_cons_zero, List.set_cons_succ]
          refine wpAnyH_ready (rs := [18]) (by kernel_rfl) (by simp) ?_
          refine AllReadyH.cons (take_list rfl) (fun K hK => ?_) ?_
          · skip
            go_simp
            refine (HF.out _).mono ?_
            rintro e x1 ⟨rfl, hbx'⟩
            dsimp only
            have HE : Hid (Below (wr.alloc (.cells #[.int .i64 b.first, .slice B b.lines.length cb] 24)).heap.size (wr.alloc (.cells #[.int .i64 b.first, .slice B b.lines.length cb] 24)) x1) := Lib.hid (ext_trans (by repeat (first | exact Below.refl _ _ | apply ext_drew | apply ext_drewN)) hbx')
            refine hK.out _ _ ?_ (fun hHeld => ?_)
            · try dsimp only
              exact HS.out _ (by first | exact HE.out | (repeat (first | exact Below.refl _ _ | apply ext_drew | apply ext_drewN)))
            clear hK K
            refine wpAnyH_take (i := 19) (v := ?_) (take_list rfl) (by kernel_rfl) (by kernel_rfl) (by kernel_rfl) (fun _ _ _ h => h) (Or.inl ⟨by rfl, ?_⟩) (by assumption) ?_
            rotate_left
            · intro w hSw
              try dsimp only at hSw
              first | (go_simp; done) | (go_simp; with_reducible rfl)
            try simp only [Act.put, List.setIfInBounds_toArray, List.set_cons_zero, List.set_cons_succ]
            refine wpAnyH_take (i := 20) (v := ?_) (take_list rfl) (by kernel_rfl) (by kernel_rfl) (by kernel_rfl) (fun _ _ _ h => h) (Or.inl ⟨by rfl, ?_⟩) (by assumption) ?_
            rotate_left
            · intro w hSw
              try dsimp only at hSw
              first | (go_simp; done) | (go_simp; with_reducible rfl)
            try simp only [Act.put, List.setIfInBounds_toArray, List.set_cons_zero, List.set_cons_succ]
            refine wpAnyH_take (i := 21) (v := ?_) (take_list rfl) (by kernel_rfl) (by kernel_rfl) (by kernel_rfl) (fun _ _ _ h => h) (Or.inl ⟨by rfl, ?_⟩) (by assumption) ?_
            rotate_left
            · intro w hSw
              try dsimp only at hSw
              first | (go_simp; done) | (go_simp; with_reducible rfl)
            try simp only [Act.put, List.setIfInBounds_toArray, List.set_cons_zero, List.set_cons_succ]
            refine wpAnyH_done (by kernel_rfl) ?_ _
            go_wp2
            go_ret2
            rw [Hno.out]
            exact ⟨none, 0, rfl, NewS.none_ _ _, ext_trans Hb.out (HX.out _ HE.out)⟩
          exact AllReadyH.nil
    · obtain rfl : k = l.length := by omega
      have hy := chainB_yes hchn
      have Hy := Lib.hid hy
      clear hchn hy
      go_wp2
      go_ret2
      rw [Hy.out]
      exact ⟨A1, c1, rfl, HN.out, Hb.out⟩
end Go.Proofs.YtbokimeojhkgmaaDoor

/-
  Chain, the reference's, and WalChains' walk. No statement of the seat is proved in the part ahead of its closing.
-/
namespace Go.Proofs.YtbokimeojhkgmaaDoor
open Go Go.RowKit
set_option maxRecDepth 100000

set_option maxHeartbeats 4000000 in
theorem rchain_any (fr : Int) (A : Option Addr) (c : Nat) (l : List Bt) (w : World) (hf0 : 0 ≤ fr) (hf1 : fr ≤ 1099511627776) (hA : RowR IsBt 2 w A l) (hl : l.length ≤ 30) (hc : cntB l ≤ 9000) :
    Calls Tryd.prog 22 #[.int .i64 fr, .slice A l.length c] w fun e w' => ∃ A' c', e = .returned (.tuple #[.slice A' (chainB fr l).1.length c', .bool (chainB fr l).2]) ∧ NewS w w' A' c' (chainB fr l).1 ∧ Below w.heap.size w w' := by
  go_enter Tryd.func22, Tryd.ntmps22
  go_wp2
  go_loopw [6, 7] (fun s i wr => ∃ (k : Nat) (A1 : Option Addr) (c1 : Nat), k ≤ l.length ∧ i = .int .i64 (k : Int) ∧ s = .slice A1 (nLn l k) c1 ∧ NewS w wr A1 c1 (lnTo l k) ∧ Chn fr l k ∧ Below w.heap.size w wr) (fun _ i _ => l.length - (intOf i).toNat)
  case atStart => exact ⟨0, none, 0, Nat.zero_le _, rfl, rfl, NewS.none_ _ _, Chn.zero _ _, Below.refl _ _⟩
  case round =>
    obtain ⟨k, A1, c1, hk, rfl, rfl, hN, hchn, hb⟩ := hrel
    have Hb := Lib.hid hb
    have HN := Lib.hid hN
    by_cases hlt : k < l.length
    · have hki : (k : Int) < (l.length : Int) := by omega
      obtain ⟨g, o, cs, eA, -, hcc, hbi, B, cb, rfl, hbc, hbm, -, hrd⟩ := (hA.ext IsBt.lasts hb) k hlt
      have e0 := hcc 0 _ rfl
      have e1 := hcc 1 _ rfl
      rw [Nat.add_zero] at e0
      have Hsn := Lib.hid (nLn_succ l hlt)
      have Hsl := Lib.hid (lnTo_succ l hlt)
      have Hs1 := Lib.hid (nLn_le l k)
      have Hs2 := Lib.hid (nLn_le l (k + 1))
      have Hs3 := Lib.hid (cntB_le l k)
      have Hs4 := Lib.hid (cntB_le l (k + 1))
      have hn9 : nLn l k ≤ 9000 := by have := Hs1.out; have := Hs3.out; omega
      have hk9 : nLn l k + l[k].lines.length ≤ 9000 := by have := Hs2.out; have := Hs4.out; have := Hsn.out; omega
      have hk1 : nLn l k + l[k].lines.length ≤ maxLen := by unfold maxLen; omega
      have hk2 : (nLn l k + l[k].lines.length) * 16 ≤ 140737488355328 := by omega
      have Hrd := Lib.hid hrd
      have Hgood := Lib.hid (fun h => hchn.succ hlt h)
      have Hbad := Lib.hid (fun (h : l[k].first ≠ fr + (nLn l k : Int)) => chainB_no (fr := fr) hlt h)
      clear hchn
      generalize l[k] = b at *
      generalize hq : nLn l k = q at *
      have Hq := Lib.hid hq
      subst eA
      clear hbm hcc hN hb hrd hk9 hbc hbi hq
      have f1 : IntKind.i64.wrap (fr + (q : Int)) = fr + (q : Int) := IntWalk.i64_in _ (by omega)
      by_cases he : b.first = fr + (q : Int)
      · have f2 : (b.first == fr + (q : Int)) = true := beq_iff_eq.2 he
        have f3 : (b.first != fr + (q : Int)) = false := by simp [he]
        have Hchn := Lib.hid (Hgood.out he)
        clear he
        go_wp2_with (at_builtin
                     refine wpList_app _ rfl (.tmp 24) (.tmp 29) _ rfl _ _ 16 Tryd.underlying22 info_str rfl A1 q c1 _ rfl ?_ HN.out B b.lines.length cb (b.lines.map strV) rfl ?_ Hrd.out (strVs_one _) hk1 hk2 ?_
                     · rw [List.length_map]; exact Hq.out.symm
                     · rw [List.length_map]
                     intro A2 c2 w2 hown2 honly2)
        go_roundw
        case rel =>
          obtain ⟨g1, g2⟩ := NewS.grow Hb.out hown2 honly2
          exact ⟨k + 1, A2, c2, by omega, by go_num, by rw [Hsn.out], by rw [Hsl.out]; exact g1, Hchn.out, g2⟩
        case measure => simp [intOf]; omega
      · have f2 : (b.first == fr + (q : Int)) = false := beq_eq_false_iff_ne.2 he
        have f3 : (b.first != fr + (q : Int)) = true := by simp [he]
        have Hno := Lib.hid (Hbad.out he)
        clear he
        go_wp2
        go_ret2
        rw [Hno.out]
        exact ⟨none, 0, rfl, NewS.none_ _ _, Hb.out⟩
    · obtain rfl : k = l.length := by omega
      have hy := chainB_yes hchn
      have Hy := Lib.hid hy
      clear hchn hy
      go_wp2
      go_ret2
      rw [Hy.out]
      exact ⟨A1, c1, rfl, HN.out, Hb.out⟩

/-! ### the law's own row of batches -/
theorem info_rbt : (Tryd.prog.info? 32).map (fun i => (i.zero, i.size, i.bytes)) = some (some (.agg #[.int .i64 0, .slice none 0 0]), 2, 32) := by kernel_rfl
def RowB (w : World) (xs : List Value) (l : List Bt) (k : Nat) : Prop := xs.length = k * 2 ∧ ∀ (j : Nat) (h : j < l.length), j < k → ∃ u v, xs[j * 2]? = some u ∧ xs[j * 2 + 1]? = some v ∧ IsBt w [u, v] l[j]
theorem RowB.ext {w w' : World} {xs : List Value} {l : List Bt} {k : Nat} (h : RowB w xs l k) (hb : Below w.heap.size w w') : RowB w' xs l k := ⟨h.1, fun j hj hk => by
  obtain ⟨u, v, h1, h2, h3⟩ := h.2 j hj hk
  exact ⟨u, v, h1, h2, IsBt.lasts _ _ _ _ hb h3⟩⟩
theorem RowB.snoc {w : World} {xs : List Value} {l : List Bt} {k : Nat} {u v : Value} (h : RowB w xs l k) (hk : k < l.length) (hu : IsBt w [u, v] l[k]) : RowB w (xs ++ [u, v]) l (k + 1) := by
  refine ⟨by rw [List.length_append, h.1]; simp; omega, fun j hj hl => ?_⟩
  rcases Nat.lt_succ_iff_lt_or_eq.1 hl with h1 | rfl
  · obtain ⟨u', v', e1, e2, e3⟩ := h.2 j hj h1
    exact ⟨u', v', by rw [List.getElem?_append_left (by rw [h.1]; omega)]; exact e1, by rw [List.getElem?_append_left (by rw [h.1]; omega)]; exact e2, e3⟩
  · exact ⟨u, v, by rw [List.getElem?_append_right (by rw [h.1]; omega), h.1]; simp, by rw [List.getElem?_append_right (by rw [h.1]; omega), h.1]; simp, hu⟩
theorem RowB.row {w : World} {T : TypeId} {A : Option Addr} {c : Nat} {xs : List Value} {l : List Bt} (ho : RowO w T 2 A l.length c xs) (h : RowB w xs l l.length) : RowR IsBt 2 w A l := fun k hk => by
  obtain ⟨u, v, e1, e2, e3⟩ := h.2 k hk hk
  rcases ho.2 with ⟨_, h0, _⟩ | ⟨g, off, cs, rfl, _, _, hb, _, hc⟩
  · omega
  · refine ⟨g, off, [u, v], rfl, rfl, fun j z hz => ?_, e3⟩
    match j, hz with
    | 0, hz => simp at hz; subst hz; rw [Nat.add_zero, hb.cell]; exact hc _ _ e1
    | 1, hz => simp at hz; subst hz; rw [Nat.add_assoc, hb.cell]; exact hc _ _ e2

namespace WalChains
set_option maxHeartbeats 8000000 in
theorem chains_any (fr : Int) (A : Option Addr) (c : Nat) (l : List Bt) (w : World) (hfr : isInt fr) (hA : RowR IsBt 2 w A l) (hl : l.length ≤ maxLen) (hs : ∀ b ∈ l, ∀ s ∈ b.lines, s.length ≤ 140737488355328) :
    Calls Tryd.prog 7 #[.int .i64 fr, .slice A l.length c] w fun e w' => e = .returned (.bool true) ∧ Below w.heap.size w w' := by
  have hl' := hl
  unfold maxLen at hl'
  have hli : (l.length : Int) ≤ 9223372036854775807 := by omega
  obtain ⟨hfr1, hfr2⟩ := hfr
  by_cases h30 : 30 < l.length
  · have h30i : (30 : Int) < (l.length : Int) := by omega
    have h30d : decide ((30 : Int) < (l.length : Int)) = true := decide_eq_true h30i
    clear hA hs h30 hl hl'
    go_enter Tryd.func7, Tryd.ntmps7
    go_wp2
    go_ret
    exact ⟨rfl, Below.refl _ _⟩
  have h30i : (l.length : Int) ≤ 30 := by omega
  have h30d : decide ((30 : Int) < (l.length : Int)) = false := decide_eq_false (by omega)
  have HL := Lib.hid (long_any A c l hA hl hs)
  by_cases h9 : 9000 < cntB l
  · have hd : decide (9000 < cntB l) = true := decide_eq_true h9
    rw [hd] at HL
    clear hA hs h30 hl hl' hd
    go_enter Tryd.func7, Tryd.ntmps7
    go_wp2_with fail
    refine HL.out.mono ?_
    rintro e w1 ⟨rfl, rfl⟩
    go_wp2
    go_ret
    exact ⟨rfl, Below.refl _ _⟩
  have hd : decide (9000 < cntB l) = false := decide_eq_false h9
  rw [hd] at HL
  have h9' : cntB l ≤ 9000 := by omega
  have H9 := Lib.hid h9'
  clear hd h9 h9'
  by_cases hf : fr < 0 ∨ 1099511627776 < fr
  · rcases hf with hf | hf
    · have hfd : decide (fr < 0) = true := decide_eq_true hf
      clear hA hs h30 hl hl'
      go_enter Tryd.func7, Tryd.ntmps7
      go_wp2_with fail
      refine HL.out.mono ?_
      rintro e w1 ⟨rfl, rfl⟩
      go_wp2
      go_ret
      exact ⟨rfl, Below.refl _ _⟩
    · have hfd : decide (fr < 0) = false := decide_eq_false (by omega)
      have hfd2 : decide (1099511627776 < fr) = true := decide_eq_true hf
      clear hA hs h30 hl hl'
      go_enter Tryd.func7, Tryd.ntmps7
      go_wp2_with fail
      refine HL.out.mono ?_
      rintro e w1 ⟨rfl, rfl⟩
      go_wp2
      go_ret
      exact ⟨rfl, Below.refl _ _⟩
  have hf0 : 0 ≤ fr := by omega
  have hf1 : fr ≤ 1099511627776 := by omega
  have hfd : decide (fr < 0) = false := decide_eq_false (by omega)
  have hfd2 : decide (1099511627776 < fr) = false := decide_eq_false (by omega)
  have hl30 : l.length ≤ 30 := by omega
  clear hf hl hl' hs h30
  go_enter Tryd.func7, Tryd.ntmps7
  go_wp2_with fail
  refine HL.out.mono ?_
  rintro e w1 ⟨rfl, rfl⟩
  clear HL
  go_wp2
  go_loopw [5, 6] (fun s i wr => ∃ (k : Nat) (A1 : Option Addr) (c1 : Nat) (xs : List Value), k ≤ l.length ∧ i = .int .i64 (k : Int) ∧ s = .slice A1 k c1 ∧ RowO wr 32 2 A1 k c1 xs ∧ RowB w xs l k ∧ (∀ b, inA A1 b → w.heap.size ≤ b) ∧ Below w.heap.size w wr) (fun _ i _ => l.length - (intOf i).toNat)
  case atStart => exact ⟨0, none, 0, [], Nat.zero_le _, rfl, rfl, RowO.none_ _ _ _, ⟨rfl, fun j _ h => absurd h (by omega)⟩, fun b h => absurd h (inA_none b), Below.refl _ _⟩
  case round =>
    obtain ⟨k, A1, c1, xs, hk, rfl, rfl, hO, hB, hin, hb⟩ := hrel
    have Hb := Lib.hid hb
    have HB := Lib.hid hB
    have Hin := Lib.hid hin
    by_cases hlt : k < l.length
    · have hki : (k : Int) < (l.length : Int) := by omega
      obtain ⟨g, o, cs, eA, -, hcc, hIs⟩ := hA k hlt
      have HIs := Lib.hid hIs
      obtain ⟨hbi, B, cb, rfl, hbc, hbm, -, hrd⟩ := hIs
      have d0 := hcc 0 _ rfl
      have d1 := hcc 1 _ rfl
      rw [Nat.add_zero] at d0
      have q0 := World.block_lt_of_cell? w _ d0
      have e0 := (World.cell?_of_block (a := ⟨g, o + k * 2, none⟩) (hb.block _ q0)).trans d0
      have e1 := (World.cell?_of_block (a := ⟨g, o + k * 2 + 1, none⟩) (hb.block _ q0)).trans d1
      have Hsn := Lib.hid (hB.snoc hlt HIs.out)
      clear d0 d1 q0
      generalize l[k] = b at *
      subst eA
      have hk1 : k + 1 ≤ maxLen := by unfold maxLen; omega
      have hk2 : (k + 1) * 32 ≤ 140737488355328 := by omega
      clear hcc hB hin hb hbi hrd hbm hbc
      go_wp2_with (at_builtin
                   refine wpList_appO _ rfl (.tmp 32) (.tmp 37) _ rfl _ _ 2 32 Tryd.underlying47 info_rbt rfl A1 k c1 xs rfl (hO.alloc _) (some ⟨wr.heap.size, 0, none⟩) 1 1 [.int .i64 b.first, .slice B b.lines.length cb] rfl rfl (Rd.lit _ _ _) (by simp [Value.oneCell']) (fun h => by cases h) hk1 hk2 ?_
                   intro A2 c2 w2 hrow2 honly2 hin2)
      go_roundw
      case rel =>
        have hbx : Below w.heap.size w (wr.alloc (.cells #[.int .i64 b.first, .slice B b.lines.length cb] 32)) := Hb.out.alloc Hb.out.size _
        have hb2 : Below w.heap.size w w2 := hbx.trans (honly2.below (fun i hi => Hin.out i hi) hbx.size)
        exact ⟨k + 1, A2, c2, _, by omega, by go_num, rfl, hrow2, Hsn.out, fun b hb => by
          rcases hin2 b hb with h | h
          · exact Hin.out b h
          · have := hbx.size; omega, hb2⟩
      case measure => simp [intOf]; omega
    · obtain rfl : k = l.length := by omega
      have hM := RowB.row hO (hB.ext hb)
      have HC := Lib.hid (fun W (h : Below w.heap.size w W) => chain_any fr A c l W hf0 hf1 (hA.ext IsBt.lasts h) hl30 H9.out)
      have HM := Lib.hid (fun W (h : Below wr.heap.size wr W) => rchain_any fr A1 c1 l W hf0 hf1 (hM.ext IsBt.lasts h) hl30 H9.out)
      have hcl : (chainB fr l).1.length ≤ 9000 := by
        by_cases h : Chn fr l l.length
        · rw [chainB_yes h]
          have := nLn_le l l.length
          have := cntB_le l l.length
          have := H9.out
          show nLn l l.length ≤ 9000
          omega
        · unfold chainB
          rw [if_neg h]
          exact Nat.zero_le _
      have Hcl := Lib.hid hcl
      generalize chainB fr l = R at *
      clear hA hM hO hB hin hb hcl H9 HB Hin
      go_wp2_with fail
      refine (HC.out _ Hb.out).mono ?_
      rintro e w2 ⟨A2, c2, rfl, hn2, hb⟩
      have Hb2 := Lib.hid hb
      have HN2 := Lib.hid hn2
      clear hb hn2
      go_wp2_with fail
      refine (HM.out _ Hb2.out).mono ?_
      rintro e w3 ⟨A3, c3, rfl, hn3, hb⟩
      have HN3 := Lib.hid hn3
      have HN22 := Lib.hid (HN2.out.ext hb)
      have Hb3 := Lib.hid (ext_trans Hb.out (ext_trans Hb2.out hb))
      clear hb hn3
      go_wp2_with fail
      refine (texts_any A2 c2 R.1 HN22.out.rd A3 c3 R.1 HN3.out.rd (by have := Hcl.out; omega) (by have := Hcl.out; omega)).mono ?_
      rintro e w4 ⟨rfl, hb⟩
      have Hb4 := Lib.hid (ext_trans Hb3.out hb)
      have hd : decide (R.1 = R.1) = true := decide_eq_true rfl
      rw [hd]
      clear hb hd
      generalize R.2 = v at *
      go_wp2_with fail
      refine (known20_any _).mono ?_
      rintro e w5 ⟨rfl, hb⟩
      have Hb5 := Lib.hid (ext_trans Hb4.out hb)
      clear hb
      go_wp2
      go_ret
      exact ⟨rfl, Hb5.out⟩
end WalChains
end Go.Proofs.YtbokimeojhkgmaaDoor

/-
  Plain mathematics of octet: a number's digits to the base 128. No Go here.
-/
namespace Go.Proofs.YtbokimeojhkgmaaDoor

/-- a number as bytes: seven binary digits a byte, the lowest first -/
def dig (n : Nat) : List UInt8 := if n < 128 then [n.toUInt8] else (n % 128 + 128).toUInt8 :: dig (n / 128)
termination_by n

theorem dig_lt {n : Nat} (h : n < 128) : dig n = [n.toUInt8] := by rw [dig, if_pos h]
theorem dig_ge {n : Nat} (h : ¬ n < 128) : dig n = (n % 128 + 128).toUInt8 :: dig (n / 128) := by rw [dig, if_neg h]
theorem dig_pos (n : Nat) : 0 < (dig n).length := by
  rw [dig]; split <;> simp

/-- so many bytes at the most -/
theorem dig_len : ∀ (k n : Nat), n < 128 ^ k → 0 < k → (dig n).length ≤ k
  | 0, _, _, h => absurd h (by omega)
  | k + 1, n, h, _ => by
    by_cases hn : n < 128
    · rw [dig_lt hn]; simp
    · rw [dig_ge hn]
      have hk : 0 < k := by
        rcases k with _ | k
        · simp at h; omega
        · omega
      have h2 : n / 128 < 128 ^ k := by
        rw [Nat.pow_succ] at h
        exact Nat.div_lt_of_lt_mul (by rw [Nat.mul_comm]; exact h)
      have := dig_len k (n / 128) h2 hk
      simp only [List.length_cons]
      omega

/-- a number brought into the bounds of what may be laid -/
def clamp (v : Int) : Nat := (min (max v 0) 4611686018427387904).toNat
theorem clamp_le (v : Int) : clamp v ≤ 4611686018427387904 := by unfold clamp; omega
theorem clamp_of_nat {n : Nat} (h : n ≤ 4611686018427387904) : clamp (n : Int) = n := by unfold clamp; omega
theorem dig_clamp_len (v : Int) : (dig (clamp v)).length ≤ 9 := dig_len 9 _ (by have := clamp_le v; have : (128 : Nat) ^ 9 = 9223372036854775808 := rfl; omega) (by omega)

/-- how many bytes the rest has: none, if nothing is left -/
def dlen (k : Nat) : Nat := if k = 0 then 0 else (dig k).length
theorem dig_len_eq (m : Nat) : (dig m).length = 1 + dlen (m / 128) := by
  by_cases h : m < 128
  · rw [dig_lt h, dlen, if_pos (by omega)]; rfl
  · rw [dig_ge h, dlen, if_neg (by omega), List.length_cons]; omega
theorem dlen_pos {k : Nat} (h : 0 < k) : dlen k = 1 + dlen (k / 128) := by rw [dlen, if_neg (by omega), dig_len_eq]
/-- the first byte tells whether the number is below 128 -/
theorem dig_first (m : Nat) (h : ¬ m < 128) : ∃ u r, dig m = u :: r ∧ 128 ≤ u.toNat ∧ r = dig (m / 128) := by
  refine ⟨_, _, dig_ge h, ?_, rfl⟩
  simp [Nat.toUInt8, UInt8.toNat_ofNat']; omega
/-- the last byte of several is not 0 -/
theorem dig_last : ∀ (n m : Nat), m ≤ n → 0 < m → ∃ p u, dig m = p ++ [u] ∧ 0 < u.toNat
  | 0, m, h, h0 => by omega
  | n + 1, m, h, h0 => by
    by_cases hm : m < 128
    · exact ⟨[], m.toUInt8, by rw [dig_lt hm]; rfl, by simp [Nat.toUInt8, UInt8.toNat_ofNat']; omega⟩
    · obtain ⟨p, u, e, hu⟩ := dig_last n (m / 128) (by omega) (by omega)
      exact ⟨_ :: p, u, by rw [dig_ge hm, e]; rfl, hu⟩

/-! ### the number at the beginning of bytes -/
def scan : Nat → Nat → List UInt8 → Option (Nat × Nat)
  | _, _, [] => none
  | i, n, c :: r =>
    if i = 9 then none
    else if 127 < c.toNat then scan (i + 1) (n + c.toNat % 128 * 128 ^ i) r
    else if 4611686018427387904 < n + c.toNat % 128 * 128 ^ i ∨ (0 < i ∧ c.toNat = 0) then none
    else some (n + c.toNat % 128 * 128 ^ i, i + 1)
def num? (bs : List UInt8) : Option (Nat × Nat) := scan 0 0 bs
def resN (r : Option (Nat × Nat)) : Nat := (r.getD (0, 0)).1
def resK (r : Option (Nat × Nat)) : Nat := (r.getD (0, 0)).2

/-- a number that was laid is met again -/
theorem scan_dig : ∀ (k n i a : Nat) (r : List UInt8), n ≤ k → (i = 0 ∨ 0 < n) → a + n * 128 ^ i ≤ 4611686018427387904 → scan i a (dig n ++ r) = some (a + n * 128 ^ i, i + (dig n).length)
  | k, n, i, a, r, hk, h0, hle => by
    have hi : i ≤ 8 := by
      rcases h0 with h0 | h0
      · omega
      · rcases Nat.lt_or_ge i 9 with h | h
        · omega
        · have h1 : 128 ^ 9 ≤ 128 ^ i := Nat.pow_le_pow_right (by omega) h
          have h2 : 1 * 128 ^ i ≤ n * 128 ^ i := Nat.mul_le_mul_right _ h0
          have h3 : (128 : Nat) ^ 9 = 9223372036854775808 := rfl
          omega
    by_cases hn : n < 128
    · have e : n.toUInt8.toNat = n := by simp [Nat.toUInt8, UInt8.toNat_ofNat']; omega
      rw [dig_lt hn]
      simp only [List.singleton_append, scan, e]
      rw [if_neg (by omega), if_neg (by omega), Nat.mod_eq_of_lt hn, if_neg (by omega)]
      simp
    · have e : (n % 128 + 128).toUInt8.toNat = n % 128 + 128 := by simp [Nat.toUInt8, UInt8.toNat_ofNat']; omega
      have e2 : (n % 128 + 128) % 128 = n % 128 := by omega
      have e3 : a + n % 128 * 128 ^ i + n / 128 * 128 ^ (i + 1) = a + n * 128 ^ i := by
        have h1 : n * 128 ^ i = (n % 128 + 128 * (n / 128)) * 128 ^ i := by rw [Nat.mod_add_div]
        rw [h1, Nat.add_mul, Nat.pow_succ, Nat.mul_comm 128 (n / 128), Nat.mul_assoc (n / 128), Nat.mul_comm 128]
        omega
      rw [dig_ge hn]
      simp only [List.cons_append, scan, e]
      rw [if_neg (by omega), if_pos (by omega), e2, scan_dig (n / 128) (n / 128) (i + 1) _ r (Nat.le_refl _) (.inr (by omega)) (by rw [e3]; exact hle), e3]
      simp only [List.length_cons]
      congr 2; omega
termination_by _ n => n
theorem num_dig (n : Nat) (r : List UInt8) (h : n ≤ 4611686018427387904) : num? (dig n ++ r) = some (n, (dig n).length) := by
  have := scan_dig n n 0 0 r (Nat.le_refl _) (.inl rfl) (by simpa using h)
  simpa [num?] using this

/-! ### the check sum, four digits at a time -/
def tab (i : Nat) : Nat := [0, 498536548, 997073096, 651767980, 1994146192, 1802195444, 1303535960, 1342533948, 3988292384, 4027552580, 3604390888, 3412177804, 2607071920, 2262029012, 2685067896, 3183342108].getD i 0
theorem tab_lt (i : Nat) : tab i < 4294967296 := by
  have h : ∀ j, j < 16 → tab j < 4294967296 := by decide
  by_cases hi : i < 16
  · exact h i hi
  · unfold tab; rw [List.getD_eq_getElem?_getD, List.getElem?_eq_none (by simp; omega)]; decide
def nib (s : Nat) : Nat := s / 16 ^^^ tab (s % 16)
theorem nib_lt {s : Nat} (h : s < 4294967296) : nib s < 4294967296 :=
  Nat.xor_lt_two_pow (n := 32) (by have : s / 16 < 2 ^ 32 := by omega
                                   exact this) (tab_lt _)
def crcB (s : Nat) (b : UInt8) : Nat := nib (nib (s ^^^ b.toNat))
theorem xorb_lt {s : Nat} (h : s < 4294967296) (b : UInt8) : s ^^^ b.toNat < 4294967296 :=
  Nat.xor_lt_two_pow (n := 32) h (by have := b.toNat_lt; have : (2 : Nat) ^ 32 = 4294967296 := rfl; omega)
theorem crcB_lt {s : Nat} (h : s < 4294967296) (b : UInt8) : crcB s b < 4294967296 := nib_lt (nib_lt (xorb_lt h b))
def crcL (s : Nat) (bs : List UInt8) : Nat := bs.foldl crcB s
theorem crcL_lt (bs : List UInt8) : ∀ {s : Nat}, s < 4294967296 → crcL s bs < 4294967296 := by
  induction bs with
  | nil => intro s h; exact h
  | cons b r ih => intro s h; exact ih (crcB_lt h b)
theorem crcL_append (s : Nat) (a b : List UInt8) : crcL s (a ++ b) = crcL (crcL s a) b := List.foldl_append
theorem crcL_snoc (s : Nat) (a : List UInt8) (b : UInt8) : crcL s (a ++ [b]) = crcB (crcL s a) b := by rw [crcL_append]; rfl
theorem crcL_take_succ (s : Nat) (xs : List UInt8) (k : Nat) (h : k < xs.length) : crcL s (xs.take (k + 1)) = crcB (crcL s (xs.take k)) xs[k] := by
  rw [List.take_succ_eq_append_getElem h, crcL_snoc]
/-- the check sum of bytes -/
def sumOf (bs : List UInt8) : Nat := 4294967295 - crcL 4294967295 bs
theorem sumOf_known : sumOf [49, 50, 51, 52, 53, 54, 55, 56, 57] = 3421780262 := by decide

end Go.Proofs.YtbokimeojhkgmaaDoor

/-
  The contracts of package octet's Writer: Raw, num, Nums, Bytes, Out. No statement of the seat is proved here.
-/
namespace Go.Proofs.YtbokimeojhkgmaaDoor
open Go Go.RowKit

theorem info_u8 : (Tryd.prog.info? 5).map (fun i => (i.zero, i.size, i.bytes)) = some (some (.int .u8 0), 1, 1) := by kernel_rfl

/-- A Writer in block 'g', which has laid the cells 'xs'; what it owns lies in 'fp'. -/
def Wr (w : World) (fp : Nat → Prop) (g : Nat) (xs : List Value) : Prop :=
  fp g ∧ ∃ A c, Blk w g 55 #[.slice A xs.length c] ∧ Own w fp 5 A c xs

section
variable {S fp fp' : Nat → Prop} {w w' : World} {g : Nat} {xs : List Value}
theorem Wr.mono (h : Wr w fp g xs) (hs : ∀ k, fp k → k < w.heap.size → fp' k) : Wr w fp' g xs := by
  obtain ⟨h1, A, c, hb, ho⟩ := h
  exact ⟨hs _ h1 hb.lt, A, c, hb, ho.mono hs⟩
theorem Wr.only (h : Wr w fp g xs) (ho : Only S w w') (hn : ∀ k, fp k → ¬ S k) : Wr w' fp g xs := by
  obtain ⟨h1, A, c, hb, hown⟩ := h
  exact ⟨h1, A, c, hb.only ho (hn _ h1), hown.only ho hn⟩
theorem Wr.ext (h : Wr w fp g xs) (hb : Below w.heap.size w w') : Wr w' fp g xs := by
  obtain ⟨h1, A, c, hb1, hown⟩ := h
  exact ⟨h1, A, c, hb1.ext hb, hown.ext hb⟩
theorem Wr.drewN (h : Wr w fp g xs) (n : Nat) : Wr (w.drewN n) fp g xs := h
theorem Wr.alloc (h : Wr w fp g xs) (o : Obj) : Wr (w.alloc o) fp g xs := h.ext ((Below.refl _ _).alloc (Nat.le_refl _) o)
theorem Wr.lt (h : Wr w fp g xs) : g < w.heap.size := by
  obtain ⟨_, _, _, hb, _⟩ := h
  exact hb.lt
theorem Wr.new (w : World) (fp : Nat → Prop) (hf : fp w.heap.size) : Wr (w.alloc (.cells #[.slice none 0 0] 55)) fp w.heap.size [] :=
  ⟨hf, none, 0, Blk.new w _ _, Own.none_ _ _ _⟩
end

theorem raw_nil (v : Value) (w : World) : Calls Tryd.prog 46 #[.pointer none, v] w fun e w' => e = .returned (.tuple #[]) ∧ w = w' := by
  go_enter Tryd.func46, Tryd.ntmps46
  go_wp2
  go_end0
  exact ⟨rfl, rfl⟩

/-- what a Writer is behind an append to its row and the store of it -/
theorem Wr.step {fp : Nat → Prop} {g : Nat} {A A' : Option Addr} {c c' : Nat} {xs ys : List Value} {w w1 : World} (hg : fp g) (hblk : Blk w g 55 #[.slice A xs.length c])
    (ho : Only (fun k => fp k ∧ k ≠ g) w w1) (hown : Own w1 (More (fun k => fp k ∧ k ≠ g) w w1) 5 A' c' ys) :
    Wr (w1.setCell ⟨g, 0, none⟩ (.slice A' ys.length c')) (More fp w (w1.setCell ⟨g, 0, none⟩ (.slice A' ys.length c'))) g ys ∧ Only fp w (w1.setCell ⟨g, 0, none⟩ (.slice A' ys.length c')) := by
  have hb1 : Blk w1 g 55 #[.slice A xs.length c] := hblk.only ho (fun h => h.2 rfl)
  refine ⟨⟨.inl hg, A', c', hb1.put 0 _, ?_⟩, (ho.mono (fun _ _ h => h.1)).setCell (.inl hg) _⟩
  refine (hown.setCell (hown.ne_blk hb1 (by decide)) _).mono (fun k hk _ => ?_)
  rcases hk with hk | hk
  · exact .inl hk.1
  · exact .inr (by simpa [World.setCell] using hk)

set_option maxHeartbeats 400000 in
theorem raw_any (fp : Nat → Prop) (g : Nat) (A2 : Option Addr) (m c2 : Nat) (xs news : List Value) (w : World) (hw : Wr w fp g xs) (hm : m = news.length) (hr : Rd w A2 news) (h1 : ∀ u ∈ news, u.oneCell' = true)
    (hb : xs.length + news.length ≤ 1099511627776) :
    Calls Tryd.prog 46 #[.pointer (some ⟨g, 0, none⟩), .slice A2 m c2] w fun e w' => e = .returned (.tuple #[]) ∧ Wr w' (More fp w w') g (xs ++ news) ∧ Only fp w w' := by
  obtain ⟨hg, A, c, hblk, hown⟩ := hw
  have h0 := hblk.cell 0
  simp only [List.getElem?_toArray, List.getElem?_cons_zero] at h0
  have f0 := hblk.free 0
  have hk1 : xs.length + m ≤ maxLen := by unfold maxLen; omega
  have hk2 : (xs.length + m) * 1 ≤ 140737488355328 := by omega
  have hown' : Own w (fun k => fp k ∧ k ≠ g) 5 A c xs := ⟨hown.1, fun ad e => ⟨hown.2 ad e, hown.ne_blk hblk (by decide) ad e⟩⟩
  have hm' := Lib.hid hm
  clear hm
  go_enter Tryd.func46, Tryd.ntmps46
  go_wp2_with (at_builtin
               refine wpList_app _ rfl (.tmp 10) (.tmp 11) _ rfl _ _ 1 Tryd.underlying26 info_u8 rfl A _ c xs rfl rfl hown' A2 m c2 news rfl hm'.out hr h1 hk1 hk2 ?_
               intro A' c' w1 hown1 honly1
               have hb1 := hblk.only honly1 (fun h => h.2 rfl)
               have g0 : w1.cell? ⟨g, 0, none⟩ = some (.slice A xs.length c) := hb1.cell 0
               have g1 : w1.frozen? ⟨g, 0, none⟩ = false := hb1.free 0)
  go_end0
  refine ⟨rfl, ?_⟩
  have key := Wr.step hg hblk honly1 hown1
  rw [List.length_append, ← hm'.out] at key
  exact key

theorem Wr.join {fp : Nat → Prop} {a b b' c : World} {g : Nat} {xs : List Value} (h1 : a.heap.size ≤ b.heap.size) (h2 : b.heap.size ≤ b'.heap.size) (h3 : b'.heap.size ≤ c.heap.size) (h : Wr c (More (More fp a b) b' c) g xs) : Wr c (More fp a c) g xs :=
  h.mono fun _ hk _ => More.join h1 h2 h3 hk
end Go.Proofs.YtbokimeojhkgmaaDoor

/-
  The contract of octet's Join. No statement of the seat is proved here.
-/
namespace Go.Proofs.YtbokimeojhkgmaaDoor
open Go Go.RowKit

/-- bytes in a list of the call's own, which was made between two worlds -/
def New (w w' : World) (A : Option Addr) (c : Nat) (bs : List UInt8) : Prop := Own w' (fun k => w.heap.size ≤ k ∧ k < w'.heap.size) 5 A c (bs.map bv)

theorem make_bytes (W : World) (t : Nat) (h : t ≤ 1099511627776) : (Instr.makeSlice 26 (.int .i64 0) (.int .i64 (t : Int))).run Tryd.prog W =
    .ok (.slice (some ⟨W.heap.size, 0, none⟩) 0 t) (W.alloc (.cells (madeCells #[.int .u8 0] (t * 1)) 5)) := by
  obtain ⟨i, hi, hz, hsz, hby⟩ := info_parts info_u8
  have hr := run_make (P := Tryd.prog) W 26 5 i _ Tryd.underlying26 hi hz .i64 .i64 ((0 : Nat) : Int) t (by omega) (by omega) (by rw [hby]; omega) (by omega)
  simp only [Int.toNat_natCast, hsz] at hr
  exact hr

theorem flat_take_succ (xss : List (List UInt8)) (k : Nat) (h : k < xss.length) : (xss.take (k + 1)).flatten = (xss.take k).flatten ++ xss[k] := by
  rw [List.take_succ_eq_append_getElem h, List.flatten_append]; simp
theorem flat_take_le (xss : List (List UInt8)) (k : Nat) : (xss.take k).flatten.length ≤ xss.flatten.length := by
  have h : xss.flatten = (xss.take k).flatten ++ (xss.drop k).flatten := by rw [← List.flatten_append, List.take_append_drop]
  rw [h, List.length_append]; omega
/-- the bytes of the first k rows; how many they are: under a name, so that the walk leaves them alone -/
def upTo (xss : List (List UInt8)) (k : Nat) : List UInt8 := (xss.take k).flatten
def lenTo (xss : List (List UInt8)) (k : Nat) : Nat := (upTo xss k).length
theorem lenTo_zero (xss : List (List UInt8)) : lenTo xss 0 = 0 := rfl
theorem upTo_succ (xss : List (List UInt8)) (k : Nat) (h : k < xss.length) : upTo xss (k + 1) = upTo xss k ++ xss[k] := flat_take_succ xss k h
theorem lenTo_succ (xss : List (List UInt8)) (k : Nat) (h : k < xss.length) : lenTo xss (k + 1) = lenTo xss k + xss[k].length := by unfold lenTo; rw [upTo_succ xss k h, List.length_append]
theorem lenTo_le (xss : List (List UInt8)) (k : Nat) : lenTo xss k ≤ xss.flatten.length := flat_take_le xss k
theorem upTo_all (xss : List (List UInt8)) : upTo xss xss.length = xss.flatten := by unfold upTo; rw [List.take_length]
theorem lenTo_all (xss : List (List UInt8)) : lenTo xss xss.length = xss.flatten.length := by unfold lenTo; rw [upTo_all]

theorem New.start (w : World) (n : Nat) (h : n ≤ 1099511627776) : New w (w.alloc (.cells (madeCells #[.int .u8 0] n) 5)) (some ⟨w.heap.size, 0, none⟩) n [] := by
  refine ⟨?_, fun ad h => by injection h with h; subst h; simp⟩
  exact World.ownsRow_made w _ n (Nat.zero_le _) (by unfold maxLen; omega) (by simp [madeCells])
theorem New.grow {w w1 w2 : World} {A : Option Addr} {c : Nat} {bs cs : List UInt8} (hb : Below w.heap.size w w1) (h : Own w2 (More (fun k => w.heap.size ≤ k ∧ k < w1.heap.size) w1 w2) 5 A c (bs.map bv ++ cs.map bv)) (ho : Only (fun k => w.heap.size ≤ k ∧ k < w1.heap.size) w1 w2) :
    New w w2 A c (bs ++ cs) ∧ Below w.heap.size w w2 := by
  have h1 := hb.size
  have h2 := ho.size
  refine ⟨?_, hb.trans (ho.below (fun _ h => h.1) hb.size)⟩
  unfold New
  rw [List.map_append]
  refine h.mono (fun _ hk _ => ?_)
  rcases hk with hk | hk <;> omega
/-- .. a literal laid in between -/
theorem New.grow1 {w w1 w2 : World} {A : Option Addr} {c : Nat} {bs cs : List UInt8} {o : Obj} (hb : Below w.heap.size w w1) (h : Own w2 (More (fun k => w.heap.size ≤ k ∧ k < w1.heap.size) (w1.alloc o) w2) 5 A c (bs.map bv ++ cs.map bv)) (ho : Only (fun k => w.heap.size ≤ k ∧ k < w1.heap.size) (w1.alloc o) w2) :
    New w w2 A c (bs ++ cs) ∧ Below w.heap.size w w2 := by
  have h1 := hb.size
  have h2 := ho.size
  rw [World.size_alloc] at h2
  refine ⟨?_, (hb.alloc h1 o).trans (ho.below (fun _ h => h.1) (by rw [World.size_alloc]; omega))⟩
  unfold New
  rw [List.map_append]
  refine h.mono (fun _ hk _ => ?_)
  rcases hk with hk | hk
  · omega
  · rw [World.size_alloc] at hk; omega
theorem New.ext {w w1 w2 : World} {A : Option Addr} {c : Nat} {bs : List UInt8} (h : New w w1 A c bs) (hb : Below w1.heap.size w1 w2) : New w w2 A c bs :=
  (Own.ext h hb).mono (fun _ hk _ => ⟨hk.1, Nat.lt_of_lt_of_le hk.2 hb.size⟩)

theorem New.rd {w w1 : World} {A : Option Addr} {c : Nat} {bs : List UInt8} (h : New w w1 A c bs) : Rd w1 A (bs.map bv) := Own.rd h
theorem New.back {w w0 w1 : World} {A : Option Addr} {c : Nat} {bs : List UInt8} (h : New w w1 A c bs) (hs : w0.heap.size ≤ w.heap.size) : New w0 w1 A c bs :=
  Own.mono h (fun _ hk _ => ⟨Nat.le_trans hs hk.1, hk.2⟩)

set_option maxHeartbeats 1000000 in
theorem join_any (A : Option Addr) (n c : Nat) (xss : List (List UInt8)) (bs : List UInt8) (w : World) (hn : n = xss.length) (hbs : xss.flatten = bs) (hr : RowsF (fun _ => False) w A xss) (hb : bs.length ≤ 1099511627776) (hb2 : xss.length ≤ 1099511627776) :
    Calls Tryd.prog 49 #[.slice A n c] w fun e w' => ∃ A' c', e = .returned (.slice A' bs.length c') ∧ New w w' A' c' bs ∧ Below w.heap.size w w' := by
  subst hn
  have hmk := fun W => make_bytes W bs.length hb
  have hall := lenTo_all xss
  have hle := lenTo_le xss
  rw [hbs] at hall hle
  have Hbs := Lib.hid hbs
  have Hall := Lib.hid hall
  have Hle := Lib.hid hle
  clear hall hbs hle
  go_enter Tryd.func49, Tryd.ntmps49
  go_wp2
  go_loop [3, 11] (fun s i => ∃ k : Nat, k ≤ xss.length ∧ i = .int .i64 (k : Int) ∧ s = .int .i64 (lenTo xss k : Int)) (fun _ i => xss.length - (intOf i).toNat)
  case atStart => exact ⟨0, Nat.zero_le _, rfl, by rw [lenTo_zero]; rfl⟩
  case round =>
    obtain ⟨k, hk, rfl, rfl⟩ := hrel
    have hle := Hle.out k
    by_cases hlt : k < xss.length
    · obtain ⟨ad, B, cb, rfl, hcell, hl, hrd⟩ := hr.at_ hlt
      have hsucc := Lib.hid (lenTo_succ xss k hlt)
      have hle' := Hle.out (k + 1)
      rw [lenTo_succ xss k hlt] at hle'
      go_wp2
      go_round
      case rel => exact ⟨k + 1, by omega, by go_num, by rw [hsucc.out]; go_num⟩
      case measure => simp [intOf]; omega
    · obtain rfl : k = xss.length := by omega
      rw [Hall.out]
      clear hle
      go_wp2
      go_loopw [6, 24] (fun s i w1 => ∃ (k : Nat) (A' : Option Addr) (c' : Nat), k ≤ xss.length ∧ i = .int .i64 (k : Int) ∧ s = .slice A' (lenTo xss k) c' ∧ New w w1 A' c' (upTo xss k) ∧ Below w.heap.size w w1) (fun _ i _ => xss.length - (intOf i).toNat)
      case atStart => exact ⟨0, _, _, Nat.zero_le _, rfl, rfl, by first | exact New.start w bs.length hb | (rw [Nat.mul_one]; exact New.start w bs.length hb), (Below.refl _ _).alloc (Nat.le_refl _) _⟩
      case round =>
        obtain ⟨k, A', c', hk, rfl, rfl, hnew, hbel⟩ := hrel
        by_cases hlt : k < xss.length
        · obtain ⟨ad, B, cb, rfl, hcell, hl, hrd⟩ := (hr.ext hbel).at_ hlt
          have hsucc := Lib.hid (lenTo_succ xss k hlt)
          have usucc := Lib.hid (upTo_succ xss k hlt)
          have hle' := Hle.out (k + 1)
          rw [lenTo_succ xss k hlt] at hle'
          have hk1 : lenTo xss k + xss[k].length ≤ maxLen := by unfold maxLen; omega
          have hk2 : (lenTo xss k + xss[k].length) * 1 ≤ 140737488355328 := by omega
          have hl0 := Lib.hid (show lenTo xss k = ((upTo xss k).map bv).length by rw [List.length_map]; rfl)
          have hl1 := Lib.hid (show xss[k].length = (xss[k].map bv).length by rw [List.length_map])
          go_wp2_with (at_builtin
                       refine wpList_app _ rfl (.tmp 28) (.tmp 29) _ rfl _ _ 1 Tryd.underlying26 info_u8 rfl A' (lenTo xss k) c' _ rfl ?_ hnew B _ cb (xss[k].map bv) rfl ?_ hrd.1 (bvs_one _) hk1 hk2 ?_
                       · rw [List.length_map]; rfl
                       · rw [List.length_map]
                       intro A2 c2 w2 hown2 honly2)
          go_roundw
          case rel =>
            obtain ⟨g1, g2⟩ := New.grow hbel hown2 honly2
            exact ⟨k + 1, A2, c2, by omega, by go_num, by rw [hsucc.out], by rw [usucc.out]; exact g1, g2⟩
          case measure => simp [intOf]; omega
        · obtain rfl : k = xss.length := by omega
          rw [Hall.out]
          go_wp2
          go_ret
          refine ⟨A', c', rfl, ?_, hbel⟩
          rw [upTo_all, Hbs.out] at hnew
          exact hnew
end Go.Proofs.YtbokimeojhkgmaaDoor
