/-
  Texts of this claim, joined (part 2): contracts and lemmas that the last text goes by. No statement of the seat is proved here.
-/
import Derived.Test.YtmggajpecgnjkaaDoorAll1
import Derived.Test.YtmggajpecgnjkaaDoorAll0
import Derived.Test.YtmggajpecgnjkaaDoorRows
import Derived.ProofKit
import Derived.OpenShut
import Derived.Deep.DeepHandedRow
import Derived.Deep.Matrix
import Derived.LaidLaws
import Derived.Laws.IdiomArrays
import Derived.Deep.Slices
set_option linter.unusedVariables false
set_option linter.unusedSimpArgs false
/-
  Contracts of the reference's repeat, one, Same. No statement of the seat is proved here.
-/
namespace Go.Proofs.YtmggajpecgnjkaaDoor
open Go Go.RowKit
set_option maxRecDepth 100000


set_option maxHeartbeats 1000000 in
theorem rrep_any (lo hi : Int) (w : World) : Calls Tryd.prog 69 #[.int .i64 lo, .int .i64 hi] w fun e w' => e = .returned (.bool (repB lo hi)) ∧ w = w' := by
  obtain ⟨r, hr⟩ : ∃ r, repB lo hi = r := ⟨_, rfl⟩
  rw [hr]
  have Hr : Hid (r = true ↔ 0 ≤ lo ∧ lo ≤ 32 ∧ (hi = -1 ∨ (1 ≤ hi ∧ hi ≤ 32 ∧ lo ≤ hi))) := Lib.hid (by rw [← hr]; simp [repB, and_assoc])
  clear hr
  by_cases h1 : 0 ≤ lo
  · by_cases h2 : lo ≤ 32
    · by_cases h3 : hi = -1
      · have e : r = true := Hr.out.2 ⟨h1, h2, .inl h3⟩
        subst e h3
        clear Hr
        go_enter Tryd.func69, Tryd.ntmps69
        go_wp2
        all_goals (go_ret; exact ⟨by first | rfl | exact ret_bool (by simp; omega), rfl⟩)
      · have h3' : (hi == -1) = false := by simpa using h3
        by_cases h4 : 1 ≤ hi
        · by_cases h5 : hi ≤ 32
          · by_cases h6 : lo ≤ hi
            · have e : r = true := Hr.out.2 ⟨h1, h2, .inr ⟨h4, h5, h6⟩⟩
              subst e
              clear Hr h3
              go_enter Tryd.func69, Tryd.ntmps69
              go_wp2
              all_goals (go_ret; exact ⟨by first | rfl | exact ret_bool (by simp; omega), rfl⟩)
            · have e : r = false := by rw [← Bool.not_eq_true, Hr.out]; omega
              subst e
              have h6' : hi < lo := by omega
              clear Hr h3 h6
              go_enter Tryd.func69, Tryd.ntmps69
              go_wp2
              all_goals (go_ret; exact ⟨by first | rfl | exact ret_bool (by simp; omega), rfl⟩)
          · have e : r = false := by rw [← Bool.not_eq_true, Hr.out]; omega
            subst e
            have h6' : 32 < hi := by omega
            clear Hr h3 h5
            go_enter Tryd.func69, Tryd.ntmps69
            go_wp2
            all_goals (go_ret; exact ⟨by first | rfl | exact ret_bool (by simp; omega), rfl⟩)
        · have e : r = false := by rw [← Bool.not_eq_true, Hr.out]; omega
          subst e
          have h6' : hi < 1 := by omega
          clear Hr h3 h4
          go_enter Tryd.func69, Tryd.ntmps69
          go_wp2
          all_goals (go_ret; exact ⟨by first | rfl | exact ret_bool (by simp; omega), rfl⟩)
    · have e : r = false := by rw [← Bool.not_eq_true, Hr.out]; omega
      subst e
      have h6' : 32 < lo := by omega
      clear Hr h2
      go_enter Tryd.func69, Tryd.ntmps69
      go_wp2
      all_goals (go_ret; exact ⟨by first | rfl | exact ret_bool (by simp; omega), rfl⟩)
  · have e : r = false := by rw [← Bool.not_eq_true, Hr.out]; omega
    subst e
    have h6' : lo < 0 := by omega
    clear Hr h1
    go_enter Tryd.func69, Tryd.ntmps69
    go_wp2
    all_goals (go_ret; exact ⟨by first | rfl | exact ret_bool (by simp; omega), rfl⟩)

set_option maxRecDepth 100000 in
set_option maxHeartbeats 4000000 in
theorem rone_any (S : Nat → Prop) (t : Ex) : ∀ (cs : List Value) (w : World) (deep : Nat), ReR S w t cs → nodesE t ≤ 1000000 → deep ≤ 17 →
    Calls Tryd.prog 46 #[reV cs, .int .i64 (deep : Int)] w fun e w' => e = .returned (.bool (oneE deep t)) ∧ Below w.heap.size w w' := by
  refine ex_induct (p := fun t => ∀ (cs : List Value) (w : World) (deep : Nat), ReR S w t cs → nodesE t ≤ 1000000 → deep ≤ 17 → Calls Tryd.prog 46 #[reV cs, .int .i64 (deep : Int)] w fun e w' => e = .returned (.bool (oneE deep t)) ∧ Below w.heap.size w w') (fun k s ks lo hi ih cs w deep h hn hdp => ?_) t
  rw [reR_iff] at h
  obtain ⟨⟨hk, hs, hlo, hhi⟩, A, c, rfl, h1, h2, h3⟩ := h
  have hln := length_nodesL ks
  have hno : nodesE (.mk k s ks lo hi) = 1 + nodesL ks := by simp [nodesE]
  rw [hno] at hn
  have hli : (ks.length : Int) ≤ 1000000 := by omega
  unfold maxLen at h2
  obtain ⟨r, hr⟩ : ∃ r, oneE deep (.mk k s ks lo hi) = r := ⟨_, rfl⟩
  rw [hr]
  have hz := fun W => eq_sets hs zero_ok W
  obtain ⟨zb, hzb⟩ : ∃ b, decide (s = zeroB) = b := ⟨_, rfl⟩
  rw [hzb] at hz
  have hr2 : (if 16 < deep ∨ (k ≠ 1 ∧ zb = false) ∨ (k ≠ 4 ∧ (lo ≠ 0 ∨ hi ≠ 0)) then false
    else if k = 0 then ks.isEmpty
    else if k = 1 then ks.isEmpty && !zb
    else if k = 2 ∨ k = 3 then decide (2 ≤ ks.length) && oneL (deep + 1) ks
    else if k = 4 then decide (ks.length = 1) && repB lo hi && oneL (deep + 1) ks
    else false) = r := by
    rw [← hr, ← hzb]
    simp [oneE]
  clear hno hr hzb
  have Hr := Lib.hid hr2
  have Hih := Lib.hid ih
  have H3 := Lib.hid h3
  clear ih h3 hr2
  obtain ⟨p0, p1, p2, p3, rfl⟩ := four_words hs
  clear hs hk hlo hhi
  have hB := Blk.new w 27 #[.int .i64 k, .int .u64 (p0 : Int), .int .u64 (p1 : Int), .int .u64 (p2 : Int), .int .u64 (p3 : Int), .slice A ks.length c, .int .i64 lo, .int .i64 hi]
  have hz' : ∀ W, (Op.equalIn 10000 24 (.agg #[.int .u64 (p0 : Int), .int .u64 (p1 : Int), .int .u64 (p2 : Int), .int .u64 (p3 : Int)]) (.agg #[.int .u64 0, .int .u64 0, .int .u64 0, .int .u64 0])).run Tryd.prog W = .ok zb W := hz
  clear hz
  show Calls Tryd.prog 46 #[.agg #[.int .i64 k, .int .u64 (p0 : Int), .int .u64 (p1 : Int), .int .u64 (p2 : Int), .int .u64 (p3 : Int), .slice A ks.length c, .int .i64 lo, .int .i64 hi], .int .i64 (deep : Int)] w _
  rcases Nat.lt_or_ge 16 deep with hd | hd
  · have hdi : (16 : Int) < (deep : Int) := by omega
    go_enter Tryd.func46, Tryd.ntmps46
    go_wp2
    all_goals
      go_ret
      exact ⟨ret_bool (by rw [← Hr.out]; rw [if_pos (.inl hd)]), (Below.refl _ _).alloc (Nat.le_refl _) _⟩

  have hdi : (deep : Int) ≤ 16 := by omega
  have HRep := Lib.hid fun W => rrep_any lo hi W
  have hd' : ¬ 16 < deep := by omega
  cases zb with
  | false =>
    by_cases hk1 : k = 1
    · subst hk1
      by_cases hlo : lo = 0
      · subst hlo
        by_cases hhi : hi = 0
        · subst hhi
          by_cases hle : ks.length = 0
          · have he : ks = [] := List.eq_nil_of_length_eq_zero hle
            subst he
            clear hle
            go_enter Tryd.func46, Tryd.ntmps46
            go_wp2
            all_goals
              go_ret
              exact ⟨ret_bool (by rw [← Hr.out]; simp [hd']), (Below.refl _ _).alloc (Nat.le_refl _) _⟩
          · have hlp : (0 : Int) < (ks.length : Int) := by omega
            have hle' : ((ks.length : Int) == 0) = false := by rw [beq_eq_false_iff_ne]; omega
            have hemp : ks.isEmpty = false := by cases ks <;> simp_all
            have Hemp := Lib.hid hemp
            clear hle hemp
            go_enter Tryd.func46, Tryd.ntmps46
            go_wp2
            all_goals
              go_ret
              exact ⟨ret_bool (by rw [← Hr.out]; simp [hd', Hemp.out]), (Below.refl _ _).alloc (Nat.le_refl _) _⟩
        · have hh : (hi != 0) = true := by simpa using hhi
          have Hhi := Lib.hid hhi
          clear hhi
          go_enter Tryd.func46, Tryd.ntmps46
          go_wp2
          all_goals
            go_ret
            exact ⟨ret_bool (by rw [← Hr.out]; rw [if_pos (.inr (.inr ⟨by decide, .inr Hhi.out⟩))]), (Below.refl _ _).alloc (Nat.le_refl _) _⟩
      · have hh : (lo != 0) = true := by simpa using hlo
        have Hlo := Lib.hid hlo
        clear hlo
        go_enter Tryd.func46, Tryd.ntmps46
        go_wp2
        all_goals
          go_ret
          exact ⟨ret_bool (by rw [← Hr.out]; rw [if_pos (.inr (.inr ⟨by decide, .inl Hlo.out⟩))]), (Below.refl _ _).alloc (Nat.le_refl _) _⟩
    · have hh : (k != 1) = true := by simpa using hk1
      have Hk1 := Lib.hid hk1
      clear hk1
      go_enter Tryd.func46, Tryd.ntmps46
      go_wp2
      all_goals
        go_ret
        exact ⟨ret_bool (by rw [← Hr.out]; rw [if_pos (.inr (.inl ⟨Hk1.out, by trivial⟩))]), (Below.refl _ _).alloc (Nat.le_refl _) _⟩
  | true =>
    by_cases hk4 : k = 4
    · subst hk4
      have Hr' : Hid ((decide (ks.length = 1) && repB lo hi && oneL (deep + 1) ks) = r) := Lib.hid (by rw [← Hr.out]; simp [hd'])
      clear Hr
      by_cases hle : ks.length = 1
      · have hle' : ((ks.length : Int) != 1) = false := by simp <;> omega
        obtain ⟨rb, hrb⟩ : ∃ b, repB lo hi = b := ⟨_, rfl⟩
        rw [hrb] at HRep
        cases rb with
        | true =>
          have HrL : Hid (oneL (deep + 1) ks = r) := Lib.hid (by rw [← Hr'.out, hrb]; simp [hle])
          clear hle hrb Hr'
          go_enter Tryd.func46, Tryd.ntmps46
          go_wp2_with (first | (go_at_call 69; (with_reducible refine (HRep.out _).mono ?_); rintro e w' ⟨rfl, rfl⟩))
          go_loopw [5] (fun i wr => ∃ j : Nat, j ≤ ks.length ∧ i = .int .i64 (j : Int) ∧ oneL (deep + 1) (ks.take j) = true ∧ Blk wr w.heap.size 27 #[.int .i64 4, .int .u64 (p0 : Int), .int .u64 (p1 : Int), .int .u64 (p2 : Int), .int .u64 (p3 : Int), .slice A ks.length c, .int .i64 lo, .int .i64 hi] ∧ Below w.heap.size w wr) (fun i _ => ks.length - (intOf i).toNat)
          case atStart => exact ⟨0, Nat.zero_le _, rfl, by simp [oneL], hB, (Below.refl _ _).alloc (Nat.le_refl _) _⟩
          case round =>
            obtain ⟨j, hj, rfl, hall, hB, hb⟩ := hrel
            have c5 := hB.cell 5
            by_cases hlt : j < ks.length
            · have hji : (j : Int) < (ks.length : Int) := by omega
              obtain ⟨g, o, u0, u1, u2, u3, u4, u5, u6, u7, rfl, hr, x0, x1, x2, x3, x4, x5, x6, x7, -⟩ := (H3.out.ext hb).kid hlt
              have hmem := nodesL_mem (List.getElem_mem hlt)
              obtain ⟨q, hq⟩ : ∃ q, oneE (deep + 1) ks[j] = q := ⟨_, rfl⟩
              have hcall : ∀ W, Below wr.heap.size wr W → Calls Tryd.prog 46 #[.agg #[u0, u1, u2, u3, u4, u5, u6, u7], .int .i64 ((deep : Int) + 1)] W fun e w' => e = .returned (.bool q) ∧ Below W.heap.size W w' := fun W hW => by
                have := Hih.out _ (List.getElem_mem hlt) _ W (deep + 1) (hr.ext hW) (by omega) (by omega)
                rw [hq] at this
                exact this
              have Hc := Lib.hid hcall
              have HB := Lib.hid hB
              have Hall := Lib.hid hall
              have Hq := Lib.hid hq
              clear hcall hB hr hall hq c5
              have c5 := HB.out.cell 5
              go_wp2_with fail
              refine (Hc.out _ (Below.refl _ _)).mono ?_
              rintro e w2 ⟨rfl, hb2⟩
              cases q with
              | true =>
                go_wp2
                go_roundw
                case rel => exact ⟨j + 1, by omega, by go_num, by rw [List.take_succ_eq_append_getElem hlt, oneL_all, List.all_append, ← oneL_all, Hall.out]; simp [Hq.out], HB.out.ext hb2, ext_trans hb hb2⟩
                case measure => simp [intOf]; omega
              | false =>
                go_wp2
                go_ret
                exact ⟨ret_bool (by rw [← HrL.out, oneL_all, Eq.comm, ← Bool.not_eq_true, List.all_eq_true]; intro h; have := h _ (List.getElem_mem hlt); rw [Hq.out] at this; cases this), ext_trans hb hb2⟩
            · obtain rfl : j = ks.length := by omega
              rw [List.take_length] at hall
              have Hall := Lib.hid hall
              clear hall
              go_wp2
              go_ret
              exact ⟨ret_bool (by rw [← HrL.out, Hall.out]), hb⟩
        | false =>
          have Hr : Hid (false = r) := Lib.hid (by rw [← Hr'.out, hrb]; simp)
          clear hle hrb Hr'
          go_enter Tryd.func46, Tryd.ntmps46
          go_wp2_with (first | (go_at_call 69; (with_reducible refine (HRep.out _).mono ?_); rintro e w' ⟨rfl, rfl⟩))
          all_goals
            go_ret
            exact ⟨ret_bool (by rw [← Hr.out]), (Below.refl _ _).alloc (Nat.le_refl _) _⟩
      · have hle' : ((ks.length : Int) != 1) = true := by simp <;> omega
        have Hr : Hid (false = r) := Lib.hid (by rw [← Hr'.out]; simp [hle])
        clear hle Hr'
        go_enter Tryd.func46, Tryd.ntmps46
        go_wp2
        all_goals
          go_ret
          exact ⟨ret_bool (by rw [← Hr.out]), (Below.refl _ _).alloc (Nat.le_refl _) _⟩
    · have hh4 : (k != 4) = true := by simpa using hk4
      have hk4' : (k == 4) = false := by simpa using hk4
      by_cases hl : lo = 0 ∧ hi = 0
      · obtain ⟨rfl, rfl⟩ := hl
        by_cases hk0 : k = 0
        · subst hk0
          clear hk4 hk4' hh4
          by_cases hle : ks.length = 0
          · have he : ks = [] := List.eq_nil_of_length_eq_zero hle
            subst he
            clear hle
            go_enter Tryd.func46, Tryd.ntmps46
            go_wp2
            all_goals
              go_ret
              exact ⟨ret_bool (by rw [← Hr.out]; simp [hd']), (Below.refl _ _).alloc (Nat.le_refl _) _⟩
          · have hlp : (0 : Int) < (ks.length : Int) := by omega
            have hle' : ((ks.length : Int) == 0) = false := by rw [beq_eq_false_iff_ne]; omega
            have hemp : ks.isEmpty = false := by cases ks <;> simp_all
            have Hemp := Lib.hid hemp
            clear hle hemp
            go_enter Tryd.func46, Tryd.ntmps46
            go_wp2
            all_goals
              go_ret
              exact ⟨ret_bool (by rw [← Hr.out]; simp [hd', Hemp.out]), (Below.refl _ _).alloc (Nat.le_refl _) _⟩
        have hk0' : (k == 0) = false := by simpa using hk0
        by_cases hk1 : k = 1
        · subst hk1
          clear hk4 hk4' hh4 hk0 hk0'
          go_enter Tryd.func46, Tryd.ntmps46
          go_wp2
          all_goals
            go_ret
            exact ⟨ret_bool (by rw [← Hr.out]; simp [hd']), (Below.refl _ _).alloc (Nat.le_refl _) _⟩
        have hk1' : (k == 1) = false := by simpa using hk1
        have hh1 : (k != 1) = true := by simpa using hk1
        by_cases hk2 : k = 2
        · subst hk2
          have Hr' : Hid ((decide (2 ≤ ks.length) && oneL (deep + 1) ks) = r) := Lib.hid (by rw [← Hr.out]; simp [hd'])
          clear hk4 hk4' hh4 hk0 hk0' hk1 hk1' hh1 Hr
          by_cases hle : ks.length < 2
          · have hlei : (ks.length : Int) < 2 := by omega
            have Hr : Hid (false = r) := Lib.hid (by rw [← Hr'.out, decide_eq_false (by omega)]; simp)
            clear Hr'
            go_enter Tryd.func46, Tryd.ntmps46
            go_wp2
            all_goals
              go_ret
              exact ⟨ret_bool (by rw [← Hr.out]), (Below.refl _ _).alloc (Nat.le_refl _) _⟩
          · have hlei : (2 : Int) ≤ (ks.length : Int) := by omega
            have HrL : Hid (oneL (deep + 1) ks = r) := Lib.hid (by rw [← Hr'.out, decide_eq_true (by omega)]; simp)
            clear Hr' hle
            go_enter Tryd.func46, Tryd.ntmps46
            go_wp2_with (first | (go_at_call 69; (with_reducible refine (HRep.out _).mono ?_); rintro e w' ⟨rfl, rfl⟩))
            go_loopw [5] (fun i wr => ∃ j : Nat, j ≤ ks.length ∧ i = .int .i64 (j : Int) ∧ oneL (deep + 1) (ks.take j) = true ∧ Blk wr w.heap.size 27 #[.int .i64 2, .int .u64 (p0 : Int), .int .u64 (p1 : Int), .int .u64 (p2 : Int), .int .u64 (p3 : Int), .slice A ks.length c, .int .i64 0, .int .i64 0] ∧ Below w.heap.size w wr) (fun i _ => ks.length - (intOf i).toNat)
            case atStart => exact ⟨0, Nat.zero_le _, rfl, by simp [oneL], hB, (Below.refl _ _).alloc (Nat.le_refl _) _⟩
            case round =>
              obtain ⟨j, hj, rfl, hall, hB, hb⟩ := hrel
              have c5 := hB.cell 5
              by_cases hlt : j < ks.length
              · have hji : (j : Int) < (ks.length : Int) := by omega
                obtain ⟨g, o, u0, u1, u2, u3, u4, u5, u6, u7, rfl, hr, x0, x1, x2, x3, x4, x5, x6, x7, -⟩ := (H3.out.ext hb).kid hlt
                have hmem := nodesL_mem (List.getElem_mem hlt)
                obtain ⟨q, hq⟩ : ∃ q, oneE (deep + 1) ks[j] = q := ⟨_, rfl⟩
                have hcall : ∀ W, Below wr.heap.size wr W → Calls Tryd.prog 46 #[.agg #[u0, u1, u2, u3, u4, u5, u6, u7], .int .i64 ((deep : Int) + 1)] W fun e w' => e = .returned (.bool q) ∧ Below W.heap.size W w' := fun W hW => by
                  have := Hih.out _ (List.getElem_mem hlt) _ W (deep + 1) (hr.ext hW) (by omega) (by omega)
                  rw [hq] at this
                  exact this
                have Hc := Lib.hid hcall
                have HB := Lib.hid hB
                have Hall := Lib.hid hall
                have Hq := Lib.hid hq
                clear hcall hB hr hall hq c5
                have c5 := HB.out.cell 5
                go_wp2_with fail
                refine (Hc.out _ (Below.refl _ _)).mono ?_
                rintro e w2 ⟨rfl, hb2⟩
                cases q with
                | true =>
                  go_wp2
                  go_roundw
                  case rel => exact ⟨j + 1, by omega, by go_num, by rw [List.take_succ_eq_append_getElem hlt, oneL_all, List.all_append, ← oneL_all, Hall.out]; simp [Hq.out], HB.out.ext hb2, ext_trans hb hb2⟩
                  case measure => simp [intOf]; omega
                | false =>
                  go_wp2
                  go_ret
                  exact ⟨ret_bool (by rw [← HrL.out, oneL_all, Eq.comm, ← Bool.not_eq_true, List.all_eq_true]; intro h; have := h _ (List.getElem_mem hlt); rw [Hq.out] at this; cases this), ext_trans hb hb2⟩
              · obtain rfl : j = ks.length := by omega
                rw [List.take_length] at hall
                have Hall := Lib.hid hall
                clear hall
                go_wp2
                go_ret
                exact ⟨ret_bool (by rw [← HrL.out, Hall.out]), hb⟩
        have hk2' : (k == 2) = false := by simpa using hk2
        by_cases hk3 : k = 3
        · subst hk3
          have Hr' : Hid ((decide (2 ≤ ks.length) && oneL (deep + 1) ks) = r) := Lib.hid (by rw [← Hr.out]; simp [hd'])
          clear hk4 hk4' hh4 hk0 hk0' hk1 hk1' hh1 hk2 hk2' Hr
          by_cases hle : ks.length < 2
          · have hlei : (ks.length : Int) < 2 := by omega
            have Hr : Hid (false = r) := Lib.hid (by rw [← Hr'.out, decide_eq_false (by omega)]; simp)
            clear Hr'
            go_enter Tryd.func46, Tryd.ntmps46
            go_wp2
            all_goals
              go_ret
              exact ⟨ret_bool (by rw [← Hr.out]), (Below.refl _ _).alloc (Nat.le_refl _) _⟩
          · have hlei : (2 : Int) ≤ (ks.length : Int) := by omega
            have HrL : Hid (oneL (deep + 1) ks = r) := Lib.hid (by rw [← Hr'.out, decide_eq_true (by omega)]; simp)
            clear Hr' hle
            go_enter Tryd.func46, Tryd.ntmps46
            go_wp2_with (first | (go_at_call 69; (with_reducible refine (HRep.out _).mono ?_); rintro e w' ⟨rfl, rfl⟩))
            go_loopw [5] (fun i wr => ∃ j : Nat, j ≤ ks.length ∧ i = .int .i64 (j : Int) ∧ oneL (deep + 1) (ks.take j) = true ∧ Blk wr w.heap.size 27 #[.int .i64 3, .int .u64 (p0 : Int), .int .u64 (p1 : Int), .int .u64 (p2 : Int), .int .u64 (p3 : Int), .slice A ks.length c, .int .i64 0, .int .i64 0] ∧ Below w.heap.size w wr) (fun i _ => ks.length - (intOf i).toNat)
            case atStart => exact ⟨0, Nat.zero_le _, rfl, by simp [oneL], hB, (Below.refl _ _).alloc (Nat.le_refl _) _⟩
            case round =>
              obtain ⟨j, hj, rfl, hall, hB, hb⟩ := hrel
              have c5 := hB.cell 5
              by_cases hlt : j < ks.length
              · have hji : (j : Int) < (ks.length : Int) := by omega
                obtain ⟨g, o, u0, u1, u2, u3, u4, u5, u6, u7, rfl, hr, x0, x1, x2, x3, x4, x5, x6, x7, -⟩ := (H3.out.ext hb).kid hlt
                have hmem := nodesL_mem (List.getElem_mem hlt)
                obtain ⟨q, hq⟩ : ∃ q, oneE (deep + 1) ks[j] = q := ⟨_, rfl⟩
                have hcall : ∀ W, Below wr.heap.size wr W → Calls Tryd.prog 46 #[.agg #[u0, u1, u2, u3, u4, u5, u6, u7], .int .i64 ((deep : Int) + 1)] W fun e w' => e = .returned (.bool q) ∧ Below W.heap.size W w' := fun W hW => by
                  have := Hih.out _ (List.getElem_mem hlt) _ W (deep + 1) (hr.ext hW) (by omega) (by omega)
                  rw [hq] at this
                  exact this
                have Hc := Lib.hid hcall
                have HB := Lib.hid hB
                have Hall := Lib.hid hall
                have Hq := Lib.hid hq
                clear hcall hB hr hall hq c5
                have c5 := HB.out.cell 5
                go_wp2_with fail
                refine (Hc.out _ (Below.refl _ _)).mono ?_
                rintro e w2 ⟨rfl, hb2⟩
                cases q with
                | true =>
                  go_wp2
                  go_roundw
                  case rel => exact ⟨j + 1, by omega, by go_num, by rw [List.take_succ_eq_append_getElem hlt, oneL_all, List.all_append, ← oneL_all, Hall.out]; simp [Hq.out], HB.out.ext hb2, ext_trans hb hb2⟩
                  case measure => simp [intOf]; omega
                | false =>
                  go_wp2
                  go_ret
                  exact ⟨ret_bool (by rw [← HrL.out, oneL_all, Eq.comm, ← Bool.not_eq_true, List.all_eq_true]; intro h; have := h _ (List.getElem_mem hlt); rw [Hq.out] at this; cases this), ext_trans hb hb2⟩
              · obtain rfl : j = ks.length := by omega
                rw [List.take_length] at hall
                have Hall := Lib.hid hall
                clear hall
                go_wp2
                go_ret
                exact ⟨ret_bool (by rw [← HrL.out, Hall.out]), hb⟩
        have hk3' : (k == 3) = false := by simpa using hk3
        have Hr' : Hid (false = r) := Lib.hid (by rw [← Hr.out]; simp [hd', hk0, hk1, hk2, hk3, hk4])
        clear hk4 hk0 hk1 hk2 hk3 Hr
        have Hr := Hr'
        go_enter Tryd.func46, Tryd.ntmps46
        go_wp2
        all_goals
          go_ret
          exact ⟨ret_bool (by rw [← Hr.out]), (Below.refl _ _).alloc (Nat.le_refl _) _⟩
      · have Hr' : Hid (false = r) := Lib.hid (by rw [← Hr.out, if_pos (.inr (.inr ⟨hk4, by omega⟩))])
        clear Hr hk4
        have Hr := Hr'
        clear Hr'
        by_cases hlo : lo = 0
        · subst hlo
          have hh : (hi != 0) = true := by simp <;> omega
          clear hl
          go_enter Tryd.func46, Tryd.ntmps46
          go_wp2
          all_goals
            go_ret
            exact ⟨ret_bool (by rw [← Hr.out]), (Below.refl _ _).alloc (Nat.le_refl _) _⟩
        · have hh : (lo != 0) = true := by simpa using hlo
          clear hl hlo
          go_enter Tryd.func46, Tryd.ntmps46
          go_wp2
          all_goals
            go_ret
            exact ⟨ret_bool (by rw [← Hr.out]), (Below.refl _ _).alloc (Nat.le_refl _) _⟩
end Go.Proofs.YtmggajpecgnjkaaDoor

/-
  Contract of place. No statement of the seat is proved here.
-/
namespace Go.Proofs.YtmggajpecgnjkaaDoor
open Go Go.RowKit
set_option maxRecDepth 100000


theorem place_any (b : Nat) (hb : b < 256) (w : World) :
    Calls Tryd.prog 70 #[.int .u8 (b : Int)] w fun e w' => e = .returned (.tuple #[.int .i64 ((b / 64 : Nat) : Int), .int .u64 ((2 ^ (b % 64) : Nat) : Int)]) ∧ w = w' := by
  go_enter Tryd.func70, Tryd.ntmps70
  go_wp2
  rw [shl_bit]
  go_ret2
  exact ⟨rfl, rfl⟩

end Go.Proofs.YtmggajpecgnjkaaDoor

/-
  Contract of Of. No statement of the seat is proved here.
-/
namespace Go.Proofs.YtmggajpecgnjkaaDoor
open Go Go.RowKit
set_option maxRecDepth 100000


set_option maxHeartbeats 1000000 in
theorem of_any (A : Option Addr) (n c : Nat) (l : List Nat) (w : World) (hn : n = l.length) (hl : ∀ b ∈ l, b < 256) (hb : l.length ≤ 1000000) (hr : Rd w A (l.map nb)) :
    Calls Tryd.prog 52 #[.slice A n c] w fun e w' => e = .returned (setV (ofB l)) ∧ Below w.heap.size w w' := by
  subst hn
  have hz := zeros_set
  have hbi : (l.length : Int) ≤ 1000000 := by omega
  unfold setV
  go_enter Tryd.func52, Tryd.ntmps52
  go_wp2
  go_loopw [5, 6, 7, 10] (fun _ _ _ i wr => ∃ (k : Nat) (us : List Nat), k ≤ l.length ∧ i = .int .i64 (k : Int) ∧ us = ofB (l.take k) ∧ Blk wr (w.heap.size + 1) 24 (cellsU us) ∧ Blk wr w.heap.size 24 (cellsU zeroB) ∧ Below w.heap.size w wr) (fun _ _ _ i _ => l.length - (intOf i).toNat)
  case atStart =>
    refine ⟨0, zeroB, by omega, rfl, rfl, ?_, ?_, ext2 w _ _⟩
    · have := Blk.new (w.alloc (Obj.cells (cellsU zeroB) 24)) 24 (cellsU zeroB)
      simpa using this
    · exact (Blk.new w 24 (cellsU zeroB)).alloc (Obj.cells (cellsU zeroB) 24)
  case round =>
    obtain ⟨k, us, hk, rfl, hus, hT, hR, hbel⟩ := hrel
    have husok : SetOk us := by rw [hus]; exact ofB_ok _
    by_cases hlt : k < l.length
    · have hki : (k : Int) < (l.length : Int) := by omega
      obtain ⟨ad, rfl, hc⟩ := (hr.ext hbel).at_ (k := k) (by simpa using hlt)
      simp only [List.getElem_map, nb] at hc
      have hbl := hl l[k] (List.getElem_mem hlt)
      have hsn : setB us l[k] = ofB (l.take (k + 1)) := by rw [hus, take_snoc l k hlt, ofB_snoc]
      have Hsn := Lib.hid hsn
      have Hus := Lib.hid hus
      clear hsn hus
      generalize l[k] = b at hc hbl Hsn
      have hi4 : b / 64 < 4 := by omega
      have hcell : wr.cell? ⟨w.heap.size + 1, b / 64, none⟩ = some (.int .u64 (wordB us (b / 64) : Int)) := (hT.cell _).trans (cellsU_at husok hi4)
      have hfree := hT.free (b / 64)
      have hor := or_key (wordB us (b / 64)) (2 ^ (b % 64)) (husok.wlt _) (two_pow_lt b)
      have hT' := hT.put (b / 64) (.int .u64 ((wordB us (b / 64) ||| 2 ^ (b % 64) : Nat) : Int))
      rw [cellsU_set] at hT'
      have HT' := Lib.hid hT'
      have HT := Lib.hid hT
      have hcall := place_any b hbl wr
      have hset : us.set (b / 64) (wordB us (b / 64) ||| 2 ^ (b % 64)) = setB us b := rfl
      have Hset := Lib.hid hset
      clear hT' hT hset
      generalize 2 ^ (b % 64) = bit at hor HT' hcall Hset
      generalize wordB us (b / 64) ||| bit = x at hor HT' Hset
      generalize b / 64 = j at hi4 hcell hfree hor HT' hcall Hset
      go_wp2_with fail
      refine hcall.mono ?_
      rintro e w2 ⟨rfl, rfl⟩
      clear hcall
      go_wp2
      go_roundw
      case rel =>
        refine ⟨k + 1, us.set j x, by omega, by go_num, Hset.out.trans Hsn.out, HT'.out, hR.far (by simp) _, hbel.setCell (by simp) _⟩
      case measure => simp [intOf]; omega
    · obtain rfl : k = l.length := by omega
      rw [List.take_length] at hus
      subst hus
      have hi := size_set husok
      go_wp2_with (first | (refine wpList_load_set rfl _ rfl (w.heap.size + 1) rfl husok hT ?_) | (refine wpList_store_set rfl _ _ rfl w.heap.size rfl rfl husok zero_ok hR ?_; intro w2 hB2 _ _ hbel2))
      exact bodyPost_ret (results_cell rfl _ _ w.heap.size 24 _ 4 22 rfl hB2 Tryd.underlying24 hi) rfl ⟨rfl, hbel.trans (hbel2 _ (by omega))⟩

end Go.Proofs.YtmggajpecgnjkaaDoor

/-
  Contract of Range. No statement of the seat is proved here.
-/
namespace Go.Proofs.YtmggajpecgnjkaaDoor
open Go Go.RowKit
set_option maxRecDepth 100000


set_option maxHeartbeats 1000000 in
theorem range_any (lo hi : Nat) (w : World) (h1 : lo < 256) (h2 : hi < 256) :
    Calls Tryd.prog 92 #[.int .u8 (lo : Int), .int .u8 (hi : Int)] w fun e w' => e = .returned (setV (ofB (rangeB lo hi))) ∧ Below w.heap.size w w' := by
  have hz := zeros_set
  unfold setV
  go_enter Tryd.func92, Tryd.ntmps92
  go_wp2
  go_loopw [6, 7, 8] (fun i _ _ wr => ∃ (k : Nat) (us : List Nat), k ≤ hi + 1 - lo ∧ i = .int .i64 ((lo + k : Nat) : Int) ∧ us = ofB (fromN lo k) ∧ Blk wr (w.heap.size + 1) 24 (cellsU us) ∧ Blk wr w.heap.size 24 (cellsU zeroB) ∧ Below w.heap.size w wr) (fun i _ _ _ => hi + 1 - (intOf i).toNat)
  case atStart =>
    refine ⟨0, zeroB, by omega, rfl, rfl, ?_, ?_, ext2 w _ _⟩
    · have := Blk.new (w.alloc (Obj.cells (cellsU zeroB) 24)) 24 (cellsU zeroB)
      simpa using this
    · exact (Blk.new w 24 (cellsU zeroB)).alloc (Obj.cells (cellsU zeroB) 24)
  case round =>
    obtain ⟨k, us, hk, rfl, hus, hT, hR, hbel⟩ := hrel
    have husok : SetOk us := by rw [hus]; exact ofB_ok _
    by_cases hlt : k < hi + 1 - lo
    · have hsn : setB us (lo + k) = ofB (fromN lo (k + 1)) := by rw [hus, fromN_succ, ofB_snoc]
      have Hsn := Lib.hid hsn
      have Hus := Lib.hid hus
      clear hsn hus
      obtain ⟨b, hbe⟩ : ∃ b, lo + k = b := ⟨_, rfl⟩
      rw [hbe] at Hsn ⊢
      have hbl : b < 256 := by omega
      have hle : (b : Int) ≤ (hi : Int) := by omega
      have hi4 : b / 64 < 4 := by omega
      have hcell : wr.cell? ⟨w.heap.size + 1, b / 64, none⟩ = some (.int .u64 (wordB us (b / 64) : Int)) := (hT.cell _).trans (cellsU_at husok hi4)
      have hfree := hT.free (b / 64)
      have hor := or_key (wordB us (b / 64)) (2 ^ (b % 64)) (husok.wlt _) (two_pow_lt b)
      have hT' := hT.put (b / 64) (.int .u64 ((wordB us (b / 64) ||| 2 ^ (b % 64) : Nat) : Int))
      rw [cellsU_set] at hT'
      have HT' := Lib.hid hT'
      have HT := Lib.hid hT
      have hcall := place_any b hbl wr
      have hset : us.set (b / 64) (wordB us (b / 64) ||| 2 ^ (b % 64)) = setB us b := rfl
      have Hset := Lib.hid hset
      have Hbe := Lib.hid hbe
      clear hT' hT hset hbe
      generalize 2 ^ (b % 64) = bit at hor HT' hcall Hset
      generalize wordB us (b / 64) ||| bit = x at hor HT' Hset
      generalize b / 64 = j at hi4 hcell hfree hor HT' hcall Hset
      go_wp2_with fail
      refine hcall.mono ?_
      rintro e w2 ⟨rfl, rfl⟩
      clear hcall
      go_wp2
      go_roundw
      case rel =>
        refine ⟨k + 1, us.set j x, by omega, ?_, Hset.out.trans Hsn.out, HT'.out, hR.far (by simp) _, hbel.setCell (by simp) _⟩
        have := Hbe.out
        rw [← Nat.add_assoc, this]
        go_num
      case measure =>
        have := Hbe.out
        simp [intOf]; omega
    · obtain rfl : k = hi + 1 - lo := by omega
      have husE : us = ofB (rangeB lo hi) := hus
      subst husE
      have hi' := size_set husok
      have hgt : ¬ ((lo + (hi + 1 - lo) : Nat) : Int) ≤ (hi : Int) := by omega
      generalize lo + (hi + 1 - lo) = b at hgt ⊢
      clear hus
      go_wp2_with (first | (refine wpList_load_set rfl _ rfl (w.heap.size + 1) rfl husok hT ?_) | (refine wpList_store_set rfl _ _ rfl w.heap.size rfl rfl husok zero_ok hR ?_; intro w2 hB2 _ _ hbel2))
      exact bodyPost_ret (results_cell rfl _ _ w.heap.size 24 _ 4 22 rfl hB2 Tryd.underlying24 hi') rfl ⟨rfl, hbel.trans (hbel2 _ (by omega))⟩
end Go.Proofs.YtmggajpecgnjkaaDoor

/-
  Words for lists of sets. No statement of the seat is proved here.
-/
namespace Go.Proofs.YtmggajpecgnjkaaDoor
open Go Go.RowKit
set_option maxRecDepth 100000



def cellsS (l : List (List Nat)) : List Value := l.flatMap fun ws => ws.map uv
theorem cellsS_append (a b : List (List Nat)) : cellsS (a ++ b) = cellsS a ++ cellsS b := by unfold cellsS; rw [List.flatMap_append]
theorem cellsS_length {l : List (List Nat)} (h : ∀ x ∈ l, SetOk x) : (cellsS l).length = l.length * 4 := by
  induction l with
  | nil => rfl
  | cons x r ih =>
    have e : cellsS (x :: r) = x.map uv ++ cellsS r := rfl
    rw [e, List.length_append, ih (fun y hy => h y (by simp [hy])), List.length_map, (h x (by simp)).len, List.length_cons]
    omega
theorem cellsS_one (l : List (List Nat)) : ∀ u ∈ cellsS l, u.oneCell' = true := by
  intro u hu
  obtain ⟨x, _, hx⟩ := List.mem_flatMap.1 hu
  obtain ⟨y, _, rfl⟩ := List.mem_map.1 hx
  rfl
/-- a list of sets in memory -/
structure SetsR (w : World) (A : Option Addr) (l : List (List Nat)) : Prop where
  flat : l ≠ [] → Flat A
  rd : Rd w A (cellsS l)
  ok : ∀ x ∈ l, SetOk x
theorem SetsR.ext {w w' : World} {A : Option Addr} {l : List (List Nat)} (h : SetsR w A l) (hb : Below w.heap.size w w') : SetsR w' A l := ⟨h.flat, h.rd.ext hb, h.ok⟩
theorem cellsS_at {l : List (List Nat)} (h : ∀ x ∈ l, SetOk x) {k j : Nat} (hk : k < l.length) (hj : j < 4) : (cellsS l)[k * 4 + j]? = some (.int .u64 (wordB l[k] j : Int)) := by
  have hx := h l[k] (List.getElem_mem hk)
  have e : cellsS l = cellsS (l.take k) ++ (l[k].map uv ++ cellsS (l.drop (k + 1))) := by
    conv => lhs; rw [← List.take_append_drop k l, cellsS_append, List.drop_eq_getElem_cons hk]
    rfl
  have hl : (cellsS (l.take k)).length = k * 4 := by
    rw [cellsS_length (fun x hx => h x (List.mem_of_mem_take hx)), List.length_take]
    congr 1; omega
  rw [e, List.getElem?_append_right (by omega), hl, Nat.add_sub_cancel_left, List.getElem?_append_left (by rw [List.length_map, hx.len]; exact hj), List.getElem?_map, hx.at_ hj]
  rfl
theorem SetsR.cells {w : World} {A : Option Addr} {l : List (List Nat)} (h : SetsR w A l) {k : Nat} (hk : k < l.length) :
    ∃ g o, A = some ⟨g, o, none⟩ ∧ ∀ j, j < 4 → w.cell? ⟨g, o + k * 4 + j, none⟩ = some (.int .u64 (wordB l[k] j : Int)) := by
  have hx := h.ok l[k] (List.getElem_mem hk)
  obtain ⟨ad, e, _⟩ := h.rd _ _ (cellsS_at h.ok hk (j := 0) (by omega))
  obtain ⟨g, o, rfl⟩ := h.flat (by rintro rfl; simp at hk) ad e
  refine ⟨g, o, e, fun j hj => ?_⟩
  obtain ⟨ad', e', c⟩ := h.rd _ _ (cellsS_at h.ok hk hj)
  rw [e] at e'
  injection e' with e'
  subst e'
  rw [Addr.add_mid, ← Nat.add_assoc] at c
  exact c
theorem SetsR.range {w : World} {A : Option Addr} {l : List (List Nat)} (h : SetsR w A l) {k : Nat} (hk : k < l.length) : ∃ g o, A = some ⟨g, o, none⟩ ∧ w.rangeAt g (o + k * 4) (l[k].map uv) := by
  obtain ⟨g, o, e, hc⟩ := h.cells hk
  have hx := h.ok l[k] (List.getElem_mem hk)
  refine ⟨g, o, e, fun j v hv => ?_⟩
  have hj : j < 4 := by
    have := (List.getElem?_eq_some_iff.1 hv).1
    rwa [List.length_map, hx.len] at this
  rw [hc j hj]
  rw [List.getElem?_map, hx.at_ hj] at hv
  injection hv with hv
  rw [← hv]
  rfl
theorem size_four {ws : List Nat} (h : SetOk ws) : (Tryd.prog.info? 24).map (·.size) = some (ws.map uv).length := by
  rw [List.length_map, h.len]; kernel_rfl
theorem and_key (x y : Nat) (hx : x < 18446744073709551616) (hy : y < 18446744073709551616) : bits BinOp.and IntKind.u64 (x : Int) (y : Int) = ((x &&& y : Nat) : Int) := bits_and_u64_nat x y hx hy

end Go.Proofs.YtmggajpecgnjkaaDoor

/-
  Contract of Join. No statement of the seat is proved here.
-/
namespace Go.Proofs.YtmggajpecgnjkaaDoor
open Go Go.RowKit
set_option maxRecDepth 100000


set_option maxHeartbeats 2000000 in
theorem join_any (A : Option Addr) (n c : Nat) (l : List (List Nat)) (w : World) (hn : n = l.length) (hb : l.length ≤ 1000000) (hr : SetsR w A l) :
    Calls Tryd.prog 113 #[.slice A n c] w fun e w' => e = .returned (setV (joinB l)) ∧ Below w.heap.size w w' := by
  subst hn
  have hz := zeros_set
  have hbi : (l.length : Int) ≤ 1000000 := by omega
  unfold setV
  go_enter Tryd.func113, Tryd.ntmps113
  go_wp2
  go_loopw [5, 6, 7, 10] (fun _ _ _ i wr => ∃ (k : Nat) (us : List Nat), k ≤ l.length ∧ i = .int .i64 (k : Int) ∧ us = joinB (l.take k) ∧ Blk wr (w.heap.size + 1) 24 (cellsU us) ∧ Blk wr w.heap.size 24 (cellsU zeroB) ∧ Below w.heap.size w wr) (fun _ _ _ i _ => l.length - (intOf i).toNat)
  case atStart =>
    refine ⟨0, zeroB, by omega, rfl, rfl, ?_, ?_, ext2 w _ _⟩
    · have := Blk.new (w.alloc (Obj.cells (cellsU zeroB) 24)) 24 (cellsU zeroB)
      simpa using this
    · exact (Blk.new w 24 (cellsU zeroB)).alloc (Obj.cells (cellsU zeroB) 24)
  case round =>
    obtain ⟨k, us, hk, rfl, hus, hT, hR, hbel⟩ := hrel
    have husok : SetOk us := by rw [hus]; exact join_ok fun x hx => hr.ok x (List.mem_of_mem_take hx)
    by_cases hlt : k < l.length
    · have hki : (k : Int) < (l.length : Int) := by omega
      obtain ⟨g, o, rfl, hrg⟩ := (hr.ext hbel).range hlt
      have hx := hr.ok l[k] (List.getElem_mem hlt)
      have hsn : orB us l[k] = joinB (l.take (k + 1)) := by rw [hus, take_snoc l k hlt, joinB_snoc]
      have Hsn := Lib.hid hsn
      have Hus := Lib.hid hus
      clear hsn hus
      generalize l[k] = x at hrg hx Hsn
      have hi4 := size_four hx
      have hsx := size_set hx
      obtain ⟨wo, hwo⟩ : ∃ wo : World, wo = wr := ⟨_, rfl⟩
      subst hwo
      have hxs : (cellsU x).size = 4 := cellsU_size hx
      have hz4 : (cellsU zeroB).size = (cellsU x).size := by rw [hxs]; rfl
      have hone := cellsU_one x
      go_wp2_with (first | (refine wpList_load_set rfl _ rfl wo.heap.size rfl hx hB2 ?_) | (refine wpList_load_mid rfl 24 _ rfl g (o + k * 4) rfl _ _ hrg Tryd.underlying24 rfl hi4 ?_) | (refine wpList_store_set rfl _ _ rfl wo.heap.size rfl rfl hx zero_ok (Blk.new _ _ _) ?_; intro w2 hB2 hfar2 hsz2 hbel2))
      have hext : Below wo.heap.size wo w2 := ((Below.refl _ _).alloc (Nat.le_refl _) _).trans (hbel2 _ (Nat.le_refl _))
      have hT2 := hT.ext hext
      have hR2 := hR.ext hext
      have hb2 : Below w.heap.size w w2 := ext_trans hbel hext
      clear hT hR hbel hrg hB2 hfar2 hsz2 hbel2 hext hz4 hone hxs hsx
      go_loopw [6, 7, 15] (fun _ _ i w3 => ∃ (j : Nat) (vs : List Nat), j ≤ 4 ∧ i = .int .i64 (j : Int) ∧ SetOk vs ∧ (∀ i, i < 4 → wordB vs i = if i < j then wordB us i ||| wordB x i else wordB us i) ∧ Blk w3 (w.heap.size + 1) 24 (cellsU vs) ∧ Blk w3 w.heap.size 24 (cellsU zeroB) ∧ Below w.heap.size w w3) (fun _ _ i _ => 4 - (intOf i).toNat)
      case atStart => exact ⟨0, us, by omega, rfl, husok, fun i hi => by simp, hT2, hR2, hb2⟩
      case round =>
        obtain ⟨j, vs, hj, rfl, hvs, hw, hT3, hR3, hb3⟩ := hrel
        by_cases hjl : j < 4
        · have hcell : wr.cell? ⟨w.heap.size + 1, j, none⟩ = some (.int .u64 (wordB vs j : Int)) := (hT3.cell _).trans (cellsU_at hvs hjl)
          have hfree := hT3.free j
          have hji : (j : Int) < 4 := by omega
          have hor := or_key (wordB vs j) (wordB x j) (hvs.wlt _) (hx.wlt _)
          have hol := or_lt (hvs.wlt j) (hx.wlt j)
          have hT' := hT3.put j (.int .u64 ((wordB vs j ||| wordB x j : Nat) : Int))
          rw [cellsU_set] at hT'
          have hval : wordB vs j = wordB us j := by rw [hw j hjl, if_neg (by omega)]
          have Hval := Lib.hid hval
          have Hw := Lib.hid hw
          have HT' := Lib.hid hT'
          clear hw hT' hval hT3 hT2 hR2
          go_wp2_with (refine wpList_index_set rfl _ _ rfl hx hjl rfl rfl ?_)
          go_roundw
          case rel =>
            refine ⟨j + 1, vs.set j (wordB vs j ||| wordB x j), by omega, by go_num, hvs.set _ _ hol, fun i hi => ?_, HT'.out, hR3.far (by simp) _, hb3.setCell (by simp) _⟩
            rw [wordB_set hvs.len hi]
            by_cases e : j = i
            · subst e; rw [if_pos rfl, if_pos (by omega), Hval.out]
            · rw [if_neg e, Hw.out i hi]
              by_cases e2 : i < j
              · rw [if_pos e2, if_pos (by omega)]
              · rw [if_neg e2, if_neg (by omega)]
          case measure => simp [intOf]; omega
        · obtain rfl : j = 4 := by omega
          have hvs' : vs = orB us x := word_ext hvs (or_ok husok hx) fun i hi => by rw [hw i hi, if_pos hi, word_or husok hx hi]
          subst hvs'
          have hki2 : (k : Int) ≤ 1000000 := by omega
          clear hw
          go_wp2
          go_roundw
          case rel => exact ⟨k + 1, orB us x, by omega, by go_num, Hsn.out, hT3, hR3, hb3⟩
          case measure => simp [intOf]; omega
    · obtain rfl : k = l.length := by omega
      rw [List.take_length] at hus
      subst hus
      have hi := size_set husok
      go_wp2_with (first | (refine wpList_load_set rfl _ rfl (w.heap.size + 1) rfl husok hT ?_) | (refine wpList_store_set rfl _ _ rfl w.heap.size rfl rfl husok zero_ok hR ?_; intro w2 hB2 _ _ hbel2))
      exact bodyPost_ret (results_cell rfl _ _ w.heap.size 24 _ 4 22 rfl hB2 Tryd.underlying24 hi) rfl ⟨rfl, hbel.trans (hbel2 _ (by omega))⟩
end Go.Proofs.YtmggajpecgnjkaaDoor

/-
  Contract of Not. No statement of the seat is proved here.
-/
namespace Go.Proofs.YtmggajpecgnjkaaDoor
open Go Go.RowKit
set_option maxRecDepth 100000


set_option maxHeartbeats 1000000 in
theorem not_any (ws : List Nat) (hs : SetOk ws) (w : World) :
    Calls Tryd.prog 114 #[setV ws] w fun e w' => e = .returned (setV (notB ws)) ∧ Below w.heap.size w w' := by
  have hz := zeros_set
  have hB1 := ((Blk.new w 24 (cellsU ws)).alloc (Obj.cells (cellsU zeroB) 24)).alloc (Obj.cells (cellsU zeroB) 24)
  unfold setV
  go_enter Tryd.func114, Tryd.ntmps114
  go_wp2_with (refine wpList_load_set rfl _ rfl w.heap.size rfl hs hB1 ?_)
  go_loopw [4, 5, 7] (fun _ _ i wr => ∃ (k : Nat) (us : List Nat), k ≤ 4 ∧ i = .int .i64 (k : Int) ∧ SetOk us ∧ (∀ j, j < 4 → wordB us j = if j < k then notW (wordB ws j) else wordB zeroB j) ∧ Blk wr (w.heap.size + 1 + 1) 24 (cellsU us) ∧ Blk wr (w.heap.size + 1) 24 (cellsU zeroB) ∧ Below w.heap.size w wr) (fun _ _ i _ => 4 - (intOf i).toNat)
  case atStart =>
    refine ⟨0, zeroB, by omega, rfl, zero_ok, fun j hj => by simp, ?_, ?_, (((Below.refl _ _).alloc (Nat.le_refl _) _).alloc (by simp) _).alloc (by simp; omega) _⟩
    · have := Blk.new ((w.alloc (Obj.cells (cellsU ws) 24)).alloc (Obj.cells (cellsU zeroB) 24)) 24 (cellsU zeroB)
      simpa using this
    · have := (Blk.new (w.alloc (Obj.cells (cellsU ws) 24)) 24 (cellsU zeroB)).alloc (Obj.cells (cellsU zeroB) 24)
      simpa using this
  case round =>
    obtain ⟨k, us, hk, rfl, hus, hw, hT, hR, hbel⟩ := hrel
    by_cases hlt : k < 4
    · have hsz := cellsU_size hs
      have hcell : wr.cell? ⟨w.heap.size + 1 + 1, k, none⟩ = some (.int .u64 (wordB us k : Int)) := (hT.cell k).trans (cellsU_at hus hlt)
      have hfree := hT.free k
      have hki : (k : Int) < 4 := by omega
      have hx := hs.wlt k
      have hnot := not_u64 (wordB ws k) hx
      have hnl : notW (wordB ws k) < 18446744073709551616 := by unfold notW; omega
      have hT' := hT.put k (.int .u64 (notW (wordB ws k) : Int))
      rw [cellsU_set] at hT'
      have Hw := Lib.hid hw
      have HT' := Lib.hid hT'
      have HT := Lib.hid hT
      clear hw hT' hT hB1
      go_wp2_with (refine wpList_index_set rfl _ _ rfl hs hlt rfl rfl ?_)
      go_roundw
      case rel =>
        refine ⟨k + 1, us.set k (notW (wordB ws k)), by omega, by go_num, hus.set _ _ hnl, fun j hj => ?_, ?_, ?_, ?_⟩
        · rw [wordB_set hus.len hj]
          by_cases e : k = j
          · subst e; rw [if_pos rfl, if_pos (by omega)]
          · rw [if_neg e, Hw.out j hj]
            by_cases e2 : j < k
            · rw [if_pos e2, if_pos (by omega)]
            · rw [if_neg e2, if_neg (by omega)]
        · exact HT'.out
        · exact hR.far (by simp) _
        · exact hbel.setCell (by simp; omega) _
      case measure => simp [intOf]; omega
    · obtain rfl : k = 4 := by omega
      have hus' : us = notB ws := word_ext hus (not_ok hs) fun j hj => by rw [hw j hj, if_pos hj, word_not hs hj]
      subst hus'
      have hi := size_set hus
      clear hw hB1
      go_wp2_with (first | (refine wpList_load_set rfl _ rfl (w.heap.size + 1 + 1) rfl hus hT ?_) | (refine wpList_store_set rfl _ _ rfl (w.heap.size + 1) rfl rfl hus zero_ok hR ?_; intro w2 hB2 _ _ hbel2))
      exact bodyPost_ret (results_cell rfl _ _ (w.heap.size + 1) 24 _ 4 22 rfl hB2 Tryd.underlying24 hi) rfl ⟨rfl, hbel.trans (hbel2 _ (by omega))⟩

end Go.Proofs.YtmggajpecgnjkaaDoor

/-
  Counts of bits, as the library's text takes them. No statement of the seat is proved here.
-/
namespace Go.Proofs.YtmggajpecgnjkaaDoor
open Go Go.RowKit
set_option maxRecDepth 100000



theorem and_i64_127 (f : Nat) (hf : f < 18446744073709551616) : bits .and .i64 (IntKind.i64.wrap (f : Int)) 127 = ((f % 128 : Nat) : Int) := by
  show IntKind.i64.wrap ((BitVec.ofInt 64 (IntKind.i64.wrap (f : Int)) &&& BitVec.ofInt 64 127).toNat : Int) = _
  have h2 : (BitVec.ofInt 64 (IntKind.i64.wrap (f : Int))).toNat = f := by
    rw [BitVec.toNat_ofInt, IntKind.wrap_i64]; omega
  have h3 : (BitVec.ofInt 64 127).toNat = 127 := rfl
  rw [BitVec.toNat_and, h2, h3, show (127 : Nat) = 2 ^ 7 - 1 from rfl, Nat.and_two_pow_sub_one_eq_mod, IntKind.wrap_i64]
  omega
theorem u64_fit (x : Nat) (h : x < 18446744073709551616) : IntKind.u64.wrap (x : Int) = (x : Int) := by rw [IntKind.wrap_u64]; omega

set_option maxHeartbeats 1000000 in
theorem onescount_any (x : Nat) (hx : x < 18446744073709551616) (w : World) :
    Calls Tryd.prog 124 #[.int .u64 (x : Int)] w fun e w' => e = .returned (.int .i64 (Lib.onesCount x : Int)) ∧ w = w' := by
  obtain ⟨a, b, c, d, e, f, s1, t1, s2, t2, s3, s4, t4, s5, t5, s6, t6, s7, t7⟩ := pop_steps x hx
  have dv : ∀ (n m : Nat), ((n : Int) / (m : Int)) = ((n / m : Nat) : Int) := fun n m => by simp
  have bl : b < 18446744073709551616 := by omega
  have k1 : IntKind.u64.wrap (bits BinOp.and IntKind.u64 ((x : Int) / 2) 6148914691236517205 + bits BinOp.and IntKind.u64 (x : Int) 6148914691236517205) = (a : Int) := by
    have h1 := bits_and_u64_nat (x / 2) 6148914691236517205 (by omega) (by omega)
    have h2 : bits BinOp.and IntKind.u64 (x : Int) 6148914691236517205 = _ := bits_and_u64_nat x 6148914691236517205 (by omega) (by omega)
    rw [← dv x 2] at h1
    have h1' : bits BinOp.and IntKind.u64 ((x : Int) / 2) 6148914691236517205 = _ := h1
    rw [h1', h2, ← Int.natCast_add, s1, u64_fit a t1]
  have k2 : IntKind.u64.wrap (bits BinOp.and IntKind.u64 ((a : Int) / 4) 3689348814741910323 + bits BinOp.and IntKind.u64 (a : Int) 3689348814741910323) = (b : Int) := by
    have h1 := bits_and_u64_nat (a / 4) 3689348814741910323 (by omega) (by omega)
    have h2 : bits BinOp.and IntKind.u64 (a : Int) 3689348814741910323 = _ := bits_and_u64_nat a 3689348814741910323 (by omega) (by omega)
    rw [← dv a 4] at h1
    have h1' : bits BinOp.and IntKind.u64 ((a : Int) / 4) 3689348814741910323 = _ := h1
    rw [h1', h2, ← Int.natCast_add, s2, u64_fit b bl]
  have k3 : bits BinOp.and IntKind.u64 (IntKind.u64.wrap ((b : Int) / 16 + (b : Int))) 1085102592571150095 = (c : Int) := by
    have h0 := dv b 16
    have h1 := bits_and_u64_nat (b / 16 + b) 1085102592571150095 (by omega) (by omega)
    rw [s3] at h1
    rw [show ((b : Int) / 16) = ((b / 16 : Nat) : Int) from h0, ← Int.natCast_add, u64_fit _ t2]
    exact h1
  have k4 : IntKind.u64.wrap ((c : Int) + (c : Int) / 256) = (d : Int) := by
    rw [show ((c : Int) / 256) = ((c / 256 : Nat) : Int) from dv c 256, ← Int.natCast_add, s4, u64_fit d t4]
  have k5 : IntKind.u64.wrap ((d : Int) + (d : Int) / 65536) = (e : Int) := by
    rw [show ((d : Int) / 65536) = ((d / 65536 : Nat) : Int) from dv d 65536, ← Int.natCast_add, s5, u64_fit e t5]
  have k6 : IntKind.u64.wrap ((e : Int) + (e : Int) / 4294967296) = (f : Int) := by
    rw [show ((e : Int) / 4294967296) = ((e / 4294967296 : Nat) : Int) from dv e 4294967296, ← Int.natCast_add, s6, u64_fit f t6]
  have k7 : bits .and .i64 (wrap64 (f : Int)) 127 = ((f % 128 : Nat) : Int) := by rw [← and_i64_127 f t6]; unfold wrap64; rw [IntKind.wrap_i64]
  rw [s7] at k7
  clear s1 s2 s3 s4 s5 s6 s7 t1 t2 t4 t5 t6 t7 dv bl hx
  have K1 := Lib.hid k1
  have K2 := Lib.hid k2
  have K3 := Lib.hid k3
  have K4 := Lib.hid k4
  have K5 := Lib.hid k5
  have K6 := Lib.hid k6
  have K7 := Lib.hid k7
  clear k1 k2 k3 k4 k5 k6 k7
  go_enter Tryd.func124, Tryd.ntmps124
  go_wp2
  simp only [K1.out, K2.out, K3.out, K4.out, K5.out, K6.out, K7.out]
  go_ret
  exact ⟨rfl, rfl⟩

/-- The table of the library's TrailingZeros64, in its variable. -/
def Tab (w : World) : Prop := ∀ j, j < Lib.deBruijn64tab.length → w.cell? ⟨0, j, none⟩ = some (.int .u8 (Lib.deBruijn64tab.getD j 0))
theorem Tab.ext {w w' : World} (h : Tab w) (hb : Below w.heap.size w w') : Tab w' := fun j hj => by
  have hl := World.block_lt_of_cell? w _ (h j hj)
  exact (World.cell?_of_block (hb.block _ hl)).trans (h j hj)

theorem tz_key (x a : Nat) (hx : x < 18446744073709551616) (hx0 : x ≠ 0) (hlow : x &&& (18446744073709551616 - x) = a) :
    IntKind.u64.wrap (bits BinOp.and IntKind.u64 (x : Int) (IntKind.u64.wrap (-(x : Int))) * 285870213051353865) / 288230376151711744 = ((a * 285870213051353865 % 18446744073709551616 / 288230376151711744 : Nat) : Int) := by
  have e1 : IntKind.u64.wrap (-(x : Int)) = ((18446744073709551616 - x : Nat) : Int) := by rw [IntKind.wrap_u64]; omega
  rw [e1, bits_and_u64_nat x _ hx (by omega), hlow, IntKind.wrap_u64]
  omega

set_option maxHeartbeats 1000000 in
theorem tz_core (x k idx : Nat) (w : World) (hx0 : ((x : Int) == 0) = false)
    (key : IntKind.u64.wrap (bits BinOp.and IntKind.u64 (x : Int) (IntKind.u64.wrap (-(x : Int))) * 285870213051353865) / 288230376151711744 = (idx : Int))
    (hi : idx < 64) (hk : k < 64) (hcell : w.cell? ⟨0, idx, none⟩ = some (.int .u8 k)) :
    Calls Tryd.prog 131 #[.int .u64 (x : Int)] w fun e w' => e = .returned (.int .i64 (k : Int)) ∧ w = w' := by
  go_enter Tryd.func131, Tryd.ntmps131
  go_wp2_with (simp only [key])
  go_ret
  exact ⟨rfl, rfl⟩
theorem tz_any (x : Nat) (hx0 : x ≠ 0) (hx : x < 18446744073709551616) (w : World) (ht : Tab w) :
    Calls Tryd.prog 131 #[.int .u64 (x : Int)] w fun e w' => e = .returned (.int .i64 (Lib.ctz 64 x : Int)) ∧ w = w' := by
  obtain ⟨hlow, hk⟩ := Lib.lowest_bit 64 x hx0 hx
  obtain ⟨hi, htab⟩ := Lib.deBruijn64_at _ hk
  have hcell := ht _ hi
  rw [htab] at hcell
  exact tz_core x _ _ w (by simp; omega) (tz_key x _ hx hx0 hlow) hi hk hcell
end Go.Proofs.YtmggajpecgnjkaaDoor

/-
  Contract of Count. No statement of the seat is proved here.
-/
namespace Go.Proofs.YtmggajpecgnjkaaDoor
open Go Go.RowKit
set_option maxRecDepth 100000


set_option maxHeartbeats 2000000 in
theorem count_any (ws : List Nat) (hs : SetOk ws) (w : World) :
    Calls Tryd.prog 104 #[setV ws] w fun e w' => e = .returned (.int .i64 ((listB ws).length : Int)) ∧ Below w.heap.size w w' := by
  have hB1 := Blk.new w 24 (cellsU ws)
  unfold setV
  go_enter Tryd.func104, Tryd.ntmps104
  go_wp2_with (refine wpList_load_set rfl _ rfl w.heap.size rfl hs hB1 ?_)
  go_loopw [3, 5, 7] (fun s _ i wr => ∃ (k m : Nat), k ≤ 4 ∧ i = .int .i64 (k : Int) ∧ s = .int .i64 (m : Int) ∧ m = cntB ws k ∧ Below w.heap.size w wr) (fun _ _ i _ => 4 - (intOf i).toNat)
  case atStart => exact ⟨0, 0, by omega, rfl, rfl, (cntB_zero ws).symm, (Below.refl _ _).alloc (Nat.le_refl _) _⟩
  case round =>
    obtain ⟨k, m, hk, rfl, rfl, hm, hbel⟩ := hrel
    have hle := cntB_le ws k
    rw [← hm] at hle
    by_cases hlt : k < 4
    · have hki : (k : Int) < 4 := by omega
      have hsn := cntB_succ ws k
      rw [← hm] at hsn
      have hle2 := cntB_le ws (k + 1)
      rw [hsn] at hle2
      have hcall := onescount_any (wordB ws k) (hs.wlt k) wr
      have Hsn := Lib.hid hsn
      clear hsn hm hB1
      generalize Lib.onesCount (wordB ws k) = p at hcall Hsn hle2
      go_wp2_with (first | (refine wpList_index_set rfl _ _ rfl hs hlt rfl rfl ?_) | fail)
      refine hcall.mono ?_
      rintro e w2 ⟨rfl, rfl⟩
      clear hcall
      go_wp2
      go_roundw
      case rel => exact ⟨k + 1, m + p, by omega, by go_num, by go_num, Hsn.out.symm, hbel⟩
      case measure => simp [intOf]; omega
    · obtain rfl : k = 4 := by omega
      have hm2 := hm.trans (listB_cnt ws)
      have Hm2 := Lib.hid hm2
      clear hm hm2 hB1
      go_wp2
      go_ret
      exact ⟨by rw [Hm2.out]; rfl, hbel⟩

end Go.Proofs.YtmggajpecgnjkaaDoor

/-
  The mathematics of the program's own weighing of an expression: it says what 'isE' says. No statement of the seat is proved here.
-/
namespace Go.Proofs.YtmggajpecgnjkaaDoor
open Go

/-- a node has what its kind names, and nothing else -/
def formE : Ex → Bool
  | .mk k s ks lo hi =>
    if k = 0 then decide (s = zeroB) && decide (lo = 0) && decide (hi = 0) && ks.isEmpty
    else if k = 1 then decide (s ≠ zeroB) && decide (lo = 0) && decide (hi = 0) && ks.isEmpty
    else if k = 2 ∨ k = 3 then decide (s = zeroB) && decide (lo = 0) && decide (hi = 0) && decide (2 ≤ ks.length)
    else if k = 4 then decide (s = zeroB) && repB lo hi && decide (ks.length = 1)
    else false
/-- how often a repeat's kid counts, here -/
def timesW (lo hi : Int) : Nat := (max (max lo hi) 1).toNat
mutual
def weighE (deep within n : Nat) : Ex → Option (Nat × Nat)
  | .mk k s ks lo hi =>
    if 128 < n + 1 ∨ 16 < deep ∨ 4 < (if k = 4 then within + 1 else within) ∨ formE (.mk k s ks lo hi) = false then none
    else match weighL (deep + 1) (if k = 4 then within + 1 else within) 0 (n + 1) ks with
      | none => none
      | some (x, m) => some (1 + (if k = 4 then x * timesW lo hi else x), m)
def weighL (deep within : Nat) (x n : Nat) : List Ex → Option (Nat × Nat)
  | [] => some (x, n)
  | t :: ts => match weighE deep within n t with
    | none => none
    | some (v, m) => weighL deep within (x + v) m ts
end
theorem weighL_append (deep within x n : Nat) (a b : List Ex) : weighL deep within x n (a ++ b) = match weighL deep within x n a with | none => none | some (y, m) => weighL deep within y m b := by
  induction a generalizing x n with
  | nil => simp [weighL]
  | cons t r ih =>
    simp only [List.cons_append, weighL]
    cases weighE deep within n t with
    | none => rfl
    | some p => exact ih _ _
theorem weighL_take (deep within : Nat) (l : List Ex) (k : Nat) (h : k < l.length) (x n : Nat) :
    weighL deep within x n (l.take (k + 1)) = match weighL deep within x n (l.take k) with | none => none | some (y, m) => (match weighE deep within m l[k] with | none => none | some (v, m') => some (y + v, m')) := by
  rw [List.take_succ_eq_append_getElem h, weighL_append]
  cases weighL deep within x n (l.take k) with
  | none => rfl
  | some p =>
    simp only [weighL]
    try (cases weighE deep within p.2 l[k] <;> rfl)
/-- once none, always none -/
theorem weighL_none {deep within x n : Nat} {l : List Ex} {k : Nat} (h : weighL deep within x n (l.take k) = none) : weighL deep within x n l = none := by
  have := weighL_append deep within x n (l.take k) (l.drop k)
  rw [List.take_append_drop, h] at this
  exact this

/-! ### the weight, not bounded -/
mutual
def wE : Ex → Nat
  | .mk k _ ks lo hi => 1 + (if k = 4 then wL ks * timesW lo hi else wL ks)
def wL : List Ex → Nat
  | [] => 0
  | x :: xs => wE x + wL xs
end
/-- what a list says of all -/
theorem nestL_iff (l : List Ex) : ∀ n m, nestL n l ≤ m ↔ n ≤ m ∧ ∀ x ∈ l, nestE x ≤ m := by
  induction l with
  | nil => simp [nestL]
  | cons x r ih =>
    intro n m
    simp only [nestL, ih, List.mem_cons, forall_eq_or_imp]
    constructor
    · rintro ⟨h1, h2⟩; exact ⟨by omega, by omega, h2⟩
    · rintro ⟨h1, h2, h3⟩; exact ⟨by omega, h3⟩
theorem nestL_zero (l : List Ex) : ∃ m, nestL 0 l = m ∧ ∀ c, m ≤ c ↔ ∀ x ∈ l, nestE x ≤ c := ⟨_, rfl, fun c => by rw [nestL_iff]; simp⟩

/-- list form of the claim -/
theorem weighL_eq (deep within : Nat) (l : List Ex) (h : ∀ t ∈ l, ∀ n, weighE deep within n t = if oneE deep t = true ∧ within + nestE t ≤ 4 ∧ n + nodesE t ≤ 128 then some (wE t, n + nodesE t) else none) :
    ∀ x n, within ≤ 4 → n ≤ 128 → weighL deep within x n l = if oneL deep l = true ∧ (∀ t ∈ l, within + nestE t ≤ 4) ∧ n + nodesL l ≤ 128 then some (x + wL l, n + nodesL l) else none := by
  induction l with
  | nil =>
    intro x n h4 h5
    simp [weighL, oneL, nodesL, wL, h5]
  | cons t r ih =>
    intro x n h4 h5
    have ih := ih (fun y hy => h y (by simp [hy]))
    simp only [weighL, h t (by simp) n]
    by_cases hc : oneE deep t = true ∧ within + nestE t ≤ 4 ∧ n + nodesE t ≤ 128
    · rw [if_pos hc]
      simp only
      rw [ih _ _ h4 hc.2.2]
      have e : (oneL deep (t :: r) = true ∧ (∀ y ∈ t :: r, within + nestE y ≤ 4) ∧ n + nodesL (t :: r) ≤ 128) ↔ (oneL deep r = true ∧ (∀ y ∈ r, within + nestE y ≤ 4) ∧ n + nodesE t + nodesL r ≤ 128) := by
        simp only [oneL, Bool.and_eq_true, List.mem_cons, forall_eq_or_imp, nodesL, hc.1, hc.2.1, true_and]
        rw [Nat.add_assoc]
      simp only [wL, nodesL] at e ⊢
      by_cases h2 : oneL deep r = true ∧ (∀ y ∈ r, within + nestE y ≤ 4) ∧ n + nodesE t + nodesL r ≤ 128
      · refine (if_pos h2).trans (Eq.trans ?_ (if_pos (e.2 h2)).symm)
        rw [Nat.add_assoc, Nat.add_assoc]
      · exact (if_neg h2).trans (if_neg (fun h => h2 (e.1 h))).symm
    · rw [if_neg hc]
      simp only
      refine (if_neg ?_).symm
      rintro ⟨a1, a2, a3⟩
      simp only [oneL, Bool.and_eq_true, nodesL] at a1 a3
      exact hc ⟨a1.1, a2 t (by simp), by omega⟩

theorem form_one (deep : Nat) (k : Int) (s : List Nat) (ks : List Ex) (lo hi : Int) : oneE deep (.mk k s ks lo hi) = (decide (deep ≤ 16) && formE (.mk k s ks lo hi) && oneL (deep + 1) ks) := by
  simp only [oneE, formE]
  by_cases h16 : 16 < deep
  · rw [if_pos (.inl h16), show decide (deep ≤ 16) = false by simp; omega]; simp
  · have hd : decide (deep ≤ 16) = true := by simp; omega
    rw [hd, Bool.true_and]
    by_cases k0 : k = 0
    · subst k0
      by_cases hs : s = zeroB <;> by_cases h1 : lo = 0 <;> by_cases h2 : hi = 0 <;> simp [hs, h1, h2, h16]
      cases ks <;> simp [oneL]
    · by_cases k1 : k = 1
      · subst k1
        by_cases hs : s = zeroB <;> by_cases h1 : lo = 0 <;> by_cases h2 : hi = 0 <;> simp [hs, h1, h2, h16]
        cases ks <;> simp [oneL]
      · by_cases k23 : k = 2 ∨ k = 3
        · have k4 : k ≠ 4 := by omega
          by_cases hs : s = zeroB <;> by_cases h1 : lo = 0 <;> by_cases h2 : hi = 0 <;> simp [hs, h1, h2, h16, k0, k1, k23, k4]
        · by_cases k4 : k = 4
          · subst k4
            by_cases hs : s = zeroB <;> simp [hs, h16]
            rw [Bool.and_comm (repB lo hi)]
          · simp [k0, k1, k23, k4]
theorem weighE_eq (t : Ex) : ∀ deep within n, within ≤ 4 → n ≤ 128 → weighE deep within n t = if oneE deep t = true ∧ within + nestE t ≤ 4 ∧ n + nodesE t ≤ 128 then some (wE t, n + nodesE t) else none := by
  refine ex_induct (p := fun t => ∀ deep within n, within ≤ 4 → n ≤ 128 → weighE deep within n t = if oneE deep t = true ∧ within + nestE t ≤ 4 ∧ n + nodesE t ≤ 128 then some (wE t, n + nodesE t) else none) (fun k s ks lo hi ih deep within n hw hn => ?_) t
  simp only [weighE]
  have hne : nestE (.mk k s ks lo hi) = nestL 0 ks + (if k = 4 then 1 else 0) := by simp [nestE]
  have hno : nodesE (.mk k s ks lo hi) = 1 + nodesL ks := by simp [nodesE]
  have hwe : wE (.mk k s ks lo hi) = 1 + (if k = 4 then wL ks * timesW lo hi else wL ks) := by simp [wE]
  obtain ⟨W, hW⟩ : ∃ W, (if k = 4 then within + 1 else within) = W := ⟨_, rfl⟩
  have hW2 : W = within + (if k = 4 then 1 else 0) := by rw [← hW]; split <;> rfl
  rw [hW]
  have h1 := form_one deep k s ks lo hi
  rw [hne, hno, hwe]
  by_cases hc : 128 < n + 1 ∨ 16 < deep ∨ 4 < W ∨ formE (.mk k s ks lo hi) = false
  · rw [if_pos hc, if_neg]
    rintro ⟨a1, a2, a3⟩
    rw [h1] at a1
    simp only [Bool.and_eq_true, decide_eq_true_eq] at a1
    rcases hc with hc | hc | hc | hc
    · omega
    · omega
    · omega
    · rw [hc] at a1; simp at a1
  · rw [if_neg hc]
    have hf : formE (.mk k s ks lo hi) = true := by
      cases h : formE (.mk k s ks lo hi)
      · exact absurd (.inr (.inr (.inr h))) hc
      · rfl
    have hd : deep ≤ 16 := by omega
    have hW4 : W ≤ 4 := by omega
    rw [weighL_eq (deep + 1) W ks (fun t ht n' => ?_) 0 (n + 1) hW4 (by omega)]
    · obtain ⟨m, hm, hmc⟩ := nestL_zero ks
      have e : (oneL (deep + 1) ks = true ∧ (∀ t ∈ ks, W + nestE t ≤ 4) ∧ n + 1 + nodesL ks ≤ 128) ↔ (oneE deep (.mk k s ks lo hi) = true ∧ within + (nestL 0 ks + (if k = 4 then 1 else 0)) ≤ 4 ∧ n + (1 + nodesL ks) ≤ 128) := by
        rw [h1, hf, decide_eq_true hd, Bool.true_and, Bool.true_and, hm]
        have : (∀ t ∈ ks, W + nestE t ≤ 4) ↔ within + (m + (if k = 4 then 1 else 0)) ≤ 4 := by
          have h2 := hmc (4 - W)
          constructor
          · intro h
            have := h2.2 (fun x hx => by have := h x hx; omega)
            omega
          · intro h t ht
            have := h2.1 (by omega) t ht
            omega
        rw [this]
        constructor <;> rintro ⟨x1, x2, x3⟩ <;> exact ⟨x1, x2, by omega⟩
      by_cases h2 : oneL (deep + 1) ks = true ∧ (∀ t ∈ ks, W + nestE t ≤ 4) ∧ n + 1 + nodesL ks ≤ 128
      · rw [if_pos h2, if_pos (e.1 h2)]
        simp only [Nat.zero_add]
        rw [Nat.add_assoc]
      · rw [if_neg h2, if_neg (fun h => h2 (e.2 h))]
    · by_cases hn' : n' ≤ 128
      · exact ih t ht (deep + 1) W n' hW4 hn'
      · rw [if_neg (by have := nodesE_pos t; omega)]
        cases t with
        | mk k' s' ks' lo' hi' =>
          simp only [weighE]
          rw [if_pos (.inl (by omega))]

/-! ### bounds -/
theorem timesW_le {lo hi : Int} (h : repB lo hi = true) : timesW lo hi ≤ 32 ∧ 1 ≤ timesW lo hi := by
  simp only [repB, Bool.and_eq_true, Bool.or_eq_true, decide_eq_true_eq] at h
  unfold timesW
  omega
theorem pow32 (n : Nat) : 1 ≤ 32 ^ n := Nat.pow_pos (by omega)
theorem wE_le (t : Ex) : ∀ deep n, oneE deep t = true → nestE t ≤ n → wE t ≤ nodesE t * 32 ^ n := by
  refine ex_induct (p := fun t => ∀ deep n, oneE deep t = true → nestE t ≤ n → wE t ≤ nodesE t * 32 ^ n) (fun k s ks lo hi ih deep n h1 h2 => ?_) t
  rw [form_one] at h1
  simp only [Bool.and_eq_true, oneL_all, List.all_eq_true] at h1
  obtain ⟨⟨_, hf⟩, hl⟩ := h1
  have key : ∀ m, (∀ x ∈ ks, nestE x ≤ m) → wL ks ≤ nodesL ks * 32 ^ m := by
    intro m
    clear h2 hf
    induction ks with
    | nil => simp [wL]
    | cons x r ihr =>
      intro hm
      have a1 := ih x (by simp) (deep + 1) m (hl x (by simp)) (hm x (by simp))
      have a2 := ihr (fun y hy => ih y (by simp [hy])) (fun y hy => hl y (by simp [hy])) (fun y hy => hm y (by simp [hy]))
      simp only [wL, nodesL, Nat.add_mul]
      omega
  simp only [nestE] at h2
  simp only [wE, nodesE]
  have hp := pow32 n
  by_cases k4 : k = 4
  · subst k4
    simp only [if_true] at h2 ⊢
    have hr : repB lo hi = true := by
      simp only [formE] at hf
      simp at hf
      exact hf.1.2
    have ht := timesW_le hr
    obtain ⟨m, rfl⟩ : ∃ m, n = m + 1 := ⟨n - 1, by omega⟩
    have hk := key m ((nestL_iff ks 0 m).1 (by omega)).2
    have : wL ks * timesW lo hi ≤ nodesL ks * 32 ^ m * 32 := Nat.mul_le_mul hk ht.1
    rw [Nat.add_mul, Nat.pow_succ]
    rw [Nat.pow_succ] at hp
    rw [Nat.mul_assoc] at this
    omega
  · simp only [if_neg k4, Nat.add_zero] at h2 ⊢
    have hk := key n ((nestL_iff ks 0 n).1 h2).2
    rw [Nat.add_mul]
    omega
/-- what is found in the midst -/
theorem weighE_small {deep within n v m : Nat} {t : Ex} (hw : within ≤ 4) (hn : n ≤ 128) (h : weighE deep within n t = some (v, m)) : m ≤ 128 ∧ n ≤ m ∧ v ≤ (m - n) * 1048576 := by
  rw [weighE_eq t deep within n hw hn] at h
  split at h
  case isTrue hc =>
    injection h with h
    injection h with h1 h2
    subst h1 h2
    refine ⟨hc.2.2, by omega, ?_⟩
    have := wE_le t deep 4 hc.1 (by omega)
    rw [Nat.add_sub_cancel_left]
    exact this
  case isFalse => cases h
theorem weighL_small {deep within : Nat} (hw : within ≤ 4) (l : List Ex) : ∀ {x n v m : Nat}, n ≤ 128 → weighL deep within x n l = some (v, m) → m ≤ 128 ∧ n ≤ m ∧ v ≤ x + (m - n) * 1048576 := by
  induction l with
  | nil =>
    intro x n v m hn h
    simp only [weighL] at h
    injection h with h
    injection h with h1 h2
    subst h1 h2
    omega
  | cons t r ih =>
    intro x n v m hn h
    simp only [weighL] at h
    cases h1 : weighE deep within n t with
    | none => rw [h1] at h; cases h
    | some p =>
      obtain ⟨a, b⟩ := p
      rw [h1] at h
      have h2 := weighE_small hw hn h1
      have h3 := ih h2.1 h
      omega

/-! ### what it says -/
theorem min_mul {a b : Nat} (o : Nat) (ho : 1 ≤ o) (h : min 5000 a = min 5000 b) : min 5000 (a * o) = min 5000 (b * o) := by
  by_cases ha : a < 5000
  · have : a = b := by omega
    rw [this]
  · have h1 : 5000 * 1 ≤ a * o := Nat.mul_le_mul (by omega) ho
    have h2 : 5000 * 1 ≤ b * o := Nat.mul_le_mul (by omega) ho
    omega
theorem weight_wE (t : Ex) : ∀ deep, oneE deep t = true → min 5000 (weightE t) = min 5000 (wE t) := by
  refine ex_induct (p := fun t => ∀ deep, oneE deep t = true → min 5000 (weightE t) = min 5000 (wE t)) (fun k s ks lo hi ih deep h1 => ?_) t
  rw [form_one] at h1
  simp only [Bool.and_eq_true, oneL_all, List.all_eq_true] at h1
  obtain ⟨⟨_, hf⟩, hl⟩ := h1
  have key : ∀ n, min 5000 (weightL n ks) = min 5000 (n + wL ks) := by
    clear hf
    induction ks with
    | nil => intro n; simp [weightL, wL]
    | cons x r ihr =>
      intro n
      have a1 := ih x (by simp) (deep + 1) (hl x (by simp))
      have a2 := ihr (fun y hy => ih y (by simp [hy])) (fun y hy => hl y (by simp [hy])) (min 5000 (n + weightE x))
      simp only [weightL, wL]
      rw [a2]
      omega
  have k0 := key 0
  rw [Nat.zero_add] at k0
  simp only [weightE, wE]
  by_cases k4 : k = 4
  · subst k4
    simp only [if_true]
    have hr : repB lo hi = true := by
      simp only [formE] at hf
      simp at hf
      exact hf.1.2
    have ht := timesW_le hr
    have ho : oftenE lo hi = timesW lo hi := by
      simp only [repB, Bool.and_eq_true, Bool.or_eq_true, decide_eq_true_eq] at hr
      unfold oftenE timesW
      omega
    rw [ho]
    have := min_mul (timesW lo hi) ht.2 k0
    omega
  · simp only [if_neg k4]
    omega
/-- the program's own test is 'isE' -/
theorem isE_weigh (t : Ex) : isE t = match weighE 1 0 0 t with | none => false | some (v, _) => decide (v ≤ 1024) && decide ((textE t).length ≤ 1024) := by
  rw [weighE_eq t 1 0 0 (by omega) (by omega), Nat.zero_add, Nat.zero_add]
  unfold isE
  by_cases h : oneE 1 t = true ∧ nestE t ≤ 4 ∧ nodesE t ≤ 128
  · rw [if_pos h]
    have hw := weight_wE t 1 h.1
    have : decide (weightE t ≤ 1024) = decide (wE t ≤ 1024) := by
      rw [decide_eq_decide]; omega
    simp only [h.1, decide_eq_true h.2.1, decide_eq_true h.2.2, Bool.true_and, Bool.and_true, this]
  · rw [if_neg h]
    simp only
    rw [Bool.eq_false_iff]
    intro hc
    simp only [Bool.and_eq_true, decide_eq_true_eq] at hc
    exact h ⟨hc.1.1.1.1, hc.1.2, hc.1.1.1.2⟩
end Go.Proofs.YtmggajpecgnjkaaDoor

/-
  Contracts of the program's mayRepeat, formed. No statement of the seat is proved here.
-/
namespace Go.Proofs.YtmggajpecgnjkaaDoor
open Go Go.RowKit
set_option maxRecDepth 100000

set_option maxHeartbeats 1000000 in
theorem mayrep_any (lo hi : Int) (w : World) : Calls Tryd.prog 102 #[.int .i64 lo, .int .i64 hi] w fun e w' => e = .returned (.bool (repB lo hi)) ∧ w = w' := by
  obtain ⟨r, hr⟩ : ∃ r, repB lo hi = r := ⟨_, rfl⟩
  rw [hr]
  have Hr : Hid (r = true ↔ 0 ≤ lo ∧ lo ≤ 32 ∧ (hi = -1 ∨ (1 ≤ hi ∧ hi ≤ 32 ∧ lo ≤ hi))) := Lib.hid (by rw [← hr]; simp [repB, and_assoc])
  clear hr
  have hc : lo < 0 ∨ 32 < lo ∨ (0 ≤ lo ∧ lo ≤ 32 ∧ hi = -1) ∨ (0 ≤ lo ∧ lo ≤ 32 ∧ hi ≠ -1) := by omega
  rcases hc with h1 | h1 | ⟨h1, h2, rfl⟩ | ⟨h1, h2, h3⟩
  · go_enter Tryd.func102, Tryd.ntmps102
    go_wp2
    all_goals (go_ret; exact ⟨ret_bool (by rw [Bool.eq_iff_iff, Hr.out]; simp; omega), rfl⟩)
  · have h0 : 0 ≤ lo := by omega
    go_enter Tryd.func102, Tryd.ntmps102
    go_wp2
    all_goals (go_ret; exact ⟨ret_bool (by rw [Bool.eq_iff_iff, Hr.out]; simp; omega), rfl⟩)
  · go_enter Tryd.func102, Tryd.ntmps102
    go_wp2
    all_goals (go_ret; exact ⟨ret_bool (by rw [Bool.eq_iff_iff, Hr.out]; simp; omega), rfl⟩)
  · have h3' : (hi == -1) = false := by simpa using h3
    obtain ⟨M, hM⟩ : ∃ M, (if lo < 1 then 1 else lo) = M := ⟨_, rfl⟩
    have hM2 : (M ≤ hi) ↔ (lo ≤ hi ∧ 1 ≤ hi) := by rw [← hM]; split <;> omega
    have HM2 := Lib.hid hM2
    clear hM2
    by_cases hm : M ≤ hi
    · go_enter Tryd.func102, Tryd.ntmps102
      go_wp2
      all_goals (go_ret; exact ⟨ret_bool (by have := HM2.out; rw [Bool.eq_iff_iff, Hr.out]; simp; omega), rfl⟩)
    · have hm' : hi < M := by omega
      clear hm
      go_enter Tryd.func102, Tryd.ntmps102
      go_wp2
      all_goals (go_ret; exact ⟨ret_bool (by have := HM2.out; rw [Bool.eq_iff_iff, Hr.out]; simp; omega), rfl⟩)

/-- 'formE' by what the program asks -/
def formB (k : Int) (zb tb rb : Bool) (n : Nat) : Bool :=
  if k = 0 then zb && tb && decide (n = 0) else if k = 1 then !zb && tb && decide (n = 0) else if k = 2 ∨ k = 3 then zb && tb && decide (2 ≤ n)
  else if k = 4 then zb && rb && decide (n = 1) else false
theorem formB_eq (k : Int) (s : List Nat) (ks : List Ex) (lo hi : Int) : formE (.mk k s ks lo hi) = formB k (decide (s = zeroB)) (decide (lo = 0) && decide (hi = 0)) (repB lo hi) ks.length := by
  have e : ks.isEmpty = decide (ks.length = 0) := by cases ks <;> simp
  simp only [formE, formB, e, Bool.and_assoc]
  repeat' split
  all_goals simp_all

theorem nat_beq0 (n : Nat) : ((n : Int) == 0) = decide (n = 0) := by rw [Bool.eq_iff_iff]; simp
theorem nat_beq1 (n : Nat) : ((n : Int) == 1) = decide (n = 1) := by rw [Bool.eq_iff_iff]; simp; omega
theorem nat_ge2 (n : Nat) : decide ((2 : Int) ≤ (n : Int)) = decide (2 ≤ n) := by rw [Bool.eq_iff_iff]; simp; omega
set_option maxHeartbeats 8000000 in
theorem formed_any (S : Nat → Prop) (t : Ex) (cs : List Value) (w : World) (h : ReR S w t cs) :
    Calls Tryd.prog 80 #[reV cs] w fun e w' => e = .returned (.bool (formE t)) ∧ Below w.heap.size w w' := by
  cases t with
  | mk k s ks lo hi =>
  rw [reR_iff] at h
  obtain ⟨⟨hk, hs, hlo, hhi⟩, A, c, rfl, h1, h2, h3⟩ := h
  rw [formB_eq]
  clear h3 hk hlo hhi
  have hz := fun W => eq_sets hs zero_ok W
  obtain ⟨zb, hzb⟩ : ∃ b, decide (s = zeroB) = b := ⟨_, rfl⟩
  rw [hzb] at hz ⊢
  obtain ⟨p0, p1, p2, p3, rfl⟩ := four_words hs
  clear hs hzb
  obtain ⟨n, hn⟩ : ∃ n, ks.length = n := ⟨_, rfl⟩
  unfold reV reCells
  rw [hn] at h1 ⊢
  clear hn
  unfold maxLen at h2
  have hni : (n : Int) ≤ 9223372036854775807 := by omega
  obtain ⟨r, hr⟩ : ∃ r, formB k zb (decide (lo = 0) && decide (hi = 0)) (repB lo hi) n = r := ⟨_, rfl⟩
  rw [hr]
  have HRep := Lib.hid fun W => mayrep_any lo hi W
  obtain ⟨rb, hrb⟩ : ∃ b, repB lo hi = b := ⟨_, rfl⟩
  rw [hrb] at hr HRep
  clear hrb
  have hz' : ∀ W, (Op.equalIn 10000 24 (.agg #[.int .u64 (p0 : Int), .int .u64 (p1 : Int), .int .u64 (p2 : Int), .int .u64 (p3 : Int)]) (.agg #[.int .u64 0, .int .u64 0, .int .u64 0, .int .u64 0])).run Tryd.prog W = .ok zb W := hz
  clear hz
  have hB := Blk.new w 27 #[.int .i64 k, .int .u64 (p0 : Int), .int .u64 (p1 : Int), .int .u64 (p2 : Int), .int .u64 (p3 : Int), .slice A n c, .int .i64 lo, .int .i64 hi]
  have hlh : (lo = 0 ∧ hi = 0) ∨ (lo = 0 ∧ hi ≠ 0) ∨ lo ≠ 0 := by omega
  show Calls Tryd.prog 80 #[.agg #[.int .i64 k, .int .u64 (p0 : Int), .int .u64 (p1 : Int), .int .u64 (p2 : Int), .int .u64 (p3 : Int), .slice A n c, .int .i64 lo, .int .i64 hi]] w _
  have Hr := Lib.hid hr
  clear hr
  rcases hlh with ⟨rfl, rfl⟩ | ⟨rfl, hh⟩ | hh
  · cases zb <;> cases rb
    all_goals
      go_enter Tryd.func80, Tryd.ntmps80
      go_wp2
      go_quiet (fail)
      go_wp2_with (go_at_call 102; (with_reducible refine (HRep.out _).mono ?_); rintro e w' ⟨rfl, rfl⟩)
      all_goals
        go_ret
        exact ⟨ret_bool (by rw [← Hr.out]; simp_all [formB, nat_beq0, nat_beq1, nat_ge2]), ext_drewN ((Below.refl _ _).alloc (Nat.le_refl _) _) _⟩
  · have hh' : (hi == 0) = false := by simpa using hh
    cases zb <;> cases rb
    all_goals
      go_enter Tryd.func80, Tryd.ntmps80
      go_wp2
      go_quiet (fail)
      go_wp2_with (go_at_call 102; (with_reducible refine (HRep.out _).mono ?_); rintro e w' ⟨rfl, rfl⟩)
      all_goals
        go_ret
        exact ⟨ret_bool (by rw [← Hr.out]; simp_all [formB, nat_beq0, nat_beq1, nat_ge2]), ext_drewN ((Below.refl _ _).alloc (Nat.le_refl _) _) _⟩
  · have hh' : (lo == 0) = false := by simpa using hh
    cases zb <;> cases rb
    all_goals
      go_enter Tryd.func80, Tryd.ntmps80
      go_wp2
      go_quiet (fail)
      go_wp2_with (go_at_call 102; (with_reducible refine (HRep.out _).mono ?_); rintro e w' ⟨rfl, rfl⟩)
      all_goals
        go_ret
        exact ⟨ret_bool (by rw [← Hr.out]; simp_all [formB, nat_beq0, nat_beq1, nat_ge2]), ext_drewN ((Below.refl _ _).alloc (Nat.le_refl _) _) _⟩
end Go.Proofs.YtmggajpecgnjkaaDoor

/-
  Contract of List. No statement of the seat is proved here.
-/
namespace Go.Proofs.YtmggajpecgnjkaaDoor
open Go Go.RowKit
set_option maxRecDepth 100000


set_option maxHeartbeats 4000000 in
theorem list_any (ws : List Nat) (hs : SetOk ws) (w : World) (ht : Tab w) :
    Calls Tryd.prog 123 #[setV ws] w fun e w' => ∃ A' c', e = .returned (.slice A' (listB ws).length c') ∧ NewO w w' 5 1 A' (listB ws).length c' ((listB ws).map nb) := by
  have hB1 := Blk.new w 24 (cellsU ws)
  unfold setV
  go_enter Tryd.func123, Tryd.ntmps123
  go_wp2_with (refine wpList_load_set rfl _ rfl w.heap.size rfl hs hB1 ?_)
  go_loopw [3, 4, 5, 6, 8] (fun s _ _ _ i wr => ∃ (k : Nat) (L : List Nat) (A : Option Addr) (c : Nat), k ≤ 4 ∧ i = .int .i64 (k : Int) ∧ L = upB ws (64 * k) ∧ s = .slice A L.length c ∧ NewO w wr 5 1 A L.length c (L.map nb)) (fun _ _ _ _ i _ => 4 - (intOf i).toNat)
  case atStart => exact ⟨0, [], none, 0, by omega, rfl, by simp [upB], rfl, (NewO.start w _ _).ext ((Below.refl _ _).alloc (Nat.le_refl _) _)⟩
  case round =>
    obtain ⟨k, L, A, c, hk, rfl, hL, rfl, hN⟩ := hrel
    by_cases hlt : k < 4
    · have hki : (k : Int) < 4 := by omega
      have hsn : upB ws (64 * (k + 1)) = L ++ wordL k (wordB ws k) := by rw [hL, upB_word]; rfl
      have hlen : (L ++ wordL k (wordB ws k)).length ≤ 256 := by
        rw [← hsn]
        have := upB_len ws (64 * (k + 1))
        omega
      have Hsn := Lib.hid hsn
      have Hlen := Lib.hid hlen
      have HL := Lib.hid hL
      have hx := hs.wlt k
      clear hsn hlen hL hB1
      obtain ⟨x, hxe⟩ : ∃ x, wordB ws k = x := ⟨_, rfl⟩
      rw [hxe] at Hsn Hlen hx
      have Hxe := Lib.hid hxe
      obtain ⟨wo, hwo⟩ : ∃ wo : World, wo = wr := ⟨_, rfl⟩
      subst hwo
      go_wp2_with (refine wpList_index_set rfl _ _ rfl hs hlt rfl rfl ?_; rw [Hxe.out])
      clear hxe
      go_loopw [3, 6] (fun s v w3 => ∃ (y : Nat) (M : List Nat) (A2 : Option Addr) (c2 : Nat), v = .int .u64 (y : Int) ∧ y < 18446744073709551616 ∧ L ++ wordL k x = M ++ wordL k y ∧ s = .slice A2 M.length c2 ∧ NewO w w3 5 1 A2 M.length c2 (M.map nb)) (fun _ v _ => (intOf v).toNat)
      case atStart => exact ⟨x, L, A, c, rfl, hx, rfl, rfl, hN⟩
      case round =>
        obtain ⟨y, M, A2, c2, rfl, hy, hLM, rfl, hN2⟩ := hrel
        have hMl : M.length ≤ 256 := by
          have h1 := Hlen.out
          rw [hLM, List.length_append] at h1
          omega
        by_cases h0 : y = 0
        · subst h0
          have hLM2 : L ++ wordL k x = M := by rw [hLM, wordL_zero, List.append_nil]
          have HLM2 := Lib.hid hLM2
          clear hLM hLM2
          go_wp2
          go_roundw
          case rel => exact ⟨k + 1, M, A2, c2, by omega, by go_num, by rw [Hsn.out, HLM2.out], rfl, hN2⟩
          case measure => simp [intOf]; omega
        · obtain ⟨hcons, hct, hlty⟩ := wb_cons h0 hy
          have hLM3 := hLM
          rw [wordL_cons h0 hy] at hLM3
          have hcall := tz_any y h0 hy wr (ht.ext hN2.bel)
          have hyb : ((y : Int) == 0) = false := by simp; omega
          have hyn : ¬ ((y : Int) = 0) := by omega
          have hand : bits BinOp.and IntKind.u64 (y : Int) ((y : Int) - 1) = ((y &&& (y - 1) : Nat) : Int) := by
            have := bits_and_u64_nat y (y - 1) hy (by omega)
            rwa [show ((y - 1 : Nat) : Int) = (y : Int) - 1 by omega] at this
          have hal : y &&& (y - 1) < 18446744073709551616 := by omega
          clear hcons hLM
          generalize Lib.ctz 64 y = t at hct hcall hLM3
          generalize y &&& (y - 1) = z at hlty hand hal hLM3
          obtain ⟨b, hb⟩ : ∃ b, 64 * k + t = b := ⟨_, rfl⟩
          rw [hb] at hLM3
          have hbb : b < 256 := by omega
          have hbe : (k : Int) * 64 + (t : Int) = (b : Int) := by omega
          have hm1 : M.length + 1 ≤ maxLen := by unfold maxLen; omega
          have hm2 : (M.length + 1) * 1 ≤ 140737488355328 := by omega
          have HLM := Lib.hid hLM3
          have Hb := Lib.hid hb
          clear hLM3 hb
          go_wp2_with fail
          refine hcall.mono ?_
          rintro e w3 ⟨rfl, rfl⟩
          clear hcall
          go_wp2_with (at_builtin
                       refine wpList_appO _ rfl (.tmp 19) (.tmp 26) _ rfl _ _ 1 1 Tryd.underlying44 info_u8 rfl A2 _ c2 _ rfl (hN2.row.alloc _) (some ⟨wr.heap.size, 0, none⟩) 1 1 [_] rfl rfl (Rd.lit _ #[_] _) ?_ ?_ hm1 hm2 ?_
                       · simp; rfl
                       · intro h; cases h
                       intro A3 c3 w4 hrow4 honly4 hA4)
          have hN4 := hN2.grow (ext_alloc (Below.refl _ _) _) hrow4 honly4 hA4
          go_roundw
          case rel =>
            refine ⟨z, M ++ [b], A3, c3, rfl, hal, by rw [HLM.out, List.append_assoc]; rfl, by rw [List.length_append]; rfl, ?_⟩
            rw [List.length_append, List.map_append]
            exact hN4
          case measure => simp [intOf]; omega
    · obtain rfl : k = 4 := by omega
      have hL2 : L = listB ws := hL
      subst hL2
      clear hL hB1
      go_wp2
      go_ret
      exact ⟨A, c, rfl, hN⟩

end Go.Proofs.YtmggajpecgnjkaaDoor

/-
  Contract of Ranges. No statement of the seat is proved here.
-/
namespace Go.Proofs.YtmggajpecgnjkaaDoor
open Go Go.RowKit
set_option maxRecDepth 100000


set_option maxHeartbeats 4000000 in
theorem ranges_any (ws : List Nat) (hs : SetOk ws) (w : World) (ht : Tab w) :
    Calls Tryd.prog 103 #[setV ws] w fun e w' => ∃ A' c', e = .returned (.slice A' (rowsB (listB ws)).length c') ∧ NewO w w' 106 2 A' (rowsB (listB ws)).length c' (cellsR (rowsB (listB ws))) := by
  have hB1 := Blk.new w 24 (cellsU ws)
  have hcall := list_any ws hs (w.alloc (Obj.cells (cellsU ws) 24)) (ht.ext ((Below.refl _ _).alloc (Nat.le_refl _) _))
  have hbs : ∀ b ∈ listB ws, b < 256 := fun b hb => listB_lt hb
  have hps := listB_rises ws
  have hll := listB_len ws
  obtain ⟨l, hl⟩ : ∃ l, listB ws = l := ⟨_, rfl⟩
  rw [hl] at hcall hbs hps hll ⊢
  clear hl ht
  unfold setV at hcall ⊢
  go_enter Tryd.func103, Tryd.ntmps103
  go_wp2_with (refine wpList_load_set rfl _ rfl w.heap.size rfl hs hB1 ?_)
  refine hcall.mono ?_
  rintro e w2 ⟨AL, cL, rfl, hNL⟩
  clear hcall hB1
  go_wp2
  go_loopw [3, 5, 6, 10] (fun s _ _ i wr => ∃ (k : Nat) (R : List (Nat × Nat)) (A : Option Addr) (c : Nat), k ≤ l.length ∧ i = .int .i64 (k : Int) ∧ R = rowsB (l.take k) ∧ s = .slice A R.length c ∧ NewO w2 wr 106 2 A R.length c (cellsR R)) (fun _ _ _ i _ => l.length - (intOf i).toNat)
  case atStart => exact ⟨0, [], none, 0, by omega, rfl, rfl, rfl, NewO.start _ _ _⟩
  case round =>
    obtain ⟨k, R, A, c, hk, rfl, hR, rfl, hN⟩ := hrel
    by_cases hlt : k < l.length
    · have hki : (k : Int) < (l.length : Int) := by omega
      obtain ⟨ad, rfl, q⟩ := (hNL.rd.ext hN.bel).at_ (k := k) (by simpa using hlt)
      simp only [List.getElem_map, nb] at q
      have hbb := hbs l[k] (List.getElem_mem hlt)
      rcases rows_at hbs hps hlt with ⟨hk0, h1, h2⟩ | ⟨r, lo, h, hk0, h1, hhb, hk1, hrl, hj, hn⟩
      · obtain rfl : R = [] := hR.trans h1
        have H2 := Lib.hid h2
        clear hR h1 h2 hk0
        generalize l[k] = b at q hbb H2
        have hm1 : 0 + 1 ≤ maxLen := by unfold maxLen; omega
        have hm2 : (0 + 1) * 2 ≤ 140737488355328 := by omega
        go_wp2_with (at_builtin
                     refine wpList_appO _ rfl (.tmp 34) (.tmp 38) _ rfl _ _ 2 2 Tryd.underlying104 info_two rfl A _ c _ rfl (hN.row.alloc _) (some ⟨wr.heap.size, 0, none⟩) 1 1 (encR (b, b)) rfl rfl (Rd.lit _ #[.int .u8 (b : Int), .int .u8 (b : Int)] _) ?_ ?_ hm1 hm2 ?_
                     · simp [encR, nb]; rfl
                     · intro h; cases h
                     intro A3 c3 w3 hrow3 honly3 hA3)
        have hN3 := hN.grow (ext_alloc (Below.refl _ _) _) hrow3 honly3 hA3
        go_roundw
        case rel => exact ⟨k + 1, [(b, b)], A3, c3, by omega, by go_num, H2.out.symm, rfl, hN3⟩
        case measure => simp [intOf]; omega
      · obtain rfl : R = r ++ [(lo, h)] := hR.trans h1
        have Hj := Lib.hid hj
        have Hn := Lib.hid hn
        clear hR h1 hk1 hj hn
        generalize l[k] = b at q hbb hhb Hj Hn
        obtain ⟨g, o, rfl, q1, q2⟩ := hN.row.cellR (k := r.length) (by simp)
        simp only [List.getElem_append_right (Nat.le_refl _), Nat.sub_self, List.getElem_cons_zero] at q1 q2
        rw [List.length_append, List.length_singleton] at hN ⊢
        have hfr := hN.row.free (o + r.length * 2 + 1)
        have hrb : r.length ≤ 1000000 := by omega
        have hlast : ((r.length + 1 : Nat) : Int) - 1 = (r.length : Int) := by omega
        have hb1 : IntKind.u8.wrap ((b : Int) - 1) = (b : Int) - 1 := by rw [IntKind.wrap_u8]; omega
        by_cases he : h + 1 = b
        · have hN3 := hN.set (r.length * 2 + 1) (by rw [cellsR_length, List.length_append, List.length_singleton]; omega) (nb b)
          rw [← Nat.add_assoc, cellsR_set] at hN3
          have H3 := Lib.hid hN3
          have hR3 := Hj.out he
          have HR3 := Lib.hid hR3
          have hhe : (h : Int) = (b : Int) - 1 := by omega
          have heq : ((h : Int) == (b : Int) - 1) = true := by simp; omega
          clear hN3 hR3
          go_wp2
          go_roundw
          case rel =>
            refine ⟨k + 1, r ++ [(lo, b)], some ⟨g, o, none⟩, c, by omega, by go_num, HR3.out.symm, by simp, ?_⟩
            rw [List.length_append, List.length_singleton]
            exact H3.out
          case measure => simp [intOf]; omega
        · have hne : ((h : Int) == (b : Int) - 1) = false := by simp; omega
          have hnn : ¬ ((h : Int) = (b : Int) - 1) := by omega
          have hR3 := Hn.out he
          have HR3 := Lib.hid hR3
          have hm1 : r.length + 1 + 1 ≤ maxLen := by unfold maxLen; omega
          have hm2 : (r.length + 1 + 1) * 2 ≤ 140737488355328 := by omega
          clear hR3
          go_wp2_with (at_builtin
                       refine wpList_appO _ rfl (.tmp 34) (.tmp 38) _ rfl _ _ 2 2 Tryd.underlying104 info_two rfl (some ⟨g, o, none⟩) _ c _ rfl (hN.row.alloc _) (some ⟨wr.heap.size, 0, none⟩) 1 1 (encR (b, b)) rfl rfl (Rd.lit _ #[.int .u8 (b : Int), .int .u8 (b : Int)] _) ?_ ?_ hm1 hm2 ?_
                       · simp [encR, nb]; rfl
                       · intro h; cases h
                       intro A3 c3 w3 hrow3 honly3 hA3)
          have hN3 := hN.grow (ext_alloc (Below.refl _ _) _) hrow3 honly3 hA3
          go_roundw
          case rel =>
            refine ⟨k + 1, r ++ [(lo, h)] ++ [(b, b)], A3, c3, by omega, by go_num, HR3.out.symm, by simp, ?_⟩
            rw [cellsR_append]
            simpa [cellsR] using hN3
          case measure => simp [intOf]; omega
    · obtain rfl : k = l.length := by omega
      rw [List.take_length] at hR
      subst hR
      go_wp2
      go_ret
      exact ⟨A, c, rfl, (hN.back hNL.bel).back ((Below.refl _ _).alloc (Nat.le_refl _) _)⟩
end Go.Proofs.YtmggajpecgnjkaaDoor

/-
  What the arguments of the laws read as, in this seat's words for memory (numbers, bytes); how a law's contract closes its statement. No statement of the seat is proved here.
-/
namespace Go.Proofs.YtmggajpecgnjkaaDoor
open Go Go.ChangeShapes Go.WideShapes Go.ChangeAt Go.RowKit

theorem own : ownKnob Tryd.prog.godebug = none := by kernel_rfl
theorem laidOut : laidOutB Tryd.prog = true := by kernel_rfl
theorem cells_u8 : Tryd.prog.cellsOf 5 = 1 := by kernel_rfl
theorem cells_int : Tryd.prog.cellsOf 3 = 1 := by kernel_rfl

section
variable {H : Type} {enc : TypeId × Value → H} {W : World} {base : Nat}
theorem bv_of {z : Int} (h : (Lit.int .u8 z).wf = true) : Value.int .u8 z = bv z.toNat.toUInt8 := by
  have h1 : IntKind.u8.min = 0 := rfl
  have h2 : IntKind.u8.max = 255 := rfl
  simp only [Lit.wf, Bool.and_eq_true, decide_eq_true_eq] at h
  unfold bv
  rw [show (z.toNat.toUInt8.toNat : Int) = z by simp [Nat.toUInt8, UInt8.toNat_ofNat']; omega]

/-- the bytes that numbers are -/
def toBytes (zs : List Int) : List UInt8 := zs.map fun z => z.toNat.toUInt8

theorem rd_bytes {a : Addr} {len : Nat} {zs : List Int} (hl : len ≤ zs.length) (hc : ∀ i, i < zs.length → W.cell? (a.add i) = some (.int .u8 (zs.getD i 0))) (hw : ∀ n ∈ zs, (Lit.int .u8 n).wf = true) :
    Rd W (some a) ((toBytes (zs.take len)).map bv) := by
  intro j u hu
  have hj : j < len := by
    have := (List.getElem?_eq_some_iff.1 hu).1
    simp [toBytes] at this; omega
  refine ⟨a, rfl, ?_⟩
  rw [hc j (by omega), ← hu]
  have hz : zs.getD j 0 = zs[j]'(by omega) := by simp [List.getD, show j < zs.length by omega]
  rw [hz, bv_of (hw _ (List.getElem_mem _))]
  simp [toBytes, hj, show j < zs.length by omega]

set_option maxRecDepth 100000 in
theorem arg_bytes {v : Value} {d : DataW H} {p : List MemPlace} (hv : Value.okWide Tryd.prog W .any base 44 v) (h : DataW.Trod enc Tryd.prog W 0 (fun _ => true) true 44 v d p) :
    ∃ (A : Option Addr) (n c : Nat) (xs : List UInt8), v = .slice A n c ∧ n = xs.length ∧ xs.length ≤ c ∧ c ≤ maxLen ∧ Rd W A (xs.map bv) := by
  obtain ⟨a0, len, cap, rfl⟩ := okWide_slice Tryd.underlying44 hv
  obtain ⟨fuel, hf⟩ := h
  rcases open_ints Tryd.underlying44 Tryd.underlying5 cells_u8 hf with ⟨hcs, hx⟩ | ⟨a, len', cap', zs, hcs, _, hl, hm, hz, hx, hcell, hwz⟩
  · simp [Value.cells] at hcs
    obtain ⟨rfl, rfl, rfl⟩ := hcs
    exact ⟨none, 0, 0, [], rfl, rfl, Nat.le_refl _, Nat.zero_le _, Rd.nil _ _⟩
  · simp [Value.cells] at hcs
    obtain ⟨rfl, rfl, rfl⟩ := hcs
    simp only [if_true] at hz
    exact ⟨some a, len, cap, toBytes (zs.take len), rfl, by simp [toBytes]; omega, by simp [toBytes]; omega, hm, rd_bytes (by omega) hcell hwz⟩

end

theorem int_of_wf {v : Int} (h : (Lit.int .i64 v).wf = true) : isInt v := by
  have h1 : IntKind.i64.min = -9223372036854775808 := rfl
  have h2 : IntKind.i64.max = 9223372036854775807 := rfl
  simp only [Lit.wf, Bool.and_eq_true, decide_eq_true_eq] at h
  unfold isInt
  omega
theorem u8_of_wf {v : Int} (h : (Lit.int .u8 v).wf = true) : 0 ≤ v ∧ v ≤ 255 := by
  have h1 : IntKind.u8.min = 0 := rfl
  have h2 : IntKind.u8.max = 255 := rfl
  simp only [Lit.wf, Bool.and_eq_true, decide_eq_true_eq] at h
  omega

/-! ### How a contract closes a statement -/
section
variable {H : Type} {enc : TypeId × Value → H}
theorem below_trodAll {P : Program} (hl : laidOutB P = true) {W W' : World} (hb : Below W.heap.size W W') : ∀ {ts : List TypeId} {vs : List Value} {ds : List (DataW H)} {ps : List MemPlace},
    (∀ t ∈ ts, P.readableRec t = true ∧ t < P.types.size) → DataW.TrodAll enc P W 0 (fun _ => true) true ts vs ds ps → (∀ x ∈ ps, x.block < W.heap.size) → DataW.TrodAll enc P W' 0 (fun b => decide (b < W.heap.size)) true ts vs ds ps
  | [], [], [], _, _, h, _ => h
  | t :: ts, v :: vs, d :: ds, _, hr, h, hlt => by
    obtain ⟨p, q, h1, h2, rfl⟩ := h
    exact ⟨p, q, Below.trod hl (hr t (by simp)).1 (hr t (by simp)).2 h1 hb (fun x hx => hlt x (by simp [hx])), below_trodAll hl hb (fun t' ht => hr t' (by simp [ht])) h2 (fun x hx => hlt x (by simp [hx])), rfl⟩
  | [], [], _ :: _, _, _, h, _ => h.elim
  | [], _ :: _, _, _, _, h, _ => h.elim
  | _ :: _, [], _, _, _, h, _ => h.elim
  | _ :: _, _ :: _, [], _, _, h, _ => h.elim

/-- a law that returned true, and left all that was there as it was -/
theorem law_post {f : Func} {s : ChangeSpec} {W W' : World} {args : Array Value} {ds gs : List (DataW H)} {before : List MemPlace} (hvars : s.vars = []) (hf : f.resultTypes = #[4])
    (hread : f.params.toList.all (fun t => Tryd.prog.readableRec t && decide (t < Tryd.prog.types.size)) = true)
    (hs : (s.fn H ds).results = [.lit (.bool true)] ∧ (s.fn H ds).args = ds ∧ (s.fn H ds).vars = []) (hW : DataW.Whole enc Tryd.prog f.params.toList s.vars false W args.toList ds gs before) (hb : Below W.heap.size W W') :
    s.post enc Tryd.prog f false true false false W args (.bool true) W' := by
  have hW' := hW
  have hlt : ∀ x ∈ before, x.block < W.heap.size := fun x hx => by simpa using hW'.lt x hx
  obtain ⟨p, q, hA, hV, he, _, _⟩ := hW
  rw [hvars] at hV
  obtain ⟨hg, hq⟩ := trodVars_none hV
  have hx : ds ++ gs = ds := by rw [hg, List.append_nil]
  refine ⟨ds, gs, before, [] ++ [], p, [], hW', ?_, ?_, ?_, hb.frame _, fun h => by cases h⟩
  · rw [hx, hs.1, hf]
    exact trodAll_cons_mk (shut_bool Tryd.underlying4 _) trodAll_mk0
  · rw [hx, hs.2.1]
    refine below_trodAll laidOut hb (fun t ht => ?_) hA (fun x hx => hlt x (by rw [he]; simp [hx]))
    have := List.all_eq_true.1 hread t ht
    simpa using this
  · rw [hx, hs.2.2, hvars]
    rfl
end

/-- a world for the witness: the settled one -/
noncomputable def plainWorld (os : Os) : World := World.holding Tryd.prog os ⟨#[], #[], []⟩
end Go.Proofs.YtmggajpecgnjkaaDoor

/-
  Arguments that are sets of bytes. No statement of the seat is proved here.
-/
namespace Go.Proofs.YtmggajpecgnjkaaDoor
open Go Go.ChangeShapes Go.WideShapes Go.ChangeAt Go.RowKit
set_option maxRecDepth 100000


section
variable {H : Type} {enc : TypeId × Value → H} {W : World} {base : Nat}
theorem okWide_array {P : Program} {r : Reach} {t e : TypeId} {n : Nat} {v : Value} (ht : P.underlying t = some (.array n e)) (h : Value.okWide P W r base t v) : ∃ cs, v = .agg cs ∧ cs.size = P.cellsOf t := by
  simp only [Value.okWide, ht] at h
  obtain ⟨cs, h1, h2, _⟩ := h
  exact ⟨cs, h1, h2⟩
theorem cells_set : Tryd.prog.cellsOf 24 = 4 := by kernel_rfl
theorem u64_of_wf {v : Int} (h : (Lit.int .u64 v).wf = true) : ∃ n : Nat, v = (n : Int) ∧ n < 18446744073709551616 := by
  have h1 : IntKind.u64.min = 0 := rfl
  have h2 : IntKind.u64.max = 18446744073709551615 := rfl
  simp only [Lit.wf, Bool.and_eq_true, decide_eq_true_eq] at h
  exact ⟨v.toNat, by omega, by omega⟩
theorem cell_set {fuel : Nat} {cs : List Value} {x : DataW H × List MemPlace} (hl : cs.length = 4) (hf : DataW.trod enc Tryd.prog W 0 (fun _ => true) true fuel 24 cs = some x) : ∃ ws, SetOk ws ∧ cs = ws.map uv := by
  match cs, hl with
  | [c0, c1, c2, c3], _ =>
    obtain ⟨y0, y1, y2, y3, n, _, g0, g1, g2, g3⟩ := trod_array4 Tryd.underlying24 cells_w hf
    obtain ⟨z0, q0, _, w0⟩ := DataW.trod_int Tryd.underlying22 g0
    obtain ⟨z1, q1, _, w1⟩ := DataW.trod_int Tryd.underlying22 g1
    obtain ⟨z2, q2, _, w2⟩ := DataW.trod_int Tryd.underlying22 g2
    obtain ⟨z3, q3, _, w3⟩ := DataW.trod_int Tryd.underlying22 g3
    obtain ⟨n0, rfl, l0⟩ := u64_of_wf w0
    obtain ⟨n1, rfl, l1⟩ := u64_of_wf w1
    obtain ⟨n2, rfl, l2⟩ := u64_of_wf w2
    obtain ⟨n3, rfl, l3⟩ := u64_of_wf w3
    injection q0 with q0
    injection q1 with q1
    injection q2 with q2
    injection q3 with q3
    subst q0 q1 q2 q3
    exact ⟨[n0, n1, n2, n3], ⟨rfl, by simp [l0, l1, l2, l3]⟩, rfl⟩

set_option maxRecDepth 100000 in
theorem arg_set {v : Value} {d : DataW H} {p : List MemPlace} (hv : Value.okWide Tryd.prog W .any base 24 v) (h : DataW.Trod enc Tryd.prog W 0 (fun _ => true) true 24 v d p) : ∃ ws, SetOk ws ∧ v = setV ws := by
  obtain ⟨cs, rfl, hsz⟩ := okWide_array Tryd.underlying24 hv
  rw [cells_set] at hsz
  obtain ⟨fuel, hf⟩ := h
  obtain ⟨ws, hs, e⟩ := cell_set (by simp [Value.cells, hsz]) hf
  refine ⟨ws, hs, ?_⟩
  unfold setV cellsU
  rw [← e]
  simp [Value.cells]

theorem flat_of_cell {w : World} {ad : Addr} {u : Value} (h : w.cell? (ad.add 0) = some u) : ∃ g o, ad = ⟨g, o, none⟩ := by
  obtain ⟨g, o, s⟩ := ad
  cases s with
  | none => exact ⟨g, o, rfl⟩
  | some s =>
    unfold World.cell? Addr.add at h
    simp at h
    split at h <;> simp at h
theorem rd_flat {β : Type} (a : Addr) (len sz : Nat) (T : Nat → β) (enc : β → List Value) (hsz : ∀ k, k < len → (enc (T k)).length = sz) (h : ∀ k, k < len → ∀ j u, (enc (T k))[j]? = some u → W.cell? (a.add (k * sz + j)) = some u) :
    Rd W (some a) (((List.range len).map T).flatMap enc) := by
  have key : ∀ n, n ≤ len → Rd W (some a) (((List.range n).map T).flatMap enc) ∧ (((List.range n).map T).flatMap enc).length = n * sz := by
    intro n
    induction n with
    | zero => intro _; exact ⟨Rd.nil _ _, by simp⟩
    | succ n ih =>
      intro hn
      obtain ⟨h1, h2⟩ := ih (by omega)
      have e : (((List.range (n + 1)).map T).flatMap enc) = (((List.range n).map T).flatMap enc) ++ enc (T n) := by
        rw [List.range_succ, List.map_append, List.flatMap_append]
        simp
      refine ⟨fun j u hu => ?_, by rw [e, List.length_append, h2, hsz n (by omega), Nat.add_mul]; omega⟩
      rw [e, List.getElem?_append, h2] at hu
      split at hu
      · exact h1 j u hu
      · rename_i hj
        refine ⟨a, rfl, ?_⟩
        have := h n (by omega) _ u hu
        rwa [show n * sz + (j - n * sz) = j by omega] at this
  exact (key len (Nat.le_refl _)).1

end
end Go.Proofs.YtmggajpecgnjkaaDoor

/-
  Arguments that are expressions. No statement of the seat is proved here.
-/
namespace Go.Proofs.YtmggajpecgnjkaaDoor
open Go Go.ChangeShapes Go.WideShapes Go.ChangeAt Go.RowKit
set_option maxRecDepth 100000


theorem cells_re : Tryd.prog.cellsOf 27 = 8 := by kernel_rfl
theorem cells_res : Tryd.prog.cellsOf 25 = 1 := by kernel_rfl
theorem cells_set' : Tryd.prog.cellsOf 24 = 4 := by kernel_rfl
theorem cells_i : Tryd.prog.cellsOf 3 = 1 := by kernel_rfl
section
variable {H : Type} {enc : TypeId × Value → H} {W : World} {base : Nat}
set_option maxRecDepth 100000 in
/-- cells that read as data of the kind are an expression -/
theorem cell_re : ∀ (fuel : Nat) (cs : List Value) (x : DataW H × List MemPlace), DataW.trod enc Tryd.prog W 0 (fun _ => true) true fuel 27 cs = some x → ∃ t, ReR (fun _ => True) W t cs := by
  intro fuel
  induction fuel using Nat.strongRecOn with
  | ind fuel ih =>
    intro cs x h
    obtain ⟨xs, n, rfl, rfl, hcl, hxl, hf⟩ := DataW.trod_struct Tryd.underlying27 h
    rw [cells_re] at hcl
    match cs, hcl, xs, hxl with
    | [c0, c1, c2, c3, c4, c5, c6, c7], _, [x0, x1, x2, x3, x4], _ =>
      have h0 := hf 0 _ rfl
      change DataW.trod enc Tryd.prog W 0 _ true n 3 (([c0, c1, c2, c3, c4, c5, c6, c7].drop 0).take (Tryd.prog.cellsOf 3)) = some x0 at h0
      rw [cells_i] at h0
      have h1 := hf 1 _ rfl
      change DataW.trod enc Tryd.prog W 0 _ true n 24 (([c0, c1, c2, c3, c4, c5, c6, c7].drop 1).take (Tryd.prog.cellsOf 24)) = some x1 at h1
      rw [cells_set'] at h1
      have h2 := hf 2 _ rfl
      change DataW.trod enc Tryd.prog W 0 _ true n 25 (([c0, c1, c2, c3, c4, c5, c6, c7].drop 5).take (Tryd.prog.cellsOf 25)) = some x2 at h2
      rw [cells_res] at h2
      have h3 := hf 3 _ rfl
      change DataW.trod enc Tryd.prog W 0 _ true n 3 (([c0, c1, c2, c3, c4, c5, c6, c7].drop 6).take (Tryd.prog.cellsOf 3)) = some x3 at h3
      rw [cells_i] at h3
      have h4 := hf 4 _ rfl
      change DataW.trod enc Tryd.prog W 0 _ true n 3 (([c0, c1, c2, c3, c4, c5, c6, c7].drop 7).take (Tryd.prog.cellsOf 3)) = some x4 at h4
      rw [cells_i] at h4
      clear hf
      obtain ⟨k, e0, -, wk⟩ := DataW.trod_int Tryd.underlying3 h0
      obtain ⟨lo, e3, -, wlo⟩ := DataW.trod_int Tryd.underlying3 h3
      obtain ⟨hi, e4, -, whi⟩ := DataW.trod_int Tryd.underlying3 h4
      obtain ⟨ws, hs, e1⟩ := cell_set (by simp) h1
      obtain ⟨a, b, c, d, rfl⟩ := four_words hs
      simp only [List.drop, List.take, List.cons.injEq, and_true] at e0 e3 e4
      simp only [List.drop, List.take, List.map_cons, List.map_nil, List.cons.injEq, and_true, uv] at e1
      obtain ⟨rfl, rfl, rfl, rfl⟩ := e1
      subst e0 e3 e4
      have key : ∃ (ks : List Ex) (A : Option Addr) (cap : Nat), c5 = .slice A ks.length cap ∧ ks.length ≤ cap ∧ cap ≤ maxLen ∧ Kids (fun _ => True) W A ks := by
        rcases DataW.trod_slice Tryd.underlying25 h2 with ⟨he, _⟩ | ⟨ad, len, cap, elems, rest, m, rfl, he, -, _, hlc, hcm, hel, hi', -⟩
        · simp only [List.drop, List.take, List.cons.injEq, and_true] at he
          exact ⟨[], none, 0, he, Nat.le_refl _, Nat.zero_le _, fun k hk => absurd hk (by simp)⟩
        · simp only [List.drop, List.take, List.cons.injEq, and_true] at he
          rw [cells_re] at hi'
          have hk : ∀ i, ∃ t : Ex, i < len → ∃ cs', W.cells? 0 (ad.add (i * 8)) 8 = some cs' ∧ ReR (fun _ => True) W t cs' := fun i => by
            by_cases hlt : i < len
            · have h5 := hi' i hlt
              rw [List.getElem?_eq_getElem (by omega)] at h5
              obtain ⟨cs', h6, h7⟩ := Option.bind_eq_some_iff.1 h5
              obtain ⟨t, ht⟩ := ih m (by omega) cs' _ h7
              exact ⟨t, fun _ => ⟨cs', h6, ht⟩⟩
            · exact ⟨emptyE, fun h => absurd h hlt⟩
          obtain ⟨T, hT⟩ := Classical.axiomOfChoice hk
          refine ⟨(List.range len).map T, some ad, cap, by rw [he]; simp, by simpa using hlc, hcm, fun j hj => ?_⟩
          have hjl : j < len := by simpa using hj
          obtain ⟨cs', h6, h7⟩ := hT j hjl
          obtain ⟨cs0, h8, h9⟩ := hT 0 (by omega)
          obtain ⟨_, hl8, hc8⟩ := World.cells?_some h8
          obtain ⟨_, hl6, hc6⟩ := World.cells?_some h6
          have hz : W.cell? (ad.add 0) = some cs0[0] := by
            have := hc8 0 (by omega)
            rw [add_add_, Nat.zero_mul, Nat.add_zero] at this
            rw [this, List.getElem?_eq_getElem (by omega)]
          obtain ⟨g, o, rfl⟩ := flat_of_cell hz
          refine ⟨g, o, cs', rfl, trivial, fun i u hu => ?_, by simpa using h7⟩
          have hi8 : i < 8 := by have := (List.getElem?_eq_some_iff.1 hu).1; omega
          have := hc6 i hi8
          rw [Addr.add_mid, Addr.add_mid] at this
          rw [this]
          exact hu
      obtain ⟨ks, A, cap, rfl, k1, k2, k3⟩ := key
      refine ⟨.mk k [a, b, c, d] ks lo hi, ?_⟩
      rw [reR_iff]
      exact ⟨⟨int_of_wf wk, hs, int_of_wf wlo, int_of_wf whi⟩, A, cap, rfl, k1, k2, k3⟩

/-- an argument that is an expression -/
theorem arg_re {v : Value} {d : DataW H} {p : List MemPlace} (hv : Value.okWide Tryd.prog W .any base 27 v) (h : DataW.Trod enc Tryd.prog W 0 (fun _ => true) true 27 v d p) : ∃ (t : Ex) (cs : List Value), v = reV cs ∧ ReR (fun _ => True) W t cs := by
  obtain ⟨cs, rfl, hsz⟩ := okWide_struct Tryd.underlying27 hv
  obtain ⟨fuel, hf⟩ := h
  obtain ⟨t, ht⟩ := cell_re fuel _ _ hf
  exact ⟨t, cs.toList, by simp [reV], by simpa [Value.cells] using ht⟩
/-- an argument that is a list of expressions -/
theorem arg_res {v : Value} {d : DataW H} {p : List MemPlace} (hv : Value.okWide Tryd.prog W .any base 25 v) (h : DataW.Trod enc Tryd.prog W 0 (fun _ => true) true 25 v d p) :
    ∃ (A : Option Addr) (n c : Nat) (l : List Ex), v = .slice A n c ∧ n = l.length ∧ l.length ≤ c ∧ c ≤ maxLen ∧ Kids (fun _ => True) W A l := by
  obtain ⟨a0, len0, cap0, rfl⟩ := okWide_slice Tryd.underlying25 hv
  obtain ⟨fuel, hf⟩ := h
  rcases DataW.trod_slice Tryd.underlying25 hf with ⟨he, _⟩ | ⟨ad, len, cap, elems, rest, m, rfl, he, -, _, hlc, hcm, hel, hi', -⟩
  · simp [Value.cells] at he
    obtain ⟨rfl, rfl, rfl⟩ := he
    exact ⟨none, 0, 0, [], rfl, rfl, Nat.le_refl _, Nat.zero_le _, fun k hk => absurd hk (by simp)⟩
  · simp [Value.cells] at he
    obtain ⟨rfl, rfl, rfl⟩ := he
    rw [cells_re] at hi'
    have hk : ∀ i, ∃ t : Ex, i < len0 → ∃ cs', W.cells? 0 (ad.add (i * 8)) 8 = some cs' ∧ ReR (fun _ => True) W t cs' := fun i => by
      by_cases hlt : i < len0
      · have h5 := hi' i hlt
        rw [List.getElem?_eq_getElem (by omega)] at h5
        obtain ⟨cs', h6, h7⟩ := Option.bind_eq_some_iff.1 h5
        obtain ⟨t, ht⟩ := cell_re m cs' _ h7
        exact ⟨t, fun _ => ⟨cs', h6, ht⟩⟩
      · exact ⟨emptyE, fun h => absurd h hlt⟩
    obtain ⟨T, hT⟩ := Classical.axiomOfChoice hk
    refine ⟨some ad, len0, cap0, (List.range len0).map T, rfl, by simp, by simpa using hlc, hcm, fun j hj => ?_⟩
    have hjl : j < len0 := by simpa using hj
    obtain ⟨cs', h6, h7⟩ := hT j hjl
    obtain ⟨cs0, h8, h9⟩ := hT 0 (by omega)
    obtain ⟨_, hl8, hc8⟩ := World.cells?_some h8
    obtain ⟨_, hl6, hc6⟩ := World.cells?_some h6
    have hz : W.cell? (ad.add 0) = some cs0[0] := by
      have := hc8 0 (by omega)
      rw [add_add_, Nat.zero_mul, Nat.add_zero] at this
      rw [this, List.getElem?_eq_getElem (by omega)]
    obtain ⟨g, o, rfl⟩ := flat_of_cell hz
    refine ⟨g, o, cs', rfl, trivial, fun i u hu => ?_, by simpa using h7⟩
    have hi8 : i < 8 := by have := (List.getElem?_eq_some_iff.1 hu).1; omega
    have := hc6 i hi8
    rw [Addr.add_mid, Addr.add_mid] at this
    rw [this]
    exact hu
end
end Go.Proofs.YtmggajpecgnjkaaDoor

/-
  The mathematics of texts that were printed and are parsed, first part: bytes, rows of neighbours, digits. No statement of the seat is proved here.
-/
namespace Go.Proofs.YtmggajpecgnjkaaDoor
open Go
set_option maxRecDepth 100000


theorem half_hex : ∀ x : Fin 16, halfD (hexD x.val) = some x.val := by decide +kernel
theorem plain_sign : ∀ c : Fin 256, plainB c.val = true → inS c.val = false ∧ c.val ≠ 92 ∧ c.val ≠ 45 ∧ c.val ≠ 93 ∧ c.val ≠ 94 ∧ c.val ≠ 46 ∧ c.val ≠ 40 ∧ c.val ≠ 91 ∧ c.val ≠ 124 ∧ c.val ≠ 41 := by decide +kernel
/-- a byte, printed, is parsed as itself -/
theorem byteP_sign {c : Nat} (h : c < 256) (l : List Nat) : byteP (signB c ++ l) = .ok c l := by
  unfold signB
  cases hp : plainB c with
  | true =>
    obtain ⟨h1, h2, _⟩ := plain_sign ⟨c, h⟩ hp
    simp only [if_true, List.singleton_append, byteP]
    rw [if_neg h2, if_neg (by rw [h1]; simp)]
  | false =>
    have e1 := half_hex ⟨c / 16, by omega⟩
    have e2 := half_hex ⟨c % 16, by omega⟩
    simp only at e1 e2
    simp only [Bool.false_eq_true, if_false, List.cons_append, List.nil_append, byteP, strokeP, if_true]
    rw [if_neg (by omega), if_neg (by omega), if_neg (by omega)]
    simp only [hexP, e1, e2]
    congr 1
    omega
/-- how a byte, printed, begins -/
theorem sign_head {c : Nat} (h : c < 256) (l : List Nat) : ∃ a r, signB c ++ l = a :: r ∧ a ≠ 45 ∧ a ≠ 93 ∧ a ≠ 94 ∧ a ≠ 46 ∧ a ≠ 40 ∧ a ≠ 91 ∧ a ≠ 124 ∧ a ≠ 41 := by
  unfold signB
  cases hp : plainB c with
  | true =>
    obtain ⟨_, _, h1, h2, h3, h4, h5, h6, h7, h8⟩ := plain_sign ⟨c, h⟩ hp
    exact ⟨c, l, rfl, h1, h2, h3, h4, h5, h6, h7, h8⟩
  | false => exact ⟨92, _, rfl, by decide, by decide, by decide, by decide, by decide, by decide, by decide, by decide⟩
/-- a row, printed, is parsed as itself -/
theorem rangeP_row {p : Nat × Nat} (h1 : p.1 < 256) (h2 : p.2 < 256) (hle : p.1 ≤ p.2) {l : List Nat} (hl : l.head? ≠ some 45) : rangeP (rowT p ++ l) = .ok p l := by
  unfold rowT rangeP
  by_cases hlt : p.1 < p.2
  · rw [if_pos hlt, List.append_assoc, byteP_sign h1]
    simp only [PR.bind, List.cons_append]
    rw [byteP_sign h2]
    simp only
    rw [if_neg (by omega)]
  · rw [if_neg hlt, List.append_nil, byteP_sign h1]
    simp only [PR.bind]
    split
    · rename_i h; exact absurd rfl hl
    · rw [show (p.1, p.1) = p from Prod.ext rfl (by show p.1 = p.2; omega)]
theorem row_head {p : Nat × Nat} (h1 : p.1 < 256) (l : List Nat) : ∃ a r, rowT p ++ l = a :: r ∧ a ≠ 45 ∧ a ≠ 93 ∧ a ≠ 94 := by
  unfold rowT
  rw [List.append_assoc]
  obtain ⟨a, r, e, g1, g2, g3, _⟩ := sign_head h1 ((if p.1 < p.2 then 45 :: signB p.2 else []) ++ l)
  exact ⟨a, r, e, g1, g2, g3⟩
/-- rows, printed, up to the bracket -/
theorem rangesP_rows : ∀ (R : List (Nat × Nat)) (f : Nat) (first : Bool) (s l : List Nat), (∀ p ∈ R, p.1 < 256 ∧ p.2 < 256 ∧ p.1 ≤ p.2) → (first = true → R ≠ []) → R.length < f →
    rangesP f first s (rowsT R ++ 93 :: l) = .ok (R.foldl (fun s p => joinB [s, ofB (rangeB p.1 p.2)]) s) (93 :: l)
  | [], f + 1, first, s, l, _, h2, _ => by
    cases first with
    | true => exact absurd rfl (h2 rfl)
    | false => simp [rangesP, rowsT]
  | p :: R, f + 1, first, s, l, h1, _, h3 => by
    obtain ⟨b1, b2, b3⟩ := h1 p (by simp)
    have e : rowsT (p :: R) ++ 93 :: l = rowT p ++ (rowsT R ++ 93 :: l) := by simp [rowsT]
    have hnext : (rowsT R ++ 93 :: l).head? ≠ some 45 := by
      cases R with
      | nil => simp [rowsT]
      | cons q R' =>
        obtain ⟨a, r, e', g1, _⟩ := row_head (h1 q (by simp)).1 (rowsT R' ++ 93 :: l)
        rw [show rowsT (q :: R') ++ 93 :: l = rowT q ++ (rowsT R' ++ 93 :: l) by simp [rowsT], e']
        simpa using g1
    obtain ⟨a, r, e', _, g2, _⟩ := row_head b1 (rowsT R ++ 93 :: l)
    rw [e]
    simp only [rangesP]
    rw [if_neg (by rw [e']; simp; intro _ h; exact g2 h), rangeP_row b1 b2 b3 hnext]
    simp only [PR.bind, List.foldl_cons]
    exact rangesP_rows R f false _ l (fun q hq => h1 q (by simp [hq])) (by simp) (by simp only [List.length_cons] at h3; omega)

/-! ### digits -/
theorem digitsP_two {n : Nat} (h : n < 100) {l : List Nat} (hl : ∀ a r, l = a :: r → digB a = false) : digitsP (twoB n ++ l) = .ok (n : Int) l := by
  unfold twoB
  by_cases h10 : n < 10
  · rw [if_pos h10]
    have hd : digB (48 + n) = true := by simp [digB]; omega
    cases l with
    | nil =>
      simp only [List.append_nil, digitsP]
      rw [if_pos hd]
      congr 1; omega
    | cons a r =>
      have ha := hl a r rfl
      simp only [List.singleton_append, digitsP]
      rw [if_pos hd, ha]
      simp only [Bool.false_eq_true, if_false]
      congr 1; omega
  · rw [if_neg h10]
    have hd : digB (48 + n / 10) = true := by simp [digB]; omega
    have he : digB (48 + n % 10) = true := by simp [digB]; omega
    simp only [List.cons_append, List.nil_append, digitsP]
    rw [if_pos hd, if_pos he]
    congr 1; omega

theorem digB_no : ∀ c, (c = 44 ∨ c = 125) → digB c = false := by
  rintro c (rfl | rfl) <;> rfl
theorem rep_low {lo hi : Int} (h : repB lo hi = true) : 0 ≤ lo ∧ lo ≤ 32 ∧ (hi = -1 ∨ (1 ≤ hi ∧ hi ≤ 32 ∧ lo ≤ hi)) := by
  simpa [repB, and_assoc] using h
theorem curlyEnd_ok {lo hi : Int} (h : repB lo hi = true) (l : List Nat) : curlyEnd lo hi (125 :: l) = .ok (lo, hi) l := by
  simp [curlyEnd, h]
/-- a repeat's sign, printed, is parsed as itself -/
theorem timesP_sign {lo hi : Int} (h : repB lo hi = true) (x : Ex) {l : List Nat} (hl : signP l = false) : timesP x (timesT lo hi ++ l) = .ok (.mk 4 zeroB [x] lo hi) l := by
  obtain ⟨h1, h2, h3⟩ := rep_low h
  have hag : ∀ a b : Int, againP x a b l = .ok (.mk 4 zeroB [x] a b) l := fun a b => by rw [againP, if_neg (by rw [hl]; simp)]
  unfold timesT
  by_cases c1 : lo = 0 ∧ hi = -1
  · rw [if_pos c1, c1.1, c1.2]; exact hag _ _
  by_cases c2 : lo = 1 ∧ hi = -1
  · rw [if_neg c1, if_pos c2, c2.1, c2.2]; exact hag _ _
  by_cases c3 : lo = 0 ∧ hi = 1
  · rw [if_neg c1, if_neg c2, if_pos c3, c3.1, c3.2]; exact hag _ _
  rw [if_neg c1, if_neg c2, if_neg c3]
  have hln : (lo.toNat : Int) = lo := by omega
  by_cases c4 : lo = hi
  · rw [if_pos c4]
    subst c4
    have e : 123 :: (twoB lo.toNat ++ [125]) ++ l = 123 :: (twoB lo.toNat ++ (125 :: l)) := by simp
    rw [e]
    simp only [timesP, curlyP]
    rw [digitsP_two (by omega) (by rintro a r e; injection e with e; subst e; rfl)]
    simp only [PR.bind, hln]
    rw [curlyEnd_ok h]
    exact hag _ _
  rw [if_neg c4]
  by_cases c5 : hi = -1
  · rw [if_pos c5]
    subst c5
    have e : 123 :: (twoB lo.toNat ++ [44, 125]) ++ l = 123 :: (twoB lo.toNat ++ (44 :: 125 :: l)) := by simp
    rw [e]
    simp only [timesP, curlyP]
    rw [digitsP_two (by omega) (by rintro a r e; injection e with e; subst e; rfl)]
    simp only [PR.bind, hln, List.head?_cons, if_true]
    rw [curlyEnd_ok h]
    exact hag _ _
  · rw [if_neg c5]
    have hhn : (hi.toNat : Int) = hi := by omega
    have e : 123 :: (twoB lo.toNat ++ (44 :: (twoB hi.toNat ++ [125]))) ++ l = 123 :: (twoB lo.toNat ++ (44 :: (twoB hi.toNat ++ (125 :: l)))) := by simp
    rw [e]
    simp only [timesP, curlyP]
    rw [digitsP_two (by omega) (by rintro a r e; injection e with e; subst e; rfl)]
    have hnh : (twoB hi.toNat ++ (125 :: l)).head? ≠ some 125 := by
      unfold twoB
      split <;> simp <;> omega
    simp only [PR.bind, hln]
    rw [if_neg hnh, digitsP_two (by omega) (by rintro a r e; injection e with e; subst e; rfl)]
    simp only [hhn]
    rw [curlyEnd_ok h]
    exact hag _ _

/-! ### sets -/
theorem stepR_le {acc : List (Nat × Nat)} (h : ∀ p ∈ acc, p.1 ≤ p.2) (b : Nat) : ∀ p ∈ stepR acc b, p.1 ≤ p.2 := by
  rcases nil_or_snoc acc with rfl | ⟨r, ⟨lo, hi⟩, rfl⟩
  · rw [stepR_nil]; simp
  · have hlh := h (lo, hi) (by simp)
    by_cases e : hi + 1 = b
    · rw [stepR_join r lo hi b e]
      intro p hp
      rcases List.mem_append.1 hp with hp | hp
      · exact h p (by simp [hp])
      · simp only [List.mem_singleton] at hp
        subst hp
        show lo ≤ b
        simp only at hlh
        omega
    · rw [stepR_new r lo hi b e]
      intro p hp
      rcases List.mem_append.1 hp with hp | hp
      · exact h p hp
      · simp only [List.mem_singleton] at hp
        subst hp
        exact Nat.le_refl _
theorem rowsB_le (l : List Nat) : ∀ p ∈ rowsB l, p.1 ≤ p.2 := by
  have : ∀ (l : List Nat) (acc : List (Nat × Nat)), (∀ p ∈ acc, p.1 ≤ p.2) → ∀ p ∈ l.foldl stepR acc, p.1 ≤ p.2 := by
    intro l
    induction l with
    | nil => intro acc h; exact h
    | cons b r ih => intro acc h; exact ih _ (stepR_le h b)
  exact this l [] (by simp)
theorem or_zero {s : List Nat} (h : SetOk s) : orB zeroB s = s := by
  refine set_ext (or_ok zero_ok h) h fun n hn => ?_
  rw [hasB_or zero_ok h hn, hasB_zero]
  simp
theorem fold_join : ∀ (R : List (Nat × Nat)) (s : List Nat), SetOk s → R.foldl (fun s p => joinB [s, ofB (rangeB p.1 p.2)]) s = (R.map fun p => ofB (rangeB p.1 p.2)).foldl orB s
  | [], _, _ => rfl
  | p :: R, s, h => by
    simp only [List.foldl_cons, List.map_cons]
    have e : joinB [s, ofB (rangeB p.1 p.2)] = orB s (ofB (rangeB p.1 p.2)) := by
      simp only [joinB, List.foldl_cons, List.foldl_nil, or_zero h]
    rw [e]
    exact fold_join R _ (or_ok h (ofB_ok _))
theorem listB_nil {s : List Nat} (h : SetOk s) (hn : listB s = []) : s = zeroB := by
  have := of_list h
  rw [hn] at this
  exact this.symm
theorem rowsB_ne {l : List Nat} (hl : ∀ b ∈ l, b < 256) (h : l ≠ []) : rowsB l ≠ [] := by
  rcases rows_facts _ l rfl hl with ⟨h1, _⟩ | ⟨m, b, r, lo, _, h2, _⟩
  · exact absurd h1 h
  · rw [h2]; simp
/-- a set in brackets, printed, is parsed as itself -/
theorem classP_set {s : List Nat} (h : SetOk s) (h0 : s ≠ zeroB) (l : List Nat) : classP (rowsT (rowsB (listB s)) ++ 93 :: l) = .ok (classE s) l := by
  have hlt : ∀ b ∈ listB s, b < 256 := fun b hb => listB_lt hb
  have hne := rowsB_ne hlt (fun e => h0 (listB_nil h e))
  have hr : ∀ p ∈ rowsB (listB s), p.1 < 256 ∧ p.2 < 256 ∧ p.1 ≤ p.2 := fun p hp => ⟨(rowsB_lt hlt p hp).1, (rowsB_lt hlt p hp).2, rowsB_le _ p hp⟩
  have hj : (rowsB (listB s)).foldl (fun s p => joinB [s, ofB (rangeB p.1 p.2)]) zeroB = s := (fold_join _ zeroB zero_ok).trans (join_rows h)
  generalize rowsB (listB s) = R at hne hr hj
  have hhead : (rowsT R ++ 93 :: l).head? ≠ some 94 := by
    cases R with
    | nil => exact absurd rfl hne
    | cons q R' =>
      obtain ⟨a, r, e', _, _, g⟩ := row_head (hr q (by simp)).1 (rowsT R' ++ 93 :: l)
      rw [show rowsT (q :: R') ++ 93 :: l = rowT q ++ (rowsT R' ++ 93 :: l) by simp [rowsT], e']
      simpa using g
  have hlen : R.length ≤ (rowsT R).length := by
    have : ∀ R : List (Nat × Nat), R.length ≤ (rowsT R).length := by
      intro R
      induction R with
      | nil => simp
      | cons q R' ih =>
        have : 1 ≤ (rowT q).length := by unfold rowT signB; split <;> simp <;> omega
        simp only [rowsT, List.flatMap_cons, List.length_append, List.length_cons] at ih ⊢
        omega
    exact this R
  unfold classP
  simp only [hhead, if_false]
  rw [rangesP_rows R _ true zeroB l hr (fun _ => hne) (by simp only [List.length_append]; omega), hj]
  simp only [PR.bind, List.tail_cons]
  rw [if_neg h0]
end Go.Proofs.YtmggajpecgnjkaaDoor

/-
  The mathematics of expressions that are printed and parsed, second part: sets as atoms, elements, rows, alternatives. No statement of the seat is proved here.
-/
namespace Go.Proofs.YtmggajpecgnjkaaDoor
open Go
set_option maxRecDepth 100000


theorem listB_all {s : List Nat} (h : SetOk s) (hl : (listB s).length = 256) : s = notB zeroB := by
  refine set_ext h (not_ok zero_ok) fun n hn => ?_
  rw [hasB_not zero_ok hn, hasB_zero]
  have hc := not_count h
  have : listB (notB s) = [] := List.eq_nil_of_length_eq_zero (by omega)
  have h1 : n ∉ listB (notB s) := by rw [this]; simp
  rw [mem_listB, hasB_not h hn] at h1
  simp only [hn, true_and, Bool.not_eq_true', Bool.not_eq_false] at h1
  simpa using h1
/-- a set, printed, is an atom, and parsed as itself -/
theorem atomP_set {s : List Nat} (h : SetOk s) (h0 : s ≠ zeroB) (f : Nat) (l : List Nat) : atomP (f + 1) (setT s ++ l) = .ok (classE s) l := by
  unfold setT
  by_cases h1 : (listB s).length = 1
  · rw [if_pos h1]
    obtain ⟨b, hb⟩ := List.length_eq_one_iff.1 h1
    have hb256 : b < 256 := listB_lt (ws := s) (by rw [hb]; simp)
    have hs : ofB [b] = s := by have := of_list h; rwa [hb] at this
    rw [hb]
    show atomP (f + 1) (signB b ++ l) = _
    obtain ⟨a, r, e, _, _, _, g1, g2, g3, _⟩ := sign_head hb256 l
    have hp := byteP_sign hb256 l
    rw [e] at hp ⊢
    unfold atomP
    split
    · rename_i h; injection h with h; exact absurd h g1
    · rename_i h; injection h with h; exact absurd h g2
    · rename_i h; injection h with h; exact absurd h g3
    · rw [hp]
      simp only [PR.bind, byteE, hs]
  rw [if_neg h1]
  by_cases h2 : (listB s).length = 256
  · rw [if_pos h2]
    have := listB_all h h2
    subst this
    simp [atomP, dotE]
  · rw [if_neg h2]
    have e : 91 :: (rowsT (rowsB (listB s)) ++ [93]) ++ l = 91 :: (rowsT (rowsB (listB s)) ++ 93 :: l) := by simp
    rw [e]
    simp only [atomP]
    exact classP_set h h0 l
/-- how a set, printed, begins -/
theorem setT_head {s : List Nat} (h : SetOk s) (h0 : s ≠ zeroB) (l : List Nat) : ∃ a r, setT s ++ l = a :: r ∧ a ≠ 124 ∧ a ≠ 41 ∧ a ≠ 42 ∧ a ≠ 43 ∧ a ≠ 63 ∧ a ≠ 123 := by
  have hsg : ∀ b, b < 256 → ∃ a r, signB b ++ l = a :: r ∧ a ≠ 124 ∧ a ≠ 41 ∧ a ≠ 42 ∧ a ≠ 43 ∧ a ≠ 63 ∧ a ≠ 123 := fun b hb => by
    unfold signB
    cases hp : plainB b with
    | true =>
      refine ⟨b, l, rfl, ?_⟩
      simp only [plainB, Bool.or_eq_true, Bool.and_eq_true, decide_eq_true_eq] at hp
      omega
    | false => exact ⟨92, _, rfl, by decide, by decide, by decide, by decide, by decide, by decide⟩
  unfold setT
  by_cases h1 : (listB s).length = 1
  · rw [if_pos h1]
    obtain ⟨b, hb⟩ := List.length_eq_one_iff.1 h1
    rw [hb]
    exact hsg b (listB_lt (ws := s) (by rw [hb]; simp))
  rw [if_neg h1]
  by_cases h2 : (listB s).length = 256
  · rw [if_pos h2]; exact ⟨46, l, rfl, by decide, by decide, by decide, by decide, by decide, by decide⟩
  · rw [if_neg h2]; exact ⟨91, _, rfl, by decide, by decide, by decide, by decide, by decide, by decide⟩
end Go.Proofs.YtmggajpecgnjkaaDoor
