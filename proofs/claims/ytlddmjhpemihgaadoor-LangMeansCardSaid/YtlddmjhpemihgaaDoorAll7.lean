/-
  Texts of this claim, joined (part 7): contracts and lemmas that the last text goes by. No statement of the seat is proved here.
-/
import Derived.Test.YtlddmjhpemihgaaDoorAll6
import Derived.Test.YtlddmjhpemihgaaDoorAll4
import Derived.Test.YtlddmjhpemihgaaDoorAll3
import Derived.Test.YtlddmjhpemihgaaDoorAll0
import Derived.Test.YtlddmjhpemihgaaDoorAll1
import Derived.Test.YtlddmjhpemihgaaDoorAll5
import Derived.Test.YtlddmjhpemihgaaDoorAll2
import Derived.IntWalk
import Derived.Test.YtlddmjhpemihgaaDoorCards
import Derived.Test.YtlddmjhpemihgaaDoorTie
import Derived.Lib.LaidTab
import Derived.Stop.LaidErr
set_option linter.unusedVariables false
set_option linter.unusedSimpArgs false
/-
  Contracts of the program's eachEnd, Ends, Longest, Match, Null. No statement of the seat is proved here.
-/
namespace Go.Proofs.YtlddmjhpemihgaaDoor
open Go Go.RowKit
set_option maxRecDepth 100000
/-- at which places ahead of place 'j' texts of 'P' end that begin at place 'a' -/
noncomputable def endsF (P : List Nat → Prop) (s : List Nat) (a j : Nat) : List Nat := (List.range' a (j - a)).filter fun i => @decide (P (sub s a i)) (Classical.propDecidable _)
theorem endsF_self (P : List Nat → Prop) (s : List Nat) (a : Nat) : endsF P s a a = [] := by unfold endsF; simp
theorem endsF_yes {P : List Nat → Prop} {s : List Nat} {a j : Nat} (hj : a ≤ j) (h : P (sub s a j)) : endsF P s a (j + 1) = endsF P s a j ++ [j] := by
  unfold endsF
  rw [show j + 1 - a = (j - a) + 1 by omega, List.range'_concat, List.filter_append]
  congr 1
  have : a + 1 * (j - a) = j := by omega
  rw [this]
  simp [h]
theorem endsF_no {P : List Nat → Prop} {s : List Nat} {a j : Nat} (hj : a ≤ j) (h : ¬ P (sub s a j)) : endsF P s a (j + 1) = endsF P s a j := by
  unfold endsF
  rw [show j + 1 - a = (j - a) + 1 by omega, List.range'_concat, List.filter_append]
  have : a + 1 * (j - a) = j := by omega
  rw [this]
  simp [h]
theorem endsF_rest {P : List Nat → Prop} {s : List Nat} {a j : Nat} (hj : a ≤ j) : ∀ n, (∀ i, j ≤ i → i < j + n → ¬ P (sub s a i)) → endsF P s a (j + n) = endsF P s a j
  | 0, _ => rfl
  | n + 1, h => by
    rw [← Nat.add_assoc, endsF_no (by omega) (h (j + n) (by omega) (by omega))]
    exact endsF_rest hj n (fun i h1 h2 => h i h1 (by omega))
theorem endsF_mem {P : List Nat → Prop} {s : List Nat} {a j i : Nat} : i ∈ endsF P s a j ↔ a ≤ i ∧ i < j ∧ P (sub s a i) := by
  unfold endsF
  rw [List.mem_filter, List.mem_range'_1]
  simp only [decide_eq_true_eq]
  constructor
  · rintro ⟨⟨h1, h2⟩, h3⟩; exact ⟨h1, by omega, h3⟩
  · rintro ⟨h1, h2, h3⟩; exact ⟨⟨h1, by omega⟩, h3⟩
/-- where texts of an expression end -/
noncomputable def endsI (x : Ex) (s : List Nat) (at_ : Int) : List Nat := if 0 ≤ at_ ∧ at_ ≤ (s.length : Int) ∧ isE x = true then endsF (inE x) s at_.toNat (s.length + 1) else []

/-- what is told: 'T told L W': this was told so far, and L are the teller's blocks -/
structure Teller (f : FuncId) (pc : Value) (T : List Nat → (Nat → Prop) → World → Prop) : Prop where
  call : ∀ told L W (j : Nat), T told L W → j ≤ 1000000 → told.length ≤ 1000000 → Calls Tryd.prog f #[.int .i64 (j : Int), pc] W fun e W' => (∃ v, e = .returned v) ∧ ∃ L', T (told ++ [j]) L' W' ∧ Only L W W' ∧ (∀ b, L' b → L b ∨ (W.heap.size ≤ b ∧ b < W'.heap.size))
  only : ∀ told L W W' (O : Nat → Prop), T told L W → Only O W W' → (∀ b, L b → ¬ O b) → T told L W'
  lt : ∀ told L W, T told L W → ∀ b, L b → b < W.heap.size
theorem endsF_len (P : List Nat → Prop) (s : List Nat) (a j : Nat) : (endsF P s a j).length ≤ j - a := by
  unfold endsF
  exact Nat.le_trans (List.length_filter_le _ _) (by simp)

set_option maxHeartbeats 16000000 in
theorem eachEnd_long (pc : Value) (T : List Nat → (Nat → Prop) → World → Prop) (hT : Teller 26 pc T) (x : Ex) (cs : List Value) (s : ByteArray) (at_ : Int) (w : World) (L : Nat → Prop) (ht : Tab w) (hr : ReR (fun _ => True) w x cs) (hs : s.size ≤ 1000000) (h0 : T [] L w) :
    Calls Tryd.prog 24 #[reV cs, .string s, .int .i64 at_, .func (.func 26) #[] #[pc]] w fun e W' => (∃ v, e = .returned v) ∧ ∃ L', T (endsI x (natsOf s) at_) L' W' ∧ Only L w W' := by
  obtain ⟨k, q0, q1, q2, q3, ks, B, d, lo, hi, -, rfl, h1, h2, -, -, -, -, -⟩ := hr.fields
  unfold maxLen at h2
  have hsi : (s.size : Int) ≤ 1000000 := by omega
  have hln := natsOf_len s
  have hb1 : Below w.heap.size w (w.alloc (Obj.cells #[.int .i64 k, .int .u64 (q0 : Int), .int .u64 (q1 : Int), .int .u64 (q2 : Int), .int .u64 (q3 : Int), .slice B ks.length d, .int .i64 lo, .int .i64 hi] 27)) := (Below.refl _ _).alloc (Nat.le_refl _) _
  have hT1 : T [] L (w.alloc (Obj.cells #[.int .i64 k, .int .u64 (q0 : Int), .int .u64 (q1 : Int), .int .u64 (q2 : Int), .int .u64 (q3 : Int), .slice B ks.length d, .int .i64 lo, .int .i64 hi] 27)) := hT.only [] L w _ (fun _ => False) h0 ((Only.refl _ _).alloc _) (fun _ _ h => h)
  have hO1 : Only L w (w.alloc (Obj.cells #[.int .i64 k, .int .u64 (q0 : Int), .int .u64 (q1 : Int), .int .u64 (q2 : Int), .int .u64 (q3 : Int), .slice B ks.length d, .int .i64 lo, .int .i64 hi] 27)) := (Only.refl _ _).alloc _
  have HT1 := Lib.hid hT1
  have HO1 := Lib.hid hO1
  have HIs := Lib.hid (pis_any (fun _ => True) x [.int .i64 k, .int .u64 (q0 : Int), .int .u64 (q1 : Int), .int .u64 (q2 : Int), .int .u64 (q3 : Int), .slice B ks.length d, .int .i64 lo, .int .i64 hi] (w.alloc (Obj.cells #[.int .i64 k, .int .u64 (q0 : Int), .int .u64 (q1 : Int), .int .u64 (q2 : Int), .int .u64 (q3 : Int), .slice B ks.length d, .int .i64 lo, .int .i64 hi] 27)) (ht.ext hb1) (hr.ext hb1))
  have Hr1 := Lib.hid (hr.ext hb1)
  have HBv := Lib.hid (Blk.new w 27 #[.int .i64 k, .int .u64 (q0 : Int), .int .u64 (q1 : Int), .int .u64 (q2 : Int), .int .u64 (q3 : Int), .slice B ks.length d, .int .i64 lo, .int .i64 hi])
  have Hlt0 := Lib.hid (hT.lt [] L w h0)
  clear ht hr hb1 hT1 hO1 h0
  show Calls Tryd.prog 24 #[.agg #[.int .i64 k, .int .u64 (q0 : Int), .int .u64 (q1 : Int), .int .u64 (q2 : Int), .int .u64 (q3 : Int), .slice B ks.length d, .int .i64 lo, .int .i64 hi], .string s, .int .i64 at_, .func (.func 26) #[] #[pc]] w _
  by_cases hneg : at_ < 0
  · have hE : endsI x (natsOf s) at_ = [] := by unfold endsI; rw [if_neg (by omega)]
    rw [hE]
    clear hE
    have g1 : decide (at_ < 0) = true := by simpa using hneg
    go_enter Tryd.func24, Tryd.ntmps24
    go_wp2
    first | go_end0 | refine bodyPost_ret (results_none rfl _ _ _) rfl ?_
    exact ⟨⟨_, rfl⟩, L, HT1.out, HO1.out⟩
  have g1 : decide (at_ < 0) = false := by simp; omega
  have g1' : 0 ≤ at_ := by omega
  by_cases hbig : (s.size : Int) < at_
  · have hE : endsI x (natsOf s) at_ = [] := by unfold endsI; rw [if_neg (by rw [hln]; omega)]
    rw [hE]
    clear hE hneg
    have g2 : decide ((s.size : Int) < at_) = true := by simpa using hbig
    go_enter Tryd.func24, Tryd.ntmps24
    go_wp2
    first | go_end0 | refine bodyPost_ret (results_none rfl _ _ _) rfl ?_
    exact ⟨⟨_, rfl⟩, L, HT1.out, HO1.out⟩
  obtain ⟨a, rfl⟩ : ∃ a : Nat, at_ = (a : Int) := ⟨at_.toNat, by omega⟩
  have has : a ≤ s.size := by omega
  have g2 : decide ((s.size : Int) < (a : Int)) = false := by simp; omega
  have g3 : (a : Int) ≤ (s.size : Int) := by omega
  clear hneg hbig g1 g1'
  obtain ⟨I, hI⟩ : ∃ I, isE x = I := ⟨_, rfl⟩
  rw [hI] at HIs
  have HI := Lib.hid hI
  clear hI
  go_enter Tryd.func24, Tryd.ntmps24
  go_wp2_with fail
  refine HIs.out.mono ?_
  rintro e w2 ⟨rfl, hb2⟩
  have HT2 := Lib.hid (hT.only [] L _ w2 (fun _ => False) HT1.out (Only.of_ext hb2) (fun _ _ h => h))
  have HO2 : Hid (Only L w w2) := Lib.hid (HO1.out.trans (Only.of_ext (S := L) hb2) (fun _ _ h => h))
  have Hr2 := Lib.hid (Hr1.out.ext hb2)
  have hV2 := HBv.out.ext hb2
  have hsz2 := HO2.out.size
  clear hb2 HIs
  cases I with
  | false =>
    have hE : endsI x (natsOf s) (a : Int) = [] := by unfold endsI; rw [if_neg (by rw [HI.out]; simp)]
    go_wp2
    first | go_end0 | refine bodyPost_ret (results_none rfl _ _ _) rfl ?_
    rw [hE]
    exact ⟨⟨_, rfl⟩, L, HT2.out, HO2.out⟩
  | true =>
    have hE : endsI x (natsOf s) (a : Int) = endsF (inE x) (natsOf s) a (s.size + 1) := by
      unfold endsI
      rw [if_pos ⟨by omega, by rw [hln]; omega, HI.out⟩, hln]
      rfl
    have HE := Lib.hid hE
    have HBg := Lib.hid (begin_any x [.int .i64 k, .int .u64 (q0 : Int), .int .u64 (q1 : Int), .int .u64 (q2 : Int), .int .u64 (q3 : Int), .slice B ks.length d, .int .i64 lo, .int .i64 hi] w2 Hr2.out HI.out)
    have c0 := hV2.cell 0
    have c1 := hV2.cell 1
    have c2 := hV2.cell 2
    have c3 := hV2.cell 3
    have c4 := hV2.cell 4
    have c5 := hV2.cell 5
    have c6 := hV2.cell 6
    have c7 := hV2.cell 7
    clear hE hV2
    go_wp2_with fail
    refine HBg.out.mono ?_
    rintro e w3 ⟨g, M, s0, hs0, rs0, rfl, hWk, hb3, hOkM, hMn, h0M, hM0, hCl, hHe, hMe, hcn, hacc⟩
    have hln' := hln
    obtain ⟨S, hS⟩ : ∃ S, natsOf s = S := ⟨_, rfl⟩
    have hSl : S.length = s.size := by rw [← hS]; exact hln'
    have HT3 := Lib.hid (hT.only [] L w2 w3 (fun _ => False) HT2.out (Only.of_ext hb3) (fun _ _ h => h))
    have HO3 : Hid (Only L w w3) := Lib.hid (HO2.out.trans (Only.of_ext (S := L) hb3) (fun _ _ h => h))
    have HWk := Lib.hid hWk
    have HOkM := Lib.hid hOkM
    have HM0 := Lib.hid hM0
    have HCl := Lib.hid hCl
    have HHe := Lib.hid hHe
    have HMe := Lib.hid hMe
    have Hcn := Lib.hid hcn
    have Hacc := Lib.hid hacc
    have HSl := Lib.hid hSl
    have HS := Lib.hid hS
    have hlt3 := Hlt0.out
    have Hlt3 := Lib.hid hlt3
    clear hWk hb3 hOkM hM0 hCl hHe hMe hcn hacc c0 c1 c2 c3 c4 c5 c6 c7 HBg hlt3 hS hSl hln hln' HT1 HT2
    go_wp2
    go_loopw [2] (fun av wr => ∃ (j : Nat) (hs : List Nat) (rs : List Bool) (O L1 : Nat → Prop), av = .int .i64 (j : Int) ∧ a ≤ j ∧ j ≤ s.size ∧ Hid (Wk O wr g M hs rs) ∧ Hid (∀ b, O b → w.heap.size ≤ b ∧ b < wr.heap.size) ∧ Hid (Cl M rs) ∧ Hid (HereOk M hs rs) ∧ Hid (Means M rs s0 (sub S a j)) ∧ Hid (hs.length + noL rs ≤ M.length) ∧ Hid (T (endsF (inE x) S a j) L1 wr) ∧ Hid (∀ b, L1 b → ¬ O b ∧ (L b ∨ w.heap.size ≤ b)) ∧ Hid (Only L w wr)) (fun av _ => s.size + 1 - (intOf av).toNat)
    case atStart => exact ⟨a, hs0, rs0, _, L, rfl, Nat.le_refl _, has, HWk, Lib.hid (fun b h => ⟨by have := h.1; omega, h.2⟩), HCl, HHe, Lib.hid (by rw [sub_self]; exact HMe.out), Hcn, Lib.hid (by rw [endsF_self]; exact HT3.out), Lib.hid (fun b h => ⟨fun h2 => by have := Hlt3.out b h; omega, .inl h⟩), HO3⟩
    case round =>
      clear HT3 HO3 HWk HCl HHe HMe Hcn
      obtain ⟨j, hs, rs, O, L1, rfl, haj, hjs, HWk, HOb, HCl, HHe, HMe, Hcn, HT, HLO, HOn⟩ := hrel
      have hwk := HWk.out
      obtain ⟨O1, F, A, c, Ah, ch, As, ns, cs, xs, Ar, cr, hWS, -, -, -⟩ := hwk
      have HWS := Lib.hid hWS
      clear hWS
      go_wp2_with fail
      refine (lost_any _ _ wr g M _ _ _ _ _ _ _ hs rs HWS.out).mono ?_
      rintro e w5 ⟨rfl, rfl⟩
      rcases Nat.eq_zero_or_pos hs.length with hl0 | hl0
      · have hnil : hs = [] := List.eq_nil_of_length_eq_zero hl0
        subst hnil
        have hfin : endsF (inE x) S a (s.size + 1) = endsF (inE x) S a j := by
          have := endsF_rest (P := inE x) (s := S) haj (s.size + 1 - j) (fun i h1 h2 h3 => by
            have h4 := (Hacc.out _).2 h3
            rw [sub_append haj h1 (by rw [HSl.out]; omega)] at h4
            exact HMe.out.lost HCl.out HHe.out HM0.out _ h4)
          rw [show j + (s.size + 1 - j) = s.size + 1 by omega] at this
          exact this
        go_wp2
        first | go_end0 | refine bodyPost_ret (results_none rfl _ _ _) rfl ?_
        rw [HE.out, HS.out, hfin]
        exact ⟨⟨_, rfl⟩, L1, HT.out, HOn.out⟩
      · have hld : decide (hs.length = 0) = false := decide_eq_false (by omega)
        rw [hld]
        clear hld
        go_wp2_with fail
        refine (done_any _ _ w5 g M _ _ _ _ _ _ _ hs rs HWS.out h0M).mono ?_
        rintro e w6 ⟨rfl, rfl⟩
        have hdone := HMe.out.done HCl.out
        rw [Hacc.out] at hdone
        have hpcs : hs.length ≤ M.length := by have := Hcn.out; omega
        by_cases hd : tr rs 0
        · have hdd : decide (tr rs 0) = true := by simpa using hd
          have hin := hdone.1 hd
          have Hin := Lib.hid hin
          rw [hdd]
          have hCt := hT.call (endsF (inE x) S a j) L1 w6 j HT.out (by omega) (by have := endsF_len (inE x) S a j; omega)
          have HCt := Lib.hid hCt
          clear hdd hd hdone hin hCt
          go_wp2_with fail
          refine HCt.out.mono ?_
          rintro e w7 ⟨⟨v, rfl⟩, L2, hT2, hO2, hL2⟩
          have HWk7 := Lib.hid (HWk.out.only hO2 (fun b h => (HLO.out b h).1))
          have HT7 : Hid (T (endsF (inE x) S a (j + 1)) L2 w7) := Lib.hid (by rw [endsF_yes haj Hin.out]; exact hT2)
          have hsz7 := hO2.size
          have HOn7 : Hid (Only L w w7) := Lib.hid (HOn.out.trans hO2 (fun b hb h => ((HLO.out b h).2).elim id (fun h => by omega)))
          have HLO7 : Hid (∀ b, L2 b → ¬ O b ∧ (L b ∨ w.heap.size ≤ b)) := Lib.hid (fun b h => (hL2 b h).elim (HLO.out b) (fun h => ⟨fun h2 => by have := (HOb.out b h2).2; omega, .inr (by have := HOn.out.size; omega)⟩))
          have HOb7 : Hid (∀ b, O b → w.heap.size ≤ b ∧ b < w7.heap.size) := Lib.hid (fun b h => ⟨(HOb.out b h).1, by have := (HOb.out b h).2; omega⟩)
          clear hT2 hO2 hL2 HCt HWk HT HOn HLO HOb
          rcases Nat.lt_or_ge j s.size with hlt | hge
          · have hji : (j : Int) < (s.size : Int) := by omega
            have hne : ((j : Int) == (s.size : Int)) = false := by simp; omega
            have hne2 : decide ((j : Int) = (s.size : Int)) = false := by simp; omega
            have hne3 : (j == s.size) = false := by simp; omega
            have hne4 : decide (j = s.size) = false := by simp; omega
            have hne5 : ¬ j = s.size := by omega
            obtain ⟨cc, hcc⟩ : ∃ cc, (s[j]'hlt).toNat = cc := ⟨_, rfl⟩
            have hc256 : cc < 256 := by rw [← hcc]; exact (s[j]'hlt).toNat_lt
            have hSj : sub S a j ++ [cc] = sub S a (j + 1) := by
              have hjl : j < S.length := by rw [HSl.out]; exact hlt
              rw [sub_append (i := a) (j := j) (k := j + 1) haj (by omega) (by omega), sub_one hjl]
              congr 2
              rw [← hcc]
              have := natsOf_at s j hlt
              simp only [HS.out] at this
              exact this.symm
            have HSj := Lib.hid hSj
            have HC := Lib.hid (step_any M HOkM.out hMn h0M O w7 g hs rs cc hc256 HWk7.out HHe.out hpcs)
            clear hSj
            go_wp2_with fail
            refine HC.out.mono ?_
            rintro e w8 ⟨⟨v, rfl⟩, hs', rs', hWk8, hO8, hS8⟩
            have hsz8 := hO8.size
            have HWk8 := Lib.hid hWk8
            have HS8 := Lib.hid hS8
            have HT8 := Lib.hid (hT.only _ L2 w7 w8 O HT7.out hO8 (fun b h => (HLO7.out b h).1))
            have HOn8 : Hid (Only L w w8) := Lib.hid (HOn7.out.trans hO8 (fun b hb h => by have := (HOb7.out b h).1; omega))
            have hlt7 := hT.lt _ L2 w7 HT7.out
            have Hlt7 := Lib.hid hlt7
            clear hWk8 hO8 hS8 HC hlt7
            go_wp2
            go_roundw
            case rel => exact ⟨j + 1, hs', rs', _, L2, by simp, by omega, by omega, HWk8, Lib.hid (fun b h => h.elim (fun h => ⟨(HOb7.out b h).1, by have := (HOb7.out b h).2; omega⟩) (fun h => ⟨by have := HOn7.out.size; have := h.1; omega, h.2⟩)), Lib.hid HS8.out.cl, Lib.hid HS8.out.here, Lib.hid (by rw [← HSj.out]; exact HMe.out.step HCl.out HHe.out HS8.out), Lib.hid HS8.out.count, HT8, Lib.hid (fun b h => ⟨fun h2 => h2.elim (HLO7.out b h).1 (fun h2 => by have := Hlt7.out b h; omega), (HLO7.out b h).2⟩), HOn8⟩
            case measure => simp [intOf]; omega
          · obtain rfl : j = s.size := by omega
            go_wp2
            first | go_end0 | refine bodyPost_ret (results_none rfl _ _ _) rfl ?_
            rw [HE.out, HS.out]
            exact ⟨⟨_, rfl⟩, L2, HT7.out, HOn7.out⟩
        · have hdd : decide (tr rs 0) = false := by simpa using hd
          have hin : ¬ inE x (sub S a j) := fun h => hd (hdone.2 h)
          rw [hdd]
          obtain ⟨w7, hw7⟩ : ∃ w7, w7 = w6 := ⟨_, rfl⟩
          subst hw7
          have HWk7 := HWk
          have HT7 : Hid (T (endsF (inE x) S a (j + 1)) L1 w7) := Lib.hid (by rw [endsF_no haj hin]; exact HT.out)
          have HOn7 := HOn
          have HLO7 := HLO
          have HOb7 := HOb
          clear hdd hd hdone hin HWk HT HOn HLO HOb
          obtain ⟨L2, hL2⟩ : ∃ L2, L2 = L1 := ⟨_, rfl⟩
          subst hL2
          rcases Nat.lt_or_ge j s.size with hlt | hge
          · have hji : (j : Int) < (s.size : Int) := by omega
            have hne : ((j : Int) == (s.size : Int)) = false := by simp; omega
            have hne2 : decide ((j : Int) = (s.size : Int)) = false := by simp; omega
            have hne3 : (j == s.size) = false := by simp; omega
            have hne4 : decide (j = s.size) = false := by simp; omega
            have hne5 : ¬ j = s.size := by omega
            obtain ⟨cc, hcc⟩ : ∃ cc, (s[j]'hlt).toNat = cc := ⟨_, rfl⟩
            have hc256 : cc < 256 := by rw [← hcc]; exact (s[j]'hlt).toNat_lt
            have hSj : sub S a j ++ [cc] = sub S a (j + 1) := by
              have hjl : j < S.length := by rw [HSl.out]; exact hlt
              rw [sub_append (i := a) (j := j) (k := j + 1) haj (by omega) (by omega), sub_one hjl]
              congr 2
              rw [← hcc]
              have := natsOf_at s j hlt
              simp only [HS.out] at this
              exact this.symm
            have HSj := Lib.hid hSj
            have HC := Lib.hid (step_any M HOkM.out hMn h0M O w7 g hs rs cc hc256 HWk7.out HHe.out hpcs)
            clear hSj
            go_wp2_with fail
            refine HC.out.mono ?_
            rintro e w8 ⟨⟨v, rfl⟩, hs', rs', hWk8, hO8, hS8⟩
            have hsz8 := hO8.size
            have HWk8 := Lib.hid hWk8
            have HS8 := Lib.hid hS8
            have HT8 := Lib.hid (hT.only _ L2 w7 w8 O HT7.out hO8 (fun b h => (HLO7.out b h).1))
            have HOn8 : Hid (Only L w w8) := Lib.hid (HOn7.out.trans hO8 (fun b hb h => by have := (HOb7.out b h).1; omega))
            have hlt7 := hT.lt _ L2 w7 HT7.out
            have Hlt7 := Lib.hid hlt7
            clear hWk8 hO8 hS8 HC hlt7
            go_wp2
            go_roundw
            case rel => exact ⟨j + 1, hs', rs', _, L2, by simp, by omega, by omega, HWk8, Lib.hid (fun b h => h.elim (fun h => ⟨(HOb7.out b h).1, by have := (HOb7.out b h).2; omega⟩) (fun h => ⟨by have := HOn7.out.size; have := h.1; omega, h.2⟩)), Lib.hid HS8.out.cl, Lib.hid HS8.out.here, Lib.hid (by rw [← HSj.out]; exact HMe.out.step HCl.out HHe.out HS8.out), Lib.hid HS8.out.count, HT8, Lib.hid (fun b h => ⟨fun h2 => h2.elim (HLO7.out b h).1 (fun h2 => by have := Hlt7.out b h; omega), (HLO7.out b h).2⟩), HOn8⟩
            case measure => simp [intOf]; omega
          · obtain rfl : j = s.size := by omega
            go_wp2
            first | go_end0 | refine bodyPost_ret (results_none rfl _ _ _) rfl ?_
            rw [HE.out, HS.out]
            exact ⟨⟨_, rfl⟩, L2, HT7.out, HOn7.out⟩

set_option maxHeartbeats 16000000 in
theorem eachEnd_ends (pc : Value) (T : List Nat → (Nat → Prop) → World → Prop) (hT : Teller 25 pc T) (x : Ex) (cs : List Value) (s : ByteArray) (at_ : Int) (w : World) (L : Nat → Prop) (ht : Tab w) (hr : ReR (fun _ => True) w x cs) (hs : s.size ≤ 1000000) (h0 : T [] L w) :
    Calls Tryd.prog 24 #[reV cs, .string s, .int .i64 at_, .func (.func 25) #[] #[pc]] w fun e W' => (∃ v, e = .returned v) ∧ ∃ L', T (endsI x (natsOf s) at_) L' W' ∧ Only L w W' := by
  obtain ⟨k, q0, q1, q2, q3, ks, B, d, lo, hi, -, rfl, h1, h2, -, -, -, -, -⟩ := hr.fields
  unfold maxLen at h2
  have hsi : (s.size : Int) ≤ 1000000 := by omega
  have hln := natsOf_len s
  have hb1 : Below w.heap.size w (w.alloc (Obj.cells #[.int .i64 k, .int .u64 (q0 : Int), .int .u64 (q1 : Int), .int .u64 (q2 : Int), .int .u64 (q3 : Int), .slice B ks.length d, .int .i64 lo, .int .i64 hi] 27)) := (Below.refl _ _).alloc (Nat.le_refl _) _
  have hT1 : T [] L (w.alloc (Obj.cells #[.int .i64 k, .int .u64 (q0 : Int), .int .u64 (q1 : Int), .int .u64 (q2 : Int), .int .u64 (q3 : Int), .slice B ks.length d, .int .i64 lo, .int .i64 hi] 27)) := hT.only [] L w _ (fun _ => False) h0 ((Only.refl _ _).alloc _) (fun _ _ h => h)
  have hO1 : Only L w (w.alloc (Obj.cells #[.int .i64 k, .int .u64 (q0 : Int), .int .u64 (q1 : Int), .int .u64 (q2 : Int), .int .u64 (q3 : Int), .slice B ks.length d, .int .i64 lo, .int .i64 hi] 27)) := (Only.refl _ _).alloc _
  have HT1 := Lib.hid hT1
  have HO1 := Lib.hid hO1
  have HIs := Lib.hid (pis_any (fun _ => True) x [.int .i64 k, .int .u64 (q0 : Int), .int .u64 (q1 : Int), .int .u64 (q2 : Int), .int .u64 (q3 : Int), .slice B ks.length d, .int .i64 lo, .int .i64 hi] (w.alloc (Obj.cells #[.int .i64 k, .int .u64 (q0 : Int), .int .u64 (q1 : Int), .int .u64 (q2 : Int), .int .u64 (q3 : Int), .slice B ks.length d, .int .i64 lo, .int .i64 hi] 27)) (ht.ext hb1) (hr.ext hb1))
  have Hr1 := Lib.hid (hr.ext hb1)
  have HBv := Lib.hid (Blk.new w 27 #[.int .i64 k, .int .u64 (q0 : Int), .int .u64 (q1 : Int), .int .u64 (q2 : Int), .int .u64 (q3 : Int), .slice B ks.length d, .int .i64 lo, .int .i64 hi])
  have Hlt0 := Lib.hid (hT.lt [] L w h0)
  clear ht hr hb1 hT1 hO1 h0
  show Calls Tryd.prog 24 #[.agg #[.int .i64 k, .int .u64 (q0 : Int), .int .u64 (q1 : Int), .int .u64 (q2 : Int), .int .u64 (q3 : Int), .slice B ks.length d, .int .i64 lo, .int .i64 hi], .string s, .int .i64 at_, .func (.func 25) #[] #[pc]] w _
  by_cases hneg : at_ < 0
  · have hE : endsI x (natsOf s) at_ = [] := by unfold endsI; rw [if_neg (by omega)]
    rw [hE]
    clear hE
    have g1 : decide (at_ < 0) = true := by simpa using hneg
    go_enter Tryd.func24, Tryd.ntmps24
    go_wp2
    first | go_end0 | refine bodyPost_ret (results_none rfl _ _ _) rfl ?_
    exact ⟨⟨_, rfl⟩, L, HT1.out, HO1.out⟩
  have g1 : decide (at_ < 0) = false := by simp; omega
  have g1' : 0 ≤ at_ := by omega
  by_cases hbig : (s.size : Int) < at_
  · have hE : endsI x (natsOf s) at_ = [] := by unfold endsI; rw [if_neg (by rw [hln]; omega)]
    rw [hE]
    clear hE hneg
    have g2 : decide ((s.size : Int) < at_) = true := by simpa using hbig
    go_enter Tryd.func24, Tryd.ntmps24
    go_wp2
    first | go_end0 | refine bodyPost_ret (results_none rfl _ _ _) rfl ?_
    exact ⟨⟨_, rfl⟩, L, HT1.out, HO1.out⟩
  obtain ⟨a, rfl⟩ : ∃ a : Nat, at_ = (a : Int) := ⟨at_.toNat, by omega⟩
  have has : a ≤ s.size := by omega
  have g2 : decide ((s.size : Int) < (a : Int)) = false := by simp; omega
  have g3 : (a : Int) ≤ (s.size : Int) := by omega
  clear hneg hbig g1 g1'
  obtain ⟨I, hI⟩ : ∃ I, isE x = I := ⟨_, rfl⟩
  rw [hI] at HIs
  have HI := Lib.hid hI
  clear hI
  go_enter Tryd.func24, Tryd.ntmps24
  go_wp2_with fail
  refine HIs.out.mono ?_
  rintro e w2 ⟨rfl, hb2⟩
  have HT2 := Lib.hid (hT.only [] L _ w2 (fun _ => False) HT1.out (Only.of_ext hb2) (fun _ _ h => h))
  have HO2 : Hid (Only L w w2) := Lib.hid (HO1.out.trans (Only.of_ext (S := L) hb2) (fun _ _ h => h))
  have Hr2 := Lib.hid (Hr1.out.ext hb2)
  have hV2 := HBv.out.ext hb2
  have hsz2 := HO2.out.size
  clear hb2 HIs
  cases I with
  | false =>
    have hE : endsI x (natsOf s) (a : Int) = [] := by unfold endsI; rw [if_neg (by rw [HI.out]; simp)]
    go_wp2
    first | go_end0 | refine bodyPost_ret (results_none rfl _ _ _) rfl ?_
    rw [hE]
    exact ⟨⟨_, rfl⟩, L, HT2.out, HO2.out⟩
  | true =>
    have hE : endsI x (natsOf s) (a : Int) = endsF (inE x) (natsOf s) a (s.size + 1) := by
      unfold endsI
      rw [if_pos ⟨by omega, by rw [hln]; omega, HI.out⟩, hln]
      rfl
    have HE := Lib.hid hE
    have HBg := Lib.hid (begin_any x [.int .i64 k, .int .u64 (q0 : Int), .int .u64 (q1 : Int), .int .u64 (q2 : Int), .int .u64 (q3 : Int), .slice B ks.length d, .int .i64 lo, .int .i64 hi] w2 Hr2.out HI.out)
    have c0 := hV2.cell 0
    have c1 := hV2.cell 1
    have c2 := hV2.cell 2
    have c3 := hV2.cell 3
    have c4 := hV2.cell 4
    have c5 := hV2.cell 5
    have c6 := hV2.cell 6
    have c7 := hV2.cell 7
    clear hE hV2
    go_wp2_with fail
    refine HBg.out.mono ?_
    rintro e w3 ⟨g, M, s0, hs0, rs0, rfl, hWk, hb3, hOkM, hMn, h0M, hM0, hCl, hHe, hMe, hcn, hacc⟩
    have hln' := hln
    obtain ⟨S, hS⟩ : ∃ S, natsOf s = S := ⟨_, rfl⟩
    have hSl : S.length = s.size := by rw [← hS]; exact hln'
    have HT3 := Lib.hid (hT.only [] L w2 w3 (fun _ => False) HT2.out (Only.of_ext hb3) (fun _ _ h => h))
    have HO3 : Hid (Only L w w3) := Lib.hid (HO2.out.trans (Only.of_ext (S := L) hb3) (fun _ _ h => h))
    have HWk := Lib.hid hWk
    have HOkM := Lib.hid hOkM
    have HM0 := Lib.hid hM0
    have HCl := Lib.hid hCl
    have HHe := Lib.hid hHe
    have HMe := Lib.hid hMe
    have Hcn := Lib.hid hcn
    have Hacc := Lib.hid hacc
    have HSl := Lib.hid hSl
    have HS := Lib.hid hS
    have hlt3 := Hlt0.out
    have Hlt3 := Lib.hid hlt3
    clear hWk hb3 hOkM hM0 hCl hHe hMe hcn hacc c0 c1 c2 c3 c4 c5 c6 c7 HBg hlt3 hS hSl hln hln' HT1 HT2
    go_wp2
    go_loopw [2] (fun av wr => ∃ (j : Nat) (hs : List Nat) (rs : List Bool) (O L1 : Nat → Prop), av = .int .i64 (j : Int) ∧ a ≤ j ∧ j ≤ s.size ∧ Hid (Wk O wr g M hs rs) ∧ Hid (∀ b, O b → w.heap.size ≤ b ∧ b < wr.heap.size) ∧ Hid (Cl M rs) ∧ Hid (HereOk M hs rs) ∧ Hid (Means M rs s0 (sub S a j)) ∧ Hid (hs.length + noL rs ≤ M.length) ∧ Hid (T (endsF (inE x) S a j) L1 wr) ∧ Hid (∀ b, L1 b → ¬ O b ∧ (L b ∨ w.heap.size ≤ b)) ∧ Hid (Only L w wr)) (fun av _ => s.size + 1 - (intOf av).toNat)
    case atStart => exact ⟨a, hs0, rs0, _, L, rfl, Nat.le_refl _, has, HWk, Lib.hid (fun b h => ⟨by have := h.1; omega, h.2⟩), HCl, HHe, Lib.hid (by rw [sub_self]; exact HMe.out), Hcn, Lib.hid (by rw [endsF_self]; exact HT3.out), Lib.hid (fun b h => ⟨fun h2 => by have := Hlt3.out b h; omega, .inl h⟩), HO3⟩
    case round =>
      clear HT3 HO3 HWk HCl HHe HMe Hcn
      obtain ⟨j, hs, rs, O, L1, rfl, haj, hjs, HWk, HOb, HCl, HHe, HMe, Hcn, HT, HLO, HOn⟩ := hrel
      have hwk := HWk.out
      obtain ⟨O1, F, A, c, Ah, ch, As, ns, cs, xs, Ar, cr, hWS, -, -, -⟩ := hwk
      have HWS := Lib.hid hWS
      clear hWS
      go_wp2_with fail
      refine (lost_any _ _ wr g M _ _ _ _ _ _ _ hs rs HWS.out).mono ?_
      rintro e w5 ⟨rfl, rfl⟩
      rcases Nat.eq_zero_or_pos hs.length with hl0 | hl0
      · have hnil : hs = [] := List.eq_nil_of_length_eq_zero hl0
        subst hnil
        have hfin : endsF (inE x) S a (s.size + 1) = endsF (inE x) S a j := by
          have := endsF_rest (P := inE x) (s := S) haj (s.size + 1 - j) (fun i h1 h2 h3 => by
            have h4 := (Hacc.out _).2 h3
            rw [sub_append haj h1 (by rw [HSl.out]; omega)] at h4
            exact HMe.out.lost HCl.out HHe.out HM0.out _ h4)
          rw [show j + (s.size + 1 - j) = s.size + 1 by omega] at this
          exact this
        go_wp2
        first | go_end0 | refine bodyPost_ret (results_none rfl _ _ _) rfl ?_
        rw [HE.out, HS.out, hfin]
        exact ⟨⟨_, rfl⟩, L1, HT.out, HOn.out⟩
      · have hld : decide (hs.length = 0) = false := decide_eq_false (by omega)
        rw [hld]
        clear hld
        go_wp2_with fail
        refine (done_any _ _ w5 g M _ _ _ _ _ _ _ hs rs HWS.out h0M).mono ?_
        rintro e w6 ⟨rfl, rfl⟩
        have hdone := HMe.out.done HCl.out
        rw [Hacc.out] at hdone
        have hpcs : hs.length ≤ M.length := by have := Hcn.out; omega
        by_cases hd : tr rs 0
        · have hdd : decide (tr rs 0) = true := by simpa using hd
          have hin := hdone.1 hd
          have Hin := Lib.hid hin
          rw [hdd]
          have hCt := hT.call (endsF (inE x) S a j) L1 w6 j HT.out (by omega) (by have := endsF_len (inE x) S a j; omega)
          have HCt := Lib.hid hCt
          clear hdd hd hdone hin hCt
          go_wp2_with fail
          refine HCt.out.mono ?_
          rintro e w7 ⟨⟨v, rfl⟩, L2, hT2, hO2, hL2⟩
          have HWk7 := Lib.hid (HWk.out.only hO2 (fun b h => (HLO.out b h).1))
          have HT7 : Hid (T (endsF (inE x) S a (j + 1)) L2 w7) := Lib.hid (by rw [endsF_yes haj Hin.out]; exact hT2)
          have hsz7 := hO2.size
          have HOn7 : Hid (Only L w w7) := Lib.hid (HOn.out.trans hO2 (fun b hb h => ((HLO.out b h).2).elim id (fun h => by omega)))
          have HLO7 : Hid (∀ b, L2 b → ¬ O b ∧ (L b ∨ w.heap.size ≤ b)) := Lib.hid (fun b h => (hL2 b h).elim (HLO.out b) (fun h => ⟨fun h2 => by have := (HOb.out b h2).2; omega, .inr (by have := HOn.out.size; omega)⟩))
          have HOb7 : Hid (∀ b, O b → w.heap.size ≤ b ∧ b < w7.heap.size) := Lib.hid (fun b h => ⟨(HOb.out b h).1, by have := (HOb.out b h).2; omega⟩)
          clear hT2 hO2 hL2 HCt HWk HT HOn HLO HOb
          rcases Nat.lt_or_ge j s.size with hlt | hge
          · have hji : (j : Int) < (s.size : Int) := by omega
            have hne : ((j : Int) == (s.size : Int)) = false := by simp; omega
            have hne2 : decide ((j : Int) = (s.size : Int)) = false := by simp; omega
            have hne3 : (j == s.size) = false := by simp; omega
            have hne4 : decide (j = s.size) = false := by simp; omega
            have hne5 : ¬ j = s.size := by omega
            obtain ⟨cc, hcc⟩ : ∃ cc, (s[j]'hlt).toNat = cc := ⟨_, rfl⟩
            have hc256 : cc < 256 := by rw [← hcc]; exact (s[j]'hlt).toNat_lt
            have hSj : sub S a j ++ [cc] = sub S a (j + 1) := by
              have hjl : j < S.length := by rw [HSl.out]; exact hlt
              rw [sub_append (i := a) (j := j) (k := j + 1) haj (by omega) (by omega), sub_one hjl]
              congr 2
              rw [← hcc]
              have := natsOf_at s j hlt
              simp only [HS.out] at this
              exact this.symm
            have HSj := Lib.hid hSj
            have HC := Lib.hid (step_any M HOkM.out hMn h0M O w7 g hs rs cc hc256 HWk7.out HHe.out hpcs)
            clear hSj
            go_wp2_with fail
            refine HC.out.mono ?_
            rintro e w8 ⟨⟨v, rfl⟩, hs', rs', hWk8, hO8, hS8⟩
            have hsz8 := hO8.size
            have HWk8 := Lib.hid hWk8
            have HS8 := Lib.hid hS8
            have HT8 := Lib.hid (hT.only _ L2 w7 w8 O HT7.out hO8 (fun b h => (HLO7.out b h).1))
            have HOn8 : Hid (Only L w w8) := Lib.hid (HOn7.out.trans hO8 (fun b hb h => by have := (HOb7.out b h).1; omega))
            have hlt7 := hT.lt _ L2 w7 HT7.out
            have Hlt7 := Lib.hid hlt7
            clear hWk8 hO8 hS8 HC hlt7
            go_wp2
            go_roundw
            case rel => exact ⟨j + 1, hs', rs', _, L2, by simp, by omega, by omega, HWk8, Lib.hid (fun b h => h.elim (fun h => ⟨(HOb7.out b h).1, by have := (HOb7.out b h).2; omega⟩) (fun h => ⟨by have := HOn7.out.size; have := h.1; omega, h.2⟩)), Lib.hid HS8.out.cl, Lib.hid HS8.out.here, Lib.hid (by rw [← HSj.out]; exact HMe.out.step HCl.out HHe.out HS8.out), Lib.hid HS8.out.count, HT8, Lib.hid (fun b h => ⟨fun h2 => h2.elim (HLO7.out b h).1 (fun h2 => by have := Hlt7.out b h; omega), (HLO7.out b h).2⟩), HOn8⟩
            case measure => simp [intOf]; omega
          · obtain rfl : j = s.size := by omega
            go_wp2
            first | go_end0 | refine bodyPost_ret (results_none rfl _ _ _) rfl ?_
            rw [HE.out, HS.out]
            exact ⟨⟨_, rfl⟩, L2, HT7.out, HOn7.out⟩
        · have hdd : decide (tr rs 0) = false := by simpa using hd
          have hin : ¬ inE x (sub S a j) := fun h => hd (hdone.2 h)
          rw [hdd]
          obtain ⟨w7, hw7⟩ : ∃ w7, w7 = w6 := ⟨_, rfl⟩
          subst hw7
          have HWk7 := HWk
          have HT7 : Hid (T (endsF (inE x) S a (j + 1)) L1 w7) := Lib.hid (by rw [endsF_no haj hin]; exact HT.out)
          have HOn7 := HOn
          have HLO7 := HLO
          have HOb7 := HOb
          clear hdd hd hdone hin HWk HT HOn HLO HOb
          obtain ⟨L2, hL2⟩ : ∃ L2, L2 = L1 := ⟨_, rfl⟩
          subst hL2
          rcases Nat.lt_or_ge j s.size with hlt | hge
          · have hji : (j : Int) < (s.size : Int) := by omega
            have hne : ((j : Int) == (s.size : Int)) = false := by simp; omega
            have hne2 : decide ((j : Int) = (s.size : Int)) = false := by simp; omega
            have hne3 : (j == s.size) = false := by simp; omega
            have hne4 : decide (j = s.size) = false := by simp; omega
            have hne5 : ¬ j = s.size := by omega
            obtain ⟨cc, hcc⟩ : ∃ cc, (s[j]'hlt).toNat = cc := ⟨_, rfl⟩
            have hc256 : cc < 256 := by rw [← hcc]; exact (s[j]'hlt).toNat_lt
            have hSj : sub S a j ++ [cc] = sub S a (j + 1) := by
              have hjl : j < S.length := by rw [HSl.out]; exact hlt
              rw [sub_append (i := a) (j := j) (k := j + 1) haj (by omega) (by omega), sub_one hjl]
              congr 2
              rw [← hcc]
              have := natsOf_at s j hlt
              simp only [HS.out] at this
              exact this.symm
            have HSj := Lib.hid hSj
            have HC := Lib.hid (step_any M HOkM.out hMn h0M O w7 g hs rs cc hc256 HWk7.out HHe.out hpcs)
            clear hSj
            go_wp2_with fail
            refine HC.out.mono ?_
            rintro e w8 ⟨⟨v, rfl⟩, hs', rs', hWk8, hO8, hS8⟩
            have hsz8 := hO8.size
            have HWk8 := Lib.hid hWk8
            have HS8 := Lib.hid hS8
            have HT8 := Lib.hid (hT.only _ L2 w7 w8 O HT7.out hO8 (fun b h => (HLO7.out b h).1))
            have HOn8 : Hid (Only L w w8) := Lib.hid (HOn7.out.trans hO8 (fun b hb h => by have := (HOb7.out b h).1; omega))
            have hlt7 := hT.lt _ L2 w7 HT7.out
            have Hlt7 := Lib.hid hlt7
            clear hWk8 hO8 hS8 HC hlt7
            go_wp2
            go_roundw
            case rel => exact ⟨j + 1, hs', rs', _, L2, by simp, by omega, by omega, HWk8, Lib.hid (fun b h => h.elim (fun h => ⟨(HOb7.out b h).1, by have := (HOb7.out b h).2; omega⟩) (fun h => ⟨by have := HOn7.out.size; have := h.1; omega, h.2⟩)), Lib.hid HS8.out.cl, Lib.hid HS8.out.here, Lib.hid (by rw [← HSj.out]; exact HMe.out.step HCl.out HHe.out HS8.out), Lib.hid HS8.out.count, HT8, Lib.hid (fun b h => ⟨fun h2 => h2.elim (HLO7.out b h).1 (fun h2 => by have := Hlt7.out b h; omega), (HLO7.out b h).2⟩), HOn8⟩
            case measure => simp [intOf]; omega
          · obtain rfl : j = s.size := by omega
            go_wp2
            first | go_end0 | refine bodyPost_ret (results_none rfl _ _ _) rfl ?_
            rw [HE.out, HS.out]
            exact ⟨⟨_, rfl⟩, L2, HT7.out, HOn7.out⟩
end Go.Proofs.YtlddmjhpemihgaaDoor

/-
  Contracts of the program's Longest, Ends, Match, Null. No statement of the seat is proved here.
-/
namespace Go.Proofs.YtlddmjhpemihgaaDoor
open Go Go.RowKit
set_option maxRecDepth 100000
/-- the last of a list, or none -/
def lastI (l : List Nat) : Int := match l.getLast? with | none => -1 | some j => (j : Int)
theorem lastI_snoc (l : List Nat) (j : Nat) : lastI (l ++ [j]) = (j : Int) := by simp [lastI]
theorem lastI_nil : lastI [] = -1 := rfl
def TLong (b : Nat) (told : List Nat) (L : Nat → Prop) (W : World) : Prop := Blk W b 3 #[.int .i64 (lastI told)] ∧ ∀ x, L x ↔ x = b
theorem teller_long (b : Nat) : Teller 26 (.pointer (some ⟨b, 0, none⟩)) (TLong b) := by
  refine ⟨fun told L W j hT hj _ => ?_, fun told L W W' O hT ho hn => ?_, fun told L W hT x hx => ?_⟩
  · have x0 := hT.1.cell 0
    have f0 := hT.1.free 0
    have hb := hT.1.put 0 (.int .i64 (j : Int))
    have HT := Lib.hid hT
    have Hb := Lib.hid hb
    clear hT hb
    go_enter Tryd.func26, Tryd.ntmps26
    go_wp2
    first | go_end0 | refine bodyPost_ret (results_none rfl _ _ _) rfl ?_
    exact ⟨⟨_, rfl⟩, L, ⟨by rw [lastI_snoc]; exact Hb.out, HT.out.2⟩, (Only.refl L W).setCell (p := ⟨b, 0, none⟩) (.inl ((HT.out.2 b).2 rfl)) _, fun x h => .inl h⟩
  · exact ⟨hT.1.only ho (hn b ((hT.2 b).2 rfl)), hT.2⟩
  · rw [(hT.2 x).1 hx]; exact hT.1.lt
def TEnds (b : Nat) (told : List Nat) (L : Nat → Prop) (W : World) : Prop :=
  ∃ A c, Blk W b 38 #[.slice A told.length c] ∧ RowO W 3 1 A told.length c (ints told) ∧ (∀ x, L x ↔ (x = b ∨ inA A x)) ∧ ¬ inA A b
theorem teller_ends (b : Nat) : Teller 25 (.pointer (some ⟨b, 0, none⟩)) (TEnds b) := by
  refine ⟨fun told L W j hT hj hl => ?_, fun told L W W' O hT ho hn => ?_, fun told L W hT x hx => ?_⟩
  · obtain ⟨A, c, hB, hrow, hL, hA⟩ := hT
    have x0 := hB.cell 0
    have hb34 : Below W.heap.size W (W.alloc (Obj.cells #[.int .i64 (j : Int)] 3)) := (Below.refl _ _).alloc (Nat.le_refl _) _
    have Hm1 : Hid (told.length + 1 ≤ maxLen) := Lib.hid (by unfold maxLen; omega)
    have Hm2 : Hid ((told.length + 1) * 8 ≤ 140737488355328) := Lib.hid (by omega)
    have Hrow := Lib.hid hrow
    have HB := Lib.hid hB
    have HA := Lib.hid hA
    have HL := Lib.hid hL
    have Hb34 := Lib.hid hb34
    clear hrow hB hA hL hb34
    go_enter Tryd.func25, Tryd.ntmps25
    go_wp2_with (refine wpList_appO _ rfl (.tmp 3) (.tmp 5) _ rfl _ _ 1 8 Tryd.underlying38 info_int rfl A told.length c (ints told) rfl (Hrow.out.alloc _) (some ⟨W.heap.size, 0, none⟩) 1 1 [.int .i64 (j : Int)] rfl rfl (Rd.lit W #[.int .i64 (j : Int)] 3) (by intro u hu; simp at hu; subst hu; rfl) (by intro h; cases h) Hm1.out Hm2.out ?_; intro A7 c7 w7 hrow7 honly7 hA7; have hB7 := (HB.out.ext Hb34.out).only honly7 (fun h => HA.out h); have x7 := hB7.cell 0; have f7 := hB7.free 0)
    first | go_end0 | refine bodyPost_ret (results_none rfl _ _ _) rfl ?_
    have hgl := HB.out.lt
    have hA7b : ¬ inA A7 b := fun h => (hA7 b h).elim HA.out (fun h => by have := h.1; simp at this; omega)
    have hO : Only (fun x => x = b) w7 (w7.setCell ⟨b, 0, none⟩ (.slice A7 (told.length + 1) c7)) := (Only.refl (fun x => x = b) w7).setCell (p := ⟨b, 0, none⟩) (.inl rfl) _
    have hsz : (w7.setCell ⟨b, 0, none⟩ (.slice A7 (told.length + 1) c7)).heap.size = w7.heap.size := by simp [World.setCell]
    refine ⟨⟨_, rfl⟩, fun x => x = b ∨ inA A7 x, ⟨A7, c7, ?_, ?_, fun x => Iff.rfl, hA7b⟩, ?_, fun x h => h.elim (fun h => .inl ((HL.out x).2 (.inl h))) (fun h => (hA7 x h).imp (fun h => (HL.out x).2 (.inr h)) (fun h => ⟨by have := h.1; simp at this; omega, by rw [hsz]; exact h.2⟩))⟩
    · rw [List.length_append, List.length_singleton]; exact hB7.put 0 _
    · rw [List.length_append, List.length_singleton]
      have := hrow7.only hO (fun x h1 h2 => by subst h2; exact hA7b h1)
      unfold ints at this ⊢
      rw [List.map_append]
      exact this
    · exact (((Only.refl L W).alloc _).trans honly7 (fun x _ h => (HL.out x).2 (.inr h))).setCell (p := ⟨b, 0, none⟩) (.inl ((HL.out b).2 (.inl rfl))) _
  · obtain ⟨A, c, hB, hrow, hL, hA⟩ := hT
    exact ⟨A, c, hB.only ho (hn b ((hL b).2 (.inl rfl))), hrow.only ho (fun x h => hn x ((hL x).2 (.inr h))), hL, hA⟩
  · obtain ⟨A, c, hB, hrow, hL, hA⟩ := hT
    rcases (hL x).1 hx with rfl | h
    · exact hB.lt
    · exact hrow.lt h

set_option maxHeartbeats 8000000 in
theorem longest_any (x : Ex) (cs : List Value) (s : ByteArray) (at_ : Int) (w : World) (ht : Tab w) (hr : ReR (fun _ => True) w x cs) (hs : s.size ≤ 1000000) :
    Calls Tryd.prog 17 #[reV cs, .string s, .int .i64 at_] w fun e W' => e = .returned (.int .i64 (lastI (endsI x (natsOf s) at_))) ∧ Below w.heap.size w W' := by
  obtain ⟨k, q0, q1, q2, q3, ks, B, d, lo, hi, -, rfl, h1, h2, -, -, -, -, -⟩ := hr.fields
  unfold maxLen at h2
  obtain ⟨w1, hw1⟩ : ∃ w1, w1 = (w.alloc (Obj.cells #[.int .i64 k, .int .u64 (q0 : Int), .int .u64 (q1 : Int), .int .u64 (q2 : Int), .int .u64 (q3 : Int), .slice B ks.length d, .int .i64 lo, .int .i64 hi] 27)).alloc (Obj.cells #[.int .i64 (-1)] 3) := ⟨_, rfl⟩
  have hb1 : Below w.heap.size w w1 := by rw [hw1]; exact ext2 w _ _
  have hBc : Blk w1 (w.heap.size + 1) 3 #[.int .i64 (-1)] := by
    rw [hw1]
    have := Blk.new (w.alloc (Obj.cells #[.int .i64 k, .int .u64 (q0 : Int), .int .u64 (q1 : Int), .int .u64 (q2 : Int), .int .u64 (q3 : Int), .slice B ks.length d, .int .i64 lo, .int .i64 hi] 27)) 3 #[.int .i64 (-1)]
    rwa [World.size_alloc] at this
  have HC := Lib.hid (eachEnd_long (.pointer (some ⟨w.heap.size + 1, 0, none⟩)) (TLong (w.heap.size + 1)) (teller_long _) x [.int .i64 k, .int .u64 (q0 : Int), .int .u64 (q1 : Int), .int .u64 (q2 : Int), .int .u64 (q3 : Int), .slice B ks.length d, .int .i64 lo, .int .i64 hi] s at_ w1 (fun b => b = w.heap.size + 1) (ht.ext hb1) (hr.ext hb1) hs ⟨by rw [lastI_nil]; exact hBc, fun _ => Iff.rfl⟩)
  have Hw1 := Lib.hid hw1
  have Hb1 := Lib.hid hb1
  clear hBc hb1 hw1 ht hr
  show Calls Tryd.prog 17 #[.agg #[.int .i64 k, .int .u64 (q0 : Int), .int .u64 (q1 : Int), .int .u64 (q2 : Int), .int .u64 (q3 : Int), .slice B ks.length d, .int .i64 lo, .int .i64 hi], .string s, .int .i64 at_] w _
  go_enter Tryd.func17, Tryd.ntmps17
  go_wp2_with fail
  rw [← Hw1.out]
  refine HC.out.mono ?_
  rintro e w2 ⟨⟨v, rfl⟩, L', hT, hO⟩
  have x0 := hT.1.cell 0
  have HO := Lib.hid hO
  clear hT hO HC
  go_wp2
  go_ret
  exact ⟨rfl, Hb1.out.trans (HO.out.below (fun i hi => by omega) Hb1.out.size)⟩
set_option maxHeartbeats 8000000 in
theorem ends_any (x : Ex) (cs : List Value) (s : ByteArray) (at_ : Int) (w : World) (ht : Tab w) (hr : ReR (fun _ => True) w x cs) (hs : s.size ≤ 1000000) :
    Calls Tryd.prog 16 #[reV cs, .string s, .int .i64 at_] w fun e W' => (∃ A c, e = .returned (.slice A (endsI x (natsOf s) at_).length c) ∧ RowO W' 3 1 A (endsI x (natsOf s) at_).length c (ints (endsI x (natsOf s) at_))) ∧ Below w.heap.size w W' := by
  obtain ⟨k, q0, q1, q2, q3, ks, B, d, lo, hi, -, rfl, h1, h2, -, -, -, -, -⟩ := hr.fields
  unfold maxLen at h2
  obtain ⟨w1, hw1⟩ : ∃ w1, w1 = (w.alloc (Obj.cells #[.int .i64 k, .int .u64 (q0 : Int), .int .u64 (q1 : Int), .int .u64 (q2 : Int), .int .u64 (q3 : Int), .slice B ks.length d, .int .i64 lo, .int .i64 hi] 27)).alloc (Obj.cells #[.slice none 0 0] 38) := ⟨_, rfl⟩
  have hb1 : Below w.heap.size w w1 := by rw [hw1]; exact ext2 w _ _
  have hBc : Blk w1 (w.heap.size + 1) 38 #[.slice none 0 0] := by
    rw [hw1]
    have := Blk.new (w.alloc (Obj.cells #[.int .i64 k, .int .u64 (q0 : Int), .int .u64 (q1 : Int), .int .u64 (q2 : Int), .int .u64 (q3 : Int), .slice B ks.length d, .int .i64 lo, .int .i64 hi] 27)) 38 #[.slice none 0 0]
    rwa [World.size_alloc] at this
  have HC := Lib.hid (eachEnd_ends (.pointer (some ⟨w.heap.size + 1, 0, none⟩)) (TEnds (w.heap.size + 1)) (teller_ends _) x [.int .i64 k, .int .u64 (q0 : Int), .int .u64 (q1 : Int), .int .u64 (q2 : Int), .int .u64 (q3 : Int), .slice B ks.length d, .int .i64 lo, .int .i64 hi] s at_ w1 (fun b => b = w.heap.size + 1 ∨ inA none b) (ht.ext hb1) (hr.ext hb1) hs ⟨none, 0, hBc, RowO.none_ _ _ _, fun _ => Iff.rfl, inA_none _⟩)
  have Hw1 := Lib.hid hw1
  have Hb1 := Lib.hid hb1
  clear hBc hb1 hw1 ht hr
  show Calls Tryd.prog 16 #[.agg #[.int .i64 k, .int .u64 (q0 : Int), .int .u64 (q1 : Int), .int .u64 (q2 : Int), .int .u64 (q3 : Int), .slice B ks.length d, .int .i64 lo, .int .i64 hi], .string s, .int .i64 at_] w _
  go_enter Tryd.func16, Tryd.ntmps16
  go_wp2_with fail
  rw [← Hw1.out]
  refine HC.out.mono ?_
  rintro e w2 ⟨⟨v, rfl⟩, L', ⟨A, c, hB, hrow, -, -⟩, hO⟩
  have x0 := hB.cell 0
  have HO := Lib.hid hO
  have Hrow := Lib.hid hrow
  clear hB hrow hO HC
  go_wp2
  go_ret
  exact ⟨⟨A, c, rfl, Hrow.out⟩, Hb1.out.trans (HO.out.below (fun i hi => hi.elim (fun h => by omega) (fun h => absurd h (inA_none i))) Hb1.out.size)⟩

/-- is a text one of an expression's? -/
noncomputable def matchE (x : Ex) (u : List Nat) : Bool := @decide (isE x = true ∧ inE x u) (Classical.propDecidable _)
theorem matchE_iff (x : Ex) (u : List Nat) : matchE x u = true ↔ isE x = true ∧ inE x u := by unfold matchE; simp
theorem lastI_mem : ∀ (l : List Nat), lastI l = -1 ∨ ∃ j ∈ l, lastI l = (j : Int) := by
  intro l
  unfold lastI
  cases h : l.getLast? with
  | none => exact .inl rfl
  | some j => exact .inr ⟨j, List.mem_of_getLast? h, rfl⟩
theorem sub_all (u : List Nat) : sub u 0 u.length = u := by unfold sub; simp
theorem lastI_match (x : Ex) (u : List Nat) : lastI (endsI x u 0) = (u.length : Int) ↔ matchE x u = true := by
  rw [matchE_iff]
  unfold endsI
  by_cases hx : isE x = true
  · rw [if_pos ⟨by omega, by omega, hx⟩]
    by_cases hp : inE x (sub u 0 u.length)
    · rw [show ((0 : Int)).toNat = 0 from rfl, endsF_yes (Nat.zero_le _) hp, lastI_snoc]
      rw [sub_all] at hp
      exact ⟨fun _ => ⟨hx, hp⟩, fun _ => rfl⟩
    · rw [show ((0 : Int)).toNat = 0 from rfl, endsF_no (Nat.zero_le _) hp]
      rw [sub_all] at hp
      refine ⟨fun h => ?_, fun h => absurd h.2 hp⟩
      rcases lastI_mem (endsF (inE x) u 0 u.length) with h1 | ⟨j, hj, h1⟩
      · omega
      · have := (endsF_mem.1 hj).2.1
        omega
  · rw [if_neg (fun h => hx h.2.2)]
    refine ⟨fun h => ?_, fun h => absurd h.1 hx⟩
    rw [lastI_nil] at h
    omega
set_option maxHeartbeats 8000000 in
theorem match_any (x : Ex) (cs : List Value) (s : ByteArray) (w : World) (ht : Tab w) (hr : ReR (fun _ => True) w x cs) (hs : s.size ≤ 1000000) :
    Calls Tryd.prog 7 #[reV cs, .string s] w fun e W' => e = .returned (.bool (matchE x (natsOf s))) ∧ Below w.heap.size w W' := by
  obtain ⟨k, q0, q1, q2, q3, ks, B, d, lo, hi, -, rfl, h1, h2, -, -, -, -, -⟩ := hr.fields
  unfold maxLen at h2
  have hb1 : Below w.heap.size w (w.alloc (Obj.cells #[.int .i64 k, .int .u64 (q0 : Int), .int .u64 (q1 : Int), .int .u64 (q2 : Int), .int .u64 (q3 : Int), .slice B ks.length d, .int .i64 lo, .int .i64 hi] 27)) := (Below.refl _ _).alloc (Nat.le_refl _) _
  have hm := lastI_match x (natsOf s)
  rw [natsOf_len] at hm
  have HC := Lib.hid (longest_any x [.int .i64 k, .int .u64 (q0 : Int), .int .u64 (q1 : Int), .int .u64 (q2 : Int), .int .u64 (q3 : Int), .slice B ks.length d, .int .i64 lo, .int .i64 hi] s 0 _ (ht.ext hb1) (hr.ext hb1) hs)
  have Hb1 := Lib.hid hb1
  obtain ⟨z, hz⟩ : ∃ z, lastI (endsI x (natsOf s) 0) = z := ⟨_, rfl⟩
  rw [hz] at hm HC
  have Hm := Lib.hid hm
  clear hb1 hm ht hr hz
  show Calls Tryd.prog 7 #[.agg #[.int .i64 k, .int .u64 (q0 : Int), .int .u64 (q1 : Int), .int .u64 (q2 : Int), .int .u64 (q3 : Int), .slice B ks.length d, .int .i64 lo, .int .i64 hi], .string s] w _
  go_enter Tryd.func7, Tryd.ntmps7
  go_wp2_with fail
  refine HC.out.mono ?_
  rintro e w2 ⟨rfl, hb2⟩
  go_wp2
  go_ret
  refine ⟨ret_bool ?_, ext_trans Hb1.out hb2⟩
  rw [Bool.eq_iff_iff, ← Hm.out]
  simp
end Go.Proofs.YtlddmjhpemihgaaDoor

/-
  Contract of the program's row, where that of atom is known. No statement of the seat is proved here.
-/
namespace Go.Proofs.YtlddmjhpemihgaaDoor
open Go Go.RowKit
set_option maxRecDepth 100000
theorem RowE.mono {S T : Nat → Prop} {w : World} {A : Option Addr} {m c : Nat} {l : List Ex} (h : RowE S w A m c l) (hs : ∀ b, S b → b < w.heap.size → T b) : RowE T w A m c l := by
  obtain ⟨xs, h1, h2, h3⟩ := h
  exact ⟨xs, h1, h2, fun k hk => (h3 k hk).mono (fun b hb hl => ⟨hs b hb.1 hl, hb.2⟩)⟩
end Go.Proofs.YtlddmjhpemihgaaDoor

/-
  What stage 6's laws share: the table out of 'laid', known, weight. No statement of the seat is proved here.
-/
namespace Go.Proofs.YtlddmjhpemihgaaDoor
open Go Go.ChangeShapes Go.WideShapes Go.ChangeAt Go.RowKit
set_option maxRecDepth 100000
theorem cells_tab : Tryd.prog.cellsOf 97 = 64 := by kernel_rfl
theorem gTab : Tryd.prog.globalNamed "math/bits.deBruijn64tab" = some 0 := by kernel_rfl
theorem gTabType : (Tryd.prog.globals[0]?).map (·.type) = some 97 := by kernel_rfl
/-- the list of every row of this seat -/
def theLaid : List (String × DataW Unit) := [("math/bits.deBruijn32tab", Rows.laid_math_bits_deBruijn32tab), ("math/bits.deBruijn64tab", Rows.laid_math_bits_deBruijn64tab), ("internal/strconv.uint64pow10", Rows.laid_internal_strconv_uint64pow10)]
theorem tab_same : ∀ i : Fin 64, (([0, 1, 56, 2, 57, 49, 28, 3, 61, 58, 42, 50, 38, 29, 17, 4, 62, 47, 59, 36, 45, 43, 51, 22, 53, 39, 33, 30, 24, 18, 12, 5, 63, 55, 48, 27, 60, 41, 37, 16, 46, 35, 44, 21, 52, 32, 23, 11, 54, 26, 40, 15, 34, 20, 31, 10, 25, 14, 19, 9, 13, 8, 7, 6] : List Int).getD i.val 0) = ((Lib.deBruijn64tab.getD i.val 0 : Nat) : Int) := by decide +kernel
theorem tab_of_laid {W : World} (h : laidMetH Tryd.prog theLaid W) : Tab W := by
  have h1 : Lib.TabIs Tryd.prog W "math/bits.deBruijn64tab" .u8 [0, 1, 56, 2, 57, 49, 28, 3, 61, 58, 42, 50, 38, 29, 17, 4, 62, 47, 59, 36, 45, 43, 51, 22, 53, 39, 33, 30, 24, 18, 12, 5, 63, 55, 48, 27, 60, 41, 37, 16, 46, 35, 44, 21, 52, 32, 23, 11, 54, 26, 40, 15, 34, 20, 31, 10, 25, 14, 19, 9, 13, 8, 7, 6] :=
    Lib.tabIs_of_head (rest := [("internal/strconv.uint64pow10", Rows.laid_internal_strconv_uint64pow10)]) gTab gTabType Tryd.underlying97 Tryd.underlying5 cells_u8 cells_tab (laidMet.tail (x := ("math/bits.deBruijn32tab", Rows.laid_math_bits_deBruijn32tab)) h)
  intro i hi
  have hi' : i < 64 := hi
  have h2 := h1.cell gTab i (by simpa using hi')
  rw [h2]
  have h3 := tab_same ⟨i, hi'⟩
  exact congrArg (fun z => some (Value.int .u8 z)) h3

mutual
def leftE : Ex → Int → Int
  | .mk _ _ ks _ _ => fun left => leftL ks (left - 1)
def leftL : List Ex → Int → Int
  | [] => fun left => left
  | x :: xs => fun left => if 0 ≤ left then leftL xs (leftE x left) else left
end
theorem leftL_nodes (l : List Ex) (h : ∀ x ∈ l, ∀ n, (leftE x n ≤ n) ∧ (0 ≤ leftE x n → leftE x n = n - (nodesE x : Int))) : ∀ n, leftL l n ≤ n ∧ (0 ≤ leftL l n → leftL l n = n - (nodesL l : Int)) := by
  induction l with
  | nil => intro n; simp [leftL, nodesL]
  | cons x r ih =>
    intro n
    have ih := ih (fun y hy => h y (by simp [hy]))
    have hx := h x (by simp) n
    have hi := ih (leftE x n)
    simp only [leftL, nodesL]
    split
    · refine ⟨by omega, fun h0 => ?_⟩
      have := hi.2 h0
      have h9 := hx.2 (by omega)
      omega
    · exact ⟨Int.le_refl _, fun h0 => by omega⟩
theorem leftE_nodes (t : Ex) : ∀ n, (leftE t n ≤ n) ∧ (0 ≤ leftE t n → leftE t n = n - (nodesE t : Int)) := by
  refine ex_induct (p := fun t => ∀ n, (leftE t n ≤ n) ∧ (0 ≤ leftE t n → leftE t n = n - (nodesE t : Int))) (fun k s ks lo hi ih n => ?_) t
  have := leftL_nodes ks ih (n - 1)
  simp only [leftE, nodesE]
  refine ⟨by omega, fun h => ?_⟩
  have := this.2 h
  omega
theorem leftL_low (l : List Ex) (h : ∀ x ∈ l, ∀ n, 0 ≤ n → -1 ≤ leftE x n) : ∀ n, -1 ≤ n → -1 ≤ leftL l n := by
  induction l with
  | nil => intro n hn; simpa [leftL] using hn
  | cons x r ih =>
    intro n hn
    simp only [leftL]
    split
    · rename_i h0
      exact ih (fun y hy => h y (by simp [hy])) _ (h x (by simp) n h0)
    · exact hn
theorem leftE_low (t : Ex) : ∀ n, 0 ≤ n → -1 ≤ leftE t n := by
  refine ex_induct (p := fun t => ∀ n, 0 ≤ n → -1 ≤ leftE t n) (fun k s ks lo hi ih n hn => ?_) t
  simp only [leftE]
  exact leftL_low ks ih _ (by omega)

end Go.Proofs.YtlddmjhpemihgaaDoor

/-
  A world for the witness of stage 6's and 7's cards: the tables hold what the rows list. No statement of the seat is proved here.
-/
namespace Go.Proofs.YtlddmjhpemihgaaDoor
open Go Go.ChangeShapes Go.WideShapes Go.ChangeAt Go.RowKit
noncomputable def laidWorld (os : Os) : World :=
  { World.holding Tryd.prog os ⟨#[], #[], []⟩ with heap := ((((World.holding Tryd.prog os ⟨#[], #[], []⟩).heap.modify 2 fun
      | .cells _ t frozen => .cells #[.int .u8 0, .int .u8 1, .int .u8 28, .int .u8 2, .int .u8 29, .int .u8 14, .int .u8 24, .int .u8 3, .int .u8 30, .int .u8 22, .int .u8 20, .int .u8 15, .int .u8 25, .int .u8 17, .int .u8 4, .int .u8 8, .int .u8 31, .int .u8 27, .int .u8 13, .int .u8 23, .int .u8 21, .int .u8 19, .int .u8 16, .int .u8 7, .int .u8 26, .int .u8 12, .int .u8 18, .int .u8 6, .int .u8 11, .int .u8 5, .int .u8 10, .int .u8 9] t frozen
      | o => o).modify 0 fun
      | .cells _ t frozen => .cells #[.int .u8 0, .int .u8 1, .int .u8 56, .int .u8 2, .int .u8 57, .int .u8 49, .int .u8 28, .int .u8 3, .int .u8 61, .int .u8 58, .int .u8 42, .int .u8 50, .int .u8 38, .int .u8 29, .int .u8 17, .int .u8 4, .int .u8 62, .int .u8 47, .int .u8 59, .int .u8 36, .int .u8 45, .int .u8 43, .int .u8 51, .int .u8 22, .int .u8 53, .int .u8 39, .int .u8 33, .int .u8 30, .int .u8 24, .int .u8 18, .int .u8 12, .int .u8 5, .int .u8 63, .int .u8 55, .int .u8 48, .int .u8 27, .int .u8 60, .int .u8 41, .int .u8 37, .int .u8 16, .int .u8 46, .int .u8 35, .int .u8 44, .int .u8 21, .int .u8 52, .int .u8 32, .int .u8 23, .int .u8 11, .int .u8 54, .int .u8 26, .int .u8 40, .int .u8 15, .int .u8 34, .int .u8 20, .int .u8 31, .int .u8 10, .int .u8 25, .int .u8 14, .int .u8 19, .int .u8 9, .int .u8 13, .int .u8 8, .int .u8 7, .int .u8 6] t frozen
      | o => o).modify 1 fun
      | .cells _ t frozen => .cells #[.int .u64 1, .int .u64 10, .int .u64 100, .int .u64 1000, .int .u64 10000, .int .u64 100000, .int .u64 1000000, .int .u64 10000000, .int .u64 100000000, .int .u64 1000000000, .int .u64 10000000000, .int .u64 100000000000, .int .u64 1000000000000, .int .u64 10000000000000, .int .u64 100000000000000, .int .u64 1000000000000000, .int .u64 10000000000000000, .int .u64 100000000000000000, .int .u64 1000000000000000000, .int .u64 10000000000000000000] t frozen
      | o => o) }
end Go.Proofs.YtlddmjhpemihgaaDoor

/-
  What stage 7's laws share: the texts of a text's own expression; two rows of numbers. No statement of the seat is proved here.
-/
namespace Go.Proofs.YtlddmjhpemihgaaDoor
open Go Go.ChangeShapes Go.WideShapes Go.ChangeAt Go.RowKit
set_option maxRecDepth 100000
theorem inE_byte {b : Nat} {u : List Nat} (hu : ∀ x ∈ u, x < 256) : inE (byteE b) u ↔ u = [b] := by
  unfold byteE classE
  simp only [inE]
  rw [if_neg (by decide), if_pos trivial]
  constructor
  · rintro ⟨c, rfl, h⟩
    rw [hasB_of (hu c (by simp))] at h
    have := of_decide_eq_true h
    simp at this
    rw [this]
  · rintro rfl
    exact ⟨b, rfl, by rw [hasB_of (hu b (by simp))]; simp⟩
def starA : Ex := .mk 4 zeroB [byteE 97] 0 (-1)
theorem starA_is : isE starA = true := by decide +kernel
theorem pow_all {P : List Nat → Prop} {q : Nat → Prop} (h : ∀ a, P a → ∀ x ∈ a, q x) : ∀ (n : Nat) (u : List Nat), powL P n u → ∀ x ∈ u, q x
  | 0, u, hu, x, hx => by simp only [powL] at hu; subst hu; cases hx
  | n + 1, u, hu, x, hx => by
    simp only [powL] at hu
    obtain ⟨a, b, rfl, ha, hb⟩ := hu
    rcases List.mem_append.1 hx with h1 | h1
    · exact h a ha x h1
    · exact pow_all h n b hb x h1
theorem starA_iff (u : List Nat) : inE starA u ↔ ∃ n : Nat, powL (inE (byteE 97)) n u := by
  unfold starA
  simp only [inE, inRep]
  rw [if_neg (by decide), if_neg (by decide), if_neg (by decide), if_neg (by decide)]
  constructor
  · rintro ⟨n, _, _, h⟩; exact ⟨n, h⟩
  · rintro ⟨n, h⟩; exact ⟨n, by omega, .inl (by trivial), h⟩
theorem byteA : inE (byteE 97) [97] := (inE_byte (by simp)).2 rfl
theorem starA_0 : inE starA [] := (starA_iff _).2 ⟨0, rfl⟩
theorem starA_1 : inE starA [97] := (starA_iff _).2 ⟨1, [97], [], rfl, byteA, rfl⟩
theorem starA_2 : inE starA [97, 97] := (starA_iff _).2 ⟨2, [97], [97], rfl, byteA, [97], [], rfl, byteA, rfl⟩
theorem starA_not {u : List Nat} (h98 : 98 ∈ u) : ¬ inE starA u := by
  intro h
  obtain ⟨n, h⟩ := (starA_iff _).1 h
  have h2 := pow_all (q := fun x => hasB (ofB [97]) x = true) (fun a ha x hx => by
    unfold byteE classE at ha
    simp only [inE] at ha
    rw [if_neg (by decide), if_pos trivial] at ha
    obtain ⟨c, rfl, hc⟩ := ha
    simp at hx
    rw [hx]; exact hc) n u h 98 h98
  revert h2
  decide +kernel
theorem starA_ends : endsI starA [97, 97, 98] 0 = [0, 1, 2] := by
  unfold endsI
  rw [if_pos ⟨by omega, by decide, starA_is⟩]
  show endsF (inE starA) [97, 97, 98] 0 (3 + 1) = _
  rw [endsF_no (by omega) (starA_not (by decide)), endsF_yes (j := 2) (by omega) starA_2, endsF_yes (j := 1) (by omega) starA_1, endsF_yes (j := 0) (by omega) starA_0, endsF_self]
  rfl
theorem starA_m1 : matchE starA [97, 97] = true := (matchE_iff _ _).2 ⟨starA_is, starA_2⟩
theorem starA_m2 : matchE starA [97, 98] = false := by
  rw [Bool.eq_false_iff]
  exact fun h => starA_not (by decide) ((matchE_iff _ _).1 h).2

theorem ints_at {w : World} {A : Option Addr} {c : Nat} {l : List Nat} (h : RowO w 3 1 A l.length c (ints l)) {k : Nat} (hk : k < l.length) : ∃ g o, A = some ⟨g, o, none⟩ ∧ w.cell? ⟨g, o + k, none⟩ = some (.int .i64 ((l[k] : Nat) : Int)) := by
  obtain ⟨ad, rfl, had⟩ := h.rd k (.int .i64 ((l[k] : Nat) : Int)) (by unfold ints; rw [List.getElem?_map, List.getElem?_eq_getElem hk]; rfl)
  obtain ⟨ga, oa, sx⟩ := ad
  have hsx : sx = none := by
    rcases h.2 with ⟨h, _⟩ | ⟨_, _, _, e, _⟩
    · cases h
    · injection e with e; injection e
  subst hsx
  exact ⟨ga, oa, rfl, by rw [Addr.add_mid] at had; exact had⟩
set_option maxHeartbeats 2000000 in
theorem numbers_same (w : World) (A B : Option Addr) (c d : Nat) (l : List Nat) (ha : RowO w 3 1 A l.length c (ints l)) (hb : RowO w 3 1 B l.length d (ints l)) (hl : l.length ≤ 1000000) (hx : ∀ x ∈ l, x ≤ 1000000) :
    Calls Tryd.prog 15 #[.slice A l.length c, .slice B l.length d] w fun e w' => e = .returned (.bool true) ∧ Below w.heap.size w w' := by
  have hli : (l.length : Int) ≤ 1000000 := by omega
  have Ha := Lib.hid ha
  have Hb := Lib.hid hb
  have Hx := Lib.hid hx
  clear ha hb hx
  go_enter Tryd.func15, Tryd.ntmps15
  go_wp2
  go_loopw [5] (fun iv wr => ∃ (j : Nat), j ≤ l.length ∧ iv = .int .i64 (j : Int) ∧ Below w.heap.size w wr) (fun iv _ => l.length - (intOf iv).toNat)
  case atStart => exact ⟨0, Nat.zero_le _, rfl, Below.refl _ _⟩
  case round =>
    obtain ⟨j, hj, rfl, hbr⟩ := hrel
    by_cases hlt : j < l.length
    · have hji : (j : Int) < (l.length : Int) := by omega
      obtain ⟨ga, oa, rfl, xa⟩ := ints_at (Ha.out.ext hbr) hlt
      obtain ⟨gb, ob, rfl, xb⟩ := ints_at (Hb.out.ext hbr) hlt
      obtain ⟨p, hp⟩ : ∃ p, l[j] = p := ⟨_, rfl⟩
      rw [hp] at xa xb
      clear hp
      go_wp2
      go_quiet (fail)
      go_wp2
      go_roundw
      case rel => exact ⟨j + 1, by omega, by go_num, ext_trans hbr (ext_drewN (Below.refl _ _) _)⟩
      case measure => simp [intOf]; omega
    · obtain rfl : j = l.length := by omega
      go_wp2
      go_ret
      exact ⟨rfl, hbr⟩
end Go.Proofs.YtlddmjhpemihgaaDoor

/-
  What stage 7's laws know beforehand. No statement of the seat is proved here.
-/
namespace Go.Proofs.YtlddmjhpemihgaaDoor
open Go Go.ChangeShapes Go.WideShapes Go.ChangeAt Go.RowKit
set_option maxRecDepth 100000
set_option maxHeartbeats 4000000 in
theorem known7_any (w : World) (ht : Tab w) : Calls Tryd.prog 6 #[] w fun e w' => e = .returned (.bool true) ∧ Below w.heap.size w w' := by
  have hT := rtextx_any ⟨#[97]⟩ w (by decide)
  rw [show natsOf ⟨#[97]⟩ = [97] from rfl] at hT
  have HT := Lib.hid hT
  have Ht := Lib.hid ht
  clear hT ht
  go_enter Tryd.func6, Tryd.ntmps6
  go_wp2_with fail
  refine HT.out.mono ?_
  rintro e w1 ⟨cs, he, hr, hb1⟩
  have h8 := reR_arr hr
  obtain ⟨u0, u1, u2, u3, u4, u5, u6, u7, hcs⟩ := arr_eight h8.1
  have hcl : cs = [u0, u1, u2, u3, u4, u5, u6, u7] := by have := congrArg Array.toList hcs; simpa using this
  subst hcl
  have he' : e = .returned (.agg #[u0, u1, u2, u3, u4, u5, u6, u7]) := he
  subst he'
  obtain ⟨W3, hW3⟩ : ∃ W3, W3 = (w1.alloc (Obj.cells #[u0, u1, u2, u3, u4, u5, u6, u7] 27)).alloc (Obj.cells #[.int .i64 4, .int .u64 0, .int .u64 0, .int .u64 0, .int .u64 0, .slice (some ⟨w1.heap.size, 0, none⟩) 1 1, .int .i64 0, .int .i64 (-1)] 27) := ⟨_, rfl⟩
  have hb3 : Below w1.heap.size w1 W3 := by rw [hW3]; exact ext2 w1 _ _
  have hB3 : Blk W3 (w1.heap.size + 1) 27 #[.int .i64 4, .int .u64 0, .int .u64 0, .int .u64 0, .int .u64 0, .slice (some ⟨w1.heap.size, 0, none⟩) 1 1, .int .i64 0, .int .i64 (-1)] := by
    rw [hW3]
    have := Blk.new (w1.alloc (Obj.cells #[u0, u1, u2, u3, u4, u5, u6, u7] 27)) 27 #[.int .i64 4, .int .u64 0, .int .u64 0, .int .u64 0, .int .u64 0, .slice (some ⟨w1.heap.size, 0, none⟩) 1 1, .int .i64 0, .int .i64 (-1)]
    rwa [World.size_alloc] at this
  have hR : ReR (fun _ => True) W3 starA [.int .i64 4, .int .u64 0, .int .u64 0, .int .u64 0, .int .u64 0, .slice (some ⟨w1.heap.size, 0, none⟩) 1 1, .int .i64 0, .int .i64 (-1)] := by
    unfold starA
    rw [reR_iff]
    refine ⟨⟨by unfold isInt; omega, zero_ok, by unfold isInt; omega, by unfold isInt; omega⟩, some ⟨w1.heap.size, 0, none⟩, 1, rfl, Nat.le_refl _, by simp [maxLen], ?_⟩
    have h9 := (RowE.one w1 hr).kids (T := fun _ => True) (fun _ _ _ => trivial)
    rw [hW3]
    exact h9.ext ((Below.refl _ _).alloc (Nat.le_refl _) _)
  have hsz3 : W3.heap.size = w1.heap.size + 2 := by rw [hW3, World.size_alloc, World.size_alloc]
  have Hb3 := Lib.hid (ext_trans hb1 hb3)
  have HR := Lib.hid hR
  have HB3 := Lib.hid hB3
  have HW3 := Lib.hid hW3
  have Hsz := Lib.hid hsz3
  have HE := ends_any starA _ ⟨#[97, 97, 98]⟩ 0 W3 (Ht.out.ext Hb3.out) hR (by decide)
  rw [show natsOf ⟨#[97, 97, 98]⟩ = [97, 97, 98] from rfl, starA_ends] at HE
  have HE := Lib.hid HE
  clear he hr hb1 h8 hcs hb3 hB3 hR hW3 hsz3 HT
  go_wp2_with fail
  rw [← HW3.out]
  refine HE.out.mono ?_
  rintro e w4 ⟨⟨A, c, rfl, hrow⟩, hb4⟩
  have Hrow := Lib.hid hrow
  have Hb4 := Lib.hid (ext_trans Hb3.out hb4)
  have HR4 := Lib.hid (HR.out.ext hb4)
  have HB4 := Lib.hid (HB3.out.ext hb4)
  clear hrow hb4
  obtain ⟨W5, hW5⟩ : ∃ W5, W5 = w4.alloc (Obj.cells #[.int .i64 0, .int .i64 1, .int .i64 2] 3) := ⟨_, rfl⟩
  have hb45 : Below w4.heap.size w4 W5 := by rw [hW5]; exact (Below.refl _ _).alloc (Nat.le_refl _) _
  have hrow2 : RowO W5 3 1 (some ⟨w4.heap.size, 0, none⟩) 3 3 (ints [0, 1, 2]) := by
    rw [hW5]
    exact RowO.lit w4 3 1 3 #[.int .i64 0, .int .i64 1, .int .i64 2] rfl (by simp [maxLen]) rfl
  have HN := Lib.hid (numbers_same W5 A (some ⟨w4.heap.size, 0, none⟩) c 3 [0, 1, 2] (Hrow.out.ext hb45) hrow2 (by decide) (by decide))
  have Hb5 := Lib.hid (ext_trans Hb4.out hb45)
  have HR5 := Lib.hid (HR4.out.ext hb45)
  have HB5 := Lib.hid (HB4.out.ext hb45)
  have HW5 := Lib.hid hW5
  clear hW5 hb45 hrow2 Hrow
  go_wp2_with fail
  rw [← HW5.out]
  refine HN.out.mono ?_
  rintro e w6 ⟨rfl, hb6⟩
  have Hb6 := Lib.hid (ext_trans Hb5.out hb6)
  have HR6 := Lib.hid (HR5.out.ext hb6)
  have HB6 := Lib.hid (HB5.out.ext hb6)
  have HM := match_any starA _ ⟨#[97, 97]⟩ w6 (Ht.out.ext Hb6.out) HR6.out (by decide)
  rw [show natsOf ⟨#[97, 97]⟩ = [97, 97] from rfl, starA_m1] at HM
  have HM := Lib.hid HM
  clear hb6 HN
  have c0 := HB6.out.cell 0
  have c1 := HB6.out.cell 1
  have c2 := HB6.out.cell 2
  have c3 := HB6.out.cell 3
  have c4 := HB6.out.cell 4
  have c5 := HB6.out.cell 5
  have c6 := HB6.out.cell 6
  have c7 := HB6.out.cell 7
  go_wp2_with fail
  refine HM.out.mono ?_
  rintro e w7 ⟨rfl, hb7⟩
  have Hb7 := Lib.hid (ext_trans Hb6.out hb7)
  have HR7 := Lib.hid (HR6.out.ext hb7)
  have HB7 := Lib.hid (HB6.out.ext hb7)
  have HM2 := match_any starA _ ⟨#[97, 98]⟩ w7 (Ht.out.ext Hb7.out) HR7.out (by decide)
  rw [show natsOf ⟨#[97, 98]⟩ = [97, 98] from rfl, starA_m2] at HM2
  have HM2 := Lib.hid HM2
  clear hb7 HM c0 c1 c2 c3 c4 c5 c6 c7
  have c0 := HB7.out.cell 0
  have c1 := HB7.out.cell 1
  have c2 := HB7.out.cell 2
  have c3 := HB7.out.cell 3
  have c4 := HB7.out.cell 4
  have c5 := HB7.out.cell 5
  have c6 := HB7.out.cell 6
  have c7 := HB7.out.cell 7
  go_wp2_with fail
  refine HM2.out.mono ?_
  rintro e w8 ⟨rfl, hb8⟩
  go_wp2
  go_ret
  exact ⟨rfl, ext_trans Hb7.out hb8⟩
end Go.Proofs.YtlddmjhpemihgaaDoor

/-
  LangTexts, its walk: what the expression of a text means. No statement of the seat is proved here (LangTexts closes it).
-/
namespace Go.Proofs.YtlddmjhpemihgaaDoor
open Go Go.ChangeShapes Go.WideShapes Go.ChangeAt Go.RowKit
set_option maxRecDepth 100000
theorem empty_nats (a : ByteArray) : a.toList.isEmpty = decide ([] = natsOf a) := by
  obtain ⟨a⟩ := a
  rw [ByteArray.toList_mk, Bool.eq_iff_iff, decide_eq_true_iff]
  unfold natsOf
  rw [List.isEmpty_iff]
  constructor
  · intro h
    show [] = a.toList.map _
    rw [h]; rfl
  · intro h
    exact List.map_eq_nil_iff.1 h.symm
end Go.Proofs.YtlddmjhpemihgaaDoor

/-
  What stage 7's laws call heavy. No statement of the seat is proved here.
-/
namespace Go.Proofs.YtlddmjhpemihgaaDoor
open Go Go.ChangeShapes Go.WideShapes Go.ChangeAt Go.RowKit
set_option maxRecDepth 100000
set_option maxHeartbeats 2000000 in
theorem weight7_any (S : Nat → Prop) (t : Ex) : ∀ (cs : List Value) (w : World) (n : Int), ReR S w t cs → 0 ≤ n → n ≤ 1000000 →
    Calls Tryd.prog 8 #[reV cs, .int .i64 n] w fun e w' => e = .returned (.int .i64 (leftE t n)) ∧ Below w.heap.size w w' := by
  refine ex_induct (p := fun t => ∀ (cs : List Value) (w : World) (n : Int), ReR S w t cs → 0 ≤ n → n ≤ 1000000 → Calls Tryd.prog 8 #[reV cs, .int .i64 n] w fun e w' => e = .returned (.int .i64 (leftE t n)) ∧ Below w.heap.size w w') (fun k s ks lo hi ih cs w n h hn0 hn => ?_) t
  rw [reR_iff] at h
  obtain ⟨h0, A, c, rfl, h1, h2, h3⟩ := h
  have hle : leftE (.mk k s ks lo hi) n = leftL ks (n - 1) := by simp [leftE]
  rw [hle]
  unfold maxLen at h2
  have Hih := Lib.hid ih
  have H3 := Lib.hid h3
  clear ih h3 h0 hle
  unfold reV reCells
  have hB := Blk.new w 27 #[.int .i64 k, .int .u64 (wordB s 0 : Int), .int .u64 (wordB s 1 : Int), .int .u64 (wordB s 2 : Int), .int .u64 (wordB s 3 : Int), .slice A ks.length c, .int .i64 lo, .int .i64 hi]
  have hkl : (ks.length : Int) ≤ 9223372036854775807 := by omega
  go_enter Tryd.func8, Tryd.ntmps8
  go_wp2
  go_loopw [1, 5] (fun nv i wr => ∃ (j : Nat) (m : Int), j ≤ ks.length ∧ i = .int .i64 (j : Int) ∧ nv = .int .i64 m ∧ m ≤ 1000000 ∧ -1 ≤ m ∧ Hid (leftL ks (n - 1) = leftL (ks.drop j) m) ∧ Blk wr w.heap.size 27 #[.int .i64 k, .int .u64 (wordB s 0 : Int), .int .u64 (wordB s 1 : Int), .int .u64 (wordB s 2 : Int), .int .u64 (wordB s 3 : Int), .slice A ks.length c, .int .i64 lo, .int .i64 hi] ∧ Below w.heap.size w wr) (fun _ i _ => ks.length - (intOf i).toNat)
  case atStart => exact ⟨0, n - 1, Nat.zero_le _, rfl, rfl, by omega, by omega, Lib.hid rfl, hB, (Below.refl _ _).alloc (Nat.le_refl _) _⟩
  case round =>
    obtain ⟨j, m, hj, rfl, rfl, hm, hm1, hL, hB, hb⟩ := hrel
    have c5 := hB.cell 5
    by_cases hlt : j < ks.length
    · have hji : (j : Int) < (ks.length : Int) := by omega
      have hd : ks.drop j = ks[j] :: ks.drop (j + 1) := List.drop_eq_getElem_cons hlt
      by_cases hm0 : 0 ≤ m
      · have hL2 := hL.out
        rw [hd] at hL2
        simp only [leftL] at hL2
        rw [if_pos hm0] at hL2
        have HL2 := Lib.hid hL2
        have hlm := (leftE_nodes ks[j] m).1
        have hlm2 := leftE_low ks[j] m hm0
        obtain ⟨g, o, u0, u1, u2, u3, u4, u5, u6, u7, rfl, hr, x0, x1, x2, x3, x4, x5, x6, x7, -⟩ := (H3.out.ext hb).kid hlt
        have Hc := Lib.hid (Hih.out _ (List.getElem_mem hlt) _ wr m hr hm0 hm)
        obtain ⟨q, hq⟩ : ∃ q, leftE ks[j] m = q := ⟨_, rfl⟩
        rw [hq] at Hc hlm hlm2 HL2
        have HB := Lib.hid hB
        clear hr hd hL hL2 hq hB
        go_wp2_with fail
        refine Hc.out.mono ?_
        rintro e w2 ⟨rfl, hb2⟩
        go_wp2
        go_roundw
        case rel => exact ⟨j + 1, q, by omega, by go_num, rfl, by omega, hlm2, HL2, HB.out.ext hb2, ext_trans hb hb2⟩
        case measure => simp [intOf]; omega
      · have hm0' : m < 0 := by omega
        have HE : Hid (leftL ks (n - 1) = m) := Lib.hid (by rw [hL.out, hd]; simp only [leftL]; rw [if_neg hm0])
        clear hd hL hm0
        go_wp2
        go_ret
        exact ⟨by rw [HE.out]; rfl, hb⟩
    · obtain rfl : j = ks.length := by omega
      have HE : Hid (leftL ks (n - 1) = m) := Lib.hid (by rw [hL.out, List.drop_length]; rfl)
      clear hL
      go_wp2
      go_ret
      exact ⟨by rw [HE.out]; rfl, hb⟩

/-- too large to be asked -/
def heavyE (x : Ex) : Bool := decide (leftE x 150 < 0) || decide (1200 < (weightE x : Int))
theorem heavyE_nodes {x : Ex} (h : heavyE x = false) : nodesE x ≤ 150 := by
  unfold heavyE at h
  rw [Bool.or_eq_false_iff] at h
  have h1 := of_decide_eq_false h.1
  have h2 := (leftE_nodes x 150).2 (by omega)
  omega
set_option maxHeartbeats 4000000 in
theorem heavy7_any (S : Nat → Prop) (x : Ex) (cs : List Value) (w : World) (hr : ReR S w x cs) :
    Calls Tryd.prog 4 #[reV cs] w fun e w' => e = .returned (.bool (heavyE x)) ∧ Below w.heap.size w w' := by
  obtain ⟨k, q0, q1, q2, q3, ks, B, d, lo, hi, -, rfl, h1, h2, -, -, -, -, -⟩ := hr.fields
  unfold maxLen at h2
  have hB := Blk.new w 27 #[.int .i64 k, .int .u64 (q0 : Int), .int .u64 (q1 : Int), .int .u64 (q2 : Int), .int .u64 (q3 : Int), .slice B ks.length d, .int .i64 lo, .int .i64 hi]
  have hb1 : Below w.heap.size w (w.alloc (Obj.cells #[.int .i64 k, .int .u64 (q0 : Int), .int .u64 (q1 : Int), .int .u64 (q2 : Int), .int .u64 (q3 : Int), .slice B ks.length d, .int .i64 lo, .int .i64 hi] 27)) := (Below.refl _ _).alloc (Nat.le_refl _) _
  have HW := Lib.hid (weight7_any S x _ _ 150 (hr.ext hb1) (by omega) (by omega))
  have Hr1 := Lib.hid (hr.ext hb1)
  have Hb1 := Lib.hid hb1
  have HB := Lib.hid hB
  have hn := leftE_nodes x 150
  have hlow := leftE_low x 150 (by omega)
  have hex : heavyE x = (decide (leftE x 150 < 0) || decide (1200 < (weightE x : Int))) := rfl
  obtain ⟨q, hq⟩ : ∃ q, leftE x 150 = q := ⟨_, rfl⟩
  rw [hq] at HW hn hlow hex
  have hq2 : q ≤ 150 := hn.1
  have Hn := Lib.hid hn.2
  obtain ⟨t, hte⟩ : ∃ t, heavyE x = t := ⟨_, rfl⟩
  rw [hte] at hex ⊢
  clear hr hb1 hB hn hq hte
  show Calls Tryd.prog 4 #[.agg #[.int .i64 k, .int .u64 (q0 : Int), .int .u64 (q1 : Int), .int .u64 (q2 : Int), .int .u64 (q3 : Int), .slice B ks.length d, .int .i64 lo, .int .i64 hi]] w _
  have Hex := Lib.hid hex
  clear hex
  go_enter Tryd.func4, Tryd.ntmps4
  go_wp2_with fail
  refine HW.out.mono ?_
  rintro e w2 ⟨rfl, hb2⟩
  by_cases h0 : q < 0
  · go_wp2
    go_ret
    exact ⟨by rw [Hex.out, decide_eq_true h0]; rfl, ext_trans Hb1.out hb2⟩
  · have hnn : nodesE x ≤ 150 := by have := Hn.out (by omega); omega
    have hwl := weightE_le x
    have HG := Lib.hid (rweight_any S x _ w2 (Hr1.out.ext hb2) (by omega))
    have HB2 := Lib.hid (HB.out.ext hb2)
    have Hb2 := Lib.hid (ext_trans Hb1.out hb2)
    obtain ⟨z, hz⟩ : ∃ z, weightE x = z := ⟨_, rfl⟩
    have Hex2 : Hid (t = decide (1200 < (z : Int))) := Lib.hid (by rw [Hex.out, decide_eq_false h0, hz]; rfl)
    rw [hz] at HG hwl
    have Hwl := Lib.hid hwl
    clear hz hb2 hwl Hex HB Hn HW
    have c0 := HB2.out.cell 0
    have c1 := HB2.out.cell 1
    have c2 := HB2.out.cell 2
    have c3 := HB2.out.cell 3
    have c4 := HB2.out.cell 4
    have c5 := HB2.out.cell 5
    have c6 := HB2.out.cell 6
    have c7 := HB2.out.cell 7
    go_wp2_with fail
    refine HG.out.mono ?_
    rintro e w3 ⟨rfl, hb3⟩
    go_wp2
    go_ret
    exact ⟨ret_bool (by rw [Hex2.out, show decide (q < 0) = false from decide_eq_false (by omega), Bool.false_or]), ext_trans Hb2.out hb3⟩
end Go.Proofs.YtlddmjhpemihgaaDoor

/-
  LangTimes, its walk: so and so often, or some more. No statement of the seat is proved here (LangTimes closes it).
-/
namespace Go.Proofs.YtlddmjhpemihgaaDoor
open Go Go.ChangeShapes Go.WideShapes Go.ChangeAt Go.RowKit
set_option maxRecDepth 100000
theorem inSeq_one (x : Ex) (u : List Nat) : inSeq [x] u ↔ inE x u := by
  simp only [inSeq]
  constructor
  · rintro ⟨a, b, rfl, h, rfl⟩; rwa [List.append_nil]
  · intro h; exact ⟨u, [], by rw [List.append_nil], h, rfl⟩
theorem inSeq_app : ∀ (l r : List Ex) (u : List Nat), inSeq (l ++ r) u ↔ ∃ a b, u = a ++ b ∧ inSeq l a ∧ inSeq r b
  | [], r, u => by
    simp only [List.nil_append, inSeq]
    constructor
    · intro h; exact ⟨[], u, rfl, rfl, h⟩
    · rintro ⟨a, b, rfl, rfl, h⟩; exact h
  | x :: l, r, u => by
    simp only [List.cons_append, inSeq]
    constructor
    · rintro ⟨a, b, rfl, ha, hb⟩
      obtain ⟨c, e, rfl, hc, he⟩ := (inSeq_app l r b).1 hb
      exact ⟨a ++ c, e, by rw [List.append_assoc], ⟨a, c, rfl, ha, hc⟩, he⟩
    · rintro ⟨a, b, rfl, ⟨c, e, rfl, hc, he⟩, hb⟩
      exact ⟨c, e ++ b, by rw [List.append_assoc], hc, (inSeq_app l r _).2 ⟨e, b, rfl, he, hb⟩⟩
end Go.Proofs.YtlddmjhpemihgaaDoor

/-
  LangMeans' mathematics: one behind the other, either, as often as one likes, by where a text is cut. No statement of the seat is proved here.
-/
namespace Go.Proofs.YtlddmjhpemihgaaDoor
open Go Go.ChangeShapes Go.WideShapes Go.ChangeAt Go.RowKit
set_option maxRecDepth 100000
def pairE (a b : Ex) : Ex := .mk 2 zeroB [a, b] 0 0
def eitherE (a b : Ex) : Ex := .mk 3 zeroB [a, b] 0 0
def starE (a : Ex) : Ex := .mk 4 zeroB [a] 0 (-1)
theorem inE_pair (a b : Ex) (u : List Nat) : inE (pairE a b) u ↔ ∃ i, i ≤ u.length ∧ inE a (u.take i) ∧ inE b (u.drop i) := by
  have h1 : inE (pairE a b) u ↔ inSeq ([a] ++ [b]) u := by
    show inE (.mk 2 zeroB [a, b] 0 0) u ↔ _
    simp only [inE]
    rw [if_neg (by decide), if_neg (by decide), if_pos trivial]; rfl
  rw [h1, inSeq_app]
  constructor
  · rintro ⟨x, y, rfl, hx, hy⟩
    rw [inSeq_one] at hx hy
    exact ⟨x.length, by simp, by rw [List.take_left]; exact hx, by rw [List.drop_left]; exact hy⟩
  · rintro ⟨i, -, hx, hy⟩
    exact ⟨u.take i, u.drop i, (List.take_append_drop i u).symm, (inSeq_one a _).2 hx, (inSeq_one b _).2 hy⟩
theorem inE_either (a b : Ex) (u : List Nat) : inE (eitherE a b) u ↔ inE a u ∨ inE b u := by
  show inE (.mk 3 zeroB [a, b] 0 0) u ↔ _
  simp only [inE, inAlt]
  rw [if_neg (by decide), if_neg (by decide), if_neg (by decide), if_pos trivial]
  simp
theorem inE_star (a : Ex) (u : List Nat) : inE (starE a) u ↔ ∃ n, powL (inE a) n u := by
  show inE (.mk 4 zeroB [a] 0 (-1)) u ↔ _
  simp only [inE, inRep]
  rw [if_neg (by decide), if_neg (by decide), if_neg (by decide), if_neg (by decide)]
  constructor
  · rintro ⟨n, _, _, h⟩; exact ⟨n, h⟩
  · rintro ⟨n, h⟩; exact ⟨n, by omega, .inl (by trivial), h⟩
theorem pow_front (a : Ex) : ∀ (n : Nat) (u : List Nat), powL (inE a) n u → u = [] ∨ ∃ i, 0 < i ∧ i ≤ u.length ∧ inE a (u.take i) ∧ inE (starE a) (u.drop i)
  | 0, u, h => .inl h
  | n + 1, u, h => by
    simp only [powL] at h
    obtain ⟨x, y, rfl, hx, hy⟩ := h
    by_cases h0 : x = []
    · subst h0
      exact pow_front a n y hy
    · refine .inr ⟨x.length, List.length_pos_iff.2 h0, by simp, by rw [List.take_left]; exact hx, by rw [List.drop_left]; exact (inE_star a y).2 ⟨n, hy⟩⟩
theorem inE_star_cut (a : Ex) (u : List Nat) : inE (starE a) u ↔ u = [] ∨ ∃ i, 0 < i ∧ i ≤ u.length ∧ inE a (u.take i) ∧ inE (starE a) (u.drop i) := by
  constructor
  · intro h
    obtain ⟨n, h⟩ := (inE_star a u).1 h
    exact pow_front a n u h
  · rintro (rfl | ⟨i, -, -, hx, hy⟩)
    · exact (inE_star a _).2 ⟨0, rfl⟩
    · obtain ⟨n, hn⟩ := (inE_star a _).1 hy
      exact (inE_star a u).2 ⟨n + 1, u.take i, u.drop i, (List.take_append_drop i u).symm, hx, hn⟩
noncomputable def cutB (a b : Ex) (s : List Nat) (j : Nat) : Bool := @decide (∃ i, i < j ∧ matchE a (s.take i) = true ∧ matchE b (s.drop i) = true) (Classical.propDecidable _)
noncomputable def starB (a : Ex) (s : List Nat) (j : Nat) : Bool := @decide (s = [] ∨ ∃ i, 0 < i ∧ i < j ∧ matchE a (s.take i) = true ∧ matchE (starE a) (s.drop i) = true) (Classical.propDecidable _)
theorem cutB_iff (a b : Ex) (s : List Nat) (j : Nat) : cutB a b s j = true ↔ ∃ i, i < j ∧ matchE a (s.take i) = true ∧ matchE b (s.drop i) = true := by unfold cutB; simp
theorem starB_iff (a : Ex) (s : List Nat) (j : Nat) : starB a s j = true ↔ (s = [] ∨ ∃ i, 0 < i ∧ i < j ∧ matchE a (s.take i) = true ∧ matchE (starE a) (s.drop i) = true) := by unfold starB; simp
theorem cutB_zero (a b : Ex) (s : List Nat) : cutB a b s 0 = false := by
  rw [Bool.eq_false_iff]
  intro h
  obtain ⟨i, h1, _⟩ := (cutB_iff a b s 0).1 h
  omega
theorem starB_zero (a : Ex) (s : List Nat) : starB a s 0 = decide ([] = s) := by
  rw [Bool.eq_iff_iff, starB_iff, decide_eq_true_iff]
  constructor
  · rintro (h | ⟨i, _, h2, _⟩)
    · exact h.symm
    · omega
  · intro h; exact .inl h.symm
theorem cutB_succ (a b : Ex) (s : List Nat) (j : Nat) : cutB a b s (j + 1) = (cutB a b s j || (matchE a (s.take j) && matchE b (s.drop j))) := by
  rw [Bool.eq_iff_iff, cutB_iff, Bool.or_eq_true, Bool.and_eq_true, cutB_iff]
  constructor
  · rintro ⟨i, h1, h2, h3⟩
    by_cases h : i < j
    · exact .inl ⟨i, h, h2, h3⟩
    · obtain rfl : i = j := by omega
      exact .inr ⟨h2, h3⟩
  · rintro (⟨i, h1, h2, h3⟩ | ⟨h2, h3⟩)
    · exact ⟨i, by omega, h2, h3⟩
    · exact ⟨j, by omega, h2, h3⟩
theorem starB_succ (a : Ex) (s : List Nat) (j : Nat) : starB a s (j + 1) = (starB a s j || ((decide (0 < j) && matchE a (s.take j)) && matchE (starE a) (s.drop j))) := by
  rw [Bool.eq_iff_iff, starB_iff, Bool.or_eq_true, Bool.and_eq_true, Bool.and_eq_true, starB_iff, decide_eq_true_iff]
  constructor
  · rintro (h | ⟨i, h0, h1, h2, h3⟩)
    · exact .inl (.inl h)
    · by_cases h : i < j
      · exact .inl (.inr ⟨i, h0, h, h2, h3⟩)
      · obtain rfl : i = j := by omega
        exact .inr ⟨⟨h0, h2⟩, h3⟩
  · rintro ((h | ⟨i, h0, h1, h2, h3⟩) | ⟨⟨h0, h2⟩, h3⟩)
    · exact .inl h
    · exact .inr ⟨i, h0, by omega, h2, h3⟩
    · exact .inr ⟨j, h0, by omega, h2, h3⟩
theorem cutB_all (a b : Ex) (s : List Nat) (ha : isE a = true) (hb : isE b = true) (hp : isE (pairE a b) = true) : matchE (pairE a b) s = cutB a b s (s.length + 1) := by
  rw [Bool.eq_iff_iff, matchE_iff, cutB_iff, inE_pair]
  constructor
  · rintro ⟨-, i, h1, h2, h3⟩
    exact ⟨i, by omega, (matchE_iff _ _).2 ⟨ha, h2⟩, (matchE_iff _ _).2 ⟨hb, h3⟩⟩
  · rintro ⟨i, h1, h2, h3⟩
    exact ⟨hp, i, by omega, ((matchE_iff _ _).1 h2).2, ((matchE_iff _ _).1 h3).2⟩
theorem starB_all (a : Ex) (s : List Nat) (ha : isE a = true) (hp : isE (starE a) = true) : matchE (starE a) s = starB a s (s.length + 1) := by
  rw [Bool.eq_iff_iff, matchE_iff, starB_iff, inE_star_cut]
  constructor
  · rintro ⟨-, h | ⟨i, h0, h1, h2, h3⟩⟩
    · exact .inl h
    · exact .inr ⟨i, h0, by omega, (matchE_iff _ _).2 ⟨ha, h2⟩, (matchE_iff _ _).2 ⟨hp, h3⟩⟩
  · rintro (h | ⟨i, h0, h1, h2, h3⟩)
    · exact ⟨hp, .inl h⟩
    · exact ⟨hp, .inr ⟨i, h0, by omega, ((matchE_iff _ _).1 h2).2, ((matchE_iff _ _).1 h3).2⟩⟩
theorem either_all (a b : Ex) (s : List Nat) (ha : isE a = true) (hb : isE b = true) (hp : isE (eitherE a b) = true) : matchE (eitherE a b) s = (matchE a s || matchE b s) := by
  rw [Bool.eq_iff_iff, matchE_iff, Bool.or_eq_true, matchE_iff, matchE_iff, inE_either]
  constructor
  · rintro ⟨-, h | h⟩
    · exact .inl ⟨ha, h⟩
    · exact .inr ⟨hb, h⟩
  · rintro (h | h)
    · exact ⟨hp, .inl h.2⟩
    · exact ⟨hp, .inr h.2⟩
theorem natsOf_take (s : ByteArray) (i : Nat) : natsOf (s.extract 0 i) = (natsOf s).take i := by
  unfold natsOf
  rw [ByteArray.data_extract, Array.toList_extract, ← List.map_take]
  simp [List.extract]
theorem natsOf_drop (s : ByteArray) (i : Nat) : natsOf (s.extract i s.size) = (natsOf s).drop i := by
  unfold natsOf
  rw [ByteArray.data_extract, Array.toList_extract, ← List.map_drop]
  congr 1
  simp only [List.extract]
  exact List.take_of_length_le (by rw [List.length_drop, Array.length_toList]; exact Nat.le_refl _)
theorem RowE.two {S : Nat → Prop} (w : World) {x y : Ex} {cs ds : List Value} (hx : ReR S w x cs) (hy : ReR S w y ds) : RowE S (w.alloc (Obj.cells (cs ++ ds).toArray 27)) (some ⟨w.heap.size, 0, none⟩) 2 2 [x, y] := by
  have h8 := hx.size
  have h9 := hy.size
  refine ⟨cs ++ ds, RowO.lit w 27 8 2 (cs ++ ds).toArray (by simp [h8, h9]) (by simp [maxLen]) rfl, rfl, fun k hk => ?_⟩
  have hk2 : k = 0 ∨ k = 1 := by simp at hk; omega
  rcases hk2 with rfl | rfl
  · rw [Nat.zero_mul, List.drop_zero, List.take_append_of_le_length (by omega), List.take_of_length_le (by omega)]
    exact ReR.keep (fun g _ hl => Below.heap_alloc w _ g hl) (fun g hg hl => ⟨hg, fun hin => by rw [inA_some] at hin; omega⟩) _ hx
  · rw [show 1 * 8 = cs.length by omega, List.drop_left, List.take_of_length_le (by omega)]
    exact ReR.keep (fun g _ hl => Below.heap_alloc w _ g hl) (fun g hg hl => ⟨hg, fun hin => by rw [inA_some] at hin; omega⟩) _ hy
end Go.Proofs.YtlddmjhpemihgaaDoor
