/-
  Texts of this claim, joined (part 7): contracts and lemmas that the last text goes by. No statement of the seat is proved here.
-/
import Derived.Test.YthceajadgjnnmaaAll6
import Derived.Laws.Cover1
set_option linter.unusedVariables false
set_option linter.unusedSimpArgs false
/-
  The laws of dict: helpers and walks. No statement of the seat is proved here.
-/
namespace Go.Proofs.Ythceajadgjnnmaa
open Go Go.RowKit
set_option maxRecDepth 100000

def SaysEqD (b : Bool) (w : World) (e : Ending) (w' : World) : Prop := e = .returned (.bool b) ∧ Below w.heap.size w w'
set_option maxRecDepth 100000 in
set_option maxHeartbeats 2000000 in
theorem textsD_any {w : World} (A : Option Addr) (c : Nat) (xs : List (List UInt8)) (hA : Rd w A (xs.map strV)) (B : Option Addr) (d : Nat) (ys : List (List UInt8)) (hB : Rd w B (ys.map strV)) (h1 : xs.length ≤ 1000000) (h2 : ys.length ≤ 1000000) :
    Calls Try.prog 28 #[.slice A xs.length c, .slice B ys.length d] w (SaysEqD (decide (xs = ys)) w) := by
  by_cases hl : xs.length = ys.length
  · have hli : (xs.length : Int) = (ys.length : Int) := by omega
    rw [← hl]
    have Hl := Lib.hid hl
    have hn : (xs.length : Int) ≤ 1000000 := by omega
    clear hl hli h2
    go_enter Try.func28, Try.ntmps28
    go_wp2
    go_loopw [5] (fun i wr => ∃ k : Nat, k ≤ xs.length ∧ i = .int .i64 (k : Int) ∧ xs.take k = ys.take k ∧ Below w.heap.size w wr) (fun i _ => xs.length - (intOf i).toNat)
    case atStart => exact ⟨0, Nat.zero_le _, rfl, by simp, Below.refl _ _⟩
    case round =>
      obtain ⟨k, hk, rfl, heq, hb⟩ := hrel
      have Heq := Lib.hid heq
      clear heq
      by_cases hlt : k < xs.length
      · have hlt2 : k < ys.length := by have := Hl.out; omega
        have hki : (k : Int) < (xs.length : Int) := by omega
        obtain ⟨ad, rfl, q1⟩ := rd_str (hA.ext hb) hlt
        obtain ⟨ad2, rfl, q2⟩ := rd_str (hB.ext hb) hlt2
        obtain ⟨Y, Z, e1, e2, hc⟩ := str_cases xs[k] ys[k]
        rw [e1] at q1
        rw [e2] at q2
        clear e1 e2
        have hk2 : (k : Int) < (ys.length : Int) := by omega
        rcases hc with ⟨he, rfl⟩ | ⟨hne, hf⟩
        · have He := Lib.hid he
          clear he
          go_wp2_with fail
          go_quiet (fail)
          go_wp2
          go_roundw
          case rel => exact ⟨k + 1, by omega, by go_num, by rw [List.take_succ_eq_append_getElem hlt, List.take_succ_eq_append_getElem hlt2, Heq.out, He.out], ext_drewN hb _⟩
          case measure => simp [intOf]; omega
        · have hd : decide (xs = ys) = false := decide_eq_false (fun h => hne (by simp only [h]))
          have Hd := Lib.hid hd
          clear hne hd
          go_wp2_with fail
          go_quiet (fail)
          go_wp2
          go_ret
          exact ⟨by rw [Hd.out]; rfl, ext_drewN hb _⟩
      · obtain rfl : k = xs.length := by omega
        have hd : decide (xs = ys) = true := decide_eq_true (by
          have h3 := Heq.out
          rw [List.take_length, Hl.out, List.take_length] at h3
          exact h3)
        have Hd := Lib.hid hd
        clear hd
        go_wp2
        go_ret
        exact ⟨by rw [Hd.out]; rfl, hb⟩
  · have hd : decide (xs = ys) = false := decide_eq_false (fun h => hl (by rw [h]))
    have hli : ¬ (xs.length : Int) = (ys.length : Int) := by omega
    rw [hd]
    clear hd
    go_enter Try.func28, Try.ntmps28
    go_wp2
    go_ret
    exact ⟨rfl, Below.refl _ _⟩



theorem texts_same {w : World} (A : Option Addr) (c : Nat) (l : List (List UInt8)) (hA : Rd w A (l.map strV)) (B : Option Addr) (d : Nat) (hB : Rd w B (l.map strV)) (h1 : l.length ≤ 1000000) :
    Calls Try.prog 28 #[.slice A l.length c, .slice B l.length d] w fun e w' => e = .returned (.bool true) ∧ Below w.heap.size w w' := by
  have h := textsD_any A c l hA B d l hB h1 h1
  rw [decide_eq_true rfl] at h
  exact h
set_option maxHeartbeats 4000000 in
theorem longD17_any {w : World} (A : Option Addr) (c : Nat) (l : List (List UInt8)) (hA : Rd w A (l.map strV)) (hl : l.length ≤ maxLen) (hs : ∀ s ∈ l, s.length ≤ 140737488355328) :
    Calls Try.prog 25 #[.slice A l.length c] w fun e w' => e = .returned (.bool (decide (9000 < cntL l))) ∧ w = w' := by
  unfold maxLen at hl
  have hli : (l.length : Int) ≤ 9223372036854775807 := by omega
  have HA := Lib.hid hA
  have Hs := Lib.hid hs
  clear hl hA hs
  go_enter Try.func25, Try.ntmps25
  go_wp2
  go_loop [3, 4] (fun n i => ∃ k : Nat, k ≤ l.length ∧ i = .int .i64 (k : Int) ∧ n = .int .i64 (cntL (l.take k) : Int) ∧ cntL (l.take k) ≤ 9000) (fun _ i => l.length - (intOf i).toNat)
  case atStart => exact ⟨0, Nat.zero_le _, rfl, rfl, by simp [cntL]⟩
  case round =>
    obtain ⟨k, hk, rfl, rfl, hn⟩ := hrel
    by_cases hlt : k < l.length
    · have hki : (k : Int) < (l.length : Int) := by omega
      obtain ⟨ad, hB, hcell⟩ := rd_str HA.out hlt
      subst hB
      have hsl := Hs.out l[k] (List.getElem_mem hlt)
      have hst := Lib.hid (cntL_take l hlt)
      have htot := Lib.hid (cntL_le l (k + 1))
      unfold strV at hcell
      have hz : (⟨l[k].toArray⟩ : ByteArray).size = l[k].length := rfl
      obtain ⟨Z, hZ⟩ : ∃ Z : ByteArray, (⟨l[k].toArray⟩ : ByteArray) = Z := ⟨_, rfl⟩
      rw [hZ] at hcell hz
      obtain ⟨M, hM⟩ : ∃ M, cntL (l.take k) = M := ⟨_, rfl⟩
      rw [hM] at hn hst ⊢
      have hzi : (Z.size : Int) ≤ 140737488355328 := by omega
      have Hz := Lib.hid hz
      clear hZ hz hM hsl
      have f1 : IntKind.i64.wrap ((M : Int) + 1) = (M : Int) + 1 := IntWalk.i64_in _ (by omega)
      have f2 : IntKind.i64.wrap ((M : Int) + 1 + (Z.size : Int)) = (M : Int) + 1 + (Z.size : Int) := IntWalk.i64_in _ (by omega)
      by_cases hbig : 9000 < (M : Int) + 1 + (Z.size : Int)
      · have hd : decide (9000 < cntL l) = true := decide_eq_true (by
          have h2 := htot.out
          have h3 := hst.out
          have h6 := Hz.out
          omega)
        have Hd := Lib.hid hd
        clear hd
        go_wp2
        go_ret
        exact ⟨by rw [Hd.out]; rfl, rfl⟩
      · go_wp2
        go_round
        case rel => exact ⟨k + 1, by omega, by go_num, by rw [hst.out, ← Hz.out]; exact congrArg (Value.int .i64) (by omega), by rw [hst.out, ← Hz.out]; omega⟩
        case measure => simp [intOf]; omega
    · obtain rfl : k = l.length := by omega
      rw [List.take_length] at hn ⊢
      have hd : decide (9000 < cntL l) = false := decide_eq_false (by omega)
      have Hd := Lib.hid hd
      clear hd
      go_wp2
      go_ret
      exact ⟨by rw [Hd.out]; rfl, rfl⟩

theorem words_bab : wordsT [[98], [97], [98]] = [[97], [98]] := by
  refine (wordsT_of ?_ fun x => ?_).symm
  · unfold RisesT
    rw [List.pairwise_cons]
    refine ⟨fun b hb => ?_, List.pairwise_singleton _ _⟩
    rw [List.mem_singleton] at hb
    subst hb
    decide
  · simp
    exact fun h => Or.inr h
set_option maxHeartbeats 2000000 in
theorem known17_any (w : World) : Calls Try.prog 31 #[] w fun e w' => e = .returned (.bool true) ∧ Below w.heap.size w w' := by
  have HW := Lib.hid (fun (g : Nat) (W : World) (hW : Rd W (some ⟨g, 0, none⟩) (([[98], [97], [98]] : List (List UInt8)).map strV)) => words_any (some ⟨g, 0, none⟩) 3 [[98], [97], [98]] hW (by intro h; cases h) (by simp))
  rw [words_bab] at HW
  have HT := Lib.hid (fun (A : Option Addr) (c : Nat) (B : Option Addr) (W : World) (hA : Rd W A (([[97], [98]] : List (List UInt8)).map strV)) (hB : Rd W B (([[97], [98]] : List (List UInt8)).map strV)) => texts_same A c [[97], [98]] hA B 2 hB (by simp))
  have Hr := Lib.hid (Rd.lit w #[.string ⟨#[98]⟩, .string ⟨#[97]⟩, .string ⟨#[98]⟩] 9)
  go_enter Try.func31, Try.ntmps31
  go_wp2_with fail
  refine (HW.out _ _ Hr.out).mono ?_
  rintro e w1 ⟨A1, c1, rfl, hN⟩
  have Hb1 := Lib.hid (ext_trans (ext_alloc (Below.refl _ _) _) hN.bel)
  have Hr1 := Lib.hid hN.rd
  have Hr2 := Lib.hid (Rd.lit w1 #[.string ⟨#[97]⟩, .string ⟨#[98]⟩] 9)
  clear hN HW
  go_wp2_with fail
  refine (HT.out A1 c1 _ _ (Hr1.out.alloc _) Hr2.out).mono ?_
  rintro e w2 ⟨rfl, hb2⟩
  have Hb2 := Lib.hid (ext_trans (ext_alloc Hb1.out _) hb2)
  clear hb2
  go_wp2
  go_ret
  exact ⟨rfl, Hb2.out⟩

/-- how long it can be -/
theorem encD_len {l : List (List UInt8)} (h : mayD l = true) : (encD l).length ≤ 200000000 := by
  obtain ⟨h1, h2⟩ := (mayD_iff l).1 h
  have hw := wordsT_len l
  have hL := rowsTo_lenD (wordsT l) (fun s hs => h2 s (wordsT_mem.1 hs)) (wordsT l).length
  rw [rowsTo_all] at hL
  have hb := rowsB_lenD (bestP (placesT l)) (best_len (places_may h1) (by rw [placesT_len]; omega))
  have hn := dig_nine ((wordsT l).length : Int)
  unfold encD
  rw [List.length_append, List.length_append]
  omega

set_option maxHeartbeats 8000000 in
theorem dict_encodes (A : Option Addr) (n c : Nat) (l : List (List UInt8)) (w : World) (hn : n = l.length) (hA : Rd w A (l.map strV)) (h0 : A = none → c = 0) (hm : n ≤ maxLen) (hs : ∀ s ∈ l, s.length ≤ 140737488355328) :
    Calls Try.prog 8 #[.slice A n c] w fun e w' => e = .returned (.bool true) ∧ Below w.heap.size w w' := by
  subst hn
  unfold maxLen at hm
  have HKn := Lib.hid known17_any
  have HLg := Lib.hid (longD17_any A c l hA (by unfold maxLen; omega) hs)
  have HA := Lib.hid hA
  cases hq : decide (9000 < cntL l) with
  | true =>
    rw [hq] at HLg
    clear hA hs hq
    go_enter Try.func8, Try.ntmps8
    go_wp2_with fail
    refine HLg.out.mono ?_
    rintro e w' ⟨rfl, rfl⟩
    go_wp2
    go_ret
    exact ⟨rfl, Below.refl _ _⟩
  | false =>
    rw [hq] at HLg
    have hcl : cntL l ≤ 9000 := by have := of_decide_eq_false hq; omega
    have hln : l.length ≤ 9000 := Nat.le_trans (cntL_len l) hcl
    have hse : ∀ s ∈ l, s.length ≤ 9000 := fun s hs => Nat.le_trans (cntL_mem hs) hcl
    have Hln := Lib.hid hln
    have Hse := Lib.hid hse
    clear hA hs hq hcl hse
    have HE1 := Lib.hid (fun (W : World) (hb : Below w.heap.size w W) => encodeD_any A c l W (HA.out.ext hb) h0 (by omega) (fun s hs => by have := Hse.out s hs; unfold maxLen; omega))
    have HE2 := Lib.hid (fun (W : World) (hb : Below w.heap.size w W) => rencodeD_any A c l W (HA.out.ext hb) (by omega) (fun s hs => by have := Hse.out s hs; omega))
    have HW1 := Lib.hid (fun (W : World) (hb : Below w.heap.size w W) => words_any A c l (HA.out.ext hb) h0 (by omega))
    have HW2 := Lib.hid (fun (W : World) (hb : Below w.heap.size w W) => rwords_any A c l W (HA.out.ext hb) (by omega))
    have HWl : Hid ((wordsT l).length ≤ 1000000) := Lib.hid (by have := wordsT_len l; omega)
    generalize ansD l = R at *
    obtain ⟨q, er⟩ := R
    simp only at HE1 HE2
    generalize wordsT l = Wd at *
    clear h0 hln
    go_enter Try.func8, Try.ntmps8
    go_wp2_with fail
    refine HLg.out.mono ?_
    rintro e w' ⟨rfl, rfl⟩
    go_wp2_with fail
    refine (HE1.out w (Below.refl _ _)).mono ?_
    rintro e w1 ⟨A1, c1, rfl, hn1, hb1⟩
    have Hb1 := Lib.hid hb1
    have Hr1 := Lib.hid hn1.rd
    clear hn1 hb1
    go_wp2_with fail
    refine (HE2.out w1 Hb1.out).mono ?_
    rintro e w2 ⟨A2, c2, rfl, hn2, hb2⟩
    have hcv1 := conv_bytes w2 A1 q.length c1 q rfl (Hr1.out.ext hb2)
    have hcv2 := conv_bytes w2 A2 q.length c2 q rfl hn2.rd
    obtain ⟨Z, hZ⟩ : ∃ Z : ByteArray, (⟨q.toArray⟩ : ByteArray) = Z := ⟨_, rfl⟩
    rw [hZ] at hcv1 hcv2
    have Hb2 := Lib.hid (ext_trans Hb1.out hb2)
    clear hn2 hb2 hZ
    go_wp2_with fail
    refine (HW1.out w2 Hb2.out).mono ?_
    rintro e w3 ⟨A3, c3, rfl, hN3⟩
    have Hb3 := Lib.hid (ext_trans Hb2.out hN3.bel)
    have Hr3 := Lib.hid hN3.rd
    clear hN3 hcv1 hcv2
    go_wp2_with fail
    refine (HW2.out w3 Hb3.out).mono ?_
    rintro e w4 ⟨A4, c4, rfl, hN4⟩
    have HT := Lib.hid (texts_same A3 c3 Wd (Hr3.out.ext hN4.bel) A4 c4 hN4.rd HWl.out)
    have Hb4 := Lib.hid (ext_trans Hb3.out hN4.bel)
    clear hN4
    go_wp2_with fail
    refine HT.out.mono ?_
    rintro e w5 ⟨rfl, hb5⟩
    have Hb5 := Lib.hid (ext_trans Hb4.out hb5)
    clear hb5
    go_wp2_with fail
    refine (HKn.out w5).mono ?_
    rintro e w6 ⟨rfl, hb6⟩
    have Hb6 := Lib.hid (ext_trans Hb5.out hb6)
    clear hb6
    go_wp2
    go_ret
    exact ⟨rfl, Hb6.out⟩

set_option maxHeartbeats 8000000 in
theorem dict_decodes (A : Option Addr) (n ca : Nat) (p : List UInt8) (w : World) (hn : n = p.length) (hA : Rd w A (p.map bv)) (hc : p.length ≤ ca) (hm : n ≤ maxLen) :
    Calls Try.prog 9 #[.slice A n ca] w fun e w' => e = .returned (.bool true) ∧ Below w.heap.size w w' := by
  subst hn
  unfold maxLen at hm
  by_cases h5 : p.length ≤ 1500
  case neg =>
    have hi : (1500 : Int) < (p.length : Int) := by omega
    clear hA
    go_enter Try.func9, Try.ntmps9
    go_wp2
    go_ret
    exact ⟨rfl, Below.refl _ _⟩
  have hni : ¬ (1500 : Int) < (p.length : Int) := by omega
  have HD := Lib.hid (fun (A1 : Option Addr) (c1 : Nat) (W : World) (hW : Rd W A1 (p.map bv)) (hc : p.length ≤ c1) => decodeD_any p A1 c1 W hW hc (by omega))
  have HE := Lib.hid (fun (W : World) (hb : Below w.heap.size w W) => rdecodeD_any p A ca W (hA.ext hb) hc (by omega))
  have Hl : Hid ((decD p).1.length ≤ 1000000) := Lib.hid (by have := ((mayD_iff _).1 (decD_may (p := p))).1; omega)
  have HKn := Lib.hid known17_any
  have HA := Lib.hid hA
  have Hc := Lib.hid hc
  have hk1 : 0 + p.length ≤ maxLen := by unfold maxLen; omega
  have hk2 : (0 + p.length) * 1 ≤ 140737488355328 := by omega
  generalize decD p = R at *
  obtain ⟨r, er⟩ := R
  simp only at HD HE Hl
  clear hA
  go_enter Try.func9, Try.ntmps9
  go_wp2_with (at_builtin
               refine wpList_app _ rfl (.tmp 11) (.tmp 12) _ rfl _ _ 1 Try.underlying23 info_u8 rfl (some ⟨w.heap.size, 0, none⟩) 0 0 [] rfl rfl (Own.lit w (fun k => w.heap.size ≤ k) #[] _ (by simp) (Nat.le_refl _)) A p.length ca (p.map bv) rfl (by rw [List.length_map]) (HA.out.alloc _) (bvs_one _) hk1 hk2 ?_
               intro A1 c1 w1 hown1 honly1
               have Hown1 := Lib.hid hown1
               have Hb1 : Hid (Below w.heap.size w w1) := Lib.hid (((Below.refl _ _).alloc (Nat.le_refl _) _).trans (honly1.below (fun i hi => hi) (by simp)))
               clear hown1 honly1)
  refine (HD.out A1 c1 w1 (by have := Hown1.out.rd; simpa using this) (by have := Hown1.out.cap; simpa using this)).mono ?_
  rintro e w2 ⟨B2, c2, rfl, hr2, hb2⟩
  have Hb2 := Lib.hid (ext_trans Hb1.out hb2)
  have Hr2 := Lib.hid hr2.rd
  clear hr2 hb2
  go_wp2_with fail
  refine (HE.out w2 Hb2.out).mono ?_
  rintro e w3 ⟨B3, c3, rfl, hr3, hb3⟩
  have Hb3 := Lib.hid (ext_trans Hb2.out hb3)
  have HN := Lib.hid (texts_same B2 c2 r (Hr2.out.ext hb3) B3 c3 hr3.rd Hl.out)
  clear hr3 hb3
  go_wp2_with fail
  refine HN.out.mono ?_
  rintro e w4 ⟨rfl, hb4⟩
  have Hb4 := Lib.hid (ext_trans Hb3.out hb4)
  clear hb4
  go_wp2_with fail
  refine (HKn.out w4).mono ?_
  rintro e w5 ⟨rfl, hb⟩
  have Hb5 := Lib.hid (ext_trans Hb4.out hb)
  clear hb
  go_wp2
  go_ret
  exact ⟨rfl, Hb5.out⟩

set_option maxHeartbeats 8000000 in
theorem dict_back (A : Option Addr) (n c : Nat) (l : List (List UInt8)) (w : World) (hn : n = l.length) (hA : Rd w A (l.map strV)) (h0 : A = none → c = 0) (hm : n ≤ maxLen) (hs : ∀ s ∈ l, s.length ≤ 140737488355328) :
    Calls Try.prog 10 #[.slice A n c] w fun e w' => e = .returned (.bool true) ∧ Below w.heap.size w w' := by
  subst hn
  unfold maxLen at hm
  have HKn := Lib.hid known17_any
  have HLg := Lib.hid (longD17_any A c l hA (by unfold maxLen; omega) hs)
  have HA := Lib.hid hA
  cases hq : decide (9000 < cntL l) with
  | true =>
    rw [hq] at HLg
    clear hA hs hq
    go_enter Try.func10, Try.ntmps10
    go_wp2_with fail
    refine HLg.out.mono ?_
    rintro e w' ⟨rfl, rfl⟩
    go_wp2
    go_ret
    exact ⟨rfl, Below.refl _ _⟩
  | false =>
    rw [hq] at HLg
    have hcl : cntL l ≤ 9000 := by have := of_decide_eq_false hq; omega
    have hln : l.length ≤ 9000 := Nat.le_trans (cntL_len l) hcl
    have hse : ∀ s ∈ l, s.length ≤ 9000 := fun s hs => Nat.le_trans (cntL_mem hs) hcl
    have Hln := Lib.hid hln
    have Hse := Lib.hid hse
    clear hA hs hq hcl hse
    have hli : (l.length : Int) ≤ 9000 := by omega
    have HYes : Hid ((∀ (k : Nat) (hk : k < l.length), longT l[k] = false) → mayD l = true) := Lib.hid (fun h => by
      unfold mayD
      rw [show l.any longT = false by
        rw [List.any_eq_false]
        intro s hs
        obtain ⟨j, hj, rfl⟩ := List.mem_iff_getElem.1 hs
        simp [h j hj], decide_eq_true (by omega)]
      rfl)
    have H0 := Lib.hid h0
    clear h0 hln
    go_enter Try.func10, Try.ntmps10
    go_wp2_with fail
    refine HLg.out.mono ?_
    rintro e w' ⟨rfl, rfl⟩
    go_wp2
    go_loop [3] (fun i => ∃ k : Nat, k ≤ l.length ∧ i = .int .i64 (k : Int) ∧ Hid (∀ (j : Nat) (hj : j < l.length), j < k → longT l[j] = false)) (fun i => l.length - (intOf i).toNat)
    case atStart => exact ⟨0, Nat.zero_le _, rfl, Lib.hid (fun j _ h => absurd h (by omega))⟩
    case round =>
      obtain ⟨k, hk, rfl, Hno⟩ := hrel
      by_cases hlt : k < l.length
      · have hki : (k : Int) < (l.length : Int) := by omega
        obtain ⟨ad, hB, hcell⟩ := rd_str HA.out hlt
        subst hB
        have hsl := Hse.out _ (List.getElem_mem hlt)
        have HF : Hid (longT l[k] = false → ∀ (j : Nat) (hj : j < l.length), j < k + 1 → longT l[j] = false) := Lib.hid (fun h j hj hj2 => by
          rcases Nat.lt_succ_iff_lt_or_eq.1 hj2 with h3 | rfl
          · exact Hno.out j hj h3
          · exact h)
        have hlg : longT l[k] = decide (4096 < l[k].length) := rfl
        generalize l[k] = s at *
        have hsz : (⟨s.toArray⟩ : ByteArray).size = s.length := rfl
        unfold strV at hcell
        obtain ⟨Z, hZ⟩ : ∃ Z : ByteArray, (⟨s.toArray⟩ : ByteArray) = Z := ⟨_, rfl⟩
        rw [hZ] at hcell hsz
        have hzj : (Z.size : Int) ≤ 9000 := by omega
        by_cases hx : 4096 < s.length
        · have hzi : (4096 : Int) < (Z.size : Int) := by omega
          clear hZ hsz hlg HF hx
          go_wp2_with fail
          refine (HKn.out w).mono ?_
          rintro e w6 ⟨rfl, hb6⟩
          have Hb6 := Lib.hid hb6
          clear hb6
          go_wp2
          go_ret
          exact ⟨rfl, Hb6.out⟩
        · have hzi : ¬ (4096 : Int) < (Z.size : Int) := by omega
          have Hf := Lib.hid (HF.out (by rw [hlg]; exact decide_eq_false hx))
          clear hZ hsz hlg HF hx
          go_wp2
          go_round
          case rel => exact ⟨k + 1, by omega, by go_num, Hf⟩
          case measure => simp [intOf]; omega
      · obtain rfl : k = l.length := by omega
        have hmy := HYes.out (fun j hj => Hno.out j hj hj)
        have HE := Lib.hid (encodeD_any A c l w HA.out H0.out (by omega) (fun s hs => by have := Hse.out s hs; unfold maxLen; omega))
        have hans : ansD l = (encD l, 0) := by unfold ansD; rw [if_pos hmy]
        rw [hans] at HE
        have HD := Lib.hid (fun (A1 : Option Addr) (c1 : Nat) (W : World) (hW : Rd W A1 ((encD l).map bv)) (hc : (encD l).length ≤ c1) (hl : (encD l).length ≤ 200000000) => decodeD_any (encD l) A1 c1 W hW hc hl)
        rw [dec_encD hmy] at HD
        have Hel := Lib.hid (encD_len hmy)
        generalize encD l = q at *
        simp only at HE HD
        clear hmy hans Hno
        go_wp2_with fail
        refine HE.out.mono ?_
        rintro e w1 ⟨A1, c1, rfl, hn1, hb1⟩
        have HD1 := Lib.hid (HD.out A1 c1 w1 hn1.rd (by have := Own.cap hn1; simpa using this) Hel.out)
        have Hb1 := Lib.hid hb1
        clear hn1 hb1 HD
        go_wp2_with fail
        refine HD1.out.mono ?_
        rintro e w2 ⟨A2, c2, rfl, hx2, hb2⟩
        have Hb2 := Lib.hid (ext_trans Hb1.out hb2)
        have HT := Lib.hid (texts_same A c l (HA.out.ext Hb2.out) A2 c2 hx2.rd (by omega))
        clear hx2 hb2
        go_wp2_with fail
        refine HT.out.mono ?_
        rintro e w5 ⟨rfl, hb5⟩
        have Hb5 := Lib.hid (ext_trans Hb2.out hb5)
        clear hb5
        go_wp2_with fail
        refine (HKn.out w5).mono ?_
        rintro e w6 ⟨rfl, hb6⟩
        have Hb6 := Lib.hid (ext_trans Hb5.out hb6)
        clear hb6
        go_wp2
        go_ret
        exact ⟨rfl, Hb6.out⟩
end Go.Proofs.Ythceajadgjnnmaa

/-
  The laws of dict: Words, Many. No statement of the seat is proved here.
-/
namespace Go.Proofs.Ythceajadgjnnmaa
open Go Go.RowKit
set_option maxRecDepth 100000

/-- whether a text is among the first so many -/
def FoundD (W : List (List UInt8)) (s : List UInt8) (m : Nat) (v : Bool) : Prop := v = true ↔ ∃ t, ∃ ht : t < W.length, t < m ∧ W[t] = s
theorem found_zero (W : List (List UInt8)) (s : List UInt8) : FoundD W s 0 false := by simp [FoundD]
set_option maxHeartbeats 8000000 in
theorem dict_words (A : Option Addr) (n c : Nat) (l : List (List UInt8)) (w : World) (hn : n = l.length) (hA : Rd w A (l.map strV)) (h0 : A = none → c = 0) (hm : n ≤ maxLen) (hs : ∀ s ∈ l, s.length ≤ 140737488355328) :
    Calls Try.prog 11 #[.slice A n c] w fun e w' => e = .returned (.bool true) ∧ Below w.heap.size w w' := by
  subst hn
  unfold maxLen at hm
  have HKn := Lib.hid known17_any
  have HLg := Lib.hid (longD17_any A c l hA (by unfold maxLen; omega) hs)
  have HA := Lib.hid hA
  cases hq : decide (9000 < cntL l) with
  | true =>
    rw [hq] at HLg
    clear hA hs hq
    go_enter Try.func11, Try.ntmps11
    go_wp2_with fail
    refine HLg.out.mono ?_
    rintro e w' ⟨rfl, rfl⟩
    go_wp2
    go_ret
    exact ⟨rfl, Below.refl _ _⟩
  | false =>
    rw [hq] at HLg
    have hcl : cntL l ≤ 9000 := by have := of_decide_eq_false hq; omega
    have hln : l.length ≤ 9000 := Nat.le_trans (cntL_len l) hcl
    have hse : ∀ s ∈ l, s.length ≤ 9000 := fun s hs => Nat.le_trans (cntL_mem hs) hcl
    have Hln := Lib.hid hln
    have Hse := Lib.hid hse
    clear hA hs hq hcl hse
    have hli : (l.length : Int) ≤ 9000 := by omega
    have HW1 := Lib.hid (fun (W : World) (hb : Below w.heap.size w W) => words_any A c l (HA.out.ext hb) h0 (by omega))
    have HW2 := Lib.hid (fun (B : Option Addr) (d : Nat) (W : World) (hB : Rd W B ((wordsT l).map strV)) (h0 : B = none → d = 0) => words_any B d (wordsT l) hB h0 (by have := wordsT_len l; omega))
    rw [wordsT_again] at HW2
    have HWl : Hid ((wordsT l).length ≤ l.length) := Lib.hid (wordsT_len l)
    have HRi : Hid (∀ i j (hi : i < (wordsT l).length) (hj : j < (wordsT l).length), i < j → (wordsT l)[i] < (wordsT l)[j]) := Lib.hid (fun i j hi hj hij => List.pairwise_iff_getElem.1 (wordsT_rises l) i j hi hj hij)
    have HIn : Hid (∀ k (hk : k < l.length), ∃ j, ∃ hj : j < (wordsT l).length, (wordsT l)[j] = l[k]) := Lib.hid (fun k hk => by
      obtain ⟨j, hj, e⟩ := List.mem_iff_getElem.1 (wordsT_mem.2 (List.getElem_mem hk))
      exact ⟨j, hj, e⟩)
    generalize wordsT l = Wd at *
    have hwi : (Wd.length : Int) ≤ 9000 := by have := HWl.out; omega
    have hwl : (Wd.length : Int) ≤ (l.length : Int) := by have := HWl.out; omega
    have hwln : Wd.length ≤ l.length := HWl.out
    clear h0 hln
    go_enter Try.func11, Try.ntmps11
    go_wp2_with fail
    refine HLg.out.mono ?_
    rintro e w' ⟨rfl, rfl⟩
    go_wp2_with fail
    refine (HW1.out w (Below.refl _ _)).mono ?_
    rintro e w1 ⟨A1, c1, rfl, hN1⟩
    have Hb1 := Lib.hid hN1.bel
    have Hr1 := Lib.hid hN1.rd
    have Hn1 : Hid (A1 = none → c1 = 0) := Lib.hid (fun e => by
      rcases hN1.row.2 with ⟨_, _, h⟩ | ⟨_, _, _, h, _⟩
      · exact h
      · rw [e] at h; cases h)
    clear hN1 HW1
    go_wp2
    go_loopw [4] (fun i wr => ∃ k : Nat, 1 ≤ k ∧ (k ≤ Wd.length ∨ k = 1) ∧ i = .int .i64 (k : Int) ∧ Hid (Below w1.heap.size w1 wr)) (fun i _ => Wd.length + 1 - (intOf i).toNat)
    case atStart => exact ⟨1, Nat.le_refl _, .inr rfl, rfl, Lib.hid (Below.refl _ _)⟩
    case round =>
      obtain ⟨k, hk1, hk2, rfl, Hb⟩ := hrel
      have hk9 : (k : Int) ≤ 9001 := by omega
      by_cases hlt : k < Wd.length
      · have hki : (k : Int) < (Wd.length : Int) := by omega
        have hkm : k - 1 < Wd.length := by omega
        have hkz : (k : Int) - 1 = ((k - 1 : Nat) : Int) := by omega
        have hkz2 : ((k - 1 : Nat) : Int) < (Wd.length : Int) := by omega
        have hkw : IntKind.i64.wrap ((k - 1 : Nat) : Int) = ((k - 1 : Nat) : Int) := IntWalk.i64_in _ (by omega)
        obtain ⟨ad, hB, q1⟩ := rd_str (Hr1.out.ext Hb.out) hlt
        subst hB
        obtain ⟨ad', hB, q0⟩ := rd_str (Hr1.out.ext Hb.out) hkm
        injection hB with hB
        subst hB
        have hlt2 : Wd[k - 1] < Wd[k] := HRi.out (k - 1) k hkm hlt (by omega)
        generalize Wd[k - 1] = x at *
        generalize Wd[k] = y at *
        obtain ⟨Y, Z, e1, e2, hls⟩ := less_cases x y
        rw [decide_eq_true hlt2] at hls
        rw [e1] at q0
        rw [e2] at q1
        clear e1 e2 hlt2
        go_wp2_with fail
        go_quiet (fail)
        go_wp2
        go_roundw
        case rel => exact ⟨k + 1, by omega, .inl (by omega), by go_num, Lib.hid (by repeat (first | exact Hb.out | apply ext_drew | apply ext_drewN))⟩
        case measure => simp [intOf]; omega
      · have hge : ¬ (k : Int) < (Wd.length : Int) := by omega
        obtain ⟨wo, hwo⟩ : ∃ wo : World, wo = wr := ⟨_, rfl⟩
        subst hwo
        clear hk1 hk2 hk9 hlt
        go_wp2
        go_loopw [5] (fun i wr => ∃ k : Nat, k ≤ l.length ∧ i = .int .i64 (k : Int) ∧ Hid (Below w1.heap.size w1 wr)) (fun i _ => l.length - (intOf i).toNat)
        case atStart => exact ⟨0, Nat.zero_le _, rfl, Hb⟩
        case round =>
          obtain ⟨i, hi, rfl, Hb2⟩ := hrel
          by_cases hil : i < l.length
          · have hii : (i : Int) < (l.length : Int) := by omega
            have HIi := Lib.hid (HIn.out i hil)
            obtain ⟨ad3, hA3, q3⟩ := rd_str (HA.out.ext (ext_trans Hb1.out Hb2.out)) hil
            subst hA3
            have HC3 : Hid (∀ W, Below w1.heap.size w1 W → W.cell? (ad3.add i) = some (strV l[i])) := Lib.hid (fun W hW => by
              obtain ⟨ad4, e, q⟩ := rd_str (HA.out.ext (ext_trans Hb1.out hW)) hil
              injection e with e
              subst e
              exact q)
            generalize l[i] = s at *
            clear q3
            go_wp2
            go_loopw [6, 7] (fun f j wr => ∃ (m : Nat) (v : Bool), m ≤ Wd.length ∧ j = .int .i64 (m : Int) ∧ f = .bool v ∧ Hid (FoundD Wd s m v) ∧ Hid (Below w1.heap.size w1 wr)) (fun _ j _ => Wd.length - (intOf j).toNat)
            case atStart => exact ⟨0, false, Nat.zero_le _, rfl, rfl, Lib.hid (found_zero Wd s), Hb2⟩
            case round =>
              obtain ⟨m, v, hm2, rfl, rfl, Hv, Hb3⟩ := hrel
              by_cases hml : m < Wd.length
              · have hmi : (m : Int) < (Wd.length : Int) := by omega
                have HN1 : Hid (v = true → ∃ t, ∃ ht : t < Wd.length, t < m + 1 ∧ Wd[t] = s) := Lib.hid (fun h => by
                  obtain ⟨t, ht, h1, h2⟩ := Hv.out.1 h
                  exact ⟨t, ht, by omega, h2⟩)
                have HN2 : Hid (v = false → ((∃ t, ∃ ht : t < Wd.length, t < m + 1 ∧ Wd[t] = s) ↔ Wd[m] = s)) := Lib.hid (fun h => by
                  constructor
                  · rintro ⟨t, ht, h1, h2⟩
                    rcases Nat.lt_succ_iff_lt_or_eq.1 h1 with h3 | rfl
                    · have := Hv.out.2 ⟨t, ht, h3, h2⟩
                      rw [h] at this; cases this
                    · exact h2
                  · intro h2
                    exact ⟨m, hml, by omega, h2⟩)
                have q2 := HC3.out wr Hb3.out
                obtain ⟨ad2, hB2, q1⟩ := rd_str (Hr1.out.ext Hb3.out) hml
                subst hB2
                obtain ⟨Y, Z, e1, e2, hc⟩ := str_cases Wd[m] s
                rw [e1] at q1
                rw [e2] at q2
                cases v with
                | true =>
                  have Hok : Hid (FoundD Wd s (m + 1) true) := Lib.hid (iff_of_true rfl (HN1.out rfl))
                  clear e1 e2 hc
                  go_wp2_with fail
                  go_quiet (fail)
                  go_wp2
                  go_roundw
                  case rel => exact ⟨m + 1, true, by omega, by go_num, rfl, Hok, Lib.hid (by repeat (first | exact Hb3.out | apply ext_drew | apply ext_drewN))⟩
                  case measure => simp [intOf]; omega
                | false =>
                  rcases hc with ⟨he, rfl⟩ | ⟨hne, hf⟩
                  · have Hok : Hid (FoundD Wd s (m + 1) true) := Lib.hid (iff_of_true rfl ((HN2.out rfl).2 he))
                    clear e1 e2 he
                    go_wp2_with fail
                    go_quiet (fail)
                    go_wp2
                    go_roundw
                    case rel => exact ⟨m + 1, true, by omega, by go_num, rfl, Hok, Lib.hid (by repeat (first | exact Hb3.out | apply ext_drew | apply ext_drewN))⟩
                    case measure => simp [intOf]; omega
                  · have Hok : Hid (FoundD Wd s (m + 1) false) := Lib.hid (Iff.intro (fun h => absurd h (by simp)) (fun h => absurd ((HN2.out rfl).1 h) hne))
                    clear e1 e2 hne
                    go_wp2_with fail
                    go_quiet (fail)
                    go_wp2
                    go_roundw
                    case rel => exact ⟨m + 1, false, by omega, by go_num, rfl, Hok, Lib.hid (by repeat (first | exact Hb3.out | apply ext_drew | apply ext_drewN))⟩
                    case measure => simp [intOf]; omega
              · have hmg : ¬ (m : Int) < (Wd.length : Int) := by omega
                have hvt : v = true := Hv.out.2 (by
                  obtain ⟨j, hj, e⟩ := HIi.out
                  exact ⟨j, hj, by omega, e⟩)
                subst hvt
                go_wp2
                go_roundw
                case rel => exact ⟨i + 1, by omega, by go_num, Hb3⟩
                case measure => simp [intOf]; omega
          · have hig : ¬ (i : Int) < (l.length : Int) := by omega
            have HX := Lib.hid (HW2.out A1 c1 wr (Hr1.out.ext Hb2.out) Hn1.out)
            go_wp2_with fail
            refine HX.out.mono ?_
            rintro e w4 ⟨A4, c4, rfl, hN4⟩
            have HT := Lib.hid (texts_same A4 c4 Wd hN4.rd A1 c1 (Hr1.out.ext (ext_trans Hb2.out hN4.bel)) (by omega))
            have Hb4 := Lib.hid (ext_trans Hb1.out (ext_trans Hb2.out hN4.bel))
            clear hN4
            go_wp2_with fail
            refine HT.out.mono ?_
            rintro e w5 ⟨rfl, hb5⟩
            have Hb5 := Lib.hid (ext_trans Hb4.out hb5)
            clear hb5
            go_wp2_with fail
            refine (HKn.out w5).mono ?_
            rintro e w6 ⟨rfl, hb6⟩
            have Hb6 := Lib.hid (ext_trans Hb5.out hb6)
            clear hb6
            go_wp2
            go_ret
            exact ⟨rfl, Hb6.out⟩

set_option maxHeartbeats 8000000 in
theorem dict_many (s : List UInt8) (n : Int) (w : World) (hs : s.length ≤ maxLen) (hn : isInt n) :
    Calls Try.prog 12 #[strV s, .int .i64 n] w fun e w' => e = .returned (.bool true) ∧ Below w.heap.size w w' := by
  unfold maxLen at hs
  have HKn := Lib.hid known17_any
  obtain ⟨n1, n2⟩ := hn
  have hsz : (⟨s.toArray⟩ : ByteArray).size = s.length := rfl
  obtain ⟨Z, hZ⟩ : ∃ Z : ByteArray, strV s = .string Z := ⟨_, rfl⟩
  have hzs : Z.size = s.length := by unfold strV at hZ; injection hZ with hZ; rw [← hZ]; exact hsz
  have HZ := Lib.hid hZ
  rw [hZ]
  clear hZ hsz
  by_cases h1 : 500 < s.length
  · have d1 : (500 : Int) < (Z.size : Int) := by omega
    clear hzs
    go_enter Try.func12, Try.ntmps12
    go_wp2
    go_ret
    exact ⟨rfl, Below.refl _ _⟩
  have d1 : ¬ (500 : Int) < (Z.size : Int) := by omega
  have d1b : (Z.size : Int) ≤ 500 := by omega
  by_cases h2 : n < 1
  · have d2 : decide (n < 1) = true := decide_eq_true h2
    clear hzs
    go_enter Try.func12, Try.ntmps12
    go_wp2
    go_ret
    exact ⟨rfl, Below.refl _ _⟩
  have d2 : decide (n < 1) = false := decide_eq_false h2
  by_cases h3 : 2000 < n
  · have d3 : decide (2000 < n) = true := decide_eq_true h3
    clear hzs
    go_enter Try.func12, Try.ntmps12
    go_wp2
    go_ret
    exact ⟨rfl, Below.refl _ _⟩
  have d3 : decide (2000 < n) = false := decide_eq_false h3
  obtain ⟨m, rfl⟩ : ∃ m : Nat, n = (m : Int) := ⟨n.toNat, by omega⟩
  have hm1 : 0 < m := by omega
  have hm2 : m ≤ 2000 := by omega
  have hmi : (m : Int) ≤ 2000 := by omega
  have hmy : mayD (List.replicate m s) = true := (mayD_iff _).2 ⟨by rw [List.length_replicate]; omega, fun t ht => by rw [List.eq_of_mem_replicate ht]; omega⟩
  have hml := many_len s m (by omega) hm1 hm2
  have HE := Lib.hid (fun (A : Option Addr) (c : Nat) (W : World) (hA : Rd W A ((List.replicate m s).map strV)) (h0 : A = none → c = 0) => encodeD_any A c (List.replicate m s) W hA h0 (by rw [List.length_replicate]; omega) (fun t ht => by rw [List.eq_of_mem_replicate ht]; unfold maxLen; omega))
  have hans : ansD (List.replicate m s) = (encD (List.replicate m s), 0) := by unfold ansD; rw [if_pos hmy]
  rw [hans] at HE
  have HD := Lib.hid (fun (A1 : Option Addr) (c1 : Nat) (W : World) (hW : Rd W A1 ((encD (List.replicate m s)).map bv)) (hc : (encD (List.replicate m s)).length ≤ c1) => decodeD_any (encD (List.replicate m s)) A1 c1 W hW hc (by omega))
  rw [dec_encD hmy] at HD
  have HT := Lib.hid (fun (A : Option Addr) (c : Nat) (B : Option Addr) (d : Nat) (W : World) (hA : Rd W A ((List.replicate m s).map strV)) (hB : Rd W B ((List.replicate m s).map strV)) => texts_same A c (List.replicate m s) hA B d hB (by rw [List.length_replicate]; omega))
  rw [List.length_replicate] at HE HT
  simp only [List.length_replicate] at HD
  have HSn : Hid (∀ k, (List.replicate (k + 1) s).map strV = (List.replicate k s).map strV ++ [.string Z]) := Lib.hid (fun k => by rw [List.replicate_succ', List.map_append, List.map_singleton, HZ.out])
  have hqi : ((encD (List.replicate m s)).length : Int) ≤ (Z.size : Int) + 12 := by omega
  generalize encD (List.replicate m s) = q at *
  have hqd : decide ((q.length : Int) ≤ (Z.size : Int) + 12) = true := decide_eq_true hqi
  have hm1i : (1 : Int) ≤ (m : Int) := by omega
  clear hmy hml hans hzs
  go_enter Try.func12, Try.ntmps12
  go_wp2
  go_loopw [5, 6] (fun o i wr => ∃ (k : Nat) (A : Option Addr) (c : Nat), k ≤ m ∧ i = .int .i64 (k : Int) ∧ o = .slice A k c ∧ Hid (NewO w wr 9 1 A k c ((List.replicate k s).map strV))) (fun _ i _ => m - (intOf i).toNat)
  case atStart => exact ⟨0, none, 0, Nat.zero_le _, rfl, rfl, Lib.hid (NewO.start _ _ _)⟩
  case round =>
    obtain ⟨k, A, c, hk, rfl, rfl, HN⟩ := hrel
    by_cases hlt : k < m
    · have hki : (k : Int) < (m : Int) := by omega
      have hk2 : k + 1 ≤ maxLen := by unfold maxLen; omega
      have hk3 : (k + 1) * 16 ≤ 140737488355328 := by omega
      go_wp2_with (at_builtin
                   refine wpList_app_new rfl (.tmp 27) (.tmp 29) _ rfl 9 _ 1 16 Try.underlying40 info_str rfl A _ c _ HN.out (ext_alloc (Below.refl _ _) _) rfl ⟨wr.heap.size, 0, none⟩ 1 [.string Z] rfl rfl (Rd.lit _ #[.string Z] _) ?_ hk2 hk3 ?_
                   · intro x hx; simp at hx; rw [hx]; rfl
                   intro A7 c7 w7 hN7 hb7
                   rw [← HSn.out] at hN7
                   have HN7 := Lib.hid hN7
                   clear hN7 hb7)
      go_roundw
      case rel => exact ⟨k + 1, A7, c7, by omega, by go_num, rfl, HN7⟩
      case measure => simp [intOf]; omega
    · obtain rfl : k = m := by omega
      have hge : ¬ (k : Int) < (k : Int) := by omega
      have HX := Lib.hid (TxtAt.of_row HN.out.row (by rw [List.length_replicate]))
      have HE1 := Lib.hid (HE.out A c wr HX.out.rd HX.out.nil)
      have Hb0 := Lib.hid HN.out.bel
      generalize List.replicate k s = l at *
      clear HE
      go_wp2_with fail
      refine HE1.out.mono ?_
      rintro e w1 ⟨A1, c1, rfl, hn1, hb1⟩
      have HD1 := Lib.hid (HD.out A1 c1 w1 hn1.rd (by have := Own.cap hn1; simpa using this))
      have Hb1 := Lib.hid hb1
      clear hn1 hb1 HD
      go_wp2_with fail
      refine HD1.out.mono ?_
      rintro e w2 ⟨A2, c2, rfl, hx2, hb2⟩
      have Hb2 := Lib.hid (ext_trans Hb1.out hb2)
      have HT1 := Lib.hid (HT.out A c A2 c2 w2 (HX.out.rd.ext Hb2.out) hx2.rd)
      clear hx2 hb2
      go_wp2_with fail
      refine HT1.out.mono ?_
      rintro e w5 ⟨rfl, hb5⟩
      have Hb5 := Lib.hid (ext_trans Hb2.out hb5)
      clear hb5
      go_wp2_with fail
      refine (HKn.out w5).mono ?_
      rintro e w6 ⟨rfl, hb6⟩
      have Hb6 := Lib.hid (ext_trans Hb5.out hb6)
      clear hb6
      go_wp2
      go_ret
      exact ⟨rfl, ext_trans Hb0.out Hb6.out⟩
end Go.Proofs.Ythceajadgjnnmaa
