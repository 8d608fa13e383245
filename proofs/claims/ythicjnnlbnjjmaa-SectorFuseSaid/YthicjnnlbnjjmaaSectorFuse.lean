/-
  SectorFuse holds for every number and every list of acts: just so many writes and flushes that do not err are done; all behind them are dead till a crash. No condition.
-/
import Derived.Test.YthicjnnlbnjjmaaLong
import Derived.Test.YthicjnnlbnjjmaaSteps
namespace Go.Proofs.Ythicjnnlbnjjmaa.SectorFuse
open Go Go.ChangeShapes Go.WideShapes Go.ChangeAt Go.RowKit Go.Proofs.Ythicjnnlbnjjmaa

/-- what a write or a flush answers, and what is left -/
def Done (n : Int) (d : Nat) (cd l' : Int) : Prop := (n ≤ (d : Int) ∧ cd = 6 ∧ l' = n - (d : Int)) ∨ ((d : Int) < n ∧ cd = 1 ∧ l' = n - (d : Int)) ∨ ((d : Int) < n ∧ cd = 0 ∧ l' = n - ((d + 1 : Nat) : Int))
theorem done_write (n : Int) (d : Nat) (hd : (d : Int) ≤ n) (m : Nat) (i : Int) (bs : List UInt8) : Done n d (writeCode m (n - (d : Int)) i bs) (writeL m (n - (d : Int)) i bs) := by
  unfold Done writeL writeCode tick
  by_cases h0 : n - (d : Int) = 0
  · rw [if_pos h0, if_neg (by omega)]
    exact .inl ⟨by omega, rfl, rfl⟩
  · rw [if_neg h0]
    by_cases hb : i < 0 ∨ (m : Int) ≤ i ∨ 64 < bs.length
    · rw [if_pos hb, if_neg (by omega)]
      exact .inr (.inl ⟨by omega, rfl, rfl⟩)
    · rw [if_neg hb, if_pos rfl, if_pos (by omega)]
      exact .inr (.inr ⟨by omega, rfl, by omega⟩)
theorem done_flush (n : Int) (d : Nat) (hd : (d : Int) ≤ n) : Done n d (flushCode (n - (d : Int))) (tick (n - (d : Int))) := by
  unfold Done flushCode tick
  by_cases h0 : n - (d : Int) = 0
  · rw [if_pos h0, if_neg (by omega)]
    exact .inl ⟨by omega, rfl, rfl⟩
  · rw [if_neg h0, if_pos (by omega)]
    exact .inr (.inr ⟨by omega, rfl, by omega⟩)

set_option maxRecDepth 100000 in
set_option maxHeartbeats 4000000 in
theorem law_any (n : Int) (hn : isInt n) (A : Option Addr) (m c : Nat) (acs : List ActD) (hm : m = acs.length) (hl : acs.length ≤ maxLen) (W : World) (h : Acts W A acs) :
    Calls Try.prog 6 #[.int .i64 n, .slice A m c] W fun e w' => e = .returned (.bool true) ∧ Below W.heap.size W w' := by
  subst hm
  have hn' := hn
  unfold isInt at hn'
  have hlong := long_any W A acs.length c acs rfl hl h
  by_cases hneg : n < 0
  · go_enter Try.func6, Try.ntmps6
    go_wp2_with fail
    refine hlong.mono ?_
    rintro e w1 ⟨b, rfl, hb1⟩
    cases b
    all_goals
      go_wp2
      go_ret
      exact ⟨rfl, hb1⟩
  · have hn0 : 0 ≤ n := by omega
    have hd : decide (n < 0) = false := decide_eq_false hneg
    go_enter Try.func6, Try.ntmps6
    go_wp2_with fail
    refine hlong.mono ?_
    rintro e w1 ⟨b, rfl, hb1⟩
    cases b
    · go_wp2_with fail
      refine (new_step 20 W w1 hb1 (by omega) (by omega)).mono ?_
      rintro e w2 ⟨g, rfl, hI2, hb2⟩
      go_wp2_with fail
      refine (fuse_step hI2 hb2 n hn).mono ?_
      rintro e w3 ⟨rfl, hI3, hb3⟩
      have e0 : max n (-1) = n - ((0 : Nat) : Int) := by omega
      rw [e0] at hI3
      clear hlong hI2 hb1 hb2 e0
      go_wp2
      go_loopw [7, 8, 9, 44, 58] (fun dn i _ _ _ wr => ∃ (k d : Nat) (S : Sec), k ≤ acs.length ∧ k ≤ 60 ∧ d ≤ k ∧ (d : Int) ≤ n ∧ i = .int .i64 (k : Int) ∧ dn = .int .i64 (d : Int) ∧ Imp wr (Born W wr) g S (n - (d : Int)) ∧ Small (k + 1) S ∧ S.length = 20 ∧ Below W.heap.size W wr) (fun _ i _ _ _ _ => acs.length - (intOf i).toNat)
      case atStart => exact ⟨0, 0, zeroS 20, Nat.zero_le _, Nat.zero_le _, Nat.le_refl _, hn0, rfl, rfl, hI3, small_zero 20, by simp [zeroS], hb3⟩
      case round =>
        clear hI3 hb3
        obtain ⟨k, d, S, hk, hk60, hdk, hdn, rfl, rfl, hI, hS, hlen, hb⟩ := hrel
        have fin : ∀ (w' : World) (d' : Nat) (S' : Sec), d' ≤ k + 1 → (d' : Int) ≤ n → Imp w' (Born W w') g S' (n - (d' : Int)) → Small (k + 1 + 1) S' → S'.length = 20 → Below W.heap.size W w' → k < acs.length → k < 60 → ∃ (k' d'' : Nat) (S'' : Sec), k' ≤ acs.length ∧ k' ≤ 60 ∧ d'' ≤ k' ∧ (d'' : Int) ≤ n ∧ Value.int .i64 ((k : Int) + 1) = .int .i64 (k' : Int) ∧ Value.int .i64 (d' : Int) = .int .i64 (d'' : Int) ∧ Imp w' (Born W w') g S'' (n - (d'' : Int)) ∧ Small (k' + 1) S'' ∧ S''.length = 20 ∧ Below W.heap.size W w' :=
          fun w' d' S' h1 h2 h3 h4 h5 h6 h7 h8 => ⟨k + 1, d', S', by omega, by omega, h1, h2, by go_num, rfl, h3, h4, h5, h6⟩
        replace fin := Lib.hid fin
        by_cases hlt : k < acs.length
        · by_cases hlt6 : k < 60
          · obtain ⟨b, o, B, cB, P, cP, rfl, h0, h1, h2, h3, r4, r5, hok⟩ := h.at_ (w1 := W) hb hlt
            have hki : (k : Int) < (acs.length : Int) := by omega
            have hki6 : (k : Int) < 60 := by omega
            have hs9 := small_mono hS (show k + 1 ≤ 999999 by omega)
            by_cases hk1 : acs[k].kind = 1
            · rw [hk1] at h0
              have hcall := write_step hI.drew (Below.drew' hb) hs9 acs[k].i B _ cB acs[k].bs rfl r4.1
              have hdone := done_write n d hdn S.length acs[k].i acs[k].bs
              have hS' := small_write hS (n - (d : Int)) acs[k].i acs[k].bs
              have hlen' := (writeS_length S (n - (d : Int)) acs[k].i acs[k].bs).trans hlen
              revert hcall hdone
              generalize writeCode S.length (n - (d : Int)) acs[k].i acs[k].bs = cd
              generalize writeL S.length (n - (d : Int)) acs[k].i acs[k].bs = l'
              generalize writeS S (n - (d : Int)) acs[k].i acs[k].bs = S' at hS' hlen'
              intro hcall hdone
              have hkeep := Lib.hid (show ∀ w' : World, Below W.heap.size W w' → w'.cell? ⟨b, o + k * 4 + 1, none⟩ = some (.int .i64 acs[k].i) ∧ w'.cell? ⟨b, o + k * 4 + 2, none⟩ = some (.slice B acs[k].bs.length cB) from fun w' hb' => by
                have e1 : w'.heap[b]? = wr.heap[b]? := by
                  have hlb := Acts.block_lt h hlt
                  rw [hb'.block b hlb, hb.block b hlb]
                exact ⟨(World.cell?_of_block (a := ⟨b, o + k * 4 + 1, none⟩) e1).trans h1, (World.cell?_of_block (a := ⟨b, o + k * 4 + 2, none⟩) e1).trans h2⟩)
              rcases hdone with ⟨e1, rfl, rfl⟩ | ⟨e1, rfl, rfl⟩ | ⟨e1, rfl, rfl⟩
              · have hx : decide (n ≤ (d : Int)) = true := decide_eq_true (by omega)
                go_wp2_with fail
                go_region_held_law (fun w' => w'.cell? ⟨b, o + k * 4 + 1, none⟩ = some (.int .i64 acs[k].i) ∧ w'.cell? ⟨b, o + k * 4 + 2, none⟩ = some (.slice B acs[k].bs.length cB))
                  (first | exact ⟨h1, h2⟩ | exact hkeep.out _ hb4)
                  (first
                    | (go_at_call 22; refine hcall.mono ?_; rintro e w4 ⟨rfl, hI4, hb4⟩))
                go_wp2
                go_roundw
                case rel => first | exact fin.out _ d _ (by omega) (by omega) hI4 hS' hlen' hb4 hlt hlt6 | ((repeat apply Exists.intro); exact ⟨fin.out _ d _ (by omega) (by omega) hI4 hS' hlen' hb4 hlt hlt6, rfl⟩)
                case measure => simp [intOf]; omega
              · have hx : decide (n ≤ (d : Int)) = false := decide_eq_false (by omega)
                go_wp2_with fail
                go_region_held_law (fun w' => w'.cell? ⟨b, o + k * 4 + 1, none⟩ = some (.int .i64 acs[k].i) ∧ w'.cell? ⟨b, o + k * 4 + 2, none⟩ = some (.slice B acs[k].bs.length cB))
                  (first | exact ⟨h1, h2⟩ | exact hkeep.out _ hb4)
                  (first
                    | (go_at_call 22; refine hcall.mono ?_; rintro e w4 ⟨rfl, hI4, hb4⟩))
                go_wp2
                go_roundw
                case rel => first | exact fin.out _ d _ (by omega) (by omega) hI4 hS' hlen' hb4 hlt hlt6 | ((repeat apply Exists.intro); exact ⟨fin.out _ d _ (by omega) (by omega) hI4 hS' hlen' hb4 hlt hlt6, rfl⟩)
                case measure => simp [intOf]; omega
              · have hx : decide (n ≤ (d : Int)) = false := decide_eq_false (by omega)
                go_wp2_with fail
                go_region_held_law (fun w' => w'.cell? ⟨b, o + k * 4 + 1, none⟩ = some (.int .i64 acs[k].i) ∧ w'.cell? ⟨b, o + k * 4 + 2, none⟩ = some (.slice B acs[k].bs.length cB))
                  (first | exact ⟨h1, h2⟩ | exact hkeep.out _ hb4)
                  (first
                    | (go_at_call 22; refine hcall.mono ?_; rintro e w4 ⟨rfl, hI4, hb4⟩))
                go_wp2
                go_roundw
                case rel => first | exact fin.out _ (d + 1) _ (by omega) (by omega) hI4 hS' hlen' hb4 hlt hlt6 | ((repeat apply Exists.intro); exact ⟨fin.out _ (d + 1) _ (by omega) (by omega) hI4 hS' hlen' hb4 hlt hlt6, rfl⟩)
                case measure => simp [intOf]; omega
            · have hk1b : (acs[k].kind == 1) = false := by simpa using hk1
              by_cases hk2 : acs[k].kind = 2
              · have hk1b : ((2 : Int) == 1) = false := rfl
                rw [hk2] at h0
                have hcall := flush_step hI hb (small_mono hS (show k + 1 ≤ 1000000 by omega))
                have hdone := done_flush n d hdn
                have hS' : Small (k + 1 + 1) (if n - (d : Int) = 0 then S else flushS S) := by
                  split
                  · exact small_mono hS (by omega)
                  · exact small_flush S (by omega)
                have hlen' : (if n - (d : Int) = 0 then S else flushS S).length = 20 := by
                  split
                  · exact hlen
                  · rw [flushS_length]; exact hlen
                revert hcall hdone
                generalize flushCode (n - (d : Int)) = cd
                generalize tick (n - (d : Int)) = l'
                generalize (if n - (d : Int) = 0 then S else flushS S) = S' at hS' hlen'
                intro hcall hdone
                rcases hdone with ⟨e1, rfl, rfl⟩ | ⟨e1, rfl, rfl⟩ | ⟨e1, rfl, rfl⟩
                · have hx : decide (n ≤ (d : Int)) = true := decide_eq_true (by omega)
                  go_wp2_with fail
                  refine hcall.mono ?_
                  rintro e w4 ⟨rfl, hI4, hb4⟩
                  go_wp2
                  go_roundw
                  case rel => first | exact fin.out _ d _ (by omega) (by omega) hI4 hS' hlen' hb4 hlt hlt6 | ((repeat apply Exists.intro); exact ⟨fin.out _ d _ (by omega) (by omega) hI4 hS' hlen' hb4 hlt hlt6, rfl⟩)
                  case measure => simp [intOf]; omega
                · have hx : decide (n ≤ (d : Int)) = false := decide_eq_false (by omega)
                  go_wp2_with fail
                  refine hcall.mono ?_
                  rintro e w4 ⟨rfl, hI4, hb4⟩
                  go_wp2
                  go_roundw
                  case rel => first | exact fin.out _ d _ (by omega) (by omega) hI4 hS' hlen' hb4 hlt hlt6 | ((repeat apply Exists.intro); exact ⟨fin.out _ d _ (by omega) (by omega) hI4 hS' hlen' hb4 hlt hlt6, rfl⟩)
                  case measure => simp [intOf]; omega
                · have hx : decide (n ≤ (d : Int)) = false := decide_eq_false (by omega)
                  go_wp2_with fail
                  refine hcall.mono ?_
                  rintro e w4 ⟨rfl, hI4, hb4⟩
                  go_wp2
                  go_roundw
                  case rel => first | exact fin.out _ (d + 1) _ (by omega) (by omega) hI4 hS' hlen' hb4 hlt hlt6 | ((repeat apply Exists.intro); exact ⟨fin.out _ (d + 1) _ (by omega) (by omega) hI4 hS' hlen' hb4 hlt hlt6, rfl⟩)
                  case measure => simp [intOf]; omega
              · have hk2b : (acs[k].kind == 2) = false := by simpa using hk2
                go_wp2
                go_roundw
                case rel => first | exact fin.out _ d _ (by omega) hdn hI (small_mono hS (by omega)) hlen hb hlt hlt6 | ((repeat apply Exists.intro); exact ⟨fin.out _ d _ (by omega) hdn hI (small_mono hS (by omega)) hlen hb hlt hlt6, rfl⟩)
                case measure => simp [intOf]; omega
          · obtain rfl : k = 60 := by omega
            clear fin
            go_wp2_with fail
            refine (crash_step (w0 := wr) hI (Nat.le_refl _) hb (small_mono hS (by omega)) none 0 0 [] rfl ⟨Rd.nil _ _, fun ad e => by cases e⟩ (by simp)).mono ?_
            rintro e w4 ⟨rfl, hI4, hb4⟩
            have hl4 : (crashS S []).length = 20 := (crashS_length S []).trans hlen
            have hc4 : writeCode (crashS S []).length (-1) 0 [] = 0 := by rw [hl4]; rfl
            have hS4 := small_crash hS (by omega) []
            have hw4 := write_step hI4 hb4 (small_mono hS4 (show _ ≤ 999999 by omega)) 0 none 0 0 [] rfl (Rd.nil _ _)
            rw [hc4] at hw4
            have hL4 : writeL (crashS S []).length (-1) 0 [] = -1 := by unfold writeL; rw [hc4]; rfl
            rw [hL4] at hw4
            have hS5 := small_write hS4 (-1) 0 []
            go_wp2_with fail
            refine hw4.mono ?_
            rintro e w5 ⟨rfl, hI5, hb5⟩
            have hf5 := flush_step hI5 hb5 (small_mono hS5 (by omega))
            have hfc : flushCode (-1) = 0 := rfl
            rw [hfc] at hf5
            go_wp2_with fail
            refine hf5.mono ?_
            rintro e w6 ⟨rfl, hI6, hb6⟩
            go_wp2_with fail
            refine (known_any w6).mono ?_
            rintro e w7 ⟨rfl, hb7⟩
            go_wp2
            go_ret
            exact ⟨rfl, hb6.trans (hb7.mono hb6.size)⟩
        · obtain rfl : k = acs.length := by omega
          clear fin
          go_wp2_with fail
          refine (crash_step (w0 := wr) hI (Nat.le_refl _) hb (small_mono hS (by omega)) none 0 0 [] rfl ⟨Rd.nil _ _, fun ad e => by cases e⟩ (by simp)).mono ?_
          rintro e w4 ⟨rfl, hI4, hb4⟩
          have hl4 : (crashS S []).length = 20 := (crashS_length S []).trans hlen
          have hc4 : writeCode (crashS S []).length (-1) 0 [] = 0 := by rw [hl4]; rfl
          have hS4 := small_crash hS (by omega) []
          have hw4 := write_step hI4 hb4 (small_mono hS4 (show _ ≤ 999999 by omega)) 0 none 0 0 [] rfl (Rd.nil _ _)
          rw [hc4] at hw4
          have hL4 : writeL (crashS S []).length (-1) 0 [] = -1 := by unfold writeL; rw [hc4]; rfl
          rw [hL4] at hw4
          have hS5 := small_write hS4 (-1) 0 []
          go_wp2_with fail
          refine hw4.mono ?_
          rintro e w5 ⟨rfl, hI5, hb5⟩
          have hf5 := flush_step hI5 hb5 (small_mono hS5 (by omega))
          have hfc : flushCode (-1) = 0 := rfl
          rw [hfc] at hf5
          go_wp2_with fail
          refine hf5.mono ?_
          rintro e w6 ⟨rfl, hI6, hb6⟩
          go_wp2_with fail
          refine (known_any w6).mono ?_
          rintro e w7 ⟨rfl, hb7⟩
          go_wp2
          go_ret
          exact ⟨rfl, hb6.trans (hb7.mono hb6.size)⟩
    · go_wp2
      go_ret
      exact ⟨rfl, hb1⟩

theorem contract (H : Type) (enc : TypeId × Value → H) (W : World) (base : Nat) (args : Array Value) (ds gs : List (DataW H)) (before : List MemPlace)
    (hval : ∀ (j : Nat) t v, Try.f6.params[j]? = some t → args[j]? = some v → Value.okWide Try.prog W .any base t v)
    (hW : DataW.Whole enc Try.prog Try.f6.params.toList Rows.sectorFuseSpec.vars false W args.toList ds gs before) :
    Calls Try.prog 6 args W fun e W' => ∃ v, e = .returned v ∧ Rows.sectorFuseSpec.post enc Try.prog Try.f6 false true false false W args v W' := by
  have hW' := hW
  obtain ⟨p, q, hA0, hV, rfl, hfz, hnd⟩ := hW
  have hA : DataW.TrodAll enc Try.prog W 0 (fun _ => true) true Try.f6.params.toList args.toList ds p := hA0
  rw [Try.params6] at hA hval
  obtain ⟨x0, x1, d0, d1, p0, p1, rfl, rfl, rfl, h0, h1⟩ := trodAll_two hA
  obtain ⟨v0, rfl, rfl, rfl, wv0⟩ := open_int Try.underlying3 (hval 0 _ x0 rfl rfl) h0
  have i0 := int_of_wf wv0
  obtain ⟨A1, n1, c1, xs1, rfl, hn1, hc1, hm1, hr1, hi1⟩ := arg_acts (hval 1 _ x1 rfl rfl) h1
  have walk : Calls Try.prog 6 #[.int .i64 v0, .slice A1 n1 c1] W fun e w' => e = .returned (.bool true) ∧ Below W.heap.size W w' := law_any v0 i0 A1 n1 c1 xs1 hn1 (Nat.le_trans hc1 hm1) W hr1
  refine walk.mono fun e W' ⟨he, hb⟩ => ?_
  subst he
  exact ⟨_, rfl, law_post rfl rfl (by kernel_rfl) ⟨rfl, rfl, rfl⟩ hW' hb⟩

theorem laid_met (os : Os) : laidMet Try.prog Rows.sectorFuseRow.laid ((plainWorld os).forCall (fun _ _ => 0) ⟨#[], #[.int .i64 0, .slice none 0 0], []⟩).memory :=
  laidMet_of_run' 8 (by kernel_rfl) (by kernel_rfl)
theorem reads (os : Os) {H : Type} (enc : TypeId × Value → H) : ∃ places, DataW.whole enc Try.prog ((plainWorld os).forCall (fun _ _ => 0) ⟨#[], #[.int .i64 0, .slice none 0 0], []⟩).memory Try.f6.params.toList Rows.sectorFuseSpec.vars false #[Value.int .i64 0, .slice none 0 0].toList 8 = some ([.lit (.int .i64 0), .nil], [], places) :=
  ⟨[], by kernel_rfl⟩

set_option maxRecDepth 100000 in
theorem lifted (os : Os) (started : os.Started) (H : Type) (enc : TypeId × Value → H) (F : Stop.Interp) :
    ReturnsInHanded {} Try.checked os 6 .any ((OpenSpec.ofChange Rows.sectorFuseSpec).preRow enc Try.prog Try.f6 Rows.sectorFuseRow.domain false Rows.sectorFuseRow.laid) (((OpenSpec.ofChange Rows.sectorFuseSpec).at F).post enc Try.prog Try.f6 false true false false) := by
  obtain ⟨places, hx⟩ := reads os enc
  refine returnsInHanded_of_row (C := Try.checked) (s := OpenSpec.ofChange Rows.sectorFuseSpec) own started (by kernel_rfl) Try.func6
    (witness_row_at (enc := enc) (C := Try.checked) false (plainWorld os) #[.int .i64 0, .slice none 0 0] rfl (by kernel_rfl) (by kernel_rfl) (by kernel_rfl)
      (OpenSpec.preRow_of_cond 8 hx (by kernel_rfl) (fun k hk => by cases hk) (by kernel_rfl) (laid_met os))) ?_
  intro W base args ds gs before hval hW _ _ _ _ _ _
  exact contract H enc W base args ds gs before hval hW

theorem said : Rows.SectorFuseSaid :=
  OpenClaim.holds_of_cond 6 Try.f6 rfl rfl rfl rfl rfl rfl rfl ⟨rfl, rfl, rfl, rfl, rfl⟩ rfl rfl rfl rfl rfl (by kernel_rfl) Try.func6 (by kernel_rfl)
    (of_decide_eq_true (by kernel_rfl)) (by unfold Func.isWrapper; first | (rw [if_pos (by decide +kernel)]; kernel_rfl) | (rw [if_neg (by decide +kernel)]; exact ⟨rfl, rfl⟩))
    (fun os started H enc _ F => by rw [OpenClaim.pre_eq_preRow]; exact lifted os started H enc F)

end Go.Proofs.Ythicjnnlbnjjmaa.SectorFuse
