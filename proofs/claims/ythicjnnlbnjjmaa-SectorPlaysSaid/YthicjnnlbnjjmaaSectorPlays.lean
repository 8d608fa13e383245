/-
  SectorPlays holds for every number and every list of acts: of every script each answer, and all sectors. No condition.
-/
import Derived.Test.YthicjnnlbnjjmaaDisks
namespace Go.Proofs.Ythicjnnlbnjjmaa.SectorPlays
open Go Go.ChangeShapes Go.WideShapes Go.ChangeAt Go.RowKit Go.Proofs.Ythicjnnlbnjjmaa

set_option maxRecDepth 100000 in
set_option maxHeartbeats 8000000 in
theorem law_any (n : Int) (hn : isInt n) (A : Option Addr) (m c : Nat) (acs : List ActD) (hm : m = acs.length) (hl : acs.length ≤ maxLen) (W : World) (h : Acts W A acs) :
    Calls Try.prog 3 #[.int .i64 n, .slice A m c] W fun e w' => e = .returned (.bool true) ∧ Below W.heap.size W w' := by
  subst hm
  have hn' := hn
  unfold isInt at hn'
  have hlong := long_any W A acs.length c acs rfl hl h
  by_cases hbig : 60 < n
  · go_enter Try.func3, Try.ntmps3
    go_wp2_with fail
    refine hlong.mono ?_
    rintro e w1 ⟨b, rfl, hb1⟩
    cases b
    all_goals
      go_wp2
      go_ret
      exact ⟨rfl, hb1⟩
  · have hd : decide (60 < n) = false := decide_eq_false hbig
    by_cases hsm : n < 1
    · go_enter Try.func3, Try.ntmps3
      go_wp2_with fail
      refine hlong.mono ?_
      rintro e w1 ⟨b, rfl, hb1⟩
      cases b
      · go_wp2_with fail
        refine (new_bad n w1 (.inl hsm)).mono ?_
        rintro e w2 ⟨rfl, rfl⟩
        go_wp2_with fail
        refine (rnew_bad n w1 (.inl hsm)).mono ?_
        rintro e w2 ⟨rfl, rfl⟩
        clear hlong
        go_wp2
        go_loopw [9] (fun i wr => i = .int .i64 0 ∧ w1 = wr) (fun _ _ => 0)
        case atStart => exact ⟨rfl, rfl⟩
        case round =>
          obtain ⟨rfl, rfl⟩ := hrel
          by_cases hz : 0 < acs.length
          · have hzi : (0 : Int) < (acs.length : Int) := by omega
            go_wp2_with fail
            refine (known_any w1).mono ?_
            rintro e w3 ⟨rfl, hb3⟩
            go_wp2
            go_ret
            exact ⟨rfl, hb1.trans (hb3.mono hb1.size)⟩
          · have hzi : ¬ (0 : Int) < (acs.length : Int) := by omega
            go_wp2_with fail
            refine (known_any w1).mono ?_
            rintro e w3 ⟨rfl, hb3⟩
            go_wp2
            go_ret
            exact ⟨rfl, hb1.trans (hb3.mono hb1.size)⟩
      · go_wp2
        go_ret
        exact ⟨rfl, hb1⟩
    · obtain ⟨n0, rfl⟩ : ∃ n0 : Nat, n = (n0 : Int) := ⟨n.toNat, by omega⟩
      have hn1 : 1 ≤ n0 := by omega
      have hn2 : n0 ≤ 4096 := by omega
      go_enter Try.func3, Try.ntmps3
      go_wp2_with fail
      refine hlong.mono ?_
      rintro e w1 ⟨b, rfl, hb1⟩
      cases b
      · go_wp2_with fail
        refine (new_step n0 W w1 hb1 hn1 hn2).mono ?_
        rintro e w2 ⟨gd, rfl, hI2, hb2⟩
        go_wp2_with fail
        refine (rnew_ok n0 w2 w2 (Below.refl _ _) hn1 hn2).mono ?_
        rintro e w3 ⟨gx, rfl, hb23, hR3, _⟩
        have hb3 : Below W.heap.size W w3 := hb2.trans (hb23.mono hb2.size)
        have hT3 := Two.new hI2 hb2 hb3 hb23 hR3
        clear hlong hI2 hb1 hb2 hb23 hR3 hd
        go_wp2
        go_loopw [9] (fun i wr => ∃ (k : Nat) (S : Sec) (l : Int), k ≤ acs.length ∧ k ≤ 60 ∧ i = .int .i64 (k : Int) ∧ Two W wr (fun _ => False) gd gx S l S l ∧ Small (k + 1) S ∧ Below W.heap.size W wr) (fun i _ => acs.length - (intOf i).toNat)
        case atStart => exact ⟨0, zeroS n0, -1, Nat.zero_le _, Nat.zero_le _, rfl, hT3, small_zero n0, hb3⟩
        case round =>
          clear hT3 hb3
          obtain ⟨k, S, l, hk, hk60, rfl, hT, hS, hb⟩ := hrel
          by_cases hlt : k < acs.length ∧ k < 60
          · obtain ⟨hlt, hlt6⟩ := hlt
            obtain ⟨b, o, B, cB, P0, cP0, rfl, h0, h1, h2, h3, r4, r5, hok⟩ := h.at0 hb hlt
            have hki : (k : Int) < (acs.length : Int) := by omega
            have hki6 : (k : Int) < 60 := by omega
            have hact := act_any hT hb hS (by omega) acs[k] hok B cB P0 cP0 r4 r5 (by omega)
            go_wp2_with fail
            refine hact.mono ?_
            rintro e w4 ⟨rfl, ⟨S', l', hT4, hS4, hl4⟩, hb4⟩
            obtain ⟨fI, fR, hI4, hR4, _⟩ := id hT4
            obtain ⟨gc, B4, C4, hL4⟩ := hI4
            obtain ⟨A5, c5, B5, C5, hRL⟩ := hR4
            have hdk := disks_any hL4 hRL (small_mono hS4 (by omega))
            clear hL4 hRL
            go_wp2_with fail
            refine hdk.mono ?_
            rintro e w5 ⟨rfl, hb5⟩
            go_wp2
            go_roundw
            case rel => exact ⟨k + 1, S', l', by omega, by omega, by go_num, hT4.ext hb5, hS4, hb4.trans (hb5.mono hb4.size)⟩
            case measure => simp [intOf]; omega
          · by_cases hke : k = acs.length
            · subst hke
              go_wp2_with fail
              refine (known_any wr).mono ?_
              rintro e w7 ⟨rfl, hb7⟩
              go_wp2
              go_ret
              exact ⟨rfl, hb.trans (hb7.mono hb.size)⟩
            · obtain rfl : k = 60 := by omega
              have hki : (60 : Int) < (acs.length : Int) := by omega
              go_wp2_with fail
              refine (known_any wr).mono ?_
              rintro e w7 ⟨rfl, hb7⟩
              go_wp2
              go_ret
              exact ⟨rfl, hb.trans (hb7.mono hb.size)⟩
      · go_wp2
        go_ret
        exact ⟨rfl, hb1⟩

theorem contract (H : Type) (enc : TypeId × Value → H) (W : World) (base : Nat) (args : Array Value) (ds gs : List (DataW H)) (before : List MemPlace)
    (hval : ∀ (j : Nat) t v, Try.f3.params[j]? = some t → args[j]? = some v → Value.okWide Try.prog W .any base t v)
    (hW : DataW.Whole enc Try.prog Try.f3.params.toList Rows.sectorPlaysSpec.vars false W args.toList ds gs before) :
    Calls Try.prog 3 args W fun e W' => ∃ v, e = .returned v ∧ Rows.sectorPlaysSpec.post enc Try.prog Try.f3 false true false false W args v W' := by
  have hW' := hW
  obtain ⟨p, q, hA0, hV, rfl, hfz, hnd⟩ := hW
  have hA : DataW.TrodAll enc Try.prog W 0 (fun _ => true) true Try.f3.params.toList args.toList ds p := hA0
  rw [Try.params3] at hA hval
  obtain ⟨x0, x1, d0, d1, p0, p1, rfl, rfl, rfl, h0, h1⟩ := trodAll_two hA
  obtain ⟨v0, rfl, rfl, rfl, wv0⟩ := open_int Try.underlying3 (hval 0 _ x0 rfl rfl) h0
  have i0 := int_of_wf wv0
  obtain ⟨A1, n1, c1, xs1, rfl, hn1, hc1, hm1, hr1, hi1⟩ := arg_acts (hval 1 _ x1 rfl rfl) h1
  have walk : Calls Try.prog 3 #[.int .i64 v0, .slice A1 n1 c1] W fun e w' => e = .returned (.bool true) ∧ Below W.heap.size W w' := law_any v0 i0 A1 n1 c1 xs1 hn1 (Nat.le_trans hc1 hm1) W hr1
  refine walk.mono fun e W' ⟨he, hb⟩ => ?_
  subst he
  exact ⟨_, rfl, law_post rfl rfl (by kernel_rfl) ⟨rfl, rfl, rfl⟩ hW' hb⟩

theorem laid_met (os : Os) : laidMet Try.prog Rows.sectorPlaysRow.laid ((plainWorld os).forCall (fun _ _ => 0) ⟨#[], #[.int .i64 0, .slice none 0 0], []⟩).memory :=
  laidMet_of_run' 8 (by kernel_rfl) (by kernel_rfl)
theorem reads (os : Os) {H : Type} (enc : TypeId × Value → H) : ∃ places, DataW.whole enc Try.prog ((plainWorld os).forCall (fun _ _ => 0) ⟨#[], #[.int .i64 0, .slice none 0 0], []⟩).memory Try.f3.params.toList Rows.sectorPlaysSpec.vars false #[Value.int .i64 0, .slice none 0 0].toList 8 = some ([.lit (.int .i64 0), .nil], [], places) :=
  ⟨[], by kernel_rfl⟩

set_option maxRecDepth 100000 in
theorem lifted (os : Os) (started : os.Started) (H : Type) (enc : TypeId × Value → H) (F : Stop.Interp) :
    ReturnsInHanded {} Try.checked os 3 .any ((OpenSpec.ofChange Rows.sectorPlaysSpec).preRow enc Try.prog Try.f3 Rows.sectorPlaysRow.domain false Rows.sectorPlaysRow.laid) (((OpenSpec.ofChange Rows.sectorPlaysSpec).at F).post enc Try.prog Try.f3 false true false false) := by
  obtain ⟨places, hx⟩ := reads os enc
  refine returnsInHanded_of_row (C := Try.checked) (s := OpenSpec.ofChange Rows.sectorPlaysSpec) own started (by kernel_rfl) Try.func3
    (witness_row_at (enc := enc) (C := Try.checked) false (plainWorld os) #[.int .i64 0, .slice none 0 0] rfl (by kernel_rfl) (by kernel_rfl) (by kernel_rfl)
      (OpenSpec.preRow_of_cond 8 hx (by kernel_rfl) (fun k hk => by cases hk) (by kernel_rfl) (laid_met os))) ?_
  intro W base args ds gs before hval hW _ _ _ _ _ _
  exact contract H enc W base args ds gs before hval hW

theorem said : Rows.SectorPlaysSaid :=
  OpenClaim.holds_of_cond 3 Try.f3 rfl rfl rfl rfl rfl rfl rfl ⟨rfl, rfl, rfl, rfl, rfl⟩ rfl rfl rfl rfl rfl (by kernel_rfl) Try.func3 (by kernel_rfl)
    (of_decide_eq_true (by kernel_rfl)) (by unfold Func.isWrapper; first | (rw [if_pos (by decide +kernel)]; kernel_rfl) | (rw [if_neg (by decide +kernel)]; exact ⟨rfl, rfl⟩))
    (fun os started H enc _ F => by rw [OpenClaim.pre_eq_preRow]; exact lifted os started H enc F)

end Go.Proofs.Ythicjnnlbnjjmaa.SectorPlays
