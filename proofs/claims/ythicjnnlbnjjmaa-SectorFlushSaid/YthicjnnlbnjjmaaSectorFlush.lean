/-
  SectorFlush holds for every list of acts and all picks: what was flushed lasts, whatever is picked. No condition.
-/
import Derived.Test.YthicjnnlbnjjmaaCopy
namespace Go.Proofs.Ythicjnnlbnjjmaa.SectorFlush
open Go Go.ChangeShapes Go.WideShapes Go.ChangeAt Go.RowKit Go.Proofs.Ythicjnnlbnjjmaa

theorem flush_one (S : Sec) : ∀ vs ∈ flushS S, vs.length ≤ 1 := fun vs hv => by
  obtain ⟨_, _, rfl⟩ := List.mem_map.1 hv
  simp
theorem wait_none {S : Sec} (h : ∀ vs ∈ S, vs.length ≤ 1) : waiting S = [] := by
  unfold waiting wl
  rw [List.filter_eq_nil_iff]
  intro i hi
  have hi' : i < S.length := by simpa using hi
  rw [pw_eq hi']
  have := h S[i] (List.getElem_mem hi')
  simp; omega
theorem crash_same {S : Sec} (h : ∀ vs ∈ S, vs.length ≤ 1) (ps : List Int) : crashS S ps = S := by
  refine List.ext_getElem (by simp [crashS]) fun i h1 h2 => ?_
  simp only [crashS, List.getElem_mapIdx]
  have := h S[i] (List.getElem_mem h2)
  rw [if_neg (by omega)]

set_option maxRecDepth 100000 in
set_option maxHeartbeats 8000000 in
theorem law_any (A : Option Addr) (m c : Nat) (acs : List ActD) (hm : m = acs.length) (hl : acs.length ≤ maxLen) (P : Option Addr) (np cp : Nat) (ps : List Int) (hnp : np = ps.length) (W : World) (h : Acts W A acs) (hP : Rd W P (ps.map iv)) (hpi : ∀ x ∈ ps, isInt x) :
    Calls Try.prog 5 #[.slice A m c, .slice P np cp] W fun e w' => e = .returned (.bool true) ∧ Below W.heap.size W w' := by
  subst hm hnp
  have hlong := long_any W A acs.length c acs rfl hl h
  replace hpi := Lib.hid hpi
  by_cases hbig : 200 < ps.length
  · have hbi : (200 : Int) < (ps.length : Int) := by omega
    go_enter Try.func5, Try.ntmps5
    go_wp2_with fail
    refine hlong.mono ?_
    rintro e w1 ⟨b, rfl, hb1⟩
    cases b
    all_goals
      go_wp2
      go_ret
      exact ⟨rfl, hb1⟩
  · have hd : decide ((200 : Int) < (ps.length : Int)) = false := decide_eq_false (by omega)
    go_enter Try.func5, Try.ntmps5
    go_wp2_with fail
    refine hlong.mono ?_
    rintro e w1 ⟨b, rfl, hb1⟩
    cases b
    · go_wp2_with fail
      refine (new_step 20 W w1 hb1 (by omega) (by omega)).mono ?_
      rintro e w2 ⟨gd, rfl, hI2, hb2⟩
      go_wp2_with fail
      refine (rnew_ok 20 w2 w2 (Below.refl _ _) (by omega) (by omega)).mono ?_
      rintro e w3 ⟨gx, rfl, hb23, hR3, _⟩
      have hb3 : Below W.heap.size W w3 := hb2.trans (hb23.mono hb2.size)
      have hT3 := Two.new hI2 hb2 hb3 hb23 hR3
      clear hlong hI2 hb1 hb2 hb23 hR3 hd
      go_wp2
      go_loopw [9] (fun i wr => ∃ (k : Nat) (S : Sec) (l : Int), k ≤ acs.length ∧ k ≤ 60 ∧ i = .int .i64 (k : Int) ∧ Two W wr (fun _ => False) gd gx S l S l ∧ Small (k + 1) S ∧ S.length = 20 ∧ Below W.heap.size W wr) (fun i _ => acs.length - (intOf i).toNat)
      case atStart => exact ⟨0, zeroS 20, -1, Nat.zero_le _, Nat.zero_le _, rfl, hT3, small_zero 20, by simp [zeroS], hb3⟩
      case round =>
        clear hT3 hb3
        obtain ⟨k, S, l, hk, hk60, rfl, hT, hS, hlen, hb⟩ := hrel
        by_cases hlt : k < acs.length ∧ k < 60
        · obtain ⟨hlt, hlt6⟩ := hlt
          obtain ⟨b, o, B, cB, P0, cP0, rfl, h0, h1, h2, h3, r4, r5, hok⟩ := h.at0 hb hlt
          have hki : (k : Int) < (acs.length : Int) := by omega
          have hki6 : (k : Int) < 60 := by omega
          have hact := act_any hT hb hS (by omega) acs[k] hok B cB P0 cP0 r4 r5 (by omega)
          go_wp2_with fail
          refine hact.mono ?_
          rintro e w4 ⟨rfl, ⟨S', l', hT4, hS4, hl4⟩, hb4⟩
          go_wp2
          go_roundw
          case rel => exact ⟨k + 1, S', l', by omega, by omega, by go_num, hT4, hS4, hl4.trans hlen, hb4⟩
          case measure => simp [intOf]; omega
        · obtain ⟨fI, fR, hI0, _, _, hf1, _⟩ := hT
          have hI := hI0.mono (fun k hk _ => hf1 k hk)
          clear hI0
          by_cases hke : k = acs.length
          · subst hke
            have hki : True := trivial
            go_wp2_with fail
            refine (fuse_step hI hb (-1) ⟨by omega, by omega⟩).mono ?_
            rintro e w4 ⟨rfl, hI4, hb4⟩
            rw [show max (-1 : Int) (-1) = -1 by rfl] at hI4
            have hfl := flush_step hI4 hb4 (small_mono hS (by omega))
            rw [show flushCode (-1) = 0 by rfl, if_neg (show ¬ (-1 : Int) = 0 by omega), show tick (-1) = -1 by rfl] at hfl
            go_wp2_with fail
            refine hfl.mono ?_
            rintro e w5 ⟨rfl, hI5, hb5⟩
            have hone := flush_one S
            have hSm : Small 1000000 (flushS S) := small_flush S (by omega)
            have hl5 : (flushS S).length = 20 := (flushS_length S).trans hlen
            obtain ⟨gc, B5, C5, hL5⟩ := id hI5
            have hcp := copy_any hL5 hSm (by omega)
            go_wp2_with fail
            refine hcp.mono ?_
            rintro e w6 ⟨gc', gcc, oo, KK, B6, C6, rfl, hV6, hb6⟩
            have hb56 := hb5.trans (hb6.mono hb5.size)
            have hcr := crash_all (hI5.ext hb6) hSm P ps.length cp ps rfl (rdF_born (w1 := w5) hP hb56) hpi.out
            rw [crash_same hone ps] at hcr
            go_wp2_with fail
            refine hcr.mono ?_
            rintro e w7 ⟨rfl, hI7, ho7⟩
            have hV7 := hV6.keep (w' := w7) (fun k hk hlt => ho7.block k hlt (fun hb => by have := hb.2; omega))
            have hb7 := hb56.trans (Born.below ho7 hb56.size)
            obtain ⟨gc7, B7, C7, hL7⟩ := hI7
            clear hcp hcr hfl hI4 hI5 hL5 hV6 hI hS
            generalize flushS S = T at hone hSm hl5 hV7 hL7
            go_wp2
            go_loopw [11, 12, 13, 14, 15] (fun i _ _ _ _ wr => ∃ n : Nat, n ≤ 20 ∧ i = .int .i64 (n : Int) ∧ Below w7.heap.size w7 wr) (fun i _ _ _ _ _ => 20 - (intOf i).toNat)
            case atStart => exact ⟨0, Nat.zero_le _, rfl, Below.refl _ _⟩
            case round =>
              obtain ⟨n, hn, rfl, hbr⟩ := hrel
              obtain ⟨wo, hwo⟩ : ∃ wo : World, wo = wr := ⟨_, rfl⟩
              subst hwo
              by_cases hn20 : n < 20
              · have hni : (n : Int) < 20 := by omega
                have hnT : n < T.length := by omega
                have hr1 := read_ok (hL7.ext hbr) hSm n hnT
                go_wp2_with fail
                refine hr1.mono ?_
                rintro e w8 ⟨g8, rfl, hb8, hk8, _⟩
                have hbr8 := hbr.trans (hb8.mono hbr.size)
                have hr2 := readOk_v (hV7.ext hbr8) hSm n hnT
                go_wp2_with fail
                refine hr2.mono ?_
                rintro e w9 ⟨g9, rfl, hb9, hk9, _⟩
                have hl64 : (lastOf T[n]).length = 64 := (hL7.wf T[n] (List.getElem_mem hnT)).2 _ (lastOf_mem (hL7.wf T[n] (List.getElem_mem hnT)).1)
                have hd8 : Rd w9 (some ⟨g8, 0, none⟩) ((lastOf T[n]).map bv) := (Rd.blk (w := w8) hk8).ext hb9
                have hd9 : Rd w9 (some ⟨g9, 0, none⟩) ((lastOf T[n]).map bv) := Rd.blk (w := w9) hk9
                have hcv1 := conv_bytes w9 (some ⟨g8, 0, none⟩) 64 64 (lastOf T[n]) hl64.symm hd8
                have hcv2 := conv_bytes w9 (some ⟨g9, 0, none⟩) 64 64 (lastOf T[n]) hl64.symm hd9
                generalize (⟨(lastOf T[n]).toArray⟩ : ByteArray) = Z at hcv1 hcv2
                clear hr1 hr2 hd8 hd9 hk8 hk9
                go_wp2
                go_roundw
                case rel => exact ⟨n + 1, by omega, by go_num, hbr8.trans (hb9.mono hbr8.size)⟩
                case measure => simp [intOf]; omega
              · obtain rfl : n = 20 := by omega
                have hwt := waiting_v (hV7.ext hbr) hSm
                rw [wait_none hone] at hwt
                go_wp2_with fail
                refine hwt.mono ?_
                rintro e w8 ⟨A8, c8, rfl, _, hb8, _⟩
                go_wp2_with fail
                refine (known_any w8).mono ?_
                rintro e w9 ⟨rfl, hb9⟩
                go_wp2
                go_ret
                have hbb := (hb7.trans (hbr.mono hb7.size))
                have hbb8 := hbb.trans (hb8.mono hbb.size)
                exact ⟨rfl, hbb8.trans (hb9.mono hbb8.size)⟩
          · obtain rfl : k = 60 := by omega
            have hki : (60 : Int) < (acs.length : Int) := by omega
            go_wp2_with fail
            refine (fuse_step hI hb (-1) ⟨by omega, by omega⟩).mono ?_
            rintro e w4 ⟨rfl, hI4, hb4⟩
            rw [show max (-1 : Int) (-1) = -1 by rfl] at hI4
            have hfl := flush_step hI4 hb4 (small_mono hS (by omega))
            rw [show flushCode (-1) = 0 by rfl, if_neg (show ¬ (-1 : Int) = 0 by omega), show tick (-1) = -1 by rfl] at hfl
            go_wp2_with fail
            refine hfl.mono ?_
            rintro e w5 ⟨rfl, hI5, hb5⟩
            have hone := flush_one S
            have hSm : Small 1000000 (flushS S) := small_flush S (by omega)
            have hl5 : (flushS S).length = 20 := (flushS_length S).trans hlen
            obtain ⟨gc, B5, C5, hL5⟩ := id hI5
            have hcp := copy_any hL5 hSm (by omega)
            go_wp2_with fail
            refine hcp.mono ?_
            rintro e w6 ⟨gc', gcc, oo, KK, B6, C6, rfl, hV6, hb6⟩
            have hb56 := hb5.trans (hb6.mono hb5.size)
            have hcr := crash_all (hI5.ext hb6) hSm P ps.length cp ps rfl (rdF_born (w1 := w5) hP hb56) hpi.out
            rw [crash_same hone ps] at hcr
            go_wp2_with fail
            refine hcr.mono ?_
            rintro e w7 ⟨rfl, hI7, ho7⟩
            have hV7 := hV6.keep (w' := w7) (fun k hk hlt => ho7.block k hlt (fun hb => by have := hb.2; omega))
            have hb7 := hb56.trans (Born.below ho7 hb56.size)
            obtain ⟨gc7, B7, C7, hL7⟩ := hI7
            clear hcp hcr hfl hI4 hI5 hL5 hV6 hI hS
            generalize flushS S = T at hone hSm hl5 hV7 hL7
            go_wp2
            go_loopw [11, 12, 13, 14, 15] (fun i _ _ _ _ wr => ∃ n : Nat, n ≤ 20 ∧ i = .int .i64 (n : Int) ∧ Below w7.heap.size w7 wr) (fun i _ _ _ _ _ => 20 - (intOf i).toNat)
            case atStart => exact ⟨0, Nat.zero_le _, rfl, Below.refl _ _⟩
            case round =>
              obtain ⟨n, hn, rfl, hbr⟩ := hrel
              obtain ⟨wo, hwo⟩ : ∃ wo : World, wo = wr := ⟨_, rfl⟩
              subst hwo
              by_cases hn20 : n < 20
              · have hni : (n : Int) < 20 := by omega
                have hnT : n < T.length := by omega
                have hr1 := read_ok (hL7.ext hbr) hSm n hnT
                go_wp2_with fail
                refine hr1.mono ?_
                rintro e w8 ⟨g8, rfl, hb8, hk8, _⟩
                have hbr8 := hbr.trans (hb8.mono hbr.size)
                have hr2 := readOk_v (hV7.ext hbr8) hSm n hnT
                go_wp2_with fail
                refine hr2.mono ?_
                rintro e w9 ⟨g9, rfl, hb9, hk9, _⟩
                have hl64 : (lastOf T[n]).length = 64 := (hL7.wf T[n] (List.getElem_mem hnT)).2 _ (lastOf_mem (hL7.wf T[n] (List.getElem_mem hnT)).1)
                have hd8 : Rd w9 (some ⟨g8, 0, none⟩) ((lastOf T[n]).map bv) := (Rd.blk (w := w8) hk8).ext hb9
                have hd9 : Rd w9 (some ⟨g9, 0, none⟩) ((lastOf T[n]).map bv) := Rd.blk (w := w9) hk9
                have hcv1 := conv_bytes w9 (some ⟨g8, 0, none⟩) 64 64 (lastOf T[n]) hl64.symm hd8
                have hcv2 := conv_bytes w9 (some ⟨g9, 0, none⟩) 64 64 (lastOf T[n]) hl64.symm hd9
                generalize (⟨(lastOf T[n]).toArray⟩ : ByteArray) = Z at hcv1 hcv2
                clear hr1 hr2 hd8 hd9 hk8 hk9
                go_wp2
                go_roundw
                case rel => exact ⟨n + 1, by omega, by go_num, hbr8.trans (hb9.mono hbr8.size)⟩
                case measure => simp [intOf]; omega
              · obtain rfl : n = 20 := by omega
                have hwt := waiting_v (hV7.ext hbr) hSm
                rw [wait_none hone] at hwt
                go_wp2_with fail
                refine hwt.mono ?_
                rintro e w8 ⟨A8, c8, rfl, _, hb8, _⟩
                go_wp2_with fail
                refine (known_any w8).mono ?_
                rintro e w9 ⟨rfl, hb9⟩
                go_wp2
                go_ret
                have hbb := (hb7.trans (hbr.mono hb7.size))
                have hbb8 := hbb.trans (hb8.mono hbb.size)
                exact ⟨rfl, hbb8.trans (hb9.mono hbb8.size)⟩
    · go_wp2
      go_ret
      exact ⟨rfl, hb1⟩

theorem contract (H : Type) (enc : TypeId × Value → H) (W : World) (base : Nat) (args : Array Value) (ds gs : List (DataW H)) (before : List MemPlace)
    (hval : ∀ (j : Nat) t v, Try.f5.params[j]? = some t → args[j]? = some v → Value.okWide Try.prog W .any base t v)
    (hW : DataW.Whole enc Try.prog Try.f5.params.toList Rows.sectorFlushSpec.vars false W args.toList ds gs before) :
    Calls Try.prog 5 args W fun e W' => ∃ v, e = .returned v ∧ Rows.sectorFlushSpec.post enc Try.prog Try.f5 false true false false W args v W' := by
  have hW' := hW
  obtain ⟨p, q, hA0, hV, rfl, hfz, hnd⟩ := hW
  have hA : DataW.TrodAll enc Try.prog W 0 (fun _ => true) true Try.f5.params.toList args.toList ds p := hA0
  rw [Try.params5] at hA hval
  obtain ⟨x0, x1, d0, d1, p0, p1, rfl, rfl, rfl, h0, h1⟩ := trodAll_two hA
  obtain ⟨A0, n0, c0, xs0, rfl, hn0, hc0, hm0, hr0, hi0⟩ := arg_acts (hval 0 _ x0 rfl rfl) h0
  obtain ⟨A1, n1, c1, xs1, rfl, hn1, hc1, hm1, hr1, hi1⟩ := arg_ints (hval 1 _ x1 rfl rfl) h1
  have walk : Calls Try.prog 5 #[.slice A0 n0 c0, .slice A1 n1 c1] W fun e w' => e = .returned (.bool true) ∧ Below W.heap.size W w' := law_any A0 n0 c0 xs0 hn0 (Nat.le_trans hc0 hm0) A1 n1 c1 xs1 hn1 W hr0 hr1 hi1
  refine walk.mono fun e W' ⟨he, hb⟩ => ?_
  subst he
  exact ⟨_, rfl, law_post rfl rfl (by kernel_rfl) ⟨rfl, rfl, rfl⟩ hW' hb⟩

theorem laid_met (os : Os) : laidMet Try.prog Rows.sectorFlushRow.laid ((plainWorld os).forCall (fun _ _ => 0) ⟨#[], #[.slice none 0 0, .slice none 0 0], []⟩).memory :=
  laidMet_of_run' 8 (by kernel_rfl) (by kernel_rfl)
theorem reads (os : Os) {H : Type} (enc : TypeId × Value → H) : ∃ places, DataW.whole enc Try.prog ((plainWorld os).forCall (fun _ _ => 0) ⟨#[], #[.slice none 0 0, .slice none 0 0], []⟩).memory Try.f5.params.toList Rows.sectorFlushSpec.vars false #[Value.slice none 0 0, .slice none 0 0].toList 8 = some ([.nil, .nil], [], places) :=
  ⟨[], by kernel_rfl⟩

set_option maxRecDepth 100000 in
theorem lifted (os : Os) (started : os.Started) (H : Type) (enc : TypeId × Value → H) (F : Stop.Interp) :
    ReturnsInHanded {} Try.checked os 5 .any ((OpenSpec.ofChange Rows.sectorFlushSpec).preRow enc Try.prog Try.f5 Rows.sectorFlushRow.domain false Rows.sectorFlushRow.laid) (((OpenSpec.ofChange Rows.sectorFlushSpec).at F).post enc Try.prog Try.f5 false true false false) := by
  obtain ⟨places, hx⟩ := reads os enc
  refine returnsInHanded_of_row (C := Try.checked) (s := OpenSpec.ofChange Rows.sectorFlushSpec) own started (by kernel_rfl) Try.func5
    (witness_row_at (enc := enc) (C := Try.checked) false (plainWorld os) #[.slice none 0 0, .slice none 0 0] rfl (by kernel_rfl) (by kernel_rfl) (by kernel_rfl)
      (OpenSpec.preRow_of_cond 8 hx (by kernel_rfl) (fun k hk => by cases hk) (by kernel_rfl) (laid_met os))) ?_
  intro W base args ds gs before hval hW _ _ _ _ _ _
  exact contract H enc W base args ds gs before hval hW

theorem said : Rows.SectorFlushSaid :=
  OpenClaim.holds_of_cond 5 Try.f5 rfl rfl rfl rfl rfl rfl rfl ⟨rfl, rfl, rfl, rfl, rfl⟩ rfl rfl rfl rfl rfl (by kernel_rfl) Try.func5 (by kernel_rfl)
    (of_decide_eq_true (by kernel_rfl)) (by unfold Func.isWrapper; first | (rw [if_pos (by decide +kernel)]; kernel_rfl) | (rw [if_neg (by decide +kernel)]; exact ⟨rfl, rfl⟩))
    (fun os started H enc _ F => by rw [OpenClaim.pre_eq_preRow]; exact lifted os started H enc F)

end Go.Proofs.Ythicjnnlbnjjmaa.SectorFlush
