/-
  SectorCrash holds for every list of acts and all picks: behind a crash each sector is what it was at the last flush, or one of the versions since, whole. No condition.
-/
import Derived.Test.YthicjnnlbnjjmaaAct
namespace Go.Proofs.Ythicjnnlbnjjmaa.SectorCrash
open Go Go.ChangeShapes Go.WideShapes Go.ChangeAt Go.RowKit Go.Proofs.Ythicjnnlbnjjmaa

theorem wait_none {S : Sec} (h : ∀ vs ∈ S, vs.length ≤ 1) : waiting S = [] := by
  unfold waiting wl
  rw [List.filter_eq_nil_iff]
  intro i hi
  have hi' : i < S.length := by simpa using hi
  rw [pw_eq hi']
  have := h S[i] (List.getElem_mem hi')
  simp; omega
theorem crash_one (S : Sec) (hwf : Wf S) (ps : List Int) : ∀ vs ∈ crashS S ps, vs.length ≤ 1 := fun vs hv => by
  obtain ⟨i, hi, rfl⟩ := List.mem_iff_getElem.1 hv
  simp only [crashS, List.getElem_mapIdx]
  split
  · simp
  · omega
theorem crash_last (S : Sec) (hwf : Wf S) (ps : List Int) (i : Nat) (hi : i < S.length) (hi' : i < (crashS S ps).length) : lastOf (crashS S ps)[i] ∈ S[i] := by
  simp only [crashS, List.getElem_mapIdx]
  have hw := (hwf S[i] (List.getElem_mem hi)).1
  split
  · show crashAt S ps i ∈ S[i]
    unfold crashAt
    have hSd : S.getD i [] = S[i] := by rw [List.getD_eq_getElem?_getD, List.getElem?_eq_getElem hi]; rfl
    rw [hSd]
    exact pickOf_mem hw _
  · exact lastOf_mem hw

/-- one of the first k versions? -/
def fnd (vs : List (List UInt8)) (F : List UInt8) (k : Nat) : Bool := (vs.take k).any (fun v => decide (v = F))
theorem fnd_zero (vs : List (List UInt8)) (F : List UInt8) : fnd vs F 0 = false := rfl
theorem fnd_succ (vs : List (List UInt8)) (F : List UInt8) (k : Nat) (h : k < vs.length) : fnd vs F (k + 1) = (fnd vs F k || decide (vs[k] = F)) := by
  unfold fnd
  rw [List.take_succ_eq_append_getElem h, List.any_append]
  simp
theorem fnd_all (vs : List (List UInt8)) (F : List UInt8) (h : F ∈ vs) : fnd vs F vs.length = true := by
  unfold fnd
  rw [List.take_length, List.any_eq_true]
  exact ⟨F, h, by simp⟩

set_option maxRecDepth 100000 in
set_option maxHeartbeats 8000000 in
theorem law_any (A : Option Addr) (m c : Nat) (acs : List ActD) (hm : m = acs.length) (hl : acs.length ≤ maxLen) (P : Option Addr) (np cp : Nat) (ps : List Int) (hnp : np = ps.length) (W : World) (h : Acts W A acs) (hP : Rd W P (ps.map iv)) (hpi : ∀ x ∈ ps, isInt x) :
    Calls Try.prog 4 #[.slice A m c, .slice P np cp] W fun e w' => e = .returned (.bool true) ∧ Below W.heap.size W w' := by
  subst hm hnp
  have hlong := long_any W A acs.length c acs rfl hl h
  replace hpi := Lib.hid hpi
  by_cases hbig : 200 < ps.length
  · have hbi : (200 : Int) < (ps.length : Int) := by omega
    go_enter Try.func4, Try.ntmps4
    go_wp2_with fail
    refine hlong.mono ?_
    rintro e w1 ⟨b, rfl, hb1⟩
    cases b
    all_goals
      go_wp2
      go_ret
      exact ⟨rfl, hb1⟩
  · have hd : decide ((200 : Int) < (ps.length : Int)) = false := decide_eq_false (by omega)
    go_enter Try.func4, Try.ntmps4
    go_wp2_with fail
    refine hlong.mono ?_
    rintro e w1 ⟨b, rfl, hb1⟩
    cases b
    · go_wp2_with fail
      refine (new_step 20 W w1 hb1 (by omega) (by omega)).mono ?_
      rintro e w2 ⟨gd, rfl, hI2, hb2⟩
      go_wp2_with fail
      refine (rnew_ok 20 w2 w2 (Below.refl _ _) (by omega) (by omega)).mono ?_
      rintro e w3 ⟨gx, rfl, hb23, hR3, _⟩
      have hb3 : Below W.heap.size W w3 := hb2.trans (hb23.mono hb2.size)
      have hT3 := Two.new hI2 hb2 hb3 hb23 hR3
      clear hlong hI2 hb1 hb2 hb23 hR3 hd
      go_wp2
      go_loopw [9] (fun i wr => ∃ (k : Nat) (S : Sec) (l : Int), k ≤ acs.length ∧ k ≤ 60 ∧ i = .int .i64 (k : Int) ∧ Two W wr (fun _ => False) gd gx S l S l ∧ Small (k + 1) S ∧ S.length = 20 ∧ Below W.heap.size W wr) (fun i _ => acs.length - (intOf i).toNat)
      case atStart => exact ⟨0, zeroS 20, -1, Nat.zero_le _, Nat.zero_le _, rfl, hT3, small_zero 20, by simp [zeroS], hb3⟩
      case round =>
        clear hT3 hb3
        obtain ⟨k, S, l, hk, hk60, rfl, hT, hS, hlen, hb⟩ := hrel
        by_cases hlt : k < acs.length ∧ k < 60
        · obtain ⟨hlt, hlt6⟩ := hlt
          obtain ⟨b, o, B, cB, P0, cP0, rfl, h0, h1, h2, h3, r4, r5, hok⟩ := h.at0 hb hlt
          have hki : (k : Int) < (acs.length : Int) := by omega
          have hki6 : (k : Int) < 60 := by omega
          have hact := act_any hT hb hS (by omega) acs[k] hok B cB P0 cP0 r4 r5 (by omega)
          go_wp2_with fail
          refine hact.mono ?_
          rintro e w4 ⟨rfl, ⟨S', l', hT4, hS4, hl4⟩, hb4⟩
          go_wp2
          go_roundw
          case rel => exact ⟨k + 1, S', l', by omega, by omega, by go_num, hT4, hS4, hl4.trans hlen, hb4⟩
          case measure => simp [intOf]; omega
        · by_cases hke : k = acs.length
          · subst hke
            go_wp2_with fail
            refine (two_crash hT hb (small_mono hS (by omega)) P _ cp ps rfl hP hpi.out).mono ?_
            rintro e w4 ⟨rfl, hT4, hb4, _⟩
            obtain ⟨fI, fR, hI4, hR4, _⟩ := id hT4
            obtain ⟨gc, B4, C4, hL4⟩ := id hI4
            have hwfS := hR4.wf
            have hS4 := small_mono (small_crash hS (by omega) ps) (show _ ≤ 1000000 by omega)
            have hwait := waiting_any hL4 hS4
            rw [wait_none (crash_one S hwfS ps)] at hwait
            go_wp2_with fail
            refine hwait.mono ?_
            rintro e w5 ⟨A5, c5, rfl, _, hb5, _⟩
            have hT5 := hT4.ext hb5
            have hbb5 := hb4.trans (hb5.mono hb4.size)
            clear hwait hT4 hI4 hR4 hL4 hT hb hb4 hb5
            go_wp2
            go_loopw [10, 11, 12, 13, 14] (fun i _ _ _ _ wr => ∃ n : Nat, n ≤ 20 ∧ i = .int .i64 (n : Int) ∧ Two W wr (fun _ => False) gd gx (crashS S ps) (-1) S l ∧ Below W.heap.size W wr) (fun i _ _ _ _ _ => 20 - (intOf i).toNat)
            case atStart => exact ⟨0, Nat.zero_le _, rfl, hT5, hbb5⟩
            case round =>
              clear hT5 hbb5
              obtain ⟨n, hn, rfl, hT, hb⟩ := hrel
              by_cases hn20 : n < 20
              · have hni : (n : Int) < 20 := by omega
                obtain ⟨fI, fR, hI, hR, _⟩ := id hT
                obtain ⟨gc, B5, C5, hL5⟩ := id hI
                have hnS : n < S.length := by omega
                have hnC : n < (crashS S ps).length := by rw [crashS_length]; exact hnS
                have hread := read_ok hL5 hS4 n hnC
                have hmem := crash_last S hwfS ps n hnS hnC
                obtain ⟨wo, hwo⟩ : ∃ wo : World, wo = wr := ⟨_, rfl⟩
                subst hwo
                go_wp2_with fail
                refine hread.mono ?_
                rintro e w7 ⟨g', rfl, hb7, hk7, _⟩
                have hT7 := hT.ext hb7
                have hbb7 := hb.trans (hb7.mono hb.size)
                obtain ⟨A7, c7, B7, C7, hR7⟩ := hR.ext hb7
                have hx0 : w7.cell? ⟨gx, 0, none⟩ = some (.slice A7 S.length c7) := hR7.dsk.cell 0
                rw [hlen] at hx0
                obtain ⟨b2, o2, rfl, hc2, _⟩ := hR7.row.there1 hnS
                have hcr := hc2 _ (rvals_get S B7 C7 hnS)
                have hcel := hR7.cel n hnS
                have hvl0 : S[n].length ≤ 1000 := Nat.le_trans (hS S[n] (List.getElem_mem hnS)) (by omega)
                have hF64 := (hwfS S[n] (List.getElem_mem hnS)).2 _ hmem
                generalize lastOf (crashS S ps)[n] = F at hmem hk7 hF64
                generalize S[n] = vs at hmem hcr hcel hvl0
                have hrdF : Rd w7 (some ⟨g', 0, none⟩) (F.map bv) := Rd.blk (w := w7) hk7
                have hcv := Lib.hid (show ∀ q, (convert 32 9 (.slice (some ⟨g', 0, none⟩) 64 64)).run Try.prog (w7.drewN q) = .ok (.string ⟨F.toArray⟩) (w7.drewN q) from fun q => conv_bytes _ _ _ _ F hF64.symm (hrdF.drewN q))
                have hall := fnd_all vs F hmem
                replace hall := Lib.hid hall
                have hsmall := hS4
                have hvl : vs.length ≤ 1000 := hvl0
                clear hI hR hL5 hread hT hk7 hrdF hsmall hmem
                go_wp2
                go_loopw [13, 14] (fun f j wr => ∃ (k q : Nat), k ≤ vs.length ∧ j = .int .i64 (k : Int) ∧ f = .bool (fnd vs F k) ∧ wr = w7.drewN q) (fun _ j _ => vs.length - (intOf j).toNat)
                case atStart => exact ⟨0, 0, Nat.zero_le _, rfl, rfl, rfl⟩
                case round =>
                  obtain ⟨k, q, hk, rfl, rfl, rfl⟩ := hrel
                  by_cases hkl : k < vs.length
                  · obtain ⟨b3, o3, hB3, hc3, _⟩ := hcel.there1 hkl
                    have hstr : w7.cell? ⟨b3, o3 + k, none⟩ = some (.string ⟨vs[k].toArray⟩) := hc3 _ (by rw [List.getElem?_map, List.getElem?_eq_getElem hkl]; rfl)
                    clear hc3
                    have hcr' := hcr
                    rw [hB3] at hcr'
                    have hsucc := Lib.hid (fnd_succ vs F k hkl)
                    have hkli : (k : Int) < (vs.length : Int) := by omega
                    have hcvq := hcv.out
                    cases hf : fnd vs F k with
                    | true =>
                      rw [hf] at hsucc
                      go_wp2_with fail
                      go_quiet (fail)
                      go_wp2
                      go_roundw
                      case rel => exact ⟨k + 1, _, by omega, by go_num, by rw [hsucc.out]; rfl, rfl⟩
                      case measure => simp [intOf]; omega
                    | false =>
                      rw [hf] at hsucc
                      by_cases heq : vs[k] = F
                      · rw [heq] at hstr
                        generalize (⟨F.toArray⟩ : ByteArray) = Z at hstr hcvq
                        go_wp2_with fail
                        go_quiet (fail)
                        go_wp2
                        go_roundw
                        case rel => exact ⟨k + 1, _, by omega, by go_num, by rw [hsucc.out, decide_eq_true heq]; rfl, rfl⟩
                        case measure => simp [intOf]; omega
                      · have hne : ((⟨vs[k].toArray⟩ : ByteArray).toList == (⟨F.toArray⟩ : ByteArray).toList) = false := by
                          rw [ByteArray.toList_mk, ByteArray.toList_mk]
                          simpa using heq
                        generalize (⟨F.toArray⟩ : ByteArray) = Z at hne hcvq
                        generalize (⟨vs[k].toArray⟩ : ByteArray) = Y at hne hstr
                        go_wp2_with fail
                        go_quiet (fail)
                        go_wp2
                        go_roundw
                        case rel => exact ⟨k + 1, _, by omega, by go_num, by rw [hsucc.out, decide_eq_false heq]; rfl, rfl⟩
                        case measure => simp [intOf]; omega
                  · obtain rfl : k = vs.length := by omega
                    rw [hall.out]
                    go_wp2
                    go_roundw
                    case rel => exact ⟨n + 1, by omega, by go_num, hT7.ext ⟨rfl, rfl, rfl, Nat.le_refl _, fun _ _ => rfl⟩, ext_drewN hbb7 q⟩
                    case measure => simp [intOf]; omega
              · obtain rfl : n = 20 := by omega
                go_wp2_with fail
                refine (known_any _).mono ?_
                rintro e w7 ⟨rfl, hb7⟩
                go_wp2
                go_ret
                exact ⟨rfl, hb.trans (hb7.mono hb.size)⟩
          · obtain rfl : k = 60 := by omega
            go_wp2_with fail
            refine (two_crash hT hb (small_mono hS (by omega)) P _ cp ps rfl hP hpi.out).mono ?_
            rintro e w4 ⟨rfl, hT4, hb4, _⟩
            obtain ⟨fI, fR, hI4, hR4, _⟩ := id hT4
            obtain ⟨gc, B4, C4, hL4⟩ := id hI4
            have hwfS := hR4.wf
            have hS4 := small_mono (small_crash hS (by omega) ps) (show _ ≤ 1000000 by omega)
            have hwait := waiting_any hL4 hS4
            rw [wait_none (crash_one S hwfS ps)] at hwait
            go_wp2_with fail
            refine hwait.mono ?_
            rintro e w5 ⟨A5, c5, rfl, _, hb5, _⟩
            have hT5 := hT4.ext hb5
            have hbb5 := hb4.trans (hb5.mono hb4.size)
            clear hwait hT4 hI4 hR4 hL4 hT hb hb4 hb5
            go_wp2
            go_loopw [10, 11, 12, 13, 14] (fun i _ _ _ _ wr => ∃ n : Nat, n ≤ 20 ∧ i = .int .i64 (n : Int) ∧ Two W wr (fun _ => False) gd gx (crashS S ps) (-1) S l ∧ Below W.heap.size W wr) (fun i _ _ _ _ _ => 20 - (intOf i).toNat)
            case atStart => exact ⟨0, Nat.zero_le _, rfl, hT5, hbb5⟩
            case round =>
              clear hT5 hbb5
              obtain ⟨n, hn, rfl, hT, hb⟩ := hrel
              by_cases hn20 : n < 20
              · have hni : (n : Int) < 20 := by omega
                obtain ⟨fI, fR, hI, hR, _⟩ := id hT
                obtain ⟨gc, B5, C5, hL5⟩ := id hI
                have hnS : n < S.length := by omega
                have hnC : n < (crashS S ps).length := by rw [crashS_length]; exact hnS
                have hread := read_ok hL5 hS4 n hnC
                have hmem := crash_last S hwfS ps n hnS hnC
                obtain ⟨wo, hwo⟩ : ∃ wo : World, wo = wr := ⟨_, rfl⟩
                subst hwo
                go_wp2_with fail
                refine hread.mono ?_
                rintro e w7 ⟨g', rfl, hb7, hk7, _⟩
                have hT7 := hT.ext hb7
                have hbb7 := hb.trans (hb7.mono hb.size)
                obtain ⟨A7, c7, B7, C7, hR7⟩ := hR.ext hb7
                have hx0 : w7.cell? ⟨gx, 0, none⟩ = some (.slice A7 S.length c7) := hR7.dsk.cell 0
                rw [hlen] at hx0
                obtain ⟨b2, o2, rfl, hc2, _⟩ := hR7.row.there1 hnS
                have hcr := hc2 _ (rvals_get S B7 C7 hnS)
                have hcel := hR7.cel n hnS
                have hvl0 : S[n].length ≤ 1000 := Nat.le_trans (hS S[n] (List.getElem_mem hnS)) (by omega)
                have hF64 := (hwfS S[n] (List.getElem_mem hnS)).2 _ hmem
                generalize lastOf (crashS S ps)[n] = F at hmem hk7 hF64
                generalize S[n] = vs at hmem hcr hcel hvl0
                have hrdF : Rd w7 (some ⟨g', 0, none⟩) (F.map bv) := Rd.blk (w := w7) hk7
                have hcv := Lib.hid (show ∀ q, (convert 32 9 (.slice (some ⟨g', 0, none⟩) 64 64)).run Try.prog (w7.drewN q) = .ok (.string ⟨F.toArray⟩) (w7.drewN q) from fun q => conv_bytes _ _ _ _ F hF64.symm (hrdF.drewN q))
                have hall := fnd_all vs F hmem
                replace hall := Lib.hid hall
                have hsmall := hS4
                have hvl : vs.length ≤ 1000 := hvl0
                clear hI hR hL5 hread hT hk7 hrdF hsmall hmem
                go_wp2
                go_loopw [13, 14] (fun f j wr => ∃ (k q : Nat), k ≤ vs.length ∧ j = .int .i64 (k : Int) ∧ f = .bool (fnd vs F k) ∧ wr = w7.drewN q) (fun _ j _ => vs.length - (intOf j).toNat)
                case atStart => exact ⟨0, 0, Nat.zero_le _, rfl, rfl, rfl⟩
                case round =>
                  obtain ⟨k, q, hk, rfl, rfl, rfl⟩ := hrel
                  by_cases hkl : k < vs.length
                  · obtain ⟨b3, o3, hB3, hc3, _⟩ := hcel.there1 hkl
                    have hstr : w7.cell? ⟨b3, o3 + k, none⟩ = some (.string ⟨vs[k].toArray⟩) := hc3 _ (by rw [List.getElem?_map, List.getElem?_eq_getElem hkl]; rfl)
                    clear hc3
                    have hcr' := hcr
                    rw [hB3] at hcr'
                    have hsucc := Lib.hid (fnd_succ vs F k hkl)
                    have hkli : (k : Int) < (vs.length : Int) := by omega
                    have hcvq := hcv.out
                    cases hf : fnd vs F k with
                    | true =>
                      rw [hf] at hsucc
                      go_wp2_with fail
                      go_quiet (fail)
                      go_wp2
                      go_roundw
                      case rel => exact ⟨k + 1, _, by omega, by go_num, by rw [hsucc.out]; rfl, rfl⟩
                      case measure => simp [intOf]; omega
                    | false =>
                      rw [hf] at hsucc
                      by_cases heq : vs[k] = F
                      · rw [heq] at hstr
                        generalize (⟨F.toArray⟩ : ByteArray) = Z at hstr hcvq
                        go_wp2_with fail
                        go_quiet (fail)
                        go_wp2
                        go_roundw
                        case rel => exact ⟨k + 1, _, by omega, by go_num, by rw [hsucc.out, decide_eq_true heq]; rfl, rfl⟩
                        case measure => simp [intOf]; omega
                      · have hne : ((⟨vs[k].toArray⟩ : ByteArray).toList == (⟨F.toArray⟩ : ByteArray).toList) = false := by
                          rw [ByteArray.toList_mk, ByteArray.toList_mk]
                          simpa using heq
                        generalize (⟨F.toArray⟩ : ByteArray) = Z at hne hcvq
                        generalize (⟨vs[k].toArray⟩ : ByteArray) = Y at hne hstr
                        go_wp2_with fail
                        go_quiet (fail)
                        go_wp2
                        go_roundw
                        case rel => exact ⟨k + 1, _, by omega, by go_num, by rw [hsucc.out, decide_eq_false heq]; rfl, rfl⟩
                        case measure => simp [intOf]; omega
                  · obtain rfl : k = vs.length := by omega
                    rw [hall.out]
                    go_wp2
                    go_roundw
                    case rel => exact ⟨n + 1, by omega, by go_num, hT7.ext ⟨rfl, rfl, rfl, Nat.le_refl _, fun _ _ => rfl⟩, ext_drewN hbb7 q⟩
                    case measure => simp [intOf]; omega
              · obtain rfl : n = 20 := by omega
                go_wp2_with fail
                refine (known_any _).mono ?_
                rintro e w7 ⟨rfl, hb7⟩
                go_wp2
                go_ret
                exact ⟨rfl, hb.trans (hb7.mono hb.size)⟩
    · go_wp2
      go_ret
      exact ⟨rfl, hb1⟩

theorem contract (H : Type) (enc : TypeId × Value → H) (W : World) (base : Nat) (args : Array Value) (ds gs : List (DataW H)) (before : List MemPlace)
    (hval : ∀ (j : Nat) t v, Try.f4.params[j]? = some t → args[j]? = some v → Value.okWide Try.prog W .any base t v)
    (hW : DataW.Whole enc Try.prog Try.f4.params.toList Rows.sectorCrashSpec.vars false W args.toList ds gs before) :
    Calls Try.prog 4 args W fun e W' => ∃ v, e = .returned v ∧ Rows.sectorCrashSpec.post enc Try.prog Try.f4 false true false false W args v W' := by
  have hW' := hW
  obtain ⟨p, q, hA0, hV, rfl, hfz, hnd⟩ := hW
  have hA : DataW.TrodAll enc Try.prog W 0 (fun _ => true) true Try.f4.params.toList args.toList ds p := hA0
  rw [Try.params4] at hA hval
  obtain ⟨x0, x1, d0, d1, p0, p1, rfl, rfl, rfl, h0, h1⟩ := trodAll_two hA
  obtain ⟨A0, n0, c0, xs0, rfl, hn0, hc0, hm0, hr0, hi0⟩ := arg_acts (hval 0 _ x0 rfl rfl) h0
  obtain ⟨A1, n1, c1, xs1, rfl, hn1, hc1, hm1, hr1, hi1⟩ := arg_ints (hval 1 _ x1 rfl rfl) h1
  have walk : Calls Try.prog 4 #[.slice A0 n0 c0, .slice A1 n1 c1] W fun e w' => e = .returned (.bool true) ∧ Below W.heap.size W w' := law_any A0 n0 c0 xs0 hn0 (Nat.le_trans hc0 hm0) A1 n1 c1 xs1 hn1 W hr0 hr1 hi1
  refine walk.mono fun e W' ⟨he, hb⟩ => ?_
  subst he
  exact ⟨_, rfl, law_post rfl rfl (by kernel_rfl) ⟨rfl, rfl, rfl⟩ hW' hb⟩

theorem laid_met (os : Os) : laidMet Try.prog Rows.sectorCrashRow.laid ((plainWorld os).forCall (fun _ _ => 0) ⟨#[], #[.slice none 0 0, .slice none 0 0], []⟩).memory :=
  laidMet_of_run' 8 (by kernel_rfl) (by kernel_rfl)
theorem reads (os : Os) {H : Type} (enc : TypeId × Value → H) : ∃ places, DataW.whole enc Try.prog ((plainWorld os).forCall (fun _ _ => 0) ⟨#[], #[.slice none 0 0, .slice none 0 0], []⟩).memory Try.f4.params.toList Rows.sectorCrashSpec.vars false #[Value.slice none 0 0, .slice none 0 0].toList 8 = some ([.nil, .nil], [], places) :=
  ⟨[], by kernel_rfl⟩

set_option maxRecDepth 100000 in
theorem lifted (os : Os) (started : os.Started) (H : Type) (enc : TypeId × Value → H) (F : Stop.Interp) :
    ReturnsInHanded {} Try.checked os 4 .any ((OpenSpec.ofChange Rows.sectorCrashSpec).preRow enc Try.prog Try.f4 Rows.sectorCrashRow.domain false Rows.sectorCrashRow.laid) (((OpenSpec.ofChange Rows.sectorCrashSpec).at F).post enc Try.prog Try.f4 false true false false) := by
  obtain ⟨places, hx⟩ := reads os enc
  refine returnsInHanded_of_row (C := Try.checked) (s := OpenSpec.ofChange Rows.sectorCrashSpec) own started (by kernel_rfl) Try.func4
    (witness_row_at (enc := enc) (C := Try.checked) false (plainWorld os) #[.slice none 0 0, .slice none 0 0] rfl (by kernel_rfl) (by kernel_rfl) (by kernel_rfl)
      (OpenSpec.preRow_of_cond 8 hx (by kernel_rfl) (fun k hk => by cases hk) (by kernel_rfl) (laid_met os))) ?_
  intro W base args ds gs before hval hW _ _ _ _ _ _
  exact contract H enc W base args ds gs before hval hW

theorem said : Rows.SectorCrashSaid :=
  OpenClaim.holds_of_cond 4 Try.f4 rfl rfl rfl rfl rfl rfl rfl ⟨rfl, rfl, rfl, rfl, rfl⟩ rfl rfl rfl rfl rfl (by kernel_rfl) Try.func4 (by kernel_rfl)
    (of_decide_eq_true (by kernel_rfl)) (by unfold Func.isWrapper; first | (rw [if_pos (by decide +kernel)]; kernel_rfl) | (rw [if_neg (by decide +kernel)]; exact ⟨rfl, rfl⟩))
    (fun os started H enc _ F => by rw [OpenClaim.pre_eq_preRow]; exact lifted os started H enc F)

end Go.Proofs.Ythicjnnlbnjjmaa.SectorCrash
