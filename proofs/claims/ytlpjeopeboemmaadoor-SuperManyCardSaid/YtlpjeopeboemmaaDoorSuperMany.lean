/-
  PROVED HERE: SuperMany's tied card (the first form, every argument): behind as many commits as one likes the last image is told, and its number is how many there were, and one.
  Conditions: none of our own; the card's row lists the table octet.crcSteps, which the card ties to the program's text.
-/
import Derived.Test.YtlpjeopeboemmaaDoorStep
import Derived.Test.YtlpjeopeboemmaaDoorArgs
namespace Go.Proofs.YtlpjeopeboemmaaDoor.SuperMany
open Go Go.ChangeShapes Go.WideShapes Go.ChangeAt Go.RowKit

set_option maxRecDepth 100000 in
set_option maxHeartbeats 4000000 in
theorem walk (A : Option Addr) (n c : Nat) (xss : List (List UInt8)) (W : World) (ht : Tab W) (hn : n = xss.length) (hr : RowsF (fun _ => False) W A xss) (hm : ∀ xs ∈ xss, xs.length ≤ maxLen) (hl : xss.length ≤ 40) :
    Calls Tryd.prog 10 #[.slice A n c] W fun e w' => e = .returned (.bool true) ∧ Below W.heap.size W w' := by
  subst hn
  have Hm := Lib.hid hm
  have hnew := new_step 32 W W (Below.refl _ _) (by omega) (by omega)
  have Hnew := Lib.hid hnew
  clear hnew hm
  have hli : (xss.length : Int) ≤ 40 := by omega
  go_enter Tryd.func10, Tryd.ntmps10
  go_wp2_with fail
  refine Hnew.out.mono ?_
  rintro e w1 ⟨gd, rfl, hI1, hb1⟩
  go_wp2_with fail
  refine (step_format hI1 hb1 ht (small_mono (small_zero 32) (by omega)) (by simp [zeroS]) (Below.refl _ _) none 0 0 [] ⟨rfl, Nat.le_refl _, Rd.nil _ _⟩ (fun ad e => by cases e) (by decide)).mono ?_
  rintro e w2 ⟨g, s0, rfl, hO0, hA0, hi0, hN0, -, hl0, -, -, -⟩
  go_wp2
  go_loopw [7, 8, 9] (fun sl nn i wr => ∃ (k : Nat) (s : SupS), k ≤ xss.length ∧ i = .int .i64 (k : Int) ∧ sl = strV s.img ∧ nn = .int .i64 (s.N : Int) ∧ Own3 W wr g gd s ∧ Alive s ∧ s.l = -1 ∧ s.N ≤ k + 1) (fun _ _ i _ => xss.length - (intOf i).toNat)
  case atStart => exact ⟨0, s0, Nat.zero_le _, rfl, by rw [hi0]; rfl, by rw [hN0]; rfl, hO0, hA0, hl0, by omega⟩
  case round =>
    obtain ⟨k, s, hk, rfl, rfl, rfl, hO, hA, hsl, hN⟩ := hrel
    clear hO0 hA0 hi0 hN0 hl0 hI1 hb1
    by_cases hlt : k < xss.length
    · have hki : (k : Int) < (xss.length : Int) := by omega
      obtain ⟨ad, B, cb, rfl, hcellW, hlc, hrdW⟩ := hr.at_ hlt
      have hcell := cell_ext hcellW hO.bel
      have hmx := Hm.out xss[k] (List.getElem_mem hlt)
      unfold maxLen at hmx
      have hB : Bs wr B xss[k].length cb xss[k] := ⟨rfl, hlc, hrdW.1.ext hO.bel⟩
      have hcm := step_commit hO (hA.small _ (by omega)) B _ cb xss[k] hB (Hm.out xss[k] (List.getElem_mem hlt))
      by_cases h8 : 814 < xss[k].length
      · have hi8 : (814 : Int) < (xss[k].length : Int) := by omega
        rw [commit_refused hA.dead _ (.inl h8)] at hcm
        have Hcm := Lib.hid hcm
        clear hcm hB h8 hmx hcellW hrdW
        generalize xss[k] = bs at *
        go_wp2_with fail
        refine Hcm.out.mono ?_
        rintro e w3 ⟨rfl, hO3⟩
        go_wp2
        go_roundw
        case rel => exact ⟨k + 1, s, by omega, by go_num, rfl, rfl, hO3, hA, hsl, by omega⟩
        case measure => simp [intOf]; omega
      · have hi8 : (xss[k].length : Int) ≤ 814 := by omega
        rcases commit_sem hA xss[k] (by omega) (by omega) with ⟨s2, e2, hA2, hi2, hN2, hl2, hsl2, -, -, -⟩ | ⟨h0, _⟩
        case inr => omega
        rw [e2] at hcm
        have Hcm := Lib.hid hcm
        have hcv : ∀ w', Below W.heap.size W w' → (convert 22 9 (.slice B xss[k].length cb)).run Tryd.prog w' = .ok (.string ⟨xss[k].toArray⟩) w' := fun w' hw => conv_bytes w' B _ cb xss[k] rfl (hrdW.1.ext hw)
        have Hcv := Lib.hid hcv
        have hcell' : ∀ w', Below W.heap.size W w' → w'.cell? (ad.add k) = some (.slice B xss[k].length cb) := fun w' hw => cell_ext hcellW hw
        have Hcell := Lib.hid hcell'
        have hs2 : strV s2.img = .string ⟨xss[k].toArray⟩ := by rw [hi2]; rfl
        have Hs2 := Lib.hid hs2
        have hNi : (s.N : Int) ≤ 41 := by omega
        clear hcm hB h8 hmx e2 hcv hcell' hi2 hs2 hcellW hrdW
        generalize xss[k] = bs at *
        generalize (⟨bs.toArray⟩ : ByteArray) = Z at *
        go_wp2_with fail
        refine Hcm.out.mono ?_
        rintro e w3 ⟨rfl, hO3⟩
        have q1 := Hcell.out w3 hO3.bel
        have q2 := Hcv.out w3 hO3.bel
        go_wp2
        go_roundw
        case rel => exact ⟨k + 1, s2, by omega, by go_num, Hs2.out.symm, congrArg (Value.int .i64) (by rw [hN2]; rfl), hO3, hA2, hsl2 hsl, by omega⟩
        case measure => simp [intOf]; omega
    · obtain rfl : k = xss.length := by omega
      have hop := step_open hO.imp hO.bel ht (hA.small _ (by omega)) hA.len hA.tells
      have Hop := Lib.hid hop
      have hdead := hA.dead
      obtain ⟨S, l, img, N, slot, dead⟩ := s
      dsimp only at *
      subst hdead
      have hstr : strV img = .string ⟨img.toArray⟩ := rfl
      rw [hstr]
      have hNi : (N : Int) ≤ 41 := by omega
      clear hop hstr hN
      go_wp2_with fail
      refine Hop.out.mono ?_
      rintro e w4 ⟨g4, rfl, hO4, hb4⟩
      have hOo := hO.ext hb4
      go_wp2_with fail
      refine (step_image hO4).mono ?_
      rintro e w5 ⟨A5, c5, rfl, hB5, hO5, hb5⟩
      have hOo5 := hOo.ext hb5
      have hcv := conv_bytes w5 A5 _ c5 img rfl hB5.2.2
      dsimp only at hcv hB5 ⊢
      clear hB5
      have Hcv := Lib.hid hcv
      clear hcv
      have hcv := Hcv.out
      have himg := (step_image hOo5)
      dsimp only at himg
      have Himg := Lib.hid himg
      have hnum := number_of hO5.sup
      dsimp only at hnum
      have Hnum := Lib.hid hnum
      clear himg hnum
      generalize hZ : (⟨img.toArray⟩ : ByteArray) = Z at *
      have HZ := Lib.hid hZ
      clear hZ
      go_wp2_with fail
      refine Hnum.out.mono ?_
      rintro e w6 ⟨rfl, rfl⟩
      go_wp2_with fail
      refine Himg.out.mono ?_
      rintro e w6 ⟨A6, c6, rfl, hB6, hO6, hb6⟩
      have hcv6 := conv_bytes w6 A6 _ c6 img rfl hB6.2.2
      rw [HZ.out] at hcv6
      have hdd := dead_of hO6.sup
      dsimp only at hdd
      have Hdd := Lib.hid hdd
      have hkn := known_any w6 hO6.tb
      have Hkn := Lib.hid hkn
      clear hdd hkn hB6 hcv
      go_wp2_with fail
      refine Hdd.out.mono ?_
      rintro e w7 ⟨rfl, rfl⟩
      go_wp2_with fail
      refine Hkn.out.mono ?_
      rintro e w8 ⟨rfl, hb8⟩
      go_wp2
      go_ret
      exact ⟨rfl, ext_trans hO6.bel hb8⟩
theorem walk_big (A : Option Addr) (n c : Nat) (xss : List (List UInt8)) (W : World) (hn : n = xss.length) (hl : 40 < xss.length) :
    Calls Tryd.prog 10 #[.slice A n c] W fun e w' => e = .returned (.bool true) ∧ Below W.heap.size W w' := by
  subst hn
  have hli : (40 : Int) < (xss.length : Int) := by omega
  go_enter Tryd.func10, Tryd.ntmps10
  go_wp2
  go_ret
  exact ⟨rfl, Below.refl _ _⟩
theorem walk_all (A : Option Addr) (n c : Nat) (xss : List (List UInt8)) (W : World) (ht : Tab W) (hn : n = xss.length) (hr : RowsF (fun _ => False) W A xss) (hm : ∀ xs ∈ xss, xs.length ≤ maxLen) :
    Calls Tryd.prog 10 #[.slice A n c] W fun e w' => e = .returned (.bool true) ∧ Below W.heap.size W w' := by
  by_cases h : 40 < xss.length
  · exact walk_big A n c xss W hn h
  · exact walk A n c xss W ht hn hr hm (by omega)

set_option maxRecDepth 100000 in
theorem contract (H : Type) (enc : TypeId × Value → H) (W : World) (base : Nat) (args : Array Value) (ds gs : List (DataW H)) (before : List MemPlace)
    (hval : ∀ (j : Nat) t v, Tryd.f10.params[j]? = some t → args[j]? = some v → Value.okWide Tryd.prog W .any base t v)
    (hW : DataW.Whole enc Tryd.prog Tryd.f10.params.toList Rows.superManySpec.vars false W args.toList ds gs before) (hL : laidMetH Tryd.prog Rows.superManyRow.laid W) :
    Calls Tryd.prog 10 args W fun e W' => ∃ v, e = .returned v ∧ Rows.superManySpec.post enc Tryd.prog Tryd.f10 false true false false W args v W' := by
  have ht : Tab W := tab_of_laid hL
  have hW' := hW
  obtain ⟨p, q, hA0, hV, rfl, hfz, hnd⟩ := hW
  have hA : DataW.TrodAll enc Tryd.prog W 0 (fun _ => true) true Tryd.f10.params.toList args.toList ds p := hA0
  rw [Tryd.params10] at hA hval
  obtain ⟨x0, d0, rfl, rfl, h0⟩ := trodAll_one hA
  obtain ⟨A0, n0, c0, xs0, rfl, hn0, hc0, hm0, hr0, hi0⟩ := arg_rows (hval 0 _ x0 rfl rfl) h0
  have walk : Calls Tryd.prog 10 #[.slice A0 n0 c0] W fun e w' => e = .returned (.bool true) ∧ Below W.heap.size W w' := walk_all A0 n0 c0 xs0 W ht hn0 hr0 hi0
  refine walk.mono fun e W' ⟨he, hb⟩ => ?_
  subst he
  exact ⟨_, rfl, law_post rfl rfl (by kernel_rfl) ⟨rfl, rfl, rfl⟩ hW' hb⟩

theorem laid_met (os : Os) : laidMet Tryd.prog Rows.superManyRow.laid ((laidWorld os).forCall (fun _ _ => 0) ⟨#[], #[.slice none 0 0], []⟩).memory :=
  laidMet_of_run' 8 (by kernel_rfl) (by kernel_rfl)
theorem reads (os : Os) {H : Type} (enc : TypeId × Value → H) : ∃ places, DataW.whole enc Tryd.prog ((laidWorld os).forCall (fun _ _ => 0) ⟨#[], #[.slice none 0 0], []⟩).memory Tryd.f10.params.toList Rows.superManySpec.vars false #[Value.slice none 0 0].toList 8 = some ([.nil], [], places) :=
  ⟨[], by kernel_rfl⟩

set_option maxRecDepth 100000 in
theorem lifted (os : Os) (started : os.Started) (H : Type) (enc : TypeId × Value → H) (F : Stop.Interp) :
    ReturnsInHanded {} Tryd.checked os 10 .any ((OpenSpec.ofChange Rows.superManySpec).preRow enc Tryd.prog Tryd.f10 Rows.superManyRow.domain false Rows.superManyRow.laid) (((OpenSpec.ofChange Rows.superManySpec).at F).post enc Tryd.prog Tryd.f10 false true false false) := by
  obtain ⟨places, hx⟩ := reads os enc
  refine returnsInHanded_of_row (C := Tryd.checked) (s := OpenSpec.ofChange Rows.superManySpec) own started (by kernel_rfl) Tryd.func10
    (witness_row_at (enc := enc) (C := Tryd.checked) false (laidWorld os) #[.slice none 0 0] rfl (by kernel_rfl) (by kernel_rfl) (by kernel_rfl)
      (OpenSpec.preRow_of_cond 8 hx (by kernel_rfl) (fun k hk => by cases hk) (by kernel_rfl) (laid_met os))) ?_
  intro W base args ds gs before hval hW _ _ _ hL _ _
  exact contract H enc W base args ds gs before hval hW hL

theorem said : Rows.SuperManySaid :=
  OpenClaim.holds_of_cond 10 Tryd.f10 rfl rfl rfl rfl rfl rfl rfl ⟨rfl, rfl, rfl, rfl, rfl⟩ rfl rfl rfl rfl rfl (by kernel_rfl) Tryd.func10 (by kernel_rfl)
    (of_decide_eq_true (by kernel_rfl)) (by unfold Func.isWrapper; first | (rw [if_pos (by decide +kernel)]; kernel_rfl) | (rw [if_neg (by decide +kernel)]; exact ⟨rfl, rfl⟩))
    (fun os started H enc _ F => by rw [OpenClaim.pre_eq_preRow]; exact lifted os started H enc F)

theorem plain (f : FuncId) (fn : Func) (hf : Tryd.pinned.checked.prog.funcNamed "winnower/winnowerlaw3.SuperMany" = some f) (hfn : Tryd.pinned.checked.prog.funcs[f]? = some fn) :
    false = Tryd.pinned.checked.prog.looks [] ∧ ∀ (j : Nat) t, fn.params[j]? = some t → Tryd.pinned.checked.prog.wantsStandIn t = false := by
  obtain rfl : f = 10 := Option.some.inj ((show Tryd.prog.funcNamed "winnower/winnowerlaw3.SuperMany" = some 10 by kernel_rfl).symm.trans hf) |>.symm
  obtain rfl : fn = Tryd.f10 := (Option.some.inj (Tryd.func10.symm.trans hfn)).symm
  refine ⟨by kernel_rfl, fun j t ht => ?_⟩
  have hall : Tryd.f10.params.all (fun t => !Tryd.prog.wantsStandIn t) = true := by kernel_rfl
  have h1 := Array.all_eq_true'.1 hall t (Array.mem_of_getElem? ht)
  have h2 : Tryd.prog.wantsStandIn t = false := by simpa using h1
  exact h2

/-- THE CARD -/
theorem superMany_card : Rows.SuperManyCardSaid :=
  Claim7.holds_tied_plain_at .later [] _ _ _ _ said (fun _ h => by cases h) (by kernel_rfl) (fun _ h => by cases h) superMany_row_tie rfl ⟨rfl, rfl⟩ (by kernel_rfl) rfl plain (by kernel_rfl)
end Go.Proofs.YtlpjeopeboemmaaDoor.SuperMany
