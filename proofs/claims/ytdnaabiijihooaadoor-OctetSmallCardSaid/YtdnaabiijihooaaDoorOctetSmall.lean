/-
  PROVED HERE: OctetSmall's tied card (the first form, every argument): a number has as few bytes as it can; its first byte tells whether it is below 128.
  Conditions: none of our own; the card's row lists the table octet.crcSteps, which the card ties to the program's text.
-/
import Derived.Test.YtdnaabiijihooaaDoorKnown
import Derived.Test.YtdnaabiijihooaaDoorArgs
namespace Go.Proofs.YtdnaabiijihooaaDoor.OctetSmall
open Go Go.ChangeShapes Go.WideShapes Go.ChangeAt Go.RowKit

set_option maxHeartbeats 2000000 in
theorem walk_low (v : Int) (w : World) (ht : Tab w) (hv : v < 0) : Calls Tryd.prog 9 #[.int .i64 v] w fun e w' => e = .returned (.bool true) ∧ Below w.heap.size w w' := by
  go_enter Tryd.func9, Tryd.ntmps9
  go_wp2_with (go_at_call 20; refine (known_any _ ht).mono ?_; rintro e w3 ⟨rfl, hb3⟩)
  go_ret
  exact ⟨rfl, hb3⟩
set_option maxHeartbeats 2000000 in
theorem walk_high (v : Int) (w : World) (ht : Tab w) (hv : 4611686018427387904 < v) : Calls Tryd.prog 9 #[.int .i64 v] w fun e w' => e = .returned (.bool true) ∧ Below w.heap.size w w' := by
  have h0 : ¬ v < 0 := by omega
  go_enter Tryd.func9, Tryd.ntmps9
  go_wp2_with (go_at_call 20; refine (known_any _ ht).mono ?_; rintro e w3 ⟨rfl, hb3⟩)
  go_ret
  exact ⟨rfl, hb3⟩
set_option maxRecDepth 100000 in
set_option maxHeartbeats 2000000 in
theorem walk_mid (m : Nat) (w : World) (ht : Tab w) (hv : (m : Int) ≤ 4611686018427387904) : Calls Tryd.prog 9 #[.int .i64 (m : Int)] w fun e w' => e = .returned (.bool true) ∧ Below w.heap.size w w' := by
  go_enter Tryd.func9, Tryd.ntmps9
  go_wp2_with fail
  have hw0 := (Wr.new w (fun k => k = w.heap.size) rfl).alloc (.cells #[.int .i64 (m : Int)] 3)
  refine (nums_any _ _ _ 1 1 [(m : Int)] [] _ hw0 rfl (RdF.lit _ #[.int .i64 (m : Int)] _ (by simp) (by simp)) (by simp [isInt]; omega) (by simp)).mono ?_
  rintro e w1 ⟨rfl, hw1, ho1⟩
  have hnb : numsB [(m : Int)] = dig m := by simp [numsB, clamp_of_nat (show m ≤ 4611686018427387904 by omega)]
  rw [List.nil_append, hnb] at hw1
  have hs1 := ho1.size
  simp only [World.size_alloc] at hs1
  have hb1 : Below w.heap.size w w1 := (((Below.refl _ _).alloc (Nat.le_refl _) _).alloc (by simp) _).trans (ho1.below (by intro i hi; omega) (by simp; omega))
  have hlen9 : (dig m).length ≤ 9 := by have := dig_clamp_len (m : Int); rwa [clamp_of_nat (by omega)] at this
  clear hw0 ho1 hnb
  go_wp2_with fail
  refine (out_any _ _ _ _ hw1 (by omega)).mono ?_
  rintro e w2 ⟨A2, c2, rfl, hn2, hb2⟩
  have hb2' : Below w.heap.size w w2 := hb1.trans (hb2.mono (by omega))
  have hle := Lib.hid (dig_len_eq m)
  have ht2 := ht.ext hb2'
  go_wp2
  go_loop [5, 6] (fun n x => ∃ k j : Nat, x = .int .i64 (k : Int) ∧ n = .int .i64 (j : Int) ∧ j + dlen k = (dig m).length ∧ k ≤ 4611686018427387904) (fun _ x => (intOf x).toNat)
  case atStart => exact ⟨m / 128, 1, by go_num, rfl, hle.out.symm, by omega⟩
  case round =>
    obtain ⟨k, j, rfl, rfl, hj, hk⟩ := hrel
    by_cases hpos : 0 < k
    · have hd := dlen_pos hpos
      have Hj := Lib.hid (show j + 1 + dlen (k / 128) = (dig m).length by omega)
      have hj9 : j ≤ 9 := by omega
      clear hj hd
      go_wp2
      go_round
      case rel => exact ⟨k / 128, j + 1, by go_num, by go_num, Hj.out, by omega⟩
      case measure => simp [intOf]; omega
    · obtain rfl : k = 0 := by omega
      have hj2 : j = (dig m).length := by simpa [dlen] using hj
      subst hj2
      clear hj
      by_cases hm : m < 128
      · have hd := dig_lt hm
        rw [hd] at hn2 ⊢
        obtain ⟨ad, rfl, hc0⟩ := hn2.rd.at_ (k := 0) (by simp)
        have hc1 := hc0
        have h0' : ad.add 0 = ad := by simp [Addr.add]
        rw [h0'] at hc1
        have hm' : (m : Int) < 128 := by omega
        simp only [List.map_cons, List.map_nil, List.getElem_cons_zero, ← last_digit m hm] at hc0 hc1
        clear hd h0' hle hlen9 hw1 hn2
        go_wp2_with (go_at_call 20; refine (known_any _ ht2).mono ?_; rintro e w3 ⟨rfl, hb3⟩)
        go_ret
        exact ⟨rfl, ext_trans hb2' hb3⟩
      · obtain ⟨u, r, hd, hu, -⟩ := dig_first m hm
        obtain ⟨p, z, hz, hz0⟩ := dig_last m m (Nat.le_refl _) (by omega)
        have hl2 : 2 ≤ (dig m).length := by rw [dig_ge hm, List.length_cons]; have := dig_pos (m / 128); omega
        obtain ⟨ad, rfl, hc0⟩ := hn2.rd.at_ (k := 0) (by simp; omega)
        have hcl : w2.cell? (ad.add p.length) = some (bv z) := by
          obtain ⟨ad', e, h⟩ := hn2.rd p.length (bv z) (by rw [hz]; simp)
          injection e with e
          rw [e]; exact h
        have hc1 : w2.cell? ad = some (bv u) := by
          have h0' : ad.add 0 = ad := by simp [Addr.add]
          rw [← h0', hc0]; simp [hd]
        have hc2 : w2.cell? (ad.add 0) = some (bv u) := by rw [hc0]; simp [hd]
        have hpl : (dig m).length = p.length + 1 := by rw [hz]; simp
        rw [hpl] at hl2 hlen9 ⊢
        generalize p.length = l at *
        have hl1 : (1 : Int) ≤ (l : Int) := by omega
        have hl9 : (l : Int) ≤ 9 := by omega
        unfold bv at hcl hc1 hc2
        have hm' : ¬ (m : Int) < 128 := by omega
        have hmb : decide ((m : Int) < 128) = false := by simpa using hm'
        have hu' : ¬ (u.toNat : Int) < 128 := by omega
        have hub : decide ((u.toNat : Int) < 128) = false := by simpa using hu'
        have hz1 : ((z.toNat : Int) != 0) = true := by rw [bne_iff_ne]; omega
        have hz2 : ((z.toNat : Int) == 0) = false := beq_eq_false_iff_ne.2 (by omega)
        have hlb : ((l : Int) + 1 == 1) = false := beq_eq_false_iff_ne.2 (by omega)
        clear hc0 hd hz hpl hle hlen9 hw1 hn2 hl2
        go_wp2_with (go_at_call 20; refine (known_any _ ht2).mono ?_; rintro e w3 ⟨rfl, hb3⟩)
        go_ret
        exact ⟨rfl, ext_trans hb2' hb3⟩

theorem walk (v : Int) (w : World) (ht : Tab w) : Calls Tryd.prog 9 #[.int .i64 v] w fun e w' => e = .returned (.bool true) ∧ Below w.heap.size w w' := by
  by_cases h1 : v < 0
  · exact walk_low v w ht h1
  by_cases h2 : 4611686018427387904 < v
  · exact walk_high v w ht h2
  obtain ⟨m, rfl⟩ := Int.eq_ofNat_of_zero_le (show 0 ≤ v by omega)
  exact walk_mid m w ht (by omega)

theorem contract (H : Type) (enc : TypeId × Value → H) (W : World) (base : Nat) (args : Array Value) (ds gs : List (DataW H)) (before : List MemPlace)
    (hval : ∀ (j : Nat) t v, Tryd.f9.params[j]? = some t → args[j]? = some v → Value.okWide Tryd.prog W .any base t v)
    (hW : DataW.Whole enc Tryd.prog Tryd.f9.params.toList Rows.octetSmallSpec.vars false W args.toList ds gs before) (hL : laidMetH Tryd.prog Rows.octetSmallRow.laid W) :
    Calls Tryd.prog 9 args W fun e W' => ∃ v, e = .returned v ∧ Rows.octetSmallSpec.post enc Tryd.prog Tryd.f9 false true false false W args v W' := by
  have ht : Tab W := tab_of_laid hL
  have hW' := hW
  obtain ⟨p, q, hA0, hV, rfl, hfz, hnd⟩ := hW
  have hA : DataW.TrodAll enc Tryd.prog W 0 (fun _ => true) true Tryd.f9.params.toList args.toList ds p := hA0
  rw [Tryd.params9] at hA hval
  obtain ⟨x0, d0, rfl, rfl, h0⟩ := trodAll_one hA
  obtain ⟨v0, rfl, rfl, rfl, wv0⟩ := open_int Tryd.underlying3 (hval 0 _ x0 rfl rfl) h0
  have i0 := int_of_wf wv0
  have walk : Calls Tryd.prog 9 #[.int .i64 v0] W fun e w' => e = .returned (.bool true) ∧ Below W.heap.size W w' := walk v0 W ht
  refine walk.mono fun e W' ⟨he, hb⟩ => ?_
  subst he
  exact ⟨_, rfl, law_post rfl rfl (by kernel_rfl) ⟨rfl, rfl, rfl⟩ hW' hb⟩

theorem laid_met (os : Os) : laidMet Tryd.prog Rows.octetSmallRow.laid ((laidWorld os).forCall (fun _ _ => 0) ⟨#[], #[.int .i64 0], []⟩).memory :=
  laidMet_of_run' 8 (by kernel_rfl) (by kernel_rfl)
theorem reads (os : Os) {H : Type} (enc : TypeId × Value → H) : ∃ places, DataW.whole enc Tryd.prog ((laidWorld os).forCall (fun _ _ => 0) ⟨#[], #[.int .i64 0], []⟩).memory Tryd.f9.params.toList Rows.octetSmallSpec.vars false #[Value.int .i64 0].toList 8 = some ([.lit (.int .i64 0)], [], places) :=
  ⟨[], by kernel_rfl⟩

set_option maxRecDepth 100000 in
theorem lifted (os : Os) (started : os.Started) (H : Type) (enc : TypeId × Value → H) (F : Stop.Interp) :
    ReturnsInHanded {} Tryd.checked os 9 .any ((OpenSpec.ofChange Rows.octetSmallSpec).preRow enc Tryd.prog Tryd.f9 Rows.octetSmallRow.domain false Rows.octetSmallRow.laid) (((OpenSpec.ofChange Rows.octetSmallSpec).at F).post enc Tryd.prog Tryd.f9 false true false false) := by
  obtain ⟨places, hx⟩ := reads os enc
  refine returnsInHanded_of_row (C := Tryd.checked) (s := OpenSpec.ofChange Rows.octetSmallSpec) own started (by kernel_rfl) Tryd.func9
    (witness_row_at (enc := enc) (C := Tryd.checked) false (laidWorld os) #[.int .i64 0] rfl (by kernel_rfl) (by kernel_rfl) (by kernel_rfl)
      (OpenSpec.preRow_of_cond 8 hx (by kernel_rfl) (fun k hk => by cases hk) (by kernel_rfl) (laid_met os))) ?_
  intro W base args ds gs before hval hW _ _ _ hL _ _
  exact contract H enc W base args ds gs before hval hW hL

theorem said : Rows.OctetSmallSaid :=
  OpenClaim.holds_of_cond 9 Tryd.f9 rfl rfl rfl rfl rfl rfl rfl ⟨rfl, rfl, rfl, rfl, rfl⟩ rfl rfl rfl rfl rfl (by kernel_rfl) Tryd.func9 (by kernel_rfl)
    (of_decide_eq_true (by kernel_rfl)) (by unfold Func.isWrapper; first | (rw [if_pos (by decide +kernel)]; kernel_rfl) | (rw [if_neg (by decide +kernel)]; exact ⟨rfl, rfl⟩))
    (fun os started H enc _ F => by rw [OpenClaim.pre_eq_preRow]; exact lifted os started H enc F)

theorem plain (f : FuncId) (fn : Func) (hf : Tryd.pinned.checked.prog.funcNamed "winnower/winnowerlaw1.OctetSmall" = some f) (hfn : Tryd.pinned.checked.prog.funcs[f]? = some fn) :
    false = Tryd.pinned.checked.prog.looks [] ∧ ∀ (j : Nat) t, fn.params[j]? = some t → Tryd.pinned.checked.prog.wantsStandIn t = false := by
  obtain rfl : f = 9 := Option.some.inj ((show Tryd.prog.funcNamed "winnower/winnowerlaw1.OctetSmall" = some 9 by kernel_rfl).symm.trans hf) |>.symm
  obtain rfl : fn = Tryd.f9 := (Option.some.inj (Tryd.func9.symm.trans hfn)).symm
  refine ⟨by kernel_rfl, fun j t ht => ?_⟩
  have hall : Tryd.f9.params.all (fun t => !Tryd.prog.wantsStandIn t) = true := by kernel_rfl
  have h1 := Array.all_eq_true'.1 hall t (Array.mem_of_getElem? ht)
  have h2 : Tryd.prog.wantsStandIn t = false := by simpa using h1
  exact h2

/-- THE CARD -/
theorem octetSmall_card : Rows.OctetSmallCardSaid :=
  Claim7.holds_tied_plain_at .later [] _ _ _ _ said (fun _ h => by cases h) (by kernel_rfl) (fun _ h => by cases h) octetSmall_row_tie rfl ⟨rfl, rfl⟩ (by kernel_rfl) rfl plain (by kernel_rfl)
end Go.Proofs.YtdnaabiijihooaaDoor.OctetSmall
