/-
  PROVED HERE: OctetSums's tied card (the first form, every argument): the check sum of rows is that of all of them in one; a byte that is another one has another sum.
  Conditions: none of our own; the card's row lists the table octet.crcSteps, which the card ties to the program's text.
-/
import Derived.Test.YtdnaabiijihooaaDoorKnown
import Derived.Test.YtdnaabiijihooaaDoorHeavy
import Derived.Test.YtdnaabiijihooaaDoorRefSum
import Derived.Test.YtdnaabiijihooaaDoorArgs
namespace Go.Proofs.YtdnaabiijihooaaDoor.OctetSums
open Go Go.ChangeShapes Go.WideShapes Go.ChangeAt Go.RowKit

theorem mask30 (v : Int) : ∃ m : Nat, bits .and .i64 v 1073741823 = (m : Int) ∧ (m : Int) ≤ 1073741823 := by
  have h : bits .and .i64 v 1073741823 = ((BitVec.ofInt 64 v &&& BitVec.ofInt 64 1073741823).toNat : Int) := by
    show IntKind.i64.wrap ((BitVec.ofInt 64 v &&& BitVec.ofInt 64 1073741823).toNat : Int) = _
    have hx : (BitVec.ofInt 64 v &&& BitVec.ofInt 64 1073741823).toNat ≤ 1073741823 := by
      rw [BitVec.toNat_and]
      exact Nat.le_trans Nat.and_le_right (by decide)
    rw [IntKind.wrap_i64]; omega
  refine ⟨_, h, ?_⟩
  have hx : (BitVec.ofInt 64 v &&& BitVec.ofInt 64 1073741823).toNat ≤ 1073741823 := by
    rw [BitVec.toNat_and]
    exact Nat.le_trans Nat.and_le_right (by decide)
  omega

theorem Own.put {w : World} {fp : Nat → Prop} {e : TypeId} {g c : Nat} {xs : List Value} (h : Own w fp e (some ⟨g, 0, none⟩) c xs) (j : Nat) (u : Value) : Own (w.setCell ⟨g, j, none⟩ u) fp e (some ⟨g, 0, none⟩) c (xs.set j u) := by
  refine ⟨?_, h.2⟩
  have h1 := (h.1.stored j u).1
  have hl : (xs.set j u).length = xs.length := by simp
  rw [hl]
  exact h1

set_option maxHeartbeats 1000000 in
theorem walk_heavy (A : Option Addr) (n c : Nat) (v x : Int) (xss : List (List UInt8)) (w : World) (hn : n = xss.length) (hr : RowsF (fun _ => False) w A xss) (hm : ∀ xs ∈ xss, xs.length ≤ maxLen) (hm2 : xss.length ≤ maxLen) (h : 4000 < 3 * xss.length + xss.flatten.length) :
    Calls Tryd.prog 6 #[.slice A n c, .int .i64 v, .int .u8 x] w fun e w' => e = .returned (.bool true) ∧ Below w.heap.size w w' := by
  have Hn := Lib.hid hn
  clear hn
  go_enter Tryd.func6, Tryd.ntmps6
  go_wp2_with (go_at_call 21; refine (heavy_yes A n c xss _ Hn.out hr hm hm2 h).mono ?_; rintro e w3 ⟨rfl, rfl⟩)
  go_ret
  exact ⟨rfl, Below.refl _ _⟩

set_option maxRecDepth 100000 in
set_option maxHeartbeats 4000000 in
theorem walk_light (A : Option Addr) (n c : Nat) (v : Int) (y : UInt8) (xss : List (List UInt8)) (w : World) (ht : Tab w) (hn : n = xss.length) (hr : RowsF (fun _ => False) w A xss) (h : 3 * xss.length + xss.flatten.length ≤ 4000) :
    Calls Tryd.prog 6 #[.slice A n c, .int .i64 v, .int .u8 (y.toNat : Int)] w fun e w' => e = .returned (.bool true) ∧ Below w.heap.size w w' := by
  subst hn
  obtain ⟨bs, hbs⟩ : ∃ b, xss.flatten = b := ⟨_, rfl⟩
  have hlb : bs.length ≤ 4000 := by rw [← hbs]; omega
  have hlx : xss.length ≤ 4000 := by omega
  have hle := lenTo_le xss
  have hall := lenTo_all xss
  rw [hbs] at hle hall
  have Hle := Lib.hid hle
  have Hall := Lib.hid hall
  have Hbs := Lib.hid hbs
  clear hbs hle hall
  go_enter Tryd.func6, Tryd.ntmps6
  go_wp2_with fail
  refine (heavy_no A _ c xss _ rfl hr h).mono ?_
  rintro e w3 ⟨rfl, rfl⟩
  go_wp2_with fail
  refine (join_any A _ c xss bs _ rfl Hbs.out hr (by omega) (by omega)).mono ?_
  rintro e w1 ⟨A1, c1, rfl, hn1, hb1⟩
  go_wp2
  go_loopw [8, 9] (fun s i wr => ∃ (k : Nat) (A' : Option Addr) (c' : Nat), k ≤ xss.length ∧ i = .int .i64 (k : Int) ∧ s = .slice A' (lenTo xss k) c' ∧ New w1 wr A' c' (upTo xss k) ∧ Below w1.heap.size w1 wr) (fun _ i _ => xss.length - (intOf i).toNat)
  case atStart => exact ⟨0, none, 0, Nat.zero_le _, rfl, rfl, Own.none_ _ _ _, Below.refl _ _⟩
  case round =>
    obtain ⟨k, A', c', hk, rfl, rfl, hnew, hbel⟩ := hrel
    by_cases hlt : k < xss.length
    · obtain ⟨ad, B, cb, rfl, hcell, hl, hrd⟩ := ((hr.ext hb1).ext hbel).at_ hlt
      have hsucc := Lib.hid (lenTo_succ xss k hlt)
      have usucc := Lib.hid (upTo_succ xss k hlt)
      have hle' := Hle.out (k + 1)
      rw [lenTo_succ xss k hlt] at hle'
      have hk1 : lenTo xss k + xss[k].length ≤ maxLen := by unfold maxLen; omega
      have hk2 : (lenTo xss k + xss[k].length) * 1 ≤ 140737488355328 := by omega
      go_wp2_with (at_builtin
                   refine wpList_app _ rfl (.tmp 21) (.tmp 25) _ rfl _ _ 1 Tryd.underlying23 info_u8 rfl A' (lenTo xss k) c' _ rfl ?_ hnew B _ cb (xss[k].map bv) rfl ?_ hrd.1 (bvs_one _) hk1 hk2 ?_
                   · rw [List.length_map]; rfl
                   · rw [List.length_map]
                   intro A2 c2 w2 hown2 honly2)
      go_roundw
      case rel =>
        obtain ⟨g1, g2⟩ := New.grow hbel hown2 honly2
        exact ⟨k + 1, A2, c2, by omega, by go_num, by rw [hsucc.out], by rw [usucc.out]; exact g1, g2⟩
      case measure => simp [intOf]; omega
    · obtain rfl : k = xss.length := by omega
      rw [Hall.out]
      rw [upTo_all, Hbs.out] at hnew
      have hbr := ext_trans hb1 hbel
      have htr := ht.ext hbr
      go_wp2_with fail
      refine (sum_any A _ c xss bs _ htr rfl Hbs.out (hr.ext hbr) (by omega) (by omega)).mono ?_
      rintro e w4 ⟨rfl, rfl⟩
      go_wp2_with fail
      refine (same_yes A1 A' _ _ c1 c' bs _ rfl rfl (hn1.rd.ext hbel) hnew.rd (by omega)).mono ?_
      rintro e w4 ⟨rfl, q, hq⟩
      have hb4 : Below w1.heap.size w1 w4 := by rw [hq]; exact ext_drewN hbel q
      have hn4 : New w1 w4 A' c' bs := by rw [hq]; exact hnew.ext (ext_drewN (Below.refl _ _) q)
      have hbw4 := ext_trans hb1 hb4
      have ht4 := ht.ext hbw4
      have hc4 := Own.cap hn4
      rw [List.length_map] at hc4
      clear hq hnew htr hbr hbel
      go_wp2_with fail
      refine (refsum_any A' _ c' bs _ rfl hn4.rd (by omega)).mono ?_
      rintro e w5 ⟨rfl, rfl⟩
      go_wp2_with fail
      refine (sum_any _ 1 1 [bs] bs _ (ht4.alloc _) rfl (by simp) (RowsF.one (RdF.of hn4.rd) hc4 _ rfl id) (by omega) (by simp)).mono ?_
      rintro e w5 ⟨rfl, rfl⟩
      have hb5 := hb4.alloc hb4.size (.cells #[.slice A' bs.length c'] 23)
      have hn5 := hn4.ext (Below.alloc (Below.refl _ _) (Nat.le_refl _) (.cells #[.slice A' bs.length c'] 23))
      generalize w4.alloc (.cells #[.slice A' bs.length c'] 23) = w5 at *
      have hbw5 := ext_trans hb1 hb5
      have ht5 := ht.ext hbw5
      have hb1s := hb1.size
      by_cases hl0 : bs.length = 0
      · obtain rfl : bs = [] := List.eq_nil_of_length_eq_zero hl0
        clear hl0
        go_wp2_with (go_at_call 20; refine (known_any _ ht5).mono ?_; rintro e w9 ⟨rfl, hb9⟩)
        go_ret
        exact ⟨rfl, ext_trans hbw5 hb9⟩
      · have hl1 : (0 : Int) < (bs.length : Int) := by omega
        have hl1n : decide ((0 : Int) < (bs.length : Int)) = true := decide_eq_true hl1
        by_cases hy : y.toNat = 0
        · have hy1 : ((y.toNat : Int) != 0) = false := by rw [hy]; rfl
          clear hy
          go_wp2_with (go_at_call 20; refine (known_any _ ht5).mono ?_; rintro e w9 ⟨rfl, hb9⟩)
          go_ret
          exact ⟨rfl, ext_trans hbw5 hb9⟩
        · have hy1 : ((y.toNat : Int) != 0) = true := by rw [bne_iff_ne]; omega
          obtain ⟨m, e1, lm⟩ := mask30 v
          obtain ⟨j, hj⟩ : ∃ j, j = m % bs.length := ⟨_, rfl⟩
          have hjl : j < bs.length := by rw [hj]; exact Nat.mod_lt _ (by omega)
          have e2 : (m : Int) % (bs.length : Int) = (j : Int) := by rw [hj]; omega
          have e3 : (m : Int).tmod (bs.length : Int) = (j : Int) := by rw [Int.tmod_eq_emod_of_nonneg (by omega)]; exact e2
          have e4 : ((bs.length : Int) == 0) = false := beq_eq_false_iff_ne.2 (by omega)
          obtain ⟨g, rfl, hg, hgl⟩ : ∃ g, A' = some ⟨g, 0, none⟩ ∧ (w1.heap.size ≤ g ∧ g < w5.heap.size) ∧ g < w5.heap.size := by
            rcases Own.some_ hn5 with ⟨_, _, h⟩ | h
            · exact absurd (by simpa using congrArg List.length h) hl0
            · exact h
          have hc5 : w5.cell? ⟨g, j, none⟩ = some (.int .u8 (bs[j].toNat : Int)) := by
            obtain ⟨ad, e, hcell⟩ := hn5.rd.at_ (k := j) (by simpa using hjl)
            injection e with e
            have hadd : ad.add j = ⟨g, j, none⟩ := by rw [← e]; unfold Addr.add; split <;> simp_all
            rw [hadd] at hcell
            rw [hcell]; simp [bv]
          have hf5 : w5.frozen? ⟨g, j, none⟩ = false := hn5.1.frozenAt j
          have e5 : bits .xor .u8 (bs[j].toNat : Int) (y.toNat : Int) = ((bs[j] ^^^ y).toNat : Int) := by
            rw [UInt8.toNat_xor]
            exact u8_xor_nat _ _ (by have := bs[j].toNat_lt; omega) (by have := y.toNat_lt; omega)
          have hput := Own.put hn5 j (bv (bs[j] ^^^ y))
          rw [show (bs.map bv).set j (bv (bs[j] ^^^ y)) = (bs.set j (bs[j] ^^^ y)).map bv by rw [List.map_set]] at hput
          have hne := sum_set_ne bs j hjl (bs[j] ^^^ y) (by
            intro h0
            have h1 := congrArg UInt8.toNat h0
            rw [UInt8.toNat_xor] at h1
            have h2 : bs[j].toNat ^^^ 0 = bs[j].toNat ^^^ y.toNat := by rw [Nat.xor_zero]; exact h1
            exact hy (xor_right_cancel h2).symm)
          have hlen' : (bs.set j (bs[j] ^^^ y)).length = bs.length := by simp
          have e6 : ((sumOf (bs.set j (bs[j] ^^^ y)) : Int) == (sumOf bs : Int)) = false := beq_eq_false_iff_ne.2 (by omega)
          replace hput : Own (w5.setCell ⟨g, j, none⟩ (.int .u8 ((bs[j] ^^^ y).toNat : Int))) (fun k => w1.heap.size ≤ k ∧ k < w5.heap.size) 5 (some ⟨g, 0, none⟩) c' ((bs.set j (bs[j] ^^^ y)).map bv) := hput
          generalize bs.set j (bs[j] ^^^ y) = bs2 at *
          generalize bs[j] = old at *
          generalize old ^^^ y = nb at *
          have hb6 : Below w1.heap.size w1 (w5.setCell ⟨g, j, none⟩ (.int .u8 (nb.toNat : Int))) := hb5.setCell (p := ⟨g, j, none⟩) hg.1 _
          have hrow : RowsF (fun _ => False) ((w5.setCell ⟨g, j, none⟩ (.int .u8 (nb.toNat : Int))).alloc (.cells #[.slice (some ⟨g, 0, none⟩) bs2.length c'] 23)) (some ⟨(w5.setCell ⟨g, j, none⟩ (.int .u8 (nb.toNat : Int))).heap.size, 0, none⟩) [bs2] :=
            RowsF.one (RdF.of (Own.rd hput)) (by omega) _ rfl id
          rw [hlen', World.size_setCell] at hrow
          have hbw6 := ext_trans hb1 hb6
          have hl2 : bs2.length ≤ 4000 := by omega
          have hs6 := hb6.size
          have ht6 := ht.ext hbw6
          clear hlen' hj hne hy hl0 hput
          go_wp2_with fail
          refine (sum_any _ 1 1 [bs2] bs2 _ (ht6.alloc _) rfl (by simp) hrow (by omega) (by simp)).mono ?_
          rintro e w7 ⟨rfl, rfl⟩
          have hb7 := hbw6.alloc hbw6.size (.cells #[.slice (some ⟨g, 0, none⟩) bs.length c'] 23)
          go_wp2_with fail
          refine (known_any _ (ht.ext hb7)).mono ?_
          rintro e w9 ⟨rfl, hb9⟩
          go_wp2
          go_ret
          exact ⟨rfl, ext_trans hb7 hb9⟩

theorem walk (A : Option Addr) (n c : Nat) (v x : Int) (xss : List (List UInt8)) (w : World) (ht : Tab w) (hx : 0 ≤ x ∧ x ≤ 255) (hn : n = xss.length) (hc : xss.length ≤ c) (hcm : c ≤ maxLen) (hr : RowsF (fun _ => False) w A xss) (hm : ∀ xs ∈ xss, xs.length ≤ maxLen) :
    Calls Tryd.prog 6 #[.slice A n c, .int .i64 v, .int .u8 x] w fun e w' => e = .returned (.bool true) ∧ Below w.heap.size w w' := by
  by_cases h : 4000 < 3 * xss.length + xss.flatten.length
  · exact walk_heavy A n c v x xss w hn hr hm (by omega) h
  · have e : x = (x.toNat.toUInt8.toNat : Int) := by simp [Nat.toUInt8, UInt8.toNat_ofNat']; omega
    rw [e]
    exact walk_light A n c v _ xss w ht hn hr (by omega)

theorem contract (H : Type) (enc : TypeId × Value → H) (W : World) (base : Nat) (args : Array Value) (ds gs : List (DataW H)) (before : List MemPlace)
    (hval : ∀ (j : Nat) t v, Tryd.f6.params[j]? = some t → args[j]? = some v → Value.okWide Tryd.prog W .any base t v)
    (hW : DataW.Whole enc Tryd.prog Tryd.f6.params.toList Rows.octetSumsSpec.vars false W args.toList ds gs before) (hL : laidMetH Tryd.prog Rows.octetSumsRow.laid W) :
    Calls Tryd.prog 6 args W fun e W' => ∃ v, e = .returned v ∧ Rows.octetSumsSpec.post enc Tryd.prog Tryd.f6 false true false false W args v W' := by
  have ht : Tab W := tab_of_laid hL
  have hW' := hW
  obtain ⟨p, q, hA0, hV, rfl, hfz, hnd⟩ := hW
  have hA : DataW.TrodAll enc Tryd.prog W 0 (fun _ => true) true Tryd.f6.params.toList args.toList ds p := hA0
  rw [Tryd.params6] at hA hval
  obtain ⟨x0, x1, x2, d0, d1, d2, p0, p1, p2, rfl, rfl, rfl, h0, h1, h2⟩ := trodAll_three hA
  obtain ⟨A0, n0, c0, xs0, rfl, hn0, hc0, hm0, hr0, hi0⟩ := arg_rows (hval 0 _ x0 rfl rfl) h0
  obtain ⟨v1, rfl, rfl, rfl, wv1⟩ := open_int Tryd.underlying3 (hval 1 _ x1 rfl rfl) h1
  have i1 := int_of_wf wv1
  obtain ⟨v2, rfl, rfl, rfl, wv2⟩ := open_int Tryd.underlying5 (hval 2 _ x2 rfl rfl) h2
  have i2 := u8_of_wf wv2
  have walk : Calls Tryd.prog 6 #[.slice A0 n0 c0, .int .i64 v1, .int .u8 v2] W fun e w' => e = .returned (.bool true) ∧ Below W.heap.size W w' := walk A0 n0 c0 v1 v2 xs0 W ht i2 hn0 hc0 hm0 hr0 hi0
  refine walk.mono fun e W' ⟨he, hb⟩ => ?_
  subst he
  exact ⟨_, rfl, law_post rfl rfl (by kernel_rfl) ⟨rfl, rfl, rfl⟩ hW' hb⟩

theorem laid_met (os : Os) : laidMet Tryd.prog Rows.octetSumsRow.laid ((laidWorld os).forCall (fun _ _ => 0) ⟨#[], #[.slice none 0 0, .int .i64 0, .int .u8 0], []⟩).memory :=
  laidMet_of_run' 8 (by kernel_rfl) (by kernel_rfl)
theorem reads (os : Os) {H : Type} (enc : TypeId × Value → H) : ∃ places, DataW.whole enc Tryd.prog ((laidWorld os).forCall (fun _ _ => 0) ⟨#[], #[.slice none 0 0, .int .i64 0, .int .u8 0], []⟩).memory Tryd.f6.params.toList Rows.octetSumsSpec.vars false #[Value.slice none 0 0, .int .i64 0, .int .u8 0].toList 8 = some ([.nil, .lit (.int .i64 0), .lit (.int .u8 0)], [], places) :=
  ⟨[], by kernel_rfl⟩

set_option maxRecDepth 100000 in
theorem lifted (os : Os) (started : os.Started) (H : Type) (enc : TypeId × Value → H) (F : Stop.Interp) :
    ReturnsInHanded {} Tryd.checked os 6 .any ((OpenSpec.ofChange Rows.octetSumsSpec).preRow enc Tryd.prog Tryd.f6 Rows.octetSumsRow.domain false Rows.octetSumsRow.laid) (((OpenSpec.ofChange Rows.octetSumsSpec).at F).post enc Tryd.prog Tryd.f6 false true false false) := by
  obtain ⟨places, hx⟩ := reads os enc
  refine returnsInHanded_of_row (C := Tryd.checked) (s := OpenSpec.ofChange Rows.octetSumsSpec) own started (by kernel_rfl) Tryd.func6
    (witness_row_at (enc := enc) (C := Tryd.checked) false (laidWorld os) #[.slice none 0 0, .int .i64 0, .int .u8 0] rfl (by kernel_rfl) (by kernel_rfl) (by kernel_rfl)
      (OpenSpec.preRow_of_cond 8 hx (by kernel_rfl) (fun k hk => by cases hk) (by kernel_rfl) (laid_met os))) ?_
  intro W base args ds gs before hval hW _ _ _ hL _ _
  exact contract H enc W base args ds gs before hval hW hL

theorem said : Rows.OctetSumsSaid :=
  OpenClaim.holds_of_cond 6 Tryd.f6 rfl rfl rfl rfl rfl rfl rfl ⟨rfl, rfl, rfl, rfl, rfl⟩ rfl rfl rfl rfl rfl (by kernel_rfl) Tryd.func6 (by kernel_rfl)
    (of_decide_eq_true (by kernel_rfl)) (by unfold Func.isWrapper; first | (rw [if_pos (by decide +kernel)]; kernel_rfl) | (rw [if_neg (by decide +kernel)]; exact ⟨rfl, rfl⟩))
    (fun os started H enc _ F => by rw [OpenClaim.pre_eq_preRow]; exact lifted os started H enc F)

theorem plain (f : FuncId) (fn : Func) (hf : Tryd.pinned.checked.prog.funcNamed "winnower/winnowerlaw1.OctetSums" = some f) (hfn : Tryd.pinned.checked.prog.funcs[f]? = some fn) :
    false = Tryd.pinned.checked.prog.looks [] ∧ ∀ (j : Nat) t, fn.params[j]? = some t → Tryd.pinned.checked.prog.wantsStandIn t = false := by
  obtain rfl : f = 6 := Option.some.inj ((show Tryd.prog.funcNamed "winnower/winnowerlaw1.OctetSums" = some 6 by kernel_rfl).symm.trans hf) |>.symm
  obtain rfl : fn = Tryd.f6 := (Option.some.inj (Tryd.func6.symm.trans hfn)).symm
  refine ⟨by kernel_rfl, fun j t ht => ?_⟩
  have hall : Tryd.f6.params.all (fun t => !Tryd.prog.wantsStandIn t) = true := by kernel_rfl
  have h1 := Array.all_eq_true'.1 hall t (Array.mem_of_getElem? ht)
  have h2 : Tryd.prog.wantsStandIn t = false := by simpa using h1
  exact h2

/-- THE CARD -/
theorem octetSums_card : Rows.OctetSumsCardSaid :=
  Claim7.holds_tied_plain_at .later [] _ _ _ _ said (fun _ h => by cases h) (by kernel_rfl) (fun _ h => by cases h) octetSums_row_tie rfl ⟨rfl, rfl⟩ (by kernel_rfl) rfl plain (by kernel_rfl)
end Go.Proofs.YtdnaabiijihooaaDoor.OctetSums
