/-
  PROVED HERE: OctetNums's tied card (the first form, every argument): any numbers as bytes, and back.
  Conditions: none of our own; the card's row lists the table octet.crcSteps, which the card ties to the program's text.
-/
import Derived.Test.YtdnaabiijihooaaDoorKnown
import Derived.Test.YtdnaabiijihooaaDoorHeavy
import Derived.Test.YtdnaabiijihooaaDoorRef
import Derived.Test.YtdnaabiijihooaaDoorRdr
import Derived.Test.YtdnaabiijihooaaDoorArgs
import Derived.Deep.RegionWith
namespace Go.Proofs.YtdnaabiijihooaaDoor.OctetNums
open Go Go.ChangeShapes Go.WideShapes Go.ChangeAt Go.RowKit

set_option maxHeartbeats 1000000 in
theorem walk_long (A : Option Addr) (n c : Nat) (w : World) (hn : (500 : Int) < (n : Int)) : Calls Tryd.prog 3 #[.slice A n c] w fun e w' => e = .returned (.bool true) ∧ Below w.heap.size w w' := by
  go_enter Tryd.func3, Tryd.ntmps3
  go_wp2
  go_ret
  exact ⟨rfl, Below.refl _ _⟩

def rest (vs : List Int) (k : Nat) : List UInt8 := numsB (vs.drop k)
theorem rest_zero (vs : List Int) : rest vs 0 = numsB vs := rfl
theorem rest_all (vs : List Int) : rest vs vs.length = [] := by unfold rest; rw [List.drop_length]; rfl
theorem rest_cons (vs : List Int) (k : Nat) (h : k < vs.length) : rest vs k = dig (clamp vs[k]) ++ rest vs (k + 1) := by
  unfold rest numsB
  rw [List.drop_eq_getElem_cons h]; rfl
theorem rest_len (vs : List Int) (k : Nat) : (rest vs k).length ≤ 9 * vs.length := by
  have h : numsB vs = numsTo vs k ++ rest vs k := by unfold numsTo rest numsB; rw [← List.flatMap_append, List.take_append_drop]
  have h2 := numsTo_len vs vs.length
  rw [numsTo_all, h, List.length_append] at h2
  omega

set_option maxRecDepth 100000 in
set_option maxHeartbeats 4000000 in
theorem walk_short (A : Option Addr) (n c : Nat) (vs : List Int) (w : World) (ht : Tab w) (hn : n = vs.length) (hs : ¬ (500 : Int) < (n : Int)) (hr : Rd w A (vs.map iv)) (hi : ∀ v ∈ vs, isInt v) :
    Calls Tryd.prog 3 #[.slice A n c] w fun e w' => e = .returned (.bool true) ∧ Below w.heap.size w w' := by
  subst hn
  have hl5 : vs.length ≤ 500 := by omega
  obtain ⟨bs, hbs⟩ : ∃ b, numsB vs = b := ⟨_, rfl⟩
  have hlb : bs.length ≤ 4500 := by have := numsTo_len vs vs.length; rw [numsTo_all, hbs] at this; omega
  have Hbs := Lib.hid hbs
  clear hbs hs
  go_enter Tryd.func3, Tryd.ntmps3
  go_wp2_with fail
  refine (nums_any _ _ A _ c vs [] _ (Wr.new w (fun k => k = w.heap.size) rfl) rfl ((RdF.fresh hr (by omega)).alloc _) hi (by simp; omega)).mono ?_
  rintro e w1 ⟨rfl, hw1, ho1⟩
  rw [List.nil_append, Hbs.out] at hw1
  have hs1 := ho1.size
  rw [World.size_alloc] at hs1
  have hb1 : Below w.heap.size w w1 := ((Below.refl _ _).alloc (Nat.le_refl _) _).trans (ho1.below (by intro i hi; omega) (by simp))
  go_wp2_with fail
  refine (out_any _ _ _ _ hw1 (by omega)).mono ?_
  rintro e w2 ⟨A2, c2, rfl, hn2, hb2⟩
  go_wp2_with fail
  refine (refnums_any A _ c vs bs _ rfl Hbs.out ((hr.ext hb1).ext hb2) hi (by omega)).mono ?_
  rintro e w3 ⟨A3, c3, rfl, hn3, hb3⟩
  go_wp2_with fail
  refine (same_yes A2 A3 _ _ c2 c3 bs _ rfl rfl (hn2.rd.ext hb3) hn3.rd (by omega)).mono ?_
  rintro e w4 ⟨rfl, q, hq⟩
  have hb14 : Below w1.heap.size w1 w4 := by rw [hq]; exact ext_drewN (ext_trans hb2 hb3) q
  have hn4 : New w1 w4 A2 c2 bs := by rw [hq]; exact hn2.ext (ext_drewN hb3 q)
  clear hq hn2 hn3 hb3 hb2
  go_wp2_with fail
  refine (newreader A2 _ c2 bs _ rfl (by have := Own.cap hn4; simpa using this) hn4.rd (by omega)).mono ?_
  rintro e w5 ⟨g5, rfl, -, hb5⟩
  have hb15 := ext_trans hb14 hb5
  have hn5 := hn4.ext hb5
  go_wp2_with fail
  refine (spoil_any _ A2 _ c2 _ _ (by simp) hn5 (by simp; omega)).mono ?_
  rintro e w6 ⟨rfl, ho6⟩
  have hb16 : Below w1.heap.size w1 w6 := hb15.trans (ho6.below (fun _ h => h.1) hb15.size)
  have hw6 := hw1.ext hb16
  clear hn4 hn5 ho6 hw1
  go_wp2_with fail
  refine (out_any _ _ _ _ hw6 (by omega)).mono ?_
  rintro e w7 ⟨A7, c7, rfl, hn7, hb7⟩
  have hb17 := ext_trans hb16 hb7
  go_wp2_with fail
  refine (newreader A7 _ c7 bs _ rfl (by have := Own.cap hn7; simpa using this) hn7.rd (by omega)).mono ?_
  rintro e w8 ⟨g, rfl, hrd, hb8⟩
  have hb18 := ext_trans hb1 (ext_trans hb17 hb8)
  have hs8 := hb18.size
  have hs7 := (ext_trans hb1 hb17).size
  rw [← Hbs.out, ← rest_zero] at hrd
  go_wp2
  go_loopw [6] (fun i wr => ∃ k : Nat, k ≤ vs.length ∧ i = .int .i64 (k : Int) ∧ Rdr wr (fun k => w7.heap.size ≤ k ∧ k < w8.heap.size) g (rest vs k) false ∧ Below w.heap.size w wr) (fun i _ => vs.length - (intOf i).toNat)
  case atStart => exact ⟨0, Nat.zero_le _, rfl, hrd, hb18⟩
  case round =>
    obtain ⟨k, hk, rfl, hrd, hbr⟩ := hrel
    by_cases hlt : k < vs.length
    · obtain ⟨ad, rfl, hc1⟩ := (hr.ext hbr).at_ (k := k) (by simpa using hlt)
      simp only [List.getElem_map, iv] at hc1
      have hik := hi vs[k] (List.getElem_mem hlt)
      have hcons := rest_cons vs k hlt
      have hlr := rest_len vs k
      have hnum : num? (rest vs k) = some (clamp vs[k], (dig (clamp vs[k])).length) := by rw [hcons]; exact num_dig _ _ (clamp_le _)
      have hdrop : (rest vs k).drop (dig (clamp vs[k])).length = rest vs (k + 1) := by rw [hcons]; simp
      have hle : (dig (clamp vs[k])).length ≤ (rest vs k).length := by rw [hcons]; simp
      have had : ad.block < w.heap.size := by
        obtain ⟨ad', e', h⟩ := hr.at_ (k := k) (by simpa using hlt)
        injection e' with e'; subst e'
        have := World.block_lt_of_cell? w _ h
        rwa [block_add] at this
      have hg7 : w7.heap.size ≤ g := hrd.1.1
      have hcall : ∀ (r : Int) (W : World), (clamp vs[k] : Int) = r → (∃ q, W = wr.drewN q) → Calls Tryd.prog 17 #[.pointer (some ⟨g, 0, none⟩)] W fun e w' => e = .returned (.int .i64 r) ∧ Rdr w' (fun k => w7.heap.size ≤ k ∧ k < w8.heap.size) g (rest vs (k + 1)) false ∧ Below w.heap.size w w' ∧ w'.cell? (ad.add k) = some (.int .i64 vs[k]) := by
        rintro r W rfl ⟨q, rfl⟩
        refine (rnum_ok _ g (rest vs k) _ _ (wr.drewN q) (hrd.drewN q) hnum (dig_pos _) hle (by omega)).mono ?_
        rintro e w' ⟨rfl, h1, h2⟩
        rw [hdrop] at h1
        refine ⟨rfl, h1, (ext_drewN hbr q).trans (h2.below (by intro i hi; omega) hbr.size), ?_⟩
        have h3 := h2.block ad.block (Nat.lt_of_lt_of_le had hbr.size) (by omega)
        have h4 : w'.cell? (ad.add k) = (wr.drewN q).cell? (ad.add k) := World.cell?_of_block (by rw [block_add]; exact h3)
        rw [h4]; exact hc1
      have Hcall := Lib.hid hcall
      clear hcall hcons hlr hnum hdrop hle
      generalize vs[k] = v at *
      have hcase : v < 0 ∨ v = 0 ∨ (0 < v ∧ v < 4611686018427387904) ∨ v = 4611686018427387904 ∨ 4611686018427387904 < v := by omega
      rcases hcase with ha | ha | ⟨ha, hc⟩ | ha | ha
      · have hr0 : (clamp v : Int) = 0 := by unfold clamp; omega
        have hcl := Lib.hid (fun W => Hcall.out 0 W hr0)
        clear hr0
        go_wp2
        go_region_with (go_at_call 17; refine (hcl.out _ ?_).mono ?_; (first | exact ⟨0, rfl⟩ | exact ⟨1, rfl⟩); rintro e w9 ⟨rfl, hrd9, hb9, hc9⟩)
        all_goals
          go_wp2
          go_roundw
          case rel => exact ⟨k + 1, by omega, by go_num, by first | exact hrd9 | exact hrd9.drewN _, by first | exact hb9 | exact hb9.drew | exact ext_drewN hb9 _⟩
          case measure => simp [intOf]; omega
      · subst ha
        have hr0 : (clamp 0 : Int) = 0 := by decide
        have hcl := Lib.hid (fun W => Hcall.out 0 W hr0)
        clear hr0
        go_wp2
        go_region_with (go_at_call 17; refine (hcl.out _ ?_).mono ?_; (first | exact ⟨0, rfl⟩ | exact ⟨1, rfl⟩); rintro e w9 ⟨rfl, hrd9, hb9, hc9⟩)
        all_goals
          go_wp2
          go_roundw
          case rel => exact ⟨k + 1, by omega, by go_num, by first | exact hrd9 | exact hrd9.drewN _, by first | exact hb9 | exact hb9.drew | exact ext_drewN hb9 _⟩
          case measure => simp [intOf]; omega
      · have hr0 : (clamp v : Int) = v := by unfold clamp; omega
        have hcl := Lib.hid (fun W => Hcall.out v W hr0)
        clear hr0
        go_wp2
        go_region_with (go_at_call 17; refine (hcl.out _ ?_).mono ?_; (first | exact ⟨0, rfl⟩ | exact ⟨1, rfl⟩); rintro e w9 ⟨rfl, hrd9, hb9, hc9⟩)
        all_goals
          go_wp2
          go_roundw
          case rel => exact ⟨k + 1, by omega, by go_num, by first | exact hrd9 | exact hrd9.drewN _, by first | exact hb9 | exact hb9.drew | exact ext_drewN hb9 _⟩
          case measure => simp [intOf]; omega
      · subst ha
        have hr0 : (clamp 4611686018427387904 : Int) = 4611686018427387904 := by unfold clamp; omega
        have hcl := Lib.hid (fun W => Hcall.out 4611686018427387904 W hr0)
        clear hr0
        go_wp2
        go_region_with (go_at_call 17; refine (hcl.out _ ?_).mono ?_; (first | exact ⟨0, rfl⟩ | exact ⟨1, rfl⟩); rintro e w9 ⟨rfl, hrd9, hb9, hc9⟩)
        all_goals
          go_wp2
          go_roundw
          case rel => exact ⟨k + 1, by omega, by go_num, by first | exact hrd9 | exact hrd9.drewN _, by first | exact hb9 | exact hb9.drew | exact ext_drewN hb9 _⟩
          case measure => simp [intOf]; omega
      · have hr0 : (clamp v : Int) = 4611686018427387904 := by unfold clamp; omega
        have hcl := Lib.hid (fun W => Hcall.out 4611686018427387904 W hr0)
        clear hr0
        go_wp2
        go_region_with (go_at_call 17; refine (hcl.out _ ?_).mono ?_; (first | exact ⟨0, rfl⟩ | exact ⟨1, rfl⟩); rintro e w9 ⟨rfl, hrd9, hb9, hc9⟩)
        all_goals
          go_wp2
          go_roundw
          case rel => exact ⟨k + 1, by omega, by go_num, by first | exact hrd9 | exact hrd9.drewN _, by first | exact hb9 | exact hb9.drew | exact ext_drewN hb9 _⟩
          case measure => simp [intOf]; omega
    · obtain rfl : k = vs.length := by omega
      rw [rest_all] at hrd
      go_wp2_with (first
        | (go_at_call 18; refine (rgood _ g [] false _ hrd).mono ?_; rintro e w' ⟨rfl, rfl⟩)
        | (go_at_call 19; refine (rwhole _ g [] _ hrd).mono ?_; rintro e w' ⟨rfl, rfl⟩))
      refine (known_any _ (ht.ext hbr)).mono ?_
      rintro e w10 ⟨rfl, hb10⟩
      go_wp2
      go_ret
      exact ⟨rfl, ext_trans hbr hb10⟩

theorem walk (A : Option Addr) (n c : Nat) (vs : List Int) (w : World) (ht : Tab w) (hn : n = vs.length) (hr : Rd w A (vs.map iv)) (hi : ∀ v ∈ vs, isInt v) :
    Calls Tryd.prog 3 #[.slice A n c] w fun e w' => e = .returned (.bool true) ∧ Below w.heap.size w w' := by
  by_cases hs : (500 : Int) < (n : Int)
  · exact walk_long A n c w hs
  · exact walk_short A n c vs w ht hn hs hr hi

theorem contract (H : Type) (enc : TypeId × Value → H) (W : World) (base : Nat) (args : Array Value) (ds gs : List (DataW H)) (before : List MemPlace)
    (hval : ∀ (j : Nat) t v, Tryd.f3.params[j]? = some t → args[j]? = some v → Value.okWide Tryd.prog W .any base t v)
    (hW : DataW.Whole enc Tryd.prog Tryd.f3.params.toList Rows.octetNumsSpec.vars false W args.toList ds gs before) (hL : laidMetH Tryd.prog Rows.octetNumsRow.laid W) :
    Calls Tryd.prog 3 args W fun e W' => ∃ v, e = .returned v ∧ Rows.octetNumsSpec.post enc Tryd.prog Tryd.f3 false true false false W args v W' := by
  have ht : Tab W := tab_of_laid hL
  have hW' := hW
  obtain ⟨p, q, hA0, hV, rfl, hfz, hnd⟩ := hW
  have hA : DataW.TrodAll enc Tryd.prog W 0 (fun _ => true) true Tryd.f3.params.toList args.toList ds p := hA0
  rw [Tryd.params3] at hA hval
  obtain ⟨x0, d0, rfl, rfl, h0⟩ := trodAll_one hA
  obtain ⟨A0, n0, c0, xs0, rfl, hn0, hc0, hm0, hr0, hi0⟩ := arg_ints (hval 0 _ x0 rfl rfl) h0
  have walk : Calls Tryd.prog 3 #[.slice A0 n0 c0] W fun e w' => e = .returned (.bool true) ∧ Below W.heap.size W w' := walk A0 n0 c0 xs0 W ht hn0 hr0 hi0
  refine walk.mono fun e W' ⟨he, hb⟩ => ?_
  subst he
  exact ⟨_, rfl, law_post rfl rfl (by kernel_rfl) ⟨rfl, rfl, rfl⟩ hW' hb⟩

theorem laid_met (os : Os) : laidMet Tryd.prog Rows.octetNumsRow.laid ((laidWorld os).forCall (fun _ _ => 0) ⟨#[], #[.slice none 0 0], []⟩).memory :=
  laidMet_of_run' 8 (by kernel_rfl) (by kernel_rfl)
theorem reads (os : Os) {H : Type} (enc : TypeId × Value → H) : ∃ places, DataW.whole enc Tryd.prog ((laidWorld os).forCall (fun _ _ => 0) ⟨#[], #[.slice none 0 0], []⟩).memory Tryd.f3.params.toList Rows.octetNumsSpec.vars false #[Value.slice none 0 0].toList 8 = some ([.nil], [], places) :=
  ⟨[], by kernel_rfl⟩

set_option maxRecDepth 100000 in
theorem lifted (os : Os) (started : os.Started) (H : Type) (enc : TypeId × Value → H) (F : Stop.Interp) :
    ReturnsInHanded {} Tryd.checked os 3 .any ((OpenSpec.ofChange Rows.octetNumsSpec).preRow enc Tryd.prog Tryd.f3 Rows.octetNumsRow.domain false Rows.octetNumsRow.laid) (((OpenSpec.ofChange Rows.octetNumsSpec).at F).post enc Tryd.prog Tryd.f3 false true false false) := by
  obtain ⟨places, hx⟩ := reads os enc
  refine returnsInHanded_of_row (C := Tryd.checked) (s := OpenSpec.ofChange Rows.octetNumsSpec) own started (by kernel_rfl) Tryd.func3
    (witness_row_at (enc := enc) (C := Tryd.checked) false (laidWorld os) #[.slice none 0 0] rfl (by kernel_rfl) (by kernel_rfl) (by kernel_rfl)
      (OpenSpec.preRow_of_cond 8 hx (by kernel_rfl) (fun k hk => by cases hk) (by kernel_rfl) (laid_met os))) ?_
  intro W base args ds gs before hval hW _ _ _ hL _ _
  exact contract H enc W base args ds gs before hval hW hL

theorem said : Rows.OctetNumsSaid :=
  OpenClaim.holds_of_cond 3 Tryd.f3 rfl rfl rfl rfl rfl rfl rfl ⟨rfl, rfl, rfl, rfl, rfl⟩ rfl rfl rfl rfl rfl (by kernel_rfl) Tryd.func3 (by kernel_rfl)
    (of_decide_eq_true (by kernel_rfl)) (by unfold Func.isWrapper; first | (rw [if_pos (by decide +kernel)]; kernel_rfl) | (rw [if_neg (by decide +kernel)]; exact ⟨rfl, rfl⟩))
    (fun os started H enc _ F => by rw [OpenClaim.pre_eq_preRow]; exact lifted os started H enc F)

theorem plain (f : FuncId) (fn : Func) (hf : Tryd.pinned.checked.prog.funcNamed "winnower/winnowerlaw1.OctetNums" = some f) (hfn : Tryd.pinned.checked.prog.funcs[f]? = some fn) :
    false = Tryd.pinned.checked.prog.looks [] ∧ ∀ (j : Nat) t, fn.params[j]? = some t → Tryd.pinned.checked.prog.wantsStandIn t = false := by
  obtain rfl : f = 3 := Option.some.inj ((show Tryd.prog.funcNamed "winnower/winnowerlaw1.OctetNums" = some 3 by kernel_rfl).symm.trans hf) |>.symm
  obtain rfl : fn = Tryd.f3 := (Option.some.inj (Tryd.func3.symm.trans hfn)).symm
  refine ⟨by kernel_rfl, fun j t ht => ?_⟩
  have hall : Tryd.f3.params.all (fun t => !Tryd.prog.wantsStandIn t) = true := by kernel_rfl
  have h1 := Array.all_eq_true'.1 hall t (Array.mem_of_getElem? ht)
  have h2 : Tryd.prog.wantsStandIn t = false := by simpa using h1
  exact h2

/-- THE CARD -/
theorem octetNums_card : Rows.OctetNumsCardSaid :=
  Claim7.holds_tied_plain_at .later [] _ _ _ _ said (fun _ h => by cases h) (by kernel_rfl) (fun _ h => by cases h) octetNums_row_tie rfl ⟨rfl, rfl⟩ (by kernel_rfl) rfl plain (by kernel_rfl)
end Go.Proofs.YtdnaabiijihooaaDoor.OctetNums
