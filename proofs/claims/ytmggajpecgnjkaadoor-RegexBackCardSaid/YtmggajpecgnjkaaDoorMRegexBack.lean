/-
  Statement RegexBack: an expression that may be, printed and parsed, is it.
-/
import Derived.Test.YtmggajpecgnjkaaDoorAll8
set_option linter.unusedVariables false
set_option linter.unusedSimpArgs false
namespace Go.Proofs.YtmggajpecgnjkaaDoor
open Go Go.ChangeShapes Go.WideShapes Go.ChangeAt Go.RowKit
namespace RegexBack

theorem sets_of {S : Nat → Prop} {w : World} (t : Ex) : ∀ cs, ReR S w t cs → setsE t := by
  refine ex_induct (p := fun t => ∀ cs, ReR S w t cs → setsE t) (fun k s ks lo hi ih cs h => ?_) t
  rw [reR_iff] at h
  obtain ⟨⟨_, hs, _, _⟩, A, c, _, _, _, hk⟩ := h
  have key : ∀ l : List Ex, (∀ x ∈ l, setsE x) → setsL l := by
    intro l
    induction l with
    | nil => intro _; simp [setsL]
    | cons x r ihl => intro h; simp only [setsL]; exact ⟨h x (by simp), ihl (fun y hy => h y (by simp [hy]))⟩
  simp only [setsE]
  refine ⟨hs, key ks (fun x hx => ?_)⟩
  obtain ⟨i, hi', rfl⟩ := List.getElem_of_mem hx
  obtain ⟨g, o, cs', _, _, _, hr⟩ := hk i hi'
  exact ih _ (List.getElem_mem hi') cs' hr

set_option maxHeartbeats 4000000 in
theorem back (t : Ex) (cs : List Value) (w : World) (ht : Tab w) (h : ReR (fun _ => True) w t cs) :
    Calls Tryd.prog 5 #[reV cs] w fun e w' => e = .returned (.bool true) ∧ Below w.heap.size w w' := by
  have hsets := sets_of t cs h
  obtain ⟨k, p0, p1, p2, p3, ks, A, c, lo, hi, -, rfl, h1, h2, -, -, -, -, -⟩ := h.fields
  unfold maxLen at h2
  obtain ⟨w1, hw1⟩ : ∃ w1, w1 = w.alloc (Obj.cells #[.int .i64 k, .int .u64 (p0 : Int), .int .u64 (p1 : Int), .int .u64 (p2 : Int), .int .u64 (p3 : Int), .slice A ks.length c, .int .i64 lo, .int .i64 hi] 27) := ⟨_, rfl⟩
  have hb1 : Below w.heap.size w w1 := by rw [hw1]; exact (Below.refl _ _).alloc (Nat.le_refl _) _
  have hB : Blk w1 w.heap.size 27 #[.int .i64 k, .int .u64 (p0 : Int), .int .u64 (p1 : Int), .int .u64 (p2 : Int), .int .u64 (p3 : Int), .slice A ks.length c, .int .i64 lo, .int .i64 hi] := by rw [hw1]; exact Blk.new w _ _
  have Hr := Lib.hid (h.ext hb1)
  have Hb1 := Lib.hid hb1
  have HB := Lib.hid hB
  have Ht := Lib.hid (ht.ext hb1)
  have Hw1 := Lib.hid hw1
  have HW := Lib.hid (weight_any _ t _ w1 150 (h.ext hb1) (by omega) (by omega))
  obtain ⟨q, hq⟩ : ∃ q, leftE t 150 = q := ⟨_, rfl⟩
  rw [hq] at HW
  have hqn := leftE_nodes t 150
  rw [hq] at hqn
  have hqi := leftE_low t 150 (by omega)
  rw [hq] at hqi
  have Hqn := Lib.hid hqn
  have hq2 : q ≤ 150 := hqn.1
  clear h hb1 hB ht hw1 hq hqn
  show Calls Tryd.prog 5 #[.agg #[.int .i64 k, .int .u64 (p0 : Int), .int .u64 (p1 : Int), .int .u64 (p2 : Int), .int .u64 (p3 : Int), .slice A ks.length c, .int .i64 lo, .int .i64 hi]] w _
  go_enter Tryd.func5, Tryd.ntmps5
  go_wp2_with fail
  rw [← Hw1.out]
  refine HW.out.mono ?_
  rintro e w2 ⟨rfl, hb2⟩
  have HB2 := Lib.hid (HB.out.ext hb2)
  have Hr2 := Lib.hid (Hr.out.ext hb2)
  have Hb2 := Lib.hid (ext_trans Hb1.out hb2)
  have Ht2 := Lib.hid (Ht.out.ext hb2)
  clear hb2 HB Hr Hb1 Ht
  by_cases hq0 : q < 0
  · go_wp2
    go_ret
    exact ⟨rfl, Hb2.out⟩
  have hq0' : 0 ≤ q := by omega
  have hnd : nodesE t ≤ 1000000 := by have := Hqn.out.2 hq0'; omega
  have HI := Lib.hid (ris_any _ t _ w2 Hr2.out hnd)
  obtain ⟨I, hI⟩ : ∃ I, isE t = I := ⟨_, rfl⟩
  rw [hI] at HI
  have HIe := Lib.hid hI
  have c0 := HB2.out.cell 0
  have c1 := HB2.out.cell 1
  have c2 := HB2.out.cell 2
  have c3 := HB2.out.cell 3
  have c4 := HB2.out.cell 4
  have c5 := HB2.out.cell 5
  have c6 := HB2.out.cell 6
  have c7 := HB2.out.cell 7
  clear hI hq0
  go_wp2_with fail
  refine HI.out.mono ?_
  rintro e w3 ⟨rfl, hb3⟩
  have HB3 := Lib.hid (HB2.out.ext hb3)
  have Hr3 := Lib.hid (Hr2.out.ext hb3)
  have Hb3 := Lib.hid (ext_trans Hb2.out hb3)
  have Ht3 := Lib.hid (Ht2.out.ext hb3)
  clear hb3 HB2 Hr2 Hb2 Ht2 c0 c1 c2 c3 c4 c5 c6 c7
  cases I with
  | false =>
    go_wp2
    go_ret
    exact ⟨rfl, Hb3.out⟩
  | true =>
    have hpp := parse_of_print HIe.out hsets
    have hlt : ∀ b ∈ printE t, b < 256 := by rw [printE_if, HIe.out, if_pos rfl]; exact textE_lt (isE_one HIe.out).1
    have hnb := nats_bsN hlt
    have hsz := bsN_size (printE t)
    have hsm : (printE t).length ≤ 1000000 := by
      rw [printE_if, HIe.out, if_pos rfl]
      have := HIe.out
      simp only [isE, Bool.and_eq_true, decide_eq_true_eq] at this
      omega
    have HPr := Lib.hid (pprint_any _ t _ w3 Ht3.out Hr3.out)
    obtain ⟨Z, hZ⟩ : ∃ Z, bsN (printE t) = Z := ⟨_, rfl⟩
    rw [hZ] at HPr hnb hsz
    have HPs : Hid (∀ W, Below w3.heap.size w3 W → Calls Tryd.prog 16 #[.string Z] W fun e w' => ParseAns W.heap.size (t, 0, 0) e w' ∧ Below W.heap.size W w') := Lib.hid fun W hW => by
      have := parse_any Z (by omega) W (Ht3.out.ext hW)
      rwa [hnb, hpp] at this
    have c0 := HB3.out.cell 0
    have c1 := HB3.out.cell 1
    have c2 := HB3.out.cell 2
    have c3 := HB3.out.cell 3
    have c4 := HB3.out.cell 4
    have c5 := HB3.out.cell 5
    have c6 := HB3.out.cell 6
    have c7 := HB3.out.cell 7
    clear hZ hpp hlt hnb hsz hsm
    go_wp2_with fail
    refine HPr.out.mono ?_
    rintro e w4 ⟨rfl, hb4⟩
    have HB4 := Lib.hid (HB3.out.ext hb4)
    have Hb4 := Lib.hid hb4
    clear hb4 c0 c1 c2 c3 c4 c5 c6 c7
    go_wp2_with fail
    refine (HPs.out w4 Hb4.out).mono ?_
    rintro e w5 ⟨⟨ds, he, hr5⟩, hb5⟩
    have h8 := reR_arr hr5
    obtain ⟨u0, u1, u2, u3, u4, u5, u6, u7, hcs⟩ := arr_eight h8.1
    have hcl : ds = [u0, u1, u2, u3, u4, u5, u6, u7] := by have := congrArg Array.toList hcs; simpa using this
    subst hcl
    have he' : e = .returned (.tuple #[.agg #[u0, u1, u2, u3, u4, u5, u6, u7], .int .i64 0, .int .i64 0]) := he
    subst he'
    have hone := h8.2
    have Hr5 := Lib.hid hr5
    have Hb35 := Lib.hid (ext_trans Hb4.out hb5)
    have HB5 := Lib.hid (HB4.out.ext hb5)
    have hR5 := HB5.out.lt
    clear he hr5 hb5 h8 hcs
    go_wp2_with (refine wpList_store_re rfl _ _ rfl w5.heap.size rfl rfl rfl rfl hone (Blk.new _ _ _) ?_; intro w6 hB6 ho6; have d0 := hB6.cell 0; have d1 := hB6.cell 1; have d2 := hB6.cell 2; have d3 := hB6.cell 3; have d4 := hB6.cell 4; have d5 := hB6.cell 5; have d6 := hB6.cell 6; have d7 := hB6.cell 7; have hB6' := (HB5.out.alloc (Obj.cells #[.int .i64 0, .int .u64 0, .int .u64 0, .int .u64 0, .int .u64 0, .slice none 0 0, .int .i64 0, .int .i64 0] 27)).only ho6 (by omega); have c0 := hB6'.cell 0; have c1 := hB6'.cell 1; have c2 := hB6'.cell 2; have c3 := hB6'.cell 3; have c4 := hB6'.cell 4; have c5 := hB6'.cell 5; have c6 := hB6'.cell 6; have c7 := hB6'.cell 7)
    have hb56 : Below w5.heap.size w5 w6 := ((Below.refl _ _).alloc (Nat.le_refl _) _).trans (ho6.below (fun i hi => Nat.le_of_eq hi.symm) (by simp))
    have hb36 := ext_trans Hb35.out hb56
    have hsame : sameE t t = true := (sameE_iff t t).2 rfl
    have hS := rsame_any _ _ t t _ _ w6 (Hr3.out.ext hb36) (Hr5.out.ext hb56) hnd
    rw [hsame] at hS
    clear d0 d1 d2 d3 d4 d5 d6 d7 c0 c1 c2 c3 c4 c5 c6 c7 hB6 hB6' hsame
    refine hS.mono ?_
    rintro e w7 ⟨rfl, hb7⟩
    have hb37 := ext_trans hb36 hb7
    have hK := known_any w7 (Ht3.out.ext hb37)
    have Hb37 := Lib.hid (ext_trans Hb3.out hb37)
    clear hS hb36 hb56 hb7 hb37 ho6
    go_wp2_with fail
    refine hK.mono ?_
    rintro e w8 ⟨rfl, hb8⟩
    go_wp2
    go_ret
    exact ⟨rfl, ext_trans Hb37.out hb8⟩

set_option maxRecDepth 100000 in
theorem contract (H : Type) (enc : TypeId × Value → H) (W : World) (base : Nat) (args : Array Value) (ds gs : List (DataW H)) (before : List MemPlace)
    (hval : ∀ (j : Nat) t v, Tryd.f5.params[j]? = some t → args[j]? = some v → Value.okWide Tryd.prog W .any base t v)
    (hW : DataW.Whole enc Tryd.prog Tryd.f5.params.toList Rows.regexBackSpec.vars false W args.toList ds gs before) (hL : laidMetH Tryd.prog Rows.regexBackRow.laid W) :
    Calls Tryd.prog 5 args W fun e W' => ∃ v, e = .returned v ∧ Rows.regexBackSpec.post enc Tryd.prog Tryd.f5 false true false false W args v W' := by
  have ht : Tab W := tab_of_laid hL
  have hW' := hW
  obtain ⟨p, q, hA0, hV, rfl, hfz, hnd⟩ := hW
  have hA : DataW.TrodAll enc Tryd.prog W 0 (fun _ => true) true Tryd.f5.params.toList args.toList ds p := hA0
  rw [Tryd.params5] at hA hval
  obtain ⟨x0, d0, rfl, rfl, h0⟩ := trodAll_one hA
  obtain ⟨t0, cs0, rfl, hr0⟩ := arg_re (hval 0 _ x0 rfl rfl) h0
  have walk : Calls Tryd.prog 5 #[reV cs0] W fun e w' => e = .returned (.bool true) ∧ Below W.heap.size W w' := back t0 cs0 W ht hr0
  refine walk.mono fun e W' ⟨he, hb⟩ => ?_
  subst he
  exact ⟨_, rfl, law_post rfl rfl (by kernel_rfl) ⟨rfl, rfl, rfl⟩ hW' hb⟩

theorem laid_met (os : Os) : laidMet Tryd.prog Rows.regexBackRow.laid ((laidWorld os).forCall (fun _ _ => 0) ⟨#[], #[.agg #[.int .i64 0, .int .u64 0, .int .u64 0, .int .u64 0, .int .u64 0, .slice none 0 0, .int .i64 0, .int .i64 0]], []⟩).memory :=
  laidMet_of_run' 8 (by kernel_rfl) (by kernel_rfl)
theorem reads (os : Os) {H : Type} (enc : TypeId × Value → H) : ∃ places, DataW.whole enc Tryd.prog ((laidWorld os).forCall (fun _ _ => 0) ⟨#[], #[.agg #[.int .i64 0, .int .u64 0, .int .u64 0, .int .u64 0, .int .u64 0, .slice none 0 0, .int .i64 0, .int .i64 0]], []⟩).memory Tryd.f5.params.toList Rows.regexBackSpec.vars false #[Value.agg #[.int .i64 0, .int .u64 0, .int .u64 0, .int .u64 0, .int .u64 0, .slice none 0 0, .int .i64 0, .int .i64 0]].toList 8 = some ([.agg [.lit (.int .i64 0), .agg [.lit (.int .u64 0), .lit (.int .u64 0), .lit (.int .u64 0), .lit (.int .u64 0)], .nil, .lit (.int .i64 0), .lit (.int .i64 0)]], [], places) :=
  ⟨[], by kernel_rfl⟩

set_option maxRecDepth 100000 in
theorem lifted (os : Os) (started : os.Started) (H : Type) (enc : TypeId × Value → H) (F : Stop.Interp) :
    ReturnsInHanded {} Tryd.checked os 5 .any ((OpenSpec.ofChange Rows.regexBackSpec).preRow enc Tryd.prog Tryd.f5 Rows.regexBackRow.domain false Rows.regexBackRow.laid) (((OpenSpec.ofChange Rows.regexBackSpec).at F).post enc Tryd.prog Tryd.f5 false true false false) := by
  obtain ⟨places, hx⟩ := reads os enc
  refine returnsInHanded_of_row (C := Tryd.checked) (s := OpenSpec.ofChange Rows.regexBackSpec) own started (by kernel_rfl) Tryd.func5
    (witness_row_at (enc := enc) (C := Tryd.checked) false (laidWorld os) #[.agg #[.int .i64 0, .int .u64 0, .int .u64 0, .int .u64 0, .int .u64 0, .slice none 0 0, .int .i64 0, .int .i64 0]] rfl (by kernel_rfl) (by kernel_rfl) (by kernel_rfl)
      (OpenSpec.preRow_of_cond 8 hx (by kernel_rfl) (fun k hk => by cases hk) (by kernel_rfl) (laid_met os))) ?_
  intro W base args ds gs before hval hW _ _ _ hL _ _
  exact contract H enc W base args ds gs before hval hW hL

theorem said : Rows.RegexBackSaid :=
  OpenClaim.holds_of_cond 5 Tryd.f5 rfl rfl rfl rfl rfl rfl rfl ⟨rfl, rfl, rfl, rfl, rfl⟩ rfl rfl rfl rfl rfl (by kernel_rfl) Tryd.func5 (by kernel_rfl)
    (of_decide_eq_true (by kernel_rfl)) (by unfold Func.isWrapper; first | (rw [if_pos (by decide +kernel)]; kernel_rfl) | (rw [if_neg (by decide +kernel)]; exact ⟨rfl, rfl⟩))
    (fun os started H enc _ F => by rw [OpenClaim.pre_eq_preRow]; exact lifted os started H enc F)

theorem plain (f : FuncId) (fn : Func) (hf : Tryd.pinned.checked.prog.funcNamed "winnower/winnowerlaw6.RegexBack" = some f) (hfn : Tryd.pinned.checked.prog.funcs[f]? = some fn) :
    false = Tryd.pinned.checked.prog.looks [] ∧ ∀ (j : Nat) t, fn.params[j]? = some t → Tryd.pinned.checked.prog.wantsStandIn t = false := by
  obtain rfl : f = 5 := Option.some.inj ((show Tryd.prog.funcNamed "winnower/winnowerlaw6.RegexBack" = some 5 by kernel_rfl).symm.trans hf) |>.symm
  obtain rfl : fn = Tryd.f5 := (Option.some.inj (Tryd.func5.symm.trans hfn)).symm
  refine ⟨by kernel_rfl, fun j t ht => ?_⟩
  have hall : Tryd.f5.params.all (fun t => !Tryd.prog.wantsStandIn t) = true := by kernel_rfl
  have h1 := Array.all_eq_true'.1 hall t (Array.mem_of_getElem? ht)
  have h2 : Tryd.prog.wantsStandIn t = false := by simpa using h1
  exact h2

/-- THE CARD -/
theorem regexBack_card : Rows.RegexBackCardSaid :=
  Claim7.holds_tied_plain_at .later [] _ _ _ _ said (fun _ h => by cases h) (by kernel_rfl) (fun _ h => by cases h) regexBack_row_tie rfl ⟨rfl, rfl⟩ (by kernel_rfl) rfl plain (by kernel_rfl)
end Go.Proofs.YtmggajpecgnjkaaDoor.RegexBack
