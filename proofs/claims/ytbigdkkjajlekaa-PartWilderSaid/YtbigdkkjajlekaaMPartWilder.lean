/-
  Statement PartWilder: merged with more, a template has never fewer parts that are Any; merged in whatever order with two rows, it is the same. No condition.
-/
import Derived.Test.YtbigdkkjajlekaaAll2
set_option linter.unusedVariables false
set_option linter.unusedSimpArgs false
namespace Go.Proofs.Ytbigdkkjajlekaa
open Go Go.ChangeShapes Go.WideShapes Go.ChangeAt Go.RowKit
namespace PartWilder
set_option maxRecDepth 100000
set_option maxHeartbeats 8000000 in
theorem wilder (A0 : Option Addr) (n0 c0 : Nat) (l0 : List Prt) (A1 : Option Addr) (n1 c1 : Nat) (l1 : List Tok) (A2 : Option Addr) (n2 c2 : Nat) (l2 : List Tok) (w : World) (hn0 : n0 = l0.length) (hn1 : n1 = l1.length) (hn2 : n2 = l2.length) (h0 : PartsAt w A0 l0) (hc0 : l0.length ≤ c0) (hs0 : ∀ p ∈ l0, p.text.length ≤ 140737488355328) (hl0 : l0.length ≤ 140737488355328) (h1 : ToksAt w A1 l1) (hc1 : l1.length ≤ c1) (hs1 : ∀ p ∈ l1, p.text.length ≤ 140737488355328) (hl1 : l1.length ≤ 140737488355328) (h2 : ToksAt w A2 l2) (hc2 : l2.length ≤ c2) (hs2 : ∀ p ∈ l2, p.text.length ≤ 140737488355328) (hl2 : l2.length ≤ 140737488355328) :
    Calls Try.prog 7 #[.slice A0 n0 c0, .slice A1 n1 c1, .slice A2 n2 c2] w fun e w' => e = .returned (.bool true) ∧ Below w.heap.size w w' := by
  subst hn0 hn1 hn2
  have HW0 := Lib.hid (wide_any A0 _ c0 l0 w rfl h0 hs0 hl0)
  have HW1 := Lib.hid (long_any A1 _ c1 l1 w rfl h1 hs1 hl1)
  have HW2 := Lib.hid (long_any A2 _ c2 l2 w rfl h2 hs2 hl2)
  by_cases hw0 : wideB l0 = true
  · rw [hw0] at HW0
    clear hw0
    go_enter Try.func7, Try.ntmps7
    go_wp2_with fail
    refine HW0.out.mono ?_
    rintro e w' ⟨rfl, rfl⟩
    go_wp2
    go_ret
    exact ⟨rfl, Below.refl _ _⟩
  have hx0 : wideB l0 = false := by simpa using hw0
  rw [hx0] at HW0
  have hm0 : sumP l0 l0.length ≤ 1500 := by have := of_decide_eq_false hx0; omega
  have hq0 : l0.length ≤ 1000000 := by have := sumP_ge l0 l0.length (Nat.le_refl _); omega
  clear hw0 hx0
  by_cases hw1 : longB l1 = true
  · rw [hw1] at HW1
    clear hw1
    go_enter Try.func7, Try.ntmps7
    go_wp2_with fail
    refine HW0.out.mono ?_
    rintro e w' ⟨rfl, rfl⟩
    go_wp2_with fail
    refine HW1.out.mono ?_
    rintro e w' ⟨rfl, rfl⟩
    go_wp2
    go_ret
    exact ⟨rfl, Below.refl _ _⟩
  have hx1 : longB l1 = false := by simpa using hw1
  rw [hx1] at HW1
  have hm1 : sumT l1 l1.length ≤ 1500 := by have := of_decide_eq_false hx1; omega
  have hq1 : l1.length ≤ 1000000 := by have := sumT_ge l1 l1.length (Nat.le_refl _); omega
  clear hw1 hx1
  by_cases hw2 : longB l2 = true
  · rw [hw2] at HW2
    clear hw2
    go_enter Try.func7, Try.ntmps7
    go_wp2_with fail
    refine HW0.out.mono ?_
    rintro e w' ⟨rfl, rfl⟩
    go_wp2_with fail
    refine HW1.out.mono ?_
    rintro e w' ⟨rfl, rfl⟩
    go_wp2_with fail
    refine HW2.out.mono ?_
    rintro e w' ⟨rfl, rfl⟩
    go_wp2
    go_ret
    exact ⟨rfl, Below.refl _ _⟩
  have hx2 : longB l2 = false := by simpa using hw2
  rw [hx2] at HW2
  have hm2 : sumT l2 l2.length ≤ 1500 := by have := of_decide_eq_false hx2; omega
  have hq2 : l2.length ≤ 1000000 := by have := sumT_ge l2 l2.length (Nat.le_refl _); omega
  clear hw2 hx2
  clear hs0 hs1 hs2 hl0 hl1 hl2 hm0 hm1 hm2
  by_cases e1 : l1.length = l0.length
  case neg =>
    have e1i : ¬ (l1.length : Int) = (l0.length : Int) := by omega
    clear e1
    go_enter Try.func7, Try.ntmps7
    go_wp2_with fail
    refine HW0.out.mono ?_
    rintro e w' ⟨rfl, rfl⟩
    go_wp2_with fail
    refine HW1.out.mono ?_
    rintro e w' ⟨rfl, rfl⟩
    go_wp2_with fail
    refine HW2.out.mono ?_
    rintro e w' ⟨rfl, rfl⟩
    go_wp2
    go_ret
    exact ⟨rfl, Below.refl _ _⟩
  by_cases e2 : l2.length = l0.length
  case neg =>
    have e1i : (l1.length : Int) = (l0.length : Int) := by omega
    have e2i : ¬ (l2.length : Int) = (l0.length : Int) := by omega
    clear e1 e2
    go_enter Try.func7, Try.ntmps7
    go_wp2_with fail
    refine HW0.out.mono ?_
    rintro e w' ⟨rfl, rfl⟩
    go_wp2_with fail
    refine HW1.out.mono ?_
    rintro e w' ⟨rfl, rfl⟩
    go_wp2_with fail
    refine HW2.out.mono ?_
    rintro e w' ⟨rfl, rfl⟩
    go_wp2
    go_ret
    exact ⟨rfl, Below.refl _ _⟩
  have hqm : ∀ ts, (mergeL l0 ts).length ≤ 1000000 := fun ts => by rw [mergeL_len]; exact hq0
  have hqn : ∀ ts us, (mergeL (mergeL l0 ts) us).length ≤ 1000000 := fun ts us => by rw [mergeL_len]; exact hqm ts
  have hcomm := merge_comm l0 l1 l2 e1.symm e2.symm
  have hw1 : (wildN l0 : Int) ≤ (wildN (mergeL l0 l1) : Int) := by have := merge_wild l0 l1; omega
  have hw2 : (wildN (mergeL l0 l1) : Int) ≤ (wildN (mergeL (mergeL l0 l1) l2) : Int) := by have := merge_wild (mergeL l0 l1) l2; omega
  have HM1 := Lib.hid (fun W (hb : Below w.heap.size w W) => merge_any_ A0 _ c0 l0 A1 _ c1 l1 W rfl rfl (h0.ext hb) (h1.ext hb) hq0 hq1)
  have HM2 := Lib.hid (fun W (hb : Below w.heap.size w W) => merge_any_ A0 _ c0 l0 A2 _ c2 l2 W rfl rfl (h0.ext hb) (h2.ext hb) hq0 hq2)
  have HM12 := Lib.hid (fun (B : Option Addr) (d : Nat) W (hb : Below w.heap.size w W) (hB : PartsAt W B (mergeL l0 l1)) => merge_any_ B _ d (mergeL l0 l1) A2 _ c2 l2 W rfl rfl hB (h2.ext hb) (hqm l1) hq2)
  have HM21 : Hid (∀ (B : Option Addr) (d : Nat) W, Below w.heap.size w W → PartsAt W B (mergeL l0 l2) → Calls Try.prog 16 #[.slice B (mergeL l0 l2).length d, .slice A1 l1.length c1] W (SaysParts (mergeL (mergeL l0 l1) l2) W)) := Lib.hid (fun B d W hb hB => by
    rw [hcomm]
    exact merge_any_ B _ d (mergeL l0 l2) A1 _ c1 l1 W rfl rfl hB (h1.ext hb) (hqm l2) hq1)
  have HWx := Lib.hid (fun (B : Option Addr) (d : Nat) W (hB : PartsAt W B (mergeL (mergeL l0 l1) l2)) => wild_any B _ d (mergeL (mergeL l0 l1) l2) W rfl hB (hqn l1 l2))
  have HW1' := Lib.hid (fun (B : Option Addr) (d : Nat) W (hB : PartsAt W B (mergeL l0 l1)) => wild_any B _ d (mergeL l0 l1) W rfl hB (hqm l1))
  have HW0' := Lib.hid (fun W (hb : Below w.heap.size w W) => wild_any A0 _ c0 l0 W rfl (h0.ext hb) hq0)
  have HS : Hid (∀ (B C : Option Addr) (cb cc : Nat) (W : World), PartsAt W B (mergeL (mergeL l0 l1) l2) → PartsAt W C (mergeL (mergeL l0 l1) l2) → Calls Try.prog 11 #[.slice B (mergeL (mergeL l0 l1) l2).length cb, .slice C (mergeL (mergeL l0 l1) l2).length cc] W (SaysEq true W)) := Lib.hid (fun B C cb cc W hB hC => by
    have := rsame_any B _ cb _ C _ cc _ W rfl rfl hB hC (hqn l1 l2) (hqn l1 l2)
    rwa [decide_eq_true rfl] at this)
  have e1i : (l1.length : Int) = (l0.length : Int) := by omega
  have e2i : (l2.length : Int) = (l0.length : Int) := by omega
  have E1 := Lib.hid e1
  have E2 := Lib.hid e2
  generalize wildN l0 = x0 at hw1 HW0'
  generalize wildN (mergeL l0 l1) = x1 at hw1 hw2 HW1'
  generalize wildN (mergeL (mergeL l0 l1) l2) = x2 at hw2 HWx
  clear hqm hqn hcomm e1 e2
  suffices hgo : Calls Try.prog 7 #[.slice A0 l0.length c0, .slice A1 l1.length c1, .slice A2 l2.length c2] w fun e w' => e = .returned (.bool true) ∧ Below w.heap.size w w' from hgo
  go_enter Try.func7, Try.ntmps7
  go_wp2_with fail
  refine HW0.out.mono ?_
  rintro e w' ⟨rfl, rfl⟩
  go_wp2_with fail
  refine HW1.out.mono ?_
  rintro e w' ⟨rfl, rfl⟩
  go_wp2_with fail
  refine HW2.out.mono ?_
  rintro e w' ⟨rfl, rfl⟩
  go_wp2_with fail
  refine (HM1.out _ (Below.refl _ _)).mono ?_
  rintro e w1 ⟨B1, d1, rfl, hn1⟩
  have Hn1 := Lib.hid hn1
  have Hb1 := Lib.hid (hn1.bel)
  clear hn1
  go_wp2_with fail
  refine (HM12.out B1 d1 _ Hb1.out Hn1.out.at_).mono ?_
  rintro e w2 ⟨B2, d2, rfl, hn2⟩
  have Hn2 := Lib.hid hn2
  have Hb2 := Lib.hid (ext_trans Hb1.out hn2.bel)
  clear hn2
  go_wp2_with fail
  refine (HM2.out _ Hb2.out).mono ?_
  rintro e w3 ⟨B3, d3, rfl, hn3⟩
  have Hn3 := Lib.hid hn3
  have Hb3 := Lib.hid (ext_trans Hb2.out hn3.bel)
  clear hn3
  go_wp2_with fail
  refine (HM21.out B3 d3 _ Hb3.out Hn3.out.at_).mono ?_
  rintro e w4 ⟨B4, d4, rfl, hn4⟩
  have Hn4 := Lib.hid hn4
  have Hb4 := Lib.hid (ext_trans Hb3.out hn4.bel)
  clear hn4
  have HX4 := Lib.hid ((Hn2.out.at_.ext Hn3.out.bel).ext Hn4.out.bel)
  have HY4 := Lib.hid (Hn4.out.at_)
  go_wp2_with fail
  refine (HWx.out B2 d2 _ HX4.out).mono ?_
  rintro e w5 ⟨rfl, hb5⟩
  have Hb5 := Lib.hid (ext_trans Hb4.out hb5)
  have HX5 := Lib.hid (HX4.out.ext hb5)
  have HY5 := Lib.hid (HY4.out.ext hb5)
  clear hb5
  go_wp2_with fail
  refine (HM1.out _ Hb5.out).mono ?_
  rintro e w6 ⟨B5, d5, rfl, hn6⟩
  have Hn6 := Lib.hid hn6
  have Hb6 := Lib.hid (ext_trans Hb5.out hn6.bel)
  have HX6 := Lib.hid (HX5.out.ext hn6.bel)
  have HY6 := Lib.hid (HY5.out.ext hn6.bel)
  clear hn6
  go_wp2_with fail
  refine (HW1'.out B5 d5 _ Hn6.out.at_).mono ?_
  rintro e w7 ⟨rfl, hb7⟩
  have Hb7 := Lib.hid (ext_trans Hb6.out hb7)
  have HX7 := Lib.hid (HX6.out.ext hb7)
  have HY7 := Lib.hid (HY6.out.ext hb7)
  clear hb7
  go_wp2_with fail
  refine (HM1.out _ Hb7.out).mono ?_
  rintro e w8 ⟨B6, d6, rfl, hn8⟩
  have Hn8 := Lib.hid hn8
  have Hb8 := Lib.hid (ext_trans Hb7.out hn8.bel)
  have HX8 := Lib.hid (HX7.out.ext hn8.bel)
  have HY8 := Lib.hid (HY7.out.ext hn8.bel)
  clear hn8
  go_wp2_with fail
  refine (HW1'.out B6 d6 _ Hn8.out.at_).mono ?_
  rintro e w9 ⟨rfl, hb9⟩
  have Hb9 := Lib.hid (ext_trans Hb8.out hb9)
  have HX9 := Lib.hid (HX8.out.ext hb9)
  have HY9 := Lib.hid (HY8.out.ext hb9)
  clear hb9
  go_wp2_with fail
  refine (HW0'.out _ Hb9.out).mono ?_
  rintro e w10 ⟨rfl, hb10⟩
  have Hb10 := Lib.hid (ext_trans Hb9.out hb10)
  have HX10 := Lib.hid (HX9.out.ext hb10)
  have HY10 := Lib.hid (HY9.out.ext hb10)
  clear hb10
  go_wp2_with fail
  refine (HS.out B2 B4 d2 d4 _ HX10.out HY10.out).mono ?_
  rintro e w11 ⟨rfl, hb11⟩
  have Hb11 := Lib.hid (ext_trans Hb10.out hb11)
  clear hb11
  go_wp2_with fail
  refine (known14_any _).mono ?_
  rintro e w12 ⟨rfl, hb12⟩
  have Hb12 := Lib.hid (ext_trans Hb11.out hb12)
  clear hb12
  go_wp2
  go_ret
  exact ⟨rfl, Hb12.out⟩

set_option maxRecDepth 100000 in
theorem contract (H : Type) (enc : TypeId × Value → H) (W : World) (base : Nat) (args : Array Value) (ds gs : List (DataW H)) (before : List MemPlace)
    (hval : ∀ (j : Nat) t v, Try.f7.params[j]? = some t → args[j]? = some v → Value.okWide Try.prog W .any base t v)
    (hW : DataW.Whole enc Try.prog Try.f7.params.toList Rows.partWilderSpec.vars false W args.toList ds gs before) (hz : (DataW.weightsEach Try.prog (Try.f7.params.toList ++ (OpenSpec.ofChange Rows.partWilderSpec).bare.plain.varTypes Try.prog) (ds ++ gs)).all (· ≤ reachBytes) = true) :
    Calls Try.prog 7 args W fun e W' => ∃ v, e = .returned v ∧ Rows.partWilderSpec.post enc Try.prog Try.f7 false true false false W args v W' := by
  have hW' := hW
  obtain ⟨p, q, hA0, hV, rfl, hfz, hnd⟩ := hW
  have hA : DataW.TrodAll enc Try.prog W 0 (fun _ => true) true Try.f7.params.toList args.toList ds p := hA0
  rw [Try.params7] at hA hval
  obtain ⟨x0, x1, x2, d0, d1, d2, p0, p1, p2, rfl, rfl, rfl, h0, h1, h2⟩ := trodAll_three hA
  obtain ⟨A0, n0, c0, xs0, rfl, hn0, hc0, hm0, hr0, hz0, hu0⟩ := arg_parts (hval 0 _ x0 rfl rfl) h0
  obtain ⟨hs0, hl0⟩ := hz0.le (sized_of hz (j := 0) (by rw [Try.params7]; rfl) rfl)
  obtain ⟨A1, n1, c1, xs1, rfl, hn1, hc1, hm1, hr1, hz1, hu1⟩ := arg_toks (hval 1 _ x1 rfl rfl) h1
  obtain ⟨hs1, hl1⟩ := hz1.le (sized_of hz (j := 1) (by rw [Try.params7]; rfl) rfl)
  obtain ⟨A2, n2, c2, xs2, rfl, hn2, hc2, hm2, hr2, hz2, hu2⟩ := arg_toks (hval 2 _ x2 rfl rfl) h2
  obtain ⟨hs2, hl2⟩ := hz2.le (sized_of hz (j := 2) (by rw [Try.params7]; rfl) rfl)
  have walk : Calls Try.prog 7 #[.slice A0 n0 c0, .slice A1 n1 c1, .slice A2 n2 c2] W fun e w' => e = .returned (.bool true) ∧ Below W.heap.size W w' := wilder A0 n0 c0 xs0 A1 n1 c1 xs1 A2 n2 c2 xs2 W hn0 hn1 hn2 hr0 hc0 (fun p hp => hs0 _ (List.mem_map.2 ⟨p, hp, rfl⟩)) hl0 hr1 hc1 (fun p hp => hs1 _ (List.mem_map.2 ⟨p, hp, rfl⟩)) hl1 hr2 hc2 (fun p hp => hs2 _ (List.mem_map.2 ⟨p, hp, rfl⟩)) hl2
  refine walk.mono fun e W' ⟨he, hb⟩ => ?_
  subst he
  exact ⟨_, rfl, law_post rfl rfl (by kernel_rfl) ⟨rfl, rfl, rfl⟩ hW' hb⟩

theorem laid_met (os : Os) : laidMet Try.prog Rows.partWilderRow.laid ((plainWorld os).forCall (fun _ _ => 0) ⟨#[], #[.slice none 0 0, .slice none 0 0, .slice none 0 0], []⟩).memory :=
  laidMet_of_run' 8 (by kernel_rfl) (by kernel_rfl)
theorem reads (os : Os) {H : Type} (enc : TypeId × Value → H) : ∃ places, DataW.whole enc Try.prog ((plainWorld os).forCall (fun _ _ => 0) ⟨#[], #[.slice none 0 0, .slice none 0 0, .slice none 0 0], []⟩).memory Try.f7.params.toList Rows.partWilderSpec.vars false #[Value.slice none 0 0, .slice none 0 0, .slice none 0 0].toList 8 = some ([.nil, .nil, .nil], [], places) :=
  ⟨[], by kernel_rfl⟩

set_option maxRecDepth 100000 in
theorem lifted (os : Os) (started : os.Started) (H : Type) (enc : TypeId × Value → H) (F : Stop.Interp) :
    ReturnsInHanded {} Try.checked os 7 .any ((OpenSpec.ofChange Rows.partWilderSpec).preRow enc Try.prog Try.f7 Rows.partWilderRow.domain false Rows.partWilderRow.laid) (((OpenSpec.ofChange Rows.partWilderSpec).at F).post enc Try.prog Try.f7 false true false false) := by
  obtain ⟨places, hx⟩ := reads os enc
  refine returnsInHanded_of_row (C := Try.checked) (s := OpenSpec.ofChange Rows.partWilderSpec) own started (by kernel_rfl) Try.func7
    (witness_row_at (enc := enc) (C := Try.checked) false (plainWorld os) #[.slice none 0 0, .slice none 0 0, .slice none 0 0] rfl (by kernel_rfl) (by kernel_rfl) (by kernel_rfl)
      (OpenSpec.preRow_of_cond 8 hx (by kernel_rfl) (fun k hk => by cases hk) (by kernel_rfl) (laid_met os))) ?_
  intro W base args ds gs before hval hW _ _ hz _ _ _
  exact contract H enc W base args ds gs before hval hW hz

theorem said : Rows.PartWilderSaid :=
  OpenClaim.holds_of_cond 7 Try.f7 rfl rfl rfl rfl rfl rfl rfl ⟨rfl, rfl, rfl, rfl, rfl⟩ rfl rfl rfl rfl rfl (by kernel_rfl) Try.func7 (by kernel_rfl)
    (of_decide_eq_true (by kernel_rfl)) (by unfold Func.isWrapper; first | (rw [if_pos (by decide +kernel)]; kernel_rfl) | (rw [if_neg (by decide +kernel)]; exact ⟨rfl, rfl⟩))
    (fun os started H enc _ F => by rw [OpenClaim.pre_eq_preRow]; exact lifted os started H enc F)

end Go.Proofs.Ytbigdkkjajlekaa.PartWilder
