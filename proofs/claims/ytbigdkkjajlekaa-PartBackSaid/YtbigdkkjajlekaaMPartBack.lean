/-
  Statement PartBack: where a template fits, it and its variables are the tokens' texts; of its own tokens it fits. No condition.
-/
import Derived.Test.YtbigdkkjajlekaaAll2
set_option linter.unusedVariables false
set_option linter.unusedSimpArgs false
namespace Go.Proofs.Ytbigdkkjajlekaa
open Go Go.ChangeShapes Go.WideShapes Go.ChangeAt Go.RowKit
namespace PartBack
set_option maxRecDepth 100000
theorem rend_fit (ps : List Prt) (ts : List Tok) (hf : fitsB ps ts = true) (w : World) : SaysRender ps (varsL ps ts) w = fun e w' => e = .returned (.tuple #[strV (joinL ts), .int .i64 0]) ∧ Below w.heap.size w w' := by
  have hl := ((fits_iff ps ts).1 hf).1
  funext e w'
  unfold SaysRender rendS rendE
  rw [if_pos (varsL_len ps ts hl), if_pos (varsL_len ps ts hl), render_back ps ts hf]
theorem vars_small (ps : List Prt) (ts : List Tok) : (varsL ps ts).length ≤ ps.length := by
  have h3 := varsTo_len ps ts ps.length
  rwa [varsTo_all ps ts ps.length (.inl (Nat.le_refl _))] at h3
theorem render_fit (ps : List Prt) (ts : List Tok) (hf : fitsB ps ts = true) (hq : ps.length ≤ 1000000) (hm : sumT ts ts.length ≤ 1500) {Z : ByteArray} (hZ : strV (joinL ts) = .string Z) (A : Option Addr) (c : Nat) (V : Option Addr) (cv : Nat) (W : World) (h : PartsAt W A ps) (hV : Rd W V ((varsL ps ts).map strV)) (hcv : (varsL ps ts).length ≤ cv) :
    Calls Try.prog 25 #[.slice A ps.length c, .slice V (varsL ps ts).length cv] W fun e w' => e = .returned (.tuple #[.string Z, .int .i64 0]) ∧ Below W.heap.size W w' := by
  have hv := vars_small ps ts
  have := render_any A _ c ps V _ cv (varsL ps ts) W rfl rfl h hV hcv hq (by omega) (by
    rw [render_back ps ts hf]
    have := joinTo_len ts ts.length
    unfold joinL
    omega)
  rw [rend_fit ps ts hf W, hZ] at this
  exact this
set_option maxHeartbeats 8000000 in
theorem back (A0 : Option Addr) (n0 c0 : Nat) (l0 : List Prt) (A1 : Option Addr) (n1 c1 : Nat) (l1 : List Tok) (w : World) (hn0 : n0 = l0.length) (hn1 : n1 = l1.length) (h0 : PartsAt w A0 l0) (hc0 : l0.length ≤ c0) (hs0 : ∀ p ∈ l0, p.text.length ≤ 140737488355328) (hl0 : l0.length ≤ 140737488355328) (h1 : ToksAt w A1 l1) (hc1 : l1.length ≤ c1) (hs1 : ∀ p ∈ l1, p.text.length ≤ 140737488355328) (hl1 : l1.length ≤ 140737488355328) :
    Calls Try.prog 5 #[.slice A0 n0 c0, .slice A1 n1 c1] w fun e w' => e = .returned (.bool true) ∧ Below w.heap.size w w' := by
  subst hn0 hn1
  have HW0 := Lib.hid (wide_any A0 _ c0 l0 w rfl h0 hs0 hl0)
  have HW1 := Lib.hid (long_any A1 _ c1 l1 w rfl h1 hs1 hl1)
  by_cases hw0 : wideB l0 = true
  · rw [hw0] at HW0
    clear hw0
    go_enter Try.func5, Try.ntmps5
    go_wp2_with fail
    refine HW0.out.mono ?_
    rintro e w' ⟨rfl, rfl⟩
    go_wp2
    go_ret
    exact ⟨rfl, Below.refl _ _⟩
  have hx0 : wideB l0 = false := by simpa using hw0
  rw [hx0] at HW0
  have hm0 : sumP l0 l0.length ≤ 1500 := by have := of_decide_eq_false hx0; omega
  have hq0 : l0.length ≤ 1000000 := by have := sumP_ge l0 l0.length (Nat.le_refl _); omega
  clear hw0 hx0
  by_cases hw1 : longB l1 = true
  · rw [hw1] at HW1
    clear hw1
    go_enter Try.func5, Try.ntmps5
    go_wp2_with fail
    refine HW0.out.mono ?_
    rintro e w' ⟨rfl, rfl⟩
    go_wp2_with fail
    refine HW1.out.mono ?_
    rintro e w' ⟨rfl, rfl⟩
    go_wp2
    go_ret
    exact ⟨rfl, Below.refl _ _⟩
  have hx1 : longB l1 = false := by simpa using hw1
  rw [hx1] at HW1
  have hm1 : sumT l1 l1.length ≤ 1500 := by have := of_decide_eq_false hx1; omega
  have hq1 : l1.length ≤ 1000000 := by have := sumT_ge l1 l1.length (Nat.le_refl _); omega
  clear hw1 hx1
  have hj : joinL l1 = joinTo l1 l1.length := rfl
  obtain ⟨Z, hZ, -⟩ := str_hide (joinL l1)
  have hqo : (ofL l1).length ≤ 1000000 := by rw [ofL_len]; exact hq1
  have HOf := Lib.hid (fun W (hb : Below w.heap.size w W) => of_any A1 _ c1 l1 W rfl (h1.ext hb) hq1)
  have HVo := Lib.hid (fun (B : Option Addr) (d : Nat) W (hb : Below w.heap.size w W) (hB : PartsAt W B (ofL l1)) (hd : (ofL l1).length ≤ d) => vars_any B _ d (ofL l1) A1 _ c1 l1 W rfl rfl hd hB (h1.ext hb) hqo hq1)
  have HRo := Lib.hid (render_fit (ofL l1) l1 (fits_of l1) hqo hm1 hZ)
  have HFo : Hid (∀ (B : Option Addr) (d : Nat) W, Below w.heap.size w W → PartsAt W B (ofL l1) → Calls Try.prog 15 #[.slice B (ofL l1).length d, .slice A1 l1.length c1] W (SaysEq true W)) := Lib.hid (fun B d W hb hB => by
    have := fits_any B _ d (ofL l1) A1 _ c1 l1 W rfl rfl hB (h1.ext hb) hqo hq1
    rwa [fits_of] at this)
  have HJ : Hid (∀ W, Below w.heap.size w W → Calls Try.prog 27 #[.slice A1 l1.length c1] W fun e w' => e = .returned (.string Z) ∧ w' = W) := Lib.hid (fun W hb => by
    have := rjoin_any A1 _ c1 l1 W rfl (h1.ext hb) hq1 (by omega)
    rwa [hZ] at this)
  have HRA := Lib.hid (fun W (hb : Below w.heap.size w W) => ralike_any A0 _ c0 l0 A1 _ c1 l1 W rfl rfl (h0.ext hb) (h1.ext hb) hq0 hq1)
  clear hs0 hs1 hl0 hl1 hm0 hj
  by_cases hfit : alikeI l0 l1 = (l0.length : Int)
  · have hfb : fitsB l0 l1 = true := decide_eq_true hfit
    have hll : (l0.length : Int) = (l1.length : Int) := by have := ((fits_iff l0 l1).1 hfb).1; omega
    have HVt := Lib.hid (fun W (hb : Below w.heap.size w W) => vars_any A0 _ c0 l0 A1 _ c1 l1 W rfl rfl hc0 (h0.ext hb) (h1.ext hb) hq0 hq1)
    have HRt := Lib.hid (render_fit l0 l1 hfb hq0 hm1 hZ)
    have HH0 := Lib.hid (fun W (hb : Below w.heap.size w W) => h0.ext hb)
    rw [hfit] at HRA
    clear hfit hfb hZ hm1
    go_enter Try.func5, Try.ntmps5
    go_wp2_with fail
    refine HW0.out.mono ?_
    rintro e w' ⟨rfl, rfl⟩
    go_wp2_with fail
    refine HW1.out.mono ?_
    rintro e w' ⟨rfl, rfl⟩
    go_wp2_with fail
    refine (HOf.out _ (Below.refl _ _)).mono ?_
    rintro e w1 ⟨B1, d1, rfl, hn1⟩
    have Hn1 := Lib.hid hn1
    have Hb1 := Lib.hid (hn1.bel)
    clear hn1
    go_wp2_with fail
    refine (HVo.out B1 d1 _ Hb1.out Hn1.out.at_ Hn1.out.row.le).mono ?_
    rintro e w2 ⟨B2, d2, rfl, hn2⟩
    have Hn2 := Lib.hid hn2
    have Hb2 := Lib.hid (ext_trans Hb1.out hn2.bel)
    clear hn2
    go_wp2_with fail
    refine (HRo.out B1 d1 B2 d2 _ (Hn1.out.at_.ext Hn2.out.bel) Hn2.out.rd Hn2.out.row.le).mono ?_
    rintro e w3 ⟨rfl, hb3⟩
    have HPb := Lib.hid ((Hn1.out.at_.ext Hn2.out.bel).ext hb3)
    have Hb3 := Lib.hid (ext_trans Hb2.out hb3)
    clear hb3
    go_wp2_with fail
    refine (HFo.out B1 d1 _ Hb3.out HPb.out).mono ?_
    rintro e w4 ⟨rfl, hb4⟩
    have Hb4 := Lib.hid (ext_trans Hb3.out hb4)
    clear hb4
    go_wp2_with fail
    refine (HJ.out _ Hb4.out).mono ?_
    rintro e w' ⟨rfl, rfl⟩
    go_wp2_with fail
    refine (HRA.out _ Hb4.out).mono ?_
    rintro e w5 ⟨rfl, hb5⟩
    have Hb5 := Lib.hid (ext_trans Hb4.out hb5)
    clear hb5
    go_wp2_with fail
    refine (HVt.out _ Hb5.out).mono ?_
    rintro e w6 ⟨B3, d3, rfl, hn6⟩
    have Hn6 := Lib.hid hn6
    have Hb6 := Lib.hid (ext_trans Hb5.out hn6.bel)
    clear hn6
    go_wp2_with fail
    refine (HRt.out A0 c0 B3 d3 _ (HH0.out _ Hb6.out) Hn6.out.rd Hn6.out.row.le).mono ?_
    rintro e w7 ⟨rfl, hb7⟩
    have Hb7 := Lib.hid (ext_trans Hb6.out hb7)
    clear hb7
    go_wp2_with fail
    refine (HJ.out _ Hb7.out).mono ?_
    rintro e w' ⟨rfl, rfl⟩
    go_wp2_with fail
    refine (known14_any _).mono ?_
    rintro e w8 ⟨rfl, hb8⟩
    have Hb8 := Lib.hid (ext_trans Hb7.out hb8)
    clear hb8
    go_wp2
    go_ret
    exact ⟨rfl, Hb8.out⟩
  · generalize alikeI l0 l1 = z at hfit HRA
    clear hZ hm1
    go_enter Try.func5, Try.ntmps5
    go_wp2_with fail
    refine HW0.out.mono ?_
    rintro e w' ⟨rfl, rfl⟩
    go_wp2_with fail
    refine HW1.out.mono ?_
    rintro e w' ⟨rfl, rfl⟩
    go_wp2_with fail
    refine (HOf.out _ (Below.refl _ _)).mono ?_
    rintro e w1 ⟨B1, d1, rfl, hn1⟩
    have Hn1 := Lib.hid hn1
    have Hb1 := Lib.hid (hn1.bel)
    clear hn1
    go_wp2_with fail
    refine (HVo.out B1 d1 _ Hb1.out Hn1.out.at_ Hn1.out.row.le).mono ?_
    rintro e w2 ⟨B2, d2, rfl, hn2⟩
    have Hn2 := Lib.hid hn2
    have Hb2 := Lib.hid (ext_trans Hb1.out hn2.bel)
    clear hn2
    go_wp2_with fail
    refine (HRo.out B1 d1 B2 d2 _ (Hn1.out.at_.ext Hn2.out.bel) Hn2.out.rd Hn2.out.row.le).mono ?_
    rintro e w3 ⟨rfl, hb3⟩
    have HPb := Lib.hid ((Hn1.out.at_.ext Hn2.out.bel).ext hb3)
    have Hb3 := Lib.hid (ext_trans Hb2.out hb3)
    clear hb3
    go_wp2_with fail
    refine (HFo.out B1 d1 _ Hb3.out HPb.out).mono ?_
    rintro e w4 ⟨rfl, hb4⟩
    have Hb4 := Lib.hid (ext_trans Hb3.out hb4)
    clear hb4
    go_wp2_with fail
    refine (HJ.out _ Hb4.out).mono ?_
    rintro e w' ⟨rfl, rfl⟩
    go_wp2_with fail
    refine (HRA.out _ Hb4.out).mono ?_
    rintro e w5 ⟨rfl, hb5⟩
    have Hb5 := Lib.hid (ext_trans Hb4.out hb5)
    clear hb5
    go_wp2_with fail
    refine (known14_any _).mono ?_
    rintro e w6 ⟨rfl, hb6⟩
    have Hb6 := Lib.hid (ext_trans Hb5.out hb6)
    clear hb6
    go_wp2
    go_ret
    exact ⟨rfl, Hb6.out⟩

set_option maxRecDepth 100000 in
theorem contract (H : Type) (enc : TypeId × Value → H) (W : World) (base : Nat) (args : Array Value) (ds gs : List (DataW H)) (before : List MemPlace)
    (hval : ∀ (j : Nat) t v, Try.f5.params[j]? = some t → args[j]? = some v → Value.okWide Try.prog W .any base t v)
    (hW : DataW.Whole enc Try.prog Try.f5.params.toList Rows.partBackSpec.vars false W args.toList ds gs before) (hz : (DataW.weightsEach Try.prog (Try.f5.params.toList ++ (OpenSpec.ofChange Rows.partBackSpec).bare.plain.varTypes Try.prog) (ds ++ gs)).all (· ≤ reachBytes) = true) :
    Calls Try.prog 5 args W fun e W' => ∃ v, e = .returned v ∧ Rows.partBackSpec.post enc Try.prog Try.f5 false true false false W args v W' := by
  have hW' := hW
  obtain ⟨p, q, hA0, hV, rfl, hfz, hnd⟩ := hW
  have hA : DataW.TrodAll enc Try.prog W 0 (fun _ => true) true Try.f5.params.toList args.toList ds p := hA0
  rw [Try.params5] at hA hval
  obtain ⟨x0, x1, d0, d1, p0, p1, rfl, rfl, rfl, h0, h1⟩ := trodAll_two hA
  obtain ⟨A0, n0, c0, xs0, rfl, hn0, hc0, hm0, hr0, hz0, hu0⟩ := arg_parts (hval 0 _ x0 rfl rfl) h0
  obtain ⟨hs0, hl0⟩ := hz0.le (sized_of hz (j := 0) (by rw [Try.params5]; rfl) rfl)
  obtain ⟨A1, n1, c1, xs1, rfl, hn1, hc1, hm1, hr1, hz1, hu1⟩ := arg_toks (hval 1 _ x1 rfl rfl) h1
  obtain ⟨hs1, hl1⟩ := hz1.le (sized_of hz (j := 1) (by rw [Try.params5]; rfl) rfl)
  have walk : Calls Try.prog 5 #[.slice A0 n0 c0, .slice A1 n1 c1] W fun e w' => e = .returned (.bool true) ∧ Below W.heap.size W w' := back A0 n0 c0 xs0 A1 n1 c1 xs1 W hn0 hn1 hr0 hc0 (fun p hp => hs0 _ (List.mem_map.2 ⟨p, hp, rfl⟩)) hl0 hr1 hc1 (fun p hp => hs1 _ (List.mem_map.2 ⟨p, hp, rfl⟩)) hl1
  refine walk.mono fun e W' ⟨he, hb⟩ => ?_
  subst he
  exact ⟨_, rfl, law_post rfl rfl (by kernel_rfl) ⟨rfl, rfl, rfl⟩ hW' hb⟩

theorem laid_met (os : Os) : laidMet Try.prog Rows.partBackRow.laid ((plainWorld os).forCall (fun _ _ => 0) ⟨#[], #[.slice none 0 0, .slice none 0 0], []⟩).memory :=
  laidMet_of_run' 8 (by kernel_rfl) (by kernel_rfl)
theorem reads (os : Os) {H : Type} (enc : TypeId × Value → H) : ∃ places, DataW.whole enc Try.prog ((plainWorld os).forCall (fun _ _ => 0) ⟨#[], #[.slice none 0 0, .slice none 0 0], []⟩).memory Try.f5.params.toList Rows.partBackSpec.vars false #[Value.slice none 0 0, .slice none 0 0].toList 8 = some ([.nil, .nil], [], places) :=
  ⟨[], by kernel_rfl⟩

set_option maxRecDepth 100000 in
theorem lifted (os : Os) (started : os.Started) (H : Type) (enc : TypeId × Value → H) (F : Stop.Interp) :
    ReturnsInHanded {} Try.checked os 5 .any ((OpenSpec.ofChange Rows.partBackSpec).preRow enc Try.prog Try.f5 Rows.partBackRow.domain false Rows.partBackRow.laid) (((OpenSpec.ofChange Rows.partBackSpec).at F).post enc Try.prog Try.f5 false true false false) := by
  obtain ⟨places, hx⟩ := reads os enc
  refine returnsInHanded_of_row (C := Try.checked) (s := OpenSpec.ofChange Rows.partBackSpec) own started (by kernel_rfl) Try.func5
    (witness_row_at (enc := enc) (C := Try.checked) false (plainWorld os) #[.slice none 0 0, .slice none 0 0] rfl (by kernel_rfl) (by kernel_rfl) (by kernel_rfl)
      (OpenSpec.preRow_of_cond 8 hx (by kernel_rfl) (fun k hk => by cases hk) (by kernel_rfl) (laid_met os))) ?_
  intro W base args ds gs before hval hW _ _ hz _ _ _
  exact contract H enc W base args ds gs before hval hW hz

theorem said : Rows.PartBackSaid :=
  OpenClaim.holds_of_cond 5 Try.f5 rfl rfl rfl rfl rfl rfl rfl ⟨rfl, rfl, rfl, rfl, rfl⟩ rfl rfl rfl rfl rfl (by kernel_rfl) Try.func5 (by kernel_rfl)
    (of_decide_eq_true (by kernel_rfl)) (by unfold Func.isWrapper; first | (rw [if_pos (by decide +kernel)]; kernel_rfl) | (rw [if_neg (by decide +kernel)]; exact ⟨rfl, rfl⟩))
    (fun os started H enc _ F => by rw [OpenClaim.pre_eq_preRow]; exact lifted os started H enc F)

end Go.Proofs.Ytbigdkkjajlekaa.PartBack
