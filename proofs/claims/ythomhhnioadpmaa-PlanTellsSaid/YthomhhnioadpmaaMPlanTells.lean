/-
  Statement PlanTells: of any spans whether they may be, which two are to be one, what they are then, what goes. No condition.
-/
import Derived.Test.YthomhhnioadpmaaAll3
set_option linter.unusedVariables false
set_option linter.unusedSimpArgs false
namespace Go.Proofs.Ythomhhnioadpmaa
open Go Go.ChangeShapes Go.WideShapes Go.ChangeAt Go.RowKit
namespace PlanTells
set_option maxRecDepth 100000
theorem joinR_len (l : List Sp) (i id : Int) : (joinR l i id).length ≤ l.length := by
  unfold joinR
  split
  · rename_i h
    unfold canJ at h
    rw [Bool.and_eq_true] at h
    have hj := h.2
    unfold joinsI joinsK at hj
    simp only [Bool.and_eq_true, decide_eq_true_eq] at hj
    rw [putS_len _ _ _ (by omega)]
    omega
  · exact Nat.le_refl _
set_option maxHeartbeats 8000000 in
theorem tells (A : Option Addr) (n c : Nat) (l : List Sp) (i id m : Int) (w : World) (hn : n = l.length) (hc : l.length ≤ c) (h : SpsAt w A l) (h0 : A = none → n = 0 ∧ c = 0) (hok : ∀ k, k < l.length → (l.getD k spZ).ok) (hi : isInt i) (hid : isInt id) (hmi : isInt m) (hm : n ≤ maxLen) :
    Calls Try.prog 3 #[.slice A n c, .int .i64 i, .int .i64 id, .int .i64 m] w fun e w' => e = .returned (.bool true) ∧ Below w.heap.size w w' := by
  subst hn
  unfold maxLen at hm
  by_cases h100 : l.length ≤ 100
  case neg =>
    have hi : (100 : Int) < (l.length : Int) := by omega
    clear h hok h0
    go_enter Try.func3, Try.ntmps3
    go_wp2
    go_ret
    exact ⟨rfl, Below.refl _ _⟩
  have hni : ¬ (100 : Int) < (l.length : Int) := by omega
  by_cases hm1 : m < -1125899906842624
  case pos =>
    clear h hok h0
    go_enter Try.func3, Try.ntmps3
    go_wp2
    go_ret
    exact ⟨rfl, Below.refl _ _⟩
  by_cases hm2 : 1125899906842624 < m
  case pos =>
    clear h hok h0
    go_enter Try.func3, Try.ntmps3
    go_wp2
    go_ret
    exact ⟨rfl, Below.refl _ _⟩
  have H := Lib.hid h
  have HO := Lib.hid hok
  have H0 := Lib.hid h0
  have Hi := Lib.hid hi
  have Hid_ := Lib.hid hid
  have Hm := Lib.hid hmi
  have Hc := Lib.hid hc
  have Hn := Lib.hid h100
  obtain ⟨n, hnl⟩ : ∃ n, l.length = n := ⟨_, rfl⟩
  have Hnl := Lib.hid hnl
  rw [hnl] at hni h100 hm ⊢
  have hnb : (n : Int) ≤ 100 := by omega
  clear h hok h0 hi hid hmi hc hnl
  go_enter Try.func3, Try.ntmps3
  go_wp2
  go_loopw [9] (fun v wr => ∃ k : Nat, k ≤ n ∧ v = .int .i64 (k : Int) ∧ Hid (∀ j, j < k → -1125899906842624 ≤ (l.getD j spZ).first ∧ (l.getD j spZ).first ≤ 1125899906842624) ∧ Hid (Below w.heap.size w wr)) (fun v _ => n - (intOf v).toNat)
  case atStart => exact ⟨0, Nat.zero_le _, rfl, Lib.hid (fun j hj => by omega), Lib.hid (Below.refl _ _)⟩
  case round =>
    obtain ⟨k, hk, rfl, HF, Hb⟩ := hrel
    by_cases hlt : k < n
    · have hki : (k : Int) < (n : Int) := by omega
      obtain ⟨g, o, rfl, -, x1, -⟩ := (H.out.ext Hb.out).at_ (k := k) (by rw [Hnl.out]; exact hlt)
      obtain ⟨f, hf⟩ : ∃ f, (l.getD k spZ).first = f := ⟨_, rfl⟩
      rw [hf] at x1
      have HFe := Lib.hid hf
      clear hf
      by_cases h1 : f < -1125899906842624
      · go_wp2
        go_ret
        exact ⟨rfl, Hb.out⟩
      · by_cases h2 : 1125899906842624 < f
        · go_wp2
          go_ret
          exact ⟨rfl, Hb.out⟩
        · go_wp2
          go_roundw
          case rel => exact ⟨k + 1, by omega, by go_num, Lib.hid (fun j hj => by
            rcases Nat.lt_or_ge j k with h | h
            · exact HF.out j h
            · obtain rfl : j = k := by omega
              rw [HFe.out]; omega), Hb⟩
          case measure => simp [intOf]; omega
    · obtain rfl : k = n := by omega
      rename World => w1
      have HS := fun W (hW : Below w1.heap.size w1 W) => H.out.ext (ext_trans Hb.out hW)
      have HSh := Lib.hid HS
      have hll : l.length ≤ 1000000 := by have := Hn.out; omega
      have HP := Lib.hid (fun W (hW : Below w1.heap.size w1 W) => pick_any A k c l W Hnl.out.symm hll (HSh.out W hW) HO.out)
      have HRP := Lib.hid (fun W (hW : Below w1.heap.size w1 W) => rpick_any A k c l W Hnl.out.symm hll (HSh.out W hW))
      have HJ := Lib.hid (fun W (hW : Below w1.heap.size w1 W) => join_any A k c l i id W Hnl.out.symm hll (HSh.out W hW) (fun e => by have := H0.out e; rw [Hnl.out] at this; exact this) HO.out Hi.out Hid_.out)
      have HRJ := Lib.hid (fun W (hW : Below w1.heap.size w1 W) => rjoin_any A k c l i id W Hnl.out.symm hll Hc.out (HSh.out W hW) (fun e => by have := H0.out e; rw [Hnl.out] at this; exact this) Hi.out Hid_.out)
      have HD := Lib.hid (fun W (hW : Below w1.heap.size w1 W) => drop_any A k c l m W Hnl.out.symm hll (HSh.out W hW) HO.out Hm.out)
      have HRD := Lib.hid (fun W (hW : Below w1.heap.size w1 W) => rdrop_any A k c l m W Hnl.out.symm hll (HSh.out W hW) (by omega) (by omega) (fun j hj => HF.out j (by rw [← Hnl.out]; exact hj)))
      have HI := Lib.hid (fun W (hW : Below w1.heap.size w1 W) => is_any A k c l W Hnl.out.symm hll (HSh.out W hW) HO.out)
      have HRI := Lib.hid (fun W (hW : Below w1.heap.size w1 W) => ris_any A k c l W Hnl.out.symm hll (HSh.out W hW))
      have hjl := joinR_len l i id
      have hgl := goneTo_len l m l.length
      have hsl := stayTo_len l m l.length
      obtain ⟨P1, hP1⟩ : ∃ P, numP (pickS l) = P := ⟨_, rfl⟩
      obtain ⟨P2, hP2⟩ : ∃ P, (pickS l).isSome = P := ⟨_, rfl⟩
      rw [hP1, hP2] at HP HRP
      obtain ⟨J, hJ⟩ : ∃ J, joinR l i id = J := ⟨_, rfl⟩
      obtain ⟨J2, hJ2⟩ : ∃ J, canJ l i = J := ⟨_, rfl⟩
      rw [hJ, hJ2] at HJ HRJ
      rw [hJ] at hjl
      obtain ⟨G, hG⟩ : ∃ G, goneTo l m l.length = G := ⟨_, rfl⟩
      obtain ⟨S, hS⟩ : ∃ S, stayTo l m l.length = S := ⟨_, rfl⟩
      rw [hG, hS] at HD HRD
      rw [hG] at hgl
      rw [hS] at hsl
      obtain ⟨I, hI⟩ : ∃ I, isS l = I := ⟨_, rfl⟩
      rw [hI] at HI HRI
      have hjl2 : J.length ≤ 1000000 := by omega
      have hgl2 : G.length ≤ 1000000 := by omega
      have hsl2 : S.length ≤ 1000000 := by omega
      have Hl2 := Lib.hid (And.intro hjl2 (And.intro hgl2 hsl2))
      clear hP1 hP2 hJ hJ2 hG hS hI HS hjl hgl hsl hjl2 hgl2 hsl2 hll
      go_wp2_with fail
      refine (HP.out _ (Below.refl _ _)).mono ?_
      rintro e w2 ⟨rfl, hb⟩
      have Hb2 := Lib.hid hb
      clear hb
      go_wp2_with fail
      refine (HRP.out _ Hb2.out).mono ?_
      rintro e w3 ⟨rfl, hb⟩
      have Hb3 := Lib.hid (ext_trans Hb2.out hb)
      clear hb
      go_wp2_with fail
      refine (HJ.out _ Hb3.out).mono ?_
      rintro e w4 ⟨A4, c4, rfl, hN4⟩
      have Hb4 := Lib.hid (ext_trans Hb3.out hN4.bel)
      have Hs4 := Lib.hid hN4.row.sps
      clear hN4
      go_wp2_with fail
      refine (HRJ.out _ Hb4.out).mono ?_
      rintro e w5 ⟨A5, c5, rfl, hs5, hb⟩
      have Hb45 := Lib.hid hb
      have Hb5 := Lib.hid (ext_trans Hb4.out hb)
      have Hs5 := Lib.hid hs5
      clear hs5 hb
      go_wp2_with fail
      refine (HD.out _ Hb5.out).mono ?_
      rintro e w6 ⟨A6, c6, B6, d6, rfl, hP6⟩
      have Hb56 := Lib.hid hP6.a.bel
      have Hb6 := Lib.hid (ext_trans Hb5.out hP6.a.bel)
      have Ha6 := Lib.hid hP6.a.row.sps
      have Hc6 := Lib.hid hP6.b.row.sps
      clear hP6
      go_wp2_with fail
      refine (HRD.out _ Hb6.out).mono ?_
      rintro e w7 ⟨A7, c7, B7, d7, rfl, hP7⟩
      have Hb67 := Lib.hid hP7.a.bel
      have Hb7 := Lib.hid (ext_trans Hb6.out hP7.a.bel)
      have Ha7 := Lib.hid hP7.a.row.sps
      have Hc7 := Lib.hid hP7.b.row.sps
      clear hP7
      go_wp2_with fail
      refine (HI.out _ Hb7.out).mono ?_
      rintro e w8 ⟨rfl, hb⟩
      have Hb78 := Lib.hid hb
      have Hb8 := Lib.hid (ext_trans Hb7.out hb)
      clear hb
      go_wp2_with fail
      refine (HRI.out _ Hb8.out).mono ?_
      rintro e w9 ⟨rfl, hb⟩
      have Hb79 := Lib.hid (ext_trans Hb78.out hb)
      have Hb9 := Lib.hid (ext_trans Hb8.out hb)
      clear hb
      have HX1 := Lib.hid (spans_any A4 A5 J.length c4 J.length c5 J w9 rfl rfl Hl2.out.1 (Hs4.out.ext (ext_trans Hb45.out (ext_trans Hb56.out (ext_trans Hb67.out Hb79.out)))) (Hs5.out.ext (ext_trans Hb56.out (ext_trans Hb67.out Hb79.out))))
      go_wp2_with fail
      refine HX1.out.mono ?_
      rintro e w10 ⟨rfl, hb⟩
      have Hb710 := Lib.hid (ext_trans Hb79.out hb)
      have Hb10 := Lib.hid (ext_trans Hb9.out hb)
      clear hb HX1
      have HX2 := Lib.hid (spans_any A6 A7 G.length c6 G.length c7 G w10 rfl rfl Hl2.out.2.1 (Ha6.out.ext (ext_trans Hb67.out Hb710.out)) (Ha7.out.ext Hb710.out))
      go_wp2_with fail
      refine HX2.out.mono ?_
      rintro e w11 ⟨rfl, hb⟩
      have Hb711 := Lib.hid (ext_trans Hb710.out hb)
      have Hb11 := Lib.hid (ext_trans Hb10.out hb)
      clear hb HX2
      have HX3 := Lib.hid (spans_any B6 B7 S.length d6 S.length d7 S w11 rfl rfl Hl2.out.2.2 (Hc6.out.ext (ext_trans Hb67.out Hb711.out)) (Hc7.out.ext Hb711.out))
      go_wp2_with fail
      refine HX3.out.mono ?_
      rintro e w12 ⟨rfl, hb⟩
      have Hb12 := Lib.hid (ext_trans Hb11.out hb)
      clear hb HX3
      have HK := Lib.hid (known_any w12)
      go_wp2_with fail
      refine HK.out.mono ?_
      rintro e w13 ⟨rfl, hb⟩
      go_wp2
      go_ret
      exact ⟨rfl, ext_trans Hb.out (ext_trans Hb12.out hb)⟩

set_option maxRecDepth 100000 in
theorem contract (H : Type) (enc : TypeId × Value → H) (W : World) (base : Nat) (args : Array Value) (ds gs : List (DataW H)) (before : List MemPlace)
    (hval : ∀ (j : Nat) t v, Try.f3.params[j]? = some t → args[j]? = some v → Value.okWide Try.prog W .any base t v)
    (hW : DataW.Whole enc Try.prog Try.f3.params.toList Rows.planTellsSpec.vars false W args.toList ds gs before) :
    Calls Try.prog 3 args W fun e W' => ∃ v, e = .returned v ∧ Rows.planTellsSpec.post enc Try.prog Try.f3 false true false false W args v W' := by
  have hW' := hW
  obtain ⟨p, q, hA0, hV, rfl, hfz, hnd⟩ := hW
  have hA : DataW.TrodAll enc Try.prog W 0 (fun _ => true) true Try.f3.params.toList args.toList ds p := hA0
  rw [Try.params3] at hA hval
  obtain ⟨x0, x1, x2, x3, d0, d1, d2, d3, p0, p1, p2, p3, rfl, rfl, rfl, h0, h1, h2, h3⟩ := trodAll_four hA
  obtain ⟨A0, n0, c0, xs0, rfl, hn0, hc0, hm0, hr0, hi0⟩ := arg_spans (hval 0 _ x0 rfl rfl) h0
  obtain ⟨v1, rfl, rfl, rfl, wv1⟩ := open_int Try.underlying3 (hval 1 _ x1 rfl rfl) h1
  have i1 := int_of_wf wv1
  obtain ⟨v2, rfl, rfl, rfl, wv2⟩ := open_int Try.underlying3 (hval 2 _ x2 rfl rfl) h2
  have i2 := int_of_wf wv2
  obtain ⟨v3, rfl, rfl, rfl, wv3⟩ := open_int Try.underlying3 (hval 3 _ x3 rfl rfl) h3
  have i3 := int_of_wf wv3
  have walk : Calls Try.prog 3 #[.slice A0 n0 c0, .int .i64 v1, .int .i64 v2, .int .i64 v3] W fun e w' => e = .returned (.bool true) ∧ Below W.heap.size W w' := tells _ _ _ _ _ _ _ _ hn0 hc0 hr0 hi0.2 hi0.1 i1 i2 i3 (by omega)
  refine walk.mono fun e W' ⟨he, hb⟩ => ?_
  subst he
  exact ⟨_, rfl, law_post rfl rfl (by kernel_rfl) ⟨rfl, rfl, rfl⟩ hW' hb⟩

theorem laid_met (os : Os) : laidMet Try.prog Rows.planTellsRow.laid ((plainWorld os).forCall (fun _ _ => 0) ⟨#[], #[.slice none 0 0, .int .i64 0, .int .i64 0, .int .i64 0], []⟩).memory :=
  laidMet_of_run' 8 (by kernel_rfl) (by kernel_rfl)
theorem reads (os : Os) {H : Type} (enc : TypeId × Value → H) : ∃ places, DataW.whole enc Try.prog ((plainWorld os).forCall (fun _ _ => 0) ⟨#[], #[.slice none 0 0, .int .i64 0, .int .i64 0, .int .i64 0], []⟩).memory Try.f3.params.toList Rows.planTellsSpec.vars false #[Value.slice none 0 0, .int .i64 0, .int .i64 0, .int .i64 0].toList 8 = some ([.nil, .lit (.int .i64 0), .lit (.int .i64 0), .lit (.int .i64 0)], [], places) :=
  ⟨[], by kernel_rfl⟩

set_option maxRecDepth 100000 in
theorem lifted (os : Os) (started : os.Started) (H : Type) (enc : TypeId × Value → H) (F : Stop.Interp) :
    ReturnsInHanded {} Try.checked os 3 .any ((OpenSpec.ofChange Rows.planTellsSpec).preRow enc Try.prog Try.f3 Rows.planTellsRow.domain false Rows.planTellsRow.laid) (((OpenSpec.ofChange Rows.planTellsSpec).at F).post enc Try.prog Try.f3 false true false false) := by
  obtain ⟨places, hx⟩ := reads os enc
  refine returnsInHanded_of_row (C := Try.checked) (s := OpenSpec.ofChange Rows.planTellsSpec) own started (by kernel_rfl) Try.func3
    (witness_row_at (enc := enc) (C := Try.checked) false (plainWorld os) #[.slice none 0 0, .int .i64 0, .int .i64 0, .int .i64 0] rfl (by kernel_rfl) (by kernel_rfl) (by kernel_rfl)
      (OpenSpec.preRow_of_cond 8 hx (by kernel_rfl) (fun k hk => by cases hk) (by kernel_rfl) (laid_met os))) ?_
  intro W base args ds gs before hval hW _ _ _ _ _ _
  exact contract H enc W base args ds gs before hval hW

theorem said : Rows.PlanTellsSaid :=
  OpenClaim.holds_of_cond 3 Try.f3 rfl rfl rfl rfl rfl rfl rfl ⟨rfl, rfl, rfl, rfl, rfl⟩ rfl rfl rfl rfl rfl (by kernel_rfl) Try.func3 (by kernel_rfl)
    (of_decide_eq_true (by kernel_rfl)) (by unfold Func.isWrapper; first | (rw [if_pos (by decide +kernel)]; kernel_rfl) | (rw [if_neg (by decide +kernel)]; exact ⟨rfl, rfl⟩))
    (fun os started H enc _ F => by rw [OpenClaim.pre_eq_preRow]; exact lifted os started H enc F)

end Go.Proofs.Ythomhhnioadpmaa.PlanTells
