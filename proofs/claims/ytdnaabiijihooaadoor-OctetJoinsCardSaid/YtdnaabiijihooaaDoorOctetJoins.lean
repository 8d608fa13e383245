/-
  PROVED HERE: OctetJoins's tied card (the first form, every argument): rows joined in two parts, and these joined, are all of them joined.
  Conditions: none of our own; the card's row lists the table octet.crcSteps, which the card ties to the program's text.
-/
import Derived.Test.YtdnaabiijihooaaDoorKnown
import Derived.Test.YtdnaabiijihooaaDoorHeavy
import Derived.Test.YtdnaabiijihooaaDoorArgs
namespace Go.Proofs.YtdnaabiijihooaaDoor.OctetJoins
open Go Go.ChangeShapes Go.WideShapes Go.ChangeAt Go.RowKit

theorem info_bytes : (Tryd.prog.info? 23).map (fun i => (i.zero, i.size, i.bytes)) = some (some (.slice none 0 0), 1, 24) := by kernel_rfl

/-- are rows heavy? -/
def heavy (xss : List (List UInt8)) : Prop := 4000 < 3 * xss.length + xss.flatten.length

set_option maxHeartbeats 1000000 in
theorem walk_a (A B : Option Addr) (n m c d : Nat) (xa : List (List UInt8)) (w : World) (hn : n = xa.length) (ha : RowsF (fun _ => False) w A xa) (hma : ∀ xs ∈ xa, xs.length ≤ maxLen) (hna : xa.length ≤ maxLen) (h : heavy xa) :
    Calls Tryd.prog 10 #[.slice A n c, .slice B m d] w fun e w' => e = .returned (.bool true) ∧ Below w.heap.size w w' := by
  have Hn := Lib.hid hn
  clear hn
  go_enter Tryd.func10, Tryd.ntmps10
  go_wp2_with (go_at_call 21; refine (heavy_yes A n c xa _ Hn.out ha hma hna h).mono ?_; rintro e w3 ⟨rfl, rfl⟩)
  go_ret
  exact ⟨rfl, Below.refl _ _⟩
set_option maxHeartbeats 1000000 in
theorem walk_b (A B : Option Addr) (n m c d : Nat) (xa xb : List (List UInt8)) (w : World) (hn : n = xa.length) (ha : RowsF (fun _ => False) w A xa) (h : ¬ heavy xa) (hm : m = xb.length) (hb : RowsF (fun _ => False) w B xb) (hmb : ∀ xs ∈ xb, xs.length ≤ maxLen) (hnb : xb.length ≤ maxLen) (h2 : heavy xb) :
    Calls Tryd.prog 10 #[.slice A n c, .slice B m d] w fun e w' => e = .returned (.bool true) ∧ Below w.heap.size w w' := by
  unfold heavy at h
  have Hn := Lib.hid hn
  have Hm := Lib.hid hm
  clear hn hm
  go_enter Tryd.func10, Tryd.ntmps10
  go_wp2_with fail
  refine (heavy_no A n c xa _ Hn.out ha (by omega)).mono ?_
  rintro e w3 ⟨rfl, rfl⟩
  go_wp2_with fail
  refine (heavy_yes B m d xb _ Hm.out hb hmb hnb h2).mono ?_
  rintro e w3 ⟨rfl, rfl⟩
  go_wp2
  go_ret
  exact ⟨rfl, Below.refl _ _⟩

theorem rows_one {w : World} {fp : Nat → Prop} {A : Option Addr} {xss : List (List UInt8)} (h : RowsF fp w A xss) : ∃ vs, Rd w A vs ∧ vs.length = xss.length ∧ (∀ u ∈ vs, u.oneCell' = true) ∧
    ∀ (j : Nat) (v : Value) (xs : List UInt8), vs[j]? = some v → xss[j]? = some xs → ∃ B c, v = .slice B xs.length c ∧ xs.length ≤ c ∧ RdF fp w B (xs.map bv) := by
  obtain ⟨vs, h1, h2, h3⟩ := h
  refine ⟨vs, h1.1, h2, fun u hu => ?_, h3⟩
  obtain ⟨j, hj, rfl⟩ := List.getElem_of_mem hu
  obtain ⟨B, c, e, _⟩ := h3 j _ _ (List.getElem?_eq_getElem hj) (List.getElem?_eq_getElem (by omega))
  rw [e]; rfl

/-- two lists of rows, one behind the other -/
theorem rows_append {w w' : World} {A : Option Addr} {xa xb : List (List UInt8)} {va vb : List Value} (hla : va.length = xa.length) (hlb : vb.length = xb.length)
    (hea : ∀ (j : Nat) (v : Value) (xs : List UInt8), va[j]? = some v → xa[j]? = some xs → ∃ B c, v = .slice B xs.length c ∧ xs.length ≤ c ∧ RdF (fun _ => False) w B (xs.map bv))
    (heb : ∀ (j : Nat) (v : Value) (xs : List UInt8), vb[j]? = some v → xb[j]? = some xs → ∃ B c, v = .slice B xs.length c ∧ xs.length ≤ c ∧ RdF (fun _ => False) w B (xs.map bv))
    (hb : Below w.heap.size w w') (hr : Rd w' A (va ++ vb)) : RowsF (fun _ => False) w' A (xa ++ xb) := by
  refine ⟨va ++ vb, RdF.of hr, by simp [hla, hlb], fun j v xs hv hx => ?_⟩
  by_cases hj : j < va.length
  · rw [List.getElem?_append_left hj] at hv
    rw [List.getElem?_append_left (by omega)] at hx
    obtain ⟨B, c, e, hc, hr'⟩ := hea j v xs hv hx
    exact ⟨B, c, e, hc, hr'.only (Only.of_ext hb)⟩
  · rw [List.getElem?_append_right (by omega)] at hv
    rw [List.getElem?_append_right (by omega), ← hla] at hx
    obtain ⟨B, c, e, hc, hr'⟩ := heb _ v xs hv hx
    exact ⟨B, c, e, hc, hr'.only (Only.of_ext hb)⟩

set_option maxRecDepth 100000 in
set_option maxHeartbeats 2000000 in
theorem walk_none (A B : Option Addr) (n m c d : Nat) (xa xb : List (List UInt8)) (w : World) (ht : Tab w) (hn : n = xa.length) (ha : RowsF (fun _ => False) w A xa) (h : ¬ heavy xa) (hm : m = xb.length) (hb : RowsF (fun _ => False) w B xb) (h2 : ¬ heavy xb) :
    Calls Tryd.prog 10 #[.slice A n c, .slice B m d] w fun e w' => e = .returned (.bool true) ∧ Below w.heap.size w w' := by
  unfold heavy at h h2
  obtain ⟨va, hra, hla, h1a, hea⟩ := rows_one ha
  obtain ⟨vb, hrb, hlb, h1b, heb⟩ := rows_one hb
  have Hn := Lib.hid hn
  have Hm := Lib.hid hm
  have Hla := Lib.hid hla
  have Hlb := Lib.hid hlb
  have Hva := Lib.hid (show n = ([] ++ va).length by rw [List.nil_append, hla]; exact hn)
  have Hvb := Lib.hid (hm.trans hlb.symm)
  have hn4 : n ≤ 4000 := by omega
  have hm4 : m ≤ 4000 := by omega
  have hk1 : 0 + n ≤ maxLen := by unfold maxLen; omega
  have hk2 : (0 + n) * 24 ≤ 140737488355328 := by omega
  have hk3 : 0 + n + m ≤ maxLen := by unfold maxLen; omega
  have hk4 : (0 + n + m) * 24 ≤ 140737488355328 := by omega
  have hk3' : n + m ≤ maxLen := by unfold maxLen; omega
  have hk4' : (n + m) * 24 ≤ 140737488355328 := by omega
  obtain ⟨ba, hba⟩ : ∃ b, xa.flatten = b := ⟨_, rfl⟩
  obtain ⟨bb, hbb⟩ : ∃ b, xb.flatten = b := ⟨_, rfl⟩
  obtain ⟨bx, hbx⟩ : ∃ b, ba ++ bb = b := ⟨_, rfl⟩
  have hl1 : ba.length ≤ 4000 := by rw [← hba]; omega
  have hl2 : bb.length ≤ 4000 := by rw [← hbb]; omega
  have hl3 : bx.length ≤ 8000 := by rw [← hbx, List.length_append]; omega
  have Hba := Lib.hid hba
  have Hbb := Lib.hid hbb
  have Hbx := Lib.hid (show [ba, bb].flatten = bx by simpa using hbx)
  have Hball := Lib.hid (show (xa ++ xb).flatten = bx by rw [List.flatten_append, hba, hbb, hbx])
  have Hnm := Lib.hid (show n + m = (xa ++ xb).length by rw [List.length_append, hn, hm])
  clear hn hm hla hlb hba hbb hbx
  go_enter Tryd.func10, Tryd.ntmps10
  go_wp2_with fail
  refine (heavy_no A n c xa _ Hn.out ha (by omega)).mono ?_
  rintro e w3 ⟨rfl, rfl⟩
  go_wp2_with fail
  refine (heavy_no B m d xb _ Hm.out hb (by omega)).mono ?_
  rintro e w3 ⟨rfl, rfl⟩
  go_wp2_with (first
    | (at_builtin
       refine wpList_app _ (fp := fun k => w.heap.size ≤ k) rfl (.tmp 15) (.tmp 16) _ rfl _ _ 24 Tryd.underlying36 info_bytes rfl (some ⟨w.heap.size, 0, none⟩) 0 0 [] rfl rfl (Own.lit w _ #[] _ (by unfold maxLen; simp) (Nat.le_refl _)) A n c va rfl (Hn.out.trans Hla.out.symm) (hra.alloc _) h1a hk1 hk2 ?_
       intro A1 c1 w1 hown1 honly1
       have hb1 : Below w.heap.size w w1 := ((Below.refl _ _).alloc (Nat.le_refl _) _).trans (honly1.below (fun _ h => h) (by simp)))
    | (at_builtin
       refine wpList_app _ (fp := fun k => w.heap.size ≤ k) rfl (.tmp 17) (.tmp 18) _ rfl _ _ 24 Tryd.underlying36 info_bytes rfl A1 _ c1 ([] ++ va) rfl Hva.out (hown1.mono (fun k hk _ => by rcases hk with hk | hk; exact hk; exact Nat.le_trans (by simp) hk.1)) B m d vb rfl Hvb.out (hrb.ext hb1) h1b hk3' hk4' ?_
       intro A2 c2 w2 hown2 honly2))
  have hb2 : Below w.heap.size w w2 := hb1.trans (honly2.below (fun _ h => h) hb1.size)
  have hall2 : RowsF (fun _ => False) w2 A2 (xa ++ xb) := by
    have := hown2.rd
    rw [List.nil_append] at this
    exact rows_append Hla.out Hlb.out hea heb hb2 this
  have hab : (xa ++ xb).length ≤ 8000 := by rw [← Hnm.out]; omega
  clear hown1 hown2 honly1 honly2
  refine (join_any A n c xa ba _ Hn.out Hba.out (ha.ext hb2) (by omega) (by omega)).mono ?_
  rintro e w3 ⟨A3, c3, rfl, hnew3, hb3⟩
  have hb3' := ext_trans hb2 hb3
  go_wp2_with fail
  refine (join_any B m d xb bb _ Hm.out Hbb.out (hb.ext hb3') (by omega) (by omega)).mono ?_
  rintro e w4 ⟨A4, c4, rfl, hnew4, hb4⟩
  have hb4' := ext_trans hb3' hb4
  have hall4 := hall2.ext (ext_trans hb3 hb4)
  go_wp2_with fail
  refine (join_any _ 2 2 [ba, bb] bx _ rfl Hbx.out (RowsF.two (RdF.of (hnew3.ext hb4).rd) ?_ (RdF.of hnew4.rd) ?_ _ rfl id) (by omega) (by simp)).mono ?_
  · have := Own.cap (hnew3); simpa using this
  · have := Own.cap (hnew4); simpa using this
  rintro e w5 ⟨A5, c5, rfl, hnew5, hb5⟩
  have hb45 : Below w4.heap.size w4 w5 := ((Below.refl _ _).alloc (Nat.le_refl _) _).trans (hb5.mono (by simp))
  have hx5 : New w4 w5 A5 c5 bx := hnew5.back (by simp)
  clear hnew3 hnew4 hnew5
  go_wp2_with fail
  refine (join_any A2 _ c2 (xa ++ xb) bx _ Hnm.out Hball.out (hall4.ext hb45) (by omega) (by omega)).mono ?_
  rintro e w6 ⟨A6, c6, rfl, hnew6, hb6⟩
  have hb46 := ext_trans hb45 hb6
  have hx6 := hx5.ext hb6
  go_wp2_with fail
  refine (same_yes A5 A6 _ _ c5 c6 bx _ rfl rfl hx6.rd hnew6.rd (by omega)).mono ?_
  rintro e w7 ⟨rfl, q, hq⟩
  have hb47 : Below w4.heap.size w4 w7 := by rw [hq]; exact ext_drewN hb46 q
  have hx7 : New w4 w7 A5 c5 bx := by rw [hq]; exact hx6
  have ht7 : Tab w7 := (ht.ext hb4').ext hb47
  have hs7 := hb47.size
  clear hnew6 hq
  go_wp2_with fail
  refine (sum_any A2 _ c2 (xa ++ xb) bx _ ht7 Hnm.out Hball.out (hall4.ext hb47) (by omega) (by omega)).mono ?_
  rintro e w8 ⟨rfl, rfl⟩
  go_wp2_with fail
  refine (sum_any _ 1 1 [bx] bx _ (ht7.alloc _) rfl (by simp) (RowsF.one (RdF.of hx7.rd) ?_ _ rfl id) (by omega) (by simp)).mono ?_
  · have := Own.cap hx7; simpa using this
  rintro e w8 ⟨rfl, rfl⟩
  have hb48 := hb47.alloc hs7 (.cells #[.slice A5 bx.length c5] 23)
  have hx8 := hx7.ext (Below.alloc (Below.refl _ _) (Nat.le_refl _) (.cells #[.slice A5 bx.length c5] 23))
  generalize w7.alloc (.cells #[.slice A5 bx.length c5] 23) = w8 at *
  have ht8 := (ht.ext hb4').ext hb48
  have hrows := hall4.ext hb48
  have hlt := lenTo_all (xa ++ xb)
  rw [Hball.out] at hlt
  have Hlt := Lib.hid hlt
  have hle := lenTo_le (xa ++ xb)
  rw [Hball.out] at hle
  have Hle := Lib.hid hle
  clear hlt hle
  go_wp2
  go_loop [7, 8] (fun s i => ∃ k : Nat, k ≤ n + m ∧ i = .int .i64 (k : Int) ∧ s = .int .i64 (lenTo (xa ++ xb) k : Int)) (fun _ i => n + m - (intOf i).toNat)
  case atStart => exact ⟨0, Nat.zero_le _, rfl, by rw [lenTo_zero]; rfl⟩
  case round =>
    obtain ⟨k, hk, rfl, rfl⟩ := hrel
    by_cases hlt : k < n + m
    · have hk' : k < (xa ++ xb).length := by rw [← Hnm.out]; exact hlt
      obtain ⟨ad, D, cd, rfl, hcell, hl, hrd⟩ := hrows.at_ hk'
      have hsucc := lenTo_succ (xa ++ xb) k hk'
      have hle' := Hle.out (k + 1)
      have b1 : lenTo (xa ++ xb) k + ((xa ++ xb)[k]).length ≤ 8000 := by omega
      have Hsucc := Lib.hid hsucc
      clear hsucc hle'
      generalize (xa ++ xb)[k] = row at *
      go_wp2
      go_round
      case rel => exact ⟨k + 1, by omega, by go_num, by rw [Hsucc.out]; go_num⟩
      case measure => simp [intOf]; omega
    · have hk2 : k = (xa ++ xb).length := by rw [← Hnm.out]; omega
      have hkl : lenTo (xa ++ xb) k = bx.length := by rw [hk2, Hlt.out]
      rw [hkl]
      clear hkl hk2
      go_wp2_with fail
      refine (spoil_any _ A5 _ c5 _ _ (by simp) hx8 (by simp; omega)).mono ?_
      rintro e w9 ⟨rfl, ho9⟩
      have hb49 : Below w4.heap.size w4 w9 := hb48.trans (ho9.below (fun _ h => h.1) hb48.size)
      have ht9 := (ht.ext hb4').ext hb49
      go_wp2_with fail
      refine (join_any A2 _ c2 (xa ++ xb) bx _ Hnm.out Hball.out (hall4.ext hb49) (by omega) (by omega)).mono ?_
      rintro e w10 ⟨A7, c7, rfl, hnew7, hb10⟩
      have hb40 := ext_trans hb49 hb10
      go_wp2_with fail
      refine (join_any A n c xa ba _ Hn.out Hba.out ((ha.ext hb4').ext hb40) (by omega) (by omega)).mono ?_
      rintro e w11 ⟨A8, c8, rfl, hnew8, hb11⟩
      have hb41 := ext_trans hb40 hb11
      go_wp2_with fail
      refine (join_any B m d xb bb _ Hm.out Hbb.out ((hb.ext hb4').ext hb41) (by omega) (by omega)).mono ?_
      rintro e w12 ⟨A9, c9, rfl, hnew9, hb12⟩
      have hb42 := ext_trans hb41 hb12
      have hs12 := hb42.size
      go_wp2_with fail
      refine (join_any _ 2 2 [ba, bb] bx _ rfl Hbx.out (RowsF.two (RdF.of (hnew8.ext hb12).rd) ?_ (RdF.of hnew9.rd) ?_ _ rfl id) (by omega) (by simp)).mono ?_
      · have := Own.cap hnew8; simpa using this
      · have := Own.cap hnew9; simpa using this
      rintro e w13 ⟨A10, c10, rfl, hnew10, hb13⟩
      have hb43 : Below w4.heap.size w4 w13 := (hb42.alloc hs12 _).trans (hb13.mono (by simp; omega))
      have hr7 : Rd w13 A7 (bx.map bv) := ((((hnew7.rd).ext hb11).ext hb12).alloc _).ext hb13
      go_wp2_with fail
      refine (same_yes A7 A10 _ _ c7 c10 bx _ rfl rfl hr7 hnew10.rd (by omega)).mono ?_
      rintro e w14 ⟨rfl, q2, rfl⟩
      have hbf := ext_trans hb4' (ext_drewN hb43 q2)
      go_wp2_with fail
      refine (known_any _ (ht.ext hbf)).mono ?_
      rintro e w15 ⟨rfl, hb15⟩
      go_wp2
      go_ret
      exact ⟨rfl, ext_trans hbf hb15⟩

theorem walk (A B : Option Addr) (n m c d : Nat) (xa xb : List (List UInt8)) (w : World) (ht : Tab w) (hn : n = xa.length) (hc : xa.length ≤ c) (hcm : c ≤ maxLen) (ha : RowsF (fun _ => False) w A xa) (hma : ∀ xs ∈ xa, xs.length ≤ maxLen)
    (hm : m = xb.length) (hd : xb.length ≤ d) (hdm : d ≤ maxLen) (hb : RowsF (fun _ => False) w B xb) (hmb : ∀ xs ∈ xb, xs.length ≤ maxLen) :
    Calls Tryd.prog 10 #[.slice A n c, .slice B m d] w fun e w' => e = .returned (.bool true) ∧ Below w.heap.size w w' := by
  by_cases h1 : heavy xa
  · exact walk_a A B n m c d xa w hn ha hma (by omega) h1
  by_cases h2 : heavy xb
  · exact walk_b A B n m c d xa xb w hn ha h1 hm hb hmb (by omega) h2
  exact walk_none A B n m c d xa xb w ht hn ha h1 hm hb h2

theorem contract (H : Type) (enc : TypeId × Value → H) (W : World) (base : Nat) (args : Array Value) (ds gs : List (DataW H)) (before : List MemPlace)
    (hval : ∀ (j : Nat) t v, Tryd.f10.params[j]? = some t → args[j]? = some v → Value.okWide Tryd.prog W .any base t v)
    (hW : DataW.Whole enc Tryd.prog Tryd.f10.params.toList Rows.octetJoinsSpec.vars false W args.toList ds gs before) (hL : laidMetH Tryd.prog Rows.octetJoinsRow.laid W) :
    Calls Tryd.prog 10 args W fun e W' => ∃ v, e = .returned v ∧ Rows.octetJoinsSpec.post enc Tryd.prog Tryd.f10 false true false false W args v W' := by
  have ht : Tab W := tab_of_laid hL
  have hW' := hW
  obtain ⟨p, q, hA0, hV, rfl, hfz, hnd⟩ := hW
  have hA : DataW.TrodAll enc Tryd.prog W 0 (fun _ => true) true Tryd.f10.params.toList args.toList ds p := hA0
  rw [Tryd.params10] at hA hval
  obtain ⟨x0, x1, d0, d1, p0, p1, rfl, rfl, rfl, h0, h1⟩ := trodAll_two hA
  obtain ⟨A0, n0, c0, xs0, rfl, hn0, hc0, hm0, hr0, hi0⟩ := arg_rows (hval 0 _ x0 rfl rfl) h0
  obtain ⟨A1, n1, c1, xs1, rfl, hn1, hc1, hm1, hr1, hi1⟩ := arg_rows (hval 1 _ x1 rfl rfl) h1
  have walk : Calls Tryd.prog 10 #[.slice A0 n0 c0, .slice A1 n1 c1] W fun e w' => e = .returned (.bool true) ∧ Below W.heap.size W w' := walk A0 A1 n0 n1 c0 c1 xs0 xs1 W ht hn0 hc0 hm0 hr0 hi0 hn1 hc1 hm1 hr1 hi1
  refine walk.mono fun e W' ⟨he, hb⟩ => ?_
  subst he
  exact ⟨_, rfl, law_post rfl rfl (by kernel_rfl) ⟨rfl, rfl, rfl⟩ hW' hb⟩

theorem laid_met (os : Os) : laidMet Tryd.prog Rows.octetJoinsRow.laid ((laidWorld os).forCall (fun _ _ => 0) ⟨#[], #[.slice none 0 0, .slice none 0 0], []⟩).memory :=
  laidMet_of_run' 8 (by kernel_rfl) (by kernel_rfl)
theorem reads (os : Os) {H : Type} (enc : TypeId × Value → H) : ∃ places, DataW.whole enc Tryd.prog ((laidWorld os).forCall (fun _ _ => 0) ⟨#[], #[.slice none 0 0, .slice none 0 0], []⟩).memory Tryd.f10.params.toList Rows.octetJoinsSpec.vars false #[Value.slice none 0 0, .slice none 0 0].toList 8 = some ([.nil, .nil], [], places) :=
  ⟨[], by kernel_rfl⟩

set_option maxRecDepth 100000 in
theorem lifted (os : Os) (started : os.Started) (H : Type) (enc : TypeId × Value → H) (F : Stop.Interp) :
    ReturnsInHanded {} Tryd.checked os 10 .any ((OpenSpec.ofChange Rows.octetJoinsSpec).preRow enc Tryd.prog Tryd.f10 Rows.octetJoinsRow.domain false Rows.octetJoinsRow.laid) (((OpenSpec.ofChange Rows.octetJoinsSpec).at F).post enc Tryd.prog Tryd.f10 false true false false) := by
  obtain ⟨places, hx⟩ := reads os enc
  refine returnsInHanded_of_row (C := Tryd.checked) (s := OpenSpec.ofChange Rows.octetJoinsSpec) own started (by kernel_rfl) Tryd.func10
    (witness_row_at (enc := enc) (C := Tryd.checked) false (laidWorld os) #[.slice none 0 0, .slice none 0 0] rfl (by kernel_rfl) (by kernel_rfl) (by kernel_rfl)
      (OpenSpec.preRow_of_cond 8 hx (by kernel_rfl) (fun k hk => by cases hk) (by kernel_rfl) (laid_met os))) ?_
  intro W base args ds gs before hval hW _ _ _ hL _ _
  exact contract H enc W base args ds gs before hval hW hL

theorem said : Rows.OctetJoinsSaid :=
  OpenClaim.holds_of_cond 10 Tryd.f10 rfl rfl rfl rfl rfl rfl rfl ⟨rfl, rfl, rfl, rfl, rfl⟩ rfl rfl rfl rfl rfl (by kernel_rfl) Tryd.func10 (by kernel_rfl)
    (of_decide_eq_true (by kernel_rfl)) (by unfold Func.isWrapper; first | (rw [if_pos (by decide +kernel)]; kernel_rfl) | (rw [if_neg (by decide +kernel)]; exact ⟨rfl, rfl⟩))
    (fun os started H enc _ F => by rw [OpenClaim.pre_eq_preRow]; exact lifted os started H enc F)

theorem plain (f : FuncId) (fn : Func) (hf : Tryd.pinned.checked.prog.funcNamed "winnower/winnowerlaw1.OctetJoins" = some f) (hfn : Tryd.pinned.checked.prog.funcs[f]? = some fn) :
    false = Tryd.pinned.checked.prog.looks [] ∧ ∀ (j : Nat) t, fn.params[j]? = some t → Tryd.pinned.checked.prog.wantsStandIn t = false := by
  obtain rfl : f = 10 := Option.some.inj ((show Tryd.prog.funcNamed "winnower/winnowerlaw1.OctetJoins" = some 10 by kernel_rfl).symm.trans hf) |>.symm
  obtain rfl : fn = Tryd.f10 := (Option.some.inj (Tryd.func10.symm.trans hfn)).symm
  refine ⟨by kernel_rfl, fun j t ht => ?_⟩
  have hall : Tryd.f10.params.all (fun t => !Tryd.prog.wantsStandIn t) = true := by kernel_rfl
  have h1 := Array.all_eq_true'.1 hall t (Array.mem_of_getElem? ht)
  have h2 : Tryd.prog.wantsStandIn t = false := by simpa using h1
  exact h2

/-- THE CARD -/
theorem octetJoins_card : Rows.OctetJoinsCardSaid :=
  Claim7.holds_tied_plain_at .later [] _ _ _ _ said (fun _ h => by cases h) (by kernel_rfl) (fun _ h => by cases h) octetJoins_row_tie rfl ⟨rfl, rfl⟩ (by kernel_rfl) rfl plain (by kernel_rfl)
end Go.Proofs.YtdnaabiijihooaaDoor.OctetJoins
