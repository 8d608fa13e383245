/-
  Statement PartRenders, in its second form (all arguments together hold at most 1048576 values and letters): any template with any variables is rendered, or refused, as the document says. No other condition.
-/
import Derived.Test.YtbigdkkjajlekaaAll2
set_option linter.unusedVariables false
set_option linter.unusedSimpArgs false
namespace Go.Proofs.Ytbigdkkjajlekaa
open Go Go.ChangeShapes Go.WideShapes Go.ChangeAt Go.RowKit
namespace PartRenders
set_option maxRecDepth 100000
theorem mem_sum {α : Type} (f : α → Nat) {l : List α} {x : α} (h : x ∈ l) : f x ≤ (l.map f).sum := by
  induction l with
  | nil => cases h
  | cons a r ih =>
    rw [List.map_cons, List.sum_cons]
    rcases List.mem_cons.1 h with rfl | h
    · omega
    · have := ih h; omega
theorem rTo_small (l : List Prt) (vs : List (List UInt8)) (hl : ∀ p ∈ l, p.text.length ≤ 1048576) (hv : ∀ s ∈ vs, s.length ≤ 1048576) : ∀ k, k ≤ l.length → (rTo l vs k).length ≤ k * 1048576
  | 0, _ => by simp [rTo]
  | k + 1, h => by
    have ih := rTo_small l vs hl hv k (by omega)
    rw [rTo_succ _ _ _ (by omega), List.length_append]
    have : (if l[k].any then vs.getD (wildTo l k) [] else l[k].text).length ≤ 1048576 := by
      split
      · rw [List.getD_eq_getElem?_getD]
        cases hg : vs[wildTo l k]? with
        | none => simp
        | some s => simpa using hv s (List.mem_of_getElem? hg)
      · exact hl _ (List.getElem_mem _)
    omega
set_option maxHeartbeats 2000000 in
theorem renders (A : Option Addr) (n c : Nat) (l : List Prt) (V : Option Addr) (nv cv : Nat) (vs : List (List UInt8)) (w : World) (hn : n = l.length) (hnv : nv = vs.length) (h : PartsAt w A l) (hV : Rd w V (vs.map strV)) (hcv : vs.length ≤ cv)
    (hl : (l.map wP).sum ≤ 1048576) (hv : (vs.map fun s => s.length + 1).sum ≤ 1048576) :
    Calls Try.prog 4 #[.slice A n c, .slice V nv cv] w fun e w' => e = .returned (.bool true) ∧ Below w.heap.size w w' := by
  subst hn hnv
  have hs1 : ∀ p ∈ l, p.text.length ≤ 1048576 := fun p hp => by have := mem_sum wP hp; unfold wP at this hl; omega
  have hs2 : ∀ s ∈ vs, s.length ≤ 1048576 := fun s hs => by have := mem_sum (fun s : List UInt8 => s.length + 1) hs; omega
  have hsz : sumP l l.length = (l.map wP).sum := by unfold sumP; rw [List.take_length]
  have hl1 : l.length ≤ 1048576 := by have := sumP_ge l l.length (Nat.le_refl _); omega
  have HW := Lib.hid (wide_any A _ c l w rfl h (fun p hp => Nat.le_trans (hs1 p hp) (by omega)) (by omega))
  by_cases hwide : wideB l = true
  · rw [hwide] at HW
    clear hsz hwide
    go_enter Try.func4, Try.ntmps4
    go_wp2_with fail
    refine HW.out.mono ?_
    rintro e w' ⟨rfl, rfl⟩
    go_wp2
    go_ret
    exact ⟨rfl, Below.refl _ _⟩
  have hwide' : wideB l = false := by simpa using hwide
  rw [hwide'] at HW
  have hsum : sumP l l.length ≤ 1500 := by have := of_decide_eq_false hwide'; omega
  have hl2 : l.length ≤ 1500 := by have := sumP_ge l l.length (Nat.le_refl _); omega
  clear hwide hwide'
  have HVL := Lib.hid hcv
  by_cases hvl : vs.length ≤ 100
  · have hvi : ¬ (100 : Int) < (vs.length : Int) := by omega
    have hren : (renderL l vs).length ≤ 140737488355328 := by
      have := rTo_small l vs hs1 hs2 l.length (Nat.le_refl _)
      unfold renderL
      have h3 : l.length * 1048576 ≤ 1500 * 1048576 := Nat.mul_le_mul_right _ hl2
      omega
    have HR := Lib.hid (fun W (hb : Below w.heap.size w W) => render_any A _ c l V _ cv vs W rfl rfl (h.ext hb) (hV.ext hb) hcv (by omega) (by omega) hren)
    have HRR := Lib.hid (fun W (hb : Below w.heap.size w W) => rrender_any A _ c l V _ cv vs W rfl rfl (h.ext hb) (hV.ext hb) (by omega) (by omega) hren)
    obtain ⟨Z, hZ, -⟩ := str_hide (rendS l vs)
    unfold SaysRender at HR HRR
    rw [hZ] at HR HRR
    generalize rendE l vs = E at HR HRR
    clear hZ hren hsz hs1 hs2 hl hv hsum
    go_enter Try.func4, Try.ntmps4
    go_wp2_with fail
    refine HW.out.mono ?_
    rintro e w' ⟨rfl, rfl⟩
    go_wp2_with fail
    refine (HR.out _ (Below.refl _ _)).mono ?_
    rintro e w1 ⟨rfl, hb1⟩
    have Hb1 := Lib.hid hb1
    clear hb1
    go_wp2_with fail
    refine (HRR.out _ Hb1.out).mono ?_
    rintro e w2 ⟨rfl, hb2⟩
    have Hb2 := Lib.hid (ext_trans Hb1.out hb2)
    clear hb2
    have HK := Lib.hid (known14_any w2)
    go_wp2_with fail
    refine HK.out.mono ?_
    rintro e w3 ⟨rfl, hb3⟩
    have Hb3 := Lib.hid (ext_trans Hb2.out hb3)
    clear hb3
    go_wp2
    go_ret
    exact ⟨rfl, Hb3.out⟩
  · have hvi : (100 : Int) < (vs.length : Int) := by omega
    clear hsz hs1 hs2 hl hv hsum
    go_enter Try.func4, Try.ntmps4
    go_wp2_with fail
    refine HW.out.mono ?_
    rintro e w' ⟨rfl, rfl⟩
    go_wp2
    go_ret
    exact ⟨rfl, Below.refl _ _⟩

set_option maxRecDepth 100000 in
theorem contract (H : Type) (enc : TypeId × Value → H) (W : World) (base : Nat) (args : Array Value) (ds gs : List (DataW H)) (before : List MemPlace)
    (hval : ∀ (j : Nat) t v, Try.f4.params[j]? = some t → args[j]? = some v → Value.okWide Try.prog W .any base t v)
    (hW : DataW.Whole enc Try.prog Try.f4.params.toList Rows.partRendersSpec.vars false W args.toList ds gs before) (hsm : Rows.uptoSmall H (ds ++ gs) = true) :
    Calls Try.prog 4 args W fun e W' => ∃ v, e = .returned v ∧ Rows.partRendersSpec.post enc Try.prog Try.f4 false true false false W args v W' := by
  have hW' := hW
  have hbk : Rows.uptoBulkAll (ds ++ gs) ≤ 1048576 := of_decide_eq_true hsm
  obtain ⟨p, q, hA0, hV, rfl, hfz, hnd⟩ := hW
  have hA : DataW.TrodAll enc Try.prog W 0 (fun _ => true) true Try.f4.params.toList args.toList ds p := hA0
  rw [Try.params4] at hA hval
  obtain ⟨x0, x1, d0, d1, p0, p1, rfl, rfl, rfl, h0, h1⟩ := trodAll_two hA
  obtain ⟨A0, n0, c0, xs0, rfl, hn0, hc0, hm0, hr0, hz0, hu0⟩ := arg_parts (hval 0 _ x0 rfl rfl) h0
  obtain ⟨A1, n1, c1, xs1, rfl, hn1, hc1, hm1, hr1, hu1⟩ := arg_texts (hval 1 _ x1 rfl rfl) h1
  have walk : Calls Try.prog 4 #[.slice A0 n0 c0, .slice A1 n1 c1] W fun e w' => e = .returned (.bool true) ∧ Below W.heap.size W w' := by have hb2 : Rows.uptoBulkAll ([d0, d1] ++ gs) ≤ 1048576 := hbk; rw [bulk_all, List.map_append, List.sum_append] at hb2; simp only [List.map_cons, List.map_nil, List.sum_cons, List.sum_nil] at hb2; exact renders A0 n0 c0 xs0 A1 n1 c1 xs1 W hn0 hn1 hr0 hr1 hc1 (by omega) (by omega)
  refine walk.mono fun e W' ⟨he, hb⟩ => ?_
  subst he
  exact ⟨_, rfl, law_post rfl rfl (by kernel_rfl) ⟨rfl, rfl, rfl⟩ hW' hb⟩

theorem laid_met (os : Os) : laidMet Try.prog Rows.partRendersRow.laid ((plainWorld os).forCall (fun _ _ => 0) ⟨#[], #[.slice none 0 0, .slice none 0 0], []⟩).memory :=
  laidMet_of_run' 8 (by kernel_rfl) (by kernel_rfl)
theorem reads (os : Os) {H : Type} (enc : TypeId × Value → H) : ∃ places, DataW.whole enc Try.prog ((plainWorld os).forCall (fun _ _ => 0) ⟨#[], #[.slice none 0 0, .slice none 0 0], []⟩).memory Try.f4.params.toList Rows.partRendersSpec.vars false #[Value.slice none 0 0, .slice none 0 0].toList 8 = some ([.nil, .nil], [], places) :=
  ⟨[], by kernel_rfl⟩

set_option maxRecDepth 100000 in
theorem lifted (os : Os) (started : os.Started) (H : Type) (enc : TypeId × Value → H) (F : Stop.Interp) :
    ReturnsInHanded {} Try.checked os 4 .any ((Rows.OpenSpec.upto Rows.partRendersSpec).preRow enc Try.prog Try.f4 Rows.partRendersUptoRow.domain false Rows.partRendersUptoRow.laid) (((Rows.OpenSpec.upto Rows.partRendersSpec).at F).post enc Try.prog Try.f4 false true false false) := by
  obtain ⟨places, hx⟩ := reads os enc
  refine returnsInHanded_of_row (C := Try.checked) (s := Rows.OpenSpec.upto Rows.partRendersSpec) own started (by kernel_rfl) Try.func4
    (witness_row_at (enc := enc) (C := Try.checked) false (plainWorld os) #[.slice none 0 0, .slice none 0 0] rfl (by kernel_rfl) (by kernel_rfl) (by kernel_rfl)
      (OpenSpec.preRow_of_cond 8 hx (by kernel_rfl) (fun k hk => by cases hk; kernel_rfl) (by kernel_rfl) (laid_met os))) ?_
  intro W base args ds gs before hval hW _ hcond _ _ _ _
  exact contract H enc W base args ds gs before hval hW (hcond _ rfl)

theorem said : Rows.PartRendersUptoSaid :=
  OpenClaim.holds_of_cond 4 Try.f4 rfl rfl rfl rfl rfl rfl rfl ⟨rfl, rfl, rfl, rfl, rfl⟩ rfl rfl rfl rfl rfl (by kernel_rfl) Try.func4 (by kernel_rfl)
    (of_decide_eq_true (by kernel_rfl)) (by unfold Func.isWrapper; first | (rw [if_pos (by decide +kernel)]; kernel_rfl) | (rw [if_neg (by decide +kernel)]; exact ⟨rfl, rfl⟩))
    (fun os started H enc _ F => by rw [OpenClaim.pre_eq_preRow]; exact lifted os started H enc F)

end Go.Proofs.Ytbigdkkjajlekaa.PartRenders
