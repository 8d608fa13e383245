/-
  Texts of this claim, joined (part 2): contracts and lemmas that the last text goes by. No statement of the seat is proved here.
-/
import Derived.Test.YthomhhnioadpmaaAll1
import Derived.Deep.RegionHeldLaw
set_option linter.unusedVariables false
set_option linter.unusedSimpArgs false
/-
  The contract of slices.Replace over spans, in the middle of a row. No statement of the seat is proved here.
-/
namespace Go.Proofs.Ythomhhnioadpmaa
open Go Go.RowKit
set_option maxRecDepth 100000

theorem Only.drew_left {S : Nat → Prop} {a b : World} (h : Only S a.drew b) : Only S a b := ⟨h.os, h.tape, h.output, h.size, h.block⟩
theorem put_cells (l : List Sp) (k q : Nat) (s : Sp) (hsl : (spsV l).length = (k + 2 + q) * 3) (hl2 : (spsV (l.drop (k + 2))).length = q * 3) (hk : l.length = k + 2 + q) (j : Nat) (hj : j < (k + 1 + q) * 3) :
    (spl (spl (spl (spsV l) (k * 3) (spV s)) ((k + 1) * 3) (spsV (l.drop (k + 2)))) ((k + 1 + q) * 3) (Builtin.zeroCells (Value.agg #[.int .i64 0, .int .i64 0, .int .i64 0]).cells 1).toList)[j]? = (spsV (putS l k s))[j]? := by
  have hz : (Builtin.zeroCells (Value.agg #[.int .i64 0, .int .i64 0, .int .i64 0]).cells 1).toList.length = 3 := by
    rw [Array.length_toList, size_zeroCells]; rfl
  have hsv : (spV s).length = 3 := rfl
  have e1 : (spl (spsV l) (k * 3) (spV s)).length = (k + 2 + q) * 3 := by rw [spl_len (by rw [hsl, hsv]; omega), hsl]
  have e2 : (spl (spl (spsV l) (k * 3) (spV s)) ((k + 1) * 3) (spsV (l.drop (k + 2)))).length = (k + 2 + q) * 3 := by rw [spl_len (by rw [e1, hl2]; omega), e1]
  rw [spl_at (by rw [e2, hz]; omega), if_neg (by omega), spl_at (by rw [e1, hl2]; omega), hl2]
  unfold putS
  rw [spsV_app, show spsV (s :: l.drop (k + 2)) = spV s ++ spsV (l.drop (k + 2)) from rfl]
  have htk : (spsV (l.take k)).length = k * 3 := by rw [spsV_len, List.length_take]; omega
  by_cases h1 : j < k * 3
  · rw [if_neg (by omega), spl_at (by rw [hsl, hsv]; omega), if_neg (by omega), List.getElem?_append_left (by omega), spsV_take, List.getElem?_take, if_pos h1]
  · rw [List.getElem?_append_right (by omega), htk]
    by_cases h2 : j < (k + 1) * 3
    · rw [if_neg (by omega), spl_at (by rw [hsl, hsv]; omega), if_pos (by rw [hsv]; omega), List.getElem?_append_left (by rw [hsv]; omega)]
    · rw [if_pos (by omega), List.getElem?_append_right (by rw [hsv]; omega), hsv]
      congr 1
      omega
set_option maxHeartbeats 4000000 in
theorem replace_mid (g off c k q : Nat) (l : List Sp) (s : Sp) (ad : Addr) (w : World) (hk : l.length = k + 2 + q) (hq : 1 ≤ q) (hl : l.length ≤ 1000000) (hc : c ≤ maxLen) (hrow : RowO w 24 3 (some ⟨g, off, none⟩) (k + 2 + q) c (spsV l)) (hs : Rd w (some ad) (spV s)) :
    Calls Try.prog 20 #[.slice (some ⟨g, off, none⟩) (k + 2 + q) c, .int .i64 (k : Int), .int .i64 ((k : Int) + 2), .slice (some ad) 1 1] w fun e w' => e = .returned (.slice (some ⟨g, off, none⟩) (k + 1 + q) c) ∧ ∃ xs, RowO w' 24 3 (some ⟨g, off, none⟩) (k + 2 + q) c xs ∧ (∀ j, j < (k + 1 + q) * 3 → xs[j]? = (spsV (putS l k s))[j]?) ∧ Only (fun k => k = g) w w' := by
  unfold maxLen at hc
  have hle := hrow.le
  have hki : (k : Int) ≤ 1000000 := by omega
  have hqi : (q : Int) ≤ 1000000 := by omega
  have hq1 : (1 : Int) ≤ (q : Int) := by omega
  have hwk : IntKind.i64.wrap ((k : Int) + 1) = (k : Int) + 1 := by rw [IntKind.wrap_i64]; omega
  have hwt : IntKind.i64.wrap ((k : Int) + 1 + (q : Int)) = (k : Int) + 1 + (q : Int) := by rw [IntKind.wrap_i64]; omega
  have hci : (k : Int) + 2 + (q : Int) ≤ (c : Int) := by omega
  have hck : ¬ c = k := by omega
  have hck1 : ¬ c = k + 1 := by omega
  have hck2 : ¬ c = k + 2 := by omega
  have hct : ¬ c = k + 1 + q := by omega
  have hsl : (spsV l).length = (k + 2 + q) * 3 := by rw [spsV_len, hk]
  have htn : ((k : Int) + 1 + (q : Int)).toNat = k + 1 + q := by omega
  have hne : (((k : Int) + 2 == (k : Int) + 2 + (q : Int))) = false := by simp; omega
  have hs1 : k + 1 + q - k = 1 + q := by omega
  have htn2 : ((k : Int) + 2).toNat = k + 2 := by omega
  have hs2 : k + 2 + q - (k + 2) = q := by omega
  have hs3 : k + 2 + q - (k + 1 + q) = 1 := by omega
  have hs4 : k + 1 + q - (k + 1) = q := by omega
  have hb1 : (0 : Int) ≤ (k : Int) + 1 := by omega
  have hb2 : (k : Int) + 1 ≤ (k : Int) + 1 + (q : Int) := by omega
  have hb3 : (0 : Int) ≤ (k : Int) + 2 := by omega
  have hb4 : (k : Int) + 2 ≤ (k : Int) + 2 + (q : Int) := by omega
  have hb5 : (0 : Int) ≤ (k : Int) + 1 + (q : Int) := by omega
  have hb6 : (k : Int) + 1 + (q : Int) ≤ (k : Int) + 2 + (q : Int) := by omega
  have Hk := Lib.hid hk
  have Hl := Lib.hid hl
  clear hk hl
  go_enter Try.func20, Try.ntmps20
  have hl2 : (spsV (l.drop (k + 2))).length = q * 3 := by rw [spsV_len, List.length_drop, Hk.out, Nat.add_sub_cancel_left]
  have HL2 := Lib.hid hl2
  have hr0 := hrow
  go_wp2
  go_quiet (fail)
  go_wp2_with (first
    | (refine wpList_copyO rfl (.tmp 95) (.tmp 96) _ _ rfl 24 3 Try.underlying22 size_sp g off (k + 2 + q) c (spsV l) (hrow.drewN nq) k _ _ _ rfl rfl ad 1 1 1 (spV s) rfl (by show 1 = min 1 (1 + q); omega) rfl ?_ (by omega) (by intro u hu; simp [spV] at hu; rcases hu with rfl | rfl | rfl <;> rfl) ?_
       · intro j v hv
         obtain ⟨ad', h, hc⟩ := (hs.drewN nq) j v hv
         injection h with h
         subst h
         exact hc
       intro w1 hr1 ho1)
    | fail)
  have Hsrc : Hid (∀ W, Only (fun k => k = g) (w.drewN nq) W → RowO W 24 3 (some ⟨g, off, none⟩) (k + 2 + q) c (spl (spsV l) (k * 3) (spV s)) → ∀ j v, (spsV (l.drop (k + 2)))[j]? = some v → W.cell? ((⟨g, off + (k + 2) * 3, none⟩ : Addr).add j) = some v) := Lib.hid fun W _ hr j v hv => by
    have hj : j < q * 3 := by rw [← HL2.out]; exact (List.getElem?_eq_some_iff.1 hv).1
    have hsv : (spV s).length = 3 := rfl
    have hat : (spl (spsV l) (k * 3) (spV s))[(k + 2) * 3 + j]? = some v := by
      rw [spl_at (by rw [hsl, hsv]; omega), if_neg (by rw [hsv]; omega), ← hv, spsV_drop, List.getElem?_drop]
    obtain ⟨ad', h, hcell⟩ := hr.rd _ _ hat
    injection h with h
    subst h
    rw [Addr.add_mid] at hcell ⊢
    rw [Nat.add_assoc]
    exact hcell
  refine wp_region_held_drew (S := fun _ => True) (by kernel_rfl) ?_ (fun hHeld => ?_)
  · all_goals trivial
  refine wpAnyH_take (i := 0) (v := ?_) (take_list rfl) (by kernel_rfl) (by kernel_rfl) (by kernel_rfl) (fun _ _ _ h => h) (Or.inl ⟨by rfl, ?_⟩) (by assumption) ?_
  rotate_left
  · intro w hSw
    try dsimp only at hSw
    first | (go_simp; done) | (go_simp; with_reducible rfl)
  try simp only [Act.put, List.setIfInBounds_toArray, List.set_cons_zero, List.set_cons_succ]
  refine wpAnyH_take (i := 1) (v := ?_) (take_list rfl) (by kernel_rfl) (by kernel_rfl) (by kernel_rfl) (fun _ _ _ h => h) (Or.inl ⟨by rfl, ?_⟩) (by assumption) ?_
  rotate_left
  · intro w hSw
    try dsimp only at hSw
    first | (go_simp; done) | (go_simp; with_reducible rfl)
  try simp only [Act.put, List.setIfInBounds_toArray, List.set_cons_zero, List.set_cons_succ]
  refine wpAnyH_take (i := 2) (v := ?_) (take_list rfl) (by kernel_rfl) (by kernel_rfl) (by kernel_rfl) (fun _ _ _ h => h) (Or.inl ⟨by rfl, ?_⟩) (by assumption) ?_
  rotate_left
  · intro w hSw
    try dsimp only at hSw
    first | (go_simp; done) | (go_simp; with_reducible rfl)
  try simp only [Act.put, List.setIfInBounds_toArray, List.set_cons_zero, List.set_cons_succ]
  refine wpAnyH_take (i := 3) (v := ?_) (take_list rfl) (by kernel_rfl) (by kernel_rfl) (by kernel_rfl) (fun _ _ _ h => h) (Or.inl ⟨by rfl, ?_⟩) (by assumption) ?_
  rotate_left
  · intro w hSw
    try dsimp only at hSw
    first | (go_simp; done) | (go_simp; with_reducible rfl)
  try simp only [Act.put, List.setIfInBounds_toArray, List.set_cons_zero, List.set_cons_succ]
  refine wpAnyH_take (i := 4) (v := ?_) (take_list rfl) (by kernel_rfl) (by kernel_rfl) (by kernel_rfl) (fun _ _ _ h => h) (Or.inl ⟨by rfl, ?_⟩) (by assumption) ?_
  rotate_left
  · intro w hSw
    try dsimp only at hSw
    first | (go_simp; done) | (go_simp; with_reducible rfl)
  try simp only [Act.put, List.setIfInBounds_toArray, List.set_cons_zero, List.set_cons_succ]
  refine wpAnyH_take (i := 5) (v := ?_) (take_list rfl) (by kernel_rfl) (by kernel_rfl) (by kernel_rfl) (fun _ _ _ h => h) (Or.inl ⟨by rfl, ?_⟩) (by assumption) ?_
  rotate_left
  · intro w hSw
    try dsimp only at hSw
    first | (go_simp; done) | (go_simp; with_reducible rfl)
  try simp only [Act.put, List.setIfInBounds_toArray, List.set_cons_zero, List.set_cons_succ]
  refine wpAnyH_take (i := 6) (v := ?_) (take_list rfl) (by kernel_rfl) (by kernel_rfl) (by kernel_rfl) (fun _ _ _ h => h) (Or.inl ⟨by rfl, ?_⟩) (by assumption) ?_
  rotate_left
  · intro w hSw
    try dsimp only at hSw
    first | (go_simp; done) | (go_simp; with_reducible rfl)
  try simp only [Act.put, List.setIfInBounds_toArray, List.set_cons_zero, List.set_cons_succ]
  refine wpAnyH_take (i := 7) (v := ?_) (take_list rfl) (by kernel_rfl) (by kernel_rfl) (by kernel_rfl) (fun _ _ _ h => h) (Or.inl ⟨by rfl, ?_⟩) (by assumption) ?_
  rotate_left
  · intro w hSw
    try dsimp only at hSw
    first | (go_simp; done) | (go_simp; with_reducible rfl)
  try simp only [Act.put, List.setIfInBounds_toArray, List.set_cons_zero, List.set_cons_succ]
  refine wpAnyH_take (i := 8) (v := ?_) (take_list rfl) (by kernel_rfl) (by kernel_rfl) (by kernel_rfl) (fun _ _ _ h => h) (Or.inl ⟨by rfl, ?_⟩) (by assumption) ?_
  rotate_left
  · intro w hSw
    try dsimp only at hSw
    first | (go_simp; done) | (go_simp; with_reducible rfl)
  try simp only [Act.put, List.setIfInBounds_toArray, List.set_cons_zero, List.set_cons_succ]
  refine wpAnyH_ready (rs := [9]) (by kernel_rfl) (by simp) ?_
  refine AllReadyH.cons (take_list rfl) (fun K hK => ?_) ?_
  · skip
    refine step_copyO rfl (.tmp 103) (.tmp 106) _ _ rfl 24 3 Try.underlying22 size_sp g off (k + 2 + q) c _ hr1.drew (k + 1) _ q _ rfl rfl ⟨g, off + (k + 2) * 3, none⟩ q _ q (spsV (l.drop (k + 2))) rfl (by simp) HL2.out ?_ (by omega) (spsV_one _) ?_
    · exact Hsrc.out _ ho1.drew hr1.drew
    intro w2 hr2 ho2
    refine hK.out _ _ ?_ (fun hHeld => ?_)
    · try dsimp only
      all_goals trivial
    clear hK K
    refine wpAnyH_done (by kernel_rfl) ?_ _
    go_wp2_with (first
      | (refine wpList_clearO rfl (.tmp 110) _ rfl 24 3 _ Try.underlying22 zero_sp rfl zeros_one g off (k + 2 + q) c _ hr2 (k + 1 + q) _ 1 _ rfl rfl (by omega) (by omega) ?_
         intro w3 hr3 ho3)
      | fail)
    go_ret
    exact ⟨rfl, _, hr3, fun j hj => put_cells l k q s hsl HL2.out (Hk.out) j hj, (((Only.refl (fun k => k = g) w).drewN nq).trans ho1 (fun i _ h => h)).trans (ho2.drew_left.trans ho3 (fun i _ h => h)) (fun i _ h => h)⟩
  exact AllReadyH.nil
end Go.Proofs.Ythomhhnioadpmaa

/-
  The contract of plan.Join. No statement of the seat is proved here.
-/
namespace Go.Proofs.Ythomhhnioadpmaa
open Go Go.RowKit
set_option maxRecDepth 100000

theorem size_spc {ds : Array Value} (h : ds.size = 3) : (Try.prog.info? 24).map (·.size) = some ds.size := by rw [h]; kernel_rfl
theorem step_store_sp {ops : Array Oper} {o : Oper} {a : Act} {w : World} {K : Act → World → Prop} {Q : Exit → Act → World → Prop} {E : Prop} (hgd : o.guard = none) (x y : Operand) (ho : o.op = .store 24 x y)
    (g : Nat) (hx : a.eval x = .pointer (some ⟨g, 0, none⟩)) {t : TypeId} {cs : Array Value} {u v z : Value} (hy : a.eval y = .agg #[u, v, z]) (h1 : #[u, v, z].all (·.oneCell') = true) (hB : Blk w g t cs) (hc : cs.size = 3)
    (h : ∀ w', Blk w' g t #[u, v, z] → Only (fun k => k = g) w w' → K (a.put o.dst undef) w') : if Region.wanted o (yielded ops a.tmps) = true then Oper.wp Try.prog o a w K Q else E := by
  have hw : Region.wanted o (yielded ops a.tmps) = true := by simp [Region.wanted, hgd]
  rw [if_pos hw]
  refine wp_store_mid 24 x y ho g 0 #[u, v, z] hx hy (hB.there 0 _ (by rw [hc]; show 0 + 3 ≤ 3; omega)) (size_spc rfl) h1 (h _ ?_ ?_)
  · have := hB.whole [u, v, z] (by simp [hc])
    simpa using this
  · exact (Only.refl (fun k => k = g) w).setCells (.inl rfl) [u, v, z] 0

def canJ (l : List Sp) (i : Int) : Bool := isS l && joinsI l i
def joinR (l : List Sp) (i id : Int) : List Sp := if canJ l i then putS l i.toNat (oneS l i.toNat id) else l
set_option maxHeartbeats 4000000 in
theorem join_any (A : Option Addr) (n c : Nat) (l : List Sp) (i id : Int) (w : World) (hn : n = l.length) (hl : l.length ≤ 1000000) (h : SpsAt w A l) (h0 : A = none → n = 0 ∧ c = 0) (hok : ∀ k, k < l.length → (l.getD k spZ).ok) (hi : isInt i) (hid : isInt id) :
    Calls Try.prog 9 #[.slice A n c, .int .i64 i, .int .i64 id] w fun e w' => ∃ A' c', e = .returned (.tuple #[.slice A' (joinR l i id).length c', .bool (canJ l i)]) ∧ NewO w w' 24 3 A' (joinR l i id).length c' (spsV (joinR l i id)) := by
  subst hn
  have HC := Lib.hid (clone_spans A l.length c l rfl h h0 hl)
  have H := Lib.hid h
  have HO := Lib.hid hok
  have Hi := Lib.hid hi
  have Hl := Lib.hid hl
  obtain ⟨I, hI⟩ : ∃ I, isS l = I := ⟨_, rfl⟩
  have HI := Lib.hid hI
  clear h h0 hok hi hid hI hl
  go_enter Try.func9, Try.ntmps9
  go_wp2_with fail
  refine HC.out.mono ?_
  rintro e w1 ⟨A1, c1, rfl, hN⟩
  have HN := Lib.hid hN
  have HIs := Lib.hid (is_any A l.length c l w1 rfl Hl.out (H.out.ext hN.bel) HO.out)
  rw [HI.out] at HIs
  clear hN HC
  go_wp2_with fail
  refine HIs.out.mono ?_
  rintro e w2 ⟨rfl, hb2⟩
  have Hb2 := Lib.hid hb2
  clear hb2 HIs
  cases I with
  | false =>
    have hc : canJ l i = false := by unfold canJ; rw [HI.out]; rfl
    have hj : joinR l i id = l := by unfold joinR; rw [hc]; rfl
    have Hc := Lib.hid hc
    have Hj := Lib.hid hj
    clear hc hj
    go_wp2
    go_ret2
    exact ⟨A1, c1, by rw [Hc.out, Hj.out]; rfl, by rw [Hj.out]; exact HN.out.ext Hb2.out⟩
  | true =>
    have HJ := Lib.hid (joins_any A l.length c l w2 i Hi.out rfl Hl.out (H.out.ext (ext_trans HN.out.bel Hb2.out)) (isS_tog HI.out))
    obtain ⟨J, hJ⟩ : ∃ J, joinsI l i = J := ⟨_, rfl⟩
    rw [hJ] at HJ
    have HJe := Lib.hid hJ
    clear hJ
    go_wp2_with fail
    refine HJ.out.mono ?_
    rintro e w3 ⟨rfl, hb3⟩
    have Hb3 := Lib.hid (ext_trans Hb2.out hb3)
    clear hb3 HJ
    cases J with
    | false =>
      have hc : canJ l i = false := by unfold canJ; rw [HI.out, HJe.out]; rfl
      have hj : joinR l i id = l := by unfold joinR; rw [hc]; rfl
      have Hc := Lib.hid hc
      have Hj := Lib.hid hj
      clear hc hj
      go_wp2
      go_ret2
      exact ⟨A1, c1, by rw [Hc.out, Hj.out]; rfl, by rw [Hj.out]; exact HN.out.ext Hb3.out⟩
    | true =>
      have hc : canJ l i = true := by unfold canJ; rw [HI.out, HJe.out]; rfl
      have hj : joinR l i id = putS l i.toNat (oneS l i.toNat id) := by unfold joinR; rw [hc]; rfl
      have hji := HJe.out
      unfold joinsI joinsK at hji
      simp only [Bool.and_eq_true, decide_eq_true_eq] at hji
      obtain ⟨hi0, hi1, hi2⟩ := hji
      obtain ⟨k, rfl⟩ : ∃ k : Nat, i = (k : Int) := ⟨i.toNat, by omega⟩
      rw [Int.toNat_natCast] at hi1 hi2 hj
      have hlen := putS_len l k (oneS l k id) (by omega)
      have hll := Hl.out
      have hT : Hid (∀ W, Below w3.heap.size w3 W → Calls Try.prog 18 #[.slice A l.length c, .int .i64 (k : Int)] W fun e w' => e = .returned (.int .i64 (togS l k)) ∧ Below W.heap.size W w') := Lib.hid fun W hW => together_any A l.length c l W k rfl hll (H.out.ext (ext_trans HN.out.bel (ext_trans Hb3.out hW))) hi1 (isS_tog HI.out k hi1)
      obtain ⟨g, o, rfl, -, x1, -⟩ := (H.out.ext (ext_trans HN.out.bel Hb3.out)).at_ (k := k) (by omega)
      have hone : oneS l k id = ⟨id, (l.getD k spZ).first, togS l k⟩ := rfl
      rw [hone] at hlen hj
      obtain ⟨fi, hfi⟩ : ∃ fi, (l.getD k spZ).first = fi := ⟨_, rfl⟩
      obtain ⟨tg, htg⟩ : ∃ tg, togS l k = tg := ⟨_, rfl⟩
      rw [hfi] at x1 hlen hj
      rw [htg] at hT hlen hj
      have hgl : g < w3.heap.size := World.block_lt_of_cell? w3 _ x1
      have HSS : Hid (∀ W, Below w3.heap.size w3 W → W.cell? ⟨g, o + k * 3 + 1, none⟩ = some (.int .i64 fi)) := Lib.hid fun W hW => (World.cell?_of_block (a := ⟨g, o + k * 3 + 1, none⟩) (hW.block g hgl)).trans x1
      obtain ⟨g1, o1, rfl⟩ := HN.out.row.addr (by omega)
      have hki : (k : Int) < (l.length : Int) := by omega
      have hkb : (k : Int) ≤ 1000000 := by omega
      have hwk : IntKind.i64.wrap ((k : Int) + 2) = (k : Int) + 2 := by rw [IntKind.wrap_i64]; omega
      have Hlen := Lib.hid hlen
      have Hc := Lib.hid hc
      have Hj := Lib.hid hj
      have hll2 : k + 2 ≤ l.length := by omega
      clear hc hj hi0 hi1 hi2 hone hfi htg hlen
      have hbx : Below w3.heap.size w3 w3 := Below.refl _ _
      go_wp2
      refine wp_region_held_drew (S := fun W => W.cell? ⟨g, o + k * 3 + 1, none⟩ = some (.int .i64 fi)) (by kernel_rfl) ?_ (fun hHeld => ?_)
      · exact HSS.out _ (by repeat (first | exact hbx | apply ext_alloc | apply ext_drew | apply ext_drewN | exact Below.refl _ _))
      refine wpAnyH_take (i := 0) (v := ?_) (take_list rfl) (by kernel_rfl) (by kernel_rfl) (by kernel_rfl) (fun _ _ _ h => h) (Or.inl ⟨by rfl, ?_⟩) (by assumption) ?_
      rotate_left
      · intro w hSw
        try dsimp only at hSw
        first | (go_simp; done) | (go_simp; with_reducible rfl)
      try simp only [Act.put, List.setIfInBounds_toArray, List.set_cons_zero, List.set_cons_succ]
      refine wpAnyH_take (i := 1) (v := ?_) (take_list rfl) (by kernel_rfl) (by kernel_rfl) (by kernel_rfl) (fun _ _ _ h => h) (Or.inl ⟨by rfl, ?_⟩) (by assumption) ?_
      rotate_left
      · intro w hSw
        try dsimp only at hSw
        first | (go_simp; done) | (go_simp; with_reducible rfl)
      try simp only [Act.put, List.setIfInBounds_toArray, List.set_cons_zero, List.set_cons_succ]
      refine wpAnyH_take (i := 2) (v := ?_) (take_list rfl) (by kernel_rfl) (by kernel_rfl) (by kernel_rfl) (fun _ _ _ h => h) (Or.inl ⟨by rfl, ?_⟩) (by assumption) ?_
      rotate_left
      · intro w hSw
        try dsimp only at hSw
        first | (go_simp; done) | (go_simp; with_reducible rfl)
      try simp only [Act.put, List.setIfInBounds_toArray, List.set_cons_zero, List.set_cons_succ]
      refine wpAnyH_take (i := 3) (v := ?_) (take_list rfl) (by kernel_rfl) (by kernel_rfl) (by kernel_rfl) (fun _ _ _ h => h) (Or.inl ⟨by rfl, ?_⟩) (by assumption) ?_
      rotate_left
      · intro w hSw
        try dsimp only at hSw
        first | (go_simp; done) | (go_simp; with_reducible rfl)
      try simp only [Act.put, List.setIfInBounds_toArray, List.set_cons_zero, List.set_cons_succ]
      refine wpAnyH_take (i := 4) (v := ?_) (take_list rfl) (by kernel_rfl) (by kernel_rfl) (by kernel_rfl) (fun _ _ _ h => h) (Or.inl ⟨by rfl, ?_⟩) (by assumption) ?_
      rotate_left
      · intro w hSw
        try dsimp only at hSw
        first | (go_simp; done) | (go_simp; with_reducible rfl)
      try simp only [Act.put, List.setIfInBounds_toArray, List.set_cons_zero, List.set_cons_succ]
      refine wpAnyH_take (i := 5) (v := ?_) (take_list rfl) (by kernel_rfl) (by kernel_rfl) (by kernel_rfl) (fun _ _ _ h => h) (Or.inl ⟨by rfl, ?_⟩) (by assumption) ?_
      rotate_left
      · intro w hSw
        try dsimp only at hSw
        first | (go_simp; done) | (go_simp; with_reducible rfl)
      try simp only [Act.put, List.setIfInBounds_toArray, List.set_cons_zero, List.set_cons_succ]
      refine wpAnyH_take (i := 6) (v := ?_) (take_list rfl) (by kernel_rfl) (by kernel_rfl) (by kernel_rfl) (fun _ _ _ h => h) (Or.inl ⟨by rfl, ?_⟩) (by assumption) ?_
      rotate_left
      · intro w hSw
        try dsimp only at hSw
        first | (go_simp; done) | (go_simp; with_reducible rfl)
      try simp only [Act.put, List.setIfInBounds_toArray, List.set_cons_zero, List.set_cons_succ]
      refine wpAnyH_take (i := 7) (v := ?_) (take_list rfl) (by kernel_rfl) (by kernel_rfl) (by kernel_rfl) (fun _ _ _ h => h) (Or.inl ⟨by rfl, ?_⟩) (by assumption) ?_
      rotate_left
      · intro w hSw
        try dsimp only at hSw
        first | (go_simp; done) | (go_simp; with_reducible rfl)
      try simp only [Act.put, List.setIfInBounds_toArray, List.set_cons_zero, List.set_cons_succ]
      refine wpAnyH_ready (rs := [8, 10]) (by kernel_rfl) (by simp) ?_
      refine AllReadyH.cons (take_list rfl) (fun K hK => ?_) ?_
      · skip
        go_simp
        refine (hT.out _ (by repeat (first | exact hbx | apply ext_alloc | apply ext_drew | apply ext_drewN | exact Below.refl _ _))).mono ?_
        rintro e xa ⟨rfl, hbx'⟩
        dsimp only
        have hbx : Below w3.heap.size w3 xa := ext_trans (by repeat (first | exact hbx | apply ext_alloc | apply ext_drew | apply ext_drewN | exact Below.refl _ _)) hbx'
        refine hK.out _ _ ?_ (fun hHeld => ?_)
        · try dsimp only
          exact HSS.out _ (by repeat (first | exact hbx | apply ext_alloc | apply ext_drew | apply ext_drewN | exact Below.refl _ _))
        clear hK K
        refine wpAnyH_take (i := 9) (v := ?_) (take_list rfl) (by kernel_rfl) (by kernel_rfl) (by kernel_rfl) (fun _ _ _ h => h) (Or.inl ⟨by rfl, ?_⟩) (by assumption) ?_
        rotate_left
        · intro w hSw
          try dsimp only at hSw
          first | (go_simp; done) | (go_simp; with_reducible rfl)
        try simp only [Act.put, List.setIfInBounds_toArray, List.set_cons_zero, List.set_cons_succ]
        refine wpAnyH_ready (rs := [10]) (by kernel_rfl) (by simp) ?_
        refine AllReadyH.cons (take_list rfl) (fun K hK => ?_) ?_
        · skip
          go_simp
          refine hK.out _ _ ?_ (fun hHeld => ?_)
          · try dsimp only
            exact HSS.out _ (by repeat (first | exact hbx | apply ext_alloc | apply ext_drew | apply ext_drewN | exact Below.refl _ _))
          clear hK K
          refine wpAnyH_ready (rs := [11]) (by kernel_rfl) (by simp) ?_
          refine AllReadyH.cons (take_list rfl) (fun K hK => ?_) ?_
          · skip
            refine step_store_sp rfl (.tmp 9) (.tmp 31) rfl _ rfl rfl (by simp [Value.oneCell']) (Blk.new _ 24 #[.int .i64 0, .int .i64 0, .int .i64 0]).drew rfl ?_
            intro w4 hB4 ho4
            have hbx4 : Below w3.heap.size w3 w4 := (show Below w3.heap.size w3 _ from (by repeat (first | exact hbx | apply ext_alloc | apply ext_drew | apply ext_drewN | exact Below.refl _ _))).trans (ho4.below (B := w3.heap.size) (fun i hi => by have := hbx.size; simp at hi ⊢; omega) (by have := hbx.size; simp; omega))
            refine hK.out _ _ ?_ (fun hHeld => ?_)
            · try dsimp only
              exact HSS.out _ (by repeat (first | exact hbx4 | apply ext_drew))
            clear hK K
            refine wpAnyH_done (by kernel_rfl) ?_ _
            have c0 := hB4.cell 0
            have c1' := hB4.cell 1
            have c2 := hB4.cell 2
            have hb5 : Below w1.heap.size w1 (w4.alloc (.cells #[.int .i64 id, .int .i64 fi, .int .i64 tg] 24)) := ext_alloc (ext_trans Hb3.out hbx4) _
            have hrow5 := HN.out.row.ext hb5
            have hrd5 : Rd (w4.alloc (.cells #[.int .i64 id, .int .i64 fi, .int .i64 tg] 24)) (some ⟨w4.heap.size, 0, none⟩) (spV ⟨id, fi, tg⟩) := Rd.lit_at _ #[.int .i64 id, .int .i64 fi, .int .i64 tg] _ rfl
            have hcap := HN.out.row.2
            have hc1m : c1 ≤ maxLen := by
              rcases HN.out.row.2 with ⟨h, _⟩ | ⟨_, _, _, _, _, h, _⟩
              · cases h
              · exact h
            have hR : Calls Try.prog 20 #[.slice (some ⟨g1, o1, none⟩) l.length c1, .int .i64 (k : Int), .int .i64 ((k : Int) + 2), .slice (some ⟨w4.heap.size, 0, none⟩) 1 1] (w4.alloc (.cells #[.int .i64 id, .int .i64 fi, .int .i64 tg] 24)) fun e w' => e = .returned (.slice (some ⟨g1, o1, none⟩) (l.length - 1) c1) ∧ NewO w w' 24 3 (some ⟨g1, o1, none⟩) (l.length - 1) c1 (spsV (putS l k ⟨id, fi, tg⟩)) := by
              have hfin : ∀ w' xs, RowO w' 24 3 (some ⟨g1, o1, none⟩) l.length c1 xs → (∀ j, j < (l.length - 1) * 3 → xs[j]? = (spsV (putS l k ⟨id, fi, tg⟩))[j]?) → Only (fun k => k = g1) (w4.alloc (.cells #[.int .i64 id, .int .i64 fi, .int .i64 tg] 24)) w' → NewO w w' 24 3 (some ⟨g1, o1, none⟩) (l.length - 1) c1 (spsV (putS l k ⟨id, fi, tg⟩)) := fun w' xs hr hx ho => by
                have hsub := hr.sub (n := l.length - 1) (ys := spsV (putS l k ⟨id, fi, tg⟩)) (by omega) (by rw [spsV_len, Hlen.out]) (fun j u hu => by rw [hx j (by have := (List.getElem?_eq_some_iff.1 hu).1; rw [spsV_len, Hlen.out] at this; exact this)]; exact hu)
                exact HN.out.grow hb5 hsub (ho.mono (fun i _ hi => (inA_some _ _ _ _).2 hi.symm)) (fun i hi => .inl hi)
              by_cases hlast : k + 2 = l.length
              · refine (replace_last g1 o1 c1 l.length k l ⟨id, fi, tg⟩ ⟨w4.heap.size, 0, none⟩ _ rfl hlast Hl.out hc1m hrow5 hrd5).mono ?_
                rintro e w' ⟨he, xs, hr, hx, ho⟩
                have hk1 : k + 1 = l.length - 1 := by omega
                rw [hk1] at he hx
                exact ⟨he, hfin w' xs hr hx ho⟩
              · obtain ⟨q, hq⟩ : ∃ q, l.length = k + 2 + q := ⟨l.length - (k + 2), by omega⟩
                have h := replace_mid g1 o1 c1 k q l ⟨id, fi, tg⟩ ⟨w4.heap.size, 0, none⟩ _ hq (by omega) Hl.out hc1m (by rw [← hq]; exact hrow5) hrd5
                rw [← hq] at h
                refine h.mono ?_
                rintro e w' ⟨he, xs, hr, hx, ho⟩
                have hk1 : k + 1 + q = l.length - 1 := by omega
                rw [hk1] at he hx
                exact ⟨he, hfin w' xs hr hx ho⟩
            have HR := Lib.hid hR
            clear hR hcap hc1m hrd5 hrow5 hb5
            go_wp2_with fail
            refine HR.out.mono ?_
            rintro e w6 ⟨rfl, hN6⟩
            go_wp2
            go_ret2
            exact ⟨some ⟨g1, o1, none⟩, c1, by rw [Hc.out, Hj.out, Hlen.out]; rfl, by rw [Hj.out, Hlen.out]; exact hN6⟩
          exact AllReadyH.nil
        exact AllReadyH.nil
      refine AllReadyH.cons (take_list rfl) (fun K hK => ?_) ?_
      · skip
        go_simp
        refine hK.out _ _ ?_ (fun hHeld => ?_)
        · try dsimp only
          exact HSS.out _ (by repeat (first | exact hbx | apply ext_alloc | apply ext_drew | apply ext_drewN | exact Below.refl _ _))
        clear hK K
        refine wpAnyH_ready (rs := [8]) (by kernel_rfl) (by simp) ?_
        refine AllReadyH.cons (take_list rfl) (fun K hK => ?_) ?_
        · skip
          go_simp
          refine (hT.out _ (by repeat (first | exact hbx | apply ext_alloc | apply ext_drew | apply ext_drewN | exact Below.refl _ _))).mono ?_
          rintro e xa ⟨rfl, hbx'⟩
          dsimp only
          have hB : Blk xa w3.heap.size 24 #[.int .i64 0, .int .i64 0, .int .i64 0] := Blk.ext (by first | exact Blk.new _ _ _ | exact (Blk.new _ _ _).drew | exact (Blk.new w3.drew _ _).drew | exact Blk.new w3.drew _ _) hbx'
          have hbx : Below w3.heap.size w3 xa := ext_trans (by repeat (first | exact hbx | apply ext_alloc | apply ext_drew | apply ext_drewN | exact Below.refl _ _)) hbx'
          refine hK.out _ _ ?_ (fun hHeld => ?_)
          · try dsimp only
            exact HSS.out _ (by repeat (first | exact hbx | apply ext_alloc | apply ext_drew | apply ext_drewN | exact Below.refl _ _))
          clear hK K
          refine wpAnyH_take (i := 9) (v := ?_) (take_list rfl) (by kernel_rfl) (by kernel_rfl) (by kernel_rfl) (fun _ _ _ h => h) (Or.inl ⟨by rfl, ?_⟩) (by assumption) ?_
          rotate_left
          · intro w hSw
            try dsimp only at hSw
            first | (go_simp; done) | (go_simp; with_reducible rfl)
          try simp only [Act.put, List.setIfInBounds_toArray, List.set_cons_zero, List.set_cons_succ]
          refine wpAnyH_ready (rs := [11]) (by kernel_rfl) (by simp) ?_
          refine AllReadyH.cons (take_list rfl) (fun K hK => ?_) ?_
          · skip
            refine step_store_sp rfl (.tmp 9) (.tmp 31) rfl _ rfl rfl (by simp [Value.oneCell']) hB.drew rfl ?_
            intro w4 hB4 ho4
            have hbx4 : Below w3.heap.size w3 w4 := (show Below w3.heap.size w3 _ from (by repeat (first | exact hbx | apply ext_alloc | apply ext_drew | apply ext_drewN | exact Below.refl _ _))).trans (ho4.below (B := w3.heap.size) (fun i hi => by first | omega | (simp at hi; omega)) (by have := hbx.size; simp; omega))
            refine hK.out _ _ ?_ (fun hHeld => ?_)
            · try dsimp only
              exact HSS.out _ (by repeat (first | exact hbx4 | apply ext_drew))
            clear hK K
            refine wpAnyH_done (by kernel_rfl) ?_ _
            have c0 := hB4.cell 0
            have c1' := hB4.cell 1
            have c2 := hB4.cell 2
            have hb5 : Below w1.heap.size w1 (w4.alloc (.cells #[.int .i64 id, .int .i64 fi, .int .i64 tg] 24)) := ext_alloc (ext_trans Hb3.out hbx4) _
            have hrow5 := HN.out.row.ext hb5
            have hrd5 : Rd (w4.alloc (.cells #[.int .i64 id, .int .i64 fi, .int .i64 tg] 24)) (some ⟨w4.heap.size, 0, none⟩) (spV ⟨id, fi, tg⟩) := Rd.lit_at _ #[.int .i64 id, .int .i64 fi, .int .i64 tg] _ rfl
            have hcap := HN.out.row.2
            have hc1m : c1 ≤ maxLen := by
              rcases HN.out.row.2 with ⟨h, _⟩ | ⟨_, _, _, _, _, h, _⟩
              · cases h
              · exact h
            have hR : Calls Try.prog 20 #[.slice (some ⟨g1, o1, none⟩) l.length c1, .int .i64 (k : Int), .int .i64 ((k : Int) + 2), .slice (some ⟨w4.heap.size, 0, none⟩) 1 1] (w4.alloc (.cells #[.int .i64 id, .int .i64 fi, .int .i64 tg] 24)) fun e w' => e = .returned (.slice (some ⟨g1, o1, none⟩) (l.length - 1) c1) ∧ NewO w w' 24 3 (some ⟨g1, o1, none⟩) (l.length - 1) c1 (spsV (putS l k ⟨id, fi, tg⟩)) := by
              have hfin : ∀ w' xs, RowO w' 24 3 (some ⟨g1, o1, none⟩) l.length c1 xs → (∀ j, j < (l.length - 1) * 3 → xs[j]? = (spsV (putS l k ⟨id, fi, tg⟩))[j]?) → Only (fun k => k = g1) (w4.alloc (.cells #[.int .i64 id, .int .i64 fi, .int .i64 tg] 24)) w' → NewO w w' 24 3 (some ⟨g1, o1, none⟩) (l.length - 1) c1 (spsV (putS l k ⟨id, fi, tg⟩)) := fun w' xs hr hx ho => by
                have hsub := hr.sub (n := l.length - 1) (ys := spsV (putS l k ⟨id, fi, tg⟩)) (by omega) (by rw [spsV_len, Hlen.out]) (fun j u hu => by rw [hx j (by have := (List.getElem?_eq_some_iff.1 hu).1; rw [spsV_len, Hlen.out] at this; exact this)]; exact hu)
                exact HN.out.grow hb5 hsub (ho.mono (fun i _ hi => (inA_some _ _ _ _).2 hi.symm)) (fun i hi => .inl hi)
              by_cases hlast : k + 2 = l.length
              · refine (replace_last g1 o1 c1 l.length k l ⟨id, fi, tg⟩ ⟨w4.heap.size, 0, none⟩ _ rfl hlast Hl.out hc1m hrow5 hrd5).mono ?_
                rintro e w' ⟨he, xs, hr, hx, ho⟩
                have hk1 : k + 1 = l.length - 1 := by omega
                rw [hk1] at he hx
                exact ⟨he, hfin w' xs hr hx ho⟩
              · obtain ⟨q, hq⟩ : ∃ q, l.length = k + 2 + q := ⟨l.length - (k + 2), by omega⟩
                have h := replace_mid g1 o1 c1 k q l ⟨id, fi, tg⟩ ⟨w4.heap.size, 0, none⟩ _ hq (by omega) Hl.out hc1m (by rw [← hq]; exact hrow5) hrd5
                rw [← hq] at h
                refine h.mono ?_
                rintro e w' ⟨he, xs, hr, hx, ho⟩
                have hk1 : k + 1 + q = l.length - 1 := by omega
                rw [hk1] at he hx
                exact ⟨he, hfin w' xs hr hx ho⟩
            have HR := Lib.hid hR
            clear hR hcap hc1m hrd5 hrow5 hb5
            go_wp2_with fail
            refine HR.out.mono ?_
            rintro e w6 ⟨rfl, hN6⟩
            go_wp2
            go_ret2
            exact ⟨some ⟨g1, o1, none⟩, c1, by rw [Hc.out, Hj.out, Hlen.out]; rfl, by rw [Hj.out, Hlen.out]; exact hN6⟩
          exact AllReadyH.nil
        exact AllReadyH.nil
      exact AllReadyH.nil
end Go.Proofs.Ythomhhnioadpmaa

/-
  Spans: what is joined may be, and covers the same lines. Mathematics only; no statement of the seat is proved here.
-/
namespace Go.Proofs.Ythomhhnioadpmaa
open Go Go.RowKit
set_option maxRecDepth 100000

theorem isS_ids {l : List Sp} (h : isS l = true) {i j : Nat} (hij : i < j) (hj : j < l.length) : (l.getD i spZ).id ≠ (l.getD j spZ).id := fun e => by
  have := isS_two hj (noId_no hij e)
  rw [h] at this
  cases this
theorem isS_of {l : List Sp} (h1 : ∀ k, k < l.length → rightS (l.getD k spZ) = true) (h2 : ∀ k, k + 1 < l.length → (l.getD (k + 1) spZ).first = (l.getD k spZ).first + (l.getD k spZ).count) (h3 : ∀ i j, i < j → j < l.length → (l.getD i spZ).id ≠ (l.getD j spZ).id) : isS l = true := by
  unfold isS
  rw [Bool.and_eq_true]
  refine ⟨List.all_eq_true.2 fun k hk => ?_, List.all_eq_true.2 fun j hj => List.all_eq_true.2 fun i hi => ?_⟩
  · rw [List.mem_range] at hk
    unfold stepS linkS
    rw [h1 k hk, Bool.true_and, Bool.or_eq_true]
    rcases k with _ | k
    · exact .inl (decide_eq_true rfl)
    · exact .inr (decide_eq_true (h2 k hk))
  · rw [List.mem_range] at hi hj
    rw [decide_eq_false (h3 i j hi hj)]
    rfl
theorem putS_get (l : List Sp) (k : Nat) (s : Sp) (hk : k + 2 ≤ l.length) (i : Nat) (hi : i < l.length - 1) : (putS l k s).getD i spZ = if i < k then l.getD i spZ else if i = k then s else l.getD (i + 1) spZ := by
  have ht : (l.take k).length = k := by rw [List.length_take]; omega
  unfold putS
  rw [List.getD_eq_getElem?_getD]
  by_cases h1 : i < k
  · rw [if_pos h1, List.getElem?_append_left (by omega), List.getElem?_take, if_pos h1, ← List.getD_eq_getElem?_getD]
  · rw [if_neg h1, List.getElem?_append_right (by omega), ht]
    by_cases h2 : i = k
    · subst h2
      rw [if_pos rfl, Nat.sub_self]
      rfl
    · rw [if_neg h2]
      obtain ⟨j, hj⟩ : ∃ j, i - k = j + 1 := ⟨i - k - 1, by omega⟩
      rw [hj, List.getElem?_cons_succ, List.getElem?_drop, show k + 2 + j = i + 1 by omega, ← List.getD_eq_getElem?_getD]
def endS (l : List Sp) : Int := (l.getD (l.length - 1) spZ).first + (l.getD (l.length - 1) spZ).count
structure Inv (l now : List Sp) (M : Int) : Prop where
  is : isS now = true
  pos : 0 < now.length
  ids : ∀ i, i < now.length → (now.getD i spZ).id ≤ M
  first : (now.getD 0 spZ).first = (l.getD 0 spZ).first
  last : endS now = endS l
theorem Inv.step {l now : List Sp} {M : Int} (h : Inv l now M) {k : Nat} (hk : pickS now = some k) (hM : 0 ≤ M) (hM2 : M < 34359738368) : Inv l (putS now k (oneS now k (M + 1))) (M + 1) := by
  have hp : pickTo now now.length = some k := by
    have := hk
    unfold pickS at this
    rw [h.is] at this
    exact this
  obtain ⟨-, hk1, hk2⟩ := pickTo_at hp
  have hlen := putS_len now k (oneS now k (M + 1)) (by omega)
  have hget := putS_get now k (oneS now k (M + 1)) (by omega)
  have hr := fun i (hi : i < now.length) => (rightS_iff _).1 (isS_right h.is hi)
  have hl := fun i (hi : i + 1 < now.length) => isS_link h.is hi
  have hone : oneS now k (M + 1) = ⟨M + 1, (now.getD k spZ).first, togS now k⟩ := rfl
  have htog : togS now k = (now.getD k spZ).count + (now.getD (k + 1) spZ).count := rfl
  have hpos : 0 < (putS now k (oneS now k (M + 1))).length := by omega
  refine ⟨isS_of (fun i hi => ?_) (fun i hi => ?_) (fun i j hij hj => ?_), hpos, fun i hi => ?_, ?_, ?_⟩
  · rw [hlen] at hi
    rw [hget i hi]
    have ha := hr k (by omega)
    have hb := hr (k + 1) (by omega)
    split
    · exact isS_right h.is (by omega)
    · split
      · rw [rightS_iff, hone]
        simp only
        rw [htog] at hk2 ⊢
        omega
      · exact isS_right h.is (by omega)
  · rw [hlen] at hi
    rw [hget i (by omega), hget (i + 1) hi]
    by_cases h1 : i + 1 < k
    · rw [if_pos h1, if_pos (by omega)]
      exact hl i (by omega)
    · rw [if_neg h1]
      by_cases h2 : i + 1 = k
      · rw [if_pos h2, if_pos (by omega), hone]
        subst h2
        exact hl i (by omega)
      · rw [if_neg h2, if_neg (by omega)]
        by_cases h3 : i = k
        · subst h3
          rw [if_pos rfl, hone]
          simp only
          have e1 := hl i (by omega)
          have e2 := hl (i + 1) (by omega)
          rw [htog]
          omega
        · rw [if_neg h3]
          exact hl (i + 1) (by omega)
  · rw [hlen] at hj
    rw [hget i (by omega), hget j hj]
    have hidM := fun i (hi : i < now.length) => h.ids i hi
    by_cases h1 : j < k
    · rw [if_pos h1, if_pos (by omega)]
      exact isS_ids h.is hij (by omega)
    · rw [if_neg h1]
      by_cases h2 : j = k
      · rw [if_pos h2, if_pos (by omega), hone]
        simp only
        have := hidM i (by omega)
        omega
      · rw [if_neg h2]
        by_cases h3 : i < k
        · rw [if_pos h3]
          exact isS_ids h.is (by omega) (by omega)
        · rw [if_neg h3]
          by_cases h4 : i = k
          · rw [if_pos h4, hone]
            simp only
            have := hidM (j + 1) (by omega)
            omega
          · rw [if_neg h4]
            exact isS_ids h.is (by omega) (by omega)
  · rw [hlen] at hi
    rw [hget i hi]
    split
    · have := h.ids i (by omega); omega
    · split
      · rw [hone]; exact Int.le_refl _
      · have := h.ids (i + 1) (by omega); omega
  · rw [hget 0 (by omega), ← h.first]
    by_cases h1 : 0 < k
    · rw [if_pos h1]
    · obtain rfl : k = 0 := by omega
      rw [if_neg h1, if_pos rfl, hone]
  · rw [← h.last]
    unfold endS
    rw [hlen, hget (now.length - 1 - 1) (by omega)]
    rw [if_neg (by omega)]
    by_cases h2 : now.length - 1 - 1 = k
    · rw [if_pos h2, hone]
      simp only
      have e1 := hl k (by omega)
      rw [htog, show now.length - 1 = k + 1 by omega]
      omega
    · rw [if_neg h2, show now.length - 1 - 1 + 1 = now.length - 1 by omega]
theorem canJ_of {l : List Sp} {k : Nat} (hk : pickS l = some k) : canJ l (k : Int) = true ∧ isS l = true ∧ k + 1 < l.length := by
  unfold pickS at hk
  split at hk
  · rename_i hi
    obtain ⟨-, h1, h2⟩ := pickTo_at hk
    unfold canJ
    rw [hi, joinsI_nat]
    unfold joinsK
    rw [decide_eq_true h1, decide_eq_true h2]
    exact ⟨rfl, rfl, h1⟩
  · cases hk
theorem pick_none {l : List Sp} (h : isS l = true) (hp : pickS l = none) (i : Nat) (hi : i + 1 < l.length) : 512 < togS l i := by
  unfold pickS at hp
  rw [h, if_pos rfl] at hp
  by_cases hc : togS l i ≤ 512
  · obtain ⟨p, hp2, _⟩ := pickTo_least (l := l) (k := l.length) (i := i) (by omega) (by unfold joinsK; rw [decide_eq_true hi, decide_eq_true hc]; rfl)
    rw [hp2] at hp
    cases hp
  · omega
/-- the greatest number of the first ones -/
def maxTo (l : List Sp) : Nat → Int
  | 0 => 0
  | k + 1 => if maxTo l k < (l.getD k spZ).id then (l.getD k spZ).id else maxTo l k
theorem maxTo_ge (l : List Sp) : ∀ k i, i < k → (l.getD i spZ).id ≤ maxTo l k
  | 0, i, h => by omega
  | k + 1, i, h => by
    unfold maxTo
    rcases Nat.lt_or_ge i k with h1 | h1
    · have := maxTo_ge l k i h1
      split <;> omega
    · obtain rfl : i = k := by omega
      split <;> omega
theorem maxTo_nn (l : List Sp) : ∀ k, 0 ≤ maxTo l k
  | 0 => Int.le_refl _
  | k + 1 => by
    have := maxTo_nn l k
    unfold maxTo
    split <;> omega
theorem maxTo_le {l : List Sp} (h : isS l = true) : ∀ k, k ≤ l.length → maxTo l k ≤ 34359738368
  | 0, _ => by simp [maxTo]
  | k + 1, hk => by
    have h1 := maxTo_le h k (by omega)
    have h2 := (rightS_iff _).1 (isS_right h (k := k) (by omega))
    unfold maxTo
    split <;> omega
theorem oks_of {l : List Sp} (h : isS l = true) : ∀ k, k < l.length → (l.getD k spZ).ok := fun k hk => by
  have h2 := (rightS_iff _).1 (isS_right h hk)
  exact ⟨by unfold isInt; omega, by unfold isInt; omega, by unfold isInt; omega⟩
end Go.Proofs.Ythomhhnioadpmaa

/-
  The contracts of the reference's Pick and Drop. No statement of the seat is proved here.
-/
namespace Go.Proofs.Ythomhhnioadpmaa
open Go Go.RowKit
set_option maxRecDepth 100000

def bestP (p : Option Nat) : Int := match p with | none => -1 | some p => (p : Int)
def leastP (l : List Sp) (p : Option Nat) : Int := match p with | none => 513 | some p => togS l p
theorem next_ref (l : List Sp) (k : Nat) (pk : Option Nat) (hk : k + 1 < l.length) (hp : ∀ p, pk = some p → togS l p ≤ 512) : nextP l k (joinsK l k) pk = if togS l k < leastP l pk then some k else pk := by
  unfold joinsK
  rw [decide_eq_true hk, Bool.true_and]
  cases pk with
  | none =>
    unfold leastP
    dsimp only
    by_cases h : togS l k ≤ 512
    · rw [decide_eq_true h, if_pos (by omega)]; rfl
    · rw [decide_eq_false h, if_neg (by omega)]; rfl
  | some p =>
    have := hp p rfl
    unfold leastP
    dsimp only
    by_cases h : togS l k ≤ 512
    · rw [decide_eq_true h, nextP_some]
    · rw [decide_eq_false h, nextP_no, if_neg (by omega)]
set_option maxHeartbeats 4000000 in
theorem rpick_any (A : Option Addr) (n c : Nat) (l : List Sp) (w : World) (hn : n = l.length) (hl : l.length ≤ 1000000) (h : SpsAt w A l) :
    Calls Try.prog 8 #[.slice A n c] w fun e w' => e = .returned (.tuple #[.int .i64 (numP (pickS l)), .bool (pickS l).isSome]) ∧ Below w.heap.size w w' := by
  subst hn
  have hli : (l.length : Int) ≤ 1000000 := by omega
  have HI := Lib.hid (ris_any A l.length c l w rfl hl h)
  obtain ⟨V, hV⟩ : ∃ V, pickS l = V := ⟨_, rfl⟩
  rw [hV]
  have HV := Lib.hid hV
  have H := Lib.hid h
  obtain ⟨I, hI⟩ : ∃ I, isS l = I := ⟨_, rfl⟩
  rw [hI] at HI
  have HIs := Lib.hid hI
  clear h hV hI
  go_enter Try.func8, Try.ntmps8
  go_wp2_with fail
  refine HI.out.mono ?_
  rintro e w1 ⟨rfl, hb1⟩
  have Hb1 := Lib.hid hb1
  clear hb1 HI
  cases I with
  | false =>
    have hv : V = none := by rw [← HV.out]; unfold pickS; rw [HIs.out]; rfl
    subst hv
    go_wp2
    go_ret2
    exact ⟨rfl, Hb1.out⟩
  | true =>
    have hv : pickTo l l.length = V := by rw [← HV.out]; unfold pickS; rw [HIs.out]; rfl
    have HP := Lib.hid hv
    have HT := Lib.hid (isS_tog HIs.out)
    clear hv
    go_wp2
    go_loopw [4, 5, 6] (fun pl le i wr => ∃ (k : Nat) (pk : Option Nat), k ≤ l.length ∧ i = .int .i64 (k : Int) ∧ pl = .int .i64 (bestP pk) ∧ le = .int .i64 (leastP l pk) ∧ Hid (pickTo l k = pk) ∧ Hid (Below w.heap.size w wr)) (fun _ _ i _ => l.length - (intOf i).toNat)
    case atStart => exact ⟨0, none, Nat.zero_le _, rfl, rfl, rfl, Lib.hid rfl, Hb1⟩
    case round =>
      obtain ⟨k, pk, hk, rfl, rfl, rfl, HK, Hb⟩ := hrel
      by_cases hlt : k + 1 < l.length
      · have hki : (k : Int) + 1 < (l.length : Int) := by omega
        have hki0 : (k : Int) < (l.length : Int) := by omega
        have hkb : (k : Int) ≤ 1000000 := by omega
        have hH := H.out.ext Hb.out
        obtain ⟨g, o, rfl, -, -, x2⟩ := hH.at_ (k := k) (by omega)
        obtain ⟨g', o', e, -, -, y2⟩ := hH.at_ (k := k + 1) hlt
        injection e with e
        injection e with e1 e2 _
        subst e1 e2
        have ht := HT.out k hlt
        have hS : pickTo l (k + 1) = if togS l k < leastP l pk then some k else pk := by
          rw [pickTo_next, HK.out]
          exact next_ref l k pk hlt (fun p hp => (pickTo_at (HK.out.trans hp)).2.2)
        have htog : togS l k = (l.getD k spZ).count + (l.getD (k + 1) spZ).count := rfl
        have hle : leastP l (some k) = togS l k := rfl
        obtain ⟨a, ha⟩ : ∃ a, (l.getD k spZ).count = a := ⟨_, rfl⟩
        obtain ⟨b, hb⟩ : ∃ b, (l.getD (k + 1) spZ).count = b := ⟨_, rfl⟩
        rw [ha] at x2
        rw [hb] at y2
        rw [ha, hb] at htog
        rw [htog] at ht hS hle
        unfold isInt at ht
        have ht1 := ht.1
        have ht2 := ht.2
        have hw2 : IntKind.i64.wrap (a + b) = a + b := by rw [IntKind.wrap_i64]; omega
        have hw1 : IntKind.i64.wrap ((k : Int) + 1) = (k : Int) + 1 := by rw [IntKind.wrap_i64]; omega
        have hkn : ((k : Int) + 1).toNat = k + 1 := by omega
        have HS := Lib.hid hS
        have HL := Lib.hid hle
        clear ha hb htog ht hS hle hH
        obtain ⟨Q, hQ⟩ : ∃ Q, leastP l pk = Q := ⟨_, rfl⟩
        rw [hQ] at HS ⊢
        have HQ := Lib.hid hQ
        clear hQ
        by_cases hlt2 : a + b < Q
        all_goals
          go_wp2
          go_quiet (fail)
          go_wp2
          go_roundw
          case rel => first
            | exact ⟨k + 1, some k, by omega, by go_num, rfl, by rw [HL.out], Lib.hid (by rw [HS.out, if_pos hlt2]), Lib.hid (by repeat (first | exact Hb.out | apply ext_drew | apply ext_drewN))⟩
            | exact ⟨k + 1, pk, by omega, by go_num, rfl, by rw [HQ.out], Lib.hid (by rw [HS.out, if_neg (by omega)]), Lib.hid (by repeat (first | exact Hb.out | apply ext_drew | apply ext_drewN))⟩
          case measure => simp [intOf]; omega
      · have hv : V = pk := by
          rw [← HP.out, ← HK.out]
          rcases Nat.lt_or_ge k l.length with h1 | h1
          · obtain ⟨q, hq⟩ : ∃ q, l.length = q + 1 := ⟨l.length - 1, by omega⟩
            obtain rfl : k = q := by omega
            rw [hq]
            exact pickTo_last (by omega)
          · rw [show l.length = k by omega]
        subst hv
        have hki : ¬ (k : Int) + 1 < (l.length : Int) := by omega
        have hw1 : IntKind.i64.wrap ((k : Int) + 1) = (k : Int) + 1 := by rw [IntKind.wrap_i64]; omega
        cases V with
        | none =>
          have hb0 : bestP none = -1 := rfl
          rw [hb0]
          go_wp2
          go_ret2
          exact ⟨rfl, Hb.out⟩
        | some p =>
          have hb0 : bestP (some p) = (p : Int) := rfl
          rw [hb0]
          have hp0 : ¬ (p : Int) < 0 := by omega
          have hp1 : (0 : Int) ≤ (p : Int) := by omega
          go_wp2
          go_ret2
          exact ⟨rfl, Hb.out⟩
set_option maxHeartbeats 8000000 in
theorem rdrop_any (A : Option Addr) (n c : Nat) (l : List Sp) (m : Int) (w : World) (hn : n = l.length) (hl : l.length ≤ 1000000) (h : SpsAt w A l) (hm1 : -1125899906842624 ≤ m) (hm2 : m ≤ 1125899906842624) (hf : ∀ k, k < l.length → -1125899906842624 ≤ (l.getD k spZ).first ∧ (l.getD k spZ).first ≤ 1125899906842624) :
    Calls Try.prog 12 #[.slice A n c, .int .i64 m] w fun e w' => ∃ A1 c1 A2 c2, e = .returned (.tuple #[.slice A1 (goneTo l m l.length).length c1, .slice A2 (stayTo l m l.length).length c2]) ∧ Pair2 w w' A1 c1 (goneTo l m l.length) A2 c2 (stayTo l m l.length) := by
  subst hn
  have hli : (l.length : Int) ≤ 1000000 := by omega
  have H := Lib.hid h
  have HF := Lib.hid hf
  clear h hf
  go_enter Try.func12, Try.ntmps12
  go_wp2
  go_loopw [6, 7, 8] (fun v1 v2 v wr => ∃ (k : Nat) (A1 : Option Addr) (c1 : Nat) (A2 : Option Addr) (c2 : Nat) (n1 n2 : Nat), k ≤ l.length ∧ v = .int .i64 (k : Int) ∧ v1 = .slice A1 n1 c1 ∧ v2 = .slice A2 n2 c2 ∧ Hid (n1 = (goneTo l m k).length) ∧ Hid (n2 = (stayTo l m k).length) ∧ Hid (Pair2 w wr A1 c1 (goneTo l m k) A2 c2 (stayTo l m k))) (fun _ _ v _ => l.length - (intOf v).toNat)
  case atStart => exact ⟨0, none, 0, none, 0, 0, 0, Nat.zero_le _, rfl, rfl, rfl, Lib.hid rfl, Lib.hid rfl, Lib.hid (Pair2.start w)⟩
  case round =>
    obtain ⟨k, A1, c1, A2, c2, n1, n2, hk, rfl, rfl, rfl, HN1, HN2, HP⟩ := hrel
    by_cases hlt : k < l.length
    · have hki : (k : Int) < (l.length : Int) := by omega
      have hkb : (k : Int) ≤ 1000000 := by omega
      obtain ⟨g, o, rfl, x0, x1, x2⟩ := (H.out.ext HP.out.a.bel).at_ hlt
      obtain ⟨hf1, hf2⟩ := HF.out k hlt
      have hg1 := goneTo_len l m k
      have hg2 := stayTo_len l m k
      have HG := Lib.hid (goneTo_succ l m k hlt)
      have HS := Lib.hid (stayTo_succ l m k hlt)
      obtain ⟨L1, hL1⟩ : ∃ L1, goneTo l m k = L1 := ⟨_, rfl⟩
      obtain ⟨L2, hL2⟩ : ∃ L2, stayTo l m k = L2 := ⟨_, rfl⟩
      rw [hL1] at HG HP HN1 hg1
      rw [hL2] at HS HP HN2 hg2
      obtain ⟨s, hs⟩ : ∃ s, l.getD k spZ = s := ⟨_, rfl⟩
      rw [hs] at x0 x1 x2 HG HS hf1 hf2
      have hE := goesS_iff s m
      obtain ⟨E, hEE⟩ : ∃ E, goesS s m = E := ⟨_, rfl⟩
      rw [hEE] at HG HS hE
      obtain ⟨sa, sb, sd⟩ := s
      dsimp only at x0 x1 x2 hf1 hf2 hE
      obtain rfl : n1 = L1.length := HN1.out
      obtain rfl : n2 = L2.length := HN2.out
      clear hL1 hL2 hs hEE HN1 HN2
      have hws : IntKind.i64.wrap (m - sb) = m - sb := by rw [IntKind.wrap_i64]; omega
      have hgl : g < wr.heap.size := World.block_lt_of_cell? wr _ x0
      have HSS : Hid (∀ W, Below wr.heap.size wr W → (W.cell? ⟨g, o + k * 3, none⟩ = some (.int .i64 sa) ∧ W.cell? ⟨g, o + k * 3 + 1, none⟩ = some (.int .i64 sb) ∧ W.cell? ⟨g, o + k * 3 + 2, none⟩ = some (.int .i64 sd))) := Lib.hid fun W hW => by
        have hk1 : ∀ j, W.cell? ⟨g, j, none⟩ = wr.cell? ⟨g, j, none⟩ := fun j => World.cell?_of_block (a := ⟨g, j, none⟩) (hW.block g hgl)
        exact ⟨(hk1 _).trans x0, (hk1 _).trans x1, (hk1 _).trans x2⟩
      have hbx : Below wr.heap.size wr wr := Below.refl _ _
      by_cases h1 : sb ≤ m
      · by_cases h2 : sd ≤ m - sb
        · obtain rfl : true = E := (hE.2 ⟨h1, h2⟩).symm
          clear hE
          go_wp2
          refine wp_region_held_drew (S := fun W => W.cell? ⟨g, o + k * 3, none⟩ = some (.int .i64 sa) ∧ W.cell? ⟨g, o + k * 3 + 1, none⟩ = some (.int .i64 sb) ∧ W.cell? ⟨g, o + k * 3 + 2, none⟩ = some (.int .i64 sd)) (by kernel_rfl) ?_ (fun hHeld => ?_)
          · exact HSS.out _ (by repeat (first | exact hbx | apply ext_alloc | apply ext_drew | apply ext_drewN | exact Below.refl _ _))
          refine wpAnyH_take (i := 0) (v := ?_) (take_list rfl) (by kernel_rfl) (by kernel_rfl) (by kernel_rfl) (fun _ _ _ h => h) (Or.inl ⟨by rfl, ?_⟩) (by assumption) ?_
          rotate_left
          · intro w hSw
            try dsimp only at hSw
            first | (go_simp; done) | (go_simp; with_reducible rfl)
          try simp only [Act.put, List.setIfInBounds_toArray, List.set_cons_zero, List.set_cons_succ]
          refine wpAnyH_take (i := 1) (v := ?_) (take_list rfl) (by kernel_rfl) (by kernel_rfl) (by kernel_rfl) (fun _ _ _ h => h) (Or.inl ⟨by rfl, ?_⟩) (by assumption) ?_
          rotate_left
          · intro w hSw
            try dsimp only at hSw
            first | (go_simp; done) | (go_simp; with_reducible rfl)
          try simp only [Act.put, List.setIfInBounds_toArray, List.set_cons_zero, List.set_cons_succ]
          refine wpAnyH_take (i := 2) (v := ?_) (take_list rfl) (by kernel_rfl) (by kernel_rfl) (by kernel_rfl) (fun _ _ _ h => h) (Or.inl ⟨by rfl, ?_⟩) (by assumption) ?_
          rotate_left
          · intro w hSw
            try dsimp only at hSw
            first | (go_simp; done) | (go_simp; with_reducible rfl)
          try simp only [Act.put, List.setIfInBounds_toArray, List.set_cons_zero, List.set_cons_succ]
          refine wpAnyH_take (i := 3) (v := ?_) (take_list rfl) (by kernel_rfl) (by kernel_rfl) (by kernel_rfl) (fun _ _ _ h => h) (Or.inl ⟨by rfl, ?_⟩) (by assumption) ?_
          rotate_left
          · intro w hSw
            try dsimp only at hSw
            first | (go_simp; done) | (go_simp; with_reducible rfl)
          try simp only [Act.put, List.setIfInBounds_toArray, List.set_cons_zero, List.set_cons_succ]
          refine wpAnyH_take (i := 4) (v := ?_) (take_list rfl) (by kernel_rfl) (by kernel_rfl) (by kernel_rfl) (fun _ _ _ h => h) (Or.inl ⟨by rfl, ?_⟩) (by assumption) ?_
          rotate_left
          · intro w hSw
            try dsimp only at hSw
            first | (go_simp; done) | (go_simp; with_reducible rfl)
          try simp only [Act.put, List.setIfInBounds_toArray, List.set_cons_zero, List.set_cons_succ]
          refine wpAnyH_take (i := 5) (v := ?_) (take_list rfl) (by kernel_rfl) (by kernel_rfl) (by kernel_rfl) (fun _ _ _ h => h) (Or.inl ⟨by rfl, ?_⟩) (by assumption) ?_
          rotate_left
          · intro w hSw
            try dsimp only at hSw
            first | (go_simp; done) | (go_simp; with_reducible rfl)
          try simp only [Act.put, List.setIfInBounds_toArray, List.set_cons_zero, List.set_cons_succ]
          refine wpAnyH_take (i := 6) (v := ?_) (take_list rfl) (by kernel_rfl) (by kernel_rfl) (by kernel_rfl) (fun _ _ _ h => h) (Or.inl ⟨by rfl, ?_⟩) (by assumption) ?_
          rotate_left
          · intro w hSw
            try dsimp only at hSw
            first | (go_simp; done) | (go_simp; with_reducible rfl)
          try simp only [Act.put, List.setIfInBounds_toArray, List.set_cons_zero, List.set_cons_succ]
          refine wpAnyH_take (i := 7) (v := ?_) (take_list rfl) (by kernel_rfl) (by kernel_rfl) (by kernel_rfl) (fun _ _ _ h => h) (Or.inl ⟨by rfl, ?_⟩) (by assumption) ?_
          rotate_left
          · intro w hSw
            try dsimp only at hSw
            first | (go_simp; done) | (go_simp; with_reducible rfl)
          try simp only [Act.put, List.setIfInBounds_toArray, List.set_cons_zero, List.set_cons_succ]
          refine wpAnyH_take (i := 8) (v := ?_) (take_list rfl) (by kernel_rfl) (by kernel_rfl) (by kernel_rfl) (fun _ _ _ h => h) (Or.inl ⟨by rfl, ?_⟩) (by assumption) ?_
          rotate_left
          · intro w hSw
            try dsimp only at hSw
            first | (go_simp; done) | (go_simp; with_reducible rfl)
          try simp only [Act.put, List.setIfInBounds_toArray, List.set_cons_zero, List.set_cons_succ]
          refine wpAnyH_take (i := 9) (v := ?_) (take_list rfl) (by kernel_rfl) (by kernel_rfl) (by kernel_rfl) (fun _ _ _ h => h) (Or.inl ⟨by rfl, ?_⟩) (by assumption) ?_
          rotate_left
          · intro w hSw
            try dsimp only at hSw
            first | (go_simp; done) | (go_simp; with_reducible rfl)
          try simp only [Act.put, List.setIfInBounds_toArray, List.set_cons_zero, List.set_cons_succ]
          refine wpAnyH_take (i := 10) (v := ?_) (take_list rfl) (by kernel_rfl) (by kernel_rfl) (by kernel_rfl) (fun _ _ _ h => h) (Or.inl ⟨by rfl, ?_⟩) (by assumption) ?_
          rotate_left
          · intro w hSw
            try dsimp only at hSw
            first | (go_simp; done) | (go_simp; with_reducible rfl)
          try simp only [Act.put, List.setIfInBounds_toArray, List.set_cons_zero, List.set_cons_succ]
          refine wpAnyH_take (i := 11) (v := ?_) (take_list rfl) (by kernel_rfl) (by kernel_rfl) (by kernel_rfl) (fun _ _ _ h => h) (Or.inl ⟨by rfl, ?_⟩) (by assumption) ?_
          rotate_left
          · intro w hSw
            try dsimp only at hSw
            first | (go_simp; done) | (go_simp; with_reducible rfl)
          try simp only [Act.put, List.setIfInBounds_toArray, List.set_cons_zero, List.set_cons_succ]
          refine wpAnyH_take (i := 12) (v := ?_) (take_list rfl) (by kernel_rfl) (by kernel_rfl) (by kernel_rfl) (fun _ _ _ h => h) (Or.inl ⟨by rfl, ?_⟩) (by assumption) ?_
          rotate_left
          · intro w hSw
            try dsimp only at hSw
            first | (go_simp; done) | (go_simp; with_reducible rfl)
          try simp only [Act.put, List.setIfInBounds_toArray, List.set_cons_zero, List.set_cons_succ]
          refine wpAnyH_take (i := 13) (v := ?_) (take_list rfl) (by kernel_rfl) (by kernel_rfl) (by kernel_rfl) (fun _ _ _ h => h) (Or.inl ⟨by rfl, ?_⟩) (by assumption) ?_
          rotate_left
          · intro w hSw
            try dsimp only at hSw
            first | (go_simp; done) | (go_simp; with_reducible rfl)
          try simp only [Act.put, List.setIfInBounds_toArray, List.set_cons_zero, List.set_cons_succ]
          refine wpAnyH_take (i := 14) (v := ?_) (take_list rfl) (by kernel_rfl) (by kernel_rfl) (by kernel_rfl) (fun _ _ _ h => h) (Or.inl ⟨by rfl, ?_⟩) (by assumption) ?_
          rotate_left
          · intro w hSw
            try dsimp only at hSw
            first | (go_simp; done) | (go_simp; with_reducible rfl)
          try simp only [Act.put, List.setIfInBounds_toArray, List.set_cons_zero, List.set_cons_succ]
          refine wpAnyH_take (i := 15) (v := ?_) (take_list rfl) (by kernel_rfl) (by kernel_rfl) (by kernel_rfl) (fun _ _ _ h => h) (Or.inl ⟨by rfl, ?_⟩) (by assumption) ?_
          rotate_left
          · intro w hSw
            try dsimp only at hSw
            first | (go_simp; done) | (go_simp; with_reducible rfl)
          try simp only [Act.put, List.setIfInBounds_toArray, List.set_cons_zero, List.set_cons_succ]
          refine wpAnyH_take (i := 16) (v := ?_) (take_list rfl) (by kernel_rfl) (by kernel_rfl) (by kernel_rfl) (fun _ _ _ h => h) (Or.inl ⟨by rfl, ?_⟩) (by assumption) ?_
          rotate_left
          · intro w hSw
            try dsimp only at hSw
            first | (go_simp; done) | (go_simp; with_reducible rfl)
          try simp only [Act.put, List.setIfInBounds_toArray, List.set_cons_zero, List.set_cons_succ]
          refine wpAnyH_take (i := 17) (v := ?_) (take_list rfl) (by kernel_rfl) (by kernel_rfl) (by kernel_rfl) (fun _ _ _ h => h) (Or.inl ⟨by rfl, ?_⟩) (by assumption) ?_
          rotate_left
          · intro w hSw
            try dsimp only at hSw
            first | (go_simp; done) | (go_simp; with_reducible rfl)
          try simp only [Act.put, List.setIfInBounds_toArray, List.set_cons_zero, List.set_cons_succ]
          refine wpAnyH_take (i := 18) (v := ?_) (take_list rfl) (by kernel_rfl) (by kernel_rfl) (by kernel_rfl) (fun _ _ _ h => h) (Or.inl ⟨by rfl, ?_⟩) (by assumption) ?_
          rotate_left
          · intro w hSw
            try dsimp only at hSw
            first | (go_simp; done) | (go_simp; with_reducible rfl)
          try simp only [Act.put, List.setIfInBounds_toArray, List.set_cons_zero, List.set_cons_succ]
          refine wpAnyH_take (i := 19) (v := ?_) (take_list rfl) (by kernel_rfl) (by kernel_rfl) (by kernel_rfl) (fun _ _ _ h => h) (Or.inl ⟨by rfl, ?_⟩) (by assumption) ?_
          rotate_left
          · intro w hSw
            try dsimp only at hSw
            first | (go_simp; done) | (go_simp; with_reducible rfl)
          try simp only [Act.put, List.setIfInBounds_toArray, List.set_cons_zero, List.set_cons_succ]
          refine wpAnyH_take (i := 20) (v := ?_) (take_list rfl) (by kernel_rfl) (by kernel_rfl) (by kernel_rfl) (fun _ _ _ h => h) (Or.inl ⟨by rfl, ?_⟩) (by assumption) ?_
          rotate_left
          · intro w hSw
            try dsimp only at hSw
            first | (go_simp; done) | (go_simp; with_reducible rfl)
          try simp only [Act.put, List.setIfInBounds_toArray, List.set_cons_zero, List.set_cons_succ]
          refine wpAnyH_take (i := 21) (v := ?_) (take_list rfl) (by kernel_rfl) (by kernel_rfl) (by kernel_rfl) (fun _ _ _ h => h) (Or.inl ⟨by rfl, ?_⟩) (by assumption) ?_
          rotate_left
          · intro w hSw
            try dsimp only at hSw
            first | (go_simp; done) | (go_simp; with_reducible rfl)
          try simp only [Act.put, List.setIfInBounds_toArray, List.set_cons_zero, List.set_cons_succ]
          refine wpAnyH_done (by kernel_rfl) ?_ _
          go_wp2_with (at_builtin; refine wpList_appO _ rfl (.tmp 37) (.tmp 42) _ rfl _ _ 3 24 Try.underlying22 info_sp rfl A1 L1.length c1 (spsV L1) rfl (HP.out.a.row.ext (by repeat (first | exact hbx | apply ext_alloc | apply ext_drew | apply ext_drewN | exact Below.refl _ _))) (some ⟨_, 0, none⟩) 1 1 [.int .i64 sa, .int .i64 sb, .int .i64 sd] rfl rfl (Rd.lit_at _ #[.int .i64 sa, .int .i64 sb, .int .i64 sd] _ (by first | rfl | simp)) (by intro u hu; simp at hu; rcases hu with rfl | rfl | rfl <;> rfl) (by intro h; cases h) (by unfold maxLen; omega) (by omega) ?_; intro A3 c3 w3 hr3 ho3 hA3)
          go_wp2
          go_roundw
          case rel =>
            have hr5 : RowO w3 24 3 A3 (L1 ++ [Sp.mk sa sb sd]).length c3 (spsV (L1 ++ [Sp.mk sa sb sd])) := by rw [spsV_app, List.length_append]; exact hr3
            exact ⟨k + 1, A3, c3, A2, c2, _, _, by omega, by go_num, rfl, rfl, Lib.hid (by rw [HG.out]; simp), Lib.hid (by rw [HS.out]; simp), Lib.hid (by rw [HG.out, HS.out]; exact HP.out.growA (by repeat (first | exact hbx | apply ext_alloc | apply ext_drew | apply ext_drewN | exact Below.refl _ _)) hr5 ho3 hA3)⟩
          case measure => simp [intOf]; omega
        · obtain rfl : false = E := by cases E with | false => rfl | true => exact absurd (hE.1 rfl).2 h2
          clear hE
          have h2d : decide (sd ≤ m - sb) = false := decide_eq_false h2
          go_wp2
          refine wp_region_held_drew (S := fun W => W.cell? ⟨g, o + k * 3, none⟩ = some (.int .i64 sa) ∧ W.cell? ⟨g, o + k * 3 + 1, none⟩ = some (.int .i64 sb) ∧ W.cell? ⟨g, o + k * 3 + 2, none⟩ = some (.int .i64 sd)) (by kernel_rfl) ?_ (fun hHeld => ?_)
          · exact HSS.out _ (by repeat (first | exact hbx | apply ext_alloc | apply ext_drew | apply ext_drewN | exact Below.refl _ _))
          refine wpAnyH_take (i := 0) (v := ?_) (take_list rfl) (by kernel_rfl) (by kernel_rfl) (by kernel_rfl) (fun _ _ _ h => h) (Or.inl ⟨by rfl, ?_⟩) (by assumption) ?_
          rotate_left
          · intro w hSw
            try dsimp only at hSw
            first | (go_simp; done) | (go_simp; with_reducible rfl)
          try simp only [Act.put, List.setIfInBounds_toArray, List.set_cons_zero, List.set_cons_succ]
          refine wpAnyH_take (i := 1) (v := ?_) (take_list rfl) (by kernel_rfl) (by kernel_rfl) (by kernel_rfl) (fun _ _ _ h => h) (Or.inl ⟨by rfl, ?_⟩) (by assumption) ?_
          rotate_left
          · intro w hSw
            try dsimp only at hSw
            first | (go_simp; done) | (go_simp; with_reducible rfl)
          try simp only [Act.put, List.setIfInBounds_toArray, List.set_cons_zero, List.set_cons_succ]
          refine wpAnyH_take (i := 2) (v := ?_) (take_list rfl) (by kernel_rfl) (by kernel_rfl) (by kernel_rfl) (fun _ _ _ h => h) (Or.inl ⟨by rfl, ?_⟩) (by assumption) ?_
          rotate_left
          · intro w hSw
            try dsimp only at hSw
            first | (go_simp; done) | (go_simp; with_reducible rfl)
          try simp only [Act.put, List.setIfInBounds_toArray, List.set_cons_zero, List.set_cons_succ]
          refine wpAnyH_take (i := 3) (v := ?_) (take_list rfl) (by kernel_rfl) (by kernel_rfl) (by kernel_rfl) (fun _ _ _ h => h) (Or.inl ⟨by rfl, ?_⟩) (by assumption) ?_
          rotate_left
          · intro w hSw
            try dsimp only at hSw
            first | (go_simp; done) | (go_simp; with_reducible rfl)
          try simp only [Act.put, List.setIfInBounds_toArray, List.set_cons_zero, List.set_cons_succ]
          refine wpAnyH_take (i := 4) (v := ?_) (take_list rfl) (by kernel_rfl) (by kernel_rfl) (by kernel_rfl) (fun _ _ _ h => h) (Or.inl ⟨by rfl, ?_⟩) (by assumption) ?_
          rotate_left
          · intro w hSw
            try dsimp only at hSw
            first | (go_simp; done) | (go_simp; with_reducible rfl)
          try simp only [Act.put, List.setIfInBounds_toArray, List.set_cons_zero, List.set_cons_succ]
          refine wpAnyH_take (i := 5) (v := ?_) (take_list rfl) (by kernel_rfl) (by kernel_rfl) (by kernel_rfl) (fun _ _ _ h => h) (Or.inl ⟨by rfl, ?_⟩) (by assumption) ?_
          rotate_left
          · intro w hSw
            try dsimp only at hSw
            first | (go_simp; done) | (go_simp; with_reducible rfl)
          try simp only [Act.put, List.setIfInBounds_toArray, List.set_cons_zero, List.set_cons_succ]
          refine wpAnyH_take (i := 6) (v := ?_) (take_list rfl) (by kernel_rfl) (by kernel_rfl) (by kernel_rfl) (fun _ _ _ h => h) (Or.inl ⟨by rfl, ?_⟩) (by assumption) ?_
          rotate_left
          · intro w hSw
            try dsimp only at hSw
            first | (go_simp; done) | (go_simp; with_reducible rfl)
          try simp only [Act.put, List.setIfInBounds_toArray, List.set_cons_zero, List.set_cons_succ]
          refine wpAnyH_take (i := 7) (v := ?_) (take_list rfl) (by kernel_rfl) (by kernel_rfl) (by kernel_rfl) (fun _ _ _ h => h) (Or.inl ⟨by rfl, ?_⟩) (by assumption) ?_
          rotate_left
          · intro w hSw
            try dsimp only at hSw
            first | (go_simp; done) | (go_simp; with_reducible rfl)
          try simp only [Act.put, List.setIfInBounds_toArray, List.set_cons_zero, List.set_cons_succ]
          refine wpAnyH_take (i := 8) (v := ?_) (take_list rfl) (by kernel_rfl) (by kernel_rfl) (by kernel_rfl) (fun _ _ _ h => h) (Or.inl ⟨by rfl, ?_⟩) (by assumption) ?_
          rotate_left
          · intro w hSw
            try dsimp only at hSw
            first | (go_simp; done) | (go_simp; with_reducible rfl)
          try simp only [Act.put, List.setIfInBounds_toArray, List.set_cons_zero, List.set_cons_succ]
          refine wpAnyH_take (i := 9) (v := ?_) (take_list rfl) (by kernel_rfl) (by kernel_rfl) (by kernel_rfl) (fun _ _ _ h => h) (Or.inl ⟨by rfl, ?_⟩) (by assumption) ?_
          rotate_left
          · intro w hSw
            try dsimp only at hSw
            first | (go_simp; done) | (go_simp; with_reducible rfl)
          try simp only [Act.put, List.setIfInBounds_toArray, List.set_cons_zero, List.set_cons_succ]
          refine wpAnyH_take (i := 10) (v := ?_) (take_list rfl) (by kernel_rfl) (by kernel_rfl) (by kernel_rfl) (fun _ _ _ h => h) (Or.inl ⟨by rfl, ?_⟩) (by assumption) ?_
          rotate_left
          · intro w hSw
            try dsimp only at hSw
            first | (go_simp; done) | (go_simp; with_reducible rfl)
          try simp only [Act.put, List.setIfInBounds_toArray, List.set_cons_zero, List.set_cons_succ]
          refine wpAnyH_take (i := 11) (v := ?_) (take_list rfl) (by kernel_rfl) (by kernel_rfl) (by kernel_rfl) (fun _ _ _ h => h) (Or.inl ⟨by rfl, ?_⟩) (by assumption) ?_
          rotate_left
          · intro w hSw
            try dsimp only at hSw
            first | (go_simp; done) | (go_simp; with_reducible rfl)
          try simp only [Act.put, List.setIfInBounds_toArray, List.set_cons_zero, List.set_cons_succ]
          refine wpAnyH_take (i := 12) (v := ?_) (take_list rfl) (by kernel_rfl) (by kernel_rfl) (by kernel_rfl) (fun _ _ _ h => h) (Or.inl ⟨by rfl, ?_⟩) (by assumption) ?_
          rotate_left
          · intro w hSw
            try dsimp only at hSw
            first | (go_simp; done) | (go_simp; with_reducible rfl)
          try simp only [Act.put, List.setIfInBounds_toArray, List.set_cons_zero, List.set_cons_succ]
          refine wpAnyH_take (i := 13) (v := ?_) (take_list rfl) (by kernel_rfl) (by kernel_rfl) (by kernel_rfl) (fun _ _ _ h => h) (Or.inl ⟨by rfl, ?_⟩) (by assumption) ?_
          rotate_left
          · intro w hSw
            try dsimp only at hSw
            first | (go_simp; done) | (go_simp; with_reducible rfl)
          try simp only [Act.put, List.setIfInBounds_toArray, List.set_cons_zero, List.set_cons_succ]
          refine wpAnyH_take (i := 14) (v := ?_) (take_list rfl) (by kernel_rfl) (by kernel_rfl) (by kernel_rfl) (fun _ _ _ h => h) (Or.inl ⟨by rfl, ?_⟩) (by assumption) ?_
          rotate_left
          · intro w hSw
            try dsimp only at hSw
            first | (go_simp; done) | (go_simp; with_reducible rfl)
          try simp only [Act.put, List.setIfInBounds_toArray, List.set_cons_zero, List.set_cons_succ]
          refine wpAnyH_take (i := 15) (v := ?_) (take_list rfl) (by kernel_rfl) (by kernel_rfl) (by kernel_rfl) (fun _ _ _ h => h) (Or.inl ⟨by rfl, ?_⟩) (by assumption) ?_
          rotate_left
          · intro w hSw
            try dsimp only at hSw
            first | (go_simp; done) | (go_simp; with_reducible rfl)
          try simp only [Act.put, List.setIfInBounds_toArray, List.set_cons_zero, List.set_cons_succ]
          refine wpAnyH_take (i := 16) (v := ?_) (take_list rfl) (by kernel_rfl) (by kernel_rfl) (by kernel_rfl) (fun _ _ _ h => h) (Or.inl ⟨by rfl, ?_⟩) (by assumption) ?_
          rotate_left
          · intro w hSw
            try dsimp only at hSw
            first | (go_simp; done) | (go_simp; with_reducible rfl)
          try simp only [Act.put, List.setIfInBounds_toArray, List.set_cons_zero, List.set_cons_succ]
          refine wpAnyH_take (i := 17) (v := ?_) (take_list rfl) (by kernel_rfl) (by kernel_rfl) (by kernel_rfl) (fun _ _ _ h => h) (Or.inl ⟨by rfl, ?_⟩) (by assumption) ?_
          rotate_left
          · intro w hSw
            try dsimp only at hSw
            first | (go_simp; done) | (go_simp; with_reducible rfl)
          try simp only [Act.put, List.setIfInBounds_toArray, List.set_cons_zero, List.set_cons_succ]
          refine wpAnyH_take (i := 18) (v := ?_) (take_list rfl) (by kernel_rfl) (by kernel_rfl) (by kernel_rfl) (fun _ _ _ h => h) (Or.inl ⟨by rfl, ?_⟩) (by assumption) ?_
          rotate_left
          · intro w hSw
            try dsimp only at hSw
            first | (go_simp; done) | (go_simp; with_reducible rfl)
          try simp only [Act.put, List.setIfInBounds_toArray, List.set_cons_zero, List.set_cons_succ]
          refine wpAnyH_take (i := 19) (v := ?_) (take_list rfl) (by kernel_rfl) (by kernel_rfl) (by kernel_rfl) (fun _ _ _ h => h) (Or.inl ⟨by rfl, ?_⟩) (by assumption) ?_
          rotate_left
          · intro w hSw
            try dsimp only at hSw
            first | (go_simp; done) | (go_simp; with_reducible rfl)
          try simp only [Act.put, List.setIfInBounds_toArray, List.set_cons_zero, List.set_cons_succ]
          refine wpAnyH_take (i := 20) (v := ?_) (take_list rfl) (by kernel_rfl) (by kernel_rfl) (by kernel_rfl) (fun _ _ _ h => h) (Or.inl ⟨by rfl, ?_⟩) (by assumption) ?_
          rotate_left
          · intro w hSw
            try dsimp only at hSw
            first | (go_simp; done) | (go_simp; with_reducible rfl)
          try simp only [Act.put, List.setIfInBounds_toArray, List.set_cons_zero, List.set_cons_succ]
          refine wpAnyH_take (i := 21) (v := ?_) (take_list rfl) (by kernel_rfl) (by kernel_rfl) (by kernel_rfl) (fun _ _ _ h => h) (Or.inl ⟨by rfl, ?_⟩) (by assumption) ?_
          rotate_left
          · intro w hSw
            try dsimp only at hSw
            first | (go_simp; done) | (go_simp; with_reducible rfl)
          try simp only [Act.put, List.setIfInBounds_toArray, List.set_cons_zero, List.set_cons_succ]
          refine wpAnyH_done (by kernel_rfl) ?_ _
          go_wp2_with (at_builtin; refine wpList_appO _ rfl (.tmp 44) (.tmp 49) _ rfl _ _ 3 24 Try.underlying22 info_sp rfl A2 L2.length c2 (spsV L2) rfl (HP.out.b.row.ext (by repeat (first | exact hbx | apply ext_alloc | apply ext_drew | apply ext_drewN | exact Below.refl _ _))) (some ⟨_, 0, none⟩) 1 1 [.int .i64 sa, .int .i64 sb, .int .i64 sd] rfl rfl (Rd.lit_at _ #[.int .i64 sa, .int .i64 sb, .int .i64 sd] _ (by first | rfl | simp)) (by intro u hu; simp at hu; rcases hu with rfl | rfl | rfl <;> rfl) (by intro h; cases h) (by unfold maxLen; omega) (by omega) ?_; intro A3 c3 w3 hr3 ho3 hA3)
          go_wp2
          go_roundw
          case rel =>
            have hr5 : RowO w3 24 3 A3 (L2 ++ [Sp.mk sa sb sd]).length c3 (spsV (L2 ++ [Sp.mk sa sb sd])) := by rw [spsV_app, List.length_append]; exact hr3
            exact ⟨k + 1, A1, c1, A3, c3, _, _, by omega, by go_num, rfl, rfl, Lib.hid (by rw [HG.out]; simp), Lib.hid (by rw [HS.out]; simp), Lib.hid (by rw [HG.out, HS.out]; exact (HP.out.swap.growA (by repeat (first | exact hbx | apply ext_alloc | apply ext_drew | apply ext_drewN | exact Below.refl _ _)) hr5 ho3 hA3).swap)⟩
          case measure => simp [intOf]; omega
      · obtain rfl : false = E := by cases E with | false => rfl | true => exact absurd (hE.1 rfl).1 h1
        clear hE
        have h1d : decide (sb ≤ m) = false := decide_eq_false h1
        go_wp2
        refine wp_region_held_drew (S := fun W => W.cell? ⟨g, o + k * 3, none⟩ = some (.int .i64 sa) ∧ W.cell? ⟨g, o + k * 3 + 1, none⟩ = some (.int .i64 sb) ∧ W.cell? ⟨g, o + k * 3 + 2, none⟩ = some (.int .i64 sd)) (by kernel_rfl) ?_ (fun hHeld => ?_)
        · exact HSS.out _ (by repeat (first | exact hbx | apply ext_alloc | apply ext_drew | apply ext_drewN | exact Below.refl _ _))
        refine wpAnyH_take (i := 0) (v := ?_) (take_list rfl) (by kernel_rfl) (by kernel_rfl) (by kernel_rfl) (fun _ _ _ h => h) (Or.inl ⟨by rfl, ?_⟩) (by assumption) ?_
        rotate_left
        · intro w hSw
          try dsimp only at hSw
          first | (go_simp; done) | (go_simp; with_reducible rfl)
        try simp only [Act.put, List.setIfInBounds_toArray, List.set_cons_zero, List.set_cons_succ]
        refine wpAnyH_take (i := 1) (v := ?_) (take_list rfl) (by kernel_rfl) (by kernel_rfl) (by kernel_rfl) (fun _ _ _ h => h) (Or.inl ⟨by rfl, ?_⟩) (by assumption) ?_
        rotate_left
        · intro w hSw
          try dsimp only at hSw
          first | (go_simp; done) | (go_simp; with_reducible rfl)
        try simp only [Act.put, List.setIfInBounds_toArray, List.set_cons_zero, List.set_cons_succ]
        refine wpAnyH_take (i := 2) (v := ?_) (take_list rfl) (by kernel_rfl) (by kernel_rfl) (by kernel_rfl) (fun _ _ _ h => h) (Or.inl ⟨by rfl, ?_⟩) (by assumption) ?_
        rotate_left
        · intro w hSw
          try dsimp only at hSw
          first | (go_simp; done) | (go_simp; with_reducible rfl)
        try simp only [Act.put, List.setIfInBounds_toArray, List.set_cons_zero, List.set_cons_succ]
        refine wpAnyH_take (i := 3) (v := ?_) (take_list rfl) (by kernel_rfl) (by kernel_rfl) (by kernel_rfl) (fun _ _ _ h => h) (Or.inl ⟨by rfl, ?_⟩) (by assumption) ?_
        rotate_left
        · intro w hSw
          try dsimp only at hSw
          first | (go_simp; done) | (go_simp; with_reducible rfl)
        try simp only [Act.put, List.setIfInBounds_toArray, List.set_cons_zero, List.set_cons_succ]
        refine wpAnyH_take (i := 4) (v := ?_) (take_list rfl) (by kernel_rfl) (by kernel_rfl) (by kernel_rfl) (fun _ _ _ h => h) (Or.inl ⟨by rfl, ?_⟩) (by assumption) ?_
        rotate_left
        · intro w hSw
          try dsimp only at hSw
          first | (go_simp; done) | (go_simp; with_reducible rfl)
        try simp only [Act.put, List.setIfInBounds_toArray, List.set_cons_zero, List.set_cons_succ]
        refine wpAnyH_take (i := 5) (v := ?_) (take_list rfl) (by kernel_rfl) (by kernel_rfl) (by kernel_rfl) (fun _ _ _ h => h) (Or.inl ⟨by rfl, ?_⟩) (by assumption) ?_
        rotate_left
        · intro w hSw
          try dsimp only at hSw
          first | (go_simp; done) | (go_simp; with_reducible rfl)
        try simp only [Act.put, List.setIfInBounds_toArray, List.set_cons_zero, List.set_cons_succ]
        refine wpAnyH_take (i := 6) (v := ?_) (take_list rfl) (by kernel_rfl) (by kernel_rfl) (by kernel_rfl) (fun _ _ _ h => h) (Or.inl ⟨by rfl, ?_⟩) (by assumption) ?_
        rotate_left
        · intro w hSw
          try dsimp only at hSw
          first | (go_simp; done) | (go_simp; with_reducible rfl)
        try simp only [Act.put, List.setIfInBounds_toArray, List.set_cons_zero, List.set_cons_succ]
        refine wpAnyH_take (i := 7) (v := ?_) (take_list rfl) (by kernel_rfl) (by kernel_rfl) (by kernel_rfl) (fun _ _ _ h => h) (Or.inl ⟨by rfl, ?_⟩) (by assumption) ?_
        rotate_left
        · intro w hSw
          try dsimp only at hSw
          first | (go_simp; done) | (go_simp; with_reducible rfl)
        try simp only [Act.put, List.setIfInBounds_toArray, List.set_cons_zero, List.set_cons_succ]
        refine wpAnyH_take (i := 8) (v := undef) (take_list rfl) (by kernel_rfl) (by kernel_rfl) (by kernel_rfl) (fun _ _ _ h => h) (Or.inr ⟨by rfl, rfl⟩) (by assumption) ?_
        try simp only [Act.put, List.setIfInBounds_toArray, List.set_cons_zero, List.set_cons_succ]
        refine wpAnyH_take (i := 9) (v := undef) (take_list rfl) (by kernel_rfl) (by kernel_rfl) (by kernel_rfl) (fun _ _ _ h => h) (Or.inr ⟨by rfl, rfl⟩) (by assumption) ?_
        try simp only [Act.put, List.setIfInBounds_toArray, List.set_cons_zero, List.set_cons_succ]
        refine wpAnyH_take (i := 10) (v := undef) (take_list rfl) (by kernel_rfl) (by kernel_rfl) (by kernel_rfl) (fun _ _ _ h => h) (Or.inr ⟨by rfl, rfl⟩) (by assumption) ?_
        try simp only [Act.put, List.setIfInBounds_toArray, List.set_cons_zero, List.set_cons_succ]
        refine wpAnyH_take (i := 11) (v := undef) (take_list rfl) (by kernel_rfl) (by kernel_rfl) (by kernel_rfl) (fun _ _ _ h => h) (Or.inr ⟨by rfl, rfl⟩) (by assumption) ?_
        try simp only [Act.put, List.setIfInBounds_toArray, List.set_cons_zero, List.set_cons_succ]
        refine wpAnyH_take (i := 12) (v := undef) (take_list rfl) (by kernel_rfl) (by kernel_rfl) (by kernel_rfl) (fun _ _ _ h => h) (Or.inr ⟨by rfl, rfl⟩) (by assumption) ?_
        try simp only [Act.put, List.setIfInBounds_toArray, List.set_cons_zero, List.set_cons_succ]
        refine wpAnyH_take (i := 13) (v := undef) (take_list rfl) (by kernel_rfl) (by kernel_rfl) (by kernel_rfl) (fun _ _ _ h => h) (Or.inr ⟨by rfl, rfl⟩) (by assumption) ?_
        try simp only [Act.put, List.setIfInBounds_toArray, List.set_cons_zero, List.set_cons_succ]
        refine wpAnyH_take (i := 14) (v := undef) (take_list rfl) (by kernel_rfl) (by kernel_rfl) (by kernel_rfl) (fun _ _ _ h => h) (Or.inr ⟨by rfl, rfl⟩) (by assumption) ?_
        try simp only [Act.put, List.setIfInBounds_toArray, List.set_cons_zero, List.set_cons_succ]
        refine wpAnyH_take (i := 15) (v := undef) (take_list rfl) (by kernel_rfl) (by kernel_rfl) (by kernel_rfl) (fun _ _ _ h => h) (Or.inr ⟨by rfl, rfl⟩) (by assumption) ?_
        try simp only [Act.put, List.setIfInBounds_toArray, List.set_cons_zero, List.set_cons_succ]
        refine wpAnyH_take (i := 16) (v := undef) (take_list rfl) (by kernel_rfl) (by kernel_rfl) (by kernel_rfl) (fun _ _ _ h => h) (Or.inr ⟨by rfl, rfl⟩) (by assumption) ?_
        try simp only [Act.put, List.setIfInBounds_toArray, List.set_cons_zero, List.set_cons_succ]
        refine wpAnyH_take (i := 17) (v := undef) (take_list rfl) (by kernel_rfl) (by kernel_rfl) (by kernel_rfl) (fun _ _ _ h => h) (Or.inr ⟨by rfl, rfl⟩) (by assumption) ?_
        try simp only [Act.put, List.setIfInBounds_toArray, List.set_cons_zero, List.set_cons_succ]
        refine wpAnyH_take (i := 18) (v := undef) (take_list rfl) (by kernel_rfl) (by kernel_rfl) (by kernel_rfl) (fun _ _ _ h => h) (Or.inr ⟨by rfl, rfl⟩) (by assumption) ?_
        try simp only [Act.put, List.setIfInBounds_toArray, List.set_cons_zero, List.set_cons_succ]
        refine wpAnyH_take (i := 19) (v := undef) (take_list rfl) (by kernel_rfl) (by kernel_rfl) (by kernel_rfl) (fun _ _ _ h => h) (Or.inr ⟨by rfl, rfl⟩) (by assumption) ?_
        try simp only [Act.put, List.setIfInBounds_toArray, List.set_cons_zero, List.set_cons_succ]
        refine wpAnyH_take (i := 20) (v := undef) (take_list rfl) (by kernel_rfl) (by kernel_rfl) (by kernel_rfl) (fun _ _ _ h => h) (Or.inr ⟨by rfl, rfl⟩) (by assumption) ?_
        try simp only [Act.put, List.setIfInBounds_toArray, List.set_cons_zero, List.set_cons_succ]
        refine wpAnyH_take (i := 21) (v := ?_) (take_list rfl) (by kernel_rfl) (by kernel_rfl) (by kernel_rfl) (fun _ _ _ h => h) (Or.inl ⟨by rfl, ?_⟩) (by assumption) ?_
        rotate_left
        · intro w hSw
          try dsimp only at hSw
          first | (go_simp; done) | (go_simp; with_reducible rfl)
        try simp only [Act.put, List.setIfInBounds_toArray, List.set_cons_zero, List.set_cons_succ]
        refine wpAnyH_done (by kernel_rfl) ?_ _
        go_wp2_with (at_builtin; refine wpList_appO _ rfl (.tmp 44) (.tmp 49) _ rfl _ _ 3 24 Try.underlying22 info_sp rfl A2 L2.length c2 (spsV L2) rfl (HP.out.b.row.ext (by repeat (first | exact hbx | apply ext_alloc | apply ext_drew | apply ext_drewN | exact Below.refl _ _))) (some ⟨_, 0, none⟩) 1 1 [.int .i64 sa, .int .i64 sb, .int .i64 sd] rfl rfl (Rd.lit_at _ #[.int .i64 sa, .int .i64 sb, .int .i64 sd] _ (by first | rfl | simp)) (by intro u hu; simp at hu; rcases hu with rfl | rfl | rfl <;> rfl) (by intro h; cases h) (by unfold maxLen; omega) (by omega) ?_; intro A3 c3 w3 hr3 ho3 hA3)
        go_wp2
        go_roundw
        case rel =>
          have hr5 : RowO w3 24 3 A3 (L2 ++ [Sp.mk sa sb sd]).length c3 (spsV (L2 ++ [Sp.mk sa sb sd])) := by rw [spsV_app, List.length_append]; exact hr3
          exact ⟨k + 1, A1, c1, A3, c3, _, _, by omega, by go_num, rfl, rfl, Lib.hid (by rw [HG.out]; simp), Lib.hid (by rw [HS.out]; simp), Lib.hid (by rw [HG.out, HS.out]; exact (HP.out.swap.growA (by repeat (first | exact hbx | apply ext_alloc | apply ext_drew | apply ext_drewN | exact Below.refl _ _)) hr5 ho3 hA3).swap)⟩
        case measure => simp [intOf]; omega
    · obtain rfl : k = l.length := by omega
      obtain rfl : n1 = (goneTo l m l.length).length := HN1.out
      obtain rfl : n2 = (stayTo l m l.length).length := HN2.out
      go_wp2
      go_ret2
      exact ⟨A1, c1, A2, c2, rfl, HP.out⟩
end Go.Proofs.Ythomhhnioadpmaa
