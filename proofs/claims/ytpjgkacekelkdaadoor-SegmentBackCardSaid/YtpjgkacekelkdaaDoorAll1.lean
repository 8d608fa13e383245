/-
  Texts of this claim, joined (part 1): contracts and lemmas that the last text goes by. No statement of the seat is proved here.
-/
import Derived.Test.YtpjgkacekelkdaaDoorAll0
import Derived.Deep.MidRow
import Derived.Deep.AppendSrc
import Derived.Test.YtpjgkacekelkdaaDoorRows
import Derived.Laws.IdiomStrings
import Derived.Lib.BufferRead
set_option linter.unusedVariables false
set_option linter.unusedSimpArgs false
/-
  Rows of numbers read back; which is the shortest: mathematics. No statement of the seat is proved here.
-/
namespace Go.Proofs.YtpjgkacekelkdaaDoor
open Go Go.RowKit
set_option maxRecDepth 100000

/-! ### sums of folded differences, as they wrap -/
def addK (l : List Int) : Nat → Int
  | 0 => 0
  | k + 1 => IntKind.i64.wrap (addK l k + unfP (l.getD k 0))
def addedTo (l : List Int) (k : Nat) : List Int := (List.range k).map fun j => addK l (j + 1)
def addedP (l : List Int) : List Int := addedTo l l.length
theorem addedTo_len (l : List Int) (k : Nat) : (addedTo l k).length = k := by simp [addedTo]
theorem addedTo_succ (l : List Int) (k : Nat) : addedTo l (k + 1) = addedTo l k ++ [addK l (k + 1)] := by
  unfold addedTo
  rw [List.range_succ, List.map_append]
  rfl
theorem addK_deltas {l : List Int} (hm : ∀ v ∈ l, 0 ≤ v ∧ v ≤ 1099511627776) : ∀ k, k ≤ l.length → addK (deltasP l) k = if k = 0 then 0 else l.getD (k - 1) 0
  | 0, _ => rfl
  | k + 1, hk => by
    have ih := addK_deltas hm k (by omega)
    have e : (deltasP l).getD k 0 = foldP (l.getD k 0 - prevP l k) := by
      rw [List.getD_eq_getElem?_getD, deltasP, deltasTo_get l l.length k (by omega)]
      rfl
    have h1 := hm _ (getD_mem (k := k) (l := l) (by omega))
    have e2 : addK (deltasP l) k + unfP ((deltasP l).getD k 0) = l.getD k 0 := by
      rw [e, unf_fold, ih]
      unfold prevP
      omega
    rw [addK, e2, if_neg (by omega), Nat.add_sub_cancel]
    exact IntWalk.i64_in _ (by omega)
theorem added_deltas {l : List Int} (hm : ∀ v ∈ l, 0 ≤ v ∧ v ≤ 1099511627776) : addedP (deltasP l) = l := by
  unfold addedP addedTo
  rw [show (deltasP l).length = l.length from deltasTo_len l l.length]
  refine List.ext_getElem (by simp) fun j h1 h2 => ?_
  rw [List.getElem_map, List.getElem_range, addK_deltas hm (j + 1) (show j + 1 ≤ l.length from h2), if_neg (by omega), Nat.add_sub_cancel, List.getD_eq_getElem?_getD, List.getElem?_eq_getElem h2]
  rfl
theorem addK_bounds (l : List Int) (k : Nat) : -9223372036854775808 ≤ addK l k ∧ addK l k ≤ 9223372036854775807 := by
  cases k with
  | zero => simp [addK]
  | succ k => rw [addK, IntKind.wrap_i64]; omega

theorem snoc_ind {α : Type} {P : List α → Prop} (h0 : P []) (h1 : ∀ l a, P l → P (l ++ [a])) (l : List α) : P l := by
  rw [← List.reverse_reverse l]
  induction l.reverse with
  | nil => exact h0
  | cons a r ih => rw [List.reverse_cons]; exact h1 _ _ ih

/-! ### rows of alike ones, as far as may be and one more -/
def spreadP (rs : List (Nat × Nat)) : List Int := rs.foldl (fun l r => l ++ List.replicate (min r.1 (32769 - l.length)) ((r.2 : Nat) : Int)) []
theorem spread_snoc (rs : List (Nat × Nat)) (r : Nat × Nat) : spreadP (rs ++ [r]) = spreadP rs ++ List.replicate (min r.1 (32769 - (spreadP rs).length)) ((r.2 : Nat) : Int) := by
  unfold spreadP
  rw [List.foldl_append]
  rfl
theorem spread_len (rs : List (Nat × Nat)) : (spreadP rs).length ≤ 32769 := by
  induction rs using snoc_ind with
  | h0 => simp [spreadP]
  | h1 rs r ih => rw [spread_snoc, List.length_append, List.length_replicate]; omega
theorem exp_len_append (a b : List (Nat × Int)) : (expP (a ++ b)).length = (expP a).length + (expP b).length := by simp [expP]
theorem exp_append (a b : List (Nat × Int)) : expP (a ++ b) = expP a ++ expP b := by simp [expP]
theorem spread_exp (rs : List (Nat × Int)) (h : (expP rs).length ≤ 32768) (hm : ∀ r ∈ rs, 0 ≤ r.2 ∧ r.2 ≤ 4611686018427387904) : spreadP (rs.map fun p => (clamp (p.1 : Int), clamp p.2)) = expP rs := by
  induction rs using snoc_ind with
  | h0 => rfl
  | h1 rs r ih =>
    have h0 := exp_len_append rs [r]
    have h1 : (expP [r]).length = r.1 := by simp [expP]
    have h2 := hm r (by simp)
    rw [List.map_append, List.map_cons, List.map_nil, spread_snoc, ih (by omega) fun q hq => hm q (List.mem_append_left _ hq), exp_append]
    congr 1
    have h3 : clamp (r.1 : Int) = r.1 := by unfold clamp; omega
    have h4 : (clamp r.2 : Int) = r.2 := clamp_le' h2.1 h2.2
    simp only [h3, h4]
    rw [Nat.min_eq_left (by omega)]
    simp [expP]

/-! ### what is decoded -/
def AreW (w : Nat) (b : List UInt8) (l : List Int) : Prop := w ≤ 2 ∧ mayP l = true ∧ encP w l = b
open Classical in
noncomputable def decP (b : List UInt8) : Option (List Int) := if h : ∃ l, ∃ w, AreW w b l then some (Classical.choose h) else none
/-- how many there are said to be -/
def sizP : Nat → List Int → Nat
  | 0, l => l.length
  | 1, l => l.length
  | _, l => (runsP l).length
/-- what lies behind -/
def tailP : Nat → List Int → List UInt8
  | 0, l => numsB l
  | 1, l => numsB (deltasP l)
  | _, l => pairsB (runsP l)
theorem enc_eq : ∀ {w : Nat} (l : List Int), w ≤ 2 → encP w l = dig w ++ (dig (clamp (sizP w l : Int)) ++ tailP w l)
  | 0, l, _ => by simp [encP, plainP, numsB_cons, numsB_nil, sizP, tailP]; rfl
  | 1, l, _ => by simp [encP, deltaP, numsB_cons, numsB_nil, sizP, tailP]; rfl
  | 2, l, _ => by simp [encP, runsB, numsB_cons, numsB_nil, sizP, tailP]; rfl
  | w + 3, _, h => by omega
theorem siz_le {w : Nat} {l : List Int} (h : mayP l = true) : sizP w l ≤ 32768 := by
  have h1 := ((mayP_iff l).1 h).1
  have h2 := runsTo_len l l.length
  rcases w with _ | _ | w
  · exact h1
  · exact h1
  · show (runsTo l l.length).length ≤ _
    omega
theorem enc_way {w : Nat} {l : List Int} (hw : w ≤ 2) : stNum (encP w l) false = (w, dig (clamp (sizP w l : Int)) ++ tailP w l, false) := by
  rw [enc_eq l hw]
  exact stNum_dig _ _ (by omega)
theorem enc_size {w : Nat} {l : List Int} (hw : w ≤ 2) (h : mayP l = true) : stNum (stNum (encP w l) false).2.1 (stNum (encP w l) false).2.2 = (sizP w l, tailP w l, false) := by
  rw [enc_way hw]
  have h1 := siz_le (w := w) h
  have h2 : clamp (sizP w l : Int) = sizP w l := by unfold clamp; omega
  rw [h2]
  exact stNum_dig _ _ (by omega)
/-- numbers, as the program takes them: as many as there are said to be, as far as they are there -/
def takenP (b : List UInt8) (bad : Bool) : List Int := ((takeN (min (stNum b bad).1 32769) (stNum b bad).2.1 (stNum b bad).2.2).1).map fun n : Nat => (n : Int)
def spreadB (b : List UInt8) (bad : Bool) : List Int := spreadP (takeQ (stNum b bad).1 (stNum b bad).2.1 (stNum b bad).2.2).1
def rdP : Nat → List UInt8 → Bool → List Int
  | 0, b, bad => takenP b bad
  | 1, b, bad => addedP (takenP b bad)
  | _, b, bad => spreadB b bad
theorem taken_nums {n : Nat} {b r : List UInt8} {l : List Int} (hs : stNum b false = (l.length, numsB l, false)) (hl : l.length ≤ 32768) (hm : ∀ v ∈ l, 0 ≤ v ∧ v ≤ 4611686018427387904) : takenP b false = l := by
  unfold takenP
  rw [hs]
  show ((takeN (min l.length 32769) (numsB l) false).1).map _ = l
  have e := takeN_nums l []
  rw [List.append_nil] at e
  rw [Nat.min_eq_left (by omega), e]
  exact map_clamp hm
theorem rd_enc {w : Nat} {l : List Int} (hw : w ≤ 2) (h : mayP l = true) : rdP w (stNum (encP w l) false).2.1 (stNum (encP w l) false).2.2 = l := by
  have hs := enc_size hw h
  obtain ⟨hl, hm⟩ := (mayP_iff l).1 h
  generalize (stNum (encP w l) false).2.1 = r at hs ⊢
  have hb : (stNum (encP w l) false).2.2 = false := by rw [enc_way hw]
  rw [hb] at hs ⊢
  have hd := deltasTo_len l l.length
  rcases w with _ | _ | _ | w
  · exact taken_nums (n := 0) (r := []) hs hl fun v hv => by have := hm v hv; omega
  · show addedP (takenP r false) = l
    rw [taken_nums (n := 0) (r := []) (l := deltasP l) (by rw [hs]; show (l.length, numsB (deltasP l), false) = _; rw [show (deltasP l).length = l.length from hd]) (by rw [show (deltasP l).length = l.length from hd]; exact hl) fun v hv => by have := deltasP_ok hm v hv; omega]
    exact added_deltas hm
  · show spreadP (takeQ _ _ _).1 = l
    rw [hs]
    have e := takeQ_pairs (runsP l) []
    rw [List.append_nil] at e
    show spreadP (takeQ (runsP l).length (pairsB (runsP l)) false).1 = l
    rw [e, spread_exp _ (by rw [exp_runs]; exact hl) fun q hq => ?_]
    · exact exp_runs l
    · have := hm _ (runsTo_mem l _ (Nat.le_refl _) q hq).2.2
      omega
  · omega
theorem way_one {w v : Nat} {b : List UInt8} {l m : List Int} (h1 : AreW w b l) (h2 : AreW v b m) : w = v ∧ l = m := by
  obtain ⟨hw, hl, e⟩ := h1
  obtain ⟨hv, hm, f⟩ := h2
  have e1 : w = v := by
    have a1 := enc_way (l := l) hw
    have a2 := enc_way (l := m) hv
    rw [e] at a1
    rw [f, a1] at a2
    exact (Prod.mk.inj a2).1
  subst e1
  refine ⟨rfl, ?_⟩
  have a1 := rd_enc hw hl
  have a2 := rd_enc hw hm
  rw [e] at a1
  rw [f, a1] at a2
  exact a2
theorem dec_some {w : Nat} {b : List UInt8} {l : List Int} (h : AreW w b l) : decP b = some l := by
  have hx : ∃ l, ∃ w, AreW w b l := ⟨l, w, h⟩
  unfold decP
  rw [dif_pos hx]
  obtain ⟨v, hv⟩ := Classical.choose_spec hx
  rw [(way_one hv h).2]
theorem dec_enc {w : Nat} {l : List Int} (hw : w ≤ 2) (h : mayP l = true) : decP (encP w l) = some l := dec_some ⟨hw, h, rfl⟩
theorem dec_none {b : List UInt8} (h : ∀ l w, ¬AreW w b l) : decP b = none := by
  unfold decP
  rw [dif_neg fun ⟨l, w, hx⟩ => h l w hx]
/-- whatever is taken: what is laid as just these bytes is what they are -/
theorem dec_of {b : List UInt8} (l : List Int) (hw : (stNum b false).1 ≤ 2) (h : ∀ m, AreW (stNum b false).1 b m → l = m) : decP b = if mayP l = true ∧ encP (stNum b false).1 l = b then some l else none := by
  by_cases hx : mayP l = true ∧ encP (stNum b false).1 l = b
  · rw [if_pos hx]
    exact dec_some ⟨hw, hx⟩
  · rw [if_neg hx]
    refine dec_none fun m w ha => hx ?_
    have e : w = (stNum b false).1 := by
      rw [← ha.2.2, enc_way ha.1]
    subst e
    rw [h m ha]
    exact ha.2
theorem dec_way {b : List UInt8} (hw : 2 < (stNum b false).1) : decP b = none := dec_none fun l w ha => by
  have e : w = (stNum b false).1 := by rw [← ha.2.2, enc_way ha.1]
  have := ha.1
  omega
theorem dec_rd {b : List UInt8} (hw : (stNum b false).1 ≤ 2) : decP b = if mayP (rdP (stNum b false).1 (stNum b false).2.1 (stNum b false).2.2) = true ∧ encP (stNum b false).1 (rdP (stNum b false).1 (stNum b false).2.1 (stNum b false).2.2) = b then some (rdP (stNum b false).1 (stNum b false).2.1 (stNum b false).2.2) else none :=
  dec_of _ hw fun m ha => by
    have e := rd_enc ha.1 ha.2.1
    rw [ha.2.2] at e
    exact e
theorem dec_may {b : List UInt8} {l : List Int} (h : decP b = some l) : mayP l = true := by
  unfold decP at h
  split at h
  · rename_i hx
    obtain ⟨w, hw⟩ := Classical.choose_spec hx
    injection h with h
    rw [← h]
    exact hw.2.1
  · cases h

/-! ### the reference's way of reading: all that is there -/
def takeA : Nat → List UInt8 → Bool → List Nat × List UInt8 × Bool
  | 0, bs, bad => ([], bs, bad)
  | k + 1, bs, bad => if bad = true ∨ bs = [] then ([], bs, bad) else
    ((stNum bs bad).1 :: (takeA k (stNum bs bad).2.1 (stNum bs bad).2.2).1, (takeA k (stNum bs bad).2.1 (stNum bs bad).2.2).2)
theorem takeA_end (k : Nat) {bs : List UInt8} {bad : Bool} (h : bad = true ∨ bs = []) : takeA k bs bad = ([], bs, bad) := by
  cases k with
  | zero => rfl
  | succ k => rw [takeA, if_pos h]
theorem takeA_succ (k : Nat) {bs : List UInt8} (h : bs ≠ []) : takeA (k + 1) bs false = ((stNum bs false).1 :: (takeA k (stNum bs false).2.1 (stNum bs false).2.2).1, (takeA k (stNum bs false).2.1 (stNum bs false).2.2).2) := by
  rw [takeA, if_neg (by simp [h])]
theorem dig_pos' (n : Nat) : dig n ≠ [] := by
  unfold dig
  split <;> simp
theorem takeA_nums : ∀ (l : List Int) (k : Nat), l.length ≤ k → takeA k (numsB l) false = (l.map clamp, [], false)
  | [], k, _ => by rw [numsB_nil, takeA_end k (.inr rfl)]; rfl
  | v :: l, 0, h => by simp at h
  | v :: l, k + 1, h => by
    rw [numsB_cons, takeA_succ k (by simp [dig_pos']), stNum_num, takeA_nums l k (by simpa using h)]
    rfl
theorem numsB_len (l : List Int) : l.length ≤ (numsB l).length := by
  induction l with
  | nil => simp
  | cons v l ih =>
    rw [numsB_cons, List.length_append, List.length_cons]
    have := List.length_pos_iff.2 (dig_pos' (clamp v))
    omega
open Classical in
/-- the reference's sums of differences -/
noncomputable def rdel (l : List Int) : List Int := if ∀ j, j < l.length → 0 ≤ addK l (j + 1) ∧ addK l (j + 1) ≤ 1099511627776 then addedP l else []
theorem rdel_deltas {l : List Int} (hm : ∀ v ∈ l, 0 ≤ v ∧ v ≤ 1099511627776) : rdel (deltasP l) = l := by
  have hd : (deltasP l).length = l.length := deltasTo_len l l.length
  unfold rdel
  rw [if_pos fun j hj => ?_]
  · exact added_deltas hm
  · rw [hd] at hj
    rw [addK_deltas hm (j + 1) (by omega), if_neg (by omega), Nat.add_sub_cancel]
    exact hm _ (getD_mem hj)
/-- the reference's rows of alike ones, told flat -/
def flatP (rs : List (Nat × Int)) : List Int := rs.flatMap fun r => [(r.1 : Int), r.2]
theorem pairs_flat (rs : List (Nat × Int)) : pairsB rs = numsB (flatP rs) := by
  induction rs with
  | nil => rfl
  | cons r rs ih =>
    show numsB [(r.1 : Int), r.2] ++ pairsB rs = numsB ([(r.1 : Int), r.2] ++ flatP rs)
    rw [numsB_append, ih]
def rrK (l : List Int) : Nat → Option (List Int)
  | 0 => some []
  | k + 1 => match rrK l k with
    | none => none
    | some o => if 32768 < l.getD (2 * k) 0 ∨ 32768 < (o.length : Int) + l.getD (2 * k) 0 then none else some (o ++ List.replicate (l.getD (2 * k) 0).toNat (l.getD (2 * k + 1) 0))
def rrP (l : List Int) : Option (List Int) := rrK l (l.length / 2)
theorem rrK_none {l : List Int} {k : Nat} (h : rrK l k = none) : ∀ d, rrK l (k + d) = none
  | 0 => h
  | d + 1 => by show rrK l (k + d + 1) = none; rw [rrK, rrK_none h d]
theorem pflat_len (rs : List (Nat × Int)) : (flatP rs).length = 2 * rs.length := by
  induction rs with
  | nil => rfl
  | cons r rs ih =>
    show ([(r.1 : Int), r.2] ++ flatP rs).length = _
    rw [List.length_append, ih, List.length_cons]
    simp
    omega
theorem pflat_get : ∀ (rs : List (Nat × Int)) (k : Nat), k < rs.length → (flatP rs).getD (2 * k) 0 = (((rs.getD k (0, 0)).1 : Nat) : Int) ∧ (flatP rs).getD (2 * k + 1) 0 = (rs.getD k (0, 0)).2
  | [], k, h => by simp at h
  | r :: rs, 0, _ => ⟨rfl, rfl⟩
  | r :: rs, k + 1, h => by
    have ih := pflat_get rs k (by simpa using h)
    exact ih
theorem rr_flat (rs : List (Nat × Int)) (h : (expP rs).length ≤ 32768) : ∀ k, k ≤ rs.length → rrK (flatP rs) k = some (expP (rs.take k))
  | 0, _ => rfl
  | k + 1, hk => by
    have e : rs.take (k + 1) = rs.take k ++ [rs.getD k (0, 0)] := by
      rw [List.take_succ_eq_append_getElem (by omega), List.getD_eq_getElem?_getD, List.getElem?_eq_getElem (by omega)]
      rfl
    obtain ⟨g1, g2⟩ := pflat_get rs k (by omega)
    have hl : (expP (rs.take (k + 1))).length ≤ (expP rs).length := by
      conv => rhs; rw [← List.take_append_drop (k + 1) rs]
      rw [exp_len_append]
      omega
    rw [e, exp_len_append] at hl
    have h1 : (expP [rs.getD k (0, 0)]).length = (rs.getD k (0, 0)).1 := by simp [expP]
    rw [rrK, rr_flat rs h k (by omega), g1, g2, e, exp_append]
    show (if _ then _ else _) = _
    rw [if_neg (by omega), Int.toNat_natCast]
    simp [expP]
noncomputable def rrdP : Nat → List Int → Option (List Int)
  | 0, l => some l
  | 1, l => some (rdel l)
  | _, l => rrP l
theorem rrd_enc {w : Nat} {m : List Int} {n : Nat} (hw : w ≤ 2) (h : mayP m = true) (hn : (encP w m).length ≤ n) : (takeA n (stNum (stNum (encP w m) false).2.1 (stNum (encP w m) false).2.2).2.1 false).2 = ([], false) ∧
    rrdP w (((takeA n (stNum (stNum (encP w m) false).2.1 (stNum (encP w m) false).2.2).2.1 false).1).map fun n : Nat => (n : Int)) = some m := by
  obtain ⟨hl, hm⟩ := (mayP_iff m).1 h
  have hd : (deltasP m).length = m.length := deltasTo_len m m.length
  rw [enc_size hw h]
  have hn2 : (tailP w m).length ≤ n := by
    rw [enc_eq m hw, List.length_append, List.length_append] at hn
    omega
  show (takeA n (tailP w m) false).2 = _ ∧ rrdP w (((takeA n (tailP w m) false).1).map _) = _
  rcases w with _ | _ | _ | w
  · have e := takeA_nums m n (Nat.le_trans (numsB_len m) hn2)
    have hv : ∀ v ∈ m, 0 ≤ v ∧ v ≤ 4611686018427387904 := fun v hv => by have := hm v hv; omega
    show (takeA n (numsB m) false).2 = _ ∧ some _ = _
    rw [show takeA n (tailP 0 m) false = _ from e, e]
    exact ⟨rfl, congrArg some (map_clamp hv)⟩
  · have e := takeA_nums (deltasP m) n (Nat.le_trans (numsB_len _) hn2)
    have hv : ∀ v ∈ deltasP m, 0 ≤ v ∧ v ≤ 4611686018427387904 := fun v hv => by have := deltasP_ok hm v hv; omega
    show (takeA n (numsB (deltasP m)) false).2 = _ ∧ some (rdel _) = _
    rw [show takeA n (tailP (0 + 1) m) false = _ from e, e]
    refine ⟨rfl, congrArg some ?_⟩
    rw [map_clamp hv]
    exact rdel_deltas hm
  · have hp : tailP (0 + 1 + 1) m = numsB (flatP (runsP m)) := pairs_flat (runsP m)
    rw [hp] at hn2 ⊢
    have e := takeA_nums (flatP (runsP m)) n (Nat.le_trans (numsB_len _) hn2)
    have hv : ∀ v ∈ flatP (runsP m), 0 ≤ v ∧ v ≤ 4611686018427387904 := fun v hv => by
      obtain ⟨q, hq, hv⟩ := List.mem_flatMap.1 hv
      obtain ⟨h1, h2, h3⟩ := runsTo_mem m _ (Nat.le_refl _) q hq
      have := hm _ h3
      rcases List.mem_cons.1 hv with rfl | hv
      · omega
      · rw [List.mem_singleton] at hv
        subst hv
        omega
    rw [e]
    refine ⟨rfl, ?_⟩
    rw [map_clamp hv]
    show rrK _ _ = _
    rw [pflat_len, Nat.mul_div_cancel_left _ (by omega), rr_flat _ (by rw [exp_runs]; exact hl) _ (Nat.le_refl _), List.take_length, exp_runs]
  · omega
theorem dec_rrd {b : List UInt8} {n : Nat} {ns : List Nat} {bad : Bool} (hn : b.length ≤ n) (hw : (stNum b false).1 ≤ 2)
    (ht : takeA n (stNum (stNum b false).2.1 (stNum b false).2.2).2.1 (stNum (stNum b false).2.1 (stNum b false).2.2).2.2 = (ns, [], bad)) {o : Option (List Int)}
    (ho : rrdP (stNum b false).1 (ns.map fun n : Nat => (n : Int)) = o) : decP b = if bad = true then none else match o with
      | none => none
      | some l => if mayP l = true ∧ encP (stNum b false).1 l = b then some l else none := by
  have hk : ∀ m w, AreW w b m → w = (stNum b false).1 ∧ bad = false ∧ o = some m := by
    intro m w ha
    obtain ⟨h1, h2, h3⟩ := ha
    have e : w = (stNum b false).1 := by rw [← h3, enc_way h1]
    have hz := enc_size h1 h2
    rw [h3] at hz
    have ha := rrd_enc h1 h2 (n := n) (by rw [h3]; exact hn)
    rw [h3, hz] at ha
    rw [hz] at ht
    simp only at ha ht
    rw [ht] at ha
    refine ⟨e, (Prod.mk.inj ha.1).2, ?_⟩
    rw [← ho, ← e]
    exact ha.2
  by_cases hb : bad = true
  · rw [if_pos hb]
    exact dec_none fun m w ha => by
      have := (hk m w ha).2.1
      rw [hb] at this
      cases this
  · rw [if_neg hb]
    cases o with
    | none => exact dec_none fun m w ha => by have := (hk m w ha).2.2; cases this
    | some l => exact dec_of l hw fun m ha => Option.some.inj (hk m _ ha).2.2

/-! ### the shortest -/
def shortP (a b : List UInt8) : List UInt8 := if b.length < a.length then b else a
def bestP (l : List Int) : List UInt8 := shortP (shortP (plainP l) (deltaP l)) (runsB l)
theorem short_one (a b : List UInt8) : shortP a b = a ∨ shortP a b = b := by
  unfold shortP
  split
  · exact .inr rfl
  · exact .inl rfl
theorem best_one (l : List Int) : ∃ w, w ≤ 2 ∧ bestP l = encP w l := by
  rcases short_one (shortP (plainP l) (deltaP l)) (runsB l) with h | h
  · rcases short_one (plainP l) (deltaP l) with g | g
    · exact ⟨0, by omega, h.trans g⟩
    · exact ⟨1, by omega, h.trans g⟩
  · exact ⟨2, Nat.le_refl _, h⟩
theorem short_le (a b : List UInt8) : (shortP a b).length ≤ a.length ∧ (shortP a b).length ≤ b.length := by
  unfold shortP
  split <;> omega
theorem best_le (l : List Int) : ∀ w ≤ 2, (bestP l).length ≤ (encP w l).length := by
  intro w hw
  have h1 := short_le (shortP (plainP l) (deltaP l)) (runsB l)
  have h2 := short_le (plainP l) (deltaP l)
  rcases w with _ | _ | _ | w
  · exact Nat.le_trans h1.1 h2.1
  · exact Nat.le_trans h1.1 h2.2
  · exact h1.2
  · omega
theorem dec_best {l : List Int} (h : mayP l = true) : decP (bestP l) = some l := by
  obtain ⟨w, hw, e⟩ := best_one l
  rw [e]
  exact dec_enc hw h
end Go.Proofs.YtpjgkacekelkdaaDoor

/-
  Rows of elements of many cells that lie anywhere in a block of the call's own ('RowO'), append onto them, and stores of many cells. No statement of the seat is proved here.
-/
namespace Go.Proofs.YtpjgkacekelkdaaDoor
open Go Go.RowKit

/-- the block of an address -/
def inA (A : Option Addr) (k : Nat) : Prop := ∃ ad, A = some ad ∧ ad.block = k
theorem inA_none (k : Nat) : ¬ inA none k := fun ⟨_, h, _⟩ => by cases h
theorem inA_some (g o k : Nat) (s : Option Nat) : inA (some ⟨g, o, s⟩) k ↔ g = k := ⟨fun ⟨_, h, e⟩ => by injection h with h; subst h; exact e, fun e => ⟨_, rfl, e⟩⟩

/-! ### Only: stores of many cells -/
section
variable {S T : Nat → Prop} {a w w' : World}
theorem Only.setCells (h : Only S a w) {b : Nat} (hb : S b ∨ a.heap.size ≤ b) : ∀ (vs : List Value) (o : Nat), Only S a (w.setCells b o vs) := by
  intro vs
  induction vs generalizing w with
  | nil => intro o; exact h
  | cons v r ih => intro o; exact ih (h.setCell (p := ⟨b, o, none⟩) hb v) (o + 1)
theorem Blk.setCells_far {g : Nat} {t : TypeId} {cs : Array Value} {b : Nat} (hn : g ≠ b) : ∀ (vs : List Value) (o : Nat) {w : World}, Blk w g t cs → Blk (w.setCells b o vs) g t cs
  | [], _, _, h => h
  | v :: r, o, w, h => Blk.setCells_far hn r (o + 1) (h.far (p := ⟨b, o, none⟩) hn v)
theorem Blk.setCells {g : Nat} {t : TypeId} : ∀ (vs : List Value) (o : Nat) {w : World} {cs : Array Value}, Blk w g t cs → o + vs.length ≤ cs.size →
    ∃ cs', Blk (w.setCells g o vs) g t cs' ∧ cs'.size = cs.size ∧ (∀ j u, vs[j]? = some u → cs'[o + j]? = some u) ∧ ∀ k, (k < o ∨ o + vs.length ≤ k) → cs'[k]? = cs[k]?
  | [], o, w, cs, h, _ => ⟨cs, h, rfl, fun j u hu => by simp at hu, fun _ _ => rfl⟩
  | v :: r, o, w, cs, h, hl => by
    simp only [List.length_cons] at hl
    obtain ⟨cs', h1, h2, h3, h4⟩ := Blk.setCells r (o + 1) (h.put o v) (by simp; omega)
    refine ⟨cs', h1, by simpa using h2, fun j u hu => ?_, fun k hk => ?_⟩
    · rcases j with _ | j
      · simp at hu
        subst hu
        rw [h4 (o + 0) (.inl (by omega))]
        simp [show o < cs.size by omega]
      · have := h3 j u (by simpa using hu)
        rwa [show o + 1 + j = o + (j + 1) by omega] at this
    · simp only [List.length_cons] at hk
      rw [h4 k (by omega), Array.getElem?_setIfInBounds]
      split
      · omega
      · rfl
end

/-- a whole block anew -/
theorem Blk.whole {g : Nat} {t : TypeId} {w : World} {cs : Array Value} (h : Blk w g t cs) (vs : List Value) (hl : vs.length = cs.size) : Blk (w.setCells g 0 vs) g t vs.toArray := by
  obtain ⟨cs', h1, h2, h3, _⟩ := Blk.setCells vs 0 h (by omega)
  have : cs' = vs.toArray := by
    apply Array.ext_getElem?
    intro k
    rcases Nat.lt_or_ge k vs.length with hk | hk
    · have := h3 k vs[k] (List.getElem?_eq_getElem hk)
      rw [Nat.zero_add] at this
      rw [this]; simp [hk]
    · rw [Array.getElem?_eq_none (by omega), Array.getElem?_eq_none (by simpa using hk)]
  rw [← this]
  exact h1
theorem Blk.there {g : Nat} {t : TypeId} {w : World} {cs : Array Value} (h : Blk w g t cs) (o n : Nat) (hl : o + n ≤ cs.size) : w.there g o n := fun j hj => ⟨by rw [h.cell]; simp; omega, h.free _⟩
theorem below_setCells {B : Nat} {a : World} {b : Nat} (hb : B ≤ b) : ∀ (vs : List Value) (o : Nat) {w : World}, Below B a w → Below B a (w.setCells b o vs)
  | [], _, _, h => h
  | v :: r, o, w, h => below_setCells hb r (o + 1) (w := w.setCell ⟨b, o, none⟩ v) ⟨h.os, h.tape, h.output, by simpa [World.setCell] using h.size, fun i hi => (Below.heap_setCell w ⟨b, o, none⟩ v i (by show i ≠ b; omega)).trans (h.block i hi)⟩

/-! ### A row anywhere in a block -/
def RowO (w : World) (e : TypeId) (sz : Nat) (A : Option Addr) (m c : Nat) (xs : List Value) : Prop :=
  xs.length = m * sz ∧ ((A = none ∧ m = 0 ∧ c = 0) ∨ ∃ g off cs, A = some ⟨g, off, none⟩ ∧ m ≤ c ∧ c ≤ maxLen ∧ Blk w g e cs ∧ off + c * sz ≤ cs.size ∧ ∀ j u, xs[j]? = some u → cs[off + j]? = some u)

section
variable {S : Nat → Prop} {w w' : World} {e : TypeId} {sz : Nat} {A : Option Addr} {m c : Nat} {xs : List Value}
theorem RowO.none_ (w : World) (e : TypeId) (sz : Nat) : RowO w e sz none 0 0 [] := ⟨by simp, .inl ⟨rfl, rfl, rfl⟩⟩
theorem RowO.rd (h : RowO w e sz A m c xs) : Rd w A xs := by
  rcases h.2 with ⟨rfl, rfl, rfl⟩ | ⟨g, off, cs, rfl, _, _, hb, _, hc⟩
  · have : xs = [] := List.eq_nil_of_length_eq_zero (by simpa using h.1)
    subst this
    exact Rd.nil _ _
  · exact fun j u hu => ⟨_, rfl, by rw [Addr.add_mid, hb.cell]; exact hc j u hu⟩
theorem RowO.lt (h : RowO w e sz A m c xs) {k : Nat} (hk : inA A k) : k < w.heap.size := by
  rcases h.2 with ⟨rfl, _⟩ | ⟨g, off, cs, rfl, _, _, hb, _⟩
  · exact absurd hk (inA_none k)
  · rw [inA_some] at hk; subst hk; exact hb.lt
theorem RowO.keep (h : RowO w e sz A m c xs) (hk : ∀ k, inA A k → w'.heap[k]? = w.heap[k]?) : RowO w' e sz A m c xs := by
  refine ⟨h.1, ?_⟩
  rcases h.2 with h1 | ⟨g, off, cs, rfl, h1, h2, hb, h3⟩
  · exact .inl h1
  · exact .inr ⟨g, off, cs, rfl, h1, h2, (hk g ((inA_some _ _ _ _).2 rfl)).trans hb, h3⟩
theorem RowO.only (h : RowO w e sz A m c xs) (ho : Only S w w') (hn : ∀ k, inA A k → ¬ S k) : RowO w' e sz A m c xs := h.keep fun k hk => ho.block k (h.lt hk) (hn k hk)
theorem RowO.ext (h : RowO w e sz A m c xs) (hb : Below w.heap.size w w') : RowO w' e sz A m c xs := h.keep fun k hk => hb.block k (h.lt hk)
theorem RowO.alloc (h : RowO w e sz A m c xs) (o : Obj) : RowO (w.alloc o) e sz A m c xs := h.ext ((Below.refl _ _).alloc (Nat.le_refl _) o)
theorem RowO.drew (h : RowO w e sz A m c xs) : RowO w.drew e sz A m c xs := h
theorem RowO.drewN (h : RowO w e sz A m c xs) (n : Nat) : RowO (w.drewN n) e sz A m c xs := h
theorem RowO.le (h : RowO w e sz A m c xs) : m ≤ c := by
  rcases h.2 with ⟨_, h1, h2⟩ | ⟨_, _, _, _, h1, _⟩ <;> omega
theorem RowO.ne_blk {g : Nat} {t : TypeId} {cs : Array Value} (h : RowO w e sz A m c xs) (hb : Blk w g t cs) (ht : e ≠ t) : ¬ inA A g := by
  intro hk
  rcases h.2 with ⟨rfl, _⟩ | ⟨g', off, cs', rfl, _, _, hb', _⟩
  · exact inA_none _ hk
  · rw [inA_some] at hk
    subst hk
    unfold Blk at hb hb'
    rw [hb] at hb'
    injection hb' with hb'
    injection hb' with _ ht'
    exact ht ht'.symm
theorem RowO.lit (w : World) (e : TypeId) (sz m : Nat) (cs : Array Value) (hs : cs.size = m * sz) (hm : m ≤ maxLen) {g : Nat} (hg : g = w.heap.size) : RowO (w.alloc (.cells cs e)) e sz (some ⟨g, 0, none⟩) m m cs.toList := by
  subst hg
  exact ⟨by simpa using hs, .inr ⟨_, 0, cs, rfl, Nat.le_refl _, hm, Blk.new w e cs, by omega, fun j u hu => by simpa using hu⟩⟩
/-- the first elements alone -/
theorem RowO.sub (h : RowO w e sz A m c xs) {n : Nat} {ys : List Value} (hn : n ≤ m) (hl : ys.length = n * sz) (hp : ∀ (j : Nat) (u : Value), ys[j]? = some u → xs[j]? = some u) : RowO w e sz A n c ys := by
  refine ⟨hl, ?_⟩
  rcases h.2 with ⟨h1, h2, h3⟩ | ⟨g, off, cs, h1, h2, h3, h4, h5, h6⟩
  · exact .inl ⟨h1, by omega, h3⟩
  · exact .inr ⟨g, off, cs, h1, by omega, h3, h4, h5, fun j u hu => h6 j u (hp j u hu)⟩
end

/-! ### append -/
section
variable {P : Program} (w : World)
theorem run_appO (t ty e : TypeId) (z : Value) (sz bytes : Nat) (ht : P.underlying t = some (.slice e)) (hi : (P.info? e).map (fun i => (i.zero, i.size, i.bytes)) = some (some z, sz, bytes)) (hzs : z.cells.size = sz)
    (A : Option Addr) (n c : Nat) (xs : List Value) (hown : RowO w e sz A n c xs) (A2 : Option Addr) (m c2 : Nat) (news : List Value) (hm : news.length = m * sz) (hr : Rd w A2 news) (h1 : ∀ u ∈ news, u.oneCell' = true) (h0 : A2 = none → m = 0)
    (h63 : n + m ≤ maxLen) (hbytes : (n + m) * bytes ≤ 140737488355328) :
    ∃ A' c' w', (Builtin.append_ #[t, t] ty #[.slice A n c, .slice A2 m c2]).run P w = .ok (.slice A' (n + m) c') w' ∧ RowO w' e sz A' (n + m) c' (xs ++ news) ∧ Only (inA A) w w' ∧ (∀ k, inA A' k → inA A k ∨ (w.heap.size ≤ k ∧ k < w'.heap.size)) := by
  obtain ⟨i, hinf, hz, hsz, hby⟩ := info_parts hi
  clear hi
  subst hsz hby
  have hsmall : n + m ≤ 9223372036854775807 := by simp only [maxLen] at h63; omega
  have src : Src P i.size t (.slice A2 m c2) m news w := by
    rcases A2 with _ | ad
    · obtain rfl := h0 rfl
      have hnil : news = [] := List.eq_nil_of_length_eq_zero (by simpa using hm)
      subst hnil
      exact Src.ofNil w ht c2
    · exact Src.ofSlice w ht ad m c2 news hm (fun j u hu => by
        obtain ⟨ad', h, hc⟩ := hr j u hu
        injection h with h
        subst h
        exact hc) h1
  have hlen : (xs ++ news).length = (n + m) * i.size := by rw [List.length_append, hown.1, hm, Nat.add_mul]
  by_cases hroom : n + m ≤ c
  · rcases hown.2 with ⟨rfl, rfl, rfl⟩ | ⟨g, off, cs, rfl, hnc, hcm, hb, hsize, hcell⟩
    · have hn0 : m = 0 := by omega
      subst hn0
      have hnil : news = [] := List.eq_nil_of_length_eq_zero (by simpa using hm)
      subst hnil
      refine ⟨none, 0, w, ?_, by rw [List.append_nil]; exact hown, Only.refl _ _, fun k hk => .inl hk⟩
      have hl := src.len w
      have hcl := src.cells
      have hl' : Builtin.lenOf (.slice A2 0 c2) = pure 0 := rfl
      rw [Nat.add_zero]
      unfold Builtin.append_
      simp [run_underlying ht, sizeOf, typeInfo, hinf, hl', hcl]
    · have hfit : off + n * i.size + news.length ≤ cs.size := by
        have h2 : (n + m) * i.size ≤ c * i.size := Nat.mul_le_mul_right _ hroom
        rw [Nat.add_mul] at h2
        omega
      have hcs : ∀ j, j < news.length → (w.cell? ⟨g, off + n * i.size + j, none⟩).isSome = true := fun j hj => by
        rw [hb.cell]; simp; omega
      have hfr : ∀ j, j < news.length → w.frozen? ⟨g, off + n * i.size + j, none⟩ = false := fun j _ => hb.free _
      have hrun := run_append_room_src (P := P) w t t ty e i ht hinf g off n c (.slice A2 m c2) m news src hroom hcs hfr
      obtain ⟨cs', hb', hs', hin, hout⟩ := Blk.setCells news (off + n * i.size) hb hfit
      refine ⟨_, _, _, hrun, ⟨hlen, .inr ⟨g, off, cs', rfl, hroom, hcm, hb', by omega, fun j u hu => ?_⟩⟩, (Only.refl _ w).setCells (.inl ((inA_some _ _ _ _).2 rfl)) _ _, fun k hk => .inl hk⟩
      rw [List.getElem?_append] at hu
      split at hu
      · rename_i hj
        rw [hown.1] at hj
        rw [hout (off + j) (.inl (by omega))]
        exact hcell j u hu
      · rename_i hj
        have := hin _ u hu
        rw [hown.1] at hj this
        rwa [show off + n * i.size + (j - n * i.size) = off + j by omega] at this
  · have hold : (Builtin.firstCells i.size n (.slice A n c)).run P w.drew = .ok xs.toArray w.drew := by
      rcases hown.2 with ⟨rfl, rfl, rfl⟩ | ⟨g, off, cs, rfl, hnc, hcm, hb, hsize, hcell⟩
      · have hnil : xs = [] := List.eq_nil_of_length_eq_zero (by simpa using hown.1)
        subst hnil
        exact run_firstCells_none w.drew i.size 0 0 0
      · refine run_firstCells_some w.drew i.size n ⟨g, off, none⟩ n c xs hown.1 (fun j u hu => ?_)
        rw [Addr.add_mid, (Blk.drew hb).cell]
        exact hcell j u hu
    have hrun := run_append_grow_src (P := P) w t t ty e i z ht hinf hz A n c xs hold (.slice A2 m c2) m news src (by omega) (by omega) (growslice_fits (by omega) hbytes)
    have hge := grownCap_ge w (n + m) c e
    have hcm : grownCap w (n + m) c e ≤ maxLen := grownCap_le_maxLen w (n + m) c e h63
    refine ⟨_, _, _, hrun, ⟨hlen, .inr ⟨w.heap.size, 0, _, rfl, hge, hcm, heap_alloc_new w.drew _, ?_, fun j u hu => ?_⟩⟩, ((Only.refl _ w).drew).alloc _, fun k hk => .inr ?_⟩
    · simp only [Array.size_append, List.size_toArray, size_zeroCells, hzs, hlen, ← Nat.add_mul]
      rw [Nat.zero_add]
      exact Nat.le_of_eq (congrArg (· * i.size) (by omega))
    · have hj := (List.getElem?_eq_some_iff.1 hu).1
      rw [Nat.zero_add, Array.getElem?_append_left (by simpa using hj)]
      simpa using hu
    · rw [inA_some] at hk
      subst hk
      simp

theorem wp_appO {o : Oper} {a : Act} {K : Act → World → Prop} {Q : Exit → Act → World → Prop} (s x : Operand) (t : TypeId)
    (ho : o.op = .call { callee := .builtin .append, args := #[s, x], argTypes := #[t, t] })
    (e : TypeId) (z : Value) (sz bytes : Nat) (ht : P.underlying t = some (.slice e)) (hi : (P.info? e).map (fun i => (i.zero, i.size, i.bytes)) = some (some z, sz, bytes)) (hzs : z.cells.size = sz)
    (A : Option Addr) (n c : Nat) (xs : List Value) (hs : a.eval s = .slice A n c) (hown : RowO w e sz A n c xs)
    (A2 : Option Addr) (m c2 : Nat) (news : List Value) (hx : a.eval x = .slice A2 m c2) (hm : news.length = m * sz) (hr : Rd w A2 news) (h1 : ∀ u ∈ news, u.oneCell' = true) (h0 : A2 = none → m = 0)
    (h63 : n + m ≤ maxLen) (hbytes : (n + m) * bytes ≤ 140737488355328)
    (h : ∀ A' c' w', RowO w' e sz A' (n + m) c' (xs ++ news) → Only (inA A) w w' → (∀ k, inA A' k → inA A k ∨ (w.heap.size ≤ k ∧ k < w'.heap.size)) → K (a.put o.dst (.slice A' (n + m) c')) w') : o.wp P a w K Q := by
  obtain ⟨A', c', w', hrun, h2, h3, h4⟩ := run_appO (P := P) w t o.type e z sz bytes ht hi hzs A n c xs hown A2 m c2 news hm hr h1 h0 h63 hbytes
  unfold Oper.wp execOp
  simp only [ho, resolve, invoke, builtin, Sem.run_bind, Sem.run_pure, Result.andThen_ok, List.map_toArray, List.map_cons, List.map_nil, hs, hx, hrun]
  exact h A' c' w' h2 h3 h4

theorem wpList_appO {ops : Array Oper} {rest : List Oper} {o : Oper} {a : Act} {Q : Exit → Act → World → Prop} (hgd : o.guard = none) (s x : Operand) (t : TypeId)
    (ho : o.op = .call { callee := .builtin .append, args := #[s, x], argTypes := #[t, t] })
    (e : TypeId) (z : Value) (sz bytes : Nat) (ht : P.underlying t = some (.slice e)) (hi : (P.info? e).map (fun i => (i.zero, i.size, i.bytes)) = some (some z, sz, bytes)) (hzs : z.cells.size = sz)
    (A : Option Addr) (n c : Nat) (xs : List Value) (hs : a.eval s = .slice A n c) (hown : RowO w e sz A n c xs)
    (A2 : Option Addr) (m c2 : Nat) (news : List Value) (hx : a.eval x = .slice A2 m c2) (hm : news.length = m * sz) (hr : Rd w A2 news) (h1 : ∀ u ∈ news, u.oneCell' = true) (h0 : A2 = none → m = 0)
    (h63 : n + m ≤ maxLen) (hbytes : (n + m) * bytes ≤ 140737488355328)
    (h : ∀ A' c' w', RowO w' e sz A' (n + m) c' (xs ++ news) → Only (inA A) w w' → (∀ k, inA A' k → inA A k ∨ (w.heap.size ≤ k ∧ k < w'.heap.size)) → wpList P ops Q rest (a.put o.dst (.slice A' (n + m) c')) w') : wpList P ops Q (o :: rest) a w :=
  wpList_plain hgd fun _ hK => wp_appO w s x t ho e z sz bytes ht hi hzs A n c xs hs hown A2 m c2 news hx hm hr h1 h0 h63 hbytes fun A' c' w' h2 h3 h4 => hK _ _ (h A' c' w' h2 h3 h4)

/-- at a step of a region that draws its order -/
theorem step_appO {ops : Array Oper} {o : Oper} {a : Act} {K : Act → World → Prop} {Q : Exit → Act → World → Prop} {E : Prop} (hgd : o.guard = none) (s x : Operand) (t : TypeId)
    (ho : o.op = .call { callee := .builtin .append, args := #[s, x], argTypes := #[t, t] })
    (e : TypeId) (z : Value) (sz bytes : Nat) (ht : P.underlying t = some (.slice e)) (hi : (P.info? e).map (fun i => (i.zero, i.size, i.bytes)) = some (some z, sz, bytes)) (hzs : z.cells.size = sz)
    (A : Option Addr) (n c : Nat) (xs : List Value) (hs : a.eval s = .slice A n c) (hown : RowO w e sz A n c xs)
    (A2 : Option Addr) (m c2 : Nat) (news : List Value) (hx : a.eval x = .slice A2 m c2) (hm : news.length = m * sz) (hr : Rd w A2 news) (h1 : ∀ u ∈ news, u.oneCell' = true) (h0 : A2 = none → m = 0)
    (h63 : n + m ≤ maxLen) (hbytes : (n + m) * bytes ≤ 140737488355328)
    (h : ∀ A' c' w', RowO w' e sz A' (n + m) c' (xs ++ news) → Only (inA A) w w' → (∀ k, inA A' k → inA A k ∨ (w.heap.size ≤ k ∧ k < w'.heap.size)) → K (a.put o.dst (.slice A' (n + m) c')) w') :
    if Region.wanted o (yielded ops a.tmps) = true then Oper.wp P o a w K Q else E := by
  have hw : Region.wanted o (yielded ops a.tmps) = true := by simp [Region.wanted, hgd]
  rw [if_pos hw]
  exact wp_appO w s x t ho e z sz bytes ht hi hzs A n c xs hs hown A2 m c2 news hx hm hr h1 h0 h63 hbytes h
end
end Go.Proofs.YtpjgkacekelkdaaDoor

/-
  Rows that were made anew; addresses at a place of a block; small words on worlds. No statement of the seat is proved here.
-/
namespace Go.Proofs.YtpjgkacekelkdaaDoor
open Go Go.RowKit
set_option maxRecDepth 100000

/-- a row that was made since 'w' -/
def NewO (w w' : World) (e : TypeId) (sz : Nat) (A : Option Addr) (m c : Nat) (xs : List Value) : Prop := RowO w' e sz A m c xs ∧ Below w.heap.size w w' ∧ ∀ k, inA A k → w.heap.size ≤ k
section
variable {w w1 w2 w3 : World} {e : TypeId} {sz : Nat} {A A' : Option Addr} {m n c c' : Nat} {xs ys : List Value}
theorem NewO.start (w : World) (e : TypeId) (sz : Nat) : NewO w w e sz none 0 0 [] := ⟨RowO.none_ _ _ _, Below.refl _ _, fun k hk => absurd hk (inA_none k)⟩
theorem NewO.row (h : NewO w w1 e sz A m c xs) : RowO w1 e sz A m c xs := h.1
theorem NewO.bel (h : NewO w w1 e sz A m c xs) : Below w.heap.size w w1 := h.2.1
theorem NewO.ext (h : NewO w w1 e sz A m c xs) (hb : Below w1.heap.size w1 w2) : NewO w w2 e sz A m c xs := ⟨h.1.ext hb, ext_trans h.2.1 hb, h.2.2⟩
theorem NewO.grow (h : NewO w w1 e sz A m c xs) (hb : Below w1.heap.size w1 w2) (hr : RowO w3 e sz A' n c' ys) (ho : Only (inA A) w2 w3) (hA : ∀ k, inA A' k → inA A k ∨ (w2.heap.size ≤ k ∧ k < w3.heap.size)) : NewO w w3 e sz A' n c' ys := by
  have h1 := h.2.1.size
  have h2 := hb.size
  refine ⟨hr, (ext_trans h.2.1 hb).trans (ho.below (fun i hi => h.2.2 i hi) (by omega)), fun k hk => ?_⟩
  rcases hA k hk with hk | hk
  · exact h.2.2 k hk
  · omega
theorem NewO.rd (h : NewO w w1 e sz A m c xs) : Rd w1 A xs := h.1.rd
theorem NewO.back {w0 : World} (h : NewO w w1 e sz A m c xs) (hb : Below w0.heap.size w0 w) : NewO w0 w1 e sz A m c xs := ⟨h.1, hb.trans (h.2.1.mono hb.size), fun k hk => Nat.le_trans hb.size (h.2.2 k hk)⟩
end

/-- an address at a place of a block -/
def Flat (A : Option Addr) : Prop := ∀ ad, A = some ad → ∃ g o, ad = ⟨g, o, none⟩
theorem RowO.flat {w : World} {e : TypeId} {sz : Nat} {A : Option Addr} {m c : Nat} {xs : List Value} (h : RowO w e sz A m c xs) : Flat A := fun ad e' => by
  rcases h.2 with ⟨h1, _⟩ | ⟨g, o, _, h1, _⟩
  · rw [h1] at e'; cases e'
  · rw [h1] at e'; injection e' with e'; exact ⟨g, o, e'.symm⟩
theorem RowO.addr {w : World} {e : TypeId} {sz : Nat} {A : Option Addr} {m c : Nat} {xs : List Value} (h : RowO w e sz A m c xs) (h0 : 0 < m) : ∃ g o, A = some ⟨g, o, none⟩ := by
  rcases h.2 with ⟨_, h1, _⟩ | ⟨g, o, _, h1, _⟩
  · omega
  · exact ⟨g, o, h1⟩
theorem RowO.free {w : World} {e : TypeId} {sz : Nat} {g o m c : Nat} {xs : List Value} (h : RowO w e sz (some ⟨g, o, none⟩) m c xs) (j : Nat) : w.frozen? ⟨g, j, none⟩ = false := by
  rcases h.2 with ⟨h1, _⟩ | ⟨g', o', cs, h1, h2, h3, h4, h5, h6⟩
  · cases h1
  · injection h1 with h1
    injection h1 with h1 h1' _
    subst h1 h1'
    exact h4.free j
theorem RowO.set {w : World} {e : TypeId} {sz : Nat} {g o m c : Nat} {xs : List Value} (h : RowO w e sz (some ⟨g, o, none⟩) m c xs) (j : Nat) (hj : j < xs.length) (u : Value) : RowO (w.setCell ⟨g, o + j, none⟩ u) e sz (some ⟨g, o, none⟩) m c (xs.set j u) := by
  refine ⟨by rw [List.length_set]; exact h.1, ?_⟩
  rcases h.2 with ⟨h1, _⟩ | ⟨g', o', cs, h1, h2, h3, h4, h5, h6⟩
  · cases h1
  · injection h1 with h1
    injection h1 with h1 h1' _
    subst h1 h1'
    refine .inr ⟨g, o, cs.setIfInBounds (o + j) u, rfl, h2, h3, h4.put (o + j) u, by simpa using h5, fun i v hv => ?_⟩
    rw [List.getElem?_set] at hv
    split at hv
    · rename_i hij
      subst hij
      have hlt : o + j < cs.size := by
        have := h6 j _ (List.getElem?_eq_getElem hj)
        exact (Array.getElem?_eq_some_iff.1 this).1
      rw [Array.getElem?_setIfInBounds_self_of_lt hlt]; exact hv
    · rename_i hij
      rw [Array.getElem?_setIfInBounds_ne (by omega)]
      exact h6 i v hv
theorem NewO.set {w w1 : World} {e : TypeId} {sz : Nat} {g o m c : Nat} {xs : List Value} (h : NewO w w1 e sz (some ⟨g, o, none⟩) m c xs) (j : Nat) (hj : j < xs.length) (u : Value) : NewO w (w1.setCell ⟨g, o + j, none⟩ u) e sz (some ⟨g, o, none⟩) m c (xs.set j u) :=
  ⟨h.1.set j hj u, ⟨h.2.1.os, h.2.1.tape, h.2.1.output, by simpa [World.setCell] using h.2.1.size, fun i hi => (Below.heap_setCell w1 ⟨g, o + j, none⟩ u i (by
    have := h.2.2 g ((inA_some _ _ _ _).2 rfl)
    show i ≠ g
    omega)).trans (h.2.1.block i hi)⟩, h.2.2⟩

theorem ext2 (w : World) (a b : Obj) : Below w.heap.size w ((w.alloc a).alloc b) := ((Below.refl _ _).alloc (Nat.le_refl _) _).alloc (by simp) _
theorem ext_alloc {a w : World} (h : Below a.heap.size a w) (o : Obj) : Below a.heap.size a (w.alloc o) := h.alloc h.size o
theorem ext_drew {a w : World} (h : Below a.heap.size a w) : Below a.heap.size a w.drew := ext_drewN h 1
theorem cell_only {S : Nat → Prop} {w w' : World} {p : Addr} {v : Value} (h : w.cell? p = some v) (ho : Only S w w') (hn : ¬ S p.block) : w'.cell? p = some v :=
  (World.cell?_of_block (ho.block _ (World.block_lt_of_cell? w _ h) hn)).trans h
theorem take_snoc {α : Type} (l : List α) (k : Nat) (h : k < l.length) : l.take (k + 1) = l.take k ++ [l[k]] := by
  rw [List.take_add_one, List.getElem?_eq_getElem h]; rfl
/-! ### cells, each element of so many -/
theorem flat_at {β : Type} (enc : β → List Value) (sz : Nat) (h : ∀ b, (enc b).length = sz) : ∀ (l : List β) (k j : Nat) (hk : k < l.length), j < sz → (l.flatMap enc)[k * sz + j]? = (enc l[k])[j]?
  | a :: r, 0, j, hk, hj => by
    rw [List.flatMap_cons, List.getElem?_append_left (by rw [h]; omega)]
    simp
  | a :: r, k + 1, j, hk, hj => by
    simp only [List.length_cons] at hk
    rw [List.flatMap_cons, List.getElem?_append_right (by rw [h, Nat.add_mul]; omega), h, show (k + 1) * sz + j - sz = k * sz + j by rw [Nat.add_mul]; omega]
    rw [flat_at enc sz h r k j (by omega) hj]
    rfl
theorem flat_len {β : Type} (enc : β → List Value) (sz : Nat) (h : ∀ b, (enc b).length = sz) (l : List β) : (l.flatMap enc).length = l.length * sz := by
  induction l with
  | nil => simp
  | cons a r ih => rw [List.flatMap_cons, List.length_append, h, ih, List.length_cons, Nat.add_mul]; omega
/-- append of one element onto a row that was made anew -/
theorem wpList_app_new {P : Program} {w : World} {ops : Array Oper} {rest : List Oper} {o : Oper} {a : Act} {Q : Exit → Act → World → Prop} (hgd : o.guard = none) (s x : Operand) (t : TypeId)
    (ho : o.op = .call { callee := .builtin .append, args := #[s, x], argTypes := #[t, t] })
    (e : TypeId) (z : Value) (sz bytes : Nat) (ht : P.underlying t = some (.slice e)) (hi : (P.info? e).map (fun i => (i.zero, i.size, i.bytes)) = some (some z, sz, bytes)) (hzs : z.cells.size = sz)
    {w0 wr : World} (A : Option Addr) (n c : Nat) (xs : List Value) (hN : NewO w0 wr e sz A n c xs) (hb : Below wr.heap.size wr w) (hs : a.eval s = .slice A n c)
    (ad : Addr) (c2 : Nat) (news : List Value) (hx : a.eval x = .slice (some ad) 1 c2) (hm : news.length = 1 * sz) (hr : Rd w (some ad) news) (h1 : ∀ u ∈ news, u.oneCell' = true)
    (h63 : n + 1 ≤ maxLen) (hbytes : (n + 1) * bytes ≤ 140737488355328)
    (h : ∀ A' c' w', NewO w0 w' e sz A' (n + 1) c' (xs ++ news) → Below w0.heap.size w0 w' → wpList P ops Q rest (a.put o.dst (.slice A' (n + 1) c')) w') : wpList P ops Q (o :: rest) a w :=
  wpList_appO w hgd s x t ho e z sz bytes ht hi hzs A n c xs hs (hN.row.ext hb) (some ad) 1 c2 news hx hm hr h1 (fun h => by cases h) h63 hbytes fun A' c' w' hr' ho' hA' => by
    have h2 := hN.grow hb hr' ho' hA'
    exact h A' c' w' h2 h2.bel
end Go.Proofs.YtpjgkacekelkdaaDoor

/-
  May numbers be; a difference folded and unfolded (program). No statement of the seat is proved here.
-/
namespace Go.Proofs.YtpjgkacekelkdaaDoor
open Go Go.RowKit
set_option maxRecDepth 100000

def outP (v : Int) : Bool := !okP v
theorem may_out (l : List Int) : mayP l = (decide (l.length ≤ 32768) && !(l.any outP)) := by
  unfold mayP outP
  congr 1
  induction l with
  | nil => rfl
  | cons a r ih => rw [List.all_cons, List.any_cons, ih]; cases okP a <;> simp
theorem outside_any (v : Int) (w : World) : Calls Tryd.prog 62 #[.int .i64 v] w fun e w' => e = .returned (.bool (outP v)) ∧ w = w' := by
  have hd : Hid (outP v = (decide (v < 0) || decide (1099511627776 < v))) := Lib.hid (by
    unfold outP okP
    by_cases h1 : v < 0 <;> by_cases h2 : 1099511627776 < v <;> simp [h1, h2] <;> omega)
  by_cases h : v < 0
  · have d1 : decide (v < 0) = true := decide_eq_true h
    go_enter Tryd.func62, Tryd.ntmps62
    go_wp2
    go_ret
    exact ⟨by rw [hd.out, d1]; rfl, rfl⟩
  · have d1 : decide (v < 0) = false := decide_eq_false h
    go_enter Tryd.func62, Tryd.ntmps62
    go_wp2
    go_ret
    exact ⟨by rw [hd.out, d1]; rfl, rfl⟩
/-- where the first is -/
def idxP (l : List Int) : Int := match l.findIdx? outP with | some k => (k : Int) | none => -1
theorem idxP_none {l : List Int} (h : ∀ s ∈ l, outP s = false) : idxP l = -1 := by
  unfold idxP
  rw [List.findIdx?_eq_none_iff.2 h]
theorem idxP_some {l : List Int} {k : Nat} (hk : k < l.length) (h1 : outP l[k] = true) (h2 : ∀ j (hj : j < k), outP (l[j]'(by omega)) = false) : idxP l = (k : Int) := by
  unfold idxP
  rw [List.findIdx?_eq_some_iff_getElem.2 ⟨hk, h1, fun j hj => by simp [h2 j hj]⟩]
theorem idxP_any (l : List Int) : decide ((0 : Int) ≤ idxP l) = l.any outP := by
  unfold idxP
  cases h : l.findIdx? outP with
  | none =>
    rw [List.findIdx?_eq_none_iff] at h
    have : l.any outP = false := by rw [List.any_eq_false]; intro x hx; simp [h x hx]
    rw [this]; rfl
  | some k =>
    rw [List.findIdx?_eq_some_iff_getElem] at h
    obtain ⟨hk, h1, _⟩ := h
    have : l.any outP = true := List.any_eq_true.2 ⟨l[k], List.getElem_mem hk, h1⟩
    rw [this]
    exact decide_eq_true (by simp)
theorem rd_int {w : World} {A : Option Addr} {l : List Int} (h : Rd w A (l.map iv)) {k : Nat} (hk : k < l.length) : ∃ ad, A = some ad ∧ w.cell? (ad.add k) = some (.int .i64 l[k]) := by
  obtain ⟨ad, e, hc⟩ := h.at_ (k := k) (by simpa using hk)
  rw [List.getElem_map] at hc
  exact ⟨ad, e, hc⟩

set_option maxHeartbeats 2000000 in
theorem pindex_any (A : Option Addr) (c : Nat) (l : List Int) (w : World) (hA : Rd w A (l.map iv)) (hl : l.length ≤ 1000000) :
    Calls Tryd.prog 76 #[.slice A l.length c, .func (.func 62) #[] #[]] w fun e w' => e = .returned (.int .i64 (idxP l)) ∧ w = w' := by
  have hli : (l.length : Int) ≤ 1000000 := by omega
  go_enter Tryd.func76, Tryd.ntmps76
  go_wp2
  go_loop [8] (fun i => ∃ k : Nat, k ≤ l.length ∧ i = .int .i64 (k : Int) ∧ ∀ j (hj : j < l.length), j < k → outP l[j] = false) (fun i => l.length - (intOf i).toNat)
  case atStart => exact ⟨0, Nat.zero_le _, rfl, fun j _ h => absurd h (by omega)⟩
  case round =>
    obtain ⟨k, hk, rfl, hno⟩ := hrel
    have Hno := Lib.hid hno
    by_cases hlt : k < l.length
    · have hki : (k : Int) < (l.length : Int) := by omega
      obtain ⟨ad, rfl, hcell⟩ := rd_int hA hlt
      have HI : Hid (outP l[k] = true → idxP l = (k : Int)) := Lib.hid (fun h => idxP_some hlt h (fun j hj => hno j (by omega) hj))
      have HF : Hid (outP l[k] = false → ∀ j (hj : j < l.length), j < k + 1 → outP l[j] = false) := Lib.hid (fun h j hj hj2 => by
        rcases Nat.lt_succ_iff_lt_or_eq.1 hj2 with h3 | rfl
        · exact hno j hj h3
        · exact h)
      have HL := Lib.hid (outside_any l[k] w)
      clear hno
      generalize l[k] = x at *
      generalize outP x = v at *
      go_wp2_with fail
      refine HL.out.mono ?_
      rintro e w' ⟨rfl, rfl⟩
      cases v with
      | true =>
        have Hi := Lib.hid (HI.out rfl)
        go_wp2
        go_ret
        exact ⟨by rw [Hi.out]; rfl, rfl⟩
      | false =>
        have Hf := Lib.hid (HF.out rfl)
        clear HF HI
        go_wp2
        go_round
        case rel => exact ⟨k + 1, by omega, by go_num, Hf.out⟩
        case measure => simp [intOf]; omega
    · obtain rfl : k = l.length := by omega
      have hi : idxP l = -1 := idxP_none (fun s hs => by
        obtain ⟨j, hj, rfl⟩ := List.mem_iff_getElem.1 hs
        exact hno j hj hj)
      have Hi := Lib.hid hi
      clear hno hi
      go_wp2
      go_ret
      exact ⟨by rw [Hi.out]; rfl, rfl⟩
theorem pcontains_any (A : Option Addr) (c : Nat) (l : List Int) (w : World) (hA : Rd w A (l.map iv)) (hl : l.length ≤ 1000000) :
    Calls Tryd.prog 63 #[.slice A l.length c, .func (.func 62) #[] #[]] w fun e w' => e = .returned (.bool (l.any outP)) ∧ w = w' := by
  have HI := Lib.hid (pindex_any A c l w hA hl)
  have Hd := Lib.hid (idxP_any l)
  generalize idxP l = v at *
  go_enter Tryd.func63, Tryd.ntmps63
  go_wp2_with fail
  refine HI.out.mono ?_
  rintro e w' ⟨rfl, rfl⟩
  go_wp2
  go_ret
  exact ⟨by rw [← Hd.out]; rfl, rfl⟩

theorem folded_any (d : Int) (h0 : -1099511627776 ≤ d) (h1 : d ≤ 1099511627776) (w : World) : Calls Tryd.prog 71 #[.int .i64 d] w fun e w' => e = .returned (.int .i64 (foldP d)) ∧ w = w' := by
  unfold foldP
  by_cases h : d < 0
  · have d1 : decide (d < 0) = true := decide_eq_true h
    have f1 : IntKind.i64.wrap (-2 * d) = -2 * d := IntWalk.i64_in _ (by omega)
    have f2 : IntKind.i64.wrap (-2 * d - 1) = -2 * d - 1 := IntWalk.i64_in _ (by omega)
    rw [if_pos h]
    go_enter Tryd.func71, Tryd.ntmps71
    go_wp2
    go_ret
    exact ⟨by first | rfl | (rw [f1, f2]) | simp, rfl⟩
  · have d1 : decide (d < 0) = false := decide_eq_false h
    have f1 : IntKind.i64.wrap (2 * d) = 2 * d := IntWalk.i64_in _ (by omega)
    rw [if_neg h]
    go_enter Tryd.func71, Tryd.ntmps71
    go_wp2
    go_ret
    exact ⟨by first | rfl | (rw [f1]) | simp, rfl⟩
theorem unfolded_any (n : Int) (h0 : 0 ≤ n) (h1 : n ≤ 4611686018427387904) (w : World) : Calls Tryd.prog 72 #[.int .i64 n] w fun e w' => e = .returned (.int .i64 (unfP n)) ∧ w = w' := by
  unfold unfP
  have t1 : n.tmod 2 = n % 2 := Int.tmod_eq_emod_of_nonneg h0
  have t2 : n.tdiv 2 = n / 2 := Int.tdiv_eq_ediv_of_nonneg h0
  by_cases h : n % 2 = 1
  · rw [if_pos h]
    have f1 : IntKind.i64.wrap (n / 2 + 1) = n / 2 + 1 := IntWalk.i64_in _ (by omega)
    have f2 : IntKind.i64.wrap (-(n / 2 + 1)) = -(n / 2 + 1) := IntWalk.i64_in _ (by omega)
    go_enter Tryd.func72, Tryd.ntmps72
    go_wp2
    go_ret
    exact ⟨by first | rfl | (rw [f1, f2]) | simp, rfl⟩
  · have h2 : n % 2 = 0 := by omega
    rw [if_neg h]
    go_enter Tryd.func72, Tryd.ntmps72
    go_wp2
    go_ret
    exact ⟨by first | rfl | (rw [f1]) | simp, rfl⟩
end Go.Proofs.YtpjgkacekelkdaaDoor

/-
  Numbers laid, each as it is and by the one ahead (program). No statement of the seat is proved here.
-/
namespace Go.Proofs.YtpjgkacekelkdaaDoor
open Go Go.RowKit
set_option maxRecDepth 100000

theorem ptwo (a b : Int) : [a, b].map iv = [Value.int .i64 a, .int .i64 b] := rfl
theorem rdf_old {w W : World} {A : Option Addr} {xs : List Value} {fp : Nat → Prop} (h : Rd w A xs) (hb : Below w.heap.size w W) (hf : ∀ k, fp k → w.heap.size ≤ k) : RdF fp W A xs := ⟨h.ext hb, (RdF.fresh h hf).2⟩
theorem wr_more {W2 w3 : World} {g : Nat} {xs : List Value} {a : World} (h2 : W2.heap.size ≤ a.heap.size) (hr3 : Wr w3 (More (fun k => k = g) a w3) g xs) : Wr w3 (More (fun k => k = g) W2 w3) g xs := hr3.mono (fun k hk _ => by
  rcases hk with hk | hk
  · exact .inl hk
  · exact .inr ⟨by have := hk.1; omega, hk.2⟩)

set_option maxHeartbeats 4000000 in
theorem plain_any (A : Option Addr) (c : Nat) (l : List Int) (w : World) (hA : Rd w A (l.map iv)) (hm : mayP l = true) :
    Calls Tryd.prog 49 #[.slice A l.length c] w fun e w' => ∃ A' c', e = .returned (.slice A' (plainP l).length c') ∧ New w w' A' c' (plainP l) ∧ Below w.heap.size w w' := by
  obtain ⟨hl, hv⟩ := (mayP_iff l).1 hm
  have hli : (l.length : Int) ≤ 32768 := by omega
  have HP : Hid (plainP l = numsB [0, (l.length : Int)] ++ numsB l) := Lib.hid rfl
  have HN2 : Hid ((numsB [0, (l.length : Int)]).length ≤ 18) := Lib.hid (by
    have := numsTo_len [0, (l.length : Int)] 2
    rw [show numsTo [0, (l.length : Int)] 2 = numsB [0, (l.length : Int)] from numsTo_all _] at this
    exact this)
  have HNl : Hid ((numsB l).length ≤ 9 * l.length) := Lib.hid (by
    have := numsTo_len l l.length
    rw [numsTo_all] at this
    exact this)
  have HA := Lib.hid hA
  have HV := Lib.hid hv
  have Hl := Lib.hid hl
  generalize plainP l = P at *
  obtain ⟨W2, hW2⟩ : ∃ W2, W2 = w.alloc (.cells #[.slice none 0 0] 56) := ⟨_, rfl⟩
  have HWr : Hid (Wr W2 (fun k => k = w.heap.size) w.heap.size []) := Lib.hid (by rw [hW2]; exact Wr.new w _ rfl)
  have HZ2 : Hid (W2.heap.size = w.heap.size + 1) := Lib.hid (by rw [hW2, World.size_alloc])
  have Hb2 : Hid (Below w.heap.size w W2) := Lib.hid (by rw [hW2]; exact ext_alloc (Below.refl _ _) _)
  have HW2 := Lib.hid hW2
  obtain ⟨g, hg⟩ : ∃ g, w.heap.size = g := ⟨_, rfl⟩
  clear hW2 hA hv hm hl
  go_enter Tryd.func49, Tryd.ntmps49
  go_wp2_with fail
  rw [← HW2.out]
  rw [hg] at HWr HZ2
  have Hg := Lib.hid hg
  clear hg
  refine (nums_any (fun k => k = g) g (some ⟨g + 1, 0, none⟩) 2 2 [0, (l.length : Int)] [] _ (HWr.out.alloc _) rfl (RdF.lit W2 #[.int .i64 0, .int .i64 (l.length : Int)] _ HZ2.out.symm (by omega)) (by
    intro v hv
    simp only [List.mem_cons, List.not_mem_nil, or_false] at hv
    rcases hv with rfl | rfl
    · exact ⟨by omega, by omega⟩
    · exact ⟨by omega, by omega⟩) (by simp)).mono ?_
  rintro e w3 ⟨rfl, hr3, ho3⟩
  obtain ⟨N, hN⟩ : ∃ N, numsB [0, (l.length : Int)] = N := ⟨_, rfl⟩
  rw [hN] at hr3 HP HN2
  rw [List.nil_append] at hr3
  have hO3 : Only (fun k => k = g) W2 w3 := ((Only.refl _ _).alloc _).trans ho3 (fun _ _ h => h)
  have HR3 : Hid (Wr w3 (More (fun k => k = g) W2 w3) g (N.map bv)) := Lib.hid (wr_more (by simp) hr3)
  have HO3 := Lib.hid hO3
  have HK : Hid (∀ W, Only (fun k => k = g) W2 W → Below w.heap.size w W) := Lib.hid (fun W ho => Hb2.out.trans (ho.below (fun i hi => by have := Hg.out; omega) Hb2.out.size))
  clear hN hr3 ho3 hO3
  go_wp2_with fail
  refine (nums_any (More (fun k => k = g) W2 w3) g A l.length c l _ w3 HR3.out rfl (rdf_old HA.out (HK.out _ HO3.out) (fun k hk => by
    rcases hk with rfl | hk
    · have := Hg.out; omega
    · have h1 := hk.1; have h2 := HZ2.out; have := Hg.out; omega)) (fun v hv => by have := HV.out v hv; exact ⟨by omega, by omega⟩) (by rw [List.length_map]; have := HN2.out; have := Hl.out; omega)).mono ?_
  rintro e w4 ⟨rfl, hr4, ho4⟩
  have hR4 : Wr w4 (More (fun k => k = g) W2 w4) g ((N ++ numsB l).map bv) := by
    rw [List.map_append]
    exact Wr.join HO3.out.size (Nat.le_refl _) ho4.size hr4
  have hO4 := HO3.out.join ho4
  have HF := Lib.hid (out_any _ g (N ++ numsB l) w4 hR4 (by rw [List.length_append]; have := HN2.out; have := HNl.out; have := Hl.out; omega))
  rw [← HP.out] at HF
  have Hbw := Lib.hid (HK.out w4 hO4)
  clear hr4 ho4 hR4 hO4
  go_wp2_with fail
  refine HF.out.mono ?_
  rintro e w5 ⟨A5, c5, rfl, hn5, hb5⟩
  have Hn5 := Lib.hid (hn5.back Hbw.out.size)
  have Hb5 := Lib.hid (ext_trans Hbw.out hb5)
  clear hn5 hb5
  go_wp2
  go_ret
  exact ⟨A5, c5, rfl, Hn5.out, Hb5.out⟩

theorem numsB_one (v : Int) : numsB [v] = dig (clamp v) := by simp [numsB]
theorem dig_nine (v : Int) : (numsB [v]).length ≤ 9 := by
  have := numsTo_len [v] 1
  rw [show numsTo [v] 1 = numsB [v] from numsTo_all _] at this
  exact this
theorem numsB_len9 (l : List Int) : (numsB l).length ≤ 9 * l.length := by
  have := numsTo_len l l.length
  rw [numsTo_all] at this
  exact this

set_option maxHeartbeats 8000000 in
theorem delta_any (A : Option Addr) (c : Nat) (l : List Int) (w : World) (hA : Rd w A (l.map iv)) (hm : mayP l = true) :
    Calls Tryd.prog 51 #[.slice A l.length c] w fun e w' => ∃ A' c', e = .returned (.slice A' (deltaP l).length c') ∧ New w w' A' c' (deltaP l) ∧ Below w.heap.size w w' := by
  obtain ⟨hl, hv⟩ := (mayP_iff l).1 hm
  have hli : (l.length : Int) ≤ 32768 := by omega
  have HP : Hid (deltaP l = numsB [1, (l.length : Int)] ++ numsB (deltasTo l l.length)) := Lib.hid rfl
  have HN2 : Hid ((numsB [1, (l.length : Int)]).length ≤ 18) := Lib.hid (by
    have := numsTo_len [1, (l.length : Int)] 2
    rw [show numsTo [1, (l.length : Int)] 2 = numsB [1, (l.length : Int)] from numsTo_all _] at this
    exact this)
  have HNl : Hid (∀ k, (numsB (deltasTo l k)).length ≤ 9 * k) := Lib.hid (fun k => by
    have := numsB_len9 (deltasTo l k)
    rw [deltasTo_len] at this
    exact this)
  have HA := Lib.hid hA
  have HV := Lib.hid hv
  have Hl := Lib.hid hl
  generalize deltaP l = P at *
  obtain ⟨W2, hW2⟩ : ∃ W2, W2 = w.alloc (.cells #[.slice none 0 0] 56) := ⟨_, rfl⟩
  have HWr : Hid (Wr W2 (fun k => k = w.heap.size) w.heap.size []) := Lib.hid (by rw [hW2]; exact Wr.new w _ rfl)
  have HZ2 : Hid (W2.heap.size = w.heap.size + 1) := Lib.hid (by rw [hW2, World.size_alloc])
  have Hb2 : Hid (Below w.heap.size w W2) := Lib.hid (by rw [hW2]; exact ext_alloc (Below.refl _ _) _)
  have HW2 := Lib.hid hW2
  obtain ⟨g, hg⟩ : ∃ g, w.heap.size = g := ⟨_, rfl⟩
  clear hW2 hA hv hm hl
  go_enter Tryd.func51, Tryd.ntmps51
  go_wp2_with fail
  rw [← HW2.out]
  rw [hg] at HWr HZ2
  have Hg := Lib.hid hg
  clear hg
  refine (nums_any (fun k => k = g) g (some ⟨g + 1, 0, none⟩) 2 2 [1, (l.length : Int)] [] _ (HWr.out.alloc _) rfl (RdF.lit W2 #[.int .i64 1, .int .i64 (l.length : Int)] _ HZ2.out.symm (by omega)) (by
    intro v hv
    simp only [List.mem_cons, List.not_mem_nil, or_false] at hv
    rcases hv with rfl | rfl
    · exact ⟨by omega, by omega⟩
    · exact ⟨by omega, by omega⟩) (by simp)).mono ?_
  rintro e w3 ⟨rfl, hr3, ho3⟩
  obtain ⟨N, hN⟩ : ∃ N, numsB [1, (l.length : Int)] = N := ⟨_, rfl⟩
  rw [hN] at hr3 HP HN2
  rw [List.nil_append] at hr3
  have hO3 : Only (fun k => k = g) W2 w3 := ((Only.refl _ _).alloc _).trans ho3 (fun _ _ h => h)
  have HR3 : Hid (Wr w3 (More (fun k => k = g) W2 w3) g (N.map bv)) := Lib.hid (wr_more (by simp) hr3)
  have HO3 := Lib.hid hO3
  have HK : Hid (∀ W, Only (fun k => k = g) W2 W → Below w.heap.size w W) := Lib.hid (fun W ho => Hb2.out.trans (ho.below (fun i hi => by have := Hg.out; omega) Hb2.out.size))
  clear hN hr3 ho3 hO3
  go_wp2
  go_loopw [13, 4] (fun i a wr => ∃ k : Nat, k ≤ l.length ∧ i = .int .i64 (k : Int) ∧ a = .int .i64 (prevP l k) ∧ Wr wr (More (fun k => k = g) W2 wr) g ((N ++ numsB (deltasTo l k)).map bv) ∧ Only (fun k => k = g) W2 wr) (fun i _ _ => l.length - (intOf i).toNat)
  case atStart => exact ⟨0, Nat.zero_le _, rfl, rfl, by simpa [deltasTo, numsB] using HR3.out, HO3.out⟩
  case round =>
    obtain ⟨k, hk, rfl, rfl, hr, ho⟩ := hrel
    have Hr := Lib.hid hr
    have Ho := Lib.hid ho
    by_cases hlt : k < l.length
    · have hki : (k : Int) < (l.length : Int) := by omega
      obtain ⟨ad, hB, hcell⟩ := rd_int (HA.out.ext (HK.out wr ho)) hlt
      subst hB
      have hgd : l.getD k 0 = l[k] := by rw [List.getD_eq_getElem?_getD, List.getElem?_eq_getElem hlt]; rfl
      have Hpk : Hid (prevP l (k + 1) = l[k]) := Lib.hid (by unfold prevP; rw [if_neg (by omega), Nat.add_sub_cancel, hgd])
      have Hsn : Hid (N ++ numsB (deltasTo l (k + 1)) = (N ++ numsB (deltasTo l k)) ++ numsB [foldP (l[k] - prevP l k)]) := Lib.hid (by rw [deltasTo_succ, hgd, numsB_append, List.append_assoc])
      have h1 := HV.out _ (List.getElem_mem hlt)
      have h2 := prevP_ok HV.out hlt
      have h3 := fold_ok HV.out hlt
      rw [hgd] at h3
      have hw1 : IntKind.i64.wrap (l[k] - prevP l k) = l[k] - prevP l k := IntWalk.i64_in _ (by omega)
      have HFo := Lib.hid (folded_any (l[k] - prevP l k) (by omega) (by omega) wr)
      generalize foldP (l[k] - prevP l k) = F at *
      generalize prevP l k = p at *
      generalize l[k] = x at *
      have H3 := Lib.hid h3
      clear hr ho hgd h3
      go_wp2_with fail

      refine HFo.out.mono ?_
      rintro e w' ⟨rfl, rfl⟩
      go_wp2_with fail
      refine (nums_any (More (fun k => k = g) W2 wr) g _ 1 1 [F] ((N ++ numsB (deltasTo l k)).map bv) _ (Hr.out.alloc _) rfl (RdF.lit wr #[.int .i64 F] _ rfl (fun hm => ?_)) (by
        intro v hv
        simp only [List.mem_cons, List.not_mem_nil, or_false] at hv
        subst hv
        have := H3.out
        exact ⟨by omega, by omega⟩) (by simp only [List.length_map, List.length_append, List.length_cons, List.length_nil]; have := HNl.out k; have := HN2.out; have := Hl.out; omega)).mono ?_
      · rcases hm with hm | hm
        · have h1 := Ho.out.size; have h2 := HZ2.out; omega
        · have := hm.2; omega
      rintro e w4 ⟨rfl, hr4, ho4⟩
      have hOb : Only (fun k => k = g) W2 (wr.alloc (.cells #[.int .i64 F] 3)) := Ho.out.alloc _
      have hR4 : Wr w4 (More (fun k => k = g) W2 w4) g ((N ++ numsB (deltasTo l (k + 1))).map bv) := by
        rw [Hsn.out, List.map_append]
        exact Wr.join Ho.out.size (by rw [World.size_alloc]; omega) ho4.size hr4
      have hO4 := hOb.join ho4
      have HR4 := Lib.hid hR4
      have HO4 := Lib.hid hO4
      clear hr4 ho4 hOb hR4 hO4
      go_wp2
      go_roundw
      case rel => exact ⟨k + 1, by omega, by go_num, by rw [Hpk.out], HR4.out, HO4.out⟩
      case measure => simp [intOf]; omega
    · obtain rfl : k = l.length := by omega
      have HF := Lib.hid (out_any _ g (N ++ numsB (deltasTo l l.length)) wr Hr.out (by rw [List.length_append]; have := HN2.out; have := HNl.out l.length; have := Hl.out; omega))
      rw [← HP.out] at HF
      have Hbw := Lib.hid (HK.out wr Ho.out)
      clear hr ho
      go_wp2_with fail
      refine HF.out.mono ?_
      rintro e w5 ⟨A5, c5, rfl, hn5, hb5⟩
      have Hn5 := Lib.hid (hn5.back Hbw.out.size)
      have Hb5 := Lib.hid (ext_trans Hbw.out hb5)
      clear hn5 hb5
      go_wp2
      go_ret
      exact ⟨A5, c5, rfl, Hn5.out, Hb5.out⟩
end Go.Proofs.YtpjgkacekelkdaaDoor

/-
  Numbers as the longest runs, and laid so (program). No statement of the seat is proved here.
-/
namespace Go.Proofs.YtpjgkacekelkdaaDoor
open Go Go.RowKit
set_option maxRecDepth 100000

/-! ### rows of two numbers -/
def encQ (p : Nat × Int) : List Value := [iv (p.1 : Int), iv p.2]
def cellsQ (l : List (Nat × Int)) : List Value := l.flatMap encQ
theorem cellsQ_length (l : List (Nat × Int)) : (cellsQ l).length = l.length * 2 := by
  induction l with
  | nil => rfl
  | cons x r ih =>
    have : cellsQ (x :: r) = encQ x ++ cellsQ r := rfl
    rw [this, List.length_append, ih]; simp [encQ]; omega
theorem cellsQ_append (a b : List (Nat × Int)) : cellsQ (a ++ b) = cellsQ a ++ cellsQ b := by unfold cellsQ; rw [List.flatMap_append]
theorem cellsQ_at (l : List (Nat × Int)) (k : Nat) (h : k < l.length) : (cellsQ l)[k * 2]? = some (iv (l[k].1 : Int)) ∧ (cellsQ l)[k * 2 + 1]? = some (iv l[k].2) := by
  have e : cellsQ l = cellsQ (l.take k) ++ (encQ l[k] ++ cellsQ (l.drop (k + 1))) := by
    conv => lhs; rw [← List.take_append_drop k l, cellsQ_append, List.drop_eq_getElem_cons h]
    rfl
  have hl : (cellsQ (l.take k)).length = k * 2 := by rw [cellsQ_length, List.length_take]; congr 1; omega
  rw [e]
  constructor
  · rw [List.getElem?_append_right (by omega), hl, Nat.sub_self]; rfl
  · rw [List.getElem?_append_right (by omega), hl, Nat.add_sub_cancel_left]; rfl
theorem cellsQ_set (l : List (Nat × Int)) (a b : Nat) (h : Int) : (cellsQ (l ++ [(a, h)])).set (l.length * 2) (iv (b : Int)) = cellsQ (l ++ [(b, h)]) := by
  rw [cellsQ_append, cellsQ_append, List.set_append, if_neg (by rw [cellsQ_length]; omega), cellsQ_length, Nat.sub_self]
  rfl
theorem rd_two {w : World} {A : Option Addr} {l : List (Nat × Int)} (h : Rd w A (cellsQ l)) {k : Nat} (hk : k < l.length) :
    ∃ ad, A = some ad ∧ w.cell? (ad.add (k * 2)) = some (.int .i64 (l[k].1 : Int)) ∧ w.cell? (ad.add (k * 2 + 1)) = some (.int .i64 l[k].2) := by
  obtain ⟨h1, h2⟩ := cellsQ_at l k hk
  obtain ⟨ad, e, c1⟩ := h _ _ h1
  obtain ⟨ad', e', c2⟩ := h _ _ h2
  rw [e] at e'; injection e' with e'; subst e'
  exact ⟨ad, e, c1, c2⟩
theorem RowO.cellQ {w : World} {e : TypeId} {A : Option Addr} {m c : Nat} {l : List (Nat × Int)} (h : RowO w e 2 A m c (cellsQ l)) {k : Nat} (hk : k < l.length) :
    ∃ g o, A = some ⟨g, o, none⟩ ∧ w.cell? ⟨g, o + k * 2, none⟩ = some (.int .i64 (l[k].1 : Int)) ∧ w.cell? ⟨g, o + k * 2 + 1, none⟩ = some (.int .i64 l[k].2) := by
  obtain ⟨ad, e, c1, c2⟩ := rd_two h.rd hk
  obtain ⟨g, o, rfl⟩ := h.flat ad e
  rw [Addr.add_mid] at c1 c2
  rw [← Nat.add_assoc] at c2
  exact ⟨g, o, e, c1, c2⟩
theorem info_run : (Tryd.prog.info? 115).map (fun i => (i.zero, i.size, i.bytes)) = some (some (.agg #[.int .i64 0, .int .i64 0]), 2, 16) := by kernel_rfl

set_option maxHeartbeats 4000000 in
theorem runsOf_any (A : Option Addr) (c : Nat) (l : List Int) (w : World) (hA : Rd w A (l.map iv)) (hl : l.length ≤ 32768) :
    Calls Tryd.prog 73 #[.slice A l.length c] w fun e w' => ∃ A' c', e = .returned (.slice A' (runsP l).length c') ∧ NewO w w' 115 2 A' (runsP l).length c' (cellsQ (runsP l)) := by
  have hli : (l.length : Int) ≤ 32768 := by omega
  have HP : Hid (runsP l = runsTo l l.length) := Lib.hid rfl
  have HA := Lib.hid hA
  generalize runsP l = P at *
  clear hA
  go_enter Tryd.func73, Tryd.ntmps73
  go_wp2
  go_loopw [3, 8] (fun s i wr => ∃ (k : Nat) (R : List (Nat × Int)) (B : Option Addr) (c : Nat), k ≤ l.length ∧ i = .int .i64 (k : Int) ∧ R = runsTo l k ∧ s = .slice B R.length c ∧ NewO w wr 115 2 B R.length c (cellsQ R)) (fun _ i _ => l.length - (intOf i).toNat)
  case atStart => exact ⟨0, [], none, 0, by omega, rfl, rfl, rfl, NewO.start _ _ _⟩
  case round =>
    obtain ⟨k, R, B, cR, hk, rfl, hR, rfl, hN⟩ := hrel
    by_cases hlt : k < l.length
    · have hki : (k : Int) < (l.length : Int) := by omega
      have hrl := runsTo_len l k
      rw [← hR] at hrl
      have hgd : l.getD k 0 = l[k] := by rw [List.getD_eq_getElem?_getD, List.getElem?_eq_getElem hlt]; rfl
      have hrd := HA.out.ext hN.bel
      obtain ⟨ad, hB, hcell⟩ := rd_int hrd hlt
      subst hB
      have hm1 : R.length + 1 ≤ maxLen := by unfold maxLen; omega
      have hm2 : (R.length + 1) * 16 ≤ 140737488355328 := by omega
      have hlast : ((R.length + 1 : Nat) : Int) - 1 = (R.length : Int) := by omega
      by_cases hnew : k = 0 ∨ l.getD (k - 1) 0 ≠ l.getD k 0
      · have Hsn : Hid (runsTo l (k + 1) = R ++ [(1, l[k])]) := Lib.hid (by rw [runsTo_new l k hnew, hgd, hR])
        have HN := Lib.hid hN
        rcases Nat.eq_zero_or_pos k with hk0 | hk0
        · subst hk0
          generalize l[0] = x at *
          have hz : ad.add 0 = ad := by simp [Addr.add]
          rw [hz] at hcell
          clear hz
          clear hR hnew hgd hrd
          go_wp2_with (at_builtin
                       refine wpList_app_new rfl (.tmp 24) (.tmp 27) _ rfl 115 _ 2 16 Tryd.underlying112 info_run rfl B _ cR _ HN.out (ext_alloc (Below.refl _ _) _) rfl ⟨wr.heap.size, 0, none⟩ 1 [.int .i64 0, .int .i64 x] rfl rfl (Rd.lit _ #[.int .i64 0, .int .i64 x] _) ?_ hm1 hm2 ?_
                       · simp; exact ⟨rfl, rfl⟩
                       intro A3 c3 w3 hN3 hb3
                       have hN4 : NewO w w3 115 2 A3 (R.length + 1) c3 (cellsQ (R ++ [(0, x)])) := by rw [cellsQ_append]; exact hN3
                       obtain ⟨g, o, hA3, q1, q2⟩ := hN4.row.cellQ (k := R.length) (by simp)
                       subst hA3
                       simp only [List.getElem_append_right (Nat.le_refl _), Nat.sub_self, List.getElem_cons_zero] at q1
                       have hfr := hN4.row.free (o + R.length * 2)
                       have hN5 := hN4.set (R.length * 2) (by rw [cellsQ_length, List.length_append, List.length_singleton]; omega) (iv ((1 : Nat) : Int))
                       rw [cellsQ_set] at hN5
                       have HN5 := Lib.hid hN5
                       clear hN3 hb3 hN4 hN5 q2)
          go_roundw
          case rel => exact ⟨1, R ++ [(1, x)], some ⟨g, o, none⟩, c3, by omega, by go_num, Hsn.out.symm, by simp, by rw [List.length_append]; exact HN5.out⟩
          case measure => simp [intOf]; omega
        · have hne : l.getD (k - 1) 0 ≠ l.getD k 0 := by
            rcases hnew with h | h
            · omega
            · exact h
          have hlt1 : k - 1 < l.length := by omega
          obtain ⟨ad', hB, hcell1⟩ := rd_int hrd hlt1
          injection hB with hB
          subst hB
          have hgd1 : l.getD (k - 1) 0 = l[k - 1] := by rw [List.getD_eq_getElem?_getD, List.getElem?_eq_getElem hlt1]; rfl
          rw [hgd, hgd1] at hne
          have hki1 : (k : Int) - 1 = ((k - 1 : Nat) : Int) := by omega
          have hk1i : ((k - 1 : Nat) : Int) < (l.length : Int) := by omega
          have hkz : decide ((k : Int) = 0) = false := decide_eq_false (by omega)
          have hkz2 : ¬ ((k : Int) = 0) := by omega
          generalize l[k - 1] = y at *
          generalize l[k] = x at *
          have hyx : (y != x) = true := by simp [hne]
          clear hR hnew hgd hrd hgd1
          go_wp2_with (at_builtin
                       refine wpList_app_new rfl (.tmp 24) (.tmp 27) _ rfl 115 _ 2 16 Tryd.underlying112 info_run rfl B _ cR _ HN.out (ext_alloc (Below.refl _ _) _) rfl ⟨wr.heap.size, 0, none⟩ 1 [.int .i64 0, .int .i64 x] rfl rfl (Rd.lit _ #[.int .i64 0, .int .i64 x] _) ?_ hm1 hm2 ?_
                       · simp; exact ⟨rfl, rfl⟩
                       intro A3 c3 w3 hN3 hb3
                       have hN4 : NewO w w3 115 2 A3 (R.length + 1) c3 (cellsQ (R ++ [(0, x)])) := by rw [cellsQ_append]; exact hN3
                       obtain ⟨g, o, hA3, q1, q2⟩ := hN4.row.cellQ (k := R.length) (by simp)
                       subst hA3
                       simp only [List.getElem_append_right (Nat.le_refl _), Nat.sub_self, List.getElem_cons_zero] at q1
                       have hfr := hN4.row.free (o + R.length * 2)
                       have hN5 := hN4.set (R.length * 2) (by rw [cellsQ_length, List.length_append, List.length_singleton]; omega) (iv ((1 : Nat) : Int))
                       rw [cellsQ_set] at hN5
                       have HN5 := Lib.hid hN5
                       clear hN3 hb3 hN4 hN5 q2)
          go_roundw
          case rel => exact ⟨k + 1, R ++ [(1, x)], some ⟨g, o, none⟩, c3, by omega, by go_num, Hsn.out.symm, by simp, by rw [List.length_append]; exact HN5.out⟩
          case measure => simp [intOf]; omega
      · have hk0 : 0 < k := by rcases Nat.eq_zero_or_pos k with h | h; exact absurd (.inl h) hnew; exact h
        have heq : l.getD (k - 1) 0 = l.getD k 0 := Classical.not_not.1 fun h => hnew (.inr h)
        have hlt1 : k - 1 < l.length := by omega
        obtain ⟨ad', hB, hcell1⟩ := rd_int hrd hlt1
        injection hB with hB
        subst hB
        have hgd1 : l.getD (k - 1) 0 = l[k - 1] := by rw [List.getD_eq_getElem?_getD, List.getElem?_eq_getElem hlt1]; rfl
        obtain ⟨rs, cc, e1, e2⟩ := runsTo_same l (k - 1) (by rw [show k - 1 + 1 = k by omega]; exact heq)
        rw [show k - 1 + 1 = k by omega] at e1 e2
        rw [show k - 1 + 2 = k + 1 by omega] at e2
        rw [hgd] at e1 e2
        rw [hgd, hgd1] at heq
        have hki1 : (k : Int) - 1 = ((k - 1 : Nat) : Int) := by omega
        have hk1i : ((k - 1 : Nat) : Int) < (l.length : Int) := by omega
        have hkz : decide ((k : Int) = 0) = false := decide_eq_false (by omega)
        have hkz2 : ¬ ((k : Int) = 0) := by omega
        rw [heq] at hcell1
        have hmem := (runsTo_mem l k (by omega) (cc, l[k]) (by rw [e1]; simp)).2.1
        generalize l[k - 1] = y at *
        generalize l[k] = x at *
        obtain rfl : R = rs ++ [(cc, x)] := hR.trans e1
        have HE2 := Lib.hid e2
        obtain ⟨g, o, hA3, q1, q2⟩ := hN.row.cellQ (k := rs.length) (by simp)
        subst hA3
        simp only [List.getElem_append_right (Nat.le_refl _), Nat.sub_self, List.getElem_cons_zero] at q1
        have hfr := hN.row.free (o + rs.length * 2)
        have hN5 := hN.set (rs.length * 2) (by rw [cellsQ_length, List.length_append, List.length_singleton]; omega) (iv ((cc + 1 : Nat) : Int))
        rw [cellsQ_set] at hN5
        have HN5 : Hid (NewO w (wr.setCell ⟨g, o + rs.length * 2, none⟩ (.int .i64 ((cc : Int) + 1))) 115 2 (some ⟨g, o, none⟩) (rs.length + [(cc + 1, x)].length) cR (cellsQ (rs ++ [(cc + 1, x)]))) := Lib.hid (by
          rw [List.length_append] at hN5
          exact hN5)
        rw [List.length_append, List.length_singleton] at hN ⊢ hrl
        have hlast : ((rs.length + 1 : Nat) : Int) - 1 = (rs.length : Int) := by omega
        have hcw : IntKind.i64.wrap ((cc : Int) + 1) = (((cc + 1 : Nat) : Int)) := by rw [show (cc : Int) + 1 = ((cc + 1 : Nat) : Int) by omega]; exact IntWalk.i64_in _ (by simp at hmem; omega)
        clear hR hnew hgd hrd hgd1 hN5 q2 e1 e2 hm1 hm2
        go_wp2
        go_roundw
        case rel => exact ⟨k + 1, rs ++ [(cc + 1, x)], some ⟨g, o, none⟩, cR, by omega, by go_num, HE2.out.symm, by simp, by rw [List.length_append]; exact HN5.out⟩
        case measure => simp [intOf]; omega
    · obtain rfl : k = l.length := by omega
      obtain rfl : R = P := hR.trans HP.out.symm
      go_wp2
      go_ret
      exact ⟨B, cR, rfl, hN⟩
end Go.Proofs.YtpjgkacekelkdaaDoor

/-
  Numbers laid as runs (program). No statement of the seat is proved here.
-/
namespace Go.Proofs.YtpjgkacekelkdaaDoor
open Go Go.RowKit
set_option maxRecDepth 100000

def pairsTo (rs : List (Nat × Int)) (k : Nat) : List UInt8 := pairsB (rs.take k)
theorem pairsTo_succ (rs : List (Nat × Int)) (k : Nat) (h : k < rs.length) : pairsTo rs (k + 1) = pairsTo rs k ++ numsB [(rs[k].1 : Int), rs[k].2] := by
  unfold pairsTo
  rw [take_snoc rs k h]
  unfold pairsB
  rw [List.flatMap_append]
  simp
theorem pairsTo_all (rs : List (Nat × Int)) : pairsTo rs rs.length = pairsB rs := by unfold pairsTo; rw [List.take_length]
theorem nums_two_len (a b : Int) : (numsB [a, b]).length ≤ 18 := numsB_len9 [a, b]
theorem pairsTo_len (rs : List (Nat × Int)) : ∀ k, (pairsTo rs k).length ≤ 18 * k
  | 0 => by simp [pairsTo, pairsB]
  | k + 1 => by
    have ih := pairsTo_len rs k
    by_cases hk : k < rs.length
    · rw [pairsTo_succ rs k hk, List.length_append]
      have := nums_two_len (rs[k].1 : Int) rs[k].2
      omega
    · have e : pairsTo rs (k + 1) = pairsTo rs k := by unfold pairsTo; rw [List.take_of_length_le (by omega), List.take_of_length_le (by omega)]
      rw [e]; omega

set_option maxHeartbeats 8000000 in
theorem runs_any (A : Option Addr) (c : Nat) (l : List Int) (w : World) (hA : Rd w A (l.map iv)) (hm : mayP l = true) :
    Calls Tryd.prog 53 #[.slice A l.length c] w fun e w' => ∃ A' c', e = .returned (.slice A' (runsB l).length c') ∧ New w w' A' c' (runsB l) ∧ Below w.heap.size w w' := by
  obtain ⟨hl, hv⟩ := (mayP_iff l).1 hm
  have HR := Lib.hid (runsOf_any A c l w hA hl)
  have HB := Lib.hid (runsTo_mem l l.length (Nat.le_refl _))
  have hrl := runsTo_len l l.length
  have HP : Hid (runsB l = numsB [2, ((runsTo l l.length).length : Int)] ++ pairsTo (runsTo l l.length) (runsTo l l.length).length) := Lib.hid (by rw [pairsTo_all]; rfl)
  rw [show runsP l = runsTo l l.length from rfl] at HR
  have HV := Lib.hid hv
  generalize runsTo l l.length = rs at *
  generalize runsB l = P at *
  have HN2 : Hid ((numsB [2, (rs.length : Int)]).length ≤ 18) := Lib.hid (nums_two_len _ _)
  have HNl := Lib.hid (pairsTo_len rs)
  have hri : (rs.length : Int) ≤ 32768 := by omega
  have Hrl : Hid (rs.length ≤ 32768) := Lib.hid (by omega)
  have Hl := Lib.hid hl
  clear hA hm hl hv
  go_enter Tryd.func53, Tryd.ntmps53
  go_wp2_with fail
  refine HR.out.mono ?_
  rintro e w1 ⟨AR, cR, rfl, hNR⟩
  have Hb1 := Lib.hid hNR.bel
  have HRd := Lib.hid hNR.row
  obtain ⟨W2, hW2⟩ : ∃ W2, W2 = w1.alloc (.cells #[.slice none 0 0] 56) := ⟨_, rfl⟩
  have HWr : Hid (Wr W2 (fun k => k = w1.heap.size) w1.heap.size []) := Lib.hid (by rw [hW2]; exact Wr.new w1 _ rfl)
  have HZ2 : Hid (W2.heap.size = w1.heap.size + 1) := Lib.hid (by rw [hW2, World.size_alloc])
  have Hb2 : Hid (Below w1.heap.size w1 W2) := Lib.hid (by rw [hW2]; exact ext_alloc (Below.refl _ _) _)
  have HW2 := Lib.hid hW2
  obtain ⟨g, hg⟩ : ∃ g, w1.heap.size = g := ⟨_, rfl⟩
  clear hW2 hNR HR
  go_wp2_with fail
  rw [← HW2.out]
  rw [hg] at HWr HZ2
  have Hg := Lib.hid hg
  clear hg
  refine (nums_any (fun k => k = g) g (some ⟨g + 1, 0, none⟩) 2 2 [2, (rs.length : Int)] [] _ (HWr.out.alloc _) rfl (RdF.lit W2 #[.int .i64 2, .int .i64 (rs.length : Int)] _ HZ2.out.symm (by omega)) (by
    intro v hv
    simp only [List.mem_cons, List.not_mem_nil, or_false] at hv
    rcases hv with rfl | rfl
    · exact ⟨by omega, by omega⟩
    · exact ⟨by omega, by omega⟩) (by simp)).mono ?_
  rintro e w3 ⟨rfl, hr3, ho3⟩
  obtain ⟨N, hN⟩ : ∃ N, numsB [2, (rs.length : Int)] = N := ⟨_, rfl⟩
  rw [hN] at hr3 HP HN2
  rw [List.nil_append] at hr3
  have hO3 : Only (fun k => k = g) W2 w3 := ((Only.refl _ _).alloc _).trans ho3 (fun _ _ h => h)
  have HR3 : Hid (Wr w3 (More (fun k => k = g) W2 w3) g (N.map bv)) := Lib.hid (wr_more (by simp) hr3)
  have HO3 := Lib.hid hO3
  have HK : Hid (∀ W, Only (fun k => k = g) W2 W → Below w1.heap.size w1 W) := Lib.hid (fun W ho => Hb2.out.trans (ho.below (fun i hi => by have := Hg.out; omega) Hb2.out.size))
  clear hN hr3 ho3 hO3
  go_wp2
  go_loopw [15] (fun i wr => ∃ k : Nat, k ≤ rs.length ∧ i = .int .i64 (k : Int) ∧ Wr wr (More (fun k => k = g) W2 wr) g ((N ++ pairsTo rs k).map bv) ∧ Only (fun k => k = g) W2 wr) (fun i _ => rs.length - (intOf i).toNat)
  case atStart => exact ⟨0, Nat.zero_le _, rfl, by simpa [pairsTo, pairsB] using HR3.out, HO3.out⟩
  case round =>
    obtain ⟨k, hk, rfl, hr, ho⟩ := hrel
    have Hr := Lib.hid hr
    have Ho := Lib.hid ho
    by_cases hlt : k < rs.length
    · have hki : (k : Int) < (rs.length : Int) := by omega
      obtain ⟨gr, o, hB, c0, c1⟩ := (HRd.out.ext (HK.out wr ho)).cellQ hlt
      subst hB
      have Hsn : Hid (N ++ pairsTo rs (k + 1) = (N ++ pairsTo rs k) ++ numsB [(rs[k].1 : Int), rs[k].2]) := Lib.hid (by rw [pairsTo_succ rs k hlt, List.append_assoc])
      obtain ⟨b1, b2, b3⟩ := HB.out _ (List.getElem_mem hlt)
      have b4 := HV.out _ b3
      have b5 : rs[k].1 ≤ 32768 := by have := Hl.out; omega
      have HB5 := Lib.hid b5
      have HB4 := Lib.hid b4
      generalize rs[k].1 = cc at *
      generalize rs[k].2 = x at *
      clear hr ho b1 b2 b3 b4 b5
      go_wp2_with fail
      refine (nums_any (More (fun k => k = g) W2 wr) g _ 2 2 [(cc : Int), x] ((N ++ pairsTo rs k).map bv) _ ((Hr.out.alloc _).alloc _) rfl (RdF.lit (wr.alloc _) #[.int .i64 (cc : Int), .int .i64 x] _ (by rw [World.size_alloc]) (fun hm => ?_)) (by
        intro v hv
        simp only [List.mem_cons, List.not_mem_nil, or_false] at hv
        have h4 := HB4.out
        have h5 := HB5.out
        rcases hv with rfl | rfl
        · exact ⟨by omega, by omega⟩
        · exact ⟨by omega, by omega⟩) (by simp only [List.length_map, List.length_append, List.length_cons, List.length_nil]; have := HNl.out k; have := HN2.out; have := Hrl.out; omega)).mono ?_
      · rcases hm with hm | hm
        · have h1 := Ho.out.size; have h2 := HZ2.out; omega
        · have := hm.2; omega
      rintro e w4 ⟨rfl, hr4, ho4⟩
      have hOb := (Ho.out.alloc (.cells #[.int .i64 (cc : Int), .int .i64 x] 115)).alloc (.cells #[.int .i64 (cc : Int), .int .i64 x] 3)
      have hR4 : Wr w4 (More (fun k => k = g) W2 w4) g ((N ++ pairsTo rs (k + 1)).map bv) := by
        rw [Hsn.out, List.map_append]
        exact Wr.join Ho.out.size (by rw [World.size_alloc, World.size_alloc]; omega) ho4.size hr4
      have hO4 := hOb.join ho4
      have HR4 := Lib.hid hR4
      have HO4 := Lib.hid hO4
      clear hr4 ho4 hOb hR4 hO4
      go_wp2
      go_roundw
      case rel => exact ⟨k + 1, by omega, by go_num, HR4.out, HO4.out⟩
      case measure => simp [intOf]; omega
    · obtain rfl : k = rs.length := by omega
      have HF := Lib.hid (out_any _ g (N ++ pairsTo rs rs.length) wr Hr.out (by rw [List.length_append]; have := HN2.out; have := HNl.out rs.length; have := Hrl.out; omega))
      rw [← HP.out] at HF
      have Hbw := Lib.hid (ext_trans Hb1.out (HK.out wr Ho.out))
      clear hr ho
      go_wp2_with fail
      refine HF.out.mono ?_
      rintro e w5 ⟨A5, c5, rfl, hn5, hb5⟩
      have Hn5 := Lib.hid (hn5.back Hbw.out.size)
      have Hb5 := Lib.hid (ext_trans Hbw.out hb5)
      clear hn5 hb5
      go_wp2
      go_ret
      exact ⟨A5, c5, rfl, Hn5.out, Hb5.out⟩
end Go.Proofs.YtpjgkacekelkdaaDoor

/-
  The shortest of three (program). No statement of the seat is proved here.
-/
namespace Go.Proofs.YtpjgkacekelkdaaDoor
open Go Go.RowKit
set_option maxRecDepth 100000

theorem nan_any (a : Int) (w : World) : Calls Tryd.prog 77 #[.int .i64 a] w fun e w' => e = .returned (.bool false) ∧ w = w' := by
  go_enter Tryd.func77, Tryd.ntmps77
  go_wp2
  go_ret
  exact ⟨by simp, rfl⟩
def cmpS (a b : Int) : Int := if a < b then -1 else if b < a then 1 else 0
theorem compare_any (a b : Int) (w : World) : Calls Tryd.prog 66 #[.int .i64 a, .int .i64 b] w fun e w' => e = .returned (.int .i64 (cmpS a b)) ∧ w = w' := by
  have H1 := Lib.hid (fun v => nan_any v w)
  have hv : cmpS a b = (if a < b then -1 else if b < a then 1 else 0) := rfl
  generalize cmpS a b = V at *
  by_cases h : a < b
  · rw [if_pos h] at hv
    subst hv
    go_enter Tryd.func66, Tryd.ntmps66
    go_wp2_with fail
    refine (H1.out a).mono ?_
    rintro e w' ⟨rfl, rfl⟩
    go_wp2_with fail
    refine (H1.out b).mono ?_
    rintro e w' ⟨rfl, rfl⟩
    go_wp2
    go_ret
    exact ⟨rfl, rfl⟩
  · rw [if_neg h] at hv
    by_cases h2 : b < a
    · rw [if_pos h2] at hv
      subst hv
      go_enter Tryd.func66, Tryd.ntmps66
      go_wp2_with fail
      refine (H1.out a).mono ?_
      rintro e w' ⟨rfl, rfl⟩
      go_wp2_with fail
      refine (H1.out b).mono ?_
      rintro e w' ⟨rfl, rfl⟩
      go_wp2
      go_ret
      exact ⟨rfl, rfl⟩
    · rw [if_neg h2] at hv
      subst hv
      go_enter Tryd.func66, Tryd.ntmps66
      go_wp2_with fail
      refine (H1.out a).mono ?_
      rintro e w' ⟨rfl, rfl⟩
      go_wp2_with fail
      refine (H1.out b).mono ?_
      rintro e w' ⟨rfl, rfl⟩
      go_wp2
      go_ret
      exact ⟨rfl, rfl⟩
theorem least_any (A B : Option Addr) (n m c d : Nat) (w : World) : Calls Tryd.prog 65 #[.slice A n c, .slice B m d] w fun e w' => e = .returned (.int .i64 (cmpS (n : Int) (m : Int))) ∧ w = w' := by
  have H1 := Lib.hid (compare_any (n : Int) (m : Int) w)
  go_enter Tryd.func65, Tryd.ntmps65
  go_wp2_with fail
  refine H1.out.mono ?_
  rintro e w' ⟨rfl, rfl⟩
  go_wp2
  go_ret
  exact ⟨rfl, rfl⟩
theorem cmp_neg {n m : Nat} : (cmpS (n : Int) (m : Int) < 0) ↔ n < m := by
  unfold cmpS
  split
  · omega
  · split <;> omega
/-- the shortest of the first so many of three -/
def minK (A1 A2 A3 : Option Addr) (n1 n2 n3 c1 c2 c3 k : Nat) : Value :=
  if k = 1 then .slice A1 n1 c1 else if k = 2 then (if n2 < n1 then .slice A2 n2 c2 else .slice A1 n1 c1)
  else (if n3 < (if n2 < n1 then n2 else n1) then .slice A3 n3 c3 else if n2 < n1 then .slice A2 n2 c2 else .slice A1 n1 c1)

set_option maxHeartbeats 4000000 in
theorem minfunc_any (g : Nat) (A1 A2 A3 : Option Addr) (n1 n2 n3 c1 c2 c3 : Nat) (w : World) (t : TypeId) (hB : Blk w g t #[.slice A1 n1 c1, .slice A2 n2 c2, .slice A3 n3 c3]) :
    Calls Tryd.prog 64 #[.slice (some ⟨g, 0, none⟩) 3 3, .func (.func 65) #[] #[]] w fun e w' =>
      e = .returned (minK A1 A2 A3 n1 n2 n3 c1 c2 c3 3) ∧ w = w' := by
  have k0 := hB.cell 0
  have k1 := hB.cell 1
  have k2 := hB.cell 2
  simp only [List.getElem?_toArray, List.getElem?_cons_zero, List.getElem?_cons_succ] at k0 k1 k2
  have HL := Lib.hid (fun (A B : Option Addr) (n m c d : Nat) => least_any A B n m c d w)
  have M1 : minK A1 A2 A3 n1 n2 n3 c1 c2 c3 1 = .slice A1 n1 c1 := rfl
  have M2 : Hid (minK A1 A2 A3 n1 n2 n3 c1 c2 c3 2 = (if n2 < n1 then .slice A2 n2 c2 else .slice A1 n1 c1)) := Lib.hid rfl
  have M3 : Hid (minK A1 A2 A3 n1 n2 n3 c1 c2 c3 3 = (if n3 < (if n2 < n1 then n2 else n1) then .slice A3 n3 c3 else if n2 < n1 then .slice A2 n2 c2 else .slice A1 n1 c1)) := Lib.hid rfl
  clear hB
  generalize hF : minK A1 A2 A3 n1 n2 n3 c1 c2 c3 = F at *
  clear hF
  go_enter Tryd.func64, Tryd.ntmps64
  go_wp2
  go_loop [5, 6] (fun m i => ∃ k : Nat, 1 ≤ k ∧ k ≤ 3 ∧ i = .int .i64 (k : Int) ∧ m = F k) (fun _ i => 3 - (intOf i).toNat)
  case atStart => exact ⟨1, Nat.le_refl _, by omega, rfl, M1.symm⟩
  case round =>
    obtain ⟨k, hk1, hk3, rfl, rfl⟩ := hrel
    obtain rfl | rfl | rfl : k = 1 ∨ k = 2 ∨ k = 3 := by omega
    · rw [M1]
      have H1 := Lib.hid (HL.out A2 A1 n2 n1 c2 c1)
      by_cases h1 : n2 < n1
      · have q1 := cmp_neg.2 h1
        rw [if_pos h1] at M2
        generalize cmpS (n2 : Int) (n1 : Int) = x1 at *
        clear h1
        go_wp2_with fail
        refine H1.out.mono ?_
        rintro e w' ⟨rfl, rfl⟩
        go_wp2
        go_round
        case rel => exact ⟨2, by omega, by omega, by go_num, M2.out.symm⟩
        case measure => simp [intOf]
      · have q1 : ¬ (cmpS (n2 : Int) (n1 : Int) < 0) := fun h => h1 (cmp_neg.1 h)
        rw [if_neg h1] at M2
        generalize cmpS (n2 : Int) (n1 : Int) = x1 at *
        clear h1
        go_wp2_with fail
        refine H1.out.mono ?_
        rintro e w' ⟨rfl, rfl⟩
        go_wp2
        go_round
        case rel => exact ⟨2, by omega, by omega, by go_num, M2.out.symm⟩
        case measure => simp [intOf]
    · by_cases h1 : n2 < n1
      · rw [M2.out, if_pos h1]
        rw [if_pos h1, if_pos h1] at M3
        have H1 := Lib.hid (HL.out A3 A2 n3 n2 c3 c2)
        by_cases h2 : n3 < n2
        · have q1 := cmp_neg.2 h2
          rw [if_pos h2] at M3
          generalize cmpS (n3 : Int) (n2 : Int) = x1 at *
          clear h1 h2 M2
          go_wp2_with fail
          refine H1.out.mono ?_
          rintro e w' ⟨rfl, rfl⟩
          go_wp2
          go_round
          case rel => exact ⟨3, by omega, by omega, by go_num, M3.out.symm⟩
          case measure => simp [intOf]
        · have q1 : ¬ (cmpS (n3 : Int) (n2 : Int) < 0) := fun h => h2 (cmp_neg.1 h)
          rw [if_neg h2] at M3
          generalize cmpS (n3 : Int) (n2 : Int) = x1 at *
          clear h1 h2 M2
          go_wp2_with fail
          refine H1.out.mono ?_
          rintro e w' ⟨rfl, rfl⟩
          go_wp2
          go_round
          case rel => exact ⟨3, by omega, by omega, by go_num, M3.out.symm⟩
          case measure => simp [intOf]
      · rw [M2.out, if_neg h1]
        rw [if_neg h1, if_neg h1] at M3
        have H1 := Lib.hid (HL.out A3 A1 n3 n1 c3 c1)
        by_cases h2 : n3 < n1
        · have q1 := cmp_neg.2 h2
          rw [if_pos h2] at M3
          generalize cmpS (n3 : Int) (n1 : Int) = x1 at *
          clear h1 h2 M2
          go_wp2_with fail
          refine H1.out.mono ?_
          rintro e w' ⟨rfl, rfl⟩
          go_wp2
          go_round
          case rel => exact ⟨3, by omega, by omega, by go_num, M3.out.symm⟩
          case measure => simp [intOf]
        · have q1 : ¬ (cmpS (n3 : Int) (n1 : Int) < 0) := fun h => h2 (cmp_neg.1 h)
          rw [if_neg h2] at M3
          generalize cmpS (n3 : Int) (n1 : Int) = x1 at *
          clear h1 h2 M2
          go_wp2_with fail
          refine H1.out.mono ?_
          rintro e w' ⟨rfl, rfl⟩
          go_wp2
          go_round
          case rel => exact ⟨3, by omega, by omega, by go_num, M3.out.symm⟩
          case measure => simp [intOf]
    · clear M1 M2 M3
      obtain ⟨V, hV⟩ : ∃ V, F 3 = V := ⟨_, rfl⟩
      rw [hV]
      have HV := Lib.hid hV
      clear hV
      go_wp2
      go_ret
      exact ⟨by rw [HV.out]; rfl, rfl⟩

set_option maxHeartbeats 4000000 in
theorem best_any (A : Option Addr) (c : Nat) (l : List Int) (w : World) (hA : Rd w A (l.map iv)) (hm : mayP l = true) :
    Calls Tryd.prog 35 #[.slice A l.length c] w fun e w' => ∃ A' c', e = .returned (.slice A' (bestP l).length c') ∧ New w w' A' c' (bestP l) ∧ Below w.heap.size w w' := by
  have H1 := Lib.hid (plain_any A c l w hA hm)
  have H2 := Lib.hid (fun (W : World) (hb : Below w.heap.size w W) => delta_any A c l W (hA.ext hb) hm)
  have H3 := Lib.hid (fun (W : World) (hb : Below w.heap.size w W) => runs_any A c l W (hA.ext hb) hm)
  have HP : Hid (bestP l = shortP (shortP (plainP l) (deltaP l)) (runsB l)) := Lib.hid rfl
  generalize bestP l = P at *
  generalize plainP l = P1 at *
  generalize deltaP l = P2 at *
  generalize runsB l = P3 at *
  clear hA hm
  go_enter Tryd.func35, Tryd.ntmps35
  go_wp2_with fail
  refine H1.out.mono ?_
  rintro e w1 ⟨A1, c1, rfl, hn1, hb1⟩
  have Hn1 := Lib.hid hn1
  have Hb1 := Lib.hid hb1
  clear hn1 hb1 H1
  go_wp2_with fail
  refine (H2.out w1 Hb1.out).mono ?_
  rintro e w2 ⟨A2, c2, rfl, hn2, hb2⟩
  have Hn1' := Lib.hid (Hn1.out.ext hb2)
  have Hn2 := Lib.hid (hn2.back Hb1.out.size)
  have Hb2 := Lib.hid (ext_trans Hb1.out hb2)
  clear hn2 hb2 H2 Hn1
  go_wp2_with fail
  refine (H3.out w2 Hb2.out).mono ?_
  rintro e w3 ⟨A3, c3, rfl, hn3, hb3⟩
  have Hn1 := Lib.hid (Hn1'.out.ext hb3)
  have Hn2' := Lib.hid (Hn2.out.ext hb3)
  have Hn3 := Lib.hid (hn3.back Hb2.out.size)
  have Hb3 := Lib.hid (ext_trans Hb2.out hb3)
  clear hn3 hb3 H3 Hn2 Hn1'
  go_wp2_with fail
  refine (minfunc_any w3.heap.size A1 A2 A3 P1.length P2.length P3.length c1 c2 c3 _ _ (Blk.new w3 _ _)).mono ?_
  rintro e w4 ⟨rfl, rfl⟩
  go_wp2
  go_ret
  have hx : Below w3.heap.size w3 (w3.alloc (.cells #[.slice A1 P1.length c1, .slice A2 P2.length c2, .slice A3 P3.length c3] 29)) := (Below.refl _ _).alloc (Nat.le_refl _) _
  have g1 := Hn1.out.ext hx
  have g2 := Hn2'.out.ext hx
  have g3 := Hn3.out.ext hx
  have g4 := ext_trans Hb3.out hx
  have hP := HP.out
  have e3 : minK A1 A2 A3 P1.length P2.length P3.length c1 c2 c3 3 = (if P3.length < (if P2.length < P1.length then P2.length else P1.length) then .slice A3 P3.length c3 else if P2.length < P1.length then .slice A2 P2.length c2 else .slice A1 P1.length c1) := rfl
  rw [e3]
  unfold shortP at hP
  by_cases h1 : P2.length < P1.length
  · rw [if_pos h1] at hP
    rw [if_pos h1, if_pos h1]
    by_cases h2 : P3.length < P2.length
    · rw [if_pos h2] at hP
      rw [if_pos h2, hP]
      exact ⟨A3, c3, rfl, g3, g4⟩
    · rw [if_neg h2] at hP
      rw [if_neg h2, hP]
      exact ⟨A2, c2, rfl, g2, g4⟩
  · rw [if_neg h1] at hP
    rw [if_neg h1, if_neg h1]
    by_cases h2 : P3.length < P1.length
    · rw [if_pos h2] at hP
      rw [if_pos h2, hP]
      exact ⟨A3, c3, rfl, g3, g4⟩
    · rw [if_neg h2] at hP
      rw [if_neg h2, hP]
      exact ⟨A1, c1, rfl, g1, g4⟩
end Go.Proofs.YtpjgkacekelkdaaDoor

/-
  Numbers laid in some way, if they may be (program). No statement of the seat is proved here.
-/
namespace Go.Proofs.YtpjgkacekelkdaaDoor
open Go Go.RowKit
set_option maxRecDepth 100000

/-- what is laid, and the error -/
def ansP (l : List Int) (b : List UInt8) : List UInt8 × Int := if mayP l = true then (b, 0) else ([], 1)
set_option maxHeartbeats 2000000 in
theorem laid_plain (A : Option Addr) (c : Nat) (l : List Int) (w : World) (hA : Rd w A (l.map iv)) :
    Calls Tryd.prog 34 #[.func (.func 49) #[] #[], .slice A l.length c] w fun e w' => ∃ A' c', e = .returned (.tuple #[.slice A' (ansP l (plainP l)).1.length c', .int .i64 (ansP l (plainP l)).2]) ∧ New w w' A' c' (ansP l (plainP l)).1 ∧ Below w.heap.size w w' := by
  have hm := may_out l
  have HF := Lib.hid (plain_any A c l w hA)
  have HA := Lib.hid hA
  clear hA
  by_cases h1 : l.length ≤ 32768
  · have h1i : ¬ ((32768 : Int) < (l.length : Int)) := by omega
    have HC := Lib.hid (pcontains_any A c l w HA.out (by omega))
    rw [decide_eq_true h1, Bool.true_and] at hm
    cases hq : l.any outP with
    | true =>
      have HR : Hid (ansP l (plainP l) = ([], 1)) := Lib.hid (by unfold ansP; rw [hm, hq]; rfl)
      rw [hq] at HC
      clear hm hq HF
      go_enter Tryd.func34, Tryd.ntmps34
      go_wp2_with fail
      refine HC.out.mono ?_
      rintro e w' ⟨rfl, rfl⟩
      go_wp2
      go_ret2
      rw [HR.out]
      exact ⟨none, 0, rfl, Own.none_ _ _ _, Below.refl _ _⟩
    | false =>
      rw [hq] at HC hm
      have HR : Hid (ansP l (plainP l) = (plainP l, 0)) := Lib.hid (by unfold ansP; rw [hm]; rfl)
      have HF2 := Lib.hid (HF.out hm)
      clear hm hq HF
      go_enter Tryd.func34, Tryd.ntmps34
      go_wp2_with fail
      refine HC.out.mono ?_
      rintro e w' ⟨rfl, rfl⟩
      go_wp2_with fail
      refine HF2.out.mono ?_
      rintro e w1 ⟨A1, c1, rfl, hn1, hb1⟩
      have Hn1 := Lib.hid hn1
      have Hb1 := Lib.hid hb1
      clear hn1 hb1
      go_wp2
      go_ret2
      rw [HR.out]
      exact ⟨A1, c1, rfl, Hn1.out, Hb1.out⟩
  · have h1i : (32768 : Int) < (l.length : Int) := by omega
    have HR : Hid (ansP l (plainP l) = ([], 1)) := Lib.hid (by unfold ansP; rw [hm, decide_eq_false h1]; rfl)
    clear hm HF
    go_enter Tryd.func34, Tryd.ntmps34
    go_wp2
    go_ret2
    rw [HR.out]
    exact ⟨none, 0, rfl, Own.none_ _ _ _, Below.refl _ _⟩
set_option maxHeartbeats 2000000 in
theorem laid_delta (A : Option Addr) (c : Nat) (l : List Int) (w : World) (hA : Rd w A (l.map iv)) :
    Calls Tryd.prog 34 #[.func (.func 51) #[] #[], .slice A l.length c] w fun e w' => ∃ A' c', e = .returned (.tuple #[.slice A' (ansP l (deltaP l)).1.length c', .int .i64 (ansP l (deltaP l)).2]) ∧ New w w' A' c' (ansP l (deltaP l)).1 ∧ Below w.heap.size w w' := by
  have hm := may_out l
  have HF := Lib.hid (delta_any A c l w hA)
  have HA := Lib.hid hA
  clear hA
  by_cases h1 : l.length ≤ 32768
  · have h1i : ¬ ((32768 : Int) < (l.length : Int)) := by omega
    have HC := Lib.hid (pcontains_any A c l w HA.out (by omega))
    rw [decide_eq_true h1, Bool.true_and] at hm
    cases hq : l.any outP with
    | true =>
      have HR : Hid (ansP l (deltaP l) = ([], 1)) := Lib.hid (by unfold ansP; rw [hm, hq]; rfl)
      rw [hq] at HC
      clear hm hq HF
      go_enter Tryd.func34, Tryd.ntmps34
      go_wp2_with fail
      refine HC.out.mono ?_
      rintro e w' ⟨rfl, rfl⟩
      go_wp2
      go_ret2
      rw [HR.out]
      exact ⟨none, 0, rfl, Own.none_ _ _ _, Below.refl _ _⟩
    | false =>
      rw [hq] at HC hm
      have HR : Hid (ansP l (deltaP l) = (deltaP l, 0)) := Lib.hid (by unfold ansP; rw [hm]; rfl)
      have HF2 := Lib.hid (HF.out hm)
      clear hm hq HF
      go_enter Tryd.func34, Tryd.ntmps34
      go_wp2_with fail
      refine HC.out.mono ?_
      rintro e w' ⟨rfl, rfl⟩
      go_wp2_with fail
      refine HF2.out.mono ?_
      rintro e w1 ⟨A1, c1, rfl, hn1, hb1⟩
      have Hn1 := Lib.hid hn1
      have Hb1 := Lib.hid hb1
      clear hn1 hb1
      go_wp2
      go_ret2
      rw [HR.out]
      exact ⟨A1, c1, rfl, Hn1.out, Hb1.out⟩
  · have h1i : (32768 : Int) < (l.length : Int) := by omega
    have HR : Hid (ansP l (deltaP l) = ([], 1)) := Lib.hid (by unfold ansP; rw [hm, decide_eq_false h1]; rfl)
    clear hm HF
    go_enter Tryd.func34, Tryd.ntmps34
    go_wp2
    go_ret2
    rw [HR.out]
    exact ⟨none, 0, rfl, Own.none_ _ _ _, Below.refl _ _⟩
set_option maxHeartbeats 2000000 in
theorem laid_runs (A : Option Addr) (c : Nat) (l : List Int) (w : World) (hA : Rd w A (l.map iv)) :
    Calls Tryd.prog 34 #[.func (.func 53) #[] #[], .slice A l.length c] w fun e w' => ∃ A' c', e = .returned (.tuple #[.slice A' (ansP l (runsB l)).1.length c', .int .i64 (ansP l (runsB l)).2]) ∧ New w w' A' c' (ansP l (runsB l)).1 ∧ Below w.heap.size w w' := by
  have hm := may_out l
  have HF := Lib.hid (runs_any A c l w hA)
  have HA := Lib.hid hA
  clear hA
  by_cases h1 : l.length ≤ 32768
  · have h1i : ¬ ((32768 : Int) < (l.length : Int)) := by omega
    have HC := Lib.hid (pcontains_any A c l w HA.out (by omega))
    rw [decide_eq_true h1, Bool.true_and] at hm
    cases hq : l.any outP with
    | true =>
      have HR : Hid (ansP l (runsB l) = ([], 1)) := Lib.hid (by unfold ansP; rw [hm, hq]; rfl)
      rw [hq] at HC
      clear hm hq HF
      go_enter Tryd.func34, Tryd.ntmps34
      go_wp2_with fail
      refine HC.out.mono ?_
      rintro e w' ⟨rfl, rfl⟩
      go_wp2
      go_ret2
      rw [HR.out]
      exact ⟨none, 0, rfl, Own.none_ _ _ _, Below.refl _ _⟩
    | false =>
      rw [hq] at HC hm
      have HR : Hid (ansP l (runsB l) = (runsB l, 0)) := Lib.hid (by unfold ansP; rw [hm]; rfl)
      have HF2 := Lib.hid (HF.out hm)
      clear hm hq HF
      go_enter Tryd.func34, Tryd.ntmps34
      go_wp2_with fail
      refine HC.out.mono ?_
      rintro e w' ⟨rfl, rfl⟩
      go_wp2_with fail
      refine HF2.out.mono ?_
      rintro e w1 ⟨A1, c1, rfl, hn1, hb1⟩
      have Hn1 := Lib.hid hn1
      have Hb1 := Lib.hid hb1
      clear hn1 hb1
      go_wp2
      go_ret2
      rw [HR.out]
      exact ⟨A1, c1, rfl, Hn1.out, Hb1.out⟩
  · have h1i : (32768 : Int) < (l.length : Int) := by omega
    have HR : Hid (ansP l (runsB l) = ([], 1)) := Lib.hid (by unfold ansP; rw [hm, decide_eq_false h1]; rfl)
    clear hm HF
    go_enter Tryd.func34, Tryd.ntmps34
    go_wp2
    go_ret2
    rw [HR.out]
    exact ⟨none, 0, rfl, Own.none_ _ _ _, Below.refl _ _⟩
set_option maxHeartbeats 2000000 in
theorem laid_best (A : Option Addr) (c : Nat) (l : List Int) (w : World) (hA : Rd w A (l.map iv)) :
    Calls Tryd.prog 34 #[.func (.func 35) #[] #[], .slice A l.length c] w fun e w' => ∃ A' c', e = .returned (.tuple #[.slice A' (ansP l (bestP l)).1.length c', .int .i64 (ansP l (bestP l)).2]) ∧ New w w' A' c' (ansP l (bestP l)).1 ∧ Below w.heap.size w w' := by
  have hm := may_out l
  have HF := Lib.hid (best_any A c l w hA)
  have HA := Lib.hid hA
  clear hA
  by_cases h1 : l.length ≤ 32768
  · have h1i : ¬ ((32768 : Int) < (l.length : Int)) := by omega
    have HC := Lib.hid (pcontains_any A c l w HA.out (by omega))
    rw [decide_eq_true h1, Bool.true_and] at hm
    cases hq : l.any outP with
    | true =>
      have HR : Hid (ansP l (bestP l) = ([], 1)) := Lib.hid (by unfold ansP; rw [hm, hq]; rfl)
      rw [hq] at HC
      clear hm hq HF
      go_enter Tryd.func34, Tryd.ntmps34
      go_wp2_with fail
      refine HC.out.mono ?_
      rintro e w' ⟨rfl, rfl⟩
      go_wp2
      go_ret2
      rw [HR.out]
      exact ⟨none, 0, rfl, Own.none_ _ _ _, Below.refl _ _⟩
    | false =>
      rw [hq] at HC hm
      have HR : Hid (ansP l (bestP l) = (bestP l, 0)) := Lib.hid (by unfold ansP; rw [hm]; rfl)
      have HF2 := Lib.hid (HF.out hm)
      clear hm hq HF
      go_enter Tryd.func34, Tryd.ntmps34
      go_wp2_with fail
      refine HC.out.mono ?_
      rintro e w' ⟨rfl, rfl⟩
      go_wp2_with fail
      refine HF2.out.mono ?_
      rintro e w1 ⟨A1, c1, rfl, hn1, hb1⟩
      have Hn1 := Lib.hid hn1
      have Hb1 := Lib.hid hb1
      clear hn1 hb1
      go_wp2
      go_ret2
      rw [HR.out]
      exact ⟨A1, c1, rfl, Hn1.out, Hb1.out⟩
  · have h1i : (32768 : Int) < (l.length : Int) := by omega
    have HR : Hid (ansP l (bestP l) = ([], 1)) := Lib.hid (by unfold ansP; rw [hm, decide_eq_false h1]; rfl)
    clear hm HF
    go_enter Tryd.func34, Tryd.ntmps34
    go_wp2
    go_ret2
    rw [HR.out]
    exact ⟨none, 0, rfl, Own.none_ _ _ _, Below.refl _ _⟩
section
variable (A : Option Addr) (c : Nat) (l : List Int) (w : World) (hA : Rd w A (l.map iv))
include hA
theorem bBest_any : Calls Tryd.prog 17 #[.slice A l.length c] w fun e w' => ∃ A' c', e = .returned (.tuple #[.slice A' (ansP l (bestP l)).1.length c', .int .i64 (ansP l (bestP l)).2]) ∧ New w w' A' c' (ansP l (bestP l)).1 ∧ Below w.heap.size w w' := by
  have H := Lib.hid (laid_best A c l w hA)
  generalize ansP l (bestP l) = R at *
  clear hA
  go_enter Tryd.func17, Tryd.ntmps17
  go_wp2_with fail
  refine H.out.mono ?_
  rintro e w1 ⟨A1, c1, rfl, hn1, hb1⟩
  have Hn1 := Lib.hid hn1
  have Hb1 := Lib.hid hb1
  clear hn1 hb1
  go_wp2
  go_ret2
  exact ⟨A1, c1, rfl, Hn1.out, Hb1.out⟩
end
end Go.Proofs.YtpjgkacekelkdaaDoor

/-
  Bytes as a string, as the laws compare them. No statement of the seat is proved here.
-/
namespace Go.Proofs.YtpjgkacekelkdaaDoor
open Go Go.RowKit

theorem conv_bytes (w : World) (A : Option Addr) (n c : Nat) (bs : List UInt8) (hn : n = bs.length) (hr : Rd w A (bs.map bv)) :
    (convert 29 9 (.slice A n c)).run Tryd.prog w = .ok (.string ⟨bs.toArray⟩) w := by
  subst hn
  rcases A with _ | ad
  · have hnil : bs = [] := by
      rcases bs with _ | ⟨b, r⟩
      · rfl
      · obtain ⟨ad, h0, _⟩ := hr 0 _ rfl
        cases h0
    subst hnil
    exact Lib.run_convert_nil_bytes w _ _ 5 c Tryd.underlying29 Tryd.underlying5 Tryd.underlying9
  · refine run_convert_bytes_back w _ _ 5 ad c bs Tryd.underlying29 Tryd.underlying5 Tryd.underlying9 (fun j hj => ?_)
    obtain ⟨ad', h1, h2⟩ := hr j (bv bs[j]) (by simp [hj])
    injection h1 with h1
    subst h1
    exact h2
end Go.Proofs.YtpjgkacekelkdaaDoor

/-
  bytes.Equal. No statement of the seat is proved here.
-/
namespace Go.Proofs.YtpjgkacekelkdaaDoor
open Go Go.RowKit

theorem eqb_any (A B : Option Addr) (c d : Nat) (xs ys : List UInt8) (w : World) (hx : Rd w A (xs.map bv)) (hy : Rd w B (ys.map bv)) :
    Calls Tryd.prog 57 #[.slice A xs.length c, .slice B ys.length d] w fun e w' => e = .returned (.bool (decide (xs = ys))) ∧ w = w' := by
  have h1 := conv_bytes w A xs.length c xs rfl hx
  have h2 := conv_bytes w B ys.length d ys rfl hy
  by_cases hxy : xs = ys
  · subst hxy
    generalize (⟨xs.toArray⟩ : ByteArray) = Z at h1 h2
    go_enter Tryd.func57, Tryd.ntmps57
    go_wp2
    go_ret
    exact ⟨by simp, rfl⟩
  · have hne : ((⟨xs.toArray⟩ : ByteArray).toList == (⟨ys.toArray⟩ : ByteArray).toList) = false := by
      rw [ByteArray.toList_mk, ByteArray.toList_mk]
      simpa using hxy
    have hfin : decide (xs = ys) = false := by simp [hxy]
    have Hfin := Lib.hid hfin
    clear hfin hxy
    generalize (⟨xs.toArray⟩ : ByteArray) = Z at *
    generalize (⟨ys.toArray⟩ : ByteArray) = Y at *
    go_enter Tryd.func57, Tryd.ntmps57
    go_wp2
    go_ret
    exact ⟨by rw [Hfin.out]; rfl, rfl⟩
end Go.Proofs.YtpjgkacekelkdaaDoor

/-
  Numbers taken, and added up (program). No statement of the seat is proved here.
-/
namespace Go.Proofs.YtpjgkacekelkdaaDoor
open Go Go.RowKit
set_option maxRecDepth 100000

/-- a row of numbers that was made since 'W' -/
structure Fr (W w : World) (A : Option Addr) (c : Nat) (l : List Int) : Prop where
  row : RowO w 3 1 A l.length c (l.map iv)
  new : ∀ k, inA A k → W.heap.size ≤ k
theorem Fr.start (W w : World) : Fr W w none 0 [] := ⟨RowO.none_ _ _ _, fun k hk => absurd hk (inA_none k)⟩
theorem Fr.rd {W w : World} {A : Option Addr} {c : Nat} {l : List Int} (h : Fr W w A c l) : Rd w A (l.map iv) := h.row.rd
theorem info_int : (Tryd.prog.info? 3).map (fun i => (i.zero, i.size, i.bytes)) = some (some (.int .i64 0), 1, 8) := by kernel_rfl
theorem Fr.grow {W wr x x2 : World} {S : Nat → Prop} {A A' : Option Addr} {c c' : Nat} {l m : List Int} (h : Fr W wr A c l) (hW : W.heap.size ≤ x.heap.size)
    (hr : RowO x2 3 1 A' (l.length + m.length) c' (l.map iv ++ m.map iv)) (hA : ∀ k, inA A' k → inA A k ∨ (x.heap.size ≤ k ∧ k < x2.heap.size)) : Fr W x2 A' c' (l ++ m) :=
  ⟨by rw [List.length_append, List.map_append]; exact hr, fun k hk => by
    rcases hA k hk with hk | hk
    · exact h.new k hk
    · omega⟩
theorem Fr.only {W wr : World} {A : Option Addr} {c : Nat} {l : List Int} {S : Nat → Prop} {x x2 : World} (h : Fr W wr A c l) (ho : Only S W x) (h2 : Only (inA A) x x2) : Only S W x2 :=
  ho.trans h2 fun k hk hi => by have := h.new k hi; omega
/-- what the loop still takes, with what it has -/
structure Tkg (total : List Nat) (L m : Nat) (acc : List Nat) (rest : List UInt8) (bad : Bool) : Prop where
  all : acc ++ (takeN m rest bad).1 = total
  len : acc.length + m ≤ 32769
  short : rest.length ≤ L
def intsN (l : List Nat) : List Int := l.map fun n : Nat => (n : Int)
theorem intsN_length (l : List Nat) : (intsN l).length = l.length := by simp [intsN]
theorem intsN_append (a b : List Nat) : intsN (a ++ b) = intsN a ++ intsN b := by simp [intsN]
theorem Tkg.step {total : List Nat} {L m : Nat} {acc : List Nat} {rest : List UInt8} (h : Tkg total L (m + 1) acc rest false) : Tkg total L m (acc ++ [(stNum rest false).1]) (stNum rest false).2.1 (stNum rest false).2.2 := by
  refine ⟨?_, ?_, Nat.le_trans (stNum_len rest false) h.short⟩
  · rw [← h.all, takeN_succ, List.append_assoc]; rfl
  · rw [List.length_append]; have := h.len; simp; omega
theorem Tkg.end_ {total : List Nat} {L m : Nat} {acc : List Nat} {rest : List UInt8} {bad : Bool} (h : Tkg total L m acc rest bad) (he : m = 0 ∨ bad = true) : acc = total := by
  have h1 := h.all
  rcases he with rfl | rfl
  · rw [takeN_zero] at h1
    rw [← h1]; exact (List.append_nil _).symm
  · rw [takeN_bad] at h1
    rw [← h1]; exact (List.append_nil _).symm
theorem takenP_ints (b : List UInt8) (bad : Bool) : takenP b bad = intsN (takeN (min (stNum b bad).1 32769) (stNum b bad).2.1 (stNum b bad).2.2).1 := rfl

set_option maxHeartbeats 4000000 in
theorem taken_any (fp : Nat → Prop) (g : Nat) (bs : List UInt8) (bad : Bool) (w : World) (h : Rdr w fp g bs bad) (hb : bs.length ≤ 1099511627776) :
    Calls Tryd.prog 50 #[.pointer (some ⟨g, 0, none⟩)] w fun e w' => ∃ A' c', e = .returned (.slice A' (takenP bs bad).length c') ∧ Fr w w' A' c' (takenP bs bad) ∧ Only (fun k => k = g) w w' := by
  have HT : Hid (takenP bs bad = intsN (takeN (min (stNum bs bad).1 32769) (stNum bs bad).2.1 (stNum bs bad).2.2).1) := Lib.hid rfl
  generalize takenP bs bad = T at *
  have hgl : g < w.heap.size := by
    obtain ⟨_, _, _, _, hb, _⟩ := h
    exact hb.lt
  have Hgl := Lib.hid hgl
  obtain ⟨f2, H, Hf2⟩ : ∃ f2 : Nat → Prop, Hid (Rdr w f2 g bs bad) ∧ Hid (∀ k, f2 k → k < w.heap.size) := ⟨fun k => fp k ∧ k < w.heap.size, Lib.hid (h.mono fun _ a b => ⟨a, b⟩), Lib.hid fun _ h => h.2⟩
  have hle := stNum_le bs bad
  have hsl := stNum_len bs bad
  clear h hgl
  go_enter Tryd.func50, Tryd.ntmps50
  go_wp2_with fail
  refine (rnum_st f2 g bs bad w H.out hb).mono ?_
  rintro e w1 ⟨rfl, hr1, ho1⟩
  generalize stNum bs bad = q at *
  obtain ⟨n, bs1, bad1⟩ := q
  simp only at HT hr1 hle hsl ⊢
  obtain ⟨N, hN⟩ : ∃ N, min n 32769 = N := ⟨_, rfl⟩
  rw [hN] at HT
  have hcase : (n ≤ 32769 ∧ N = n) ∨ (32769 < n ∧ N = 32769) := by omega
  have hN65 : N ≤ 32769 := by omega
  have HN := Lib.hid hN65
  have Hr1 := Lib.hid hr1
  have Ho1 := Lib.hid ho1
  have Hbl : Hid (bs1.length ≤ 1099511627776) := Lib.hid (by omega)
  clear hN hr1 ho1 hN65 hsl hb
  rcases hcase with ⟨hq, rfl⟩ | ⟨hq, rfl⟩
  · have hqi : (N : Int) ≤ 32769 := by omega
    go_wp2_with fail
    go_loopw [3, 4] (fun s i wr => ∃ (m : Nat) (acc : List Nat) (rest : List UInt8) (bd : Bool) (A1 : Option Addr) (c1 : Nat), i = .int .i64 (m : Int) ∧ s = .slice A1 acc.length c1 ∧ Hid (Tkg (takeN N bs1 bad1).1 bs1.length m acc rest bd) ∧ Rdr wr f2 g rest bd ∧ Fr w wr A1 c1 (intsN acc) ∧ Only (fun k => k = g) w wr) (fun _ i _ => (intOf i).toNat)
    case atStart => exact ⟨N, [], bs1, bad1, none, 0, rfl, rfl, Lib.hid ⟨rfl, by simp only [List.length_nil, Nat.zero_add]; exact HN.out, Nat.le_refl _⟩, Hr1.out, Fr.start _ _, Ho1.out⟩
    case round =>
      obtain ⟨m, acc, rest, bd, A1, c1, rfl, rfl, Hrd, hr, hS, ho⟩ := hrel
      have Hr := Lib.hid hr
      have HS := Lib.hid hS
      have Ho := Lib.hid ho
      clear hr hS ho
      have HEX : Hid ((m = 0 ∨ bd = true) → intsN acc = T) := Lib.hid (fun he => by rw [HT.out, Hrd.out.end_ he])
      by_cases hm : m = 0
      · subst hm
        have HC := Lib.hid (HEX.out (.inl rfl))
        clear HEX
        go_wp2
        go_ret
        have e := HC.out
        have hS := HS.out
        rw [e] at hS
        exact ⟨A1, c1, by rw [← e, intsN_length]; rfl, hS, Ho.out⟩
      have hmi : (0 : Int) < (m : Int) := by omega
      have hmd : decide ((0 : Int) < (m : Int)) = true := decide_eq_true hmi
      have hmn : decide (0 < m) = true := decide_eq_true (by omega)
      cases bd with
      | true =>
        have HC := Lib.hid (HEX.out (.inr rfl))
        clear HEX hm
        go_wp2_with fail
        refine (rgood _ g rest true wr Hr.out).mono ?_
        rintro e w' ⟨rfl, rfl⟩
        go_wp2
        go_ret
        have e := HC.out
        have hS := HS.out
        rw [e] at hS
        exact ⟨A1, c1, by rw [← e, intsN_length]; rfl, hS, Ho.out⟩
      | false =>
        clear HEX
        obtain ⟨k, hk⟩ : ∃ k, m = k + 1 := ⟨m - 1, by omega⟩
        have hk1 : IntKind.i64.wrap ((m : Int) - 1) = (k : Int) := by rw [show (m : Int) - 1 = (k : Int) by omega]; exact IntWalk.i64_in _ (by have := Hrd.out.len; omega)
        have HRs := Lib.hid (Tkg.step (by rw [← hk]; exact Hrd.out))
        have hal : acc.length + 1 ≤ 32769 := by have := Hrd.out.len; omega
        have hk2 : acc.length + 1 ≤ maxLen := by unfold maxLen; omega
        have hk3 : (acc.length + 1) * 8 ≤ 140737488355328 := by omega
        have hrl : rest.length ≤ 1099511627776 := by have := Hrd.out.short; have := Hbl.out; omega
        have HNU := Lib.hid (rnum_st f2 g rest false wr Hr.out hrl)
        generalize stNum rest false = q at *
        obtain ⟨x, rest', bd'⟩ := q
        simp only at HRs HNU
        have Hk := Lib.hid hk
        clear hk hal hm
        go_wp2_with fail
        refine (rgood _ g rest false wr Hr.out).mono ?_
        rintro e w' ⟨rfl, rfl⟩
        go_wp2_with fail
        refine HNU.out.mono ?_
        rintro e x1 ⟨rfl, hr5, ho5⟩
        have hrow : RowO x1 3 1 A1 acc.length c1 ((intsN acc).map iv) := by
          have h1 := HS.out.row.only ho5 (fun k hk e => by have := HS.out.new k hk; have := Hgl.out; omega)
          rw [intsN_length] at h1
          exact h1
        have Hrow := Lib.hid hrow
        have Hr5 := Lib.hid hr5
        have Ho5 := Lib.hid (Ho.out.trans ho5 (fun _ _ h => h))
        clear hrow hr5 ho5
        go_wp2_with (at_builtin
                     refine wpList_appO _ rfl (.tmp 16) (.tmp 19) _ rfl 3 _ 1 8 Tryd.underlying49 info_int rfl A1 _ c1 _ rfl (Hrow.out.alloc _) (some ⟨x1.heap.size, 0, none⟩) 1 1 [.int .i64 (x : Int)] rfl rfl (Rd.lit _ #[.int .i64 (x : Int)] _) ?_ ?_ hk2 hk3 ?_
                     · simp; rfl
                     · intro h; cases h
                     intro A3 c3 w3 hrow3 honly3 hA3
                     have hx1 : w.heap.size ≤ (x1.alloc (.cells #[.int .i64 (x : Int)] 3)).heap.size := by rw [World.size_alloc]; have := Ho5.out.size; omega
                     have hF3 : Fr w w3 A3 c3 (intsN (acc ++ [x])) := by
                       rw [intsN_append]
                       exact HS.out.grow (S := fun _ => True) hx1 (by rw [intsN_length]; exact hrow3) hA3
                     have hO3 := HS.out.only (Ho5.out.alloc (.cells #[.int .i64 (x : Int)] 3)) honly3
                     have hR3 : Rdr w3 f2 g rest' bd' := (Hr5.out.ext (ext_alloc (Below.refl _ _) _)).only honly3 (fun k hk hi => by have := HS.out.new k hi; have := Hf2.out k hk; omega)
                     have HF3 := Lib.hid hF3
                     have HO3 := Lib.hid hO3
                     have HR3 := Lib.hid hR3
                     clear hrow3 honly3 hA3 hx1 hF3 hO3 hR3)
        go_roundw
        case rel => exact ⟨k, acc ++ [x], rest', bd', A3, c3, rfl, by rw [List.length_append]; rfl, HRs, HR3.out, HF3.out, HO3.out⟩
        case measure => simp [intOf]; have := Hk.out; omega
  · have hqi : (32769 : Int) < (n : Int) := by omega
    go_wp2_with fail
    go_loopw [3, 4] (fun s i wr => ∃ (m : Nat) (acc : List Nat) (rest : List UInt8) (bd : Bool) (A1 : Option Addr) (c1 : Nat), i = .int .i64 (m : Int) ∧ s = .slice A1 acc.length c1 ∧ Hid (Tkg (takeN 32769 bs1 bad1).1 bs1.length m acc rest bd) ∧ Rdr wr f2 g rest bd ∧ Fr w wr A1 c1 (intsN acc) ∧ Only (fun k => k = g) w wr) (fun _ i _ => (intOf i).toNat)
    case atStart => exact ⟨32769, [], bs1, bad1, none, 0, rfl, rfl, Lib.hid ⟨rfl, by simp only [List.length_nil, Nat.zero_add]; exact HN.out, Nat.le_refl _⟩, Hr1.out, Fr.start _ _, Ho1.out⟩
    case round =>
      obtain ⟨m, acc, rest, bd, A1, c1, rfl, rfl, Hrd, hr, hS, ho⟩ := hrel
      have Hr := Lib.hid hr
      have HS := Lib.hid hS
      have Ho := Lib.hid ho
      clear hr hS ho
      have HEX : Hid ((m = 0 ∨ bd = true) → intsN acc = T) := Lib.hid (fun he => by rw [HT.out, Hrd.out.end_ he])
      by_cases hm : m = 0
      · subst hm
        have HC := Lib.hid (HEX.out (.inl rfl))
        clear HEX
        go_wp2
        go_ret
        have e := HC.out
        have hS := HS.out
        rw [e] at hS
        exact ⟨A1, c1, by rw [← e, intsN_length]; rfl, hS, Ho.out⟩
      have hmi : (0 : Int) < (m : Int) := by omega
      have hmd : decide ((0 : Int) < (m : Int)) = true := decide_eq_true hmi
      have hmn : decide (0 < m) = true := decide_eq_true (by omega)
      cases bd with
      | true =>
        have HC := Lib.hid (HEX.out (.inr rfl))
        clear HEX hm
        go_wp2_with fail
        refine (rgood _ g rest true wr Hr.out).mono ?_
        rintro e w' ⟨rfl, rfl⟩
        go_wp2
        go_ret
        have e := HC.out
        have hS := HS.out
        rw [e] at hS
        exact ⟨A1, c1, by rw [← e, intsN_length]; rfl, hS, Ho.out⟩
      | false =>
        clear HEX
        obtain ⟨k, hk⟩ : ∃ k, m = k + 1 := ⟨m - 1, by omega⟩
        have hk1 : IntKind.i64.wrap ((m : Int) - 1) = (k : Int) := by rw [show (m : Int) - 1 = (k : Int) by omega]; exact IntWalk.i64_in _ (by have := Hrd.out.len; omega)
        have HRs := Lib.hid (Tkg.step (by rw [← hk]; exact Hrd.out))
        have hal : acc.length + 1 ≤ 32769 := by have := Hrd.out.len; omega
        have hk2 : acc.length + 1 ≤ maxLen := by unfold maxLen; omega
        have hk3 : (acc.length + 1) * 8 ≤ 140737488355328 := by omega
        have hrl : rest.length ≤ 1099511627776 := by have := Hrd.out.short; have := Hbl.out; omega
        have HNU := Lib.hid (rnum_st f2 g rest false wr Hr.out hrl)
        generalize stNum rest false = q at *
        obtain ⟨x, rest', bd'⟩ := q
        simp only at HRs HNU
        have Hk := Lib.hid hk
        clear hk hal hm
        go_wp2_with fail
        refine (rgood _ g rest false wr Hr.out).mono ?_
        rintro e w' ⟨rfl, rfl⟩
        go_wp2_with fail
        refine HNU.out.mono ?_
        rintro e x1 ⟨rfl, hr5, ho5⟩
        have hrow : RowO x1 3 1 A1 acc.length c1 ((intsN acc).map iv) := by
          have h1 := HS.out.row.only ho5 (fun k hk e => by have := HS.out.new k hk; have := Hgl.out; omega)
          rw [intsN_length] at h1
          exact h1
        have Hrow := Lib.hid hrow
        have Hr5 := Lib.hid hr5
        have Ho5 := Lib.hid (Ho.out.trans ho5 (fun _ _ h => h))
        clear hrow hr5 ho5
        go_wp2_with (at_builtin
                     refine wpList_appO _ rfl (.tmp 16) (.tmp 19) _ rfl 3 _ 1 8 Tryd.underlying49 info_int rfl A1 _ c1 _ rfl (Hrow.out.alloc _) (some ⟨x1.heap.size, 0, none⟩) 1 1 [.int .i64 (x : Int)] rfl rfl (Rd.lit _ #[.int .i64 (x : Int)] _) ?_ ?_ hk2 hk3 ?_
                     · simp; rfl
                     · intro h; cases h
                     intro A3 c3 w3 hrow3 honly3 hA3
                     have hx1 : w.heap.size ≤ (x1.alloc (.cells #[.int .i64 (x : Int)] 3)).heap.size := by rw [World.size_alloc]; have := Ho5.out.size; omega
                     have hF3 : Fr w w3 A3 c3 (intsN (acc ++ [x])) := by
                       rw [intsN_append]
                       exact HS.out.grow (S := fun _ => True) hx1 (by rw [intsN_length]; exact hrow3) hA3
                     have hO3 := HS.out.only (Ho5.out.alloc (.cells #[.int .i64 (x : Int)] 3)) honly3
                     have hR3 : Rdr w3 f2 g rest' bd' := (Hr5.out.ext (ext_alloc (Below.refl _ _) _)).only honly3 (fun k hk hi => by have := HS.out.new k hi; have := Hf2.out k hk; omega)
                     have HF3 := Lib.hid hF3
                     have HO3 := Lib.hid hO3
                     have HR3 := Lib.hid hR3
                     clear hrow3 honly3 hA3 hx1 hF3 hO3 hR3)
        go_roundw
        case rel => exact ⟨k, acc ++ [x], rest', bd', A3, c3, rfl, by rw [List.length_append]; rfl, HRs, HR3.out, HF3.out, HO3.out⟩
        case measure => simp [intOf]; have := Hk.out; omega
end Go.Proofs.YtpjgkacekelkdaaDoor
