/-
  Texts of this claim, joined (part 2): contracts and lemmas that the last text goes by. No statement of the seat is proved here.
-/
import Derived.Test.YtpjgkacekelkdaaGreatDoorAll1
import Derived.Test.YtpjgkacekelkdaaGreatDoorAll0
import Derived.Deep.MidRow
import Derived.Deep.AppendSrc
set_option linter.unusedVariables false
set_option linter.unusedSimpArgs false
/-
  Rows of numbers read back; which is the shortest: mathematics. No statement of the seat is proved here.
-/
namespace Go.Proofs.YtpjgkacekelkdaaGreatDoor
open Go Go.RowKit
set_option maxRecDepth 100000

/-! ### sums of folded differences, as they wrap -/
def addK (l : List Int) : Nat → Int
  | 0 => 0
  | k + 1 => IntKind.i64.wrap (addK l k + unfP (l.getD k 0))
def addedTo (l : List Int) (k : Nat) : List Int := (List.range k).map fun j => addK l (j + 1)
def addedP (l : List Int) : List Int := addedTo l l.length
theorem addedTo_len (l : List Int) (k : Nat) : (addedTo l k).length = k := by simp [addedTo]
theorem addedTo_succ (l : List Int) (k : Nat) : addedTo l (k + 1) = addedTo l k ++ [addK l (k + 1)] := by
  unfold addedTo
  rw [List.range_succ, List.map_append]
  rfl
theorem addK_deltas {l : List Int} (hm : ∀ v ∈ l, 0 ≤ v ∧ v ≤ 1099511627776) : ∀ k, k ≤ l.length → addK (deltasP l) k = if k = 0 then 0 else l.getD (k - 1) 0
  | 0, _ => rfl
  | k + 1, hk => by
    have ih := addK_deltas hm k (by omega)
    have e : (deltasP l).getD k 0 = foldP (l.getD k 0 - prevP l k) := by
      rw [List.getD_eq_getElem?_getD, deltasP, deltasTo_get l l.length k (by omega)]
      rfl
    have h1 := hm _ (getD_mem (k := k) (l := l) (by omega))
    have e2 : addK (deltasP l) k + unfP ((deltasP l).getD k 0) = l.getD k 0 := by
      rw [e, unf_fold, ih]
      unfold prevP
      omega
    rw [addK, e2, if_neg (by omega), Nat.add_sub_cancel]
    exact IntWalk.i64_in _ (by omega)
theorem added_deltas {l : List Int} (hm : ∀ v ∈ l, 0 ≤ v ∧ v ≤ 1099511627776) : addedP (deltasP l) = l := by
  unfold addedP addedTo
  rw [show (deltasP l).length = l.length from deltasTo_len l l.length]
  refine List.ext_getElem (by simp) fun j h1 h2 => ?_
  rw [List.getElem_map, List.getElem_range, addK_deltas hm (j + 1) (show j + 1 ≤ l.length from h2), if_neg (by omega), Nat.add_sub_cancel, List.getD_eq_getElem?_getD, List.getElem?_eq_getElem h2]
  rfl
theorem addK_bounds (l : List Int) (k : Nat) : -9223372036854775808 ≤ addK l k ∧ addK l k ≤ 9223372036854775807 := by
  cases k with
  | zero => simp [addK]
  | succ k => rw [addK, IntKind.wrap_i64]; omega

theorem snoc_ind {α : Type} {P : List α → Prop} (h0 : P []) (h1 : ∀ l a, P l → P (l ++ [a])) (l : List α) : P l := by
  rw [← List.reverse_reverse l]
  induction l.reverse with
  | nil => exact h0
  | cons a r ih => rw [List.reverse_cons]; exact h1 _ _ ih

/-! ### rows of alike ones, as far as may be and one more -/
def spreadP (rs : List (Nat × Nat)) : List Int := rs.foldl (fun l r => l ++ List.replicate (min r.1 (32769 - l.length)) ((r.2 : Nat) : Int)) []
theorem spread_snoc (rs : List (Nat × Nat)) (r : Nat × Nat) : spreadP (rs ++ [r]) = spreadP rs ++ List.replicate (min r.1 (32769 - (spreadP rs).length)) ((r.2 : Nat) : Int) := by
  unfold spreadP
  rw [List.foldl_append]
  rfl
theorem spread_len (rs : List (Nat × Nat)) : (spreadP rs).length ≤ 32769 := by
  induction rs using snoc_ind with
  | h0 => simp [spreadP]
  | h1 rs r ih => rw [spread_snoc, List.length_append, List.length_replicate]; omega
theorem exp_len_append (a b : List (Nat × Int)) : (expP (a ++ b)).length = (expP a).length + (expP b).length := by simp [expP]
theorem exp_append (a b : List (Nat × Int)) : expP (a ++ b) = expP a ++ expP b := by simp [expP]
theorem spread_exp (rs : List (Nat × Int)) (h : (expP rs).length ≤ 32768) (hm : ∀ r ∈ rs, 0 ≤ r.2 ∧ r.2 ≤ 4611686018427387904) : spreadP (rs.map fun p => (clamp (p.1 : Int), clamp p.2)) = expP rs := by
  induction rs using snoc_ind with
  | h0 => rfl
  | h1 rs r ih =>
    have h0 := exp_len_append rs [r]
    have h1 : (expP [r]).length = r.1 := by simp [expP]
    have h2 := hm r (by simp)
    rw [List.map_append, List.map_cons, List.map_nil, spread_snoc, ih (by omega) fun q hq => hm q (List.mem_append_left _ hq), exp_append]
    congr 1
    have h3 : clamp (r.1 : Int) = r.1 := by unfold clamp; omega
    have h4 : (clamp r.2 : Int) = r.2 := clamp_le' h2.1 h2.2
    simp only [h3, h4]
    rw [Nat.min_eq_left (by omega)]
    simp [expP]

/-! ### what is decoded -/
def AreW (w : Nat) (b : List UInt8) (l : List Int) : Prop := w ≤ 2 ∧ mayP l = true ∧ encP w l = b
open Classical in
noncomputable def decP (b : List UInt8) : Option (List Int) := if h : ∃ l, ∃ w, AreW w b l then some (Classical.choose h) else none
/-- how many there are said to be -/
def sizP : Nat → List Int → Nat
  | 0, l => l.length
  | 1, l => l.length
  | _, l => (runsP l).length
/-- what lies behind -/
def tailP : Nat → List Int → List UInt8
  | 0, l => numsB l
  | 1, l => numsB (deltasP l)
  | _, l => pairsB (runsP l)
theorem enc_eq : ∀ {w : Nat} (l : List Int), w ≤ 2 → encP w l = dig w ++ (dig (clamp (sizP w l : Int)) ++ tailP w l)
  | 0, l, _ => by simp [encP, plainP, numsB_cons, numsB_nil, sizP, tailP]; rfl
  | 1, l, _ => by simp [encP, deltaP, numsB_cons, numsB_nil, sizP, tailP]; rfl
  | 2, l, _ => by simp [encP, runsB, numsB_cons, numsB_nil, sizP, tailP]; rfl
  | w + 3, _, h => by omega
theorem siz_le {w : Nat} {l : List Int} (h : mayP l = true) : sizP w l ≤ 32768 := by
  have h1 := ((mayP_iff l).1 h).1
  have h2 := runsTo_len l l.length
  rcases w with _ | _ | w
  · exact h1
  · exact h1
  · show (runsTo l l.length).length ≤ _
    omega
theorem enc_way {w : Nat} {l : List Int} (hw : w ≤ 2) : stNum (encP w l) false = (w, dig (clamp (sizP w l : Int)) ++ tailP w l, false) := by
  rw [enc_eq l hw]
  exact stNum_dig _ _ (by omega)
theorem enc_size {w : Nat} {l : List Int} (hw : w ≤ 2) (h : mayP l = true) : stNum (stNum (encP w l) false).2.1 (stNum (encP w l) false).2.2 = (sizP w l, tailP w l, false) := by
  rw [enc_way hw]
  have h1 := siz_le (w := w) h
  have h2 : clamp (sizP w l : Int) = sizP w l := by unfold clamp; omega
  rw [h2]
  exact stNum_dig _ _ (by omega)
/-- numbers, as the program takes them: as many as there are said to be, as far as they are there -/
def takenP (b : List UInt8) (bad : Bool) : List Int := ((takeN (min (stNum b bad).1 32769) (stNum b bad).2.1 (stNum b bad).2.2).1).map fun n : Nat => (n : Int)
def spreadB (b : List UInt8) (bad : Bool) : List Int := spreadP (takeQ (stNum b bad).1 (stNum b bad).2.1 (stNum b bad).2.2).1
def rdP : Nat → List UInt8 → Bool → List Int
  | 0, b, bad => takenP b bad
  | 1, b, bad => addedP (takenP b bad)
  | _, b, bad => spreadB b bad
theorem taken_nums {n : Nat} {b r : List UInt8} {l : List Int} (hs : stNum b false = (l.length, numsB l, false)) (hl : l.length ≤ 32768) (hm : ∀ v ∈ l, 0 ≤ v ∧ v ≤ 4611686018427387904) : takenP b false = l := by
  unfold takenP
  rw [hs]
  show ((takeN (min l.length 32769) (numsB l) false).1).map _ = l
  have e := takeN_nums l []
  rw [List.append_nil] at e
  rw [Nat.min_eq_left (by omega), e]
  exact map_clamp hm
theorem rd_enc {w : Nat} {l : List Int} (hw : w ≤ 2) (h : mayP l = true) : rdP w (stNum (encP w l) false).2.1 (stNum (encP w l) false).2.2 = l := by
  have hs := enc_size hw h
  obtain ⟨hl, hm⟩ := (mayP_iff l).1 h
  generalize (stNum (encP w l) false).2.1 = r at hs ⊢
  have hb : (stNum (encP w l) false).2.2 = false := by rw [enc_way hw]
  rw [hb] at hs ⊢
  have hd := deltasTo_len l l.length
  rcases w with _ | _ | _ | w
  · exact taken_nums (n := 0) (r := []) hs hl fun v hv => by have := hm v hv; omega
  · show addedP (takenP r false) = l
    rw [taken_nums (n := 0) (r := []) (l := deltasP l) (by rw [hs]; show (l.length, numsB (deltasP l), false) = _; rw [show (deltasP l).length = l.length from hd]) (by rw [show (deltasP l).length = l.length from hd]; exact hl) fun v hv => by have := deltasP_ok hm v hv; omega]
    exact added_deltas hm
  · show spreadP (takeQ _ _ _).1 = l
    rw [hs]
    have e := takeQ_pairs (runsP l) []
    rw [List.append_nil] at e
    show spreadP (takeQ (runsP l).length (pairsB (runsP l)) false).1 = l
    rw [e, spread_exp _ (by rw [exp_runs]; exact hl) fun q hq => ?_]
    · exact exp_runs l
    · have := hm _ (runsTo_mem l _ (Nat.le_refl _) q hq).2.2
      omega
  · omega
theorem way_one {w v : Nat} {b : List UInt8} {l m : List Int} (h1 : AreW w b l) (h2 : AreW v b m) : w = v ∧ l = m := by
  obtain ⟨hw, hl, e⟩ := h1
  obtain ⟨hv, hm, f⟩ := h2
  have e1 : w = v := by
    have a1 := enc_way (l := l) hw
    have a2 := enc_way (l := m) hv
    rw [e] at a1
    rw [f, a1] at a2
    exact (Prod.mk.inj a2).1
  subst e1
  refine ⟨rfl, ?_⟩
  have a1 := rd_enc hw hl
  have a2 := rd_enc hw hm
  rw [e] at a1
  rw [f, a1] at a2
  exact a2
theorem dec_some {w : Nat} {b : List UInt8} {l : List Int} (h : AreW w b l) : decP b = some l := by
  have hx : ∃ l, ∃ w, AreW w b l := ⟨l, w, h⟩
  unfold decP
  rw [dif_pos hx]
  obtain ⟨v, hv⟩ := Classical.choose_spec hx
  rw [(way_one hv h).2]
theorem dec_enc {w : Nat} {l : List Int} (hw : w ≤ 2) (h : mayP l = true) : decP (encP w l) = some l := dec_some ⟨hw, h, rfl⟩
theorem dec_none {b : List UInt8} (h : ∀ l w, ¬AreW w b l) : decP b = none := by
  unfold decP
  rw [dif_neg fun ⟨l, w, hx⟩ => h l w hx]
/-- whatever is taken: what is laid as just these bytes is what they are -/
theorem dec_of {b : List UInt8} (l : List Int) (hw : (stNum b false).1 ≤ 2) (h : ∀ m, AreW (stNum b false).1 b m → l = m) : decP b = if mayP l = true ∧ encP (stNum b false).1 l = b then some l else none := by
  by_cases hx : mayP l = true ∧ encP (stNum b false).1 l = b
  · rw [if_pos hx]
    exact dec_some ⟨hw, hx⟩
  · rw [if_neg hx]
    refine dec_none fun m w ha => hx ?_
    have e : w = (stNum b false).1 := by
      rw [← ha.2.2, enc_way ha.1]
    subst e
    rw [h m ha]
    exact ha.2
theorem dec_way {b : List UInt8} (hw : 2 < (stNum b false).1) : decP b = none := dec_none fun l w ha => by
  have e : w = (stNum b false).1 := by rw [← ha.2.2, enc_way ha.1]
  have := ha.1
  omega
theorem dec_rd {b : List UInt8} (hw : (stNum b false).1 ≤ 2) : decP b = if mayP (rdP (stNum b false).1 (stNum b false).2.1 (stNum b false).2.2) = true ∧ encP (stNum b false).1 (rdP (stNum b false).1 (stNum b false).2.1 (stNum b false).2.2) = b then some (rdP (stNum b false).1 (stNum b false).2.1 (stNum b false).2.2) else none :=
  dec_of _ hw fun m ha => by
    have e := rd_enc ha.1 ha.2.1
    rw [ha.2.2] at e
    exact e
theorem dec_may {b : List UInt8} {l : List Int} (h : decP b = some l) : mayP l = true := by
  unfold decP at h
  split at h
  · rename_i hx
    obtain ⟨w, hw⟩ := Classical.choose_spec hx
    injection h with h
    rw [← h]
    exact hw.2.1
  · cases h

/-! ### the reference's way of reading: all that is there -/
def takeA : Nat → List UInt8 → Bool → List Nat × List UInt8 × Bool
  | 0, bs, bad => ([], bs, bad)
  | k + 1, bs, bad => if bad = true ∨ bs = [] then ([], bs, bad) else
    ((stNum bs bad).1 :: (takeA k (stNum bs bad).2.1 (stNum bs bad).2.2).1, (takeA k (stNum bs bad).2.1 (stNum bs bad).2.2).2)
theorem takeA_end (k : Nat) {bs : List UInt8} {bad : Bool} (h : bad = true ∨ bs = []) : takeA k bs bad = ([], bs, bad) := by
  cases k with
  | zero => rfl
  | succ k => rw [takeA, if_pos h]
theorem takeA_succ (k : Nat) {bs : List UInt8} (h : bs ≠ []) : takeA (k + 1) bs false = ((stNum bs false).1 :: (takeA k (stNum bs false).2.1 (stNum bs false).2.2).1, (takeA k (stNum bs false).2.1 (stNum bs false).2.2).2) := by
  rw [takeA, if_neg (by simp [h])]
theorem dig_pos' (n : Nat) : dig n ≠ [] := by
  unfold dig
  split <;> simp
theorem takeA_nums : ∀ (l : List Int) (k : Nat), l.length ≤ k → takeA k (numsB l) false = (l.map clamp, [], false)
  | [], k, _ => by rw [numsB_nil, takeA_end k (.inr rfl)]; rfl
  | v :: l, 0, h => by simp at h
  | v :: l, k + 1, h => by
    rw [numsB_cons, takeA_succ k (by simp [dig_pos']), stNum_num, takeA_nums l k (by simpa using h)]
    rfl
theorem numsB_len (l : List Int) : l.length ≤ (numsB l).length := by
  induction l with
  | nil => simp
  | cons v l ih =>
    rw [numsB_cons, List.length_append, List.length_cons]
    have := List.length_pos_iff.2 (dig_pos' (clamp v))
    omega
open Classical in
/-- the reference's sums of differences -/
noncomputable def rdel (l : List Int) : List Int := if ∀ j, j < l.length → 0 ≤ addK l (j + 1) ∧ addK l (j + 1) ≤ 1099511627776 then addedP l else []
theorem rdel_deltas {l : List Int} (hm : ∀ v ∈ l, 0 ≤ v ∧ v ≤ 1099511627776) : rdel (deltasP l) = l := by
  have hd : (deltasP l).length = l.length := deltasTo_len l l.length
  unfold rdel
  rw [if_pos fun j hj => ?_]
  · exact added_deltas hm
  · rw [hd] at hj
    rw [addK_deltas hm (j + 1) (by omega), if_neg (by omega), Nat.add_sub_cancel]
    exact hm _ (getD_mem hj)
/-- the reference's rows of alike ones, told flat -/
def flatP (rs : List (Nat × Int)) : List Int := rs.flatMap fun r => [(r.1 : Int), r.2]
theorem pairs_flat (rs : List (Nat × Int)) : pairsB rs = numsB (flatP rs) := by
  induction rs with
  | nil => rfl
  | cons r rs ih =>
    show numsB [(r.1 : Int), r.2] ++ pairsB rs = numsB ([(r.1 : Int), r.2] ++ flatP rs)
    rw [numsB_append, ih]
def rrK (l : List Int) : Nat → Option (List Int)
  | 0 => some []
  | k + 1 => match rrK l k with
    | none => none
    | some o => if 32768 < l.getD (2 * k) 0 ∨ 32768 < (o.length : Int) + l.getD (2 * k) 0 then none else some (o ++ List.replicate (l.getD (2 * k) 0).toNat (l.getD (2 * k + 1) 0))
def rrP (l : List Int) : Option (List Int) := rrK l (l.length / 2)
theorem rrK_none {l : List Int} {k : Nat} (h : rrK l k = none) : ∀ d, rrK l (k + d) = none
  | 0 => h
  | d + 1 => by show rrK l (k + d + 1) = none; rw [rrK, rrK_none h d]
theorem pflat_len (rs : List (Nat × Int)) : (flatP rs).length = 2 * rs.length := by
  induction rs with
  | nil => rfl
  | cons r rs ih =>
    show ([(r.1 : Int), r.2] ++ flatP rs).length = _
    rw [List.length_append, ih, List.length_cons]
    simp
    omega
theorem pflat_get : ∀ (rs : List (Nat × Int)) (k : Nat), k < rs.length → (flatP rs).getD (2 * k) 0 = (((rs.getD k (0, 0)).1 : Nat) : Int) ∧ (flatP rs).getD (2 * k + 1) 0 = (rs.getD k (0, 0)).2
  | [], k, h => by simp at h
  | r :: rs, 0, _ => ⟨rfl, rfl⟩
  | r :: rs, k + 1, h => by
    have ih := pflat_get rs k (by simpa using h)
    exact ih
theorem rr_flat (rs : List (Nat × Int)) (h : (expP rs).length ≤ 32768) : ∀ k, k ≤ rs.length → rrK (flatP rs) k = some (expP (rs.take k))
  | 0, _ => rfl
  | k + 1, hk => by
    have e : rs.take (k + 1) = rs.take k ++ [rs.getD k (0, 0)] := by
      rw [List.take_succ_eq_append_getElem (by omega), List.getD_eq_getElem?_getD, List.getElem?_eq_getElem (by omega)]
      rfl
    obtain ⟨g1, g2⟩ := pflat_get rs k (by omega)
    have hl : (expP (rs.take (k + 1))).length ≤ (expP rs).length := by
      conv => rhs; rw [← List.take_append_drop (k + 1) rs]
      rw [exp_len_append]
      omega
    rw [e, exp_len_append] at hl
    have h1 : (expP [rs.getD k (0, 0)]).length = (rs.getD k (0, 0)).1 := by simp [expP]
    rw [rrK, rr_flat rs h k (by omega), g1, g2, e, exp_append]
    show (if _ then _ else _) = _
    rw [if_neg (by omega), Int.toNat_natCast]
    simp [expP]
noncomputable def rrdP : Nat → List Int → Option (List Int)
  | 0, l => some l
  | 1, l => some (rdel l)
  | _, l => rrP l
theorem rrd_enc {w : Nat} {m : List Int} {n : Nat} (hw : w ≤ 2) (h : mayP m = true) (hn : (encP w m).length ≤ n) : (takeA n (stNum (stNum (encP w m) false).2.1 (stNum (encP w m) false).2.2).2.1 false).2 = ([], false) ∧
    rrdP w (((takeA n (stNum (stNum (encP w m) false).2.1 (stNum (encP w m) false).2.2).2.1 false).1).map fun n : Nat => (n : Int)) = some m := by
  obtain ⟨hl, hm⟩ := (mayP_iff m).1 h
  have hd : (deltasP m).length = m.length := deltasTo_len m m.length
  rw [enc_size hw h]
  have hn2 : (tailP w m).length ≤ n := by
    rw [enc_eq m hw, List.length_append, List.length_append] at hn
    omega
  show (takeA n (tailP w m) false).2 = _ ∧ rrdP w (((takeA n (tailP w m) false).1).map _) = _
  rcases w with _ | _ | _ | w
  · have e := takeA_nums m n (Nat.le_trans (numsB_len m) hn2)
    have hv : ∀ v ∈ m, 0 ≤ v ∧ v ≤ 4611686018427387904 := fun v hv => by have := hm v hv; omega
    show (takeA n (numsB m) false).2 = _ ∧ some _ = _
    rw [show takeA n (tailP 0 m) false = _ from e, e]
    exact ⟨rfl, congrArg some (map_clamp hv)⟩
  · have e := takeA_nums (deltasP m) n (Nat.le_trans (numsB_len _) hn2)
    have hv : ∀ v ∈ deltasP m, 0 ≤ v ∧ v ≤ 4611686018427387904 := fun v hv => by have := deltasP_ok hm v hv; omega
    show (takeA n (numsB (deltasP m)) false).2 = _ ∧ some (rdel _) = _
    rw [show takeA n (tailP (0 + 1) m) false = _ from e, e]
    refine ⟨rfl, congrArg some ?_⟩
    rw [map_clamp hv]
    exact rdel_deltas hm
  · have hp : tailP (0 + 1 + 1) m = numsB (flatP (runsP m)) := pairs_flat (runsP m)
    rw [hp] at hn2 ⊢
    have e := takeA_nums (flatP (runsP m)) n (Nat.le_trans (numsB_len _) hn2)
    have hv : ∀ v ∈ flatP (runsP m), 0 ≤ v ∧ v ≤ 4611686018427387904 := fun v hv => by
      obtain ⟨q, hq, hv⟩ := List.mem_flatMap.1 hv
      obtain ⟨h1, h2, h3⟩ := runsTo_mem m _ (Nat.le_refl _) q hq
      have := hm _ h3
      rcases List.mem_cons.1 hv with rfl | hv
      · omega
      · rw [List.mem_singleton] at hv
        subst hv
        omega
    rw [e]
    refine ⟨rfl, ?_⟩
    rw [map_clamp hv]
    show rrK _ _ = _
    rw [pflat_len, Nat.mul_div_cancel_left _ (by omega), rr_flat _ (by rw [exp_runs]; exact hl) _ (Nat.le_refl _), List.take_length, exp_runs]
  · omega
theorem dec_rrd {b : List UInt8} {n : Nat} {ns : List Nat} {bad : Bool} (hn : b.length ≤ n) (hw : (stNum b false).1 ≤ 2)
    (ht : takeA n (stNum (stNum b false).2.1 (stNum b false).2.2).2.1 (stNum (stNum b false).2.1 (stNum b false).2.2).2.2 = (ns, [], bad)) {o : Option (List Int)}
    (ho : rrdP (stNum b false).1 (ns.map fun n : Nat => (n : Int)) = o) : decP b = if bad = true then none else match o with
      | none => none
      | some l => if mayP l = true ∧ encP (stNum b false).1 l = b then some l else none := by
  have hk : ∀ m w, AreW w b m → w = (stNum b false).1 ∧ bad = false ∧ o = some m := by
    intro m w ha
    obtain ⟨h1, h2, h3⟩ := ha
    have e : w = (stNum b false).1 := by rw [← h3, enc_way h1]
    have hz := enc_size h1 h2
    rw [h3] at hz
    have ha := rrd_enc h1 h2 (n := n) (by rw [h3]; exact hn)
    rw [h3, hz] at ha
    rw [hz] at ht
    simp only at ha ht
    rw [ht] at ha
    refine ⟨e, (Prod.mk.inj ha.1).2, ?_⟩
    rw [← ho, ← e]
    exact ha.2
  by_cases hb : bad = true
  · rw [if_pos hb]
    exact dec_none fun m w ha => by
      have := (hk m w ha).2.1
      rw [hb] at this
      cases this
  · rw [if_neg hb]
    cases o with
    | none => exact dec_none fun m w ha => by have := (hk m w ha).2.2; cases this
    | some l => exact dec_of l hw fun m ha => Option.some.inj (hk m _ ha).2.2

/-! ### the shortest -/
def shortP (a b : List UInt8) : List UInt8 := if b.length < a.length then b else a
def bestP (l : List Int) : List UInt8 := shortP (shortP (plainP l) (deltaP l)) (runsB l)
theorem short_one (a b : List UInt8) : shortP a b = a ∨ shortP a b = b := by
  unfold shortP
  split
  · exact .inr rfl
  · exact .inl rfl
theorem best_one (l : List Int) : ∃ w, w ≤ 2 ∧ bestP l = encP w l := by
  rcases short_one (shortP (plainP l) (deltaP l)) (runsB l) with h | h
  · rcases short_one (plainP l) (deltaP l) with g | g
    · exact ⟨0, by omega, h.trans g⟩
    · exact ⟨1, by omega, h.trans g⟩
  · exact ⟨2, Nat.le_refl _, h⟩
theorem short_le (a b : List UInt8) : (shortP a b).length ≤ a.length ∧ (shortP a b).length ≤ b.length := by
  unfold shortP
  split <;> omega
theorem best_le (l : List Int) : ∀ w ≤ 2, (bestP l).length ≤ (encP w l).length := by
  intro w hw
  have h1 := short_le (shortP (plainP l) (deltaP l)) (runsB l)
  have h2 := short_le (plainP l) (deltaP l)
  rcases w with _ | _ | _ | w
  · exact Nat.le_trans h1.1 h2.1
  · exact Nat.le_trans h1.1 h2.2
  · exact h1.2
  · omega
theorem dec_best {l : List Int} (h : mayP l = true) : decP (bestP l) = some l := by
  obtain ⟨w, hw, e⟩ := best_one l
  rw [e]
  exact dec_enc hw h
end Go.Proofs.YtpjgkacekelkdaaGreatDoor

/-
  Rows of elements of many cells that lie anywhere in a block of the call's own ('RowO'), append onto them, and stores of many cells. No statement of the seat is proved here.
-/
namespace Go.Proofs.YtpjgkacekelkdaaGreatDoor
open Go Go.RowKit

/-- the block of an address -/
def inA (A : Option Addr) (k : Nat) : Prop := ∃ ad, A = some ad ∧ ad.block = k
theorem inA_none (k : Nat) : ¬ inA none k := fun ⟨_, h, _⟩ => by cases h
theorem inA_some (g o k : Nat) (s : Option Nat) : inA (some ⟨g, o, s⟩) k ↔ g = k := ⟨fun ⟨_, h, e⟩ => by injection h with h; subst h; exact e, fun e => ⟨_, rfl, e⟩⟩

/-! ### Only: stores of many cells -/
section
variable {S T : Nat → Prop} {a w w' : World}
theorem Only.setCells (h : Only S a w) {b : Nat} (hb : S b ∨ a.heap.size ≤ b) : ∀ (vs : List Value) (o : Nat), Only S a (w.setCells b o vs) := by
  intro vs
  induction vs generalizing w with
  | nil => intro o; exact h
  | cons v r ih => intro o; exact ih (h.setCell (p := ⟨b, o, none⟩) hb v) (o + 1)
theorem Blk.setCells_far {g : Nat} {t : TypeId} {cs : Array Value} {b : Nat} (hn : g ≠ b) : ∀ (vs : List Value) (o : Nat) {w : World}, Blk w g t cs → Blk (w.setCells b o vs) g t cs
  | [], _, _, h => h
  | v :: r, o, w, h => Blk.setCells_far hn r (o + 1) (h.far (p := ⟨b, o, none⟩) hn v)
theorem Blk.setCells {g : Nat} {t : TypeId} : ∀ (vs : List Value) (o : Nat) {w : World} {cs : Array Value}, Blk w g t cs → o + vs.length ≤ cs.size →
    ∃ cs', Blk (w.setCells g o vs) g t cs' ∧ cs'.size = cs.size ∧ (∀ j u, vs[j]? = some u → cs'[o + j]? = some u) ∧ ∀ k, (k < o ∨ o + vs.length ≤ k) → cs'[k]? = cs[k]?
  | [], o, w, cs, h, _ => ⟨cs, h, rfl, fun j u hu => by simp at hu, fun _ _ => rfl⟩
  | v :: r, o, w, cs, h, hl => by
    simp only [List.length_cons] at hl
    obtain ⟨cs', h1, h2, h3, h4⟩ := Blk.setCells r (o + 1) (h.put o v) (by simp; omega)
    refine ⟨cs', h1, by simpa using h2, fun j u hu => ?_, fun k hk => ?_⟩
    · rcases j with _ | j
      · simp at hu
        subst hu
        rw [h4 (o + 0) (.inl (by omega))]
        simp [show o < cs.size by omega]
      · have := h3 j u (by simpa using hu)
        rwa [show o + 1 + j = o + (j + 1) by omega] at this
    · simp only [List.length_cons] at hk
      rw [h4 k (by omega), Array.getElem?_setIfInBounds]
      split
      · omega
      · rfl
end

/-- a whole block anew -/
theorem Blk.whole {g : Nat} {t : TypeId} {w : World} {cs : Array Value} (h : Blk w g t cs) (vs : List Value) (hl : vs.length = cs.size) : Blk (w.setCells g 0 vs) g t vs.toArray := by
  obtain ⟨cs', h1, h2, h3, _⟩ := Blk.setCells vs 0 h (by omega)
  have : cs' = vs.toArray := by
    apply Array.ext_getElem?
    intro k
    rcases Nat.lt_or_ge k vs.length with hk | hk
    · have := h3 k vs[k] (List.getElem?_eq_getElem hk)
      rw [Nat.zero_add] at this
      rw [this]; simp [hk]
    · rw [Array.getElem?_eq_none (by omega), Array.getElem?_eq_none (by simpa using hk)]
  rw [← this]
  exact h1
theorem Blk.there {g : Nat} {t : TypeId} {w : World} {cs : Array Value} (h : Blk w g t cs) (o n : Nat) (hl : o + n ≤ cs.size) : w.there g o n := fun j hj => ⟨by rw [h.cell]; simp; omega, h.free _⟩
theorem below_setCells {B : Nat} {a : World} {b : Nat} (hb : B ≤ b) : ∀ (vs : List Value) (o : Nat) {w : World}, Below B a w → Below B a (w.setCells b o vs)
  | [], _, _, h => h
  | v :: r, o, w, h => below_setCells hb r (o + 1) (w := w.setCell ⟨b, o, none⟩ v) ⟨h.os, h.tape, h.output, by simpa [World.setCell] using h.size, fun i hi => (Below.heap_setCell w ⟨b, o, none⟩ v i (by show i ≠ b; omega)).trans (h.block i hi)⟩

/-! ### A row anywhere in a block -/
def RowO (w : World) (e : TypeId) (sz : Nat) (A : Option Addr) (m c : Nat) (xs : List Value) : Prop :=
  xs.length = m * sz ∧ ((A = none ∧ m = 0 ∧ c = 0) ∨ ∃ g off cs, A = some ⟨g, off, none⟩ ∧ m ≤ c ∧ c ≤ maxLen ∧ Blk w g e cs ∧ off + c * sz ≤ cs.size ∧ ∀ j u, xs[j]? = some u → cs[off + j]? = some u)

section
variable {S : Nat → Prop} {w w' : World} {e : TypeId} {sz : Nat} {A : Option Addr} {m c : Nat} {xs : List Value}
theorem RowO.none_ (w : World) (e : TypeId) (sz : Nat) : RowO w e sz none 0 0 [] := ⟨by simp, .inl ⟨rfl, rfl, rfl⟩⟩
theorem RowO.rd (h : RowO w e sz A m c xs) : Rd w A xs := by
  rcases h.2 with ⟨rfl, rfl, rfl⟩ | ⟨g, off, cs, rfl, _, _, hb, _, hc⟩
  · have : xs = [] := List.eq_nil_of_length_eq_zero (by simpa using h.1)
    subst this
    exact Rd.nil _ _
  · exact fun j u hu => ⟨_, rfl, by rw [Addr.add_mid, hb.cell]; exact hc j u hu⟩
theorem RowO.lt (h : RowO w e sz A m c xs) {k : Nat} (hk : inA A k) : k < w.heap.size := by
  rcases h.2 with ⟨rfl, _⟩ | ⟨g, off, cs, rfl, _, _, hb, _⟩
  · exact absurd hk (inA_none k)
  · rw [inA_some] at hk; subst hk; exact hb.lt
theorem RowO.keep (h : RowO w e sz A m c xs) (hk : ∀ k, inA A k → w'.heap[k]? = w.heap[k]?) : RowO w' e sz A m c xs := by
  refine ⟨h.1, ?_⟩
  rcases h.2 with h1 | ⟨g, off, cs, rfl, h1, h2, hb, h3⟩
  · exact .inl h1
  · exact .inr ⟨g, off, cs, rfl, h1, h2, (hk g ((inA_some _ _ _ _).2 rfl)).trans hb, h3⟩
theorem RowO.only (h : RowO w e sz A m c xs) (ho : Only S w w') (hn : ∀ k, inA A k → ¬ S k) : RowO w' e sz A m c xs := h.keep fun k hk => ho.block k (h.lt hk) (hn k hk)
theorem RowO.ext (h : RowO w e sz A m c xs) (hb : Below w.heap.size w w') : RowO w' e sz A m c xs := h.keep fun k hk => hb.block k (h.lt hk)
theorem RowO.alloc (h : RowO w e sz A m c xs) (o : Obj) : RowO (w.alloc o) e sz A m c xs := h.ext ((Below.refl _ _).alloc (Nat.le_refl _) o)
theorem RowO.drew (h : RowO w e sz A m c xs) : RowO w.drew e sz A m c xs := h
theorem RowO.drewN (h : RowO w e sz A m c xs) (n : Nat) : RowO (w.drewN n) e sz A m c xs := h
theorem RowO.le (h : RowO w e sz A m c xs) : m ≤ c := by
  rcases h.2 with ⟨_, h1, h2⟩ | ⟨_, _, _, _, h1, _⟩ <;> omega
theorem RowO.ne_blk {g : Nat} {t : TypeId} {cs : Array Value} (h : RowO w e sz A m c xs) (hb : Blk w g t cs) (ht : e ≠ t) : ¬ inA A g := by
  intro hk
  rcases h.2 with ⟨rfl, _⟩ | ⟨g', off, cs', rfl, _, _, hb', _⟩
  · exact inA_none _ hk
  · rw [inA_some] at hk
    subst hk
    unfold Blk at hb hb'
    rw [hb] at hb'
    injection hb' with hb'
    injection hb' with _ ht'
    exact ht ht'.symm
theorem RowO.lit (w : World) (e : TypeId) (sz m : Nat) (cs : Array Value) (hs : cs.size = m * sz) (hm : m ≤ maxLen) {g : Nat} (hg : g = w.heap.size) : RowO (w.alloc (.cells cs e)) e sz (some ⟨g, 0, none⟩) m m cs.toList := by
  subst hg
  exact ⟨by simpa using hs, .inr ⟨_, 0, cs, rfl, Nat.le_refl _, hm, Blk.new w e cs, by omega, fun j u hu => by simpa using hu⟩⟩
/-- the first elements alone -/
theorem RowO.sub (h : RowO w e sz A m c xs) {n : Nat} {ys : List Value} (hn : n ≤ m) (hl : ys.length = n * sz) (hp : ∀ (j : Nat) (u : Value), ys[j]? = some u → xs[j]? = some u) : RowO w e sz A n c ys := by
  refine ⟨hl, ?_⟩
  rcases h.2 with ⟨h1, h2, h3⟩ | ⟨g, off, cs, h1, h2, h3, h4, h5, h6⟩
  · exact .inl ⟨h1, by omega, h3⟩
  · exact .inr ⟨g, off, cs, h1, by omega, h3, h4, h5, fun j u hu => h6 j u (hp j u hu)⟩
end

/-! ### append -/
section
variable {P : Program} (w : World)
theorem run_appO (t ty e : TypeId) (z : Value) (sz bytes : Nat) (ht : P.underlying t = some (.slice e)) (hi : (P.info? e).map (fun i => (i.zero, i.size, i.bytes)) = some (some z, sz, bytes)) (hzs : z.cells.size = sz)
    (A : Option Addr) (n c : Nat) (xs : List Value) (hown : RowO w e sz A n c xs) (A2 : Option Addr) (m c2 : Nat) (news : List Value) (hm : news.length = m * sz) (hr : Rd w A2 news) (h1 : ∀ u ∈ news, u.oneCell' = true) (h0 : A2 = none → m = 0)
    (h63 : n + m ≤ maxLen) (hbytes : (n + m) * bytes ≤ 140737488355328) :
    ∃ A' c' w', (Builtin.append_ #[t, t] ty #[.slice A n c, .slice A2 m c2]).run P w = .ok (.slice A' (n + m) c') w' ∧ RowO w' e sz A' (n + m) c' (xs ++ news) ∧ Only (inA A) w w' ∧ (∀ k, inA A' k → inA A k ∨ (w.heap.size ≤ k ∧ k < w'.heap.size)) := by
  obtain ⟨i, hinf, hz, hsz, hby⟩ := info_parts hi
  clear hi
  subst hsz hby
  have hsmall : n + m ≤ 9223372036854775807 := by simp only [maxLen] at h63; omega
  have src : Src P i.size t (.slice A2 m c2) m news w := by
    rcases A2 with _ | ad
    · obtain rfl := h0 rfl
      have hnil : news = [] := List.eq_nil_of_length_eq_zero (by simpa using hm)
      subst hnil
      exact Src.ofNil w ht c2
    · exact Src.ofSlice w ht ad m c2 news hm (fun j u hu => by
        obtain ⟨ad', h, hc⟩ := hr j u hu
        injection h with h
        subst h
        exact hc) h1
  have hlen : (xs ++ news).length = (n + m) * i.size := by rw [List.length_append, hown.1, hm, Nat.add_mul]
  by_cases hroom : n + m ≤ c
  · rcases hown.2 with ⟨rfl, rfl, rfl⟩ | ⟨g, off, cs, rfl, hnc, hcm, hb, hsize, hcell⟩
    · have hn0 : m = 0 := by omega
      subst hn0
      have hnil : news = [] := List.eq_nil_of_length_eq_zero (by simpa using hm)
      subst hnil
      refine ⟨none, 0, w, ?_, by rw [List.append_nil]; exact hown, Only.refl _ _, fun k hk => .inl hk⟩
      have hl := src.len w
      have hcl := src.cells
      have hl' : Builtin.lenOf (.slice A2 0 c2) = pure 0 := rfl
      rw [Nat.add_zero]
      unfold Builtin.append_
      simp [run_underlying ht, sizeOf, typeInfo, hinf, hl', hcl]
    · have hfit : off + n * i.size + news.length ≤ cs.size := by
        have h2 : (n + m) * i.size ≤ c * i.size := Nat.mul_le_mul_right _ hroom
        rw [Nat.add_mul] at h2
        omega
      have hcs : ∀ j, j < news.length → (w.cell? ⟨g, off + n * i.size + j, none⟩).isSome = true := fun j hj => by
        rw [hb.cell]; simp; omega
      have hfr : ∀ j, j < news.length → w.frozen? ⟨g, off + n * i.size + j, none⟩ = false := fun j _ => hb.free _
      have hrun := run_append_room_src (P := P) w t t ty e i ht hinf g off n c (.slice A2 m c2) m news src hroom hcs hfr
      obtain ⟨cs', hb', hs', hin, hout⟩ := Blk.setCells news (off + n * i.size) hb hfit
      refine ⟨_, _, _, hrun, ⟨hlen, .inr ⟨g, off, cs', rfl, hroom, hcm, hb', by omega, fun j u hu => ?_⟩⟩, (Only.refl _ w).setCells (.inl ((inA_some _ _ _ _).2 rfl)) _ _, fun k hk => .inl hk⟩
      rw [List.getElem?_append] at hu
      split at hu
      · rename_i hj
        rw [hown.1] at hj
        rw [hout (off + j) (.inl (by omega))]
        exact hcell j u hu
      · rename_i hj
        have := hin _ u hu
        rw [hown.1] at hj this
        rwa [show off + n * i.size + (j - n * i.size) = off + j by omega] at this
  · have hold : (Builtin.firstCells i.size n (.slice A n c)).run P w.drew = .ok xs.toArray w.drew := by
      rcases hown.2 with ⟨rfl, rfl, rfl⟩ | ⟨g, off, cs, rfl, hnc, hcm, hb, hsize, hcell⟩
      · have hnil : xs = [] := List.eq_nil_of_length_eq_zero (by simpa using hown.1)
        subst hnil
        exact run_firstCells_none w.drew i.size 0 0 0
      · refine run_firstCells_some w.drew i.size n ⟨g, off, none⟩ n c xs hown.1 (fun j u hu => ?_)
        rw [Addr.add_mid, (Blk.drew hb).cell]
        exact hcell j u hu
    have hrun := run_append_grow_src (P := P) w t t ty e i z ht hinf hz A n c xs hold (.slice A2 m c2) m news src (by omega) (by omega) (growslice_fits (by omega) hbytes)
    have hge := grownCap_ge w (n + m) c e
    have hcm : grownCap w (n + m) c e ≤ maxLen := grownCap_le_maxLen w (n + m) c e h63
    refine ⟨_, _, _, hrun, ⟨hlen, .inr ⟨w.heap.size, 0, _, rfl, hge, hcm, heap_alloc_new w.drew _, ?_, fun j u hu => ?_⟩⟩, ((Only.refl _ w).drew).alloc _, fun k hk => .inr ?_⟩
    · simp only [Array.size_append, List.size_toArray, size_zeroCells, hzs, hlen, ← Nat.add_mul]
      rw [Nat.zero_add]
      exact Nat.le_of_eq (congrArg (· * i.size) (by omega))
    · have hj := (List.getElem?_eq_some_iff.1 hu).1
      rw [Nat.zero_add, Array.getElem?_append_left (by simpa using hj)]
      simpa using hu
    · rw [inA_some] at hk
      subst hk
      simp

theorem wp_appO {o : Oper} {a : Act} {K : Act → World → Prop} {Q : Exit → Act → World → Prop} (s x : Operand) (t : TypeId)
    (ho : o.op = .call { callee := .builtin .append, args := #[s, x], argTypes := #[t, t] })
    (e : TypeId) (z : Value) (sz bytes : Nat) (ht : P.underlying t = some (.slice e)) (hi : (P.info? e).map (fun i => (i.zero, i.size, i.bytes)) = some (some z, sz, bytes)) (hzs : z.cells.size = sz)
    (A : Option Addr) (n c : Nat) (xs : List Value) (hs : a.eval s = .slice A n c) (hown : RowO w e sz A n c xs)
    (A2 : Option Addr) (m c2 : Nat) (news : List Value) (hx : a.eval x = .slice A2 m c2) (hm : news.length = m * sz) (hr : Rd w A2 news) (h1 : ∀ u ∈ news, u.oneCell' = true) (h0 : A2 = none → m = 0)
    (h63 : n + m ≤ maxLen) (hbytes : (n + m) * bytes ≤ 140737488355328)
    (h : ∀ A' c' w', RowO w' e sz A' (n + m) c' (xs ++ news) → Only (inA A) w w' → (∀ k, inA A' k → inA A k ∨ (w.heap.size ≤ k ∧ k < w'.heap.size)) → K (a.put o.dst (.slice A' (n + m) c')) w') : o.wp P a w K Q := by
  obtain ⟨A', c', w', hrun, h2, h3, h4⟩ := run_appO (P := P) w t o.type e z sz bytes ht hi hzs A n c xs hown A2 m c2 news hm hr h1 h0 h63 hbytes
  unfold Oper.wp execOp
  simp only [ho, resolve, invoke, builtin, Sem.run_bind, Sem.run_pure, Result.andThen_ok, List.map_toArray, List.map_cons, List.map_nil, hs, hx, hrun]
  exact h A' c' w' h2 h3 h4

theorem wpList_appO {ops : Array Oper} {rest : List Oper} {o : Oper} {a : Act} {Q : Exit → Act → World → Prop} (hgd : o.guard = none) (s x : Operand) (t : TypeId)
    (ho : o.op = .call { callee := .builtin .append, args := #[s, x], argTypes := #[t, t] })
    (e : TypeId) (z : Value) (sz bytes : Nat) (ht : P.underlying t = some (.slice e)) (hi : (P.info? e).map (fun i => (i.zero, i.size, i.bytes)) = some (some z, sz, bytes)) (hzs : z.cells.size = sz)
    (A : Option Addr) (n c : Nat) (xs : List Value) (hs : a.eval s = .slice A n c) (hown : RowO w e sz A n c xs)
    (A2 : Option Addr) (m c2 : Nat) (news : List Value) (hx : a.eval x = .slice A2 m c2) (hm : news.length = m * sz) (hr : Rd w A2 news) (h1 : ∀ u ∈ news, u.oneCell' = true) (h0 : A2 = none → m = 0)
    (h63 : n + m ≤ maxLen) (hbytes : (n + m) * bytes ≤ 140737488355328)
    (h : ∀ A' c' w', RowO w' e sz A' (n + m) c' (xs ++ news) → Only (inA A) w w' → (∀ k, inA A' k → inA A k ∨ (w.heap.size ≤ k ∧ k < w'.heap.size)) → wpList P ops Q rest (a.put o.dst (.slice A' (n + m) c')) w') : wpList P ops Q (o :: rest) a w :=
  wpList_plain hgd fun _ hK => wp_appO w s x t ho e z sz bytes ht hi hzs A n c xs hs hown A2 m c2 news hx hm hr h1 h0 h63 hbytes fun A' c' w' h2 h3 h4 => hK _ _ (h A' c' w' h2 h3 h4)

/-- at a step of a region that draws its order -/
theorem step_appO {ops : Array Oper} {o : Oper} {a : Act} {K : Act → World → Prop} {Q : Exit → Act → World → Prop} {E : Prop} (hgd : o.guard = none) (s x : Operand) (t : TypeId)
    (ho : o.op = .call { callee := .builtin .append, args := #[s, x], argTypes := #[t, t] })
    (e : TypeId) (z : Value) (sz bytes : Nat) (ht : P.underlying t = some (.slice e)) (hi : (P.info? e).map (fun i => (i.zero, i.size, i.bytes)) = some (some z, sz, bytes)) (hzs : z.cells.size = sz)
    (A : Option Addr) (n c : Nat) (xs : List Value) (hs : a.eval s = .slice A n c) (hown : RowO w e sz A n c xs)
    (A2 : Option Addr) (m c2 : Nat) (news : List Value) (hx : a.eval x = .slice A2 m c2) (hm : news.length = m * sz) (hr : Rd w A2 news) (h1 : ∀ u ∈ news, u.oneCell' = true) (h0 : A2 = none → m = 0)
    (h63 : n + m ≤ maxLen) (hbytes : (n + m) * bytes ≤ 140737488355328)
    (h : ∀ A' c' w', RowO w' e sz A' (n + m) c' (xs ++ news) → Only (inA A) w w' → (∀ k, inA A' k → inA A k ∨ (w.heap.size ≤ k ∧ k < w'.heap.size)) → K (a.put o.dst (.slice A' (n + m) c')) w') :
    if Region.wanted o (yielded ops a.tmps) = true then Oper.wp P o a w K Q else E := by
  have hw : Region.wanted o (yielded ops a.tmps) = true := by simp [Region.wanted, hgd]
  rw [if_pos hw]
  exact wp_appO w s x t ho e z sz bytes ht hi hzs A n c xs hs hown A2 m c2 news hx hm hr h1 h0 h63 hbytes h
end
end Go.Proofs.YtpjgkacekelkdaaGreatDoor

/-
  Rows that were made anew; addresses at a place of a block; small words on worlds. No statement of the seat is proved here.
-/
namespace Go.Proofs.YtpjgkacekelkdaaGreatDoor
open Go Go.RowKit
set_option maxRecDepth 100000

/-- a row that was made since 'w' -/
def NewO (w w' : World) (e : TypeId) (sz : Nat) (A : Option Addr) (m c : Nat) (xs : List Value) : Prop := RowO w' e sz A m c xs ∧ Below w.heap.size w w' ∧ ∀ k, inA A k → w.heap.size ≤ k
section
variable {w w1 w2 w3 : World} {e : TypeId} {sz : Nat} {A A' : Option Addr} {m n c c' : Nat} {xs ys : List Value}
theorem NewO.start (w : World) (e : TypeId) (sz : Nat) : NewO w w e sz none 0 0 [] := ⟨RowO.none_ _ _ _, Below.refl _ _, fun k hk => absurd hk (inA_none k)⟩
theorem NewO.row (h : NewO w w1 e sz A m c xs) : RowO w1 e sz A m c xs := h.1
theorem NewO.bel (h : NewO w w1 e sz A m c xs) : Below w.heap.size w w1 := h.2.1
theorem NewO.ext (h : NewO w w1 e sz A m c xs) (hb : Below w1.heap.size w1 w2) : NewO w w2 e sz A m c xs := ⟨h.1.ext hb, ext_trans h.2.1 hb, h.2.2⟩
theorem NewO.grow (h : NewO w w1 e sz A m c xs) (hb : Below w1.heap.size w1 w2) (hr : RowO w3 e sz A' n c' ys) (ho : Only (inA A) w2 w3) (hA : ∀ k, inA A' k → inA A k ∨ (w2.heap.size ≤ k ∧ k < w3.heap.size)) : NewO w w3 e sz A' n c' ys := by
  have h1 := h.2.1.size
  have h2 := hb.size
  refine ⟨hr, (ext_trans h.2.1 hb).trans (ho.below (fun i hi => h.2.2 i hi) (by omega)), fun k hk => ?_⟩
  rcases hA k hk with hk | hk
  · exact h.2.2 k hk
  · omega
theorem NewO.rd (h : NewO w w1 e sz A m c xs) : Rd w1 A xs := h.1.rd
theorem NewO.back {w0 : World} (h : NewO w w1 e sz A m c xs) (hb : Below w0.heap.size w0 w) : NewO w0 w1 e sz A m c xs := ⟨h.1, hb.trans (h.2.1.mono hb.size), fun k hk => Nat.le_trans hb.size (h.2.2 k hk)⟩
end

/-- an address at a place of a block -/
def Flat (A : Option Addr) : Prop := ∀ ad, A = some ad → ∃ g o, ad = ⟨g, o, none⟩
theorem RowO.flat {w : World} {e : TypeId} {sz : Nat} {A : Option Addr} {m c : Nat} {xs : List Value} (h : RowO w e sz A m c xs) : Flat A := fun ad e' => by
  rcases h.2 with ⟨h1, _⟩ | ⟨g, o, _, h1, _⟩
  · rw [h1] at e'; cases e'
  · rw [h1] at e'; injection e' with e'; exact ⟨g, o, e'.symm⟩
theorem RowO.addr {w : World} {e : TypeId} {sz : Nat} {A : Option Addr} {m c : Nat} {xs : List Value} (h : RowO w e sz A m c xs) (h0 : 0 < m) : ∃ g o, A = some ⟨g, o, none⟩ := by
  rcases h.2 with ⟨_, h1, _⟩ | ⟨g, o, _, h1, _⟩
  · omega
  · exact ⟨g, o, h1⟩
theorem RowO.free {w : World} {e : TypeId} {sz : Nat} {g o m c : Nat} {xs : List Value} (h : RowO w e sz (some ⟨g, o, none⟩) m c xs) (j : Nat) : w.frozen? ⟨g, j, none⟩ = false := by
  rcases h.2 with ⟨h1, _⟩ | ⟨g', o', cs, h1, h2, h3, h4, h5, h6⟩
  · cases h1
  · injection h1 with h1
    injection h1 with h1 h1' _
    subst h1 h1'
    exact h4.free j
theorem RowO.set {w : World} {e : TypeId} {sz : Nat} {g o m c : Nat} {xs : List Value} (h : RowO w e sz (some ⟨g, o, none⟩) m c xs) (j : Nat) (hj : j < xs.length) (u : Value) : RowO (w.setCell ⟨g, o + j, none⟩ u) e sz (some ⟨g, o, none⟩) m c (xs.set j u) := by
  refine ⟨by rw [List.length_set]; exact h.1, ?_⟩
  rcases h.2 with ⟨h1, _⟩ | ⟨g', o', cs, h1, h2, h3, h4, h5, h6⟩
  · cases h1
  · injection h1 with h1
    injection h1 with h1 h1' _
    subst h1 h1'
    refine .inr ⟨g, o, cs.setIfInBounds (o + j) u, rfl, h2, h3, h4.put (o + j) u, by simpa using h5, fun i v hv => ?_⟩
    rw [List.getElem?_set] at hv
    split at hv
    · rename_i hij
      subst hij
      have hlt : o + j < cs.size := by
        have := h6 j _ (List.getElem?_eq_getElem hj)
        exact (Array.getElem?_eq_some_iff.1 this).1
      rw [Array.getElem?_setIfInBounds_self_of_lt hlt]; exact hv
    · rename_i hij
      rw [Array.getElem?_setIfInBounds_ne (by omega)]
      exact h6 i v hv
theorem NewO.set {w w1 : World} {e : TypeId} {sz : Nat} {g o m c : Nat} {xs : List Value} (h : NewO w w1 e sz (some ⟨g, o, none⟩) m c xs) (j : Nat) (hj : j < xs.length) (u : Value) : NewO w (w1.setCell ⟨g, o + j, none⟩ u) e sz (some ⟨g, o, none⟩) m c (xs.set j u) :=
  ⟨h.1.set j hj u, ⟨h.2.1.os, h.2.1.tape, h.2.1.output, by simpa [World.setCell] using h.2.1.size, fun i hi => (Below.heap_setCell w1 ⟨g, o + j, none⟩ u i (by
    have := h.2.2 g ((inA_some _ _ _ _).2 rfl)
    show i ≠ g
    omega)).trans (h.2.1.block i hi)⟩, h.2.2⟩

theorem ext2 (w : World) (a b : Obj) : Below w.heap.size w ((w.alloc a).alloc b) := ((Below.refl _ _).alloc (Nat.le_refl _) _).alloc (by simp) _
theorem ext_alloc {a w : World} (h : Below a.heap.size a w) (o : Obj) : Below a.heap.size a (w.alloc o) := h.alloc h.size o
theorem ext_drew {a w : World} (h : Below a.heap.size a w) : Below a.heap.size a w.drew := ext_drewN h 1
theorem cell_only {S : Nat → Prop} {w w' : World} {p : Addr} {v : Value} (h : w.cell? p = some v) (ho : Only S w w') (hn : ¬ S p.block) : w'.cell? p = some v :=
  (World.cell?_of_block (ho.block _ (World.block_lt_of_cell? w _ h) hn)).trans h
theorem take_snoc {α : Type} (l : List α) (k : Nat) (h : k < l.length) : l.take (k + 1) = l.take k ++ [l[k]] := by
  rw [List.take_add_one, List.getElem?_eq_getElem h]; rfl
/-! ### cells, each element of so many -/
theorem flat_at {β : Type} (enc : β → List Value) (sz : Nat) (h : ∀ b, (enc b).length = sz) : ∀ (l : List β) (k j : Nat) (hk : k < l.length), j < sz → (l.flatMap enc)[k * sz + j]? = (enc l[k])[j]?
  | a :: r, 0, j, hk, hj => by
    rw [List.flatMap_cons, List.getElem?_append_left (by rw [h]; omega)]
    simp
  | a :: r, k + 1, j, hk, hj => by
    simp only [List.length_cons] at hk
    rw [List.flatMap_cons, List.getElem?_append_right (by rw [h, Nat.add_mul]; omega), h, show (k + 1) * sz + j - sz = k * sz + j by rw [Nat.add_mul]; omega]
    rw [flat_at enc sz h r k j (by omega) hj]
    rfl
theorem flat_len {β : Type} (enc : β → List Value) (sz : Nat) (h : ∀ b, (enc b).length = sz) (l : List β) : (l.flatMap enc).length = l.length * sz := by
  induction l with
  | nil => simp
  | cons a r ih => rw [List.flatMap_cons, List.length_append, h, ih, List.length_cons, Nat.add_mul]; omega
/-- append of one element onto a row that was made anew -/
theorem wpList_app_new {P : Program} {w : World} {ops : Array Oper} {rest : List Oper} {o : Oper} {a : Act} {Q : Exit → Act → World → Prop} (hgd : o.guard = none) (s x : Operand) (t : TypeId)
    (ho : o.op = .call { callee := .builtin .append, args := #[s, x], argTypes := #[t, t] })
    (e : TypeId) (z : Value) (sz bytes : Nat) (ht : P.underlying t = some (.slice e)) (hi : (P.info? e).map (fun i => (i.zero, i.size, i.bytes)) = some (some z, sz, bytes)) (hzs : z.cells.size = sz)
    {w0 wr : World} (A : Option Addr) (n c : Nat) (xs : List Value) (hN : NewO w0 wr e sz A n c xs) (hb : Below wr.heap.size wr w) (hs : a.eval s = .slice A n c)
    (ad : Addr) (c2 : Nat) (news : List Value) (hx : a.eval x = .slice (some ad) 1 c2) (hm : news.length = 1 * sz) (hr : Rd w (some ad) news) (h1 : ∀ u ∈ news, u.oneCell' = true)
    (h63 : n + 1 ≤ maxLen) (hbytes : (n + 1) * bytes ≤ 140737488355328)
    (h : ∀ A' c' w', NewO w0 w' e sz A' (n + 1) c' (xs ++ news) → Below w0.heap.size w0 w' → wpList P ops Q rest (a.put o.dst (.slice A' (n + 1) c')) w') : wpList P ops Q (o :: rest) a w :=
  wpList_appO w hgd s x t ho e z sz bytes ht hi hzs A n c xs hs (hN.row.ext hb) (some ad) 1 c2 news hx hm hr h1 (fun h => by cases h) h63 hbytes fun A' c' w' hr' ho' hA' => by
    have h2 := hN.grow hb hr' ho' hA'
    exact h A' c' w' h2 h2.bel
end Go.Proofs.YtpjgkacekelkdaaGreatDoor

/-
  May numbers be; a difference folded and unfolded (program). No statement of the seat is proved here.
-/
namespace Go.Proofs.YtpjgkacekelkdaaGreatDoor
open Go Go.RowKit
set_option maxRecDepth 100000

def outP (v : Int) : Bool := !okP v
theorem may_out (l : List Int) : mayP l = (decide (l.length ≤ 32768) && !(l.any outP)) := by
  unfold mayP outP
  congr 1
  induction l with
  | nil => rfl
  | cons a r ih => rw [List.all_cons, List.any_cons, ih]; cases okP a <;> simp
theorem outside_any (v : Int) (w : World) : Calls Tryz.prog 81 #[.int .i64 v] w fun e w' => e = .returned (.bool (outP v)) ∧ w = w' := by
  have hd : Hid (outP v = (decide (v < 0) || decide (1099511627776 < v))) := Lib.hid (by
    unfold outP okP
    by_cases h1 : v < 0 <;> by_cases h2 : 1099511627776 < v <;> simp [h1, h2] <;> omega)
  by_cases h : v < 0
  · have d1 : decide (v < 0) = true := decide_eq_true h
    go_enter Tryz.func81, Tryz.ntmps81
    go_wp2
    go_ret
    exact ⟨by rw [hd.out, d1]; rfl, rfl⟩
  · have d1 : decide (v < 0) = false := decide_eq_false h
    go_enter Tryz.func81, Tryz.ntmps81
    go_wp2
    go_ret
    exact ⟨by rw [hd.out, d1]; rfl, rfl⟩
/-- where the first is -/
def idxP (l : List Int) : Int := match l.findIdx? outP with | some k => (k : Int) | none => -1
theorem idxP_none {l : List Int} (h : ∀ s ∈ l, outP s = false) : idxP l = -1 := by
  unfold idxP
  rw [List.findIdx?_eq_none_iff.2 h]
theorem idxP_some {l : List Int} {k : Nat} (hk : k < l.length) (h1 : outP l[k] = true) (h2 : ∀ j (hj : j < k), outP (l[j]'(by omega)) = false) : idxP l = (k : Int) := by
  unfold idxP
  rw [List.findIdx?_eq_some_iff_getElem.2 ⟨hk, h1, fun j hj => by simp [h2 j hj]⟩]
theorem idxP_any (l : List Int) : decide ((0 : Int) ≤ idxP l) = l.any outP := by
  unfold idxP
  cases h : l.findIdx? outP with
  | none =>
    rw [List.findIdx?_eq_none_iff] at h
    have : l.any outP = false := by rw [List.any_eq_false]; intro x hx; simp [h x hx]
    rw [this]; rfl
  | some k =>
    rw [List.findIdx?_eq_some_iff_getElem] at h
    obtain ⟨hk, h1, _⟩ := h
    have : l.any outP = true := List.any_eq_true.2 ⟨l[k], List.getElem_mem hk, h1⟩
    rw [this]
    exact decide_eq_true (by simp)
theorem rd_int {w : World} {A : Option Addr} {l : List Int} (h : Rd w A (l.map iv)) {k : Nat} (hk : k < l.length) : ∃ ad, A = some ad ∧ w.cell? (ad.add k) = some (.int .i64 l[k]) := by
  obtain ⟨ad, e, hc⟩ := h.at_ (k := k) (by simpa using hk)
  rw [List.getElem_map] at hc
  exact ⟨ad, e, hc⟩

set_option maxHeartbeats 2000000 in
theorem pindex_any (A : Option Addr) (c : Nat) (l : List Int) (w : World) (hA : Rd w A (l.map iv)) (hl : l.length ≤ 1000000) :
    Calls Tryz.prog 97 #[.slice A l.length c, .func (.func 81) #[] #[]] w fun e w' => e = .returned (.int .i64 (idxP l)) ∧ w = w' := by
  have hli : (l.length : Int) ≤ 1000000 := by omega
  go_enter Tryz.func97, Tryz.ntmps97
  go_wp2
  go_loop [8] (fun i => ∃ k : Nat, k ≤ l.length ∧ i = .int .i64 (k : Int) ∧ ∀ j (hj : j < l.length), j < k → outP l[j] = false) (fun i => l.length - (intOf i).toNat)
  case atStart => exact ⟨0, Nat.zero_le _, rfl, fun j _ h => absurd h (by omega)⟩
  case round =>
    obtain ⟨k, hk, rfl, hno⟩ := hrel
    have Hno := Lib.hid hno
    by_cases hlt : k < l.length
    · have hki : (k : Int) < (l.length : Int) := by omega
      obtain ⟨ad, rfl, hcell⟩ := rd_int hA hlt
      have HI : Hid (outP l[k] = true → idxP l = (k : Int)) := Lib.hid (fun h => idxP_some hlt h (fun j hj => hno j (by omega) hj))
      have HF : Hid (outP l[k] = false → ∀ j (hj : j < l.length), j < k + 1 → outP l[j] = false) := Lib.hid (fun h j hj hj2 => by
        rcases Nat.lt_succ_iff_lt_or_eq.1 hj2 with h3 | rfl
        · exact hno j hj h3
        · exact h)
      have HL := Lib.hid (outside_any l[k] w)
      clear hno
      generalize l[k] = x at *
      generalize outP x = v at *
      go_wp2_with fail
      refine HL.out.mono ?_
      rintro e w' ⟨rfl, rfl⟩
      cases v with
      | true =>
        have Hi := Lib.hid (HI.out rfl)
        go_wp2
        go_ret
        exact ⟨by rw [Hi.out]; rfl, rfl⟩
      | false =>
        have Hf := Lib.hid (HF.out rfl)
        clear HF HI
        go_wp2
        go_round
        case rel => exact ⟨k + 1, by omega, by go_num, Hf.out⟩
        case measure => simp [intOf]; omega
    · obtain rfl : k = l.length := by omega
      have hi : idxP l = -1 := idxP_none (fun s hs => by
        obtain ⟨j, hj, rfl⟩ := List.mem_iff_getElem.1 hs
        exact hno j hj hj)
      have Hi := Lib.hid hi
      clear hno hi
      go_wp2
      go_ret
      exact ⟨by rw [Hi.out]; rfl, rfl⟩
theorem pcontains_any (A : Option Addr) (c : Nat) (l : List Int) (w : World) (hA : Rd w A (l.map iv)) (hl : l.length ≤ 1000000) :
    Calls Tryz.prog 82 #[.slice A l.length c, .func (.func 81) #[] #[]] w fun e w' => e = .returned (.bool (l.any outP)) ∧ w = w' := by
  have HI := Lib.hid (pindex_any A c l w hA hl)
  have Hd := Lib.hid (idxP_any l)
  generalize idxP l = v at *
  go_enter Tryz.func82, Tryz.ntmps82
  go_wp2_with fail
  refine HI.out.mono ?_
  rintro e w' ⟨rfl, rfl⟩
  go_wp2
  go_ret
  exact ⟨by rw [← Hd.out]; rfl, rfl⟩

theorem folded_any (d : Int) (h0 : -1099511627776 ≤ d) (h1 : d ≤ 1099511627776) (w : World) : Calls Tryz.prog 92 #[.int .i64 d] w fun e w' => e = .returned (.int .i64 (foldP d)) ∧ w = w' := by
  unfold foldP
  by_cases h : d < 0
  · have d1 : decide (d < 0) = true := decide_eq_true h
    have f1 : IntKind.i64.wrap (-2 * d) = -2 * d := IntWalk.i64_in _ (by omega)
    have f2 : IntKind.i64.wrap (-2 * d - 1) = -2 * d - 1 := IntWalk.i64_in _ (by omega)
    rw [if_pos h]
    go_enter Tryz.func92, Tryz.ntmps92
    go_wp2
    go_ret
    exact ⟨by first | rfl | (rw [f1, f2]) | simp, rfl⟩
  · have d1 : decide (d < 0) = false := decide_eq_false h
    have f1 : IntKind.i64.wrap (2 * d) = 2 * d := IntWalk.i64_in _ (by omega)
    rw [if_neg h]
    go_enter Tryz.func92, Tryz.ntmps92
    go_wp2
    go_ret
    exact ⟨by first | rfl | (rw [f1]) | simp, rfl⟩
theorem unfolded_any (n : Int) (h0 : 0 ≤ n) (h1 : n ≤ 4611686018427387904) (w : World) : Calls Tryz.prog 93 #[.int .i64 n] w fun e w' => e = .returned (.int .i64 (unfP n)) ∧ w = w' := by
  unfold unfP
  have t1 : n.tmod 2 = n % 2 := Int.tmod_eq_emod_of_nonneg h0
  have t2 : n.tdiv 2 = n / 2 := Int.tdiv_eq_ediv_of_nonneg h0
  by_cases h : n % 2 = 1
  · rw [if_pos h]
    have f1 : IntKind.i64.wrap (n / 2 + 1) = n / 2 + 1 := IntWalk.i64_in _ (by omega)
    have f2 : IntKind.i64.wrap (-(n / 2 + 1)) = -(n / 2 + 1) := IntWalk.i64_in _ (by omega)
    go_enter Tryz.func93, Tryz.ntmps93
    go_wp2
    go_ret
    exact ⟨by first | rfl | (rw [f1, f2]) | simp, rfl⟩
  · have h2 : n % 2 = 0 := by omega
    rw [if_neg h]
    go_enter Tryz.func93, Tryz.ntmps93
    go_wp2
    go_ret
    exact ⟨by first | rfl | (rw [f1]) | simp, rfl⟩
end Go.Proofs.YtpjgkacekelkdaaGreatDoor
