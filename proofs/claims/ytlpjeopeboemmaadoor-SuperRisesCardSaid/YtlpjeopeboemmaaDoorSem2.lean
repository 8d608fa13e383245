/-
  What a Commit makes of sectors, with a fuse or without; what a crash leaves of it. No statement of the seat is proved here.
-/
import Derived.Test.YtlpjeopeboemmaaDoorSem
namespace Go.Proofs.YtlpjeopeboemmaaDoor

/-- rows are written, not flushed -/
def wrote (S : Sec) (i : Nat) : List (List UInt8) → Sec
  | [] => S
  | r :: rs => wrote (S.set i (S.getD i [] ++ [pad r])) (i + 1) rs
/-- rows laid over a flat disk -/
def over (D : List (List UInt8)) (i : Nat) : List (List UInt8) → List (List UInt8)
  | [] => D
  | r :: rs => over (D.set i (pad r)) (i + 1) rs

theorem wrote_length : ∀ (rows : List (List UInt8)) (S : Sec) (i : Nat), (wrote S i rows).length = S.length
  | [], _, _ => rfl
  | r :: rs, S, i => by rw [wrote, wrote_length rs]; simp
theorem over_length : ∀ (rows : List (List UInt8)) (D : List (List UInt8)) (i : Nat), (over D i rows).length = D.length
  | [], _, _ => rfl
  | r :: rs, D, i => by rw [over, over_length rs]; simp
theorem over_getD : ∀ (rows : List (List UInt8)) (D : List (List UInt8)) (i x : Nat), i + rows.length ≤ D.length → (over D i rows).getD x [] = if i ≤ x ∧ x < i + rows.length then pad (rows.getD (x - i) []) else D.getD x []
  | [], D, i, x, _ => by rw [over, if_neg (by rw [List.length_nil]; omega)]
  | r :: rs, D, i, x, h => by
    rw [List.length_cons] at h ⊢
    rw [over, over_getD rs _ _ x (by simp; omega)]
    by_cases h1 : i + 1 ≤ x ∧ x < i + 1 + rs.length
    · rw [if_pos h1, if_pos (by omega)]
      rw [show x - i = (x - (i + 1)) + 1 by omega]
      simp
    · rw [if_neg h1]
      by_cases hx : x = i
      · subst hx
        rw [if_pos (by omega), Nat.sub_self]
        simp [List.getD_eq_getElem?_getD, show x < D.length by omega]
      · rw [if_neg (by omega), List.getD_eq_getElem?_getD, List.getD_eq_getElem?_getD, List.getElem?_set_ne (Ne.symm hx)]
theorem lastOf_snoc (vs : List (List UInt8)) (v : List UInt8) : lastOf (vs ++ [v]) = v := by unfold lastOf; simp
theorem lasts_wrote : ∀ (rows : List (List UInt8)) (S : Sec) (i : Nat), i + rows.length ≤ S.length → lasts (wrote S i rows) = over (lasts S) i rows
  | [], _, _, _ => rfl
  | r :: rs, S, i, h => by
    rw [List.length_cons] at h
    rw [wrote, over, lasts_wrote rs _ _ (by simp; omega)]
    congr 1
    unfold lasts
    rw [List.map_set, lastOf_snoc]
theorem lasts_flush (S : Sec) : lasts (flushS S) = lasts S := by
  unfold lasts flushS
  rw [List.map_map]
  apply List.map_congr_left
  intro vs _
  rfl
theorem lasts_length (S : Sec) : (lasts S).length = S.length := by simp [lasts]
theorem lasts_getD (S : Sec) (x : Nat) : (lasts S).getD x [] = lastOf (S.getD x []) := by
  unfold lasts
  rw [List.getD_eq_getElem?_getD, List.getD_eq_getElem?_getD, List.getElem?_map]
  cases S[x]? <;> rfl

/-- each sector has one version -/
def Single (S : Sec) : Prop := ∀ vs ∈ S, vs.length = 1
theorem single_flush (S : Sec) : Single (flushS S) := fun vs h => by
  obtain ⟨_, _, rfl⟩ := List.mem_map.1 h
  rfl
theorem single_small {S : Sec} (h : Single S) : Small 1 S := fun vs hv => Nat.le_of_eq (h vs hv)

/-- all is written and flushed, or the fuse burns behind so many -/
theorem lay_cases : ∀ (rows : List (List UInt8)) (S : Sec) (l : Int) (i : Nat), -1 ≤ l → i + rows.length ≤ S.length → (∀ r ∈ rows, r.length ≤ 64) →
    (∃ l', layTo S l (i : Int) rows = (0, flushS (wrote S i rows), l') ∧ (l = -1 → l' = -1) ∧ -1 ≤ l') ∨ (0 ≤ l ∧ ∃ j, j ≤ rows.length ∧ layTo S l (i : Int) rows = (6, wrote S i (rows.take j), 0))
  | [], S, l, i, hl, _, _ => by
    by_cases h0 : l = 0
    · subst h0
      exact .inr ⟨by omega, 0, by simp, by simp [layTo, flushCode, tick, wrote]⟩
    · refine .inl ⟨tick l, ?_, fun h => by subst h; rfl, by unfold tick; split <;> omega⟩
      simp [layTo, flushCode, h0, wrote]
  | r :: rs, S, l, i, hl, h, h64 => by
    rw [List.length_cons] at h
    by_cases h0 : l = 0
    · subst h0
      refine .inr ⟨by omega, 0, by simp, ?_⟩
      have hc : writeCode S.length 0 (i : Int) r = 6 := by unfold writeCode; rw [if_pos rfl]
      rw [layTo, hc, if_neg (by omega)]
      rfl
    · have hc : writeCode S.length l (i : Int) r = 0 := by
        unfold writeCode
        rw [if_neg h0, if_neg (by have := h64 r (by simp); omega)]
      have hw : writeS S l (i : Int) r = S.set i (S.getD i [] ++ [pad r]) := by
        unfold writeS
        rw [if_pos hc, Int.toNat_natCast]
      have htl : -1 ≤ tick l := by unfold tick; split <;> omega
      have ih := lay_cases rs (S.set i (S.getD i [] ++ [pad r])) (tick l) (i + 1) htl (by simp; omega) (fun q hq => h64 q (by simp [hq]))
      have e : layTo S l (i : Int) (r :: rs) = layTo (S.set i (S.getD i [] ++ [pad r])) (tick l) ((i + 1 : Nat) : Int) rs := by
        rw [layTo, if_pos hc, hw]
        rfl
      rw [e]
      rcases ih with ⟨l', h1, h2, h3⟩ | ⟨h1, j, h2, h3⟩
      · refine .inl ⟨l', by rw [h1]; rfl, fun hl1 => h2 (by rw [hl1]; rfl), h3⟩
      · refine .inr ⟨by unfold tick at h1; split at h1 <;> omega, j + 1, by simp; omega, by rw [h3]; rfl⟩

/-- of a crash: a sector is what it was, or what was written -/
theorem wrote_mem : ∀ (rows : List (List UInt8)) (S : Sec) (i x : Nat), i + rows.length ≤ S.length → ∀ v ∈ (wrote S i rows).getD x [], v ∈ S.getD x [] ∨ (i ≤ x ∧ x < i + rows.length ∧ v = pad (rows.getD (x - i) []))
  | [], _, _, _, _, v, h => .inl h
  | r :: rs, S, i, x, hl, v, h => by
    rw [List.length_cons] at hl ⊢
    rw [wrote] at h
    rcases wrote_mem rs _ _ x (by simp; omega) v h with h1 | ⟨h1, h2, h3⟩
    · by_cases hx : x = i
      · subst hx
        rw [List.getD_eq_getElem?_getD, List.getElem?_set_self (by omega)] at h1
        rcases List.mem_append.1 h1 with h1 | h1
        · exact .inl h1
        · simp at h1
          exact .inr ⟨by omega, by omega, by rw [Nat.sub_self]; simpa using h1⟩
      · rw [List.getD_eq_getElem?_getD, List.getElem?_set_ne (Ne.symm hx), ← List.getD_eq_getElem?_getD] at h1
        exact .inl h1
    · refine .inr ⟨by omega, by omega, ?_⟩
      rw [show x - i = (x - (i + 1)) + 1 by omega]
      simpa using h3
theorem crash_getD {S : Sec} (hne : ∀ vs ∈ S, vs ≠ []) (ps : List Int) (x : Nat) (hx : x < S.length) : (lasts (crashS S ps)).getD x [] ∈ S.getD x [] := by
  rw [lasts_getD]
  have e : (crashS S ps).getD x [] = if 1 < (S[x]).length then [crashAt S ps x] else S[x] := by
    unfold crashS
    rw [List.getD_eq_getElem?_getD, List.getElem?_mapIdx, List.getElem?_eq_getElem hx]
    rfl
  have eS : S.getD x [] = S[x] := by rw [List.getD_eq_getElem?_getD, List.getElem?_eq_getElem hx]; rfl
  rw [e, eS]
  have hn := hne S[x] (List.getElem_mem hx)
  split
  · show crashAt S ps x ∈ _
    unfold crashAt
    rw [eS]
    exact pickOf_mem hn _
  · exact lastOf_mem hn
theorem crash_single {S : Sec} (hne : ∀ vs ∈ S, vs ≠ []) (ps : List Int) : Single (crashS S ps) := fun vs h => by
  obtain ⟨x, hx, rfl⟩ := List.mem_iff_getElem.1 h
  have hx' : x < S.length := by simpa [crashS] using hx
  simp only [crashS, List.getElem_mapIdx]
  split
  · rfl
  · have := List.length_pos_iff.2 (hne _ (List.getElem_mem hx'))
    omega
theorem single_getD {S : Sec} (h : Single S) (x : Nat) (hx : x < S.length) : S.getD x [] = [(lasts S).getD x []] := by
  rw [lasts_getD]
  have eS : S.getD x [] = S[x] := by rw [List.getD_eq_getElem?_getD, List.getElem?_eq_getElem hx]; rfl
  rw [eS]
  match hs : S[x], h S[x] (List.getElem_mem hx) with
  | [v], _ => rfl
theorem crash_of_single {S : Sec} (h : Single S) (ps : List Int) : crashS S ps = S := by
  refine List.ext_getElem (by simp [crashS]) fun x h1 h2 => ?_
  simp only [crashS, List.getElem_mapIdx]
  rw [if_neg (by have := h _ (List.getElem_mem h2); omega)]

theorem pad_row {r : List UInt8} (h : r.length = 64) : pad r = r := by unfold pad; rw [h]; simp
theorem packOf_64 {n : Nat} {img : List UInt8} (hi : img.length ≤ 814) : ∀ r ∈ packOf n img, r.length = 64 := fun r hr => by
  obtain ⟨k, hk, rfl⟩ := List.mem_map.1 hr
  exact row_length hi (List.mem_range.1 hk)
theorem packOf_getD {n k : Nat} {img : List UInt8} (hk : k < 16) : (packOf n img).getD k [] = rowOf n k img := by
  rw [List.getD_eq_getElem?_getD, packOf_get hk]; rfl
/-- a slot that was laid over -/
theorem slot_over {D : List (List UInt8)} {k n : Nat} {bs : List UInt8} (hk : k ≤ 1) (h : 32 ≤ D.length) (hb : bs.length ≤ 814) : slotD (over D (k * 16) (packOf n bs)) k = packOf n bs := by
  unfold slotD
  have e : packOf n bs = (List.range 16).map fun i => rowOf n i bs := rfl
  rw [e]
  apply List.map_congr_left
  intro i hi
  have hi' := List.mem_range.1 hi
  rw [← e, over_getD _ _ _ _ (by rw [packOf_length]; omega), packOf_length, if_pos (by omega), show k * 16 + i - k * 16 = i by omega, packOf_getD hi', pad_row (row_length hb hi')]
theorem slot_over_other {D : List (List UInt8)} {k j : Nat} {rows : List (List UInt8)} (hk : k ≤ 1) (hj : j ≤ 1) (hne : j ≠ k) (h : 32 ≤ D.length) (hr : rows.length = 16) : slotD (over D (k * 16) rows) j = slotD D j :=
  slotD_congr fun i hi => by rw [over_getD _ _ _ _ (by omega), if_neg (by omega)]
end Go.Proofs.YtlpjeopeboemmaaDoor
