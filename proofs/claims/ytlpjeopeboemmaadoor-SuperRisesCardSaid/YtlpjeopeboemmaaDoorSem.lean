/-
  What disks tell behind commits and crashes: lists and numbers alone. No statement of the seat is proved here.
-/
import Derived.Test.YtlpjeopeboemmaaDoorFormat
namespace Go.Proofs.YtlpjeopeboemmaaDoor

/-! ### A slot's sectors -/
theorem numOf_row {n k : Nat} {img : List UInt8} (hn : n ≤ 1125899906842624) (hi : img.length ≤ 814) (hk : k < 16) : numOf (rowOf n k img) = n := by
  have hh := head_length (n := n) hi hk
  have e1 : (rowOf n k img).drop 60 = lowB 4 (sumOf (headOf n k img)) := by unfold rowOf; rw [List.drop_left' hh]
  have e2 : (rowOf n k img).take 60 = headOf n k img := by unfold rowOf; rw [List.take_left' hh]
  have e3 : (rowOf n k img).take 8 = lowB 8 n := by
    unfold rowOf headOf
    rw [List.append_assoc, List.append_assoc, List.take_left' (lowB_length 8 n)]
  unfold numOf
  rw [e1, e2, e3, ofLow_lowB, ofLow_lowB, Nat.mod_eq_of_lt (by have := sumOf_lt (headOf n k img); have e : (256 : Nat) ^ 4 = 4294967296 := rfl; omega), Nat.mod_eq_of_lt (by have e : (256 : Nat) ^ 8 = 18446744073709551616 := rfl; omega), if_pos ⟨rfl, hn⟩]
theorem chunks (b : List UInt8) : ∀ m, m * 51 ≤ b.length → ((List.range m).map fun k => (b.drop (k * 51)).take 51).flatten = b.take (m * 51)
  | 0, _ => by simp
  | m + 1, h => by
    rw [List.range_succ, List.map_append, List.flatten_append, chunks b m (by omega), Nat.add_mul, Nat.one_mul, List.take_add]
    simp
theorem borneR_pack {n : Nat} {img : List UInt8} (hi : img.length ≤ 814) : borneR (packOf n img) = borneOf img := by
  have hb := borne_length hi
  have e : (packOf n img).map (fun r => (r.drop 9).take 51) = (List.range 16).map fun k => ((borneOf img).drop (k * 51)).take 51 := by
    unfold packOf
    rw [List.map_map]
    apply List.map_congr_left
    intro k hk
    have hk' := List.mem_range.1 hk
    have hl : (lowB 8 n ++ [k.toUInt8]).length = 9 := by simp [lowB_length]
    have hc : (((borneOf img).drop (k * 51)).take 51).length = 51 := by rw [List.length_take, List.length_drop, hb]; omega
    show ((rowOf n k img).drop 9).take 51 = _
    unfold rowOf headOf
    rw [List.append_assoc, List.drop_left' hl, List.take_left' hc]
  unfold borneR
  rw [e, chunks (borneOf img) 16 (by omega), List.take_of_length_le (by omega)]
theorem imgR_pack {n : Nat} {img : List UInt8} (hi : img.length ≤ 814) : imgR (packOf n img) = img := by
  have hs : sizeR (packOf n img) = img.length := by
    unfold sizeR
    rw [borneR_pack hi]
    unfold borneOf
    rw [List.append_assoc, List.take_left' (lowB_length 2 _), ofLow_lowB, Nat.mod_eq_of_lt (by have e : (256 : Nat) ^ 2 = 65536 := rfl; omega)]
  unfold imgR
  rw [hs, if_pos hi, borneR_pack hi]
  unfold borneOf
  rw [List.append_assoc, List.drop_left' (lowB_length 2 _), List.take_left]
theorem packOf_get {n k : Nat} {img : List UInt8} (hk : k < 16) : (packOf n img)[k]? = some (rowOf n k img) := by unfold packOf; simp [hk]
theorem pack_head (n : Nat) (img : List UInt8) : (packOf n img).headD [] = rowOf n 0 img := rfl
theorem unpack_pack {n : Nat} {img : List UInt8} (h1 : 1 ≤ n) (h2 : n ≤ 1125899906842624) (hi : img.length ≤ 814) : unpackS (packOf n img) = (n, img) := by
  have hp : packI (n : Int) img = packOf n img := by unfold packI; rw [if_pos ⟨by omega, by omega, hi⟩]; rfl
  unfold unpackS
  rw [pack_head, numOf_row h2 hi (by omega), imgR_pack hi, hp, if_pos rfl]
/-- what is told is packed so -/
theorem unpack_some {rows : List (List UInt8)} (h : 0 < (unpackS rows).1) (hl : rows.length = 16) : rows = packOf (unpackS rows).1 (unpackS rows).2 ∧ (unpackS rows).1 ≤ 1125899906842624 ∧ (unpackS rows).2.length ≤ 814 := by
  have hle := unpackS_le rows
  refine ⟨?_, hle⟩
  unfold unpackS at h hle ⊢
  split at h
  · rename_i hq
    rw [if_pos hq] at hle ⊢
    have hp : packI (numOf (rows.headD []) : Int) (imgR rows) = packOf (numOf (rows.headD [])) (imgR rows) := by
      dsimp only at h hle
      unfold packI
      rw [if_pos ⟨by omega, by omega, hle.2⟩]; rfl
    rw [← hp]
    exact hq
  · simp at h
/-- rows of two numbers are no slot -/
theorem unpack_mixed {rows : List (List UInt8)} (hl : rows.length = 16) {i j : Nat} {r q : List UInt8} (hi : rows[i]? = some r) (hj : rows[j]? = some q) (hne : numOf r ≠ numOf q) : (unpackS rows).1 = 0 := by
  rcases Nat.eq_zero_or_pos (unpackS rows).1 with h | h
  · exact h
  · exfalso
    obtain ⟨h1, h2, h3⟩ := unpack_some h hl
    have hi16 := (List.getElem?_eq_some_iff.1 hi).1
    have hj16 := (List.getElem?_eq_some_iff.1 hj).1
    rw [h1, packOf_get (by omega)] at hi
    rw [h1, packOf_get (by omega)] at hj
    injection hi with hi
    injection hj with hj
    rw [← hi, ← hj, numOf_row h2 h3 (by omega), numOf_row h2 h3 (by omega)] at hne
    exact hne rfl
theorem unpack_zero_snd {rows : List (List UInt8)} (hl : rows.length = 16) (h : (unpackS rows).1 = 0) : unpackS rows = (0, []) := by
  unfold unpackS at h ⊢
  split
  · rename_i hq
    rw [if_pos hq] at h
    dsimp only at h
    rw [h] at hq
    have hp : packI ((0 : Nat) : Int) (imgR rows) = [] := by unfold packI; rw [if_neg (by unfold fits; omega)]
    rw [hp] at hq
    rw [hq] at hl
    simp at hl
  · rfl

/-! ### The greatest number -/
theorem mostR_ge (rows : List (List UInt8)) : ∀ m, m ≤ mostR m rows := by
  induction rows with
  | nil => intro m; exact Nat.le_refl _
  | cons r rs ih => intro m; exact Nat.le_trans (Nat.le_max_left _ _) (ih _)
theorem mostR_mem (rows : List (List UInt8)) : ∀ m r, r ∈ rows → numOf r ≤ mostR m rows := by
  induction rows with
  | nil => intro m r h; cases h
  | cons x rs ih =>
    intro m r h
    rcases List.mem_cons.1 h with h | h
    · subst h; exact Nat.le_trans (Nat.le_max_right _ _) (mostR_ge rs _)
    · exact ih _ r h
theorem mostR_lub (rows : List (List UInt8)) : ∀ m N, m ≤ N → (∀ r ∈ rows, numOf r ≤ N) → mostR m rows ≤ N := by
  induction rows with
  | nil => intro m N h _; exact h
  | cons x rs ih => intro m N h hr; exact ih _ N (Nat.max_le.2 ⟨h, hr x (by simp)⟩) (fun r h => hr r (by simp [h]))

/-! ### Flat disks -/
def lasts (S : Sec) : List (List UInt8) := S.map lastOf
def slotD (D : List (List UInt8)) (k : Nat) : List (List UInt8) := (List.range 16).map fun i => D.getD (k * 16 + i) []
theorem slotRows_lasts (S : Sec) (k : Nat) : slotRows S k = slotD (lasts S) k := by
  unfold slotRows slotD lasts
  apply List.map_congr_left
  intro i _
  rw [List.getD_eq_getElem?_getD, List.getD_eq_getElem?_getD, List.getElem?_map]
  cases S[k * 16 + i]? <;> rfl
theorem slotD_get (D : List (List UInt8)) (k i : Nat) (hi : i < 16) : (slotD D k)[i]? = some (D.getD (k * 16 + i) []) := by unfold slotD; simp [hi]
theorem slotD_length (D : List (List UInt8)) (k : Nat) : (slotD D k).length = 16 := by simp [slotD]
theorem slotD_congr {D E : List (List UInt8)} {k : Nat} (h : ∀ i, i < 16 → D.getD (k * 16 + i) [] = E.getD (k * 16 + i) []) : slotD D k = slotD E k := by
  unfold slotD
  exact List.map_congr_left fun i hi => h i (List.mem_range.1 hi)
/-- what an opened disk tells: number, image, slot; the greatest number -/
def tellD (D : List (List UInt8)) : Nat × List UInt8 × Nat :=
  if (unpackS (slotD D 0)).1 < (unpackS (slotD D 1)).1 then ((unpackS (slotD D 1)).1, (unpackS (slotD D 1)).2, 1) else ((unpackS (slotD D 0)).1, (unpackS (slotD D 0)).2, 0)
def mostD (D : List (List UInt8)) : Nat := mostR (mostR 0 (slotD D 0)) (slotD D 1)
theorem tell_lasts (S : Sec) : tellK S 2 = tellD (lasts S) := by
  unfold tellD
  have h0 : tellK S 1 = if 0 < (unpackS (slotD (lasts S) 0)).1 then ((unpackS (slotD (lasts S) 0)).1, (unpackS (slotD (lasts S) 0)).2, 0) else (0, [], 0) := by
    rw [← slotRows_lasts]; rfl
  have h1 : tellK S 1 = ((unpackS (slotD (lasts S) 0)).1, (unpackS (slotD (lasts S) 0)).2, 0) := by
    rw [h0]
    split
    · rfl
    · rename_i hz
      have hz0 : (unpackS (slotD (lasts S) 0)).1 = 0 := by omega
      rw [unpack_zero_snd (slotD_length _ _) hz0]
  have h2 : tellK S 2 = if (tellK S 1).1 < (unpackS (slotRows S 1)).1 then ((unpackS (slotRows S 1)).1, (unpackS (slotRows S 1)).2, 1) else tellK S 1 := rfl
  rw [h2, h1, slotRows_lasts]
theorem most_lasts (S : Sec) : mostK S 2 = mostD (lasts S) := by
  unfold mostD
  rw [← slotRows_lasts, ← slotRows_lasts]; rfl
/-- in either order -/
theorem mostD_le {D : List (List UInt8)} {N : Nat} : mostD D ≤ N ↔ ∀ k, k ≤ 1 → ∀ r ∈ slotD D k, numOf r ≤ N := by
  constructor
  · intro h k hk r hr
    rcases Nat.le_one_iff_eq_zero_or_eq_one.1 hk with rfl | rfl
    · exact Nat.le_trans (Nat.le_trans (mostR_mem _ 0 r hr) (mostR_ge _ _)) h
    · exact Nat.le_trans (mostR_mem _ _ r hr) h
  · intro h
    exact mostR_lub _ _ _ (mostR_lub _ _ _ (Nat.zero_le _) (h 0 (by omega))) (h 1 (by omega))

/-- An opened disk tells this. -/
def Tells (D : List (List UInt8)) (img : List UInt8) (N slot : Nat) : Prop := 0 < (tellD D).1 ∧ (tellD D).2 = (img, slot) ∧ mostD D = N
theorem Tells.slot_le {D : List (List UInt8)} {img : List UInt8} {N slot : Nat} (h : Tells D img N slot) : slot ≤ 1 := by
  have h2 := h.2.1
  unfold tellD at h2
  split at h2
  · injection h2 with _ h; try omega
  · injection h2 with _ h; try omega
/-- the slot that holds it; the other one tells less -/
theorem Tells.cur {D : List (List UInt8)} {img : List UInt8} {N slot : Nat} (h : Tells D img N slot) : ∃ n, 1 ≤ n ∧ n ≤ N ∧ unpackS (slotD D slot) = (n, img) := by
  obtain ⟨h0, h1, h2⟩ := h
  have key : ∀ k, k ≤ 1 → 0 < (unpackS (slotD D k)).1 → (unpackS (slotD D k)).1 ≤ N := fun k hk hp => by
    obtain ⟨e, l1, l2⟩ := unpack_some hp (slotD_length D k)
    have hm := mostD_le.1 (Nat.le_of_eq h2) k hk (rowOf (unpackS (slotD D k)).1 0 (unpackS (slotD D k)).2) (by
      have := packOf_get (n := (unpackS (slotD D k)).1) (img := (unpackS (slotD D k)).2) (k := 0) (by omega)
      rw [← e] at this
      exact List.mem_of_getElem? this)
    rw [numOf_row l1 l2 (by omega)] at hm
    exact hm
  unfold tellD at h0 h1
  split at h0
  · rename_i hlt
    rw [if_pos hlt] at h1
    injection h1 with h1 h3
    subst h3
    exact ⟨_, h0, key 1 (by omega) h0, by rw [← h1]⟩
  · rename_i hlt
    rw [if_neg hlt] at h1
    injection h1 with h1 h3
    subst h3
    exact ⟨_, h0, key 0 (by omega) h0, by rw [← h1]⟩
/-- told by the slot 'k', if the other one tells a smaller number -/
theorem tells_of {D : List (List UInt8)} {img : List UInt8} {n k : Nat} (hk : k ≤ 1) (hn : 0 < n) (h : unpackS (slotD D k) = (n, img)) (ho : (unpackS (slotD D (1 - k))).1 < n) : Tells D img (mostD D) k := by
  refine ⟨?_, ?_, rfl⟩
  all_goals
    unfold tellD
    rcases Nat.le_one_iff_eq_zero_or_eq_one.1 hk with rfl | rfl
    · rw [if_neg (by rw [h]; exact Nat.not_lt.2 (Nat.le_of_lt ho)), h]
      try exact hn
    · rw [if_pos (by rw [h]; exact ho), h]
      try exact hn
/-- the other slot is of nothing, or of sectors of two numbers: all is as it was, but for the number -/
theorem Tells.other {D E : List (List UInt8)} {img : List UInt8} {N slot : Nat} (h : Tells D img N slot) (hs : slotD E slot = slotD D slot) (ho : (unpackS (slotD E (1 - slot))).1 = 0) : Tells E img (mostD E) slot := by
  obtain ⟨n, h1, h2, h3⟩ := h.cur
  exact tells_of h.slot_le h1 (by rw [hs]; exact h3) (by omega)
/-- another image has been laid -/
theorem Tells.next {D E : List (List UInt8)} {img bs : List UInt8} {N slot : Nat} (h : Tells D img N slot) (hN : N < 1125899906842624) (hb : bs.length ≤ 814) (hs : slotD E slot = slotD D slot) (ho : slotD E (1 - slot) = packOf (N + 1) bs) : Tells E bs (N + 1) (1 - slot) := by
  obtain ⟨n, h1, h2, h3⟩ := h.cur
  have hsl := h.slot_le
  have hm : mostD E = N + 1 := by
    have h4 : mostD E ≤ N + 1 := mostD_le.2 fun k hk r hr => by
      by_cases hks : k = slot
      · subst hks
        rw [hs] at hr
        have := mostD_le.1 (Nat.le_of_eq h.2.2) k hk r hr
        omega
      · obtain rfl : k = 1 - slot := by omega
        rw [ho] at hr
        obtain ⟨i, hi, rfl⟩ := List.mem_map.1 hr
        rw [numOf_row (by omega) hb (List.mem_range.1 hi)]
        exact Nat.le_refl _
    have h5 := mostD_le.1 (Nat.le_refl (mostD E)) (1 - slot) (by omega) (rowOf (N + 1) 0 bs) (by rw [ho]; exact List.mem_of_getElem? (packOf_get (by omega)))
    rw [numOf_row (by omega) hb (by omega)] at h5
    omega
  have ht := tells_of (D := E) (k := 1 - slot) (by omega) (Nat.succ_pos N) (by rw [ho]; exact unpack_pack (by omega) (by omega) hb) (by
    rw [show 1 - (1 - slot) = slot by omega, hs, h3]
    show n < N + 1
    omega)
  rw [hm] at ht
  exact ht
/-- some of the sectors of another image have been laid -/
theorem Tells.torn {D E : List (List UInt8)} {img bs : List UInt8} {N slot : Nat} (h : Tells D img N slot) (hN : N < 1125899906842624) (hb : bs.length ≤ 814) (hs : slotD E slot = slotD D slot)
    (ho : ∀ i, i < 16 → E.getD ((1 - slot) * 16 + i) [] = D.getD ((1 - slot) * 16 + i) [] ∨ E.getD ((1 - slot) * 16 + i) [] = rowOf (N + 1) i bs) :
    ∃ M, N ≤ M ∧ (Tells E img M slot ∨ Tells E bs M (1 - slot)) := by
  have hsl := h.slot_le
  have hold : ∀ i, i < 16 → numOf (D.getD ((1 - slot) * 16 + i) []) ≤ N := fun i hi =>
    mostD_le.1 (Nat.le_of_eq h.2.2) (1 - slot) (by omega) _ (List.mem_of_getElem? (slotD_get D (1 - slot) i hi))
  by_cases hall : ∀ i, i < 16 → E.getD ((1 - slot) * 16 + i) [] = rowOf (N + 1) i bs
  · have e : slotD E (1 - slot) = packOf (N + 1) bs := by
      unfold slotD packOf
      exact List.map_congr_left fun i hi => hall i (List.mem_range.1 hi)
    exact ⟨N + 1, by omega, .inr (h.next hN hb hs e)⟩
  · obtain ⟨i, hi, hni⟩ : ∃ i, i < 16 ∧ E.getD ((1 - slot) * 16 + i) [] ≠ rowOf (N + 1) i bs := Classical.byContradiction fun hc => hall fun i hi => Classical.byContradiction fun hne => hc ⟨i, hi, hne⟩
    have hoi : E.getD ((1 - slot) * 16 + i) [] = D.getD ((1 - slot) * 16 + i) [] := by
      rcases ho i hi with h | h
      · exact h
      · exact absurd h hni
    by_cases hnone : ∀ j, j < 16 → E.getD ((1 - slot) * 16 + j) [] = D.getD ((1 - slot) * 16 + j) []
    · have e1 : slotD E (1 - slot) = slotD D (1 - slot) := slotD_congr hnone
      have e2 : ∀ k, k ≤ 1 → slotD E k = slotD D k := fun k hk => by
        by_cases hks : k = slot
        · rw [hks]; exact hs
        · obtain rfl : k = 1 - slot := by omega
          exact e1
      have et : tellD E = tellD D := by unfold tellD; rw [e2 0 (by omega), e2 1 (by omega)]
      have em : mostD E = mostD D := by unfold mostD; rw [e2 0 (by omega), e2 1 (by omega)]
      exact ⟨N, Nat.le_refl _, .inl ⟨by rw [et]; exact h.1, by rw [et]; exact h.2.1, by rw [em]; exact h.2.2⟩⟩
    · obtain ⟨j, hj, hnj⟩ : ∃ j, j < 16 ∧ E.getD ((1 - slot) * 16 + j) [] ≠ D.getD ((1 - slot) * 16 + j) [] := Classical.byContradiction fun hc => hnone fun i hi => Classical.byContradiction fun hne => hc ⟨i, hi, hne⟩
      have hoj : E.getD ((1 - slot) * 16 + j) [] = rowOf (N + 1) j bs := by
        rcases ho j hj with h | h
        · exact absurd h hnj
        · exact h
      have hnum : numOf (rowOf (N + 1) j bs) = N + 1 := numOf_row (by omega) hb hj
      have hz := unpack_mixed (slotD_length E (1 - slot)) (slotD_get E (1 - slot) i hi) (slotD_get E (1 - slot) j hj) (by
        rw [hoi, hoj, hnum]
        have := hold i hi
        omega)
      refine ⟨mostD E, ?_, .inl (h.other hs hz)⟩
      have hge := mostD_le.1 (Nat.le_refl (mostD E)) (1 - slot) (by omega) _ (List.mem_of_getElem? (slotD_get E (1 - slot) j hj))
      rw [hoj, hnum] at hge
      omega
end Go.Proofs.YtlpjeopeboemmaaDoor
