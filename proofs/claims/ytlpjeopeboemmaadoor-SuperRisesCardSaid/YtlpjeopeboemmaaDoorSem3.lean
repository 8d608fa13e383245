/-
  A Super that lives, one that was cut short; what Format, Commit, a crash make of them. No statement of the seat is proved here.
-/
import Derived.Test.YtlpjeopeboemmaaDoorSem2
import Derived.KernelRfl
namespace Go.Proofs.YtlpjeopeboemmaaDoor

/-- A Super that lives: all of its disk is flushed, and an opened one tells the same. -/
structure Alive (s : SupS) : Prop where
  dead : s.dead = false
  one : Single s.S
  len : 32 ≤ s.S.length
  tells : Tells (lasts s.S) s.img s.N s.slot
  low : -1 ≤ s.l
/-- behind a commit of 'bs' that was cut short: whatever a crash leaves, this image or the one ahead is told -/
structure Cut (s : SupS) (bs : List UInt8) (N : Nat) : Prop where
  dead : s.dead = true
  ne : ∀ vs ∈ s.S, vs ≠ []
  len : 32 ≤ s.S.length
  low : -1 ≤ s.l
  small : Small 2 s.S
  tells : ∀ ps, ∃ M k, N ≤ M ∧ (Tells (lasts (crashS s.S ps)) s.img M k ∨ Tells (lasts (crashS s.S ps)) bs M k)

theorem single_ne {S : Sec} (h : Single S) : ∀ vs ∈ S, vs ≠ [] := fun vs hv e => by
  have := h vs hv
  rw [e] at this
  cases this
theorem flush_length (S : Sec) : (flushS S).length = S.length := by simp [flushS]
theorem small_wrote {N : Nat} : ∀ (rows : List (List UInt8)) (S : Sec) (i : Nat), Single S → (∀ x, i ≤ x → (S.getD x []).length ≤ 1) → (∀ vs ∈ S, vs.length ≤ 2) → ∀ vs ∈ wrote S i rows, vs.length ≤ 2 := fun rows S i h1 _ _ vs hv => by
  obtain ⟨x, hx, rfl⟩ := List.mem_iff_getElem.1 hv
  have key : ∀ (rows : List (List UInt8)) (S : Sec) (i x : Nat), (∀ y, i ≤ y → (S.getD y []).length ≤ 1) → (∀ y, (S.getD y []).length ≤ 2) → ((wrote S i rows).getD x []).length ≤ 2 := by
    intro rows
    induction rows with
    | nil => intro S i x _ h2; exact h2 x
    | cons r rs ih =>
      intro S i x ha hb
      rw [wrote]
      refine ih _ _ x (fun y hy => ?_) (fun y => ?_)
      · rw [List.getD_eq_getElem?_getD, List.getElem?_set_ne (by omega), ← List.getD_eq_getElem?_getD]
        exact ha y (by omega)
      · by_cases hy : y = i
        · subst hy
          by_cases hl : y < S.length
          · rw [List.getD_eq_getElem?_getD, List.getElem?_set_self hl]
            have := ha y (Nat.le_refl _)
            simp only [Option.getD_some, List.length_append, List.length_singleton]
            omega
          · rw [List.getD_eq_getElem?_getD, List.getElem?_eq_none (by simp; omega)]
            simp
        · rw [List.getD_eq_getElem?_getD, List.getElem?_set_ne (Ne.symm hy), ← List.getD_eq_getElem?_getD]
          exact hb y
  have h0 : ∀ y, (S.getD y []).length ≤ 1 := fun y => by
    by_cases hy : y < S.length
    · rw [List.getD_eq_getElem?_getD, List.getElem?_eq_getElem hy]
      exact Nat.le_of_eq (h1 _ (List.getElem_mem hy))
    · rw [List.getD_eq_getElem?_getD, List.getElem?_eq_none (by omega)]
      simp
  have := key rows S i x (fun y _ => h0 y) (fun y => by have := h0 y; omega)
  rw [List.getD_eq_getElem?_getD, List.getElem?_eq_getElem hx] at this
  exact this
theorem wrote_ne : ∀ (rows : List (List UInt8)) (S : Sec) (i : Nat), (∀ vs ∈ S, vs ≠ []) → ∀ vs ∈ wrote S i rows, vs ≠ []
  | [], _, _, h => h
  | r :: rs, S, i, h => wrote_ne rs _ _ fun vs hv => by
    rcases List.mem_or_eq_of_mem_set hv with hv | hv
    · exact h vs hv
    · rw [hv]; simp

/-- a slot's sectors are laid, or the fuse burns ahead of it -/
theorem lay_pack {S : Sec} (h1 : Single S) (h32 : 32 ≤ S.length) {l : Int} (hl : -1 ≤ l) {k : Nat} (hk : k ≤ 1) (n : Nat) {bs : List UInt8} (hb : bs.length ≤ 814) :
    (∃ S1 l', layTo S l ((k * 16 : Nat) : Int) (packOf n bs) = (0, S1, l') ∧ Single S1 ∧ S1.length = S.length ∧ slotD (lasts S1) (1 - k) = slotD (lasts S) (1 - k) ∧ slotD (lasts S1) k = packOf n bs ∧ (l = -1 → l' = -1) ∧ -1 ≤ l') ∨
    (0 ≤ l ∧ ∃ S1, layTo S l ((k * 16 : Nat) : Int) (packOf n bs) = (6, S1, 0) ∧ (∀ vs ∈ S1, vs ≠ []) ∧ S1.length = S.length ∧ Small 2 S1 ∧ ∀ ps, slotD (lasts (crashS S1 ps)) (1 - k) = slotD (lasts S) (1 - k) ∧ ∀ i, i < 16 → (lasts (crashS S1 ps)).getD (k * 16 + i) [] = (lasts S).getD (k * 16 + i) [] ∨ (lasts (crashS S1 ps)).getD (k * 16 + i) [] = rowOf n i bs) := by
  have hD : 32 ≤ (lasts S).length := by rw [lasts_length]; exact h32
  have hlen : (packOf n bs).length = 16 := packOf_length n bs
  have h64 : ∀ r ∈ packOf n bs, r.length ≤ 64 := fun r hr => by rw [packOf_64 hb r hr]; omega
  have hso : slotD (over (lasts S) (k * 16) (packOf n bs)) k = packOf n bs := slot_over hk hD hb
  have hso2 : slotD (over (lasts S) (k * 16) (packOf n bs)) (1 - k) = slotD (lasts S) (1 - k) := slot_over_other hk (by omega) (by omega) hD hlen
  have hrow : ∀ i, i < 16 → pad ((packOf n bs).getD i []) = rowOf n i bs := fun i hi => by rw [packOf_getD hi, pad_row (row_length hb hi)]
  generalize rowOf n = row at *
  generalize packOf n bs = rows at *
  have hfit : k * 16 + rows.length ≤ S.length := by omega
  rcases lay_cases rows S l (k * 16) hl hfit h64 with ⟨l', e, hl1, hl'⟩ | ⟨hl0, j, hj, e⟩
  · left
    have hla : lasts (flushS (wrote S (k * 16) rows)) = over (lasts S) (k * 16) rows := by rw [lasts_flush, lasts_wrote _ _ _ hfit]
    have hsi := single_flush (wrote S (k * 16) rows)
    have hfl : (flushS (wrote S (k * 16) rows)).length = S.length := by rw [flush_length, wrote_length]
    generalize flushS (wrote S (k * 16) rows) = S1 at *
    exact ⟨S1, l', e, hsi, hfl, by rw [hla]; exact hso2, by rw [hla]; exact hso, hl1, hl'⟩
  · right
    have hfj : k * 16 + (rows.take j).length ≤ S.length := by rw [List.length_take]; omega
    have hne := wrote_ne (rows.take j) S (k * 16) (single_ne h1)
    have hwl := wrote_length (rows.take j) S (k * 16)
    have hsm : Small 2 (wrote S (k * 16) (rows.take j)) := small_wrote (N := 0) _ _ _ h1 (fun x _ => by
      by_cases hx : x < S.length
      · rw [List.getD_eq_getElem?_getD, List.getElem?_eq_getElem hx]; exact Nat.le_of_eq (h1 _ (List.getElem_mem hx))
      · rw [List.getD_eq_getElem?_getD, List.getElem?_eq_none (by omega)]; simp) (fun vs hv => by rw [h1 vs hv]; omega)
    have hmem := wrote_mem (rows.take j) S (k * 16)
    generalize wrote S (k * 16) (rows.take j) = S1 at *
    have hget : ∀ ps x, x < S.length → (lasts (crashS S1 ps)).getD x [] = (lasts S).getD x [] ∨ (k * 16 ≤ x ∧ x < k * 16 + j ∧ (lasts (crashS S1 ps)).getD x [] = pad ((rows.take j).getD (x - k * 16) [])) := fun ps x hx => by
      have h2 := crash_getD hne ps x (by rw [hwl]; exact hx)
      rcases hmem x hfj _ h2 with h2 | ⟨h2, h3, h4⟩
      · rw [single_getD h1 x hx] at h2
        exact .inl (by simpa using h2)
      · rw [List.length_take] at h3
        exact .inr ⟨h2, by omega, h4⟩
    refine ⟨hl0, S1, e, hne, hwl, hsm, fun ps => ⟨slotD_congr fun i hi => ?_, fun i hi => ?_⟩⟩
    · rcases hget ps ((1 - k) * 16 + i) (by omega) with h | ⟨h, h2, _⟩
      · exact h
      · omega
    · rcases hget ps (k * 16 + i) (by omega) with h | ⟨h, h2, h3⟩
      · exact .inl h
      · right
        rw [h3, show k * 16 + i - k * 16 = i by omega, ← hrow i hi]
        congr 1
        rw [List.getD_eq_getElem?_getD, List.getD_eq_getElem?_getD, List.getElem?_take, if_pos (by omega)]

/-- what a Commit of a Super that lives may be -/
theorem commit_sem {s : SupS} (h : Alive s) (bs : List UInt8) (hb : bs.length ≤ 814) (hN : s.N < 1125899906842624) :
    (∃ s', commitS s bs = (0, s') ∧ Alive s' ∧ s'.img = bs ∧ s'.N = s.N + 1 ∧ s'.S.length = s.S.length ∧ (s.l = -1 → s'.l = -1) ∧ slotD (lasts s'.S) s.slot = slotD (lasts s.S) s.slot ∧ s'.slot = 1 - s.slot ∧ slotD (lasts s'.S) (1 - s.slot) = packOf (s.N + 1) bs) ∨
    (0 ≤ s.l ∧ ∃ s', commitS s bs = (6, s') ∧ Cut s' bs s.N ∧ s'.img = s.img ∧ s'.S.length = s.S.length ∧ s'.l = 0 ∧ s'.N = s.N) := by
  have hsl := h.tells.slot_le
  have hlen := h.len
  have hp : packI ((s.N : Int) + 1) bs = packOf (s.N + 1) bs := by
    unfold packI
    rw [if_pos ⟨by omega, by omega, hb⟩, show ((s.N : Int) + 1).toNat = s.N + 1 by omega]
  have hcast : (((1 - s.slot : Nat) : Int) * 16) = (((1 - s.slot) * 16 : Nat) : Int) := by rw [Int.natCast_mul]; rfl
  have hc : ∀ R, layTo s.S s.l (((1 - s.slot) * 16 : Nat) : Int) (packOf (s.N + 1) bs) = R → commitS s bs = if R.1 = 0 then (0, { S := R.2.1, l := R.2.2, img := bs, N := s.N + 1, slot := 1 - s.slot, dead := false }) else (R.1, { s with S := R.2.1, l := R.2.2, dead := true }) := by
    rintro R rfl
    unfold commitS
    rw [if_neg (by rw [h.dead]; simp), if_neg (by omega), hp, hcast]
  have hss : 1 - (1 - s.slot) = s.slot := by omega
  have hlp := lay_pack h.one hlen h.low (k := 1 - s.slot) (by omega) (s.N + 1) hb
  rw [hss] at hlp
  rcases hlp with ⟨S1, l', e, h1, h2, h3, h4, h5, h6⟩ | ⟨hl0, S1, e, h1, h2, h3, h4⟩
  · left
    have hc1 := hc _ e
    rw [if_pos rfl] at hc1
    exact ⟨_, hc1, { dead := rfl, one := h1, len := by rw [h2]; exact hlen, tells := h.tells.next hN hb h3 h4, low := h6 }, rfl, rfl, h2, h5, h3, rfl, h4⟩
  · right
    have hc1 := hc _ e
    rw [if_neg (show ¬ (6 : Int) = 0 by omega)] at hc1
    refine ⟨hl0, _, hc1, { dead := rfl, ne := h1, len := by rw [h2]; exact hlen, low := by show (-1 : Int) ≤ 0; omega, small := h3, tells := fun ps => ?_ }, rfl, h2, rfl, rfl⟩
    obtain ⟨M, hM, ht⟩ := h.tells.torn hN hb (h4 ps).1 (h4 ps).2
    rcases ht with ht | ht
    · exact ⟨M, _, hM, .inl ht⟩
    · exact ⟨M, _, hM, .inr ht⟩
theorem commit_refused {s : SupS} (h : s.dead = false) (bs : List UInt8) (hb : 814 < bs.length ∨ s.N = 1125899906842624) : commitS s bs = (3, s) := by
  unfold commitS
  rw [if_neg (by rw [h]; simp), if_pos hb]
theorem commit_dead {s : SupS} (h : s.dead = true) (bs : List UInt8) : commitS s bs = (6, s) := by
  unfold commitS
  rw [if_pos h]

/-! ### Format -/
theorem zeros_num0 : numOf (List.replicate 64 0) = 0 := by kernel_rfl
theorem zeros_num (r : List UInt8) (h : r = List.replicate 64 0) : numOf r = 0 := by
  subst h
  exact zeros_num0
theorem pad_nil : pad [] = List.replicate 64 0 := rfl
/-- Format of a disk without a fuse -/
theorem format_sem {S : Sec} (hl : 32 ≤ S.length) (hne : ∀ vs ∈ S, vs ≠ []) (bs : List UInt8) (hb : bs.length ≤ 814) :
    (layTo S (-1) 16 nils).1 = 0 ∧ ∃ s, formatS S (-1) bs = (0, s) ∧ Alive s ∧ s.img = bs ∧ s.N = 1 ∧ s.slot = 0 ∧ s.l = -1 ∧ s.S.length = S.length ∧ slotD (lasts s.S) 0 = packOf 1 bs ∧ unpackS (slotD (lasts s.S) 1) = (0, []) := by
  have hn64 : ∀ r ∈ nils, r.length ≤ 64 := fun r hr => by rw [List.eq_of_mem_replicate hr]; simp
  have hnl : nils.length = 16 := rfl
  have e1 : ∃ S1, layTo S (-1) 16 nils = (0, S1, -1) ∧ Single S1 ∧ S1.length = S.length ∧ lasts S1 = over (lasts S) 16 nils := by
    rcases lay_cases nils S (-1) 16 (by omega) (by rw [hnl]; omega) hn64 with ⟨l', e, h1, _⟩ | ⟨h0, _⟩
    · rw [h1 rfl] at e
      exact ⟨_, e, single_flush _, by rw [flush_length, wrote_length], by rw [lasts_flush, lasts_wrote _ _ _ (by rw [hnl]; omega)]⟩
    · omega
  obtain ⟨S1, e, hs1, hl1, hla⟩ := e1
  refine ⟨by rw [e], ?_⟩
  have hz : ∀ i, i < 16 → (lasts S1).getD (1 * 16 + i) [] = List.replicate 64 0 := fun i hi => by
    rw [hla, over_getD _ _ _ _ (by rw [hnl, lasts_length]; omega), if_pos (by rw [hnl]; omega)]
    have : nils.getD (1 * 16 + i - 16) [] = [] := by
      rw [List.getD_eq_getElem?_getD]
      unfold nils
      rw [List.getElem?_replicate, if_pos (by omega)]; rfl
    rw [this]; rfl
  have hu1 : ∀ D : List (List UInt8), (∀ i, i < 16 → D.getD (1 * 16 + i) [] = List.replicate 64 0) → unpackS (slotD D 1) = (0, []) := fun D hD => by
    refine unpack_zero_snd (slotD_length _ _) ?_
    rcases Nat.eq_zero_or_pos (unpackS (slotD D 1)).1 with h | h
    · exact h
    · exfalso
      obtain ⟨h1, h2, h3⟩ := unpack_some h (slotD_length _ _)
      have h4 := slotD_get D 1 0 (by omega)
      rw [h1, packOf_get (by omega)] at h4
      injection h4 with h4
      have h5 := numOf_row (n := (unpackS (slotD D 1)).1) (k := 0) h2 h3 (by omega)
      rw [h4, zeros_num _ (hD 0 (by omega))] at h5
      omega
  have hp : packI (((0 : Nat) : Int) + 1) bs = packOf 1 bs := by unfold packI; rw [if_pos ⟨by omega, by omega, hb⟩]; rfl
  have hc : formatS S (-1) bs = if (layTo S1 (-1) ((0 : Nat) : Int) (packOf 1 bs)).1 = 0 then (0, { S := (layTo S1 (-1) ((0 : Nat) : Int) (packOf 1 bs)).2.1, l := (layTo S1 (-1) ((0 : Nat) : Int) (packOf 1 bs)).2.2, img := bs, N := 1, slot := 0, dead := false })
      else ((layTo S1 (-1) ((0 : Nat) : Int) (packOf 1 bs)).1, { S := (layTo S1 (-1) ((0 : Nat) : Int) (packOf 1 bs)).2.1, l := (layTo S1 (-1) ((0 : Nat) : Int) (packOf 1 bs)).2.2, img := [], N := 0, slot := 1, dead := true }) := by
    unfold formatS
    rw [e]
    unfold commitS
    rw [if_neg (by simp), if_neg (by show ¬ (814 < bs.length ∨ (0 : Nat) = 1125899906842624); omega), hp]
    rfl
  have hc' : ∀ R, layTo S1 (-1) ((0 : Nat) : Int) (packOf 1 bs) = R → formatS S (-1) bs = if R.1 = 0 then (0, { S := R.2.1, l := R.2.2, img := bs, N := 1, slot := 0, dead := false }) else (R.1, { S := R.2.1, l := R.2.2, img := [], N := 0, slot := 1, dead := true }) := by
    rintro R rfl
    exact hc
  have hlp := lay_pack hs1 (by omega) (show (-1 : Int) ≤ -1 by omega) (k := 0) (by omega) 1 hb
  rcases hlp with ⟨S2, l', e2, g1, g2, g3, g4, g5, g6⟩ | ⟨h0, _⟩
  · have hc1 := hc' _ e2
    rw [if_pos rfl] at hc1
    have hu := hu1 _ hz
    rw [show 1 - 0 = 1 from rfl] at g3
    rw [← g3] at hu
    have ht := tells_of (D := lasts S2) (img := bs) (n := 1) (k := 0) (by omega) (by omega) (by rw [g4]; exact unpack_pack (by omega) (by omega) hb) (by rw [hu]; show (0 : Nat) < 1; omega)
    have hm : mostD (lasts S2) = 1 := by
      have h4 : mostD (lasts S2) ≤ 1 := mostD_le.2 fun k hk r hr => by
        rcases Nat.le_one_iff_eq_zero_or_eq_one.1 hk with rfl | rfl
        · rw [g4] at hr
          obtain ⟨i, hi, rfl⟩ := List.mem_map.1 hr
          rw [numOf_row (by omega) hb (List.mem_range.1 hi)]
          exact Nat.le_refl _
        · rw [g3] at hr
          obtain ⟨i, hi, rfl⟩ := List.mem_map.1 hr
          rw [zeros_num _ (hz i (List.mem_range.1 hi))]
          omega
      have h5 := mostD_le.1 (Nat.le_refl (mostD (lasts S2))) 0 (by omega) (rowOf 1 0 bs) (by rw [g4]; exact List.mem_of_getElem? (packOf_get (by omega)))
      rw [numOf_row (by omega) hb (by omega)] at h5
      omega
    rw [hm] at ht
    exact ⟨_, hc1, { dead := rfl, one := g1, len := by show 32 ≤ S2.length; omega, tells := ht, low := g6 }, rfl, rfl, rfl, g5 rfl, by show S2.length = _; omega, g4, hu⟩
  · omega
end Go.Proofs.YtlpjeopeboemmaaDoor
