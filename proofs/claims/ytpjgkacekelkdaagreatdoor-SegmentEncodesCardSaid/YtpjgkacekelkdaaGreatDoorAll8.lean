/-
  Texts of this claim, joined (part 8): contracts and lemmas that the last text goes by. No statement of the seat is proved here.
-/
import Derived.Test.YtpjgkacekelkdaaGreatDoorAll4
import Derived.Test.YtpjgkacekelkdaaGreatDoorAll7
import Derived.Test.YtpjgkacekelkdaaGreatDoorAll5
import Derived.Test.YtpjgkacekelkdaaGreatDoorAll2
import Derived.Lib.SlicesCompact
import Derived.Shelf.Sort.Plain
import Derived.Shelf.Slices.In.SortNone
import Derived.Shelf.Spec.SearchS
import Derived.Shelf.Slices.CompactS
import Derived.Ground.NamesProg
import Derived.Ground.Names2Prog
import Derived.Test.YtpjgkacekelkdaaGreatDoorProg
import Derived.Laws.IdiomStrings
set_option linter.unusedVariables false
set_option linter.unusedSimpArgs false
/-
  Rows of texts that rise; where a text stands in them; texts as bytes, and read back: mathematics. No statement of the seat is proved here.
-/
namespace Go.Proofs.YtpjgkacekelkdaaGreatDoor
open Go Go.RowKit
set_option maxRecDepth 100000

/-! ### rising rows -/
def RisesT (l : List (List UInt8)) : Prop := l.Pairwise fun a b => a < b
/-- rising, maybe with equals -/
def CalmT (l : List (List UInt8)) : Prop := l.Pairwise fun a b => ¬ b < a
theorem RisesT.calm {l : List (List UInt8)} (h : RisesT l) : CalmT l := List.Pairwise.imp (fun hab => lt_asy hab) h
theorem RisesT.nodup {l : List (List UInt8)} (h : RisesT l) : l.Nodup := List.Pairwise.imp (fun hab => lt_ne hab) h
theorem risesT_unique {l m : List (List UInt8)} (h : RisesT l) (k : RisesT m) (hm : ∀ x, x ∈ l ↔ x ∈ m) : l = m :=
  List.Perm.eq_of_pairwise (le := fun a b : List UInt8 => a < b) (fun a b _ _ h1 h2 => absurd h2 (lt_asy h1)) h k ((List.perm_ext_iff_of_nodup h.nodup k.nodup).2 hm)
theorem not_lt_tr {a b c : List UInt8} (h : ¬ b < a) (k : ¬ c < b) : ¬ c < a := fun x => by
  rcases not_lt_of h with rfl | h
  · exact k x
  · exact k (lt_tr x h)
/-- how many of them are less -/
def placeT (w : List (List UInt8)) (s : List UInt8) : Nat := w.countP fun t => decide (t < s)
theorem placeT_le (w : List (List UInt8)) (s : List UInt8) : placeT w s ≤ w.length := List.countP_le_length
theorem placeT_cons_lt {a s : List UInt8} (h : a < s) (r : List (List UInt8)) : placeT (a :: r) s = placeT r s + 1 := List.countP_cons_of_pos (by simpa using h)
theorem placeT_cons_ge {a s : List UInt8} {r : List (List UInt8)} (h : ¬ a < s) (hr : ∀ b ∈ r, ¬ b < a) : placeT (a :: r) s = 0 := by
  unfold placeT
  rw [List.countP_eq_zero]
  intro b hb
  simp only [decide_eq_true_eq]
  rcases List.mem_cons.1 hb with rfl | hb
  · exact h
  · exact fun hlt => by
      rcases not_lt_of (hr b hb) with rfl | h2
      · exact h hlt
      · exact h (lt_tr h2 hlt)
theorem placeT_spec : ∀ {w : List (List UInt8)} {s : List UInt8}, CalmT w → (∀ t (ht : t < w.length), t < placeT w s → w[t] < s) ∧ (∀ t (ht : t < w.length), placeT w s ≤ t → ¬ w[t] < s)
  | [], s, _ => ⟨fun t ht => absurd ht (by simp), fun t ht => absurd ht (by simp)⟩
  | a :: r, s, h => by
    unfold CalmT at h
    rw [List.pairwise_cons] at h
    obtain ⟨h1, h2⟩ := placeT_spec (s := s) (show CalmT r from h.2)
    by_cases ha : a < s
    · rw [placeT_cons_lt ha]
      refine ⟨fun t ht hp => ?_, fun t ht hp => ?_⟩
      · rcases t with _ | t
        · exact ha
        · exact h1 t (by simpa using ht) (by omega)
      · rcases t with _ | t
        · omega
        · exact h2 t (by simpa using ht) (by omega)
    · rw [placeT_cons_ge ha h.1]
      refine ⟨fun t ht hp => by omega, fun t ht _ => ?_⟩
      rcases t with _ | t
      · exact ha
      · have hm : r[t]'(by simpa using ht) ∈ r := List.getElem_mem _
        show ¬ r[t]'(by simpa using ht) < s
        exact fun hlt => by
          rcases not_lt_of (h.1 _ hm) with e | h3
          · rw [e] at hlt; exact ha hlt
          · exact ha (lt_tr h3 hlt)
theorem placeT_of {w : List (List UInt8)} {s : List UInt8} (h : CalmT w) {k : Nat} (hk : k ≤ w.length) (h1 : ∀ t (ht : t < w.length), t < k → w[t] < s) (h2 : ∀ t (ht : t < w.length), k ≤ t → ¬ w[t] < s) : k = placeT w s := by
  obtain ⟨g1, g2⟩ := placeT_spec (s := s) h
  have hle := placeT_le w s
  rcases Nat.lt_trichotomy k (placeT w s) with hl | hl | hl
  · exact absurd (g1 k (by omega) hl) (h2 k (by omega) (Nat.le_refl _))
  · exact hl
  · exact absurd (h1 (placeT w s) (by omega) hl) (g2 _ (by omega) (Nat.le_refl _))
theorem placeT_mem {w : List (List UInt8)} {s : List UInt8} (h : RisesT w) : (∃ hk : placeT w s < w.length, w[placeT w s] = s) ↔ s ∈ w := by
  obtain ⟨g1, g2⟩ := placeT_spec (s := s) h.calm
  constructor
  · rintro ⟨hk, e⟩
    rw [← e]
    exact List.getElem_mem _
  · intro hs
    obtain ⟨t, ht, rfl⟩ := List.mem_iff_getElem.1 hs
    have hge : placeT w w[t] ≤ t := by
      rcases Nat.lt_or_ge t (placeT w w[t]) with hl | hl
      · exact absurd (g1 t ht hl) (lt_irr _)
      · exact hl
    rcases Nat.eq_or_lt_of_le hge with e | hl
    · exact ⟨by omega, by simp only [e]⟩
    · have hp := List.pairwise_iff_getElem.1 h (placeT w w[t]) t (by omega) ht hl
      exact absurd hp (g2 _ (by omega) (Nat.le_refl _))
/-- a text more, if it is not there -/
def insT (out : List (List UInt8)) (s : List UInt8) : List (List UInt8) := if s ∈ out then out else out.take (placeT out s) ++ s :: out.drop (placeT out s)
theorem insT_mem (out : List (List UInt8)) (s x : List UInt8) : x ∈ insT out s ↔ x ∈ out ∨ x = s := by
  unfold insT
  split
  · rename_i h
    exact ⟨.inl, fun hx => hx.elim id (fun e => e ▸ h)⟩
  · have e : x ∈ out ↔ x ∈ out.take (placeT out s) ∨ x ∈ out.drop (placeT out s) := by
      conv => lhs; rw [← List.take_append_drop (placeT out s) out]
      exact List.mem_append
    rw [List.mem_append, List.mem_cons, e]
    constructor
    · rintro (h | rfl | h)
      · exact .inl (.inl h)
      · exact .inr rfl
      · exact .inl (.inr h)
    · rintro ((h | h) | rfl)
      · exact .inl h
      · exact .inr (.inr h)
      · exact .inr (.inl rfl)
theorem insT_rises {out : List (List UInt8)} (h : RisesT out) (s : List UInt8) : RisesT (insT out s) := by
  unfold insT
  split
  · exact h
  · rename_i hs
    obtain ⟨g1, g2⟩ := placeT_spec (s := s) h.calm
    have ht : ∀ a ∈ out.take (placeT out s), a < s := fun a ha => by
      obtain ⟨i, hi, rfl⟩ := List.mem_iff_getElem.1 ha
      rw [List.getElem_take]
      rw [List.length_take] at hi
      exact g1 i (by omega) (by omega)
    have hd : ∀ b ∈ out.drop (placeT out s), s < b := fun b hb => by
      have hm : b ∈ out := List.mem_of_mem_drop hb
      obtain ⟨i, hi, rfl⟩ := List.mem_iff_getElem.1 hb
      rw [List.length_drop] at hi
      have hn : ¬ (out.drop (placeT out s))[i]'(by rw [List.length_drop]; exact hi) < s := by
        rw [List.getElem_drop]
        exact g2 _ (by omega) (by omega)
      rcases not_lt_of hn with e | e
      · rw [e] at hm; exact absurd hm hs
      · exact e
    unfold RisesT
    rw [List.pairwise_append, List.pairwise_cons]
    exact ⟨List.Pairwise.sublist (List.take_sublist _ _) h, ⟨hd, List.Pairwise.sublist (List.drop_sublist _ _) h⟩, fun a ha b hb => by
      rcases List.mem_cons.1 hb with rfl | hb
      · exact ht a ha
      · exact lt_tr (ht a ha) (hd b hb)⟩
theorem insT_len (out : List (List UInt8)) (s : List UInt8) : (insT out s).length ≤ out.length + 1 := by
  unfold insT
  split
  · omega
  · have := placeT_le out s
    simp
    omega
/-! ### each text once -/
def wordsTo (l : List (List UInt8)) : Nat → List (List UInt8)
  | 0 => []
  | k + 1 => insT (wordsTo l k) (l.getD k [])
def wordsT (l : List (List UInt8)) : List (List UInt8) := wordsTo l l.length
theorem wordsTo_rises (l : List (List UInt8)) : ∀ k, RisesT (wordsTo l k)
  | 0 => List.Pairwise.nil
  | k + 1 => insT_rises (wordsTo_rises l k) _
theorem wordsTo_len (l : List (List UInt8)) : ∀ k, (wordsTo l k).length ≤ k
  | 0 => Nat.le_refl _
  | k + 1 => Nat.le_trans (insT_len _ _) (by have := wordsTo_len l k; omega)
theorem wordsTo_mem (l : List (List UInt8)) (x : List UInt8) : ∀ k, k ≤ l.length → (x ∈ wordsTo l k ↔ x ∈ l.take k)
  | 0, _ => by simp [wordsTo]
  | k + 1, hk => by
    rw [wordsTo, insT_mem, wordsTo_mem l x k (by omega), List.take_succ_eq_append_getElem (by omega), List.mem_append, List.mem_singleton]
    rw [List.getD_eq_getElem?_getD, List.getElem?_eq_getElem (by omega)]
    rfl
theorem wordsT_rises (l : List (List UInt8)) : RisesT (wordsT l) := wordsTo_rises l _
theorem wordsT_len (l : List (List UInt8)) : (wordsT l).length ≤ l.length := wordsTo_len l _
theorem wordsT_mem {l : List (List UInt8)} {x : List UInt8} : x ∈ wordsT l ↔ x ∈ l := by
  unfold wordsT
  rw [wordsTo_mem l x l.length (Nat.le_refl _), List.take_length]
theorem wordsT_of {l m : List (List UInt8)} (h : RisesT m) (hm : ∀ x, x ∈ m ↔ x ∈ l) : m = wordsT l := risesT_unique h (wordsT_rises l) fun x => (hm x).trans wordsT_mem.symm
theorem wordsT_again (l : List (List UInt8)) : wordsT (wordsT l) = wordsT l := (wordsT_of (wordsT_rises l) fun _ => Iff.rfl).symm
theorem compact_up (ts : List (List UInt8)) (h : CalmT ts) : ∀ m, m ≤ ts.length → RisesT (Lib.compactUpTo ts.toArray m) ∧ ∀ x, x ∈ Lib.compactUpTo ts.toArray m ↔ x ∈ ts.take m
  | 0, _ => ⟨List.Pairwise.nil, fun x => by simp [Lib.compactUpTo]⟩
  | m + 1, hm => by
    obtain ⟨ih1, ih2⟩ := compact_up ts h m (by omega)
    have hg : ∀ j, j < ts.length → ts.toArray[j]! = ts.getD j [] := fun j hj => by
      rw [getElem!_pos ts.toArray j (by simpa using hj), List.getD_eq_getElem?_getD, List.getElem?_eq_getElem hj]
      simp
    have hgd : ∀ j (hj : j < ts.length), ts.getD j [] = ts[j] := fun j hj => by rw [List.getD_eq_getElem?_getD, List.getElem?_eq_getElem hj]; rfl
    have htk : ts.take (m + 1) = ts.take m ++ [ts[m]] := List.take_succ_eq_append_getElem (by omega)
    rw [Lib.compactUpTo_succ, hg m (by omega), hgd m (by omega), htk]
    by_cases hk : m = 0 ∨ ts.toArray[m]! ≠ ts.toArray[m - 1]!
    · have e : Lib.keeps ts.toArray m = true := by simp only [Lib.keeps, decide_eq_true_eq]; exact hk
      rw [e, if_pos rfl]
      refine ⟨?_, fun x => by rw [List.mem_append, List.mem_append, ih2 x]⟩
      unfold RisesT
      rw [List.pairwise_append]
      refine ⟨ih1, List.pairwise_singleton _ _, fun a ha b hb => ?_⟩
      rw [List.mem_singleton] at hb
      subst hb
      have ha2 := (ih2 a).1 ha
      obtain ⟨j, hj, rfl⟩ := List.mem_iff_getElem.1 ha2
      rw [List.length_take] at hj
      rw [List.getElem_take]
      rcases hk with rfl | hk
      · omega
      · rw [hg m (by omega), hg (m - 1) (by omega), hgd m (by omega), hgd (m - 1) (by omega)] at hk
        have h1 : ¬ ts[m]'(by omega) < ts[m - 1]'(by omega) := by
          rcases Nat.eq_zero_or_pos m with rfl | hp
          · omega
          · exact List.pairwise_iff_getElem.1 h (m - 1) m (by omega) (by omega) (by omega)
        have h2 : ts[m - 1]'(by omega) < ts[m]'(by omega) := by
          rcases not_lt_of h1 with h3 | h3
          · exact absurd h3 hk
          · exact h3
        rcases Nat.eq_or_lt_of_le (show j ≤ m - 1 by omega) with rfl | hlt
        · exact h2
        · have h3 := List.pairwise_iff_getElem.1 h j (m - 1) (by omega) (by omega) hlt
          rcases not_lt_of h3 with h4 | h4
          · rw [← h4]; exact h2
          · exact lt_tr h4 h2
    · have e : Lib.keeps ts.toArray m = false := by simp only [Lib.keeps, decide_eq_false_iff_not]; exact hk
      rw [e]
      refine ⟨by simpa using ih1, fun x => ?_⟩
      have h0 : m ≠ 0 := fun h0 => hk (.inl h0)
      have h1 : ts.toArray[m]! = ts.toArray[m - 1]! := Classical.not_not.1 fun h1 => hk (.inr h1)
      rw [hg m (by omega), hg (m - 1) (by omega), hgd m (by omega), hgd (m - 1) (by omega)] at h1
      have h2 : ts[m]'(by omega) ∈ ts.take m := by
        rw [h1]
        refine List.mem_iff_getElem.2 ⟨m - 1, by rw [List.length_take]; omega, by rw [List.getElem_take]⟩
      simp only [Bool.false_eq_true, if_false, List.append_nil]
      rw [ih2 x, List.mem_append, List.mem_singleton]
      exact ⟨.inl, fun hx => hx.elim id (fun e => e ▸ h2)⟩
theorem compact_words {ts l : List (List UInt8)} (h : CalmT ts) (hm : ∀ x, x ∈ ts ↔ x ∈ l) : Lib.compact ts = wordsT l := by
  obtain ⟨h1, h2⟩ := compact_up ts h ts.length (Nat.le_refl _)
  refine wordsT_of h1 fun x => ?_
  have := h2 x
  rw [List.take_length] at this
  exact this.trans (hm x)

/-! ### texts as bytes -/
def longT (s : List UInt8) : Bool := decide (4096 < s.length)
def mayD (l : List (List UInt8)) : Bool := decide (l.length ≤ 32768) && !(l.any longT)
theorem mayD_iff (l : List (List UInt8)) : mayD l = true ↔ l.length ≤ 32768 ∧ ∀ s ∈ l, s.length ≤ 4096 := by
  unfold mayD
  rw [Bool.and_eq_true, decide_eq_true_eq, Bool.not_eq_true', List.any_eq_false]
  exact and_congr Iff.rfl ⟨fun h s hs => by have := h s hs; simp [longT] at this; exact this, fun h s hs => by have := h s hs; simp [longT]; exact this⟩
def placesT (l : List (List UInt8)) : List Int := l.map fun s => (placeT (wordsT l) s : Int)
theorem placesT_len (l : List (List UInt8)) : (placesT l).length = l.length := by simp [placesT]
theorem places_may {l : List (List UInt8)} (h : l.length ≤ 32768) : mayP (placesT l) = true := by
  refine (mayP_iff _).2 ⟨by rw [placesT_len]; exact h, fun v hv => ?_⟩
  obtain ⟨s, _, rfl⟩ := List.mem_map.1 hv
  have h1 := placeT_le (wordsT l) s
  have h2 := wordsT_len l
  omega
def encD (l : List (List UInt8)) : List UInt8 := numsB [((wordsT l).length : Int)] ++ (rowsB (wordsT l) ++ rowsB [bestP (placesT l)])
/-- an Encode's answer -/
def ansD (l : List (List UInt8)) : List UInt8 × Int := if mayD l = true then (encD l, 0) else ([], 1)

/-! ### read back -/
def cntD (p : List UInt8) : Nat := (stNum p false).1
def wrdD (k : Nat) (p : List UInt8) : List (List UInt8) × List UInt8 × Bool := takeR k (stNum p false).2.1 (stNum p false).2.2
def plcD (k : Nat) (p : List UInt8) : List UInt8 × List UInt8 × Bool := stBytes (wrdD k p).2.1 (wrdD k p).2.2
def inD (W : List (List UInt8)) (v : Int) : Bool := decide (v < (W.length : Int))
def pickD (W : List (List UInt8)) (pl : List Int) : Option (List (List UInt8)) := if pl.all (inD W) = true then some (pl.map fun v => W.getD v.toNat []) else none
noncomputable def gotD (k : Nat) (p : List UInt8) : Option (List (List UInt8)) := if (decR (plcD k p).1).2 = 0 then pickD (wrdD k p).1 (decR (plcD k p).1).1 else none
theorem decR_nil : decR [] = ([], 2) := by
  have h : decP [] = none := by
    refine dec_none fun l w ha => ?_
    obtain ⟨hw, _, he⟩ := ha
    rw [enc_eq l hw] at he
    have := List.append_eq_nil_iff.1 he
    exact dig_pos' _ this.1
  unfold decR
  rw [h]
theorem decR_ok {b : List UInt8} (h : (decR b).2 = 0) : mayP (decR b).1 = true := by
  unfold decR at h ⊢
  cases hd : decP b with
  | none => rw [hd] at h; exact absurd h (by decide)
  | some l => exact dec_may hd
theorem decR_no {b : List UInt8} (h : (decR b).2 ≠ 0) : decR b = ([], 2) := by
  unfold decR at h ⊢
  cases hd : decP b with
  | none => rfl
  | some l => rw [hd] at h; exact absurd rfl h
theorem decR_len (b : List UInt8) : (decR b).1.length ≤ 32768 := by
  by_cases h : (decR b).2 = 0
  · exact ((mayP_iff _).1 (decR_ok h)).1
  · rw [decR_no h]; simp
theorem rowsB_app (a b : List (List UInt8)) : rowsB (a ++ b) = rowsB a ++ rowsB b := by unfold rowsB; rw [List.flatMap_append]
theorem rowsB_sing (s : List UInt8) : rowsB [s] = dig s.length ++ s := by simp [rowsB]
theorem pick_places (l : List (List UInt8)) : pickD (wordsT l) (placesT l) = some l := by
  have hin : ∀ s ∈ l, ∃ hk : placeT (wordsT l) s < (wordsT l).length, (wordsT l)[placeT (wordsT l) s] = s := fun s hs => (placeT_mem (wordsT_rises l)).2 (wordsT_mem.2 hs)
  unfold pickD
  rw [if_pos]
  · congr 1
    unfold placesT
    rw [List.map_map]
    conv => rhs; rw [← List.map_id l]
    refine List.map_congr_left fun s hs => ?_
    obtain ⟨hk, e⟩ := hin s hs
    show (wordsT l).getD ((placeT (wordsT l) s : Int)).toNat [] = s
    rw [Int.toNat_natCast, List.getD_eq_getElem?_getD, List.getElem?_eq_getElem hk]
    exact e
  · rw [List.all_eq_true]
    intro v hv
    obtain ⟨s, hs, rfl⟩ := List.mem_map.1 hv
    obtain ⟨hk, _⟩ := hin s hs
    simp only [inD, decide_eq_true_eq]
    omega
theorem enc_read {l : List (List UInt8)} (h : mayD l = true) : cntD (encD l) = (wordsT l).length ∧ gotD (wordsT l).length (encD l) = some l ∧ (plcD (wordsT l).length (encD l)).2.2 = false := by
  obtain ⟨h1, h2⟩ := (mayD_iff l).1 h
  have hw := wordsT_len l
  have e1 : stNum (encD l) false = ((wordsT l).length, rowsB (wordsT l) ++ rowsB [bestP (placesT l)], false) := by
    unfold encD
    rw [numsB_one, clamp_of_nat (by omega), stNum_dig _ _ (by omega)]
  have e2 : wrdD (wordsT l).length (encD l) = (wordsT l, rowsB [bestP (placesT l)], false) := by
    unfold wrdD
    rw [e1]
    exact takeR_rows _ _ fun s hs => by have := h2 s (wordsT_mem.1 hs); omega
  have hb := best_len (places_may h1) (by rw [placesT_len]; omega)
  have e3 : plcD (wordsT l).length (encD l) = (bestP (placesT l), [], false) := by
    unfold plcD
    rw [e2, rowsB_sing]
    have := stBytes_row (bestP (placesT l)) [] (by omega)
    rw [List.append_nil] at this
    exact this
  refine ⟨by unfold cntD; rw [e1], ?_, by rw [e3]⟩
  unfold gotD
  rw [e3, e2, decR_some (dec_best (places_may h1))]
  exact pick_places l
/-- what is read, if it is laid as just these bytes -/
def chkD (p : List UInt8) (o : Option (List (List UInt8))) : List (List UInt8) × Int := match o with
  | some l => if mayD l = true ∧ encD l = p then (l, 0) else ([], 2)
  | none => ([], 2)
open Classical in
noncomputable def decD (p : List UInt8) : List (List UInt8) × Int := if h : ∃ l, mayD l = true ∧ encD l = p then (Classical.choose h, 0) else ([], 2)
theorem enc_got {l : List (List UInt8)} (h : mayD l = true) {k : Nat} (hk : k = cntD (encD l) ∨ k = min (cntD (encD l)) 32769) : gotD k (encD l) = some l ∧ (plcD k (encD l)).2.2 = false := by
  obtain ⟨h1, h2, h3⟩ := enc_read h
  have hw := wordsT_len l
  have h4 := ((mayD_iff l).1 h).1
  have e : k = (wordsT l).length := by
    rcases hk with rfl | rfl
    · exact h1
    · rw [h1]; omega
  rw [e]
  exact ⟨h2, h3⟩
theorem dec_got (p : List UInt8) {k : Nat} (hk : k = cntD p ∨ k = min (cntD p) 32769) : decD p = chkD p (gotD k p) := by
  unfold decD
  split
  · rename_i h
    obtain ⟨h1, h2⟩ := Classical.choose_spec h
    rw [← h2] at hk
    have h3 := (enc_got h1 hk).1
    rw [h2] at h3
    rw [h3]
    unfold chkD
    simp only
    rw [if_pos ⟨h1, h2⟩]
  · rename_i h
    unfold chkD
    split
    · rename_i l _
      rw [if_neg (fun hx => h ⟨l, hx⟩)]
    · rfl
theorem dec_flag (p : List UInt8) {k : Nat} (hk : k = cntD p ∨ k = min (cntD p) 32769) (hb : (plcD k p).2.2 = true) : decD p = ([], 2) := by
  unfold decD
  rw [dif_neg]
  rintro ⟨l, h1, rfl⟩
  rw [(enc_got h1 hk).2] at hb
  cases hb
theorem dec_encD {l : List (List UInt8)} (h : mayD l = true) : decD (encD l) = (l, 0) := by
  rw [dec_got (encD l) (.inl rfl), (enc_got h (.inl rfl)).1]
  unfold chkD
  exact if_pos ⟨h, rfl⟩
theorem decD_may {p : List UInt8} : mayD (decD p).1 = true := by
  unfold decD
  split
  · rename_i h
    exact (Classical.choose_spec h).1
  · exact (mayD_iff _).2 ⟨by simp, by simp⟩

/-! ### one text, many times -/
theorem words_rep (s : List UInt8) (n : Nat) (h : 0 < n) : wordsT (List.replicate n s) = [s] := by
  refine (wordsT_of (List.pairwise_singleton _ _) fun x => ?_).symm
  rw [List.mem_singleton, List.mem_replicate]
  exact ⟨fun e => ⟨by omega, e⟩, fun e => e.2⟩
theorem places_rep (s : List UInt8) (n : Nat) (h : 0 < n) : placesT (List.replicate n s) = List.replicate n 0 := by
  unfold placesT
  rw [words_rep s n h, List.map_replicate]
  congr 1
  have : placeT [s] s = 0 := placeT_cons_ge (lt_irr s) (by simp)
  rw [this]
  rfl
theorem dig_two (x : Nat) (h : x ≤ 16383) : (dig (clamp (x : Int))).length ≤ 2 :=
  dig_len 2 _ (by rw [clamp_of_nat (by omega)]; have : (128 : Nat) ^ 2 = 16384 := rfl; omega) (by omega)
theorem many_len (s : List UInt8) (n : Nat) (hs : s.length ≤ 500) (h : 0 < n) (hn : n ≤ 2000) : (encD (List.replicate n s)).length ≤ s.length + 12 := by
  unfold encD
  rw [places_rep s n h, words_rep s n h, List.length_append, List.length_append, rowsB_sing, rowsB_sing, List.length_append, List.length_append]
  have c1 : (numsB [(([s] : List (List UInt8)).length : Int)]).length ≤ 1 := by
    rw [numsB_one]
    exact dig_small1 (by simp) (by simp)
  have c2 : (dig s.length).length ≤ 2 := by have := dig_two s.length (by omega); rwa [clamp_of_nat (by omega)] at this
  have c3 : (bestP (List.replicate n 0)).length ≤ 5 := by
    refine Nat.le_trans (best_le _ 2 (Nat.le_refl _)) ?_
    show (runsB _).length ≤ 5
    have c2 : (dig (clamp 2)).length ≤ 1 := dig_small1 (by omega) (by omega)
    have c1 : (dig (clamp 1)).length ≤ 1 := dig_small1 (by omega) (by omega)
    have c0 : (dig (clamp 0)).length ≤ 1 := dig_small1 (by omega) (by omega)
    unfold runsB runsP
    rw [List.length_replicate]
    obtain ⟨m, rfl⟩ : ∃ m, n = m + 1 := ⟨n - 1, by omega⟩
    rw [runsTo_rep 0 (m + 1) m (Nat.le_refl _)]
    have e2 : numsB [2, (([(m + 1, (0 : Int))] : List (Nat × Int)).length : Int)] ++ pairsB [(m + 1, (0 : Int))] = dig (clamp 2) ++ (dig (clamp 1) ++ (dig (clamp ((m + 1 : Nat) : Int)) ++ dig (clamp 0))) := by
      simp [pairsB, numsB_cons, numsB_nil]
    have c3 := dig_two (m + 1) (by omega)
    rw [e2, List.length_append, List.length_append, List.length_append]
    omega
  have c4 : (dig (bestP (List.replicate n 0)).length).length ≤ 1 := dig_len 1 _ (by have : (128 : Nat) ^ 1 = 128 := rfl; omega) (by omega)
  omega
end Go.Proofs.YtpjgkacekelkdaaGreatDoor

/-
  DERIVED: THE SHELF's CONTRACTS AT THIS DUMP, IN PLAIN WORDS (tools/lay-plain.mjs out of 'YtpjgkacekelkdaaGreatDoorShelfD0.lean', which tools/lay-shelf.mjs wrote): THE SAME DECLARATIONS UNDER THE SAME NAMES: 'import', 'namespace', 'open', 'def', 'theorem' AND NOTHING ELSE: no command of the shelf's: FOR A HAND-IN. Each laying: the table of numbers ('.._ren') and one theorem, a field a fact of the dump's own or the kernel's comparison; each contract: ONE APPLICATION.
-/
namespace Go.Proofs
open Go.Shelf
def Tryz.laySort_ren : Go.Shelf.Ren := ⟨fun | 190 => 87 | 125 => 100 | 258 => 99 | 128 => 112 | 129 => 113 | 302 => 104 | 303 => 105 | 304 => 106 | 305 => 107 | 306 => 108 | 307 => 109 | 308 => 101 | 309 => 110 | 310 => 111 | 333 => 117 | 329 => 118 | 330 => 119 | 334 => 120 | 335 => 121 | 336 => 114 | 344 => 122 | n => n, fun | 31 => 45 | 9 => 9 | 3 => 3 | 46 => 99 | 0 => 0 | 51 => 65 | 53 => 102 | 4 => 4 | 183 => 148 | 182 => 147 | 131 => 124 | 5 => 5 | 218 => 159 | 222 => 137 | 228 => 164 | 229 => 107 | n => n, fun | n => n⟩
theorem Tryz.laySort : Go.Proofs.Lays.n190 Tryz.prog Tryz.laySort_ren := {
  mixed := by kernel_rfl
  f125 := Tryz.func100.trans (congrArg some (by kernel_rfl))
  f128 := Tryz.func112.trans (congrArg some (by kernel_rfl))
  f129 := Tryz.func113.trans (congrArg some (by kernel_rfl))
  f190 := Tryz.func87.trans (congrArg some (by kernel_rfl))
  f258 := Tryz.func99.trans (congrArg some (by kernel_rfl))
  f302 := Tryz.func104.trans (congrArg some (by kernel_rfl))
  f303 := Tryz.func105.trans (congrArg some (by kernel_rfl))
  f304 := Tryz.func106.trans (congrArg some (by kernel_rfl))
  f305 := Tryz.func107.trans (congrArg some (by kernel_rfl))
  f306 := Tryz.func108.trans (congrArg some (by kernel_rfl))
  f307 := Tryz.func109.trans (congrArg some (by kernel_rfl))
  f308 := Tryz.func101.trans (congrArg some (by kernel_rfl))
  f309 := Tryz.func110.trans (congrArg some (by kernel_rfl))
  f310 := Tryz.func111.trans (congrArg some (by kernel_rfl))
  f329 := Tryz.func118.trans (congrArg some (by kernel_rfl))
  f330 := Tryz.func119.trans (congrArg some (by kernel_rfl))
  f333 := Tryz.func117.trans (congrArg some (by kernel_rfl))
  f334 := Tryz.func120.trans (congrArg some (by kernel_rfl))
  f335 := Tryz.func121.trans (congrArg some (by kernel_rfl))
  f336 := Tryz.func114.trans (congrArg some (by kernel_rfl))
  f344 := Tryz.func122.trans (congrArg some (by kernel_rfl))
  t0 := Tryz.underlying0
  a0 := Tryz.isAgg0
  z0 := Tryz.sizeOf0
  v0 := Tryz.zeroValue0
  t3 := Tryz.underlying3
  a3 := Tryz.isAgg3
  z3 := Tryz.sizeOf3
  v3 := Tryz.zeroValue3
  t4 := Tryz.underlying4
  a4 := Tryz.isAgg4
  z4 := Tryz.sizeOf4
  v4 := Tryz.zeroValue4
  t5 := Tryz.underlying5
  a5 := Tryz.isAgg5
  z5 := Tryz.sizeOf5
  v5 := Tryz.zeroValue5
  t9 := Tryz.underlying9
  a9 := Tryz.isAgg9
  z9 := Tryz.sizeOf9
  v9 := Tryz.zeroValue9
  t31 := Tryz.underlying45
  a31 := Tryz.isAgg45
  z31 := Tryz.sizeOf45
  v31 := Tryz.zeroValue45
  t46 := Tryz.underlying99
  a46 := Tryz.isAgg99
  z46 := Tryz.sizeOf99
  v46 := Tryz.zeroValue99
  t51 := Tryz.underlying65
  a51 := Tryz.isAgg65
  z51 := Tryz.sizeOf65
  v51 := Tryz.zeroValue65
  t53 := Tryz.underlying102
  a53 := Tryz.isAgg102
  z53 := Tryz.sizeOf102
  v53 := Tryz.zeroValue102
  t131 := Tryz.underlying124
  a131 := Tryz.isAgg124
  z131 := Tryz.sizeOf124
  v131 := Tryz.zeroValue124
  t182 := Tryz.underlying147
  a182 := Tryz.isAgg147
  z182 := Tryz.sizeOf147
  v182 := Tryz.zeroValue147
  t183 := Tryz.underlying148
  a183 := Tryz.isAgg148
  z183 := Tryz.sizeOf148
  v183 := Tryz.zeroValue148
  t218 := Tryz.underlying159
  a218 := Tryz.isAgg159
  z218 := Tryz.sizeOf159
  v218 := Tryz.zeroValue159
  t222 := Tryz.underlying137
  a222 := Tryz.isAgg137
  z222 := Tryz.sizeOf137
  v222 := Tryz.zeroValue137
  t228 := Tryz.underlying164
  a228 := Tryz.isAgg164
  z228 := Tryz.sizeOf164
  v228 := Tryz.zeroValue164
  t229 := Tryz.underlying107
  a229 := Tryz.isAgg107
  z229 := Tryz.sizeOf107
  v229 := Tryz.zeroValue107 }
def Tryz.laySearch_ren : Go.Shelf.Ren := ⟨fun | 26 => 89 | 33 => 101 | 34 => 102 | 38 => 114 | n => n, fun | 24 => 45 | 9 => 9 | 3 => 3 | 4 => 4 | 40 => 99 | 0 => 0 | n => n, fun | n => n⟩
theorem Tryz.laySearch : Go.Proofs.Lays2.n26 Tryz.prog Tryz.laySearch_ren := {
  mixed := by kernel_rfl
  f26 := Tryz.func89.trans (congrArg some (by kernel_rfl))
  f33 := Tryz.func101.trans (congrArg some (by kernel_rfl))
  f34 := Tryz.func102.trans (congrArg some (by kernel_rfl))
  f38 := Tryz.func114.trans (congrArg some (by kernel_rfl))
  t0 := Tryz.underlying0
  a0 := Tryz.isAgg0
  z0 := Tryz.sizeOf0
  v0 := Tryz.zeroValue0
  t3 := Tryz.underlying3
  a3 := Tryz.isAgg3
  z3 := Tryz.sizeOf3
  v3 := Tryz.zeroValue3
  t4 := Tryz.underlying4
  a4 := Tryz.isAgg4
  z4 := Tryz.sizeOf4
  v4 := Tryz.zeroValue4
  t9 := Tryz.underlying9
  a9 := Tryz.isAgg9
  z9 := Tryz.sizeOf9
  v9 := Tryz.zeroValue9
  t24 := Tryz.underlying45
  a24 := Tryz.isAgg45
  z24 := Tryz.sizeOf45
  v24 := Tryz.zeroValue45
  t40 := Tryz.underlying99
  a40 := Tryz.isAgg99
  z40 := Tryz.sizeOf99
  v40 := Tryz.zeroValue99 }
def Tryz.layCompact_ren : Go.Shelf.Ren := ⟨fun | 194 => 88 | n => n, fun | 31 => 45 | 9 => 9 | 3 => 3 | 4 => 4 | 0 => 0 | n => n, fun | n => n⟩
theorem Tryz.layCompact : Go.Proofs.Lays.n194 Tryz.prog Tryz.layCompact_ren := {
  mixed := by kernel_rfl
  f194 := Tryz.func88.trans (congrArg some (by kernel_rfl))
  t0 := Tryz.underlying0
  a0 := Tryz.isAgg0
  z0 := Tryz.sizeOf0
  v0 := Tryz.zeroValue0
  t3 := Tryz.underlying3
  a3 := Tryz.isAgg3
  z3 := Tryz.sizeOf3
  v3 := Tryz.zeroValue3
  t4 := Tryz.underlying4
  a4 := Tryz.isAgg4
  z4 := Tryz.sizeOf4
  v4 := Tryz.zeroValue4
  t9 := Tryz.underlying9
  a9 := Tryz.isAgg9
  z9 := Tryz.sizeOf9
  v9 := Tryz.zeroValue9
  t31 := Tryz.underlying45
  a31 := Tryz.isAgg45
  z31 := Tryz.sizeOf45
  v31 := Tryz.zeroValue45 }
end Go.Proofs

/-
  Texts, cloned, sorted, each once (program's Words): the library's contracts in these words. No statement of the seat is proved here.
-/
namespace Go.Proofs.YtpjgkacekelkdaaGreatDoor
open Go Go.RowKit Go.Sort Go.Lib

set_option maxRecDepth 100000 in
theorem clone_strs {w : World} (A : Option Addr) (m c : Nat) (xs : List Value) (hl : xs.length = m) (hr : Rd w A xs) (h0 : A = none → m = 0 ∧ c = 0) (h1 : ∀ u ∈ xs, u.oneCell' = true) (hm : m ≤ 1000000) :
    Calls Tryz.prog 76 #[.slice A m c] w fun e w' => ∃ A' c', e = .returned (.slice A' m c') ∧ NewO w w' 9 1 A' m c' xs := by
  have he := Lib.run_eql_slice_nil (P := Tryz.prog) w 45 9 A m c 0 0 Tryz.underlying45
  rcases A with _ | ad
  · obtain ⟨rfl, rfl⟩ := h0 rfl
    have hnil : xs = [] := List.eq_nil_of_length_eq_zero hl
    subst hnil
    go_enter Tryz.func76, Tryz.ntmps76
    go_wp2
    go_ret
    exact ⟨none, 0, rfl, NewO.start _ _ _⟩
  · have hm1 : 0 + m ≤ maxLen := by unfold maxLen; omega
    have hm2 : (0 + m) * 16 ≤ 140737488355328 := by omega
    have hempty : NewO w (w.alloc (.cells #[] 9)) 9 1 (some ⟨w.heap.size, 0, none⟩) 0 0 [] := ⟨RowO.lit w 9 1 0 #[] rfl (Nat.zero_le _) rfl, ext_alloc (Below.refl _ _) _, fun k hk => by rw [inA_some] at hk; omega⟩
    have hrd := hr.alloc (.cells #[] 9)
    go_enter Tryz.func76, Tryz.ntmps76
    go_wp2_with (at_builtin
                 refine wpList_appO _ rfl (.tmp 5) (.tmp 6) _ rfl _ _ 1 16 Tryz.underlying45 info_str rfl (some ⟨w.heap.size, 0, none⟩) 0 0 [] rfl hempty.row (some ad) m c xs rfl (by rw [hl, Nat.mul_one]) hrd h1 ?_ hm1 hm2 ?_
                 · intro h; cases h
                 intro A2 c2 w2 hrow2 honly2 hA2)
    go_ret
    rw [List.nil_append] at hrow2
    rw [Nat.zero_add] at hrow2
    exact ⟨A2, c2, by first | rfl | simp, hempty.grow (Below.refl _ _) hrow2 honly2 hA2⟩

section
variable {w : World} {g off m c : Nat} {ss : List (List UInt8)}
theorem holds_strs (h : RowO w 9 1 (some ⟨g, off, none⟩) m c (ss.map strV)) : Holds encStr w g off ss.toArray := by
  intro j hj
  have hj' : j < ss.length := by simpa using hj
  refine ⟨?_, h.free _⟩
  obtain ⟨ad, e, hc⟩ := h.rd j _ (List.getElem?_eq_getElem (by simpa using hj'))
  injection e with e
  subst e
  rw [Addr.add_mid] at hc
  rw [hc]
  simp [hj']
  rfl
theorem sorted_strs (h : RowO w 9 1 (some ⟨g, off, none⟩) m c (ss.map strV)) (ts : List (List UInt8)) (hd : ts.length = ss.length) (n : Nat) (os : Array Obj) :
    RowO (grow (putRow encStr (Sort.ahead w n) g off ts.toArray) os) 9 1 (some ⟨g, off, none⟩) m c (ts.map strV) ∧ Only (inA (some ⟨g, off, none⟩)) w (grow (putRow encStr (Sort.ahead w n) g off ts.toArray) os) := by
  have h1 := h.1
  rcases h.2 with ⟨h2, _⟩ | ⟨g', off', cs, h2, h3, h4, hb, h6, h7⟩
  · cases h2
  · injection h2 with h2
    injection h2 with h2 h2' _
    subst h2 h2'
    have hg : g < w.heap.size := hb.lt
    have hb' := hb
    unfold Blk at hb'
    refine ⟨⟨by rw [List.length_map, hd]; rw [List.length_map] at h1; exact h1, .inr ⟨g, off, putCells encStr off ts.toArray cs, rfl, h3, h4, ?_, by simp [putCells]; omega, fun j u hu => ?_⟩⟩, ?_⟩
    · unfold Blk
      rw [heap_grow_old _ _ (by simpa using hg)]
      simp [putRow, mapBlock, Sort.ahead, Array.getElem?_modify, hb', onCells]
    · have hj : j < ts.length := by have := (List.getElem?_eq_some_iff.1 hu).1; simpa using this
      rw [List.length_map] at h1
      have hjs : off + j < cs.size := by omega
      unfold putCells
      rw [Array.getElem?_mapIdx, Array.getElem?_eq_getElem hjs]
      have hj2 : j < ts.toArray.size := by simpa using hj
      simp only [Option.map_some, List.size_toArray]
      rw [if_pos ⟨by omega, by omega⟩, show off + j - off = j by omega, getElem!_pos _ j hj2]
      rw [← hu, List.getElem?_map, List.getElem?_eq_getElem hj]
      simp
      rfl
    · refine ⟨rfl, rfl, rfl, by simp [grow, putRow, mapBlock, Sort.ahead], fun k hk hn => ?_⟩
      rw [inA_some] at hn
      rw [heap_grow_old _ _ (by simpa [putRow, mapBlock, Sort.ahead] using hk)]
      simp [putRow, mapBlock, Sort.ahead, Array.getElem?_modify, hn]
end
theorem sortstrs_any {w : World} {A : Option Addr} {c : Nat} {ss : List (List UInt8)} (h : RowO w 9 1 A ss.length c (ss.map strV)) (hl : ss.length ≤ 1000000) :
    Calls Tryz.prog 87 #[.slice A ss.length c] w fun e w' => e = .returned (.tuple #[]) ∧ ∃ ts : List (List UInt8), ts.Perm ss ∧ ts.Pairwise (fun a b => ¬ b < a) ∧ RowO w' 9 1 A ss.length c (ts.map strV) ∧ Only (inA A) w w' := by
  cases A with
  | none =>
    have h0 : ss = [] := by
      rcases h.2 with ⟨_, h1, _⟩ | ⟨_, _, _, h1, _⟩
      · exact List.eq_nil_of_length_eq_zero h1
      · cases h1
    subst h0
    have hs := Go.Proofs.Any.slices_Sort_string_none Tryz.laySort none c w
    change Calls Tryz.prog 87 _ _ _ at hs
    refine hs.mono ?_
    rintro e w' ⟨rfl, rfl⟩
    exact ⟨rfl, [], List.Perm.refl _, List.Pairwise.nil, h, Only.refl _ _⟩
  | some ad =>
    obtain ⟨g, off, e⟩ := h.flat ad rfl
    subst e
    have hs := Go.Proofs.Any.slices_Sort_string Tryz.laySort g off c ss w (holds_strs h) (h.lt ((inA_some g off g none).2 rfl)) (by omega)
    change Calls Tryz.prog 87 _ _ _ at hs
    refine hs.mono ?_
    rintro e w' ⟨rfl, n, os, rfl⟩
    have hperm := List.mergeSort_perm ss (fun x y => decide (x ≤ y))
    obtain ⟨h1, h2⟩ := sorted_strs h (ss.mergeSort fun x y => decide (x ≤ y)) hperm.length_eq n os
    refine ⟨rfl, _, hperm, ?_, h1, h2⟩
    have hsrt := List.pairwise_mergeSort (le := fun x y : List UInt8 => decide (x ≤ y)) (fun a b c h1 h2 => by
      simp only [decide_eq_true_eq] at *
      exact List.le_trans h1 h2) (fun a b => by
      simp only [Bool.or_eq_true, decide_eq_true_eq]
      exact List.le_total a b) ss
    refine hsrt.imp fun {a b} hab => ?_
    simp only [decide_eq_true_eq] at hab
    exact fun hlt => hab hlt

theorem holds_compact {w : World} {g off m c : Nat} {ss : List (List UInt8)} (h : RowO w 9 1 (some ⟨g, off, none⟩) m c (ss.map strV)) (n : Nat) (ts : List (List UInt8)) (ht : ts.length = ss.length) :
    RowO (putRow encStr (Sort.ahead w n) g off ts.toArray) 9 1 (some ⟨g, off, none⟩) m c (ts.map strV) ∧ Only (inA (some ⟨g, off, none⟩)) w (putRow encStr (Sort.ahead w n) g off ts.toArray) := by
  have hx := sorted_strs h ts ht n #[]
  have e : ∀ X : World, grow X #[] = X := fun X => by cases X; simp [grow]
  rw [e] at hx
  exact hx
theorem compact_le (zs : List (List UInt8)) : (Lib.compact zs).length ≤ zs.length := by
  unfold Lib.compact Lib.compactUpTo
  rw [List.length_map]
  exact Nat.le_trans (List.length_filter_le _ _) (by simp)
theorem compact_any {w : World} {A : Option Addr} {c : Nat} {ss : List (List UInt8)} (h : RowO w 9 1 A ss.length c (ss.map strV)) (hl : ss.length ≤ 1000000) :
    Calls Tryz.prog 88 #[.slice A ss.length c] w fun e w' => e = .returned (.slice A (Lib.compact ss).length c) ∧ RowO w' 9 1 A (Lib.compact ss).length c ((Lib.compact ss).map strV) ∧ Only (inA A) w w' := by
  by_cases h0 : ss = []
  · subst h0
    have hs := Go.Proofs.Any.slices_Compact_string_empty Tryz.layCompact A c w
    change Calls Tryz.prog 88 _ _ _ at hs
    refine hs.mono ?_
    rintro e w' ⟨rfl, rfl⟩
    exact ⟨rfl, h, Only.refl _ _⟩
  · cases A with
    | none =>
      rcases h.2 with ⟨_, h1, _⟩ | ⟨_, _, _, h1, _⟩
      · exact absurd (List.eq_nil_of_length_eq_zero h1) h0
      · cases h1
    | some ad =>
      obtain ⟨g, off, e⟩ := h.flat ad rfl
      subst e
      have hs := Go.Proofs.Any.slices_Compact_string Tryz.layCompact g off c ss w (holds_strs h) (by omega) h.le
      change Calls Tryz.prog 88 _ _ _ at hs
      refine hs.mono ?_
      rintro e w' ⟨rfl, n, rfl⟩
      have hle := compact_le ss
      obtain ⟨h1, h2⟩ := holds_compact h n (Lib.compact ss ++ List.replicate (ss.length - (Lib.compact ss).length) []) (by simp; omega)
      refine ⟨rfl, h1.sub hle (by rw [List.length_map, Nat.mul_one]) (fun j u hu => ?_), h2⟩
      rw [List.map_append, List.getElem?_append_left (List.getElem?_eq_some_iff.1 hu).1]
      exact hu
set_option maxRecDepth 100000 in
set_option maxHeartbeats 2000000 in
theorem words_any {w : World} (A : Option Addr) (c : Nat) (l : List (List UInt8)) (hA : Rd w A (l.map strV)) (h0 : A = none → c = 0) (hl : l.length ≤ 1000000) :
    Calls Tryz.prog 48 #[.slice A l.length c] w fun e w' => ∃ A' c', e = .returned (.slice A' (wordsT l).length c') ∧ NewO w w' 9 1 A' (wordsT l).length c' ((wordsT l).map strV) := by
  have hnil0 : A = none → l.length = 0 := fun e => by
    rcases l with _ | ⟨a, r⟩
    · rfl
    · obtain ⟨ad, e2, _⟩ := hA 0 _ rfl
      rw [e] at e2
      cases e2
  have hnil : A = none → l.length = 0 ∧ c = 0 := fun e => ⟨hnil0 e, h0 e⟩
  have HC := Lib.hid (clone_strs A l.length c (l.map strV) (by simp) hA hnil (strVs_one _) hl)
  have HW : Hid (∀ ts : List (List UInt8), ts.Perm l → ts.Pairwise (fun a b => ¬ b < a) → Lib.compact ts = wordsT l) := Lib.hid (fun ts hp hs => compact_words hs fun x => hp.mem_iff)
  generalize wordsT l = R at *
  have Hl := Lib.hid hl
  clear hA h0 hnil hnil0 hl
  go_enter Tryz.func48, Tryz.ntmps48
  go_wp2_with fail
  refine HC.out.mono ?_
  rintro e w1 ⟨A1, c1, rfl, hN1⟩
  have HS := Lib.hid (sortstrs_any hN1.row Hl.out)
  have HN1 := Lib.hid hN1
  clear hN1 HC
  go_wp2_with fail
  refine HS.out.mono ?_
  rintro e w2 ⟨rfl, ts, hp, hs, hr2, ho2⟩
  have hle := hp.length_eq
  rw [← hle] at hr2
  have HK := Lib.hid (compact_any hr2 (by rw [hle]; exact Hl.out))
  rw [hle, HW.out ts hp hs] at HK
  have HN2 : Hid (Below w.heap.size w w2) := Lib.hid (HN1.out.bel.trans (ho2.below (fun i hi => HN1.out.2.2 i hi) HN1.out.bel.size))
  clear hp hs hr2 ho2 hle HS HW
  go_wp2_with fail
  refine HK.out.mono ?_
  rintro e w3 ⟨rfl, hr3, ho3⟩
  have HN3 : Hid (NewO w w3 9 1 A1 R.length c1 (R.map strV)) := Lib.hid ⟨hr3, HN2.out.trans (ho3.below (fun i hi => HN1.out.2.2 i hi) HN2.out.size), HN1.out.2.2⟩
  clear hr3 ho3 HK
  go_wp2
  go_ret
  exact ⟨A1, c1, rfl, HN3.out⟩
end Go.Proofs.YtpjgkacekelkdaaGreatDoor

/-
  Is any text too long; a text sought in a rising row; the places of texts (program). No statement of the seat is proved here.
-/
namespace Go.Proofs.YtpjgkacekelkdaaGreatDoor
open Go Go.RowKit
set_option maxRecDepth 100000

theorem longD_any (s : List UInt8) (w : World) (hs : s.length ≤ maxLen) : Calls Tryz.prog 46 #[strV s] w fun e w' => e = .returned (.bool (longT s)) ∧ w = w' := by
  unfold maxLen at hs
  unfold strV
  have hsz : (⟨s.toArray⟩ : ByteArray).size = s.length := rfl
  obtain ⟨Z, hZ⟩ : ∃ Z : ByteArray, (⟨s.toArray⟩ : ByteArray) = Z := ⟨_, rfl⟩
  rw [hZ] at hsz ⊢
  have hd : Hid (longT s = decide ((4096 : Int) < (Z.size : Int))) := Lib.hid (by unfold longT; rw [hsz]; rw [decide_eq_decide]; omega)
  clear hZ hsz
  go_enter Tryz.func46, Tryz.ntmps46
  go_wp2
  go_ret
  exact ⟨by rw [hd.out]; rfl, rfl⟩
/-- where the first is -/
def idxD (l : List (List UInt8)) : Int := match l.findIdx? longT with | some k => (k : Int) | none => -1
theorem idxD_none {l : List (List UInt8)} (h : ∀ s ∈ l, longT s = false) : idxD l = -1 := by
  unfold idxD
  rw [List.findIdx?_eq_none_iff.2 h]
theorem idxD_some {l : List (List UInt8)} {k : Nat} (hk : k < l.length) (h1 : longT l[k] = true) (h2 : ∀ j (hj : j < k), longT (l[j]'(by omega)) = false) : idxD l = (k : Int) := by
  unfold idxD
  rw [List.findIdx?_eq_some_iff_getElem.2 ⟨hk, h1, fun j hj => by simp [h2 j hj]⟩]
theorem idxD_any (l : List (List UInt8)) : decide ((0 : Int) ≤ idxD l) = l.any longT := by
  unfold idxD
  cases h : l.findIdx? longT with
  | none =>
    rw [List.findIdx?_eq_none_iff] at h
    have : l.any longT = false := by rw [List.any_eq_false]; intro x hx; simp [h x hx]
    rw [this]; rfl
  | some k =>
    rw [List.findIdx?_eq_some_iff_getElem] at h
    obtain ⟨hk, h1, _⟩ := h
    have : l.any longT = true := List.any_eq_true.2 ⟨l[k], List.getElem_mem hk, h1⟩
    rw [this]
    exact decide_eq_true (by simp)

set_option maxHeartbeats 2000000 in
theorem indexD_any (A : Option Addr) (c : Nat) (l : List (List UInt8)) (w : World) (hA : Rd w A (l.map strV)) (hl : l.length ≤ 1000000) (hs : ∀ s ∈ l, s.length ≤ maxLen) :
    Calls Tryz.prog 86 #[.slice A l.length c, .func (.func 46) #[] #[]] w fun e w' => e = .returned (.int .i64 (idxD l)) ∧ w = w' := by
  have hli : (l.length : Int) ≤ 1000000 := by omega
  go_enter Tryz.func86, Tryz.ntmps86
  go_wp2
  go_loop [8] (fun i => ∃ k : Nat, k ≤ l.length ∧ i = .int .i64 (k : Int) ∧ ∀ j (hj : j < l.length), j < k → longT l[j] = false) (fun i => l.length - (intOf i).toNat)
  case atStart => exact ⟨0, Nat.zero_le _, rfl, fun j _ h => absurd h (by omega)⟩
  case round =>
    obtain ⟨k, hk, rfl, hno⟩ := hrel
    have Hno := Lib.hid hno
    by_cases hlt : k < l.length
    · have hki : (k : Int) < (l.length : Int) := by omega
      obtain ⟨ad, rfl, hcell⟩ := rd_str hA hlt
      have HL := Lib.hid (longD_any l[k] w (hs _ (List.getElem_mem hlt)))
      unfold strV at hcell HL
      obtain ⟨Z, hZ⟩ : ∃ Z : ByteArray, (⟨l[k].toArray⟩ : ByteArray) = Z := ⟨_, rfl⟩
      rw [hZ] at hcell HL
      have HI : Hid (longT l[k] = true → idxD l = (k : Int)) := Lib.hid (fun h => idxD_some hlt h (fun j hj => hno j (by omega) hj))
      have HF : Hid (longT l[k] = false → ∀ j (hj : j < l.length), j < k + 1 → longT l[j] = false) := Lib.hid (fun h j hj hj2 => by
        rcases Nat.lt_succ_iff_lt_or_eq.1 hj2 with h3 | rfl
        · exact hno j hj h3
        · exact h)
      clear hZ hno
      generalize longT l[k] = v at *
      go_wp2_with fail
      refine HL.out.mono ?_
      rintro e w' ⟨rfl, rfl⟩
      cases v with
      | true =>
        have Hi := Lib.hid (HI.out rfl)
        go_wp2
        go_ret
        exact ⟨by rw [Hi.out]; rfl, rfl⟩
      | false =>
        have Hf := Lib.hid (HF.out rfl)
        clear HF HI
        go_wp2
        go_round
        case rel => exact ⟨k + 1, by omega, by go_num, Hf.out⟩
        case measure => simp [intOf]; omega
    · obtain rfl : k = l.length := by omega
      have hi : idxD l = -1 := idxD_none (fun s hs => by
        obtain ⟨j, hj, rfl⟩ := List.mem_iff_getElem.1 hs
        exact hno j hj hj)
      have Hi := Lib.hid hi
      clear hno hi
      go_wp2
      go_ret
      exact ⟨by rw [Hi.out]; rfl, rfl⟩
theorem containsD_any (A : Option Addr) (c : Nat) (l : List (List UInt8)) (w : World) (hA : Rd w A (l.map strV)) (hl : l.length ≤ 1000000) (hs : ∀ s ∈ l, s.length ≤ maxLen) :
    Calls Tryz.prog 47 #[.slice A l.length c, .func (.func 46) #[] #[]] w fun e w' => e = .returned (.bool (l.any longT)) ∧ w = w' := by
  have HI := Lib.hid (indexD_any A c l w hA hl hs)
  have Hd := Lib.hid (idxD_any l)
  generalize idxD l = v at *
  go_enter Tryz.func47, Tryz.ntmps47
  go_wp2_with fail
  refine HI.out.mono ?_
  rintro e w' ⟨rfl, rfl⟩
  go_wp2
  go_ret
  exact ⟨by rw [← Hd.out]; rfl, rfl⟩


theorem flat_of_cellD {w : World} {a : Addr} {u : Value} (h : w.cell? (a.add 0) = some u) : ∃ g o, a = ⟨g, o, none⟩ := spot_none h
theorem search_place {w : World} (A : Option Addr) (c : Nat) (ns : List (List UInt8)) (x : List UInt8) (hr : Rd w A (ns.map strV)) (hs : CalmT ns) (hn : ns.length ≤ 1000000) :
    Calls Tryz.prog 89 #[.slice A ns.length c, strV x] w fun e w' => ∃ v : Bool, e = .returned (.tuple #[.int .i64 (placeT ns x : Int), .bool v]) ∧ ∃ q, w' = w.drewN q := by
  by_cases hne : ns = []
  · subst hne
    have h := Go.Proofs.Any2.slices_BinarySearch_string_empty Tryz.laySearch A c ⟨x.toArray⟩ w
    change Calls Tryz.prog 89 _ _ _ at h
    refine h.mono ?_
    rintro e w' ⟨rfl, rfl⟩
    exact ⟨false, rfl, 0, rfl⟩
  · have hpos : 0 < ns.length := List.length_pos_iff.2 hne
    obtain ⟨ad, rfl, hc0⟩ := rd_str hr hpos
    obtain ⟨g, o, rfl⟩ := flat_of_cellD hc0
    obtain ⟨Sx, hSx⟩ : ∃ Sx : Nat → ByteArray, Sx = fun j => ⟨(ns.getD j x).toArray⟩ := ⟨_, rfl⟩
    have hcell : ∀ j, j < ns.length → w.cell? ⟨g, o + j, none⟩ = some (.string (Sx j)) := fun j hj => by
      obtain ⟨ad', e', hc⟩ := rd_str hr hj
      injection e' with e'
      subst e'
      rw [Addr.add_mid] at hc
      rw [hc, hSx]
      simp only
      rw [List.getD_eq_getElem?_getD, List.getElem?_eq_getElem hj]; rfl
    have h := Go.Proofs.Any2.slices_BinarySearch_string Tryz.laySearch g o ns.length c Sx ⟨x.toArray⟩ w (by omega) hcell
    change Calls Tryz.prog 89 _ _ _ at h
    refine h.mono ?_
    rintro e w' ⟨rfl, q, rfl⟩
    have hless : ∀ t, Op.bytesLess (Sx t).toList (⟨x.toArray⟩ : ByteArray).toList = decide (ns.getD t x < x) := fun t => by
      rw [hSx, Go.Proofs.bytesLess_eq, ByteArray.toList_mk, ByteArray.toList_mk]
    obtain ⟨g1, g2⟩ := placeT_spec (s := x) hs
    have hle := placeT_le ns x
    have hgd : ∀ t (ht : t < ns.length), ns.getD t x = ns[t] := fun t ht => by rw [List.getD_eq_getElem?_getD, List.getElem?_eq_getElem ht]; rfl
    have hgo : Lib.bsGo (fun t => Op.bytesLess (Sx t).toList (⟨x.toArray⟩ : ByteArray).toList) ns.length 0 ns.length = placeT ns x :=
      Lib.bsGo_spec _ (placeT ns x) (fun t ht => by
        rw [hless]
        have htl : t < ns.length := by omega
        exact decide_eq_true (by rw [hgd t htl]; exact g1 t htl ht)) (fun t ht => by
        rw [hless]
        refine decide_eq_false ?_
        by_cases htl : t < ns.length
        · rw [hgd t htl]; exact g2 t htl ht
        · rw [List.getD_eq_getElem?_getD, List.getElem?_eq_none (by omega)]
          exact lt_irr _) _ _ _ (by omega) (Nat.zero_le _) hle
    rw [hgo]
    exact ⟨_, rfl, q, rfl⟩

/-! ### places -/
def plcR (W l : List (List UInt8)) (k : Nat) : List Value := ((l.take k).map fun s => iv (placeT W s : Int)) ++ List.replicate (l.length - k) (iv 0)
theorem plcR_len (W l : List (List UInt8)) (k : Nat) (h : k ≤ l.length) : (plcR W l k).length = l.length := by unfold plcR; simp; omega
theorem plcR_set (W l : List (List UInt8)) (k : Nat) (h : k < l.length) : (plcR W l k).set k (iv (placeT W l[k] : Int)) = plcR W l (k + 1) := by
  unfold plcR
  have e : l.length - k = (l.length - (k + 1)) + 1 := by omega
  have e2 : ((l.take k).map fun s => iv (placeT W s : Int)).length = k := by simp; omega
  rw [List.set_append, if_neg (by omega), e2, Nat.sub_self, e, List.replicate_succ, List.set_cons_zero, List.take_succ_eq_append_getElem h, List.map_append, List.append_assoc]
  rfl
theorem plcR_all (W l : List (List UInt8)) : plcR W l l.length = (l.map fun s => (placeT W s : Int)).map iv := by
  unfold plcR
  rw [List.take_length, Nat.sub_self, List.replicate_zero, List.append_nil, List.map_map]
  rfl
theorem plcR_zero (W l : List (List UInt8)) : plcR W l 0 = repR l.length 0 0 := by simp [plcR, repR]

set_option maxHeartbeats 4000000 in
theorem placesOf_any (A : Option Addr) (c : Nat) (l : List (List UInt8)) (B : Option Addr) (d : Nat) (W : List (List UInt8)) (w : World) (hA : Rd w A (l.map strV)) (hB : Rd w B (W.map strV)) (hs : CalmT W) (hl : l.length ≤ 32768) (hW : W.length ≤ 1000000) :
    Calls Tryz.prog 49 #[.slice A l.length c, .slice B W.length d] w fun e w' => ∃ G, e = .returned (.slice (some ⟨G, 0, none⟩) l.length l.length) ∧ Rd w' (some ⟨G, 0, none⟩) ((l.map fun s => (placeT W s : Int)).map iv) ∧ Below w.heap.size w w' := by
  have hli : (l.length : Int) ≤ 32768 := by omega
  have HA := Lib.hid hA
  have HB := Lib.hid hB
  have HS := Lib.hid (fun (x : List UInt8) (V : World) (hV : Rd V B (W.map strV)) => search_place B d W x hV hs hW)
  have HE := Lib.hid (plcR_all W l)
  have HLn := Lib.hid (plcR_len W l)
  have HSt := Lib.hid (plcR_set W l)
  have hmk := fun V => make_ints V l.length (by omega)
  rw [Nat.mul_one] at hmk
  have HR : Hid (RowO (w.alloc (.cells (madeCells #[.int .i64 0] l.length) 3)) 3 1 (some ⟨w.heap.size, 0, none⟩) l.length l.length (plcR W l 0)) := Lib.hid (by rw [plcR_zero]; exact row_made w l.length 0 (by omega))
  have Hb1 : Hid (Below w.heap.size w (w.alloc (.cells (madeCells #[.int .i64 0] l.length) 3))) := Lib.hid (ext_alloc (Below.refl _ _) _)
  obtain ⟨G, hG⟩ : ∃ G, w.heap.size = G := ⟨_, rfl⟩
  have HG := Lib.hid hG
  rw [hG] at HR
  obtain ⟨W1, hW1⟩ : ∃ W1, W1 = w.alloc (.cells (madeCells #[.int .i64 0] l.length) 3) := ⟨_, rfl⟩
  have hmk2 : (Instr.makeSlice 48 (.int .i64 (l.length : Int)) (.int .i64 (l.length : Int))).run Tryz.prog w = .ok (.slice (some ⟨G, 0, none⟩) l.length l.length) W1 := by rw [hW1, ← hG]; exact hmk w
  rw [← hW1] at HR Hb1
  clear hW1 hmk hG hA hB hs
  go_enter Tryz.func49, Tryz.ntmps49
  go_wp2
  go_loopw [13] (fun i wr => ∃ (k : Nat), k ≤ l.length ∧ i = .int .i64 (k : Int) ∧ Hid (RowO wr 3 1 (some ⟨G, 0, none⟩) l.length l.length (plcR W l k)) ∧ Hid (Below w.heap.size w wr)) (fun i _ => l.length - (intOf i).toNat)
  case atStart => exact ⟨0, Nat.zero_le _, rfl, HR, Hb1⟩
  case round =>
    obtain ⟨k, hk, rfl, HRr, Hbr⟩ := hrel
    by_cases hlt : k < l.length
    · have hki : (k : Int) < (l.length : Int) := by omega
      obtain ⟨ad, e, hcell⟩ := HRr.out.rd.at_ (k := k) (by rw [HLn.out k hk]; exact hlt)
      injection e with e
      subst e
      rw [Addr.add_mid] at hcell
      have hfr := HRr.out.free (0 + k)
      obtain ⟨ad2, hA2, hcell2⟩ := rd_str (HA.out.ext Hbr.out) hlt
      subst hA2
      have HSx := Lib.hid (HS.out l[k] wr (HB.out.ext Hbr.out))
      have HP : Hid (∀ q, RowO ((wr.drewN q).setCell ⟨G, 0 + k, none⟩ (iv (placeT W l[k] : Int))) 3 1 (some ⟨G, 0, none⟩) l.length l.length (plcR W l (k + 1)) ∧ Below w.heap.size w ((wr.drewN q).setCell ⟨G, 0 + k, none⟩ (iv (placeT W l[k] : Int)))) := Lib.hid (fun q => ⟨by
        have h := (HRr.out.drewN q).set k (by rw [HLn.out k hk]; exact hlt) (iv (placeT W l[k] : Int))
        rw [HSt.out k hlt] at h
        exact h, (ext_drewN Hbr.out q).setCell (p := ⟨G, 0 + k, none⟩) (Nat.le_of_eq HG.out) _⟩)
      unfold iv at HP
      obtain ⟨y, hy⟩ : ∃ y, (plcR W l k)[k]'(by rw [HLn.out k hk]; exact hlt) = y := ⟨_, rfl⟩
      rw [hy] at hcell
      rw [Nat.zero_add] at hcell hfr HP
      generalize placeT W l[k] = pl at *
      unfold strV at hcell2 HSx
      obtain ⟨Z, hZ⟩ : ∃ Z : ByteArray, (⟨l[k].toArray⟩ : ByteArray) = Z := ⟨_, rfl⟩
      rw [hZ] at hcell2 HSx
      clear hy hZ
      go_wp2_with fail
      refine HSx.out.mono ?_
      rintro e w' ⟨v, rfl, q, rfl⟩
      have hcell3 : (wr.drewN q).cell? ⟨G, k, none⟩ = some y := hcell
      have hfr3 : (wr.drewN q).frozen? ⟨G, k, none⟩ = false := hfr
      have Hp := Lib.hid (HP.out q)
      clear hcell hfr HP
      go_wp2
      go_roundw
      case rel => exact ⟨k + 1, by omega, by go_num, Lib.hid Hp.out.1, Lib.hid Hp.out.2⟩
      case measure => simp [intOf]; omega
    · obtain rfl : k = l.length := by omega
      have HRd : Hid (Rd wr (some ⟨G, 0, none⟩) ((l.map fun s => (placeT W s : Int)).map iv)) := Lib.hid (by rw [← HE.out]; exact HRr.out.rd)
      go_wp2
      go_ret
      exact ⟨G, rfl, HRd.out, Hbr.out⟩
end Go.Proofs.YtpjgkacekelkdaaGreatDoor
