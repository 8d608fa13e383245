/-
  The reference's Disk in memory ('RLay', 'Ref'), and what stores make of it. No statement of the seat is proved here.
-/
import Derived.Test.YtlpjeopeboemmaaDoorConv
namespace Go.Proofs.YtlpjeopeboemmaaDoor
open Go Go.RowKit

theorem RowO.ne_row {w : World} {e e' : TypeId} {sz sz' : Nat} {A A' : Option Addr} {m m' c c' : Nat} {xs xs' : List Value} (h : RowO w e sz A m c xs) (h' : RowO w e' sz' A' m' c' xs') (ht : e ≠ e') {k : Nat} (hk : inA A k) : ¬ inA A' k := by
  rcases h'.2 with ⟨rfl, _⟩ | ⟨g, off, cs, rfl, _, _, hb, _⟩
  · exact inA_none k
  · rw [inA_some]
    rintro rfl
    exact h.ne_blk hb ht hk

/-- one element of a row anew -/
theorem RowO.put {w : World} {e : TypeId} {A : Option Addr} {m c : Nat} {xs : List Value} (h : RowO w e 1 A m c xs) {b o : Nat} (hA : A = some ⟨b, o, none⟩) {i : Nat} (hi : i < m) (v : Value) : RowO (w.setCell ⟨b, o + i, none⟩ v) e 1 A m c (xs.set i v) := by
  have hl := h.1
  refine ⟨by rw [List.length_set]; exact hl, ?_⟩
  rcases h.2 with ⟨h1, _⟩ | ⟨g, off, cs, h1, h2, h3, hb, h5, h6⟩
  · rw [hA] at h1; cases h1
  · rw [hA] at h1
    injection h1 with h1
    injection h1 with e1 e2 _
    subst e1 e2
    refine .inr ⟨b, o, _, hA, h2, h3, hb.put (o + i) v, by simpa using h5, fun j u hu => ?_⟩
    rw [List.getElem?_set] at hu
    rw [Array.getElem?_setIfInBounds]
    by_cases e : i = j
    · subst e
      rw [if_pos rfl] at hu ⊢
      have hb1 : o + i < cs.size := by omega
      rw [if_pos (by omega)] at hu
      rw [if_pos hb1]
      exact hu
    · rw [if_neg e] at hu
      rw [if_neg (by omega)]
      exact h6 j u hu
theorem RowO.there1 {w : World} {e : TypeId} {A : Option Addr} {m c : Nat} {xs : List Value} (h : RowO w e 1 A m c xs) {i : Nat} (hi : i < m) : ∃ b o, A = some ⟨b, o, none⟩ ∧ (∀ u, xs[i]? = some u → w.cell? ⟨b, o + i, none⟩ = some u) ∧ w.frozen? ⟨b, o + i, none⟩ = false := by
  rcases h.2 with ⟨_, h1, _⟩ | ⟨g, off, cs, h1, h2, h3, hb, h5, h6⟩
  · omega
  · exact ⟨g, off, h1, fun u hu => by rw [hb.cell]; exact h6 i u hu, hb.free _⟩

/-- the slices that the sectors are -/
def rvals (S : Sec) (B : Nat → Option Addr) (C : Nat → Nat) : List Value := S.mapIdx fun i vs => .slice (B i) vs.length (C i)
theorem rvals_length (S : Sec) (B : Nat → Option Addr) (C : Nat → Nat) : (rvals S B C).length = S.length := by simp [rvals]
theorem rvals_get (S : Sec) (B : Nat → Option Addr) (C : Nat → Nat) {i : Nat} (hi : i < S.length) : (rvals S B C)[i]? = some (.slice (B i) S[i].length (C i)) := by
  simp [rvals, hi]
theorem rvals_set (S : Sec) (B : Nat → Option Addr) (C : Nat → Nat) (i : Nat) (vs : List (List UInt8)) (A' : Option Addr) (c' : Nat) :
    (rvals S B C).set i (.slice A' vs.length c') = rvals (S.set i vs) (fun j => if j = i then A' else B j) (fun j => if j = i then c' else C j) := by
  refine List.ext_getElem? fun j => ?_
  rw [List.getElem?_set]
  unfold rvals
  rw [List.getElem?_mapIdx, List.getElem?_mapIdx, List.length_mapIdx, List.getElem?_set]
  by_cases e : i = j
  · subst e
    rw [if_pos rfl, if_pos rfl]
    by_cases h : i < S.length
    · rw [if_pos h, if_pos h]; simp
    · rw [if_neg h, if_neg h]; rfl
  · have e' : ¬ j = i := fun h => e h.symm
    rw [if_neg e, if_neg e]
    simp only [if_neg e']

structure RLay (w : World) (fp : Nat → Prop) (g : Nat) (S : Sec) (l : Int) (A : Option Addr) (c : Nat) (B : Nat → Option Addr) (C : Nat → Nat) : Prop where
  fg : fp g
  lo : -1 ≤ l
  hi : l ≤ 9223372036854775807
  n : S.length ≤ 4096
  dsk : Blk w g 74 #[.slice A S.length c, .int .i64 l]
  row : RowO w 108 1 A S.length c (rvals S B C)
  fA : ∀ k, inA A k → fp k
  wf : Wf S
  cel : ∀ i (hi : i < S.length), RowO w 9 1 (B i) S[i].length (C i) (S[i].map strV)
  fB : ∀ i k, i < S.length → inA (B i) k → fp k
  apart : ∀ i j k, i < S.length → j < S.length → inA (B i) k → inA (B j) k → i = j

def Ref (w : World) (fp : Nat → Prop) (g : Nat) (S : Sec) (l : Int) : Prop := ∃ A c B C, RLay w fp g S l A c B C

section
variable {T fp fp' : Nat → Prop} {w w' : World} {g : Nat} {S : Sec} {l : Int} {A : Option Addr} {c : Nat} {B : Nat → Option Addr} {C : Nat → Nat}
theorem RLay.mono (h : RLay w fp g S l A c B C) (hs : ∀ k, fp k → k < w.heap.size → fp' k) : RLay w fp' g S l A c B C :=
  { h with fg := hs _ h.fg h.dsk.lt, fA := fun k hk => hs k (h.fA k hk) (h.row.lt hk), fB := fun i k hi hk => hs k (h.fB i k hi hk) ((h.cel i hi).lt hk) }
theorem RLay.only (h : RLay w fp g S l A c B C) (ho : Only T w w') (hn : ∀ k, fp k → ¬ T k) : RLay w' fp g S l A c B C :=
  { h with
    dsk := h.dsk.only ho (hn _ h.fg)
    row := h.row.only ho (fun k hk => hn k (h.fA k hk))
    cel := fun i hi => (h.cel i hi).only ho fun k hk => hn k (h.fB i k hi hk) }
theorem RLay.ext (h : RLay w fp g S l A c B C) (hb : Below w.heap.size w w') : RLay w' fp g S l A c B C := h.only (Only.of_ext (S := fun _ => False) hb) (fun _ _ x => x)
theorem RLay.drewN (h : RLay w fp g S l A c B C) (n : Nat) : RLay (w.drewN n) fp g S l A c B C := h.only ((Only.refl (fun _ => False) w).drewN n) (fun _ _ x => x)
theorem RLay.drew (h : RLay w fp g S l A c B C) : RLay w.drew fp g S l A c B C := h.only ((Only.refl (fun _ => False) w).drew) (fun _ _ x => x)
theorem RLay.far (h : RLay w fp g S l A c B C) : ¬ inA A g ∧ ∀ i k, i < S.length → inA (B i) k → k ≠ g ∧ ¬ inA A k :=
  ⟨h.row.ne_blk h.dsk (by decide), fun i k hi hk => ⟨fun e => (h.cel i hi).ne_blk h.dsk (by decide) (e ▸ hk), (h.cel i hi).ne_row h.row (by decide) hk⟩⟩
/-- another count -/
theorem RLay.left (h : RLay w fp g S l A c B C) (l' : Int) (lo : -1 ≤ l') (hi : l' ≤ 9223372036854775807) (ho : Only (fun k => k = g) w w') (hb : Blk w' g 74 #[.slice A S.length c, .int .i64 l']) : RLay w' fp g S l' A c B C :=
  { h with
    lo := lo
    hi := hi
    dsk := hb
    row := h.row.only ho (fun k hk e => h.far.1 (e ▸ hk))
    cel := fun i hi => (h.cel i hi).only ho (fun k hk e => (h.far.2 i k hi hk).1 e) }
/-- a sector anew: a row of strings, in memory of its own or in the sector's -/
theorem RLay.put (h : RLay w fp g S l A c B C) {i : Nat} (hi : i < S.length) {w1 : World} (vs : List (List UInt8)) (hvs : vs ≠ [] ∧ ∀ v ∈ vs, v.length = 64) (A' : Option Addr) (c' : Nat)
    (ho : Only (inA (B i)) w w1) (hr : RowO w1 9 1 A' vs.length c' (vs.map strV)) (hA : ∀ k, inA A' k → inA (B i) k ∨ (w.heap.size ≤ k ∧ k < w1.heap.size)) {b o : Nat} (hAb : A = some ⟨b, o, none⟩) :
    RLay (w1.setCell ⟨b, o + i, none⟩ (.slice A' vs.length c')) (More fp w w1) g (S.set i vs) l A c (fun j => if j = i then A' else B j) (fun j => if j = i then c' else C j) := by
  have hlen : (S.set i vs).length = S.length := by simp
  have hfar := h.far
  have hrow1 : RowO w1 108 1 A S.length c (rvals S B C) := h.row.only ho (fun k hk hk' => (hfar.2 i k hi hk').2 hk)
  have hdsk1 : Blk w1 g 74 #[.slice A S.length c, .int .i64 l] := h.dsk.only ho (fun hk => (hfar.2 i g hi hk).1 rfl)
  have hbA : inA A b := ⟨_, hAb, rfl⟩
  have hother : ∀ j (hj : j < S.length), j ≠ i → RowO w1 9 1 (B j) S[j].length (C j) (S[j].map strV) := fun j hj e => (h.cel j hj).only ho (fun k hk hk' => e (h.apart j i k hj hi hk hk'))
  have ho2 : Only (fun k => k = b) w1 (w1.setCell ⟨b, o + i, none⟩ (.slice A' vs.length c')) := (Only.refl (fun k => k = b) w1).setCell (p := ⟨b, o + i, none⟩) (.inl rfl) _
  have keepS : ∀ {A0 : Option Addr} {m c0 : Nat} {xs : List Value}, RowO w1 9 1 A0 m c0 xs → RowO (w1.setCell ⟨b, o + i, none⟩ (.slice A' vs.length c')) 9 1 A0 m c0 xs := fun hr0 => hr0.only ho2 (fun k hk e => hr0.ne_row hrow1 (by decide) hk (e ▸ hbA))
  have hlt : ∀ j k, j < S.length → inA (B j) k → k < w.heap.size := fun j k hj hk => (h.cel j hj).lt hk
  refine ⟨.inl h.fg, h.lo, h.hi, by rw [hlen]; exact h.n, by rw [hlen]; exact hdsk1.far (fun e => hfar.1 (e ▸ hbA)) _, ?_, fun k hk => .inl (h.fA k hk), fun us hus => ?_, fun j hj => ?_, fun j k hj hk => ?_, fun j j' k hj hj' hk hk' => ?_⟩
  · rw [hlen, ← rvals_set]
    exact hrow1.put hAb hi _
  · rcases List.mem_or_eq_of_mem_set hus with hus | hus
    · exact h.wf us hus
    · subst hus; exact hvs
  · have hj' : j < S.length := by simpa using hj
    by_cases e : j = i
    · subst e
      simp only [List.getElem_set_self, if_true]
      exact keepS hr
    · simp only [List.getElem_set_ne (Ne.symm e), if_neg e]
      exact keepS (hother j hj' e)
  · have hj' : j < S.length := by simpa using hj
    by_cases e : j = i
    · simp only [if_pos e] at hk
      rcases hA k hk with hk | hk
      · exact .inl (h.fB i k hi hk)
      · exact .inr hk
    · simp only [if_neg e] at hk; exact .inl (h.fB j k hj' hk)
  · have hj1 : j < S.length := by simpa using hj
    have hj2 : j' < S.length := by simpa using hj'
    by_cases e : j = i
    · by_cases e' : j' = i
      · omega
      · simp only [if_pos e] at hk; simp only [if_neg e'] at hk'
        rcases hA k hk with hk | hk
        · exact absurd (h.apart i j' k hi hj2 hk hk') (Ne.symm e')
        · have := hlt j' k hj2 hk'; omega
    · by_cases e' : j' = i
      · simp only [if_neg e] at hk; simp only [if_pos e'] at hk'
        rcases hA k hk' with hk' | hk'
        · exact absurd (h.apart j i k hj1 hi hk hk') e
        · have := hlt j k hj1 hk; omega
      · simp only [if_neg e] at hk; simp only [if_neg e'] at hk'
        exact h.apart j j' k hj1 hj2 hk hk'
theorem Ref.mono (h : Ref w fp g S l) (hs : ∀ k, fp k → k < w.heap.size → fp' k) : Ref w fp' g S l := by
  obtain ⟨A, c, B, C, h⟩ := h
  exact ⟨A, c, B, C, h.mono hs⟩
theorem Ref.only (h : Ref w fp g S l) (ho : Only T w w') (hn : ∀ k, fp k → ¬ T k) : Ref w' fp g S l := by
  obtain ⟨A, c, B, C, h⟩ := h
  exact ⟨A, c, B, C, h.only ho hn⟩
theorem Ref.ext (h : Ref w fp g S l) (hb : Below w.heap.size w w') : Ref w' fp g S l := by
  obtain ⟨A, c, B, C, h⟩ := h
  exact ⟨A, c, B, C, h.ext hb⟩
theorem Ref.wf (h : Ref w fp g S l) : Wf S := by
  obtain ⟨A, c, B, C, h⟩ := h
  exact h.wf
end
end Go.Proofs.YtlpjeopeboemmaaDoor
