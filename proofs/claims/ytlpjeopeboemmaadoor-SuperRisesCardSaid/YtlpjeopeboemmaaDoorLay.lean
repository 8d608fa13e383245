/-
  A Disk in memory ('Lay', 'Imp'), and what stores make of it. No statement of the seat is proved here.
-/
import Derived.Test.YtlpjeopeboemmaaDoorCell
import Derived.Test.YtlpjeopeboemmaaDoorStage
namespace Go.Proofs.YtlpjeopeboemmaaDoor
open Go Go.RowKit

/-- The disk in block 'g', its sectors in block 'gc', the versions of sector i behind the first one in the row of 'B i'; what it owns lies in 'fp'. -/
structure Lay (w : World) (fp : Nat → Prop) (g gc : Nat) (S : Sec) (l : Int) (B : Nat → Option Addr) (C : Nat → Nat) : Prop where
  fg : fp g
  fgc : fp gc
  lo : -1 ≤ l
  hi : l ≤ 9223372036854775807
  n : S.length ≤ 4096
  dsk : Blk w g 88 #[.slice (some ⟨gc, 0, none⟩) S.length S.length, litV l, leftV l]
  row : ∃ cs, Blk w gc 94 cs ∧ cs.size = S.length * 65
  cel : ∀ i (hi : i < S.length), CelAt w gc (i * 65) S[i] (B i) (C i)
  fB : ∀ i k, i < S.length → inA (B i) k → fp k
  apart : ∀ i j k, i < S.length → j < S.length → inA (B i) k → inA (B j) k → i = j

def Imp (w : World) (fp : Nat → Prop) (g : Nat) (S : Sec) (l : Int) : Prop := ∃ gc B C, Lay w fp g gc S l B C

theorem CelAt.store_far {w : World} {gc o : Nat} {vs : List (List UInt8)} {A : Option Addr} {c : Nat} (h : CelAt w gc o vs A c) (o' : Nat) (us : List Value) (hap : o + 65 ≤ o' ∨ o' + us.length ≤ o) (hn : ¬ inA A gc) : CelAt (w.setCells gc o' us) gc o vs A c := by
  refine ⟨h.ne, h.len, World.rangeAt_setCells_apart h.head gc o' us ?_, ?_, h.own.only ((Only.refl (fun k => k = gc) w).setCells (.inl rfl) us o') (fun k hk e => hn (e ▸ hk))⟩
  · rw [List.length_map, h.lenHead]
    omega
  · rw [World.cell?_setCells_out gc us o' w ⟨gc, o + 64, none⟩ (fun _ _ => by
      show o + 64 < o' ∨ o' + us.length ≤ o + 64
      omega)]
    exact h.row

theorem CelAt.one {w : World} {gc o : Nat} (v : List UInt8) (hv : v.length = 64) (hr : w.rangeAt gc o (oneCells v)) : CelAt w gc o [v] none 0 := by
  refine ⟨by simp, by simpa using hv, fun j u hu => hr j u ?_, hr 64 _ ?_, RowO.none_ _ _ _⟩
  · have hj : j < (v.map bv).length := (List.getElem?_eq_some_iff.1 hu).1
    unfold oneCells
    rw [List.getElem?_append_left hj]
    exact hu
  · unfold oneCells
    rw [List.getElem?_append_right (by simp [hv])]
    simp [hv]

theorem oneCells_length {v : List UInt8} (hv : v.length = 64) : (oneCells v).length = 65 := by simp [oneCells, hv]

section
variable {T fp fp' : Nat → Prop} {w w' : World} {g gc : Nat} {S : Sec} {l : Int} {B : Nat → Option Addr} {C : Nat → Nat}
theorem Lay.mono (h : Lay w fp g gc S l B C) (hs : ∀ k, fp k → k < w.heap.size → fp' k) : Lay w fp' g gc S l B C :=
  { h with fg := hs _ h.fg h.dsk.lt, fgc := by obtain ⟨cs, hb, _⟩ := h.row; exact hs _ h.fgc hb.lt, fB := fun i k hi hk => hs k (h.fB i k hi hk) ((h.cel i hi).own.lt hk) }
theorem Lay.only (h : Lay w fp g gc S l B C) (ho : Only T w w') (hn : ∀ k, fp k → ¬ T k) : Lay w' fp g gc S l B C := by
  obtain ⟨cs, hb, hsz⟩ := h.row
  exact { h with
    dsk := h.dsk.only ho (hn _ h.fg)
    row := ⟨cs, hb.only ho (hn _ h.fgc), hsz⟩
    cel := fun i hi => (h.cel i hi).keep (ho.block _ hb.lt (hn _ h.fgc)) fun k hk => ho.block k ((h.cel i hi).own.lt hk) (hn k (h.fB i k hi hk)) }
theorem Lay.ext (h : Lay w fp g gc S l B C) (hb : Below w.heap.size w w') : Lay w' fp g gc S l B C := h.only (Only.of_ext (S := fun _ => False) hb) (fun _ _ x => x)
theorem Lay.alloc (h : Lay w fp g gc S l B C) (o : Obj) : Lay (w.alloc o) fp g gc S l B C := h.ext ((Below.refl _ _).alloc (Nat.le_refl _) o)
theorem Lay.drewN (h : Lay w fp g gc S l B C) (n : Nat) : Lay (w.drewN n) fp g gc S l B C := h.only ((Only.refl (fun _ => False) w).drewN n) (fun _ _ x => x)
theorem Lay.far (h : Lay w fp g gc S l B C) {i : Nat} (hi : i < S.length) : ¬ inA (B i) gc ∧ ¬ inA (B i) g := by
  obtain ⟨cs, hb, _⟩ := h.row
  exact ⟨(h.cel i hi).own.ne_blk hb (by decide), (h.cel i hi).own.ne_blk h.dsk (by decide)⟩
theorem Lay.ne (h : Lay w fp g gc S l B C) : g ≠ gc := by
  rintro rfl
  obtain ⟨cs, hb, _⟩ := h.row
  have h1 := h.dsk
  unfold Blk at hb h1
  rw [h1] at hb
  injection hb with hb
  injection hb with _ ht
  exact absurd ht (by decide)
theorem Lay.wf (h : Lay w fp g gc S l B C) : Wf S := fun vs hvs => by
  obtain ⟨i, hi, rfl⟩ := List.mem_iff_getElem.1 hvs
  exact ⟨(h.cel i hi).ne, (h.cel i hi).len⟩
theorem Lay.there (h : Lay w fp g gc S l B C) {i : Nat} (hi : i < S.length) : w.there gc (i * 65) 65 := by
  obtain ⟨cs, hb, hsz⟩ := h.row
  exact hb.there _ _ (by omega)
/-- a sector becomes one version -/
theorem Lay.settle (h : Lay w fp g gc S l B C) {i : Nat} (hi : i < S.length) (v : List UInt8) (hv : v.length = 64) :
    Lay (w.setCells gc (i * 65) (oneCells v)) fp g gc (S.set i [v]) l (fun j => if j = i then none else B j) (fun j => if j = i then 0 else C j) := by
  obtain ⟨cs, hb, hsz⟩ := h.row
  obtain ⟨cs', hb', hsz', _, _⟩ := Blk.setCells (oneCells v) (i * 65) hb (by rw [oneCells_length hv]; omega)
  have hlen : (S.set i [v]).length = S.length := by simp
  refine ⟨h.fg, h.fgc, h.lo, h.hi, by rw [hlen]; exact h.n, by rw [hlen]; exact h.dsk.setCells_far h.ne _ _, ⟨cs', hb', by rw [hlen]; omega⟩, fun j hj => ?_, fun j k hj hk => ?_, fun j j' k hj hj' hk hk' => ?_⟩
  · have hj' : j < S.length := by simpa using hj
    by_cases e : j = i
    · subst e
      simp only [List.getElem_set_self, if_true]
      exact CelAt.one v hv (World.rangeAt_setCells_same _ _ _ _ (by rw [oneCells_length hv]; exact h.there hi))
    · simp only [List.getElem_set_ne (Ne.symm e), if_neg e]
      exact (h.cel j hj').store_far _ _ (by rw [oneCells_length hv]; omega) (h.far hj').1
  · by_cases e : j = i
    · simp only [if_pos e] at hk; exact absurd hk (inA_none k)
    · simp only [if_neg e] at hk; exact h.fB j k (by simpa using hj) hk
  · by_cases e : j = i
    · simp only [if_pos e] at hk; exact absurd hk (inA_none k)
    · by_cases e' : j' = i
      · simp only [if_pos e'] at hk'; exact absurd hk' (inA_none k)
      · simp only [if_neg e] at hk; simp only [if_neg e'] at hk'
        exact h.apart j j' k (by simpa using hj) (by simpa using hj') hk hk'
/-- another fuse -/
theorem Lay.fuse (h : Lay w fp g gc S l B C) (l' : Int) (lo : -1 ≤ l') (hi : l' ≤ 9223372036854775807) (ho : Only (fun k => k = g) w w') (hb : Blk w' g 88 #[.slice (some ⟨gc, 0, none⟩) S.length S.length, litV l', leftV l']) : Lay w' fp g gc S l' B C := by
  obtain ⟨cs, hbc, hsz⟩ := h.row
  have hgc : ¬ gc = g := Ne.symm h.ne
  exact { h with
    lo := lo
    hi := hi
    dsk := hb
    row := ⟨cs, hbc.only ho hgc, hsz⟩
    cel := fun i hi => (h.cel i hi).keep (ho.block _ hbc.lt hgc) fun k hk => ho.block k ((h.cel i hi).own.lt hk) (fun e => (h.far hi).2 (e ▸ hk)) }
end

/-- the world behind a store into the row, and a new row of versions: one version more -/
theorem Lay.push {w w1 : World} {fp : Nat → Prop} {g gc : Nat} {S : Sec} {l : Int} {B : Nat → Option Addr} {C : Nat → Nat} (h : Lay w fp g gc S l B C) {i : Nat} (hi : i < S.length) (v : List UInt8) (hv : v.length = 64) (A' : Option Addr) (c' : Nat)
    (ho : Only (inA (B i)) w w1) (hr : RowO w1 91 64 A' S[i].length c' ((S[i].tail.flatten ++ v).map bv)) (hA : ∀ k, inA A' k → inA (B i) k ∨ (w.heap.size ≤ k ∧ k < w1.heap.size)) :
    Lay (w1.setCells gc (i * 65 + 64) [.slice A' S[i].length c']) (More fp w w1) g gc (S.set i (S[i] ++ [v])) l (fun j => if j = i then A' else B j) (fun j => if j = i then c' else C j) := by
  obtain ⟨cs, hb, hsz⟩ := h.row
  have hb1 : Blk w1 gc 94 cs := hb.only ho (h.far hi).1
  obtain ⟨cs', hb', hsz', hin, hout⟩ := Blk.setCells [.slice A' S[i].length c'] (i * 65 + 64) hb1 (by simp; omega)
  have hlen : (S.set i (S[i] ++ [v])).length = S.length := by simp
  have hdsk : Blk w1 g 88 _ := h.dsk.only ho (h.far hi).2
  have hother : ∀ j (hj : j < S.length), j ≠ i → CelAt w1 gc (j * 65) S[j] (B j) (C j) := fun j hj e =>
    (h.cel j hj).keep (ho.block _ hb.lt (h.far hi).1) fun k hk => ho.block k ((h.cel j hj).own.lt hk) (fun hk' => e (h.apart j i k hj hi hk hk'))
  have hlt : ∀ j k, j < S.length → inA (B j) k → k < w.heap.size := fun j k hj hk => (h.cel j hj).own.lt hk
  have hrow' : RowO (w1.setCells gc (i * 65 + 64) [.slice A' S[i].length c']) 91 64 A' S[i].length c' ((S[i].tail.flatten ++ v).map bv) :=
    hr.only ((Only.refl (fun k => k = gc) w1).setCells (.inl rfl) _ _) (fun k hk e => by
      subst e
      exact hr.ne_blk hb1 (by decide) hk)
  refine ⟨.inl h.fg, .inl h.fgc, h.lo, h.hi, by rw [hlen]; exact h.n, by rw [hlen]; exact hdsk.setCells_far h.ne _ _, ⟨cs', hb', by rw [hlen]; omega⟩, fun j hj => ?_, fun j k hj hk => ?_, fun j j' k hj hj' hk hk' => ?_⟩
  · have hj' : j < S.length := by simpa using hj
    by_cases e : j = i
    · subst e
      simp only [List.getElem_set_self, if_true]
      have hc := h.cel j hi
      obtain ⟨x, r, hS⟩ : ∃ x r, S[j] = x :: r := by
        match hS : S[j], hc.ne with
        | x :: r, _ => exact ⟨x, r, rfl⟩
      refine ⟨by simp, fun u hu => ?_, fun m u hu => ?_, ?_, ?_⟩
      · rcases List.mem_append.1 hu with hu | hu
        · exact hc.len u hu
        · simp at hu; subst hu; exact hv
      · have hm : m < 64 := by
          have := (List.getElem?_eq_some_iff.1 hu).1
          rw [List.length_map] at this
          have h2 := hc.lenHead
          rw [hS] at this h2
          simp at this h2
          omega
        rw [hb'.cell, hout _ (.inl (by omega)), ← hb.cell]
        refine hc.head m u ?_
        rw [hS] at hu ⊢
        exact hu
      · rw [hb'.cell]
        have := hin 0 _ rfl
        rw [Nat.add_zero] at this
        rw [this]
        simp
      · have e1 : (S[j] ++ [v]).length - 1 = S[j].length := by simp
        have e2 : (S[j] ++ [v]).tail.flatten = S[j].tail.flatten ++ v := by rw [hS]; simp
        rw [e1, e2]
        exact hrow'
    · simp only [List.getElem_set_ne (Ne.symm e), if_neg e]
      exact (hother j hj' e).store_far _ _ (by simp; omega) (h.far hj').1
  · have hj' : j < S.length := by simpa using hj
    by_cases e : j = i
    · simp only [if_pos e] at hk
      rcases hA k hk with hk | hk
      · exact .inl (h.fB i k hi hk)
      · exact .inr hk
    · simp only [if_neg e] at hk; exact .inl (h.fB j k hj' hk)
  · have hj1 : j < S.length := by simpa using hj
    have hj2 : j' < S.length := by simpa using hj'
    by_cases e : j = i
    · by_cases e' : j' = i
      · omega
      · simp only [if_pos e] at hk; simp only [if_neg e'] at hk'
        rcases hA k hk with hk | hk
        · exact absurd (h.apart i j' k hi hj2 hk hk') (Ne.symm e')
        · have := hlt j' k hj2 hk'; omega
    · by_cases e' : j' = i
      · simp only [if_neg e] at hk; simp only [if_pos e'] at hk'
        rcases hA k hk' with hk' | hk'
        · exact absurd (h.apart j i k hj1 hi hk hk') e
        · have := hlt j k hj1 hk; omega
      · simp only [if_neg e] at hk; simp only [if_neg e'] at hk'
        exact h.apart j j' k hj1 hj2 hk hk'

section
variable {T fp fp' : Nat → Prop} {w w' : World} {g : Nat} {S : Sec} {l : Int}
theorem Imp.mono (h : Imp w fp g S l) (hs : ∀ k, fp k → k < w.heap.size → fp' k) : Imp w fp' g S l := by
  obtain ⟨gc, B, C, h⟩ := h
  exact ⟨gc, B, C, h.mono hs⟩
theorem Imp.only (h : Imp w fp g S l) (ho : Only T w w') (hn : ∀ k, fp k → ¬ T k) : Imp w' fp g S l := by
  obtain ⟨gc, B, C, h⟩ := h
  exact ⟨gc, B, C, h.only ho hn⟩
theorem Imp.ext (h : Imp w fp g S l) (hb : Below w.heap.size w w') : Imp w' fp g S l := by
  obtain ⟨gc, B, C, h⟩ := h
  exact ⟨gc, B, C, h.ext hb⟩
theorem Imp.drewN (h : Imp w fp g S l) (n : Nat) : Imp (w.drewN n) fp g S l := by
  obtain ⟨gc, B, C, h⟩ := h
  exact ⟨gc, B, C, h.drewN n⟩
theorem Imp.lt (h : Imp w fp g S l) : g < w.heap.size := by
  obtain ⟨gc, B, C, h⟩ := h
  exact h.dsk.lt
theorem Imp.wf (h : Imp w fp g S l) : Wf S := by
  obtain ⟨gc, B, C, h⟩ := h
  exact h.wf
theorem Imp.n (h : Imp w fp g S l) : S.length ≤ 4096 := by
  obtain ⟨gc, B, C, h⟩ := h
  exact h.n
theorem Imp.fg (h : Imp w fp g S l) : fp g := by
  obtain ⟨gc, B, C, h⟩ := h
  exact h.fg
end
end Go.Proofs.YtlpjeopeboemmaaDoor
