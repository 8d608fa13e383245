/-
  The contracts of the reference's Fuse, Flush, Crash. No statement of the seat is proved here.
-/
import Derived.Test.YtlpjeopeboemmaaDoorRLay
import Derived.BigRegion
namespace Go.Proofs.YtlpjeopeboemmaaDoor
open Go Go.RowKit

section
variable {w : World} {fp : Nat → Prop} {g : Nat} {S : Sec} {l : Int} {A : Option Addr} {c : Nat} {B : Nat → Option Addr} {C : Nat → Nat}
theorem rfuse_any (h : RLay w fp g S l A c B C) (n : Int) (hn : isInt n) :
    Calls Tryd.prog 34 #[.pointer (some ⟨g, 0, none⟩), .int .i64 n] w fun e w' => e = .returned (.tuple #[]) ∧ Only (fun k => k = g) w w' ∧ RLay w' fp g S (max n (-1)) A c B C := by
  have c1 : w.cell? ⟨g, 1, none⟩ = some (.int .i64 l) := h.dsk.cell 1
  have f1 : w.frozen? ⟨g, 1, none⟩ = false := h.dsk.free 1
  unfold isInt at hn
  by_cases h0 : -1 ≤ n
  · have e1 : max n (-1) = n := by omega
    rw [e1]
    go_enter Tryd.func34, Tryd.ntmps34
    go_wp2
    go_end0
    have ho : Only (fun k => k = g) w (w.setCell ⟨g, 1, none⟩ (.int .i64 n)) := (Only.refl (fun k => k = g) w).setCell (p := ⟨g, 1, none⟩) (.inl rfl) _
    exact ⟨rfl, ho, h.left n h0 (by omega) ho (h.dsk.put 1 (.int .i64 n))⟩
  · have e1 : max n (-1) = -1 := by omega
    rw [e1]
    go_enter Tryd.func34, Tryd.ntmps34
    go_wp2
    go_end0
    have ho : Only (fun k => k = g) w (w.setCell ⟨g, 1, none⟩ (.int .i64 (-1))) := (Only.refl (fun k => k = g) w).setCell (p := ⟨g, 1, none⟩) (.inl rfl) _
    exact ⟨rfl, ho, h.left (-1) (by omega) (by omega) ho (h.dsk.put 1 (.int .i64 (-1)))⟩
end

/-! ### Sector by sector -/
def rst (S : Sec) (G : Nat → List (List UInt8) → List (List UInt8)) (k : Nat) : Sec := S.mapIdx fun i vs => if i < k then G i vs else vs
section
variable (S : Sec) (G : Nat → List (List UInt8) → List (List UInt8))
theorem rst_length (k : Nat) : (rst S G k).length = S.length := by simp [rst]
theorem rst_zero : rst S G 0 = S := by
  refine List.ext_getElem (rst_length S G 0) fun i h1 h2 => ?_
  simp [rst]
theorem rst_at (k : Nat) (h : k < S.length) (h' : k < (rst S G k).length) : (rst S G k)[k] = S[k] := by simp [rst]
theorem rst_succ (k : Nat) (h : k < S.length) : rst S G (k + 1) = (rst S G k).set k (G k S[k]) := by
  refine List.ext_getElem (by simp [rst]) fun j h4 h5 => ?_
  rw [List.getElem_set]
  simp only [rst, List.getElem_mapIdx]
  by_cases e : k = j
  · subst e
    rw [if_pos rfl, if_pos (by omega)]
  · rw [if_neg e]
    by_cases h6 : j < k
    · rw [if_pos (by omega), if_pos h6]
    · rw [if_neg (by omega), if_neg h6]
theorem rst_all : rst S G S.length = S.mapIdx fun i vs => G i vs := by
  refine List.ext_getElem (by simp [rst]) fun j h4 h5 => ?_
  have : j < S.length := by simpa [rst] using h4
  simp [rst, this]
theorem rst_same (k : Nat) (h : k < S.length) (he : G k S[k] = S[k]) : rst S G (k + 1) = rst S G k := by
  rw [rst_succ S G k h, he]
  have := rst_at S G k h (by rw [rst_length]; exact h)
  rw [← this]
  exact List.set_getElem_self _
end

theorem RowO.last {w : World} {e : TypeId} {b o m c : Nat} {xs : List Value} (h : RowO w e 1 (some ⟨b, o, none⟩) m c xs) (hm : 0 < m) (v : Value) (hv : xs[m - 1]? = some v) : RowO w e 1 (some ⟨b, o + (m - 1), none⟩) 1 (c - (m - 1)) [v] := by
  refine ⟨rfl, ?_⟩
  rcases h.2 with ⟨h1, _⟩ | ⟨g, off, cs, h1, h2, h3, hb, h5, h6⟩
  · cases h1
  · injection h1 with h1
    injection h1 with e1 e2 _
    subst e1 e2
    refine .inr ⟨b, o + (m - 1), cs, rfl, by omega, by omega, hb, by omega, fun j u hu => ?_⟩
    match j, hu with
    | 0, hu =>
      simp at hu
      subst hu
      have := h6 (m - 1) v hv
      simpa using this

set_option maxRecDepth 100000 in
set_option maxHeartbeats 2000000 in
theorem rflush_any {w : World} {fp : Nat → Prop} {g : Nat} {S : Sec} {l : Int} {A : Option Addr} {c : Nat} {B : Nat → Option Addr} {C : Nat → Nat} (h : RLay w fp g S l A c B C) (hs : Small 1000000 S) (h0 : l ≠ 0) :
    Calls Tryd.prog 75 #[.pointer (some ⟨g, 0, none⟩)] w fun e w' => e = .returned (.int .i64 0) ∧ Ref w' (More fp w w') g (flushS S) (tick l) ∧ Only fp w w' := by
  obtain ⟨G, hG⟩ : ∃ G : Nat → List (List UInt8) → List (List UInt8), G = fun _ vs => [lastOf vs] := ⟨_, rfl⟩
  have hall : rst S G S.length = flushS S := by
    rw [rst_all, hG]
    refine List.ext_getElem (by simp [flushS]) fun j h4 h5 => ?_
    simp [flushS]
  replace hall := Lib.hid hall
  have c1 : w.cell? ⟨g, 1, none⟩ = some (.int .i64 l) := h.dsk.cell 1
  have f1 : w.frozen? ⟨g, 1, none⟩ = false := h.dsk.free 1
  have hlo := h.lo
  have hhi := h.hi
  have hn := h.n
  obtain ⟨t, ht⟩ : ∃ t, t = tick l := ⟨_, rfl⟩
  rw [← ht]
  by_cases hp : 0 < l
  · have hl0 : (l == 0) = false := by simpa using h0
    have hL1 : ∃ w1, w1 = w.setCell ⟨g, 1, none⟩ (.int .i64 (l - 1)) ∧ RLay w1 fp g S t A c B C ∧ Only (fun k => k = g) w w1 := by
      have ho : Only (fun k => k = g) w (w.setCell ⟨g, 1, none⟩ (.int .i64 (l - 1))) := (Only.refl (fun k => k = g) w).setCell (p := ⟨g, 1, none⟩) (.inl rfl) _
      have e1 : t = l - 1 := by rw [ht]; unfold tick; rw [if_pos hp]
      rw [e1]
      exact ⟨_, rfl, h.left (l - 1) (by omega) (by omega) ho (h.dsk.put 1 (.int .i64 (l - 1))), ho⟩
    obtain ⟨w1, hw1, hL1, ho1⟩ := hL1
    replace hw1 := Lib.hid hw1.symm
    go_enter Tryd.func75, Tryd.ntmps75
    go_wp2_with fail
    rw [hw1.out]
    clear c1 f1
    go_loopw [3] (fun i wr => ∃ (k : Nat) (B1 : Nat → Option Addr) (C1 : Nat → Nat), k ≤ S.length ∧ i = .int .i64 (k : Int) ∧ RLay wr (More fp w wr) g (rst S G k) t A c B1 C1 ∧ Only fp w wr) (fun i _ => S.length - (intOf i).toNat)
    case atStart => exact ⟨0, B, C, Nat.zero_le _, rfl, by rw [rst_zero]; exact hL1.mono (fun k hk _ => .inl hk), ho1.mono (fun k _ hk => by subst hk; exact h.fg)⟩
    case round =>
      obtain ⟨k, B1, C1, hk, rfl, hL, honly⟩ := hrel
      clear hL1 ho1
      have hlenT : (rst S G k).length = S.length := rst_length S G k
      have hdsk0 : wr.cell? ⟨g, 0, none⟩ = some (.slice A S.length c) := by
        have := hL.dsk.cell 0
        rw [hlenT] at this
        exact this
      by_cases hlt : k < S.length
      · have hiT : k < (rst S G k).length := by rw [hlenT]; exact hlt
        have hat := rst_at S G k hlt hiT
        have hrow := hL.row
        rw [hlenT] at hrow
        obtain ⟨b, o, rfl, hcell, hfr⟩ := hrow.there1 hlt
        have hck := hcell _ (rvals_get (rst S G k) B1 C1 hiT)
        rw [hat] at hck
        have hcel := hL.cel k hiT
        rw [hat] at hcel
        have hwf := h.wf S[k] (List.getElem_mem hlt)
        have hpos := List.length_pos_iff.2 hwf.1
        have hsm := hs S[k] (List.getElem_mem hlt)
        obtain ⟨b', o', hB, _, _⟩ := hcel.there1 (i := 0) hpos
        have hlast : (S[k].map strV)[S[k].length - 1]? = some (strV (lastOf S[k])) := by
          have := getLast_lastOf hwf.1
          rw [List.getLast?_eq_getElem?] at this
          rw [List.getElem?_map, this]; rfl
        rw [hB] at hcel hck
        have hcl := hcel.last hpos _ hlast
        have hcap := hcel.le
        have hput := hL.put hiT [lastOf S[k]] ⟨by simp, fun v hv => by simp at hv; subst hv; exact hwf.2 _ (lastOf_mem hwf.1)⟩ (some ⟨b', o' + (S[k].length - 1), none⟩) (C1 k - (S[k].length - 1)) (w1 := wr) (Only.refl _ _) hcl (fun k' hk' => .inl (by rw [hB]; rw [inA_some] at hk' ⊢; exact hk')) rfl
        have hsuc := rst_succ S G k hlt
        have hGk : G k S[k] = [lastOf S[k]] := by rw [hG]
        rw [hGk] at hsuc
        rw [← hsuc] at hput
        replace hput := Lib.hid hput
        have hbA : More fp w wr b := hL.fA b ((inA_some _ _ _ _).2 rfl)
        clear hsuc hGk hat hlast hcl
        generalize S[k].length = m at hpos hsm hck hcel hcap hput
        obtain ⟨m1, rfl⟩ : ∃ m1, m = m1 + 1 := ⟨m - 1, by omega⟩
        have fin : ∃ (k' : Nat) (B2 : Nat → Option Addr) (C2 : Nat → Nat), k' ≤ S.length ∧ Value.int .i64 ((k : Int) + 1) = .int .i64 (k' : Int) ∧ RLay (wr.setCell ⟨b, o + k, none⟩ (.slice (some ⟨b', o' + m1, none⟩) 1 (C1 k - m1))).drew (More fp w (wr.setCell ⟨b, o + k, none⟩ (.slice (some ⟨b', o' + m1, none⟩) 1 (C1 k - m1))).drew) g (rst S G k') t (some ⟨b, o, none⟩) c B2 C2 ∧ Only fp w (wr.setCell ⟨b, o + k, none⟩ (.slice (some ⟨b', o' + m1, none⟩) 1 (C1 k - m1))).drew := by
          have h9 := hput.out
          rw [show m1 + 1 - 1 = m1 by omega] at h9
          have ho9 : Only fp w (wr.setCell ⟨b, o + k, none⟩ (.slice (some ⟨b', o' + m1, none⟩) 1 (C1 k - m1))) := honly.setCell (p := ⟨b, o + k, none⟩) (by
            rcases hbA with h1 | h1
            · exact .inl h1
            · exact .inr h1.1) _
          refine ⟨k + 1, _, _, by omega, by go_num, h9.drew.mono (fun k' hk' _ => ?_), ho9.drew⟩
          have z9 := ho9.size
          have zw : (wr.setCell ⟨b, o + k, none⟩ (.slice (some ⟨b', o' + m1, none⟩) 1 (C1 k - m1))).drew.heap.size = wr.heap.size := by
            show (wr.setCell _ _).heap.size = _
            simp [World.setCell]
          rcases hk' with (hk' | hk') | hk'
          · exact .inl hk'
          · exact .inr (by rw [zw]; exact hk')
          · omega
        replace fin := Lib.hid fin
        clear hput hbA
        have hki : (k : Int) < (S.length : Int) := by omega
        have hcap2 : ¬ C1 k = m1 := by omega
        have hcap3 : (m1 : Int) + 1 ≤ (C1 k : Int) := by omega
        clear hlenT
        go_wp2_with fail
        go_region
        go_wp2
        go_roundw
        case rel => exact fin.out
        case measure => simp [intOf]; omega
      · obtain rfl : k = S.length := by omega
        go_wp2
        go_ret
        rw [hall.out] at hL
        exact ⟨rfl, ⟨A, c, B1, C1, hL⟩, honly⟩
  · have hl0 : (l == 0) = false := by simpa using h0
    have hL1 : RLay w fp g S t A c B C := by
      have e1 : t = l := by rw [ht]; unfold tick; rw [if_neg hp]
      rw [e1]; exact h
    go_enter Tryd.func75, Tryd.ntmps75
    go_wp2_with fail
    have ho1 : Only (fun k => k = g) w w := Only.refl _ _
    clear c1 f1
    go_loopw [3] (fun i wr => ∃ (k : Nat) (B1 : Nat → Option Addr) (C1 : Nat → Nat), k ≤ S.length ∧ i = .int .i64 (k : Int) ∧ RLay wr (More fp w wr) g (rst S G k) t A c B1 C1 ∧ Only fp w wr) (fun i _ => S.length - (intOf i).toNat)
    case atStart => exact ⟨0, B, C, Nat.zero_le _, rfl, by rw [rst_zero]; exact hL1.mono (fun k hk _ => .inl hk), ho1.mono (fun k _ hk => by subst hk; exact h.fg)⟩
    case round =>
      obtain ⟨k, B1, C1, hk, rfl, hL, honly⟩ := hrel
      clear hL1 ho1
      have hlenT : (rst S G k).length = S.length := rst_length S G k
      have hdsk0 : wr.cell? ⟨g, 0, none⟩ = some (.slice A S.length c) := by
        have := hL.dsk.cell 0
        rw [hlenT] at this
        exact this
      by_cases hlt : k < S.length
      · have hiT : k < (rst S G k).length := by rw [hlenT]; exact hlt
        have hat := rst_at S G k hlt hiT
        have hrow := hL.row
        rw [hlenT] at hrow
        obtain ⟨b, o, rfl, hcell, hfr⟩ := hrow.there1 hlt
        have hck := hcell _ (rvals_get (rst S G k) B1 C1 hiT)
        rw [hat] at hck
        have hcel := hL.cel k hiT
        rw [hat] at hcel
        have hwf := h.wf S[k] (List.getElem_mem hlt)
        have hpos := List.length_pos_iff.2 hwf.1
        have hsm := hs S[k] (List.getElem_mem hlt)
        obtain ⟨b', o', hB, _, _⟩ := hcel.there1 (i := 0) hpos
        have hlast : (S[k].map strV)[S[k].length - 1]? = some (strV (lastOf S[k])) := by
          have := getLast_lastOf hwf.1
          rw [List.getLast?_eq_getElem?] at this
          rw [List.getElem?_map, this]; rfl
        rw [hB] at hcel hck
        have hcl := hcel.last hpos _ hlast
        have hcap := hcel.le
        have hput := hL.put hiT [lastOf S[k]] ⟨by simp, fun v hv => by simp at hv; subst hv; exact hwf.2 _ (lastOf_mem hwf.1)⟩ (some ⟨b', o' + (S[k].length - 1), none⟩) (C1 k - (S[k].length - 1)) (w1 := wr) (Only.refl _ _) hcl (fun k' hk' => .inl (by rw [hB]; rw [inA_some] at hk' ⊢; exact hk')) rfl
        have hsuc := rst_succ S G k hlt
        have hGk : G k S[k] = [lastOf S[k]] := by rw [hG]
        rw [hGk] at hsuc
        rw [← hsuc] at hput
        replace hput := Lib.hid hput
        have hbA : More fp w wr b := hL.fA b ((inA_some _ _ _ _).2 rfl)
        clear hsuc hGk hat hlast hcl
        generalize S[k].length = m at hpos hsm hck hcel hcap hput
        obtain ⟨m1, rfl⟩ : ∃ m1, m = m1 + 1 := ⟨m - 1, by omega⟩
        have fin : ∃ (k' : Nat) (B2 : Nat → Option Addr) (C2 : Nat → Nat), k' ≤ S.length ∧ Value.int .i64 ((k : Int) + 1) = .int .i64 (k' : Int) ∧ RLay (wr.setCell ⟨b, o + k, none⟩ (.slice (some ⟨b', o' + m1, none⟩) 1 (C1 k - m1))).drew (More fp w (wr.setCell ⟨b, o + k, none⟩ (.slice (some ⟨b', o' + m1, none⟩) 1 (C1 k - m1))).drew) g (rst S G k') t (some ⟨b, o, none⟩) c B2 C2 ∧ Only fp w (wr.setCell ⟨b, o + k, none⟩ (.slice (some ⟨b', o' + m1, none⟩) 1 (C1 k - m1))).drew := by
          have h9 := hput.out
          rw [show m1 + 1 - 1 = m1 by omega] at h9
          have ho9 : Only fp w (wr.setCell ⟨b, o + k, none⟩ (.slice (some ⟨b', o' + m1, none⟩) 1 (C1 k - m1))) := honly.setCell (p := ⟨b, o + k, none⟩) (by
            rcases hbA with h1 | h1
            · exact .inl h1
            · exact .inr h1.1) _
          refine ⟨k + 1, _, _, by omega, by go_num, h9.drew.mono (fun k' hk' _ => ?_), ho9.drew⟩
          have z9 := ho9.size
          have zw : (wr.setCell ⟨b, o + k, none⟩ (.slice (some ⟨b', o' + m1, none⟩) 1 (C1 k - m1))).drew.heap.size = wr.heap.size := by
            show (wr.setCell _ _).heap.size = _
            simp [World.setCell]
          rcases hk' with (hk' | hk') | hk'
          · exact .inl hk'
          · exact .inr (by rw [zw]; exact hk')
          · omega
        replace fin := Lib.hid fin
        clear hput hbA
        have hki : (k : Int) < (S.length : Int) := by omega
        have hcap2 : ¬ C1 k = m1 := by omega
        have hcap3 : (m1 : Int) + 1 ≤ (C1 k : Int) := by omega
        clear hlenT
        go_wp2_with fail
        go_region
        go_wp2
        go_roundw
        case rel => exact fin.out
        case measure => simp [intOf]; omega
      · obtain rfl : k = S.length := by omega
        go_wp2
        go_ret
        rw [hall.out] at hL
        exact ⟨rfl, ⟨A, c, B1, C1, hL⟩, honly⟩
end Go.Proofs.YtlpjeopeboemmaaDoor
