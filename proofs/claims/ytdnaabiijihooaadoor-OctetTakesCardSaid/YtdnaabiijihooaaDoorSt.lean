/-
  Both Readers by one state: what is left, and whether it has erred. No statement of the seat is proved here.
-/
import Derived.Test.YtdnaabiijihooaaDoorRRNum
import Derived.Test.YtdnaabiijihooaaDoorRBytes
namespace Go.Proofs.YtdnaabiijihooaaDoor
open Go Go.RowKit

theorem scan_bounds : ∀ (bs : List UInt8) (i n m k : Nat), scan i n bs = some (m, k) → i < k ∧ k ≤ i + bs.length ∧ m ≤ 4611686018427387904
  | [], i, n, m, k, h => by simp [scan] at h
  | c :: r, i, n, m, k, h => by
    rw [scan] at h
    split at h
    · cases h
    · split at h
      · have := scan_bounds r _ _ m k h
        simp only [List.length_cons]
        omega
      · split at h
        · cases h
        · rename_i h3
          injection h with h
          injection h with h1 h2
          simp only [List.length_cons]
          omega
theorem num_bounds {bs : List UInt8} {n k : Nat} (h : num? bs = some (n, k)) : 0 < k ∧ k ≤ bs.length ∧ n ≤ 4611686018427387904 := by
  have := scan_bounds bs 0 0 n k h
  omega
theorem resN_le (bs : List UInt8) : resN (num? bs) ≤ 4611686018427387904 := by
  rcases h : num? bs with _ | ⟨n, k⟩
  · simp [resN]
  · exact (num_bounds h).2.2
theorem restOf_le (bs : List UInt8) (R : Option (Nat × Nat)) : (restOf bs R).length ≤ bs.length := by
  rcases R with _ | ⟨n, k⟩
  · simp [restOf]
  · simp [restOf]

def stNum (bs : List UInt8) (bad : Bool) : Nat × List UInt8 × Bool := if bad = true then (0, [], true) else (resN (num? bs), restOf bs (num? bs), badOf (num? bs))
def stRaw (bs : List UInt8) (bad : Bool) (v : Int) : List UInt8 × List UInt8 × Bool := if bad = true ∨ v < 0 ∨ (bs.length : Int) < v then ([], [], true) else (bs.take v.toNat, bs.drop v.toNat, false)
def stBytes (bs : List UInt8) (bad : Bool) : List UInt8 × List UInt8 × Bool := stRaw (stNum bs bad).2.1 (stNum bs bad).2.2 ((stNum bs bad).1 : Int)
theorem stNum_len (bs : List UInt8) (bad : Bool) : (stNum bs bad).2.1.length ≤ bs.length := by
  unfold stNum; split
  · simp
  · exact restOf_le _ _
theorem stNum_le (bs : List UInt8) (bad : Bool) : (stNum bs bad).1 ≤ 4611686018427387904 := by
  unfold stNum; split
  · simp
  · exact resN_le _
theorem stRaw_len (bs : List UInt8) (bad : Bool) (v : Int) : (stRaw bs bad v).2.1.length ≤ bs.length ∧ (stRaw bs bad v).1.length ≤ bs.length := by
  unfold stRaw; split
  · simp
  · simp; omega
theorem stBytes_len (bs : List UInt8) (bad : Bool) : (stBytes bs bad).2.1.length ≤ bs.length ∧ (stBytes bs bad).1.length ≤ bs.length := by
  have h1 := stNum_len bs bad
  have h2 := stRaw_len (stNum bs bad).2.1 (stNum bs bad).2.2 ((stNum bs bad).1 : Int)
  unfold stBytes
  omega

section
variable (fp : Nat → Prop) (g : Nat) (bs : List UInt8) (bad : Bool) (w : World)
theorem rnum_st (h : Rdr w fp g bs bad) (hb : bs.length ≤ 1099511627776) :
    Calls Tryd.prog 17 #[.pointer (some ⟨g, 0, none⟩)] w fun e w' => e = .returned (.int .i64 ((stNum bs bad).1 : Int)) ∧ Rdr w' fp g (stNum bs bad).2.1 (stNum bs bad).2.2 ∧ Only (fun k => k = g) w w' := by
  cases bad
  · rcases hR : num? bs with _ | ⟨n, k⟩
    · have e : stNum bs false = (0, [], true) := by simp [stNum, hR, resN, restOf, badOf]
      rw [e]
      exact rnum_none fp g bs w h hR hb
    · obtain ⟨h1, h2, h3⟩ := num_bounds hR
      have e : stNum bs false = (n, bs.drop k, false) := by simp [stNum, hR, resN, restOf, badOf]
      rw [e]
      exact rnum_ok fp g bs n k w h hR h1 h2 hb
  · have e : stNum bs true = (0, [], true) := rfl
    rw [e]
    have hbs : bs = [] := h.2.1 rfl
    subst hbs
    refine (rnum_dead fp g [] w h).mono ?_
    rintro e w' ⟨rfl, rfl⟩
    exact ⟨rfl, h, Only.refl _ _⟩
theorem rraw_st (v : Int) (hv : isInt v) (h : Rdr w fp g bs bad) (hb : bs.length ≤ 1099511627776) :
    Calls Tryd.prog 29 #[.pointer (some ⟨g, 0, none⟩), .int .i64 v] w fun e w' => ∃ A' c', e = .returned (.slice A' (stRaw bs bad v).1.length c') ∧ New w w' A' c' (stRaw bs bad v).1 ∧ Rdr w' fp g (stRaw bs bad v).2.1 (stRaw bs bad v).2.2 ∧ Only (fun k => k = g) w w' := by
  by_cases hc : bad = true ∨ v < 0 ∨ (bs.length : Int) < v
  · have e : stRaw bs bad v = ([], [], true) := by unfold stRaw; rw [if_pos hc]
    rw [e]
    cases bad
    · refine (rraw_none fp g bs v w h hv (by rcases hc with hc | hc; cases hc; exact hc) hb).mono ?_
      rintro e w' ⟨rfl, h1, h2⟩
      exact ⟨none, 0, rfl, Own.none_ _ _ _, h1, h2⟩
    · have hbs : bs = [] := h.2.1 rfl
      subst hbs
      refine (rraw_dead fp g [] v w h).mono ?_
      rintro e w' ⟨rfl, rfl⟩
      exact ⟨none, 0, rfl, Own.none_ _ _ _, h, Only.refl _ _⟩
  · have e : stRaw bs bad v = (bs.take v.toNat, bs.drop v.toNat, false) := by unfold stRaw; rw [if_neg hc]
    have hbad : bad = false := by cases bad; rfl; exact absurd (.inl rfl) hc
    subst hbad
    rw [e]
    obtain ⟨k, rfl⟩ := Int.eq_ofNat_of_zero_le (show 0 ≤ v by omega)
    have hk : k ≤ bs.length := by omega
    refine (rraw_ok fp g bs k w h hk hb).mono ?_
    rintro e w' ⟨A', c', rfl, h1, h2, h3⟩
    refine ⟨A', c', ?_, h1, h2, h3⟩
    rw [show (bs.take (k : Int).toNat).length = k by rw [Int.toNat_natCast, List.length_take]; omega]
theorem rbytes_st (h : Rdr w fp g bs bad) (hb : bs.length ≤ 1099511627776) :
    Calls Tryd.prog 27 #[.pointer (some ⟨g, 0, none⟩)] w fun e w' => ∃ A' c', e = .returned (.slice A' (stBytes bs bad).1.length c') ∧ New w w' A' c' (stBytes bs bad).1 ∧ Rdr w' fp g (stBytes bs bad).2.1 (stBytes bs bad).2.2 ∧ Only (fun k => k = g) w w' := by
  have hl := stNum_len bs bad
  have hn := stNum_le bs bad
  go_enter Tryd.func27, Tryd.ntmps27
  go_wp2_with fail
  refine (rnum_st fp g bs bad _ h hb).mono ?_
  rintro e w1 ⟨rfl, h1, o1⟩
  go_wp2_with fail
  refine (rraw_st fp g _ _ _ _ ⟨by omega, by omega⟩ h1 (by omega)).mono ?_
  rintro e w2 ⟨A', c', rfl, hnew, h2, o2⟩
  go_wp2
  go_ret
  exact ⟨A', c', rfl, hnew.back o1.size, h2, o1.trans o2 (fun _ _ h => h)⟩

theorem refnum_st (h : RRd w fp g bs bad) (hb : bs.length ≤ 1099511627776) :
    Calls Tryd.prog 30 #[.pointer (some ⟨g, 0, none⟩)] w fun e w' => e = .returned (.int .i64 ((stNum bs bad).1 : Int)) ∧ RRd w' fp g (stNum bs bad).2.1 (stNum bs bad).2.2 ∧ Only (fun k => k = g) w w' := by
  cases bad
  · have e : stNum bs false = (resN (num? bs), restOf bs (num? bs), badOf (num? bs)) := rfl
    rw [e]
    exact refrnum fp g bs _ w h rfl hb
  · have e : stNum bs true = (0, [], true) := rfl
    rw [e]
    have hbs : bs = [] := h.2.1 rfl
    subst hbs
    exact refrnum_dead fp g w h
theorem refraw_st (v : Int) (h : RRd w fp g bs bad) (hb : bs.length ≤ 1099511627776) :
    Calls Tryd.prog 32 #[.pointer (some ⟨g, 0, none⟩), .int .i64 v] w fun e w' => ∃ A' c', e = .returned (.slice A' (stRaw bs bad v).1.length c') ∧ New w w' A' c' (stRaw bs bad v).1 ∧ RRd w' fp g (stRaw bs bad v).2.1 (stRaw bs bad v).2.2 ∧ Only (fun k => k = g) w w' := by
  by_cases hc : bad = true ∨ v < 0 ∨ (bs.length : Int) < v
  · have e : stRaw bs bad v = ([], [], true) := by unfold stRaw; rw [if_pos hc]
    rw [e]
    cases bad
    · refine (refraw_none fp g bs v w h (by rcases hc with hc | hc; cases hc; exact hc)).mono ?_
      rintro e w' ⟨rfl, h1, h2⟩
      exact ⟨none, 0, rfl, Own.none_ _ _ _, h1, h2⟩
    · have hbs : bs = [] := h.2.1 rfl
      subst hbs
      refine (refraw_dead fp g v w h).mono ?_
      rintro e w' ⟨rfl, h1, h2⟩
      exact ⟨none, 0, rfl, Own.none_ _ _ _, h1, h2⟩
  · have e : stRaw bs bad v = (bs.take v.toNat, bs.drop v.toNat, false) := by unfold stRaw; rw [if_neg hc]
    have hbad : bad = false := by cases bad; rfl; exact absurd (.inl rfl) hc
    subst hbad
    rw [e]
    obtain ⟨k, rfl⟩ := Int.eq_ofNat_of_zero_le (show 0 ≤ v by omega)
    have hk : k ≤ bs.length := by omega
    refine (refraw_ok fp g bs k w h hk hb).mono ?_
    rintro e w' ⟨A', c', rfl, h1, h2, h3⟩
    refine ⟨A', c', ?_, h1, h2, h3⟩
    rw [show (bs.take (k : Int).toNat).length = k by rw [Int.toNat_natCast, List.length_take]; omega]
theorem refbytes_st (h : RRd w fp g bs bad) (hb : bs.length ≤ 1099511627776) :
    Calls Tryd.prog 31 #[.pointer (some ⟨g, 0, none⟩)] w fun e w' => ∃ A' c', e = .returned (.slice A' (stBytes bs bad).1.length c') ∧ New w w' A' c' (stBytes bs bad).1 ∧ RRd w' fp g (stBytes bs bad).2.1 (stBytes bs bad).2.2 ∧ Only (fun k => k = g) w w' := by
  have hl := stNum_len bs bad
  have hn := stNum_le bs bad
  obtain ⟨b2, hb2⟩ : ∃ b2, (stNum bs bad).2.2 = b2 := ⟨_, rfl⟩
  cases b2
  · have Hb2 := Lib.hid hb2
    clear hb2
    go_enter Tryd.func31, Tryd.ntmps31
    go_wp2_with fail
    refine (refnum_st fp g bs bad _ h hb).mono ?_
    rintro e w1 ⟨rfl, h1, o1⟩
    have hc1 : w1.cell? ⟨g, 1, none⟩ = some (.bool false) := by
      obtain ⟨_, _, _, _, hb, _⟩ := h1
      rw [Hb2.out] at hb
      exact hb.cell 1
    go_wp2_with fail
    refine (refraw_st fp g _ _ _ _ h1 (by omega)).mono ?_
    rintro e w2 ⟨A', c', rfl, hnew, h2, o2⟩
    go_wp2
    go_ret
    exact ⟨A', c', rfl, hnew.back o1.size, h2, o1.trans o2 (fun _ _ h => h)⟩
  · have e : stBytes bs bad = ([], [], true) := by unfold stBytes stRaw; rw [if_pos (.inl hb2)]
    rw [e]
    have Hb2 := Lib.hid hb2
    clear hb2
    go_enter Tryd.func31, Tryd.ntmps31
    go_wp2_with fail
    refine (refnum_st fp g bs bad _ h hb).mono ?_
    rintro e w1 ⟨rfl, h1, o1⟩
    rw [Hb2.out] at h1
    have hc1 : w1.cell? ⟨g, 1, none⟩ = some (.bool true) := by obtain ⟨_, _, _, _, hb, _⟩ := h1; exact hb.cell 1
    have hnil : (stNum bs bad).2.1 = [] := h1.2.1 rfl
    rw [hnil] at h1
    clear hnil
    go_wp2
    go_ret
    exact ⟨none, 0, rfl, Own.none_ _ _ _, h1, o1⟩
end
end Go.Proofs.YtdnaabiijihooaaDoor
