/-
  The contracts of super's numberOf and the reference's number. No statement of the seat is proved here.
-/
import Derived.Test.YtlpjeopeboemmaaDoorLowG
import Derived.Test.YtlpjeopeboemmaaDoorSupM
import Derived.Test.YtlpjeopeboemmaaDoorRdr0
import Derived.Test.YtlpjeopeboemmaaDoorSteps
import Derived.Deep.RegionWith
import Derived.Deep.RegionHeld3
import Derived.BigRegion
namespace Go.Proofs.YtlpjeopeboemmaaDoor
open Go Go.RowKit

theorem u32_or_add (a b k : Nat) (ha : a < 2 ^ (8 * k)) (hb : b < 256) (hk : k < 4) : bits .or .u32 (a : Int) ((b : Int) * 2 ^ (8 * k)) = ((a + b * 2 ^ (8 * k) : Nat) : Int) := by
  have h3 : (2 : Nat) ^ (8 * k) ≤ 2 ^ 24 := Nat.pow_le_pow_right (by omega) (by omega)
  have h3' : (2 : Nat) ^ 24 = 16777216 := rfl
  have hm : b * 2 ^ (8 * k) ≤ 255 * 2 ^ (8 * k) := Nat.mul_le_mul_right _ (by omega)
  have e : (b : Int) * 2 ^ (8 * k) = ((b * 2 ^ (8 * k) : Nat) : Int) := by rw [Int.natCast_mul, Int.natCast_pow]; rfl
  have hor : (a ||| b * 2 ^ (8 * k)) = a + b * 2 ^ (8 * k) := by
    rw [Nat.or_comm, Nat.add_comm, Nat.mul_comm]
    exact (Nat.two_pow_add_eq_or_of_lt ha _).symm
  rw [e]
  show IntKind.u32.wrap ((BitVec.ofInt 32 (a : Int) ||| BitVec.ofInt 32 ((b * 2 ^ (8 * k) : Nat) : Int)).toNat : Int) = _
  have o : ∀ a : Nat, a < 4294967296 → (BitVec.ofInt 32 (a : Int)).toNat = a := fun a ha => by simp [BitVec.toNat_ofInt]; omega
  rw [BitVec.toNat_or, o a (by omega), o _ (by omega), hor, IntKind.wrap_u32]
  omega
theorem four_or (b0 b1 b2 b3 : UInt8) : bits .or .u32 (bits .or .u32 (bits .or .u32 (b0.toNat : Int) ((b1.toNat : Int) * 256)) ((b2.toNat : Int) * 65536)) ((b3.toNat : Int) * 16777216) = (ofLow [b0, b1, b2, b3] : Int) := by
  have l0 := b0.toNat_lt
  have l1 := b1.toNat_lt
  have l2 := b2.toNat_lt
  have l3 := b3.toNat_lt
  have h1 := u32_or_add b0.toNat b1.toNat 1 (by omega) l1 (by omega)
  have h2 := u32_or_add (b0.toNat + b1.toNat * 2 ^ (8 * 1)) b2.toNat 2 (by omega) l2 (by omega)
  have h3 := u32_or_add (b0.toNat + b1.toNat * 2 ^ (8 * 1) + b2.toNat * 2 ^ (8 * 2)) b3.toNat 3 (by omega) l3 (by omega)
  rw [show ((b1.toNat : Int) * 256) = (b1.toNat : Int) * 2 ^ (8 * 1) from rfl, h1, show ((b2.toNat : Int) * 65536) = (b2.toNat : Int) * 2 ^ (8 * 2) from rfl, h2, show ((b3.toNat : Int) * 16777216) = (b3.toNat : Int) * 2 ^ (8 * 3) from rfl, h3]
  simp only [ofLow]
  omega

theorem fromfour_any (A : Option Addr) (n c : Nat) (b0 b1 b2 b3 : UInt8) (w : World) (hn : n = 4) (hr : Rd w A ([b0, b1, b2, b3].map bv)) :
    Calls Tryd.prog 78 #[.slice A n c] w fun e w' => e = .returned (.int .u32 (ofLow [b0, b1, b2, b3] : Int)) ∧ ∃ m, w' = w.drewN m := by
  subst hn
  obtain ⟨ad, rfl, h0⟩ := hr 0 _ rfl
  obtain ⟨_, e, h1⟩ := hr 1 _ rfl
  injection e with e; subst e
  obtain ⟨_, e, h2⟩ := hr 2 _ rfl
  injection e with e; subst e
  obtain ⟨_, e, h3⟩ := hr 3 _ rfl
  injection e with e; subst e
  simp only [bv] at h0 h1 h2 h3
  have h0' : w.cell? ad = some (.int .u8 (b0.toNat : Int)) := by
    have e : ad.add 0 = ad := by simp [Addr.add]
    rw [e] at h0; exact h0
  have k1 : w.cell? ⟨ad.block, ad.off + 1, none⟩ = some (.int .u8 (b1.toNat : Int)) := h1
  have k2 : w.cell? ⟨ad.block, ad.off + 2, none⟩ = some (.int .u8 (b2.toNat : Int)) := h2
  have k3 : w.cell? ⟨ad.block, ad.off + 3, none⟩ = some (.int .u8 (b3.toNat : Int)) := h3
  have l0 : (b0.toNat : Int) ≤ 255 := by have := b0.toNat_lt; omega
  have l1 : (b1.toNat : Int) ≤ 255 := by have := b1.toNat_lt; omega
  have l2 : (b2.toNat : Int) ≤ 255 := by have := b2.toNat_lt; omega
  have l3 : (b3.toNat : Int) ≤ 255 := by have := b3.toNat_lt; omega
  go_enter Tryd.func78, Tryd.ntmps78
  go_wp2
  go_region
  go_wp2
  go_ret
  refine ⟨?_, _, rfl⟩
  show Ending.returned (Value.int IntKind.u32 _) = _
  rw [four_or]
theorem drew_one (w : World) : w.drew = w.drewN 1 := rfl

/-- from a place on -/
theorem rd_from {w W : World} {ad : Addr} {xs : List Value} (k : Nat) (hk : k ≠ 0) (h : Rd w (some ad) xs) (hb : Below w.heap.size w W) : Rd W (some ⟨ad.block, ad.off + k, none⟩) (xs.drop k) := by
  have h1 := (h.ext hb).add k
  have e : (some ad).map (fun x => x.add k) = some ⟨ad.block, ad.off + k, none⟩ := by simp [Addr.add, hk]
  rw [e] at h1
  exact h1

set_option maxHeartbeats 2000000 in
theorem numberof_any (A : Option Addr) (n c : Nat) (row : List UInt8) (w : World) (ht : Tab w) (hn : n = 64) (hl : row.length = 64) (hc : 64 ≤ c) (hr : Rd w A (row.map bv)) :
    Calls Tryd.prog 51 #[.slice A n c] w fun e w' => e = .returned (.int .i64 (numOf row : Int)) ∧ Below w.heap.size w w' := by
  subst hn
  obtain ⟨ad, rfl, -⟩ := hr.at_ (k := 0) (by simp; omega)
  obtain ⟨c, rfl⟩ : ∃ d, c = d + 64 := ⟨c - 64, by omega⟩
  have hfl : ∀ (W : World) (c' : Nat), Below w.heap.size w W → Calls Tryd.prog 71 #[.slice (some ⟨ad.block, ad.off + 60, none⟩) 4 c'] W fun e w' => e = .returned (.int .u64 (ofLow (row.drop 60) : Int)) ∧ W = w' := fun W c' hb =>
    fromlow_any _ 4 c' (row.drop 60) W (by simp; omega) (by rw [List.map_drop]; exact rd_from 60 (by omega) hr hb) (by simp; omega)
  have hfl2 : ∀ (W : World) (c' : Nat), Below w.heap.size w W → Calls Tryd.prog 71 #[.slice (some ad) 8 c'] W fun e w' => e = .returned (.int .u64 (ofLow (row.take 8) : Int)) ∧ W = w' := fun W c' hb =>
    fromlow_any _ 8 c' (row.take 8) W (by simp; omega) (by rw [List.map_take]; exact (hr.ext hb).take 8) (by simp; omega)
  have hs : ∀ (W : World), (∃ q, W = (w.alloc (.cells #[.slice (some ad) 60 (c + 64)] 22)).drewN q) → Calls Tryd.prog 54 #[.slice (some ⟨w.heap.size, 0, none⟩) 1 1] W fun e w' => e = .returned (.int .u32 (sumOf (row.take 60) : Int)) ∧ W = w' := by
    rintro W ⟨q, rfl⟩
    have hrow : RowsF (fun _ => False) (w.alloc (.cells #[.slice (some ad) (row.take 60).length (c + 64)] 22)) (some ⟨w.heap.size, 0, none⟩) [row.take 60] :=
      RowsF.one (RdF.of (by rw [List.map_take]; exact hr.take 60)) (by simp; omega) _ rfl id
    rw [show (row.take 60).length = 60 by simp; omega] at hrow
    exact sum_any _ 1 1 [row.take 60] _ _ ((ht.alloc _).drewN q) rfl (by simp) hrow (by simp; omega) (by simp)
  have Hfl := Lib.hid hfl
  have Hfl2 := Lib.hid hfl2
  have Hs := Lib.hid hs
  have hnum : ∀ a b : Nat, ofLow (row.drop 60) = a → sumOf (row.take 60) = b → ∀ m : Nat, ofLow (row.take 8) = m → numOf row = if a = b ∧ m ≤ 1125899906842624 then m else 0 := by
    intro a b ha hb m hm
    subst ha hb hm
    rfl
  have lb := sumOf_lt (row.take 60)
  have la := ofLow_lt_of (l := row.drop 60) (k := 4) (by simp; omega)
  have lm := ofLow_lt_of (l := row.take 8) (k := 8) (by simp; omega)
  have Hnum := Lib.hid hnum
  clear hfl hfl2 hs hnum
  generalize ha : ofLow (row.drop 60) = a at *
  generalize hb : sumOf (row.take 60) = b at *
  generalize hm : ofLow (row.take 8) = m at *
  have Hn := Lib.hid (Hnum.out a b rfl rfl m rfl)
  clear ha hb hm Hnum
  have lm' : (m : Int) ≤ 18446744073709551615 := by omega
  have hwr : IntKind.u64.wrap (b : Int) = (b : Int) := by rw [IntKind.wrap_u64]; omega
  clear hl hc hr ht lb la lm
  have h60 : (60 : Int) ≤ (c : Int) + 64 := by omega
  have h8 : (8 : Int) ≤ (c : Int) + 64 := by omega
  go_enter Tryd.func51, Tryd.ntmps51
  go_wp2
  go_region_held3 (fun _ => True) (trivial) (first
      | (go_at_call 71; ((with_reducible refine (Hfl.out _ _ ?_).mono ?_)); (first | exact Below.drew' (Below.refl _ _) | exact Below.drew' ((Below.refl _ _).alloc (Nat.le_refl _) _)); rintro e w9 ⟨rfl, rfl⟩)
      | (go_at_call 54; ((with_reducible refine (Hs.out _ ?_).mono ?_)); (first | exact ⟨0, rfl⟩ | exact ⟨1, rfl⟩); rintro e w9 ⟨rfl, rfl⟩))
  all_goals
    clear hwr
    by_cases hab : a = b
    · subst hab
      have hbeq : ((a : Int) == (a : Int)) = true := by simp
      by_cases hm : m ≤ 1125899906842624
      · have hv : numOf row = m := by rw [Hn.out, if_pos ⟨rfl, hm⟩]
        have Hv := Lib.hid hv
        have hmi : (m : Int) ≤ 1125899906842624 := by omega
        clear hv
        go_wp2_with (go_at_call 71; refine (Hfl2.out _ _ ?_).mono ?_; (first | exact (Below.refl _ _).alloc (Nat.le_refl _) _ | exact Below.drew' ((Below.refl _ _).alloc (Nat.le_refl _) _)); rintro e w9 ⟨rfl, rfl⟩)
        go_ret
        exact ⟨by rw [Hv.out]; rfl, by first | exact (Below.refl _ _).alloc (Nat.le_refl _) _ | exact Below.drew' ((Below.refl _ _).alloc (Nat.le_refl _) _)⟩
      · have hv : numOf row = 0 := by rw [Hn.out, if_neg (fun h => hm h.2)]
        have Hv := Lib.hid hv
        have hmi : (1125899906842624 : Int) < (m : Int) := by omega
        clear hv
        go_wp2_with (go_at_call 71; refine (Hfl2.out _ _ ?_).mono ?_; (first | exact (Below.refl _ _).alloc (Nat.le_refl _) _ | exact Below.drew' ((Below.refl _ _).alloc (Nat.le_refl _) _)); rintro e w9 ⟨rfl, rfl⟩)
        go_ret
        exact ⟨by rw [Hv.out]; rfl, by first | exact (Below.refl _ _).alloc (Nat.le_refl _) _ | exact Below.drew' ((Below.refl _ _).alloc (Nat.le_refl _) _)⟩
    · have hv : numOf row = 0 := by rw [Hn.out, if_neg (fun h => hab h.1)]
      have Hv := Lib.hid hv
      have hbeq : ((a : Int) == (b : Int)) = false := beq_eq_false_iff_ne.2 (by omega)
      clear hv
      go_wp2
      go_ret
      exact ⟨by rw [Hv.out]; rfl, by first | exact (Below.refl _ _).alloc (Nat.le_refl _) _ | exact Below.drew' ((Below.refl _ _).alloc (Nat.le_refl _) _)⟩

theorem u64_or_add (u b : Nat) (hu : u < 72057594037927936) (hb : b < 256) : bits .or .u64 ((u : Int) * 256) (b : Int) = ((b + 256 * u : Nat) : Int) := by
  have e : (u : Int) * 256 = ((u * 256 : Nat) : Int) := by rw [Int.natCast_mul]; rfl
  have hor : (u * 256 ||| b) = b + 256 * u := by
    have := Nat.two_pow_add_eq_or_of_lt (i := 8) (b := b) (by omega) u
    rw [Nat.mul_comm u 256, Nat.add_comm]
    exact this.symm
  rw [e]
  show IntKind.u64.wrap ((BitVec.ofInt 64 ((u * 256 : Nat) : Int) ||| BitVec.ofInt 64 (b : Int)).toNat : Int) = _
  have o : ∀ a : Nat, a < 18446744073709551616 → (BitVec.ofInt 64 (a : Int)).toNat = a := fun a ha => by simp [BitVec.toNat_ofInt]; omega
  rw [BitVec.toNat_or, o _ (by omega), o b (by omega), hor, IntKind.wrap_u64]
  omega

set_option maxHeartbeats 2000000 in
theorem number_any (A : Option Addr) (n c : Nat) (row : List UInt8) (w : World) (hn : n = 64) (hl : row.length = 64) (hc : 64 ≤ c) (hr : Rd w A (row.map bv)) :
    Calls Tryd.prog 74 #[.slice A n c] w fun e w' => e = .returned (.int .i64 (numOf row : Int)) ∧ ∃ q, w' = w.drewN q := by
  subst hn
  obtain ⟨ad, rfl, -⟩ := hr.at_ (k := 0) (by simp; omega)
  obtain ⟨c, rfl⟩ : ∃ d, c = d + 64 := ⟨c - 64, by omega⟩
  have hfl : ∀ (W : World) (c' : Nat), (∃ q, W = w.drewN q) → Calls Tryd.prog 78 #[.slice (some ⟨ad.block, ad.off + 60, none⟩) 4 c'] W fun e w' => e = .returned (.int .u32 (ofLow (row.drop 60) : Int)) ∧ ∃ m, w' = W.drewN m := by
    rintro W c' ⟨q, rfl⟩
    obtain ⟨b0, b1, b2, b3, e4⟩ : ∃ b0 b1 b2 b3, row.drop 60 = [b0, b1, b2, b3] := by
      have h4 : (row.drop 60).length = 4 := by simp; omega
      match hd : row.drop 60, h4 with
      | [b0, b1, b2, b3], _ => exact ⟨b0, b1, b2, b3, rfl⟩
    rw [e4]
    exact fromfour_any _ 4 c' b0 b1 b2 b3 _ rfl (by rw [← e4, List.map_drop]; exact (rd_from 60 (by omega) hr (ext_drewN (Below.refl _ _) q)))
  have hs : ∀ (W : World), (∃ q, W = w.drewN q) → Calls Tryd.prog 57 #[.slice (some ad) 60 (c + 64)] W fun e w' => e = .returned (.int .u32 (sumOf (row.take 60) : Int)) ∧ W = w' := by
    rintro W ⟨q, rfl⟩
    exact refsum_any _ 60 _ (row.take 60) _ (by simp; omega) (by rw [List.map_take]; exact (hr.drewN q).take 60) (by simp; omega)
  have Hfl := Lib.hid hfl
  have Hs := Lib.hid hs
  have hat : ∀ k, k < 8 → ∃ b : UInt8, w.cell? (ad.add k) = some (.int .u8 (b.toNat : Int)) ∧ ofLow ((row.take 8).drop k) = b.toNat + 256 * ofLow ((row.take 8).drop (k + 1)) := fun k hk => by
    obtain ⟨_, e, h⟩ := hr.at_ (k := k) (by simp; omega)
    injection e with e; subst e
    refine ⟨row[k], by simpa [bv] using h, ?_⟩
    have := ofLow_drop (row.take 8) k (by simp; omega)
    rw [List.getElem_take] at this
    exact this
  have Hat := Lib.hid hat
  have hnum : ∀ a b : Nat, ofLow (row.drop 60) = a → sumOf (row.take 60) = b → ∀ m : Nat, ofLow (row.take 8) = m → numOf row = if a = b ∧ m ≤ 1125899906842624 then m else 0 := by
    intro a b ha hb m hm
    subst ha hb hm
    rfl
  have Hnum := Lib.hid hnum
  have hlt : ∀ k, k ≤ 8 → ofLow ((row.take 8).drop k) < 256 ^ (8 - k) := fun k hk => ofLow_lt_of (by simp; omega)
  have Hlt := Lib.hid hlt
  have h8d : (row.take 8).drop 8 = [] := List.drop_eq_nil_iff.2 (by simp; omega)
  have H8 := Lib.hid h8d
  clear hfl hs hnum hat hlt h8d
  generalize ha : ofLow (row.drop 60) = a at *
  generalize hb : sumOf (row.take 60) = b at *
  generalize hm : row.take 8 = m at *
  have Hn := Lib.hid (Hnum.out a b rfl rfl (ofLow m) rfl)
  have hc60 : (60 : Int) ≤ (c : Int) + 64 := by omega
  clear ha hb hm Hnum hl hr hc
  go_enter Tryd.func74, Tryd.ntmps74
  go_wp2
  go_region_held3 (fun _ => True) (trivial) (first
        | (go_at_call 78; ((with_reducible refine (Hfl.out _ _ ?_).mono ?_)); (first | exact ⟨0, rfl⟩ | exact ⟨1, rfl⟩ | exact ⟨_, rfl⟩); rintro e w9 ⟨rfl, q9, rfl⟩)
        | (go_at_call 57; ((with_reducible refine (Hs.out _ ?_).mono ?_)); (first | exact ⟨0, rfl⟩ | exact ⟨1, rfl⟩ | exact ⟨_, rfl⟩); rintro e w9 ⟨rfl, rfl⟩))
  by_cases hab : a = b
  · subst hab
    have hbeq : ((a : Int) == (a : Int)) = true := by simp
    go_wp2
    go_loop [3, 4] (fun s i => ∃ k u : Nat, k ≤ 8 ∧ i = .int .i64 ((k : Int) - 1) ∧ s = .int .u64 (u : Int) ∧ ofLow (m.drop k) = u) (fun _ i => (intOf i + 1).toNat)
    case atStart => exact ⟨8, 0, by omega, rfl, rfl, by rw [H8.out]; rfl⟩
    case round =>
      obtain ⟨k, u, hk, rfl, rfl, hu⟩ := hrel
      by_cases h0 : 0 < k
      · obtain ⟨j, rfl⟩ : ∃ j, k = j + 1 := ⟨k - 1, by omega⟩
        obtain ⟨x, hcell, hsucc⟩ := Hat.out j (by omega)
        have hlu := Hlt.out (j + 1) hk
        rw [hu] at hsucc hlu
        have h7 : 256 ^ (8 - (j + 1)) ≤ (256 : Nat) ^ 7 := Nat.pow_le_pow_right (by omega) (by omega)
        have h7' : (256 : Nat) ^ 7 = 72057594037927936 := rfl
        have hub : u < 72057594037927936 := by omega
        have hx := x.toNat_lt
        have hor := u64_or_add u x.toNat hub hx
        have hub' : (u : Int) ≤ 72057594037927935 := by omega
        have hxb : (x.toNat : Int) ≤ 255 := by omega
        have hij : ((j + 1 : Nat) : Int) - 1 = (j : Int) := by omega
        have Hs := Lib.hid hsucc
        rw [hij]
        have hj8 : (j : Int) < (c : Int) + 64 := by omega
        have hj64 : (j : Int) < 64 := by omega
        have hj0 : j < 64 := by omega
        clear hsucc hlu h7 h7' hij hu hub hx
        go_wp2
        go_round
        case rel => exact ⟨j, x.toNat + 256 * u, by omega, rfl, rfl, Hs.out⟩
        case measure => (simp [intOf]; try omega)
      · obtain rfl : k = 0 := by omega
        rw [List.drop_zero] at hu
        rw [hu] at Hn
        have hlu := Hlt.out 0 (by omega)
        rw [List.drop_zero, hu] at hlu
        have hub' : (u : Int) ≤ 18446744073709551615 := by
          have : (256 : Nat) ^ (8 - 0) = 18446744073709551616 := rfl
          omega
        clear hlu hu
        by_cases hm : u ≤ 1125899906842624
        · have hv : numOf row = u := by rw [Hn.out, if_pos (by simp [hm])]
          have Hv := Lib.hid hv
          have hmi : (u : Int) ≤ 1125899906842624 := by omega
          clear hv
          go_wp2
          go_ret
          exact ⟨by rw [Hv.out]; rfl, _, rfl⟩
        · have hv : numOf row = 0 := by rw [Hn.out, if_neg (by simp [hm])]
          have Hv := Lib.hid hv
          have hmi : (1125899906842624 : Int) < (u : Int) := by omega
          clear hv
          go_wp2
          go_ret
          exact ⟨by rw [Hv.out]; rfl, _, rfl⟩
  · have hv : numOf row = 0 := by rw [Hn.out, if_neg (fun h => hab h.1)]
    have Hv := Lib.hid hv
    have hbeq : ((a : Int) == (b : Int)) = false := beq_eq_false_iff_ne.2 (by omega)
    clear hv
    go_wp2
    go_ret
    exact ⟨by rw [Hv.out]; rfl, _, rfl⟩
end Go.Proofs.YtlpjeopeboemmaaDoor
