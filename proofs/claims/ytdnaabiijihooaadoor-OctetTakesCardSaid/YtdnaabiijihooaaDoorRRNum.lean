/-
  The contract of winnowerref1's (*Reader).Num. No statement of the seat is proved here.
-/
import Derived.Test.YtdnaabiijihooaaDoorRRef
import Derived.Test.YtdnaabiijihooaaDoorReader
namespace Go.Proofs.YtdnaabiijihooaaDoor
open Go Go.RowKit

/-- what is left behind a number, and whether there was none -/
def restOf (bs : List UInt8) : Option (Nat × Nat) → List UInt8
  | some (_, k) => bs.drop k
  | none => []
def badOf : Option (Nat × Nat) → Bool
  | some _ => false
  | none => true

/-- one byte more of a number in 64 digits, in the walk's own words -/
theorem num_step64 (b : UInt8) (k N : Nat) (hk : k ≤ 8 ∨ (k = 9 ∧ b.toNat ≤ 1)) (hN : N < 128 ^ k) : ∃ m s N' : Nat, (m : Int) ≤ 127 ∧ bits .and .u8 (b.toNat : Int) 127 = (m : Int) ∧ IntKind.u64.wrap ((m : Int) * 2 ^ (7 * k)) = (s : Int) ∧ bits .or .u64 (N : Int) (s : Int) = (N' : Int) ∧
    N' = N + b.toNat % 128 * 128 ^ k ∧ (k ≤ 8 → N' < 128 ^ (k + 1)) ∧ (N' : Int) ≤ 18446744073709551615 := by
  have hb := b.toNat_lt
  have h1 := u8_and_nat b.toNat 127 (by omega) (by omega)
  rw [nat_mask7] at h1
  have e : (128 : Nat) ^ k = 2 ^ (7 * k) := by rw [show (128 : Nat) = 2 ^ 7 from rfl, ← Nat.pow_mul]
  have hm : b.toNat % 128 * 128 ^ k ≤ 127 * 128 ^ k := Nat.mul_le_mul_right _ (by omega)
  have hp : 128 ^ (k + 1) = 128 * 128 ^ k := by rw [Nat.pow_succ, Nat.mul_comm]
  have h9 : (128 : Nat) ^ 9 = 9223372036854775808 := rfl
  have hall : N + b.toNat % 128 * 128 ^ k < 18446744073709551616 ∧ (k ≤ 8 → N + b.toNat % 128 * 128 ^ k < 128 ^ (k + 1)) := by
    rcases hk with hk | ⟨rfl, hb1⟩
    · have hk9 : 128 ^ (k + 1) ≤ 128 ^ 9 := Nat.pow_le_pow_right (by omega) (by omega)
      exact ⟨by omega, fun _ => by omega⟩
    · have : b.toNat % 128 * 128 ^ 9 ≤ 1 * 128 ^ 9 := Nat.mul_le_mul_right _ (by omega)
      exact ⟨by omega, fun h => by omega⟩
  refine ⟨b.toNat % 128, b.toNat % 128 * 128 ^ k, N + b.toNat % 128 * 128 ^ k, by omega, h1, ?_, ?_, rfl, hall.2, by omega⟩
  · have e2 : ((b.toNat % 128 : Nat) : Int) * 2 ^ (7 * k) = ((b.toNat % 128 * 128 ^ k : Nat) : Int) := by
      rw [e, Int.natCast_mul, Int.natCast_pow]; rfl
    rw [e2, IntKind.wrap_u64]
    omega
  · rw [u64_or_nat N _ (by omega) (by omega), Nat.or_comm, nat_join (7 * k) _ N (by rw [e]; exact Nat.mul_mod_left _ _) (by rw [← e]; exact hN), Nat.add_comm]

set_option maxRecDepth 100000 in
set_option maxHeartbeats 4000000 in
theorem refrnum (fp : Nat → Prop) (g : Nat) (bs : List UInt8) (R : Option (Nat × Nat)) (w : World) (h : RRd w fp g bs false) (hR : num? bs = R) (hb : bs.length ≤ 1099511627776) :
    Calls Tryd.prog 30 #[.pointer (some ⟨g, 0, none⟩)] w fun e w' => e = .returned (.int .i64 (resN R : Int)) ∧ RRd w' fp g (restOf bs R) (badOf R) ∧ Only (fun k => k = g) w w' := by
  have HR := Lib.hid hR
  clear hR
  go_enter Tryd.func30, Tryd.ntmps30
  go_wp2
  go_loopw [3, 4] (fun u i wr => ∃ k N : Nat, k ≤ 9 ∧ k ≤ bs.length ∧ i = .int .i64 (k : Int) ∧ u = .int .u64 (N : Int) ∧ N < 128 ^ k ∧ scan k N (bs.drop k) = R ∧ RRd wr fp g (bs.drop k) false ∧ Only (fun k => k = g) w wr) (fun _ i _ => 10 - (intOf i).toNat)
  case atStart => exact ⟨0, 0, by omega, Nat.zero_le _, rfl, rfl, by simp, HR.out, h, Only.refl _ _⟩
  case round =>
    obtain ⟨k, N, hk9, hkl, rfl, rfl, hN, hs, hrd, ho⟩ := hrel
    have Hs := Lib.hid hs
    have HN := Lib.hid hN
    have hki : (k : Int) < 10 := by omega
    clear hs hN
    by_cases hlt : k < bs.length
    · have hd := List.drop_eq_getElem_cons hlt
      have Hd : Hid (scan k N (bs[k] :: bs.drop (k + 1)) = R) := by rw [← hd]; exact Hs.out
      have hcall := refraw_ok fp g (bs.drop k) 1 wr hrd (by simp; omega) (by simp; omega)
      rw [List.drop_drop] at hcall
      rw [show (bs.drop k).take 1 = [bs[k]] by rw [hd]; rfl] at hcall
      have Hcall := Lib.hid hcall
      clear hcall hrd hd Hs
      generalize bs[k] = b at *
      go_wp2_with fail
      refine Hcall.out.mono ?_
      rintro e w1 ⟨A1, c1, rfl, hn1, hrd1, ho1⟩
      have ho' : Only (fun k => k = g) w w1 := ho.trans ho1 (fun _ _ h => h)
      obtain ⟨ad, rfl, hx0⟩ := hn1.rd.at_ (k := 0) (by simp)
      have hx1 : w1.cell? ad = some (.int .u8 (b.toNat : Int)) := by
        have h0' : ad.add 0 = ad := by simp [Addr.add]
        rw [h0'] at hx0
        simpa [bv] using hx0
      have hx2 : w1.cell? (ad.add 0) = some (.int .u8 (b.toNat : Int)) := by simpa [bv] using hx0
      have hbad : w1.cell? ⟨g, 1, none⟩ = some (.bool false) := by obtain ⟨_, _, _, _, hb, _⟩ := hrd1; exact hb.cell 1
      have hb255 : (b.toNat : Int) ≤ 255 := by have := b.toNat_lt; omega
      clear hx0 hn1
      by_cases hk : k ≤ 8
      · have hkn : ((k : Int) == 9) = false := beq_eq_false_iff_ne.2 (by omega)
        obtain ⟨m1, s1, N1, lm, e1, e2, e3, hN1, hN2, lN⟩ := num_step64 b k N (.inl hk) HN.out
        have HN1 := Lib.hid hN1
        have HN2 := Lib.hid (hN2 hk)
        clear hN1 hN2
        by_cases hb1 : 127 < b.toNat
        · have hb2 : (127 : Int) < (b.toNat : Int) := by omega
          go_wp2
          go_roundw
          case rel => exact ⟨k + 1, N1, by omega, by omega, by go_num, rfl, HN2.out, by rw [HN1.out, ← scan_more k N b _ hk hb1]; exact Hd.out, hrd1, ho'⟩
          case measure => simp [intOf]; omega
        · have hb2 : (b.toNat : Int) ≤ 127 := by omega
          have hbn : decide ((127 : Int) < (b.toNat : Int)) = false := decide_eq_false (by omega)
          by_cases g3 : 0 < k ∧ b.toNat = 0
          · have hRn := scan_bad k N b (bs.drop (k + 1)) hk hb1 (.inr g3)
            rw [Hd.out] at hRn
            have HRn := Lib.hid hRn
            have g4 : (0 : Int) < (k : Int) := by omega
            have g4n : decide ((0 : Int) < (k : Int)) = true := decide_eq_true g4
            have g5 : ((b.toNat : Int) == 0) = true := beq_iff_eq.2 (by omega)
            clear hRn g3
            go_wp2_with (go_at_call 34; refine (refbad fp g _ false _ hrd1).mono ?_; rintro e w2 ⟨rfl, hrd2, ho2⟩)
            go_ret
            exact ⟨by rw [HRn.out]; rfl, by rw [HRn.out]; exact hrd2, ho'.trans ho2 (fun _ _ h => h)⟩
          · have g6 : (¬ 0 < k ∧ decide ((0 : Int) < (k : Int)) = false) ∨ (0 < k ∧ ¬ b.toNat = 0 ∧ decide ((0 : Int) < (k : Int)) = true ∧ ((b.toNat : Int) == 0) = false) := by
              by_cases h0 : 0 < k
              · exact .inr ⟨h0, fun h => g3 ⟨h0, h⟩, decide_eq_true (by omega), beq_eq_false_iff_ne.2 (by omega)⟩
              · exact .inl ⟨h0, decide_eq_false (by omega)⟩
            by_cases g1 : 4611686018427387904 < N1
            · have hRn := scan_bad k N b (bs.drop (k + 1)) hk hb1 (.inl (by rw [← HN1.out]; exact g1))
              rw [Hd.out] at hRn
              have HRn := Lib.hid hRn
              have g2 : (4611686018427387904 : Int) < (N1 : Int) := by omega
              have g2n : decide ((4611686018427387904 : Int) < (N1 : Int)) = true := decide_eq_true g2
              clear hRn g3
              rcases g6 with ⟨g8, g6⟩ | ⟨g8, g9, g6, g7⟩
              · go_wp2_with (go_at_call 34; refine (refbad fp g _ false _ hrd1).mono ?_; rintro e w2 ⟨rfl, hrd2, ho2⟩)
                go_ret
                exact ⟨by rw [HRn.out]; rfl, by rw [HRn.out]; exact hrd2, ho'.trans ho2 (fun _ _ h => h)⟩
              · go_wp2_with (go_at_call 34; refine (refbad fp g _ false _ hrd1).mono ?_; rintro e w2 ⟨rfl, hrd2, ho2⟩)
                go_ret
                exact ⟨by rw [HRn.out]; rfl, by rw [HRn.out]; exact hrd2, ho'.trans ho2 (fun _ _ h => h)⟩
            · have hRs := scan_good k N b (bs.drop (k + 1)) hk hb1 (by rw [← HN1.out]; intro h; rcases h with h | h; exact g1 h; exact g3 h)
              rw [Hd.out, ← HN1.out] at hRs
              have HRs := Lib.hid hRs
              have g2 : (N1 : Int) ≤ 4611686018427387904 := by omega
              have g2n : decide ((4611686018427387904 : Int) < (N1 : Int)) = false := decide_eq_false (by omega)
              clear hRs g3
              rcases g6 with ⟨g8, g6⟩ | ⟨g8, g9, g6, g7⟩
              · go_wp2
                go_ret
                exact ⟨by rw [HRs.out]; rfl, by rw [HRs.out]; exact hrd1, ho'⟩
              · go_wp2
                go_ret
                exact ⟨by rw [HRs.out]; rfl, by rw [HRs.out]; exact hrd1, ho'⟩
      · obtain rfl : k = 9 := by omega
        have hRn : R = none := by rw [← Hd.out]; exact scan_nine _ _
        have HRn := Lib.hid hRn
        clear hRn
        by_cases hb1 : 127 < b.toNat
        · have hb2 : (127 : Int) < (b.toNat : Int) := by omega
          have hb3 : decide ((127 : Int) < (b.toNat : Int)) = true := decide_eq_true hb2
          go_wp2_with (go_at_call 34; refine (refbad fp g _ false _ hrd1).mono ?_; rintro e w2 ⟨rfl, hrd2, ho2⟩)
          go_ret
          exact ⟨by rw [HRn.out]; rfl, by rw [HRn.out]; exact hrd2, ho'.trans ho2 (fun _ _ h => h)⟩
        · have hb2 : (b.toNat : Int) ≤ 127 := by omega
          have hb3 : decide ((127 : Int) < (b.toNat : Int)) = false := decide_eq_false (by omega)
          by_cases hb4 : 1 < b.toNat
          · have hb5 : (1 : Int) < (b.toNat : Int) := by omega
            have hb6 : decide ((1 : Int) < (b.toNat : Int)) = true := decide_eq_true hb5
            go_wp2_with (go_at_call 34; refine (refbad fp g _ false _ hrd1).mono ?_; rintro e w2 ⟨rfl, hrd2, ho2⟩)
            go_ret
            exact ⟨by rw [HRn.out]; rfl, by rw [HRn.out]; exact hrd2, ho'.trans ho2 (fun _ _ h => h)⟩
          · have hb5 : (b.toNat : Int) ≤ 1 := by omega
            have hb6 : decide ((1 : Int) < (b.toNat : Int)) = false := decide_eq_false (by omega)
            obtain ⟨m1, s1, N1, lm, e1, e2, e3, hN1, -, lN⟩ := num_step64 b 9 N (.inr ⟨rfl, by omega⟩) HN.out
            have h9 : (128 : Nat) ^ 9 = 9223372036854775808 := rfl
            rw [h9] at hN1
            rw [show (2 : Int) ^ (7 * 9) = 9223372036854775808 from rfl] at e2
            by_cases hb7 : b.toNat = 0
            · have g5 : ((b.toNat : Int) == 0) = true := beq_iff_eq.2 (by omega)
              clear hN1 h9 hb7
              go_wp2_with (go_at_call 34; refine (refbad fp g _ false _ hrd1).mono ?_; rintro e w2 ⟨rfl, hrd2, ho2⟩)
              go_ret
              exact ⟨by rw [HRn.out]; rfl, by rw [HRn.out]; exact hrd2, ho'.trans ho2 (fun _ _ h => h)⟩
            · have g5 : ((b.toNat : Int) == 0) = false := beq_eq_false_iff_ne.2 (by omega)
              have g2 : (4611686018427387904 : Int) < (N1 : Int) := by omega
              have g2n : decide ((4611686018427387904 : Int) < (N1 : Int)) = true := decide_eq_true g2
              clear hN1 h9 hb7
              go_wp2_with (go_at_call 34; refine (refbad fp g _ false _ hrd1).mono ?_; rintro e w2 ⟨rfl, hrd2, ho2⟩)
              go_ret
              exact ⟨by rw [HRn.out]; rfl, by rw [HRn.out]; exact hrd2, ho'.trans ho2 (fun _ _ h => h)⟩
    · have hnil : bs.drop k = [] := List.drop_eq_nil_iff.2 (by omega)
      have hRn : R = none := by rw [← Hs.out, hnil]; rfl
      have HRn := Lib.hid hRn
      rw [hnil] at hrd
      clear hRn hnil
      go_wp2_with fail
      refine (refraw_none fp g [] 1 _ hrd (.inr (by simp))).mono ?_
      rintro e w1 ⟨rfl, hrd1, ho1⟩
      have hbad : w1.cell? ⟨g, 1, none⟩ = some (.bool true) := by obtain ⟨_, _, _, _, hb, _⟩ := hrd1; exact hb.cell 1
      go_wp2
      go_ret
      exact ⟨by rw [HRn.out]; rfl, by rw [HRn.out]; exact hrd1, ho.trans ho1 (fun _ _ h => h)⟩

set_option maxHeartbeats 1000000 in
theorem refrnum_dead (fp : Nat → Prop) (g : Nat) (w : World) (h : RRd w fp g [] true) :
    Calls Tryd.prog 30 #[.pointer (some ⟨g, 0, none⟩)] w fun e w' => e = .returned (.int .i64 0) ∧ RRd w' fp g [] true ∧ Only (fun k => k = g) w w' := by
  go_enter Tryd.func30, Tryd.ntmps30
  go_wp2
  refine wp_loop_rounds 1 ?_
  rw [rounds_succ]
  go_wp2_with fail
  refine (refraw_dead fp g 1 _ h).mono ?_
  rintro e w1 ⟨rfl, hrd1, ho1⟩
  have hbad : w1.cell? ⟨g, 1, none⟩ = some (.bool true) := by obtain ⟨_, _, _, _, hb, _⟩ := hrd1; exact hb.cell 1
  go_wp2
  go_ret
  exact ⟨rfl, hrd1, ho1⟩
end Go.Proofs.YtdnaabiijihooaaDoor
