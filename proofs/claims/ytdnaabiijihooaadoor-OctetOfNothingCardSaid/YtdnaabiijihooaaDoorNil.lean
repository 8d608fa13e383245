/-
  The contracts of octet's methods on a nil Writer and a nil Reader. No statement of the seat is proved here.
-/
import Derived.Test.YtdnaabiijihooaaDoorKnown
namespace Go.Proofs.YtdnaabiijihooaaDoor
open Go Go.RowKit

set_option maxHeartbeats 1000000 in
theorem num_nil (v : Int) (w : World) (hv1 : -9223372036854775808 ≤ v) (hv2 : v ≤ 9223372036854775807) :
    Calls Tryd.prog 40 #[.pointer none, .int .i64 v] w fun e w' => e = .returned (.tuple #[]) ∧ Below w.heap.size w w' := by
  have hcase : v < 0 ∨ (0 ≤ v ∧ v ≤ 4611686018427387904) ∨ 4611686018427387904 < v := by omega
  rcases hcase with ha | ⟨ha, hc⟩ | ha
  all_goals
    go_enter Tryd.func40, Tryd.ntmps40
    go_wp2
    go_loopw [4] (fun r w1 => ∃ n : Nat, r = .int .i64 (n : Int) ∧ n ≤ 4611686018427387904 ∧ Below w.heap.size w w1) (fun r _ => (intOf r).toNat)
    case atStart => exact ⟨clamp v, congrArg (Value.int .i64) (by unfold clamp; omega), clamp_le v, Below.refl _ _⟩
    case round =>
      obtain ⟨n, rfl, hn, hb⟩ := hrel
      have hs := hb.size
      by_cases hlt : n < 128
      · go_wp2_with fail
        refine (raw_nil _ _).mono ?_
        rintro e w2 ⟨rfl, rfl⟩
        go_wp2
        go_end0
        exact ⟨rfl, hb.alloc hs _⟩
      · go_wp2_with fail
        refine (raw_nil _ _).mono ?_
        rintro e w2 ⟨rfl, rfl⟩
        go_wp2
        go_roundw
        case rel => exact ⟨n / 128, by go_num, by omega, hb.alloc hs _⟩
        case measure => simp [intOf]; omega

set_option maxHeartbeats 1000000 in
theorem nums_nil (A : Option Addr) (n c : Nat) (vs : List Int) (w : World) (hn : n = vs.length) (hr : Rd w A (vs.map iv)) (hi : ∀ v ∈ vs, isInt v) (hb : vs.length ≤ 549755813888) :
    Calls Tryd.prog 11 #[.pointer none, .slice A n c] w fun e w' => e = .returned (.tuple #[]) ∧ Below w.heap.size w w' := by
  subst hn
  go_enter Tryd.func11, Tryd.ntmps11
  go_wp2
  go_loopw [8] (fun i w1 => ∃ k : Nat, k ≤ vs.length ∧ i = .int .i64 (k : Int) ∧ Below w.heap.size w w1) (fun i _ => vs.length - (intOf i).toNat)
  case atStart => exact ⟨0, Nat.zero_le _, rfl, Below.refl _ _⟩
  case round =>
    obtain ⟨k, hk, rfl, hb1⟩ := hrel
    by_cases hlt : k < vs.length
    · obtain ⟨ad, rfl, hc⟩ := (hr.ext hb1).at_ (k := k) (by simpa using hlt)
      simp only [List.getElem_map, iv] at hc
      have hik := hi vs[k] (List.getElem_mem hlt)
      go_wp2_with fail
      refine (num_nil _ _ hik.1 hik.2).mono ?_
      rintro e w2 ⟨rfl, h1⟩
      go_wp2
      go_roundw
      case rel => exact ⟨k + 1, by omega, by go_num, ext_trans hb1 h1⟩
      case measure => simp [intOf]; omega
    · go_wp2
      go_end0
      exact ⟨rfl, hb1⟩

set_option maxHeartbeats 1000000 in
theorem bytes_nil (A : Option Addr) (n c : Nat) (xss : List (List UInt8)) (w : World) (hn : n = xss.length) (hr : RowsF (fun _ => False) w A xss) (hb : xss.flatten.length ≤ 549755813888) (hb2 : xss.length ≤ 549755813888) :
    Calls Tryd.prog 23 #[.pointer none, .slice A n c] w fun e w' => e = .returned (.tuple #[]) ∧ Below w.heap.size w w' := by
  subst hn
  go_enter Tryd.func23, Tryd.ntmps23
  go_wp2
  go_loopw [8] (fun i w1 => ∃ k : Nat, k ≤ xss.length ∧ i = .int .i64 (k : Int) ∧ Below w.heap.size w w1) (fun i _ => xss.length - (intOf i).toNat)
  case atStart => exact ⟨0, Nat.zero_le _, rfl, Below.refl _ _⟩
  case round =>
    obtain ⟨k, hk, rfl, hb1⟩ := hrel
    by_cases hlt : k < xss.length
    · obtain ⟨ad, B, cb, rfl, hcell, hl, hrd⟩ := (hr.ext hb1).at_ hlt
      have hlen := lenTo_le xss (k + 1)
      rw [lenTo_succ xss k hlt] at hlen
      go_wp2_with fail
      refine (num_nil _ _ (by omega) (by omega)).mono ?_
      rintro e w2 ⟨rfl, h1⟩
      go_wp2_with fail
      refine (raw_nil _ _).mono ?_
      rintro e w3 ⟨rfl, rfl⟩
      go_wp2
      go_roundw
      case rel => exact ⟨k + 1, by omega, by go_num, ext_trans hb1 h1⟩
      case measure => simp [intOf]; omega
    · go_wp2
      go_end0
      exact ⟨rfl, hb1⟩

theorem out_nil (w : World) : Calls Tryd.prog 12 #[.pointer none] w fun e w' => e = .returned (.slice none 0 0) ∧ w = w' := by
  go_enter Tryd.func12, Tryd.ntmps12
  go_wp2
  go_ret
  exact ⟨rfl, rfl⟩
theorem good_nil (w : World) : Calls Tryd.prog 18 #[.pointer none] w fun e w' => e = .returned (.bool false) ∧ w = w' := by
  go_enter Tryd.func18, Tryd.ntmps18
  go_wp2
  go_ret
  exact ⟨rfl, rfl⟩
theorem left_nil (w : World) : Calls Tryd.prog 28 #[.pointer none] w fun e w' => e = .returned (.int .i64 0) ∧ w = w' := by
  go_enter Tryd.func28, Tryd.ntmps28
  go_wp2
  go_ret
  exact ⟨rfl, rfl⟩
theorem bad_nil (w : World) : Calls Tryd.prog 33 #[.pointer none] w fun e w' => e = .returned (.tuple #[]) ∧ w = w' := by
  go_enter Tryd.func33, Tryd.ntmps33
  go_wp2
  go_end0
  exact ⟨rfl, rfl⟩
theorem rnum_nil (w : World) : Calls Tryd.prog 17 #[.pointer none] w fun e w' => e = .returned (.int .i64 0) ∧ w = w' := by
  go_enter Tryd.func17, Tryd.ntmps17
  go_wp2_with (go_at_call 18; refine (good_nil _).mono ?_; rintro e w' ⟨rfl, rfl⟩)
  go_ret
  exact ⟨rfl, rfl⟩
theorem rraw_nil (n : Int) (w : World) : Calls Tryd.prog 29 #[.pointer none, .int .i64 n] w fun e w' => e = .returned (.slice none 0 0) ∧ w = w' := by
  go_enter Tryd.func29, Tryd.ntmps29
  go_wp2_with (go_at_call 18; refine (good_nil _).mono ?_; rintro e w' ⟨rfl, rfl⟩)
  go_ret
  exact ⟨rfl, rfl⟩
theorem rbytes_nil (w : World) : Calls Tryd.prog 27 #[.pointer none] w fun e w' => e = .returned (.slice none 0 0) ∧ w = w' := by
  go_enter Tryd.func27, Tryd.ntmps27
  go_wp2_with (first
    | (go_at_call 17; refine (rnum_nil _).mono ?_; rintro e w' ⟨rfl, rfl⟩)
    | (go_at_call 29; refine (rraw_nil _ _).mono ?_; rintro e w' ⟨rfl, rfl⟩))
  go_ret
  exact ⟨rfl, rfl⟩
theorem whole_nil (w : World) : Calls Tryd.prog 19 #[.pointer none] w fun e w' => e = .returned (.bool false) ∧ w = w' := by
  go_enter Tryd.func19, Tryd.ntmps19
  go_wp2_with (go_at_call 18; refine (good_nil _).mono ?_; rintro e w' ⟨rfl, rfl⟩)
  go_ret
  exact ⟨rfl, rfl⟩
set_option maxHeartbeats 1000000 in
theorem rnums_nil (A : Option Addr) (n c : Nat) (w : World) (hr : Rd w A (List.replicate n (.pointer none))) (hb : n ≤ 549755813888) :
    Calls Tryd.prog 35 #[.pointer none, .slice A n c] w fun e w' => e = .returned (.tuple #[]) ∧ w = w' := by
  go_enter Tryd.func35, Tryd.ntmps35
  go_wp2
  go_loop [9] (fun i => ∃ k : Nat, k ≤ n ∧ i = .int .i64 (k : Int)) (fun i => n - (intOf i).toNat)
  case atStart => exact ⟨0, Nat.zero_le _, rfl⟩
  case round =>
    obtain ⟨k, hk, rfl⟩ := hrel
    by_cases hlt : k < n
    · obtain ⟨ad, rfl, hc⟩ := hr.at_ (k := k) (by simpa using hlt)
      simp only [List.getElem_replicate] at hc
      go_wp2_with (go_at_call 17; refine (rnum_nil _).mono ?_; rintro e w' ⟨rfl, rfl⟩)
      go_round
      case rel => exact ⟨k + 1, by omega, by go_num⟩
      case measure => simp [intOf]; omega
    · go_wp2
      go_end0
      exact ⟨rfl, rfl⟩
end Go.Proofs.YtdnaabiijihooaaDoor
