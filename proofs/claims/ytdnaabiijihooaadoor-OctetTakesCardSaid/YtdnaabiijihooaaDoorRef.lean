/-
  The contracts of winnowerref1's Num, Nums, Bytes. No statement of the seat is proved here.
-/
import Derived.Test.YtdnaabiijihooaaDoorNums
namespace Go.Proofs.YtdnaabiijihooaaDoor
open Go Go.RowKit

theorem low_digit64 (n : Nat) (hn : n < 18446744073709551616) : Value.int .u8 (bits .or .u8 (bits .and .u64 (n : Int) 127 % 256) 128) = bv (n % 128 + 128).toUInt8 := by
  have h0 := u64_and_nat n 127 hn (by omega)
  rw [nat_mask7] at h0
  have h1 : bits .and .u64 (n : Int) 127 % 256 = ((n % 128 : Nat) : Int) := by
    rw [show (127 : Int) = ((127 : Nat) : Int) from rfl, h0]; omega
  have h2 : bits .or .u8 ((n % 128 : Nat) : Int) ((128 : Nat) : Int) = ((n % 128 ||| 128 : Nat) : Int) := u8_or_nat _ _ (by omega) (by omega)
  have h3 : n % 128 ||| 128 = n % 128 + 128 := by rw [Nat.or_comm, nat_join 7 128 (n % 128) rfl (by omega), Nat.add_comm]
  rw [h1]
  rw [show (128 : Int) = ((128 : Nat) : Int) from rfl, h2, h3]
  unfold bv
  rw [show (n % 128 + 128).toUInt8.toNat = n % 128 + 128 by simp [Nat.toUInt8, UInt8.toNat_ofNat']; omega]

set_option maxRecDepth 100000 in
set_option maxHeartbeats 1000000 in
theorem refnum_any (v : Int) (w : World) (hv : isInt v) :
    Calls Tryd.prog 41 #[.int .i64 v] w fun e w' => ∃ A' c', e = .returned (.slice A' (dig (clamp v)).length c') ∧ New w w' A' c' (dig (clamp v)) ∧ Below w.heap.size w w' := by
  obtain ⟨hv1, hv2⟩ := hv
  have hcase : v ≤ 0 ∨ (1 ≤ v ∧ v ≤ 4611686018427387904) ∨ 4611686018427387904 < v := by omega
  rcases hcase with ha | ⟨ha, hc⟩ | ha
  all_goals
    obtain ⟨b0, hd0⟩ : ∃ b0, decide ((0 : Int) < v) = b0 := ⟨_, rfl⟩
    have hb0 : b0 = true ∨ b0 = false := by cases b0 <;> simp
    first
      | (have e0 : b0 = true := by rw [← hd0]; exact decide_eq_true (by omega)
         rw [e0] at hd0)
      | (have e0 : b0 = false := by rw [← hd0]; exact decide_eq_false (by omega)
         rw [e0] at hd0)
    clear hb0 e0
    go_enter Tryd.func41, Tryd.ntmps41
    go_wp2
    go_loopw [3, 4] (fun r s w1 => ∃ (n : Nat) (ds : List UInt8) (A' : Option Addr) (c' : Nat), r = .int .u64 (n : Int) ∧ n ≤ 4611686018427387904 ∧ ds ++ dig n = dig (clamp v) ∧ s = .slice A' ds.length c' ∧ New w w1 A' c' ds ∧ Below w.heap.size w w1) (fun r _ _ => (intOf r).toNat)
    case atStart => exact ⟨clamp v, [], none, 0, congrArg (Value.int .u64) (by unfold clamp; omega), clamp_le v, rfl, rfl, Own.none_ _ _ _, Below.refl _ _⟩
    case round =>
      obtain ⟨n, ds, A', c', rfl, hn, he, rfl, hnew, hb⟩ := hrel
      have hl : ds.length ≤ 8 := by
        have h1 := dig_clamp_len v
        have h2 := dig_pos n
        rw [← he, List.length_append] at h1
        omega
      have hk1 : ds.length + 1 ≤ maxLen := by unfold maxLen; omega
      have hk2 : (ds.length + 1) * 1 ≤ 140737488355328 := by omega
      have He := Lib.hid he
      clear he
      by_cases hlt : n < 128
      · have hx := Lib.hid (last_digit n hlt)
        go_wp2_with (at_builtin
                     refine wpList_app _ rfl (.tmp 22) (.tmp 25) _ rfl _ _ 1 Tryd.underlying23 info_u8 rfl A' ds.length c' (ds.map bv) rfl (by rw [List.length_map]) (hnew.alloc _) (some ⟨wr.heap.size, 0, none⟩) 1 1 ([n.toUInt8].map bv) rfl rfl (by rw [last_digit n hlt]; exact Rd.lit wr #[bv n.toUInt8] _) (bvs_one _) hk1 hk2 ?_
                     intro A2 c2 w2 hown2 honly2)
        go_ret
        obtain ⟨g1, g2⟩ := New.grow1 hb hown2 honly2
        have e1 : ds ++ [n.toUInt8] = dig (clamp v) := by rw [← He.out, dig_lt hlt]
        rw [e1] at g1
        refine ⟨A2, c2, ?_, g1, g2⟩
        rw [← e1, List.length_append]; rfl
      · go_wp2_with (at_builtin
                     refine wpList_app _ rfl (.tmp 13) (.tmp 18) _ rfl _ _ 1 Tryd.underlying23 info_u8 rfl A' ds.length c' (ds.map bv) rfl (by rw [List.length_map]) (hnew.alloc _) (some ⟨wr.heap.size, 0, none⟩) 1 1 ([(n % 128 + 128).toUInt8].map bv) rfl rfl (by rw [low_digit64 n (by omega)]; exact Rd.lit wr #[bv (n % 128 + 128).toUInt8] _) (bvs_one _) hk1 hk2 ?_
                     intro A2 c2 w2 hown2 honly2)
        go_roundw
        case rel =>
          obtain ⟨g1, g2⟩ := New.grow1 hb hown2 honly2
          have g3 : ds ++ [(n % 128 + 128).toUInt8] ++ dig (n / 128) = dig (clamp v) := by rw [← He.out, dig_ge hlt]; simp
          exact ⟨n / 128, ds ++ [(n % 128 + 128).toUInt8], A2, c2, by go_num, by omega, g3, by rw [List.length_append]; rfl, g1, g2⟩
        case measure => simp [intOf]; omega

set_option maxRecDepth 100000 in
set_option maxHeartbeats 1000000 in
theorem refnums_any (A : Option Addr) (n c : Nat) (vs : List Int) (bs : List UInt8) (w : World) (hn : n = vs.length) (hbs : numsB vs = bs) (hr : Rd w A (vs.map iv)) (hi : ∀ v ∈ vs, isInt v) (hb : vs.length ≤ 1073741824) :
    Calls Tryd.prog 14 #[.slice A n c] w fun e w' => ∃ A' c', e = .returned (.slice A' bs.length c') ∧ New w w' A' c' bs ∧ Below w.heap.size w w' := by
  subst hn
  have Hbs := Lib.hid hbs
  clear hbs
  go_enter Tryd.func14, Tryd.ntmps14
  go_wp2
  go_loopw [3, 4] (fun s i w1 => ∃ (k : Nat) (ds : List UInt8) (A' : Option Addr) (c' : Nat), k ≤ vs.length ∧ i = .int .i64 (k : Int) ∧ ds = numsTo vs k ∧ s = .slice A' ds.length c' ∧ New w w1 A' c' ds ∧ Below w.heap.size w w1) (fun _ i _ => vs.length - (intOf i).toNat)
  case atStart => exact ⟨0, [], none, 0, Nat.zero_le _, rfl, rfl, rfl, Own.none_ _ _ _, Below.refl _ _⟩
  case round =>
    obtain ⟨k, ds, A', c', hk, rfl, hds, rfl, hnew, hb1⟩ := hrel
    by_cases hlt : k < vs.length
    · obtain ⟨ad, rfl, hc⟩ := (hr.ext hb1).at_ (k := k) (by simpa using hlt)
      simp only [List.getElem_map, iv] at hc
      have hik := hi vs[k] (List.getElem_mem hlt)
      have hlen := numsTo_len vs k
      rw [← hds] at hlen
      have hs := Lib.hid (show ds ++ dig (clamp vs[k]) = numsTo vs (k + 1) by rw [numsTo_succ vs k hlt, hds])
      have h9 := dig_clamp_len vs[k]
      clear hds
      generalize vs[k] = v at *
      go_wp2_with fail
      refine (refnum_any v wr hik).mono ?_
      rintro e w2 ⟨A2, c2, rfl, hnew2, hb2⟩
      generalize dig (clamp v) = ys at *
      have hk1 : ds.length + ys.length ≤ maxLen := by unfold maxLen; omega
      have hk2 : (ds.length + ys.length) * 1 ≤ 140737488355328 := by omega
      have hb2' := ext_trans hb1 hb2
      go_wp2_with (at_builtin
                   refine wpList_app _ rfl (.tmp 11) (.tmp 16) _ rfl _ _ 1 Tryd.underlying23 info_u8 rfl A' ds.length c' (ds.map bv) rfl (by rw [List.length_map]) (hnew.ext hb2) A2 ys.length c2 (ys.map bv) rfl (by rw [List.length_map]) hnew2.rd (bvs_one _) hk1 hk2 ?_
                   intro A3 c3 w3 hown3 honly3)
      go_roundw
      case rel =>
        obtain ⟨g1, g2⟩ := New.grow hb2' hown3 honly3
        exact ⟨k + 1, ds ++ ys, A3, c3, by omega, by go_num, hs.out, by rw [List.length_append], g1, g2⟩
      case measure => simp [intOf]; omega
    · obtain rfl : k = vs.length := by omega
      rw [numsTo_all, Hbs.out] at hds
      subst hds
      go_wp2
      go_ret
      exact ⟨A', c', rfl, hnew, hb1⟩

set_option maxRecDepth 100000 in
set_option maxHeartbeats 1000000 in
theorem refbytes_any (A : Option Addr) (n c : Nat) (xs : List UInt8) (bs : List UInt8) (w : World) (hn : n = xs.length) (hbs : dig xs.length ++ xs = bs) (hr : Rd w A (xs.map bv)) (hb : xs.length ≤ 1099511627776) :
    Calls Tryd.prog 25 #[.slice A n c] w fun e w' => ∃ A' c', e = .returned (.slice A' bs.length c') ∧ New w w' A' c' bs ∧ Below w.heap.size w w' := by
  subst hn
  have hcl := clamp_of_nat (n := xs.length) (by omega)
  have Hbs := Lib.hid hbs
  have h9 := dig_clamp_len (xs.length : Int)
  rw [hcl] at h9
  have Hcl := Lib.hid hcl
  clear hcl hbs
  go_enter Tryd.func25, Tryd.ntmps25
  go_wp2_with fail
  refine (refnum_any (xs.length : Int) _ ⟨by omega, by omega⟩).mono ?_
  rw [Hcl.out]
  rintro e w2 ⟨A2, c2, rfl, hnew2, hb2⟩
  generalize dig xs.length = ys at *
  have hk1 : ys.length + xs.length ≤ maxLen := by unfold maxLen; omega
  have hk2 : (ys.length + xs.length) * 1 ≤ 140737488355328 := by omega
  go_wp2_with (at_builtin
               refine wpList_app _ rfl (.tmp 5) (.tmp 6) _ rfl _ _ 1 Tryd.underlying23 info_u8 rfl A2 ys.length c2 (ys.map bv) rfl (by rw [List.length_map]) hnew2 A xs.length c (xs.map bv) rfl (by rw [List.length_map]) (hr.ext hb2) (bvs_one _) hk1 hk2 ?_
               intro A3 c3 w3 hown3 honly3)
  go_ret
  obtain ⟨g1, g2⟩ := New.grow hb2 hown3 honly3
  rw [Hbs.out] at g1
  refine ⟨A3, c3, ?_, g1, g2⟩
  rw [← Hbs.out, List.length_append]; rfl
end Go.Proofs.YtdnaabiijihooaaDoor
