/-
  The contracts of super's lowFirst and fromLow, of the reference's eight, Four and FromFour. No statement of the seat is proved here.
-/
import Derived.Test.YtlpjeopeboemmaaDoorLow
import Derived.Test.YtlpjeopeboemmaaDoorRefSum
namespace Go.Proofs.YtlpjeopeboemmaaDoor
open Go Go.RowKit

theorem make_b (W : World) (t : Nat) (h : t ≤ 1099511627776) : (Instr.makeSlice 22 (.int .i64 (t : Int)) (.int .i64 (t : Int))).run Tryd.prog W =
    .ok (.slice (some ⟨W.heap.size, 0, none⟩) t t) (W.alloc (.cells (madeCells #[.int .u8 0] (t * 1)) 5)) := by
  obtain ⟨i, hi, hz, hsz, hby⟩ := info_parts info_u8
  have hr := run_make (P := Tryd.prog) W 22 5 i _ Tryd.underlying22 hi hz .i64 .i64 (t : Int) (t : Int) (by omega) (by omega) (by rw [hby]; omega) (by omega)
  simp only [Int.toNat_natCast, hsz] at hr
  exact hr
theorem made_zeros (t : Nat) : madeCells #[Value.int .u8 0] (t * 1) = ((List.replicate t (0 : UInt8)).map bv).toArray := by
  apply Array.ext
  · simp [madeCells]
  · intro i h1 h2
    simp [madeCells, bv, Nat.mod_one]

theorem made_zeros' (t : Nat) : madeCells #[Value.int .u8 0] t = ((List.replicate t (0 : UInt8)).map bv).toArray := by
  have := made_zeros t
  rw [Nat.mul_one] at this
  exact this

theorem New.of_blk {w w' : World} {g : Nat} {bs : List UInt8} (h : Blk w' g 5 (bs.map bv).toArray) (hg : w.heap.size ≤ g) (hm : bs.length ≤ maxLen) : New w w' (some ⟨g, 0, none⟩) bs.length bs := by
  refine ⟨⟨by simp, .inr ⟨g, bs.length, (bs.map bv).toArray, by simp, Nat.zero_le _, h, by simp, hm, by simp, ?_⟩⟩, fun ad e => by injection e with e; subst e; exact ⟨hg, h.lt⟩⟩
  rw [List.length_map, Nat.mul_one, List.take_of_length_le (by simp)]

theorem low_cast (n j : Nat) : Value.int .u8 ((n : Int) / 2 ^ (8 * j) % 256) = bv (n / 256 ^ j).toUInt8 := by
  unfold bv
  rw [toUInt8_toNat]
  congr 1
  have e : (256 : Nat) ^ j = 2 ^ (8 * j) := by rw [show (256 : Nat) = 2 ^ 8 from rfl, ← Nat.pow_mul]
  rw [e, Int.natCast_emod, Int.natCast_ediv, Int.natCast_pow]
  rfl
theorem set_mid (a : List UInt8) (m : Nat) (hm : 0 < m) (y : UInt8) : (((a ++ List.replicate m 0).map bv).toArray).setIfInBounds a.length (bv y) = (((a ++ [y]) ++ List.replicate (m - 1) 0).map bv).toArray := by
  obtain ⟨m, rfl⟩ : ∃ k, m = k + 1 := ⟨m - 1, by omega⟩
  rw [List.setIfInBounds_toArray, List.map_append, List.replicate_succ]
  congr 1
  simp

set_option maxHeartbeats 1000000 in
theorem lowfirst_any (n k : Nat) (w : World) (hn : n < 9223372036854775808) (hk : k ≤ 8) :
    Calls Tryd.prog 53 #[.int .i64 (n : Int), .int .i64 (k : Int)] w fun e w' => ∃ A' c', e = .returned (.slice A' k c') ∧ New w w' A' c' (lowB k n) ∧ Below w.heap.size w w' := by
  have hmk := fun W => make_b W k (by omega)
  go_enter Tryd.func53, Tryd.ntmps53
  go_wp2
  go_loopw [6, 11] (fun _ i wr => ∃ j : Nat, j ≤ k ∧ i = .int .i64 (j : Int) ∧ Below w.heap.size w wr ∧ Blk wr w.heap.size 5 ((lowB j n ++ List.replicate (k - j) 0).map bv).toArray) (fun _ i _ => k - (intOf i).toNat)
  case atStart =>
    refine ⟨0, Nat.zero_le _, rfl, (Below.refl _ _).alloc (Nat.le_refl _) _, ?_⟩
    have := Blk.new w 5 (madeCells #[.int .u8 0] k)
    rw [made_zeros'] at this ⊢
    exact this
  case round =>
    obtain ⟨j, hj, rfl, hb, hblk⟩ := hrel
    by_cases hlt : j < k
    · have hf := hblk.free j
      have hc : wr.cell? ⟨w.heap.size, j, none⟩ = some (.int .u8 0) := by
        rw [hblk.cell]
        have hl := lowB_length j n
        rw [List.getElem?_toArray, List.getElem?_map, List.getElem?_append_right (by omega), hl, Nat.sub_self, List.getElem?_replicate, if_pos (by omega)]
        rfl
      have hji : (j : Int) < (k : Int) := by omega
      have hval := Lib.hid (low_cast n j)
      have hset := set_mid (lowB j n) (k - j) (by omega) (n / 256 ^ j).toUInt8
      rw [lowB_length, ← lowB_succ, Nat.sub_sub] at hset
      have Hset := Lib.hid hset
      clear hset
      go_wp2
      go_roundw
      case rel =>
        refine ⟨j + 1, by omega, by go_num, hb.setCell (by simp) _, ?_⟩
        rw [hval.out, ← Hset.out]
        exact hblk.put j _
      case measure => simp [intOf]; omega
    · obtain rfl : j = k := by omega
      go_wp2
      go_ret
      rw [Nat.sub_self, List.replicate_zero, List.append_nil] at hblk
      have := New.of_blk (w := w) hblk (Nat.le_refl _) (by rw [lowB_length]; unfold maxLen; omega)
      rw [lowB_length] at this
      exact ⟨_, _, rfl, this, hb⟩

/-- one byte more of a number, the lowest first -/
theorem low_step (b : UInt8) (k N : Nat) (hk : k < 8) (hN : N < 256 ^ k) : ∃ s N' : Nat, IntKind.u64.wrap ((b.toNat : Int) * 2 ^ (8 * k)) = (s : Int) ∧ bits .or .u64 (N : Int) (s : Int) = (N' : Int) ∧ N' = N + b.toNat * 256 ^ k ∧ (N' : Int) ≤ 18446744073709551615 := by
  have hb := b.toNat_lt
  have e : (256 : Nat) ^ k = 2 ^ (8 * k) := by rw [show (256 : Nat) = 2 ^ 8 from rfl, ← Nat.pow_mul]
  have hm : b.toNat * 256 ^ k ≤ 255 * 256 ^ k := Nat.mul_le_mul_right _ (by omega)
  have h7 : (256 : Nat) ^ k ≤ 256 ^ 7 := Nat.pow_le_pow_right (by omega) (by omega)
  have h7' : (256 : Nat) ^ 7 = 72057594037927936 := rfl
  have hor : (N ||| b.toNat * 256 ^ k) = N + b.toNat * 256 ^ k := by
    rw [Nat.or_comm, Nat.add_comm, e, Nat.mul_comm]
    exact (Nat.two_pow_add_eq_or_of_lt (by rw [← e]; exact hN) _).symm
  refine ⟨b.toNat * 256 ^ k, N + b.toNat * 256 ^ k, ?_, ?_, rfl, by omega⟩
  · have e2 : (b.toNat : Int) * 2 ^ (8 * k) = ((b.toNat * 256 ^ k : Nat) : Int) := by
      rw [e, Int.natCast_mul, Int.natCast_pow]; rfl
    rw [e2, IntKind.wrap_u64]
    omega
  · show IntKind.u64.wrap ((BitVec.ofInt 64 (N : Int) ||| BitVec.ofInt 64 ((b.toNat * 256 ^ k : Nat) : Int)).toNat : Int) = _
    have o : ∀ a : Nat, a < 18446744073709551616 → (BitVec.ofInt 64 (a : Int)).toNat = a := fun a ha => by simp [BitVec.toNat_ofInt]; omega
    rw [BitVec.toNat_or, o N (by omega), o _ (by omega), hor, IntKind.wrap_u64]
    omega

set_option maxHeartbeats 1000000 in
theorem fromlow_any (A : Option Addr) (n c : Nat) (bs : List UInt8) (w : World) (hn : n = bs.length) (hr : Rd w A (bs.map bv)) (h8 : bs.length ≤ 8) :
    Calls Tryd.prog 71 #[.slice A n c] w fun e w' => e = .returned (.int .u64 (ofLow bs : Int)) ∧ w = w' := by
  subst hn
  go_enter Tryd.func71, Tryd.ntmps71
  go_wp2
  go_loop [3, 8] (fun s i => ∃ k N : Nat, k ≤ bs.length ∧ i = .int .i64 (k : Int) ∧ s = .int .u64 (N : Int) ∧ N = ofLow (bs.take k)) (fun _ i => bs.length - (intOf i).toNat)
  case atStart => exact ⟨0, 0, Nat.zero_le _, rfl, rfl, rfl⟩
  case round =>
    obtain ⟨k, N, hk, rfl, rfl, hN⟩ := hrel
    by_cases hlt : k < bs.length
    · obtain ⟨ad, rfl, hc1⟩ := hr.at_ (k := k) (by simpa using hlt)
      simp only [List.getElem_map, bv] at hc1
      have hsucc := ofLow_take_succ bs k hlt
      rw [← hN] at hsucc
      have hlN : N < 256 ^ k := by rw [hN]; exact ofLow_lt_of (by simp; omega)
      obtain ⟨s, N', e1, e2, e3, e4⟩ := low_step bs[k] k N (by omega) hlN
      rw [← e3] at hsucc
      have Hsucc := Lib.hid hsucc
      have HN := Lib.hid hN
      clear hsucc hN e3 hlN
      have hb255 : (bs[k].toNat : Int) ≤ 255 := by have := bs[k].toNat_lt; omega
      generalize bs[k] = b at *
      go_wp2
      go_round
      case rel => exact ⟨k + 1, N', by omega, by go_num, rfl, Hsucc.out.symm⟩
      case measure => simp [intOf]; omega
    · obtain rfl : k = bs.length := by omega
      rw [List.take_length] at hN
      subst hN
      go_wp2
      go_ret
      exact ⟨rfl, rfl⟩

/-! ### the reference's eight, Four, FromFour -/
set_option maxHeartbeats 1000000 in
theorem eight_any (n : Nat) (w : World) (hn : n < 9223372036854775808) :
    Calls Tryd.prog 55 #[.int .i64 (n : Int)] w fun e w' => ∃ A' c', e = .returned (.slice A' 8 c') ∧ New w w' A' c' (lowB 8 n) ∧ Below w.heap.size w w' := by
  go_enter Tryd.func55, Tryd.ntmps55
  go_wp2
  go_loopw [3, 4] (fun s i wr => ∃ (j : Nat) (A : Option Addr) (c : Nat), j ≤ 8 ∧ i = .int .i64 (j : Int) ∧ s = .slice A j c ∧ New w wr A c (lowB j n) ∧ Below w.heap.size w wr) (fun _ i _ => 8 - (intOf i).toNat)
  case atStart => exact ⟨0, none, 0, by omega, rfl, rfl, Own.none_ _ _ _, Below.refl _ _⟩
  case round =>
    obtain ⟨j, A, c, hj, rfl, rfl, hnew, hb⟩ := hrel
    by_cases hlt : j < 8
    · have hval := Lib.hid (low_cast n j)
      have hsucc := Lib.hid (lowB_succ j n)
      have hl := Lib.hid (show j = ((lowB j n).map bv).length by rw [List.length_map, lowB_length])
      have hk1 : j + 1 ≤ maxLen := by unfold maxLen; omega
      have hk2 : (j + 1) * 1 ≤ 140737488355328 := by omega
      go_wp2_with (at_builtin
                   refine wpList_app _ rfl (.tmp 9) (.tmp 16) _ rfl _ _ 1 Tryd.underlying22 info_u8 rfl A j c _ rfl hl.out (hnew.alloc _) (some ⟨wr.heap.size, 0, none⟩) 1 1 ([(n / 256 ^ j).toUInt8].map bv) rfl rfl ?_ (bvs_one _) hk1 hk2 ?_
                   · (show Rd _ _ [bv _]; rw [← hval.out]; exact Rd.lit _ #[_] _)
                   intro A2 c2 w2 hown2 honly2)
      go_roundw
      case rel =>
        obtain ⟨g1, g2⟩ := New.grow1 hb hown2 honly2
        exact ⟨j + 1, A2, c2, by omega, by go_num, rfl, by rw [hsucc.out]; exact g1, g2⟩
      case measure => simp [intOf]; omega
    · obtain rfl : j = 8 := by omega
      go_wp2
      go_ret
      exact ⟨A, c, rfl, hnew, hb⟩

theorem four_get (n : Nat) (hn : n < 4294967296) : ((lowB 4 n).map bv).toArray = #[.int .u8 ((n : Int) % 256), .int .u8 ((n : Int) / 256 % 256), .int .u8 ((n : Int) / 65536 % 256), .int .u8 ((n : Int) / 16777216)] := by
  have h := low_cast n
  have e : lowB 4 n = [(n / 256 ^ 0).toUInt8, (n / 256 ^ 1).toUInt8, (n / 256 ^ 2).toUInt8, (n / 256 ^ 3).toUInt8] := rfl
  rw [e]
  simp only [List.map_cons, List.map_nil]
  rw [← h 0, ← h 1, ← h 2, ← h 3, show (n : Int) / 16777216 = (n : Int) / 2 ^ (8 * 3) % 256 by omega]
  simp
theorem four_any (n : Nat) (w : World) (hn : n < 4294967296) :
    Calls Tryd.prog 56 #[.int .u32 (n : Int)] w fun e w' => ∃ A' c', e = .returned (.slice A' 4 c') ∧ New w w' A' c' (lowB 4 n) ∧ Below w.heap.size w w' := by
  have hg := Lib.hid (four_get n hn)
  go_enter Tryd.func56, Tryd.ntmps56
  go_wp2
  go_ret
  have hb : Below w.heap.size w (w.alloc (.cells ((lowB 4 n).map bv).toArray 5)) := (Below.refl _ _).alloc (Nat.le_refl _) _
  have hn' : New w (w.alloc (.cells ((lowB 4 n).map bv).toArray 5)) (some ⟨w.heap.size, 0, none⟩) 4 (lowB 4 n) := by
    have := New.of_blk (w := w) (Blk.new w 5 ((lowB 4 n).map bv).toArray) (Nat.le_refl _) (by rw [lowB_length]; unfold maxLen; omega)
    rw [lowB_length] at this
    exact this
  rw [hg.out] at hb hn'
  exact ⟨_, _, rfl, hn', hb⟩
end Go.Proofs.YtlpjeopeboemmaaDoor
