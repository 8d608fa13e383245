/-
  Texts of this claim, joined (part 1): contracts and lemmas that the last text goes by. No statement of the seat is proved here.
-/
import Derived.Test.YtpjgkacekelkdaaGreatDoorAll0
set_option linter.unusedVariables false
set_option linter.unusedSimpArgs false
/-
  The contracts of octet's NewReader, firstNum and Reader. No statement of the seat is proved here.
-/
namespace Go.Proofs.YtpjgkacekelkdaaGreatDoor
open Go Go.RowKit

theorem i64_or_nat (a b : Nat) (ha : a < 9223372036854775808) (hb : b < 9223372036854775808) : bits .or .i64 (a : Int) (b : Int) = ((a ||| b : Nat) : Int) := by
  have hx : a ||| b < 2 ^ 63 := Nat.or_lt_two_pow (by omega) (by omega)
  show IntKind.i64.wrap ((BitVec.ofInt 64 (a : Int) ||| BitVec.ofInt 64 (b : Int)).toNat : Int) = _
  rw [BitVec.toNat_or, ofInt_u64 a (by omega), ofInt_u64 b (by omega), IntKind.wrap_i64]
  omega

/-- one byte more of a number, in the walk's own words -/
theorem num_step (b : UInt8) (k N : Nat) (hk : k ≤ 8) (hN : N < 128 ^ k) : ∃ m s N' : Nat, (m : Int) ≤ 127 ∧ bits .and .u8 (b.toNat : Int) 127 = (m : Int) ∧ wrap64 ((m : Int) * 2 ^ (7 * k)) = (s : Int) ∧ bits .or .i64 (N : Int) (s : Int) = (N' : Int) ∧
    N' = N + b.toNat % 128 * 128 ^ k ∧ N' < 128 ^ (k + 1) ∧ (N' : Int) ≤ 9223372036854775807 := by
  have hb := b.toNat_lt
  have h1 := u8_and_nat b.toNat 127 (by omega) (by omega)
  rw [nat_mask7] at h1
  have e : (128 : Nat) ^ k = 2 ^ (7 * k) := by rw [show (128 : Nat) = 2 ^ 7 from rfl, ← Nat.pow_mul]
  have hm : b.toNat % 128 * 128 ^ k ≤ 127 * 128 ^ k := Nat.mul_le_mul_right _ (by omega)
  have hp : 128 ^ (k + 1) = 128 * 128 ^ k := by rw [Nat.pow_succ, Nat.mul_comm]
  have hk9 : 128 ^ (k + 1) ≤ 128 ^ 9 := Nat.pow_le_pow_right (by omega) (by omega)
  have h9 : (128 : Nat) ^ 9 = 9223372036854775808 := rfl
  have hlt : N + b.toNat % 128 * 128 ^ k < 128 ^ (k + 1) := by omega
  refine ⟨b.toNat % 128, b.toNat % 128 * 128 ^ k, N + b.toNat % 128 * 128 ^ k, by omega, h1, ?_, ?_, rfl, hlt, by omega⟩
  · have e2 : ((b.toNat % 128 : Nat) : Int) * 2 ^ (7 * k) = ((b.toNat % 128 * 128 ^ k : Nat) : Int) := by
      rw [e, Int.natCast_mul, Int.natCast_pow]; rfl
    rw [e2, IntWalk.wrap64_in _ ⟨by omega, by omega⟩]
  · rw [i64_or_nat N _ (by omega) (by omega), Nat.or_comm, nat_join (7 * k) _ N (by rw [e]; exact Nat.mul_mod_left _ _) (by rw [← e]; exact hN), Nat.add_comm]

theorem scan_more (i n : Nat) (c : UInt8) (r : List UInt8) (hi : i ≤ 8) (h : 127 < c.toNat) : scan i n (c :: r) = scan (i + 1) (n + c.toNat % 128 * 128 ^ i) r := by rw [scan, if_neg (by omega), if_pos h]
theorem scan_bad (i n : Nat) (c : UInt8) (r : List UInt8) (hi : i ≤ 8) (h : ¬ 127 < c.toNat) (hb : 4611686018427387904 < n + c.toNat % 128 * 128 ^ i ∨ (0 < i ∧ c.toNat = 0)) : scan i n (c :: r) = none := by rw [scan, if_neg (by omega), if_neg h, if_pos hb]
theorem scan_good (i n : Nat) (c : UInt8) (r : List UInt8) (hi : i ≤ 8) (h : ¬ 127 < c.toNat) (hb : ¬ (4611686018427387904 < n + c.toNat % 128 * 128 ^ i ∨ (0 < i ∧ c.toNat = 0))) : scan i n (c :: r) = some (n + c.toNat % 128 * 128 ^ i, i + 1) := by rw [scan, if_neg (by omega), if_neg h, if_neg hb]
theorem scan_nine (n : Nat) (xs : List UInt8) : scan 9 n xs = none := by cases xs <;> simp [scan]

set_option maxRecDepth 100000 in
set_option maxHeartbeats 4000000 in
theorem first_any (A : Option Addr) (n c : Nat) (xs : List UInt8) (R : Option (Nat × Nat)) (w : World) (hn : n = xs.length) (hc : xs.length ≤ c) (hr : Rd w A (xs.map bv)) (hR : num? xs = R) (hb : xs.length ≤ 1099511627776) :
    Calls Tryz.prog 64 #[.slice A n c] w fun e w' => e = .returned (.tuple #[.int .i64 (resN R : Int), .int .i64 (resK R : Int)]) ∧ w = w' := by
  subst hn
  have HR := Lib.hid hR
  clear hR
  by_cases hlen : xs.length ≤ 9
  · go_enter Tryz.func64, Tryz.ntmps64
    go_wp2
    go_loop [2, 12] (fun s i => ∃ k N : Nat, k ≤ xs.length ∧ i = .int .i64 (k : Int) ∧ s = .int .i64 (N : Int) ∧ N < 128 ^ k ∧ scan k N (xs.drop k) = R) (fun _ i => xs.length - (intOf i).toNat)
    case atStart => exact ⟨0, 0, Nat.zero_le _, rfl, rfl, by simp, HR.out⟩
    case round =>
      obtain ⟨k, N, hk, rfl, rfl, hN, hs⟩ := hrel
      have Hs := Lib.hid hs
      have HN := Lib.hid hN
      clear hs hN
      by_cases hlt : k < xs.length
      · have hlt' : k < xs.length := by omega
        obtain ⟨ad, rfl, hc1⟩ := hr.at_ (k := k) (by simpa using hlt')
        simp only [List.getElem_map, bv] at hc1
        have hk8 : k ≤ 8 := by omega
        obtain ⟨m1, s1, N1, lm, e1, e2, e3, hN1, hN2, lN⟩ := num_step xs[k] k N hk8 HN.out
        have hd := List.drop_eq_getElem_cons hlt'
        have Hd : Hid (scan k N (xs[k] :: xs.drop (k + 1)) = R) := by rw [← hd]; exact Hs.out
        have HN1 := Lib.hid hN1
        have HN2 := Lib.hid hN2
        clear hd hN1 hN2
        generalize xs[k] = b at *
        by_cases hb1 : 127 < b.toNat
        · have hb2 : (127 : Int) < (b.toNat : Int) := by omega
          go_wp2
          go_round
          case rel => exact ⟨k + 1, N1, by omega, by go_num, rfl, HN2.out, by rw [HN1.out, ← scan_more k N b _ hk8 hb1]; exact Hd.out⟩
          case measure => simp [intOf]; omega
        · have hb2 : (b.toNat : Int) ≤ 127 := by omega
          have hbn : decide ((127 : Int) < (b.toNat : Int)) = false := decide_eq_false (by omega)
          by_cases g1 : 4611686018427387904 < N1
          · have hRn := scan_bad k N b (xs.drop (k + 1)) hk8 hb1 (.inl (by rw [← HN1.out]; exact g1))
            rw [Hd.out] at hRn
            have HRn := Lib.hid hRn
            have g2 : (4611686018427387904 : Int) < (N1 : Int) := by omega
            clear hRn
            go_wp2
            go_ret2
            exact ⟨by rw [HRn.out]; rfl, rfl⟩
          · have g2 : (N1 : Int) ≤ 4611686018427387904 := by omega
            have g2n : decide ((4611686018427387904 : Int) < (N1 : Int)) = false := decide_eq_false (by omega)
            by_cases g3 : 0 < k ∧ b.toNat = 0
            · have hRn := scan_bad k N b (xs.drop (k + 1)) hk8 hb1 (.inr g3)
              rw [Hd.out] at hRn
              have HRn := Lib.hid hRn
              have g4 : (0 : Int) < (k : Int) := by omega
              have g4n : decide ((0 : Int) < (k : Int)) = true := decide_eq_true g4
              have g5 : ((b.toNat : Int) == 0) = true := beq_iff_eq.2 (by omega)
              clear hRn g3
              go_wp2
              go_ret2
              exact ⟨by rw [HRn.out]; rfl, rfl⟩
            · have hRs := scan_good k N b (xs.drop (k + 1)) hk8 hb1 (by rw [← HN1.out]; intro h; rcases h with h | h; exact g1 h; exact g3 h)
              rw [Hd.out, ← HN1.out] at hRs
              have HRs := Lib.hid hRs
              by_cases g4 : 0 < k
              · have g4i : (0 : Int) < (k : Int) := by omega
                have g4n : decide ((0 : Int) < (k : Int)) = true := decide_eq_true g4i
                have g5 : ((b.toNat : Int) == 0) = false := beq_eq_false_iff_ne.2 (by omega)
                clear hRs g3
                go_wp2
                go_ret2
                exact ⟨by rw [HRs.out]; rfl, rfl⟩
              · have g4n : decide ((0 : Int) < (k : Int)) = false := decide_eq_false (by omega)
                clear hRs g3
                go_wp2
                go_ret2
                exact ⟨by rw [HRs.out]; rfl, rfl⟩
      · obtain rfl : k = xs.length := by omega
        have hRn : R = none := by
          rw [← Hs.out]; rw [List.drop_length]; rfl
        have HRn := Lib.hid hRn
        clear hRn
        go_wp2
        go_ret2
        exact ⟨by rw [HRn.out]; rfl, rfl⟩
  · go_enter Tryz.func64, Tryz.ntmps64
    go_wp2
    go_loop [2, 12] (fun s i => ∃ k N : Nat, k ≤ 9 ∧ i = .int .i64 (k : Int) ∧ s = .int .i64 (N : Int) ∧ N < 128 ^ k ∧ scan k N (xs.drop k) = R) (fun _ i => 9 - (intOf i).toNat)
    case atStart => exact ⟨0, 0, Nat.zero_le _, rfl, rfl, by simp, HR.out⟩
    case round =>
      obtain ⟨k, N, hk, rfl, rfl, hN, hs⟩ := hrel
      have Hs := Lib.hid hs
      have HN := Lib.hid hN
      clear hs hN
      by_cases hlt : k < 9
      · have hlt' : k < xs.length := by omega
        obtain ⟨ad, rfl, hc1⟩ := hr.at_ (k := k) (by simpa using hlt')
        simp only [List.getElem_map, bv] at hc1
        have hk8 : k ≤ 8 := by omega
        obtain ⟨m1, s1, N1, lm, e1, e2, e3, hN1, hN2, lN⟩ := num_step xs[k] k N hk8 HN.out
        have hd := List.drop_eq_getElem_cons hlt'
        have Hd : Hid (scan k N (xs[k] :: xs.drop (k + 1)) = R) := by rw [← hd]; exact Hs.out
        have HN1 := Lib.hid hN1
        have HN2 := Lib.hid hN2
        clear hd hN1 hN2
        generalize xs[k] = b at *
        by_cases hb1 : 127 < b.toNat
        · have hb2 : (127 : Int) < (b.toNat : Int) := by omega
          go_wp2
          go_round
          case rel => exact ⟨k + 1, N1, by omega, by go_num, rfl, HN2.out, by rw [HN1.out, ← scan_more k N b _ hk8 hb1]; exact Hd.out⟩
          case measure => simp [intOf]; omega
        · have hb2 : (b.toNat : Int) ≤ 127 := by omega
          have hbn : decide ((127 : Int) < (b.toNat : Int)) = false := decide_eq_false (by omega)
          by_cases g1 : 4611686018427387904 < N1
          · have hRn := scan_bad k N b (xs.drop (k + 1)) hk8 hb1 (.inl (by rw [← HN1.out]; exact g1))
            rw [Hd.out] at hRn
            have HRn := Lib.hid hRn
            have g2 : (4611686018427387904 : Int) < (N1 : Int) := by omega
            clear hRn
            go_wp2
            go_ret2
            exact ⟨by rw [HRn.out]; rfl, rfl⟩
          · have g2 : (N1 : Int) ≤ 4611686018427387904 := by omega
            have g2n : decide ((4611686018427387904 : Int) < (N1 : Int)) = false := decide_eq_false (by omega)
            by_cases g3 : 0 < k ∧ b.toNat = 0
            · have hRn := scan_bad k N b (xs.drop (k + 1)) hk8 hb1 (.inr g3)
              rw [Hd.out] at hRn
              have HRn := Lib.hid hRn
              have g4 : (0 : Int) < (k : Int) := by omega
              have g4n : decide ((0 : Int) < (k : Int)) = true := decide_eq_true g4
              have g5 : ((b.toNat : Int) == 0) = true := beq_iff_eq.2 (by omega)
              clear hRn g3
              go_wp2
              go_ret2
              exact ⟨by rw [HRn.out]; rfl, rfl⟩
            · have hRs := scan_good k N b (xs.drop (k + 1)) hk8 hb1 (by rw [← HN1.out]; intro h; rcases h with h | h; exact g1 h; exact g3 h)
              rw [Hd.out, ← HN1.out] at hRs
              have HRs := Lib.hid hRs
              by_cases g4 : 0 < k
              · have g4i : (0 : Int) < (k : Int) := by omega
                have g4n : decide ((0 : Int) < (k : Int)) = true := decide_eq_true g4i
                have g5 : ((b.toNat : Int) == 0) = false := beq_eq_false_iff_ne.2 (by omega)
                clear hRs g3
                go_wp2
                go_ret2
                exact ⟨by rw [HRs.out]; rfl, rfl⟩
              · have g4n : decide ((0 : Int) < (k : Int)) = false := decide_eq_false (by omega)
                clear hRs g3
                go_wp2
                go_ret2
                exact ⟨by rw [HRs.out]; rfl, rfl⟩
      · obtain rfl : k = 9 := by omega
        have hRn : R = none := by
          rw [← Hs.out]; exact scan_nine _ _
        have HRn := Lib.hid hRn
        clear hRn
        go_wp2
        go_ret2
        exact ⟨by rw [HRn.out]; rfl, rfl⟩
end Go.Proofs.YtpjgkacekelkdaaGreatDoor

/-
  The contract of octet's (*Writer).num. No statement of the seat is proved here.
-/
namespace Go.Proofs.YtpjgkacekelkdaaGreatDoor
open Go Go.RowKit

theorem low_digit (n : Nat) (_ : ¬ n < 128) : Value.int .u8 (bits .or .u8 (bits .and .i64 (n : Int) 127 % 256) 128) = bv (n % 128 + 128).toUInt8 := by
  have h1 : bits .and .i64 (n : Int) 127 % 256 = ((n % 128 : Nat) : Int) := by rw [i64_and127]; omega
  have h2 : bits .or .u8 ((n % 128 : Nat) : Int) ((128 : Nat) : Int) = ((n % 128 ||| 128 : Nat) : Int) := u8_or_nat _ _ (by omega) (by omega)
  have h3 : n % 128 ||| 128 = n % 128 + 128 := by rw [Nat.or_comm, nat_join 7 128 (n % 128) rfl (by omega), Nat.add_comm]
  rw [h1]
  rw [show (128 : Int) = ((128 : Nat) : Int) from rfl, h2, h3]
  unfold bv
  rw [show (n % 128 + 128).toUInt8.toNat = n % 128 + 128 by simp [Nat.toUInt8, UInt8.toNat_ofNat']; omega]
theorem last_digit (n : Nat) (h : n < 128) : Value.int .u8 (n : Int) = bv n.toUInt8 := by
  unfold bv
  rw [show n.toUInt8.toNat = n by simp [Nat.toUInt8, UInt8.toNat_ofNat']; omega]

/-- the relation of num's loop -/
def NumRel (fp : Nat → Prop) (g : Nat) (N : Nat) (xs : List Value) (w : World) (n : Nat) (w1 : World) : Prop :=
  n ≤ 4611686018427387904 ∧ ∃ ds : List UInt8, ds ++ dig n = dig N ∧ Wr w1 (More fp w w1) g (xs ++ ds.map bv) ∧ Only fp w w1

theorem NumRel.put {fp : Nat → Prop} {g N : Nat} {xs : List Value} {w w1 w2 : World} {n : Nat} {ds : List UInt8} {d : UInt8} {o : Obj} (hn : n ≤ 4611686018427387904) (he : ds ++ dig n = dig N) (ho : Only fp w w1) (hd : dig n = d :: dig (n / 128))
    (h1 : Wr w2 (More (More fp w w1) (w1.alloc o) w2) g ((xs ++ ds.map bv) ++ [bv d])) (h2 : Only (More fp w w1) (w1.alloc o) w2) : NumRel fp g N xs w (n / 128) w2 := by
  refine ⟨by omega, ds ++ [d], by rw [List.append_assoc, List.singleton_append, ← hd, he], ?_, ?_⟩
  · have e : xs ++ (ds ++ [d]).map bv = (xs ++ ds.map bv) ++ [bv d] := by simp
    rw [e]
    refine h1.mono (fun k hk _ => ?_)
    rcases hk with (hk | hk) | hk
    · exact .inl hk
    · exact .inr ⟨hk.1, by have := h2.size; simp at this; omega⟩
    · exact .inr ⟨by have := ho.size; have := hk.1; simp at this; omega, hk.2⟩
  · exact (ho.alloc o).trans h2 (fun k hk hm => by
      rcases hm with hm | hm
      · exact hm
      · omega)

theorem NumRel.end_ {fp : Nat → Prop} {g N : Nat} {xs : List Value} {w w1 w2 : World} {n : Nat} {ds : List UInt8} {o : Obj} (he : ds ++ dig n = dig N) (ho : Only fp w w1) (hn : n < 128)
    (h1 : Wr w2 (More (More fp w w1) (w1.alloc o) w2) g ((xs ++ ds.map bv) ++ [bv n.toUInt8])) (h2 : Only (More fp w w1) (w1.alloc o) w2) :
    Wr w2 (More fp w w2) g (xs ++ (dig N).map bv) ∧ Only fp w w2 := by
  have e : xs ++ (dig N).map bv = (xs ++ ds.map bv) ++ [bv n.toUInt8] := by rw [← he, dig_lt hn]; simp
  refine ⟨?_, ?_⟩
  · rw [e]
    refine h1.mono (fun k hk _ => ?_)
    rcases hk with (hk | hk) | hk
    · exact .inl hk
    · exact .inr ⟨hk.1, by have := h2.size; simp at this; omega⟩
    · exact .inr ⟨by have := ho.size; have := hk.1; simp at this; omega, hk.2⟩
  · exact (ho.alloc o).trans h2 (fun k hk hm => by
      rcases hm with hm | hm
      · exact hm
      · omega)

theorem NumRel.len {n : Nat} {v : Int} {ds : List UInt8} (he : ds ++ dig n = dig (clamp v)) : (ds.map bv).length ≤ 8 := by
  have h1 := dig_clamp_len v
  have h2 := dig_pos n
  rw [← he, List.length_append] at h1
  rw [List.length_map]
  omega

set_option maxHeartbeats 1000000 in
theorem num_any (fp : Nat → Prop) (g : Nat) (v : Int) (xs : List Value) (w : World) (hw : Wr w fp g xs) (hv1 : -9223372036854775808 ≤ v) (hv2 : v ≤ 9223372036854775807) (hb : xs.length ≤ 549755813888) :
    Calls Tryz.prog 51 #[.pointer (some ⟨g, 0, none⟩), .int .i64 v] w fun e w' => e = .returned (.tuple #[]) ∧ Wr w' (More fp w w') g (xs ++ (dig (clamp v)).map bv) ∧ Only fp w w' := by
  have hcase : v < 0 ∨ (0 ≤ v ∧ v ≤ 4611686018427387904) ∨ 4611686018427387904 < v := by omega
  rcases hcase with ha | ⟨ha, hc⟩ | ha
  all_goals
    go_enter Tryz.func51, Tryz.ntmps51
    go_wp2
    go_loopw [4] (fun r w1 => ∃ n : Nat, r = .int .i64 (n : Int) ∧ NumRel fp g (clamp v) xs w n w1) (fun r _ => (intOf r).toNat)
    case atStart => exact ⟨clamp v, congrArg (Value.int .i64) (by unfold clamp; omega), clamp_le v, [], rfl, by simpa using hw.mono (fun k hk _ => .inl hk), Only.refl _ _⟩
    case round =>
      obtain ⟨n, rfl, hn, ds, he, hw1, ho⟩ := hrel
      have hl := NumRel.len he
      have He := Lib.hid he
      clear he
      by_cases hlt : n < 128
      · go_wp2_with fail
        rw [last_digit n hlt]
        refine (raw_any _ g _ 1 1 (xs ++ ds.map bv) [bv n.toUInt8] _ (hw1.alloc _) rfl (Rd.lit _ _ _) (by simp [bv_one]) (by simp at hl ⊢; omega)).mono ?_
        rintro e w2 ⟨rfl, h1, h2⟩
        go_wp2
        go_end0
        exact ⟨rfl, NumRel.end_ He.out ho hlt h1 h2⟩
      · go_wp2_with fail
        rw [low_digit n hlt]
        refine (raw_any _ g _ 1 1 (xs ++ ds.map bv) [bv (n % 128 + 128).toUInt8] _ (hw1.alloc _) rfl (Rd.lit _ _ _) (by simp [bv_one]) (by simp at hl ⊢; omega)).mono ?_
        rintro e w2 ⟨rfl, h1, h2⟩
        go_wp2
        go_roundw
        case rel => exact ⟨n / 128, by go_num, NumRel.put hn He.out ho (dig_ge hlt) h1 h2⟩
        case measure => simp [intOf]; omega
end Go.Proofs.YtpjgkacekelkdaaGreatDoor

/-
  The contracts of octet's (*Writer).Nums, Bytes, Out. No statement of the seat is proved here.
-/
namespace Go.Proofs.YtpjgkacekelkdaaGreatDoor
open Go Go.RowKit

/-- numbers as bytes -/
def numsB (vs : List Int) : List UInt8 := vs.flatMap fun v => dig (clamp v)
def numsTo (vs : List Int) (k : Nat) : List UInt8 := numsB (vs.take k)
theorem numsTo_succ (vs : List Int) (k : Nat) (h : k < vs.length) : numsTo vs (k + 1) = numsTo vs k ++ dig (clamp vs[k]) := by
  unfold numsTo numsB
  rw [List.take_succ_eq_append_getElem h, List.flatMap_append]; simp
theorem numsTo_all (vs : List Int) : numsTo vs vs.length = numsB vs := by unfold numsTo; rw [List.take_length]
theorem numsTo_len (vs : List Int) : ∀ k, (numsTo vs k).length ≤ 9 * k
  | 0 => by simp [numsTo, numsB]
  | k + 1 => by
    have ih := numsTo_len vs k
    by_cases h : k < vs.length
    · rw [numsTo_succ vs k h, List.length_append]
      have := dig_clamp_len vs[k]
      omega
    · have e : numsTo vs (k + 1) = numsTo vs k := by unfold numsTo; rw [List.take_of_length_le (by omega), List.take_of_length_le (by omega)]
      rw [e]; omega

set_option maxHeartbeats 1000000 in
theorem nums_any (fp : Nat → Prop) (g : Nat) (A : Option Addr) (n c : Nat) (vs : List Int) (xs : List Value) (w : World) (hw : Wr w fp g xs) (hn : n = vs.length) (hr : RdF fp w A (vs.map iv)) (hi : ∀ v ∈ vs, isInt v)
    (hb : xs.length + 9 * vs.length ≤ 549755813888) :
    Calls Tryz.prog 19 #[.pointer (some ⟨g, 0, none⟩), .slice A n c] w fun e w' => e = .returned (.tuple #[]) ∧ Wr w' (More fp w w') g (xs ++ (numsB vs).map bv) ∧ Only fp w w' := by
  subst hn
  go_enter Tryz.func19, Tryz.ntmps19
  go_wp2
  go_loopw [8] (fun i w1 => ∃ k : Nat, k ≤ vs.length ∧ i = .int .i64 (k : Int) ∧ Wr w1 (More fp w w1) g (xs ++ (numsTo vs k).map bv) ∧ Only fp w w1) (fun i _ => vs.length - (intOf i).toNat)
  case atStart => exact ⟨0, Nat.zero_le _, rfl, by simpa [numsTo, numsB] using hw.mono (fun k hk _ => .inl hk), Only.refl _ _⟩
  case round =>
    obtain ⟨k, hk, rfl, hw1, ho⟩ := hrel
    by_cases hlt : k < vs.length
    · obtain ⟨ad, rfl, hc⟩ := (hr.only ho).1.at_ (k := k) (by simpa using hlt)
      simp only [List.getElem_map, iv] at hc
      have hik := hi vs[k] (List.getElem_mem hlt)
      have hlen := numsTo_len vs k
      have hs := Lib.hid (numsTo_succ vs k hlt)
      go_wp2_with fail
      refine (num_any _ g _ _ _ hw1 hik.1 hik.2 (by simp at hlen ⊢; omega)).mono ?_
      rintro e w2 ⟨rfl, h1, h2⟩
      go_wp2
      go_roundw
      case rel => exact ⟨k + 1, by omega, by go_num, by rw [hs.out, List.map_append, ← List.append_assoc]; exact Wr.join ho.size (Nat.le_refl _) h2.size h1, ho.join h2⟩
      case measure => simp [intOf]; omega
    · obtain rfl : k = vs.length := by omega
      rw [numsTo_all] at hw1
      go_wp2
      go_end0
      exact ⟨rfl, hw1, ho⟩

/-- rows as bytes, each with its length -/
def rowsB (xss : List (List UInt8)) : List UInt8 := xss.flatMap fun xs => dig xs.length ++ xs
def rowsTo (xss : List (List UInt8)) (k : Nat) : List UInt8 := rowsB (xss.take k)
theorem rowsTo_succ (xss : List (List UInt8)) (k : Nat) (h : k < xss.length) : rowsTo xss (k + 1) = rowsTo xss k ++ dig xss[k].length ++ xss[k] := by
  unfold rowsTo rowsB
  rw [List.take_succ_eq_append_getElem h, List.flatMap_append]; simp
theorem rowsTo_all (xss : List (List UInt8)) : rowsTo xss xss.length = rowsB xss := by unfold rowsTo; rw [List.take_length]
theorem rowsTo_le (xss : List (List UInt8)) (k : Nat) : (rowsTo xss k).length ≤ (rowsB xss).length := by
  have h : rowsB xss = rowsTo xss k ++ rowsB (xss.drop k) := by unfold rowsTo rowsB; rw [← List.flatMap_append, List.take_append_drop]
  rw [h, List.length_append]; omega

set_option maxHeartbeats 1000000 in
theorem bytes_any (fp : Nat → Prop) (g : Nat) (A : Option Addr) (n c : Nat) (xss : List (List UInt8)) (xs : List Value) (w : World) (hw : Wr w fp g xs) (hn : n = xss.length) (hr : RowsF fp w A xss)
    (hb : xs.length + (rowsB xss).length ≤ 549755813888) (hb2 : xss.length ≤ 549755813888) :
    Calls Tryz.prog 20 #[.pointer (some ⟨g, 0, none⟩), .slice A n c] w fun e w' => e = .returned (.tuple #[]) ∧ Wr w' (More fp w w') g (xs ++ (rowsB xss).map bv) ∧ Only fp w w' := by
  subst hn
  go_enter Tryz.func20, Tryz.ntmps20
  go_wp2
  go_loopw [8] (fun i w1 => ∃ k : Nat, k ≤ xss.length ∧ i = .int .i64 (k : Int) ∧ Wr w1 (More fp w w1) g (xs ++ (rowsTo xss k).map bv) ∧ Only fp w w1) (fun i _ => xss.length - (intOf i).toNat)
  case atStart => exact ⟨0, Nat.zero_le _, rfl, by simpa [rowsTo, rowsB] using hw.mono (fun k hk _ => .inl hk), Only.refl _ _⟩
  case round =>
    obtain ⟨k, hk, rfl, hw1, ho⟩ := hrel
    by_cases hlt : k < xss.length
    · obtain ⟨ad, B, cb, rfl, hcell, hl, hrd⟩ := (hr.more ho).at_ hlt
      have hlen := rowsTo_le xss (k + 1)
      rw [rowsTo_succ xss k hlt] at hlen
      simp only [List.length_append] at hlen
      have hs := Lib.hid (rowsTo_succ xss k hlt)
      have hcl := Lib.hid (clamp_of_nat (n := xss[k].length) (by omega))
      go_wp2_with fail
      refine (num_any _ g _ _ _ hw1 (by omega) (by omega) (by simp; omega)).mono ?_
      rintro e w2 ⟨rfl, h1, h2⟩
      rw [hcl.out] at h1
      have h1' := Wr.join ho.size (Nat.le_refl _) h2.size h1
      have ho2 := ho.join h2
      go_wp2_with fail
      refine (raw_any _ g B _ cb _ (xss[k].map bv) _ h1' (by simp) (hrd.only h2).1 (bvs_one _) (by simp; omega)).mono ?_
      rintro e w3 ⟨rfl, h3, h4⟩
      go_wp2
      go_roundw
      case rel => exact ⟨k + 1, by omega, by go_num, by rw [hs.out, List.map_append, List.map_append, ← List.append_assoc, ← List.append_assoc]; exact Wr.join ho2.size (Nat.le_refl _) h4.size h3, ho2.join h4⟩
      case measure => simp [intOf]; omega
    · obtain rfl : k = xss.length := by omega
      rw [rowsTo_all] at hw1
      go_wp2
      go_end0
      exact ⟨rfl, hw1, ho⟩

set_option maxHeartbeats 1000000 in
theorem out_any (fp : Nat → Prop) (g : Nat) (bs : List UInt8) (w : World) (hw : Wr w fp g (bs.map bv)) (hb : bs.length ≤ 1099511627776) :
    Calls Tryz.prog 50 #[.pointer (some ⟨g, 0, none⟩)] w fun e w' => ∃ A' c', e = .returned (.slice A' bs.length c') ∧ New w w' A' c' bs ∧ Below w.heap.size w w' := by
  obtain ⟨hg, A, c, hblk, hown⟩ := hw
  have h0 := hblk.cell 0
  simp only [List.getElem?_toArray, List.getElem?_cons_zero, List.length_map] at h0
  have hcap := hown.cap
  rw [List.length_map] at hcap
  go_enter Tryz.func50, Tryz.ntmps50
  go_wp2_with fail
  refine (join_any _ 1 1 [bs] bs _ rfl (by simp) (RowsF.one (RdF.of hown.rd) hcap _ rfl id) hb (by simp)).mono ?_
  rintro e w' ⟨A', c', rfl, hnew, hbel⟩
  go_wp2
  go_ret
  exact ⟨A', c', rfl, hnew.back (by simp), ((Below.refl _ _).alloc (Nat.le_refl _) _).trans (hbel.mono (by simp))⟩
end Go.Proofs.YtpjgkacekelkdaaGreatDoor

/-
  The contracts of a Reader's Left, Whole, Num. No statement of the seat is proved here.
-/
namespace Go.Proofs.YtpjgkacekelkdaaGreatDoor
open Go Go.RowKit

set_option maxHeartbeats 1000000 in
/-- Num, where a number stands, or none, or behind an error -/
theorem rnum_ok (fp : Nat → Prop) (g : Nat) (bs : List UInt8) (n k : Nat) (w : World) (h : Rdr w fp g bs false) (hs : num? bs = some (n, k)) (hk0 : 0 < k) (hk : k ≤ bs.length) (hb : bs.length ≤ 1099511627776) :
    Calls Tryz.prog 34 #[.pointer (some ⟨g, 0, none⟩)] w fun e w' => e = .returned (.int .i64 (n : Int)) ∧ Rdr w' fp g (bs.drop k) false ∧ Only (fun k => k = g) w w' := by
  have h' := h
  obtain ⟨hg, _, A, c, hblk, hr, ha, hc⟩ := h
  have h0 := hblk.cell 0
  have h1 := hblk.cell 1
  simp only [List.getElem?_toArray, List.getElem?_cons_zero, List.getElem?_cons_succ] at h0 h1
  have f0 := hblk.free 0
  have k1 : ((k : Int) == 0) = false := beq_eq_false_iff_ne.2 (by omega)
  have Hs := Lib.hid hs
  clear hs
  go_enter Tryz.func34, Tryz.ntmps34
  go_wp2_with fail
  refine (rgood fp g bs false _ h').mono ?_
  rintro e w' ⟨rfl, rfl⟩
  go_wp2_with fail
  refine (first_any A _ c bs (some (n, k)) _ rfl hc hr Hs.out hb).mono ?_
  rintro e w' ⟨rfl, rfl⟩
  rw [show resN (some (n, k)) = n from rfl, show resK (some (n, k)) = k from rfl]
  go_wp2
  · have hck : c = k := by assumption
    go_ret
    exact ⟨rfl, Rdr.cut hg hblk hr ha hc hk (.inl hck) (by omega)⟩
  · go_ret
    exact ⟨rfl, Rdr.cut hg hblk hr ha hc hk (.inr rfl) (by omega)⟩

set_option maxHeartbeats 1000000 in
theorem rnum_none (fp : Nat → Prop) (g : Nat) (bs : List UInt8) (w : World) (h : Rdr w fp g bs false) (hs : num? bs = none) (hb : bs.length ≤ 1099511627776) :
    Calls Tryz.prog 34 #[.pointer (some ⟨g, 0, none⟩)] w fun e w' => e = .returned (.int .i64 0) ∧ Rdr w' fp g [] true ∧ Only (fun k => k = g) w w' := by
  have h' := h
  obtain ⟨hg, _, A, c, hblk, hr, ha, hc⟩ := h
  have h0 := hblk.cell 0
  have h1 := hblk.cell 1
  simp only [List.getElem?_toArray, List.getElem?_cons_zero, List.getElem?_cons_succ] at h0 h1
  have Hs := Lib.hid hs
  clear hs
  go_enter Tryz.func34, Tryz.ntmps34
  go_wp2_with fail
  refine (rgood fp g bs false _ h').mono ?_
  rintro e w' ⟨rfl, rfl⟩
  go_wp2_with fail
  refine (first_any A _ c bs none _ rfl hc hr Hs.out hb).mono ?_
  rintro e w' ⟨rfl, rfl⟩
  rw [show resN none = 0 from rfl, show resK none = 0 from rfl]
  go_wp2_with fail
  refine (rbad fp g bs false _ h').mono ?_
  rintro e w2 ⟨rfl, hrd, ho⟩
  go_wp2
  go_ret
  exact ⟨rfl, hrd, ho⟩
theorem rnum_dead (fp : Nat → Prop) (g : Nat) (bs : List UInt8) (w : World) (h : Rdr w fp g bs true) :
    Calls Tryz.prog 34 #[.pointer (some ⟨g, 0, none⟩)] w fun e w' => e = .returned (.int .i64 0) ∧ w = w' := by
  go_enter Tryz.func34, Tryz.ntmps34
  go_wp2_with fail
  refine (rgood fp g bs true _ h).mono ?_
  rintro e w' ⟨rfl, rfl⟩
  go_wp2
  go_ret
  exact ⟨rfl, rfl⟩

end Go.Proofs.YtpjgkacekelkdaaGreatDoor

/-
  The contract of octet's (*Reader).Bytes. No statement of the seat is proved here.
-/
namespace Go.Proofs.YtpjgkacekelkdaaGreatDoor
open Go Go.RowKit

set_option maxHeartbeats 1000000 in
/-- a row stands there whole -/
theorem rbytes_ok (fp : Nat → Prop) (g : Nat) (bs : List UInt8) (n k : Nat) (w : World) (h : Rdr w fp g bs false) (hs : num? bs = some (n, k)) (hk0 : 0 < k) (hk : k ≤ bs.length) (hn : n ≤ (bs.drop k).length) (hb : bs.length ≤ 1099511627776) :
    Calls Tryz.prog 36 #[.pointer (some ⟨g, 0, none⟩)] w fun e w' => ∃ A' c', e = .returned (.slice A' n c') ∧ New w w' A' c' ((bs.drop k).take n) ∧ Rdr w' fp g ((bs.drop k).drop n) false ∧ Only (fun k => k = g) w w' := by
  have Hs := Lib.hid hs
  clear hs

  go_enter Tryz.func36, Tryz.ntmps36
  go_wp2_with fail
  refine (rnum_ok fp g bs n k _ h Hs.out hk0 hk hb).mono ?_
  rintro e w1 ⟨rfl, h1, o1⟩
  go_wp2_with fail
  refine (rraw_ok fp g (bs.drop k) n _ h1 hn (by simp; omega)).mono ?_
  rintro e w2 ⟨A', c', rfl, hnew, h2, o2⟩
  go_wp2
  go_ret
  exact ⟨A', c', rfl, hnew.back o1.size, h2, o1.trans o2 (fun _ _ h => h)⟩
set_option maxHeartbeats 1000000 in
/-- the number is there, the row is not -/
theorem rbytes_short (fp : Nat → Prop) (g : Nat) (bs : List UInt8) (n k : Nat) (w : World) (h : Rdr w fp g bs false) (hs : num? bs = some (n, k)) (hk0 : 0 < k) (hk : k ≤ bs.length) (hn : (bs.drop k).length < n) (hi : isInt n) (hb : bs.length ≤ 1099511627776) :
    Calls Tryz.prog 36 #[.pointer (some ⟨g, 0, none⟩)] w fun e w' => e = .returned (.slice none 0 0) ∧ Rdr w' fp g [] true ∧ Only (fun k => k = g) w w' := by
  have Hs := Lib.hid hs
  clear hs
  go_enter Tryz.func36, Tryz.ntmps36
  go_wp2_with fail
  refine (rnum_ok fp g bs n k _ h Hs.out hk0 hk hb).mono ?_
  rintro e w1 ⟨rfl, h1, o1⟩
  go_wp2_with fail
  refine (rraw_none fp g (bs.drop k) n _ h1 hi (.inr (by omega)) (by simp; omega)).mono ?_
  rintro e w2 ⟨rfl, h2, o2⟩
  go_wp2
  go_ret
  exact ⟨rfl, h2, o1.trans o2 (fun _ _ h => h)⟩
set_option maxHeartbeats 1000000 in
/-- no number is there -/
theorem rbytes_none (fp : Nat → Prop) (g : Nat) (bs : List UInt8) (w : World) (h : Rdr w fp g bs false) (hs : num? bs = none) (hb : bs.length ≤ 1099511627776) :
    Calls Tryz.prog 36 #[.pointer (some ⟨g, 0, none⟩)] w fun e w' => e = .returned (.slice none 0 0) ∧ Rdr w' fp g [] true ∧ Only (fun k => k = g) w w' := by
  have Hs := Lib.hid hs
  clear hs
  go_enter Tryz.func36, Tryz.ntmps36
  go_wp2_with fail
  refine (rnum_none fp g bs _ h Hs.out hb).mono ?_
  rintro e w1 ⟨rfl, h1, o1⟩
  go_wp2_with fail
  refine (rraw_dead fp g [] 0 _ h1).mono ?_
  rintro e w2 ⟨rfl, rfl⟩
  go_wp2
  go_ret
  exact ⟨rfl, h1, o1⟩
theorem rbytes_dead (fp : Nat → Prop) (g : Nat) (bs : List UInt8) (w : World) (h : Rdr w fp g bs true) :
    Calls Tryz.prog 36 #[.pointer (some ⟨g, 0, none⟩)] w fun e w' => e = .returned (.slice none 0 0) ∧ w = w' := by
  go_enter Tryz.func36, Tryz.ntmps36
  go_wp2_with fail
  refine (rnum_dead fp g bs _ h).mono ?_
  rintro e w1 ⟨rfl, rfl⟩
  go_wp2_with fail
  refine (rraw_dead fp g bs 0 _ h).mono ?_
  rintro e w2 ⟨rfl, rfl⟩
  go_wp2
  go_ret
  exact ⟨rfl, rfl⟩
end Go.Proofs.YtpjgkacekelkdaaGreatDoor

/-
  The program's Reader by one state: what is left, and whether it has erred. No statement of the seat is proved here.
-/
namespace Go.Proofs.YtpjgkacekelkdaaGreatDoor
open Go Go.RowKit

theorem scan_bounds : ∀ (bs : List UInt8) (i n m k : Nat), scan i n bs = some (m, k) → i < k ∧ k ≤ i + bs.length ∧ m ≤ 4611686018427387904
  | [], i, n, m, k, h => by simp [scan] at h
  | c :: r, i, n, m, k, h => by
    rw [scan] at h
    split at h
    · cases h
    · split at h
      · have := scan_bounds r _ _ m k h
        simp only [List.length_cons]
        omega
      · split at h
        · cases h
        · rename_i h3
          injection h with h
          injection h with h1 h2
          simp only [List.length_cons]
          omega
theorem num_bounds {bs : List UInt8} {n k : Nat} (h : num? bs = some (n, k)) : 0 < k ∧ k ≤ bs.length ∧ n ≤ 4611686018427387904 := by
  have := scan_bounds bs 0 0 n k h
  omega
theorem resN_le (bs : List UInt8) : resN (num? bs) ≤ 4611686018427387904 := by
  rcases h : num? bs with _ | ⟨n, k⟩
  · simp [resN]
  · exact (num_bounds h).2.2
theorem restOf_le (bs : List UInt8) (R : Option (Nat × Nat)) : (restOf bs R).length ≤ bs.length := by
  rcases R with _ | ⟨n, k⟩
  · simp [restOf]
  · simp [restOf]

def stNum (bs : List UInt8) (bad : Bool) : Nat × List UInt8 × Bool := if bad = true then (0, [], true) else (resN (num? bs), restOf bs (num? bs), badOf (num? bs))
def stRaw (bs : List UInt8) (bad : Bool) (v : Int) : List UInt8 × List UInt8 × Bool := if bad = true ∨ v < 0 ∨ (bs.length : Int) < v then ([], [], true) else (bs.take v.toNat, bs.drop v.toNat, false)
def stBytes (bs : List UInt8) (bad : Bool) : List UInt8 × List UInt8 × Bool := stRaw (stNum bs bad).2.1 (stNum bs bad).2.2 ((stNum bs bad).1 : Int)
theorem stNum_len (bs : List UInt8) (bad : Bool) : (stNum bs bad).2.1.length ≤ bs.length := by
  unfold stNum; split
  · simp
  · exact restOf_le _ _
theorem stNum_le (bs : List UInt8) (bad : Bool) : (stNum bs bad).1 ≤ 4611686018427387904 := by
  unfold stNum; split
  · simp
  · exact resN_le _
theorem stRaw_len (bs : List UInt8) (bad : Bool) (v : Int) : (stRaw bs bad v).2.1.length ≤ bs.length ∧ (stRaw bs bad v).1.length ≤ bs.length := by
  unfold stRaw; split
  · simp
  · simp; omega
theorem stBytes_len (bs : List UInt8) (bad : Bool) : (stBytes bs bad).2.1.length ≤ bs.length ∧ (stBytes bs bad).1.length ≤ bs.length := by
  have h1 := stNum_len bs bad
  have h2 := stRaw_len (stNum bs bad).2.1 (stNum bs bad).2.2 ((stNum bs bad).1 : Int)
  unfold stBytes
  omega

section
variable (fp : Nat → Prop) (g : Nat) (bs : List UInt8) (bad : Bool) (w : World)
theorem rnum_st (h : Rdr w fp g bs bad) (hb : bs.length ≤ 1099511627776) :
    Calls Tryz.prog 34 #[.pointer (some ⟨g, 0, none⟩)] w fun e w' => e = .returned (.int .i64 ((stNum bs bad).1 : Int)) ∧ Rdr w' fp g (stNum bs bad).2.1 (stNum bs bad).2.2 ∧ Only (fun k => k = g) w w' := by
  cases bad
  · rcases hR : num? bs with _ | ⟨n, k⟩
    · have e : stNum bs false = (0, [], true) := by simp [stNum, hR, resN, restOf, badOf]
      rw [e]
      exact rnum_none fp g bs w h hR hb
    · obtain ⟨h1, h2, h3⟩ := num_bounds hR
      have e : stNum bs false = (n, bs.drop k, false) := by simp [stNum, hR, resN, restOf, badOf]
      rw [e]
      exact rnum_ok fp g bs n k w h hR h1 h2 hb
  · have e : stNum bs true = (0, [], true) := rfl
    rw [e]
    have hbs : bs = [] := h.2.1 rfl
    subst hbs
    refine (rnum_dead fp g [] w h).mono ?_
    rintro e w' ⟨rfl, rfl⟩
    exact ⟨rfl, h, Only.refl _ _⟩
theorem rraw_st (v : Int) (hv : isInt v) (h : Rdr w fp g bs bad) (hb : bs.length ≤ 1099511627776) :
    Calls Tryz.prog 73 #[.pointer (some ⟨g, 0, none⟩), .int .i64 v] w fun e w' => ∃ A' c', e = .returned (.slice A' (stRaw bs bad v).1.length c') ∧ New w w' A' c' (stRaw bs bad v).1 ∧ Rdr w' fp g (stRaw bs bad v).2.1 (stRaw bs bad v).2.2 ∧ Only (fun k => k = g) w w' := by
  by_cases hc : bad = true ∨ v < 0 ∨ (bs.length : Int) < v
  · have e : stRaw bs bad v = ([], [], true) := by unfold stRaw; rw [if_pos hc]
    rw [e]
    cases bad
    · refine (rraw_none fp g bs v w h hv (by rcases hc with hc | hc; cases hc; exact hc) hb).mono ?_
      rintro e w' ⟨rfl, h1, h2⟩
      exact ⟨none, 0, rfl, Own.none_ _ _ _, h1, h2⟩
    · have hbs : bs = [] := h.2.1 rfl
      subst hbs
      refine (rraw_dead fp g [] v w h).mono ?_
      rintro e w' ⟨rfl, rfl⟩
      exact ⟨none, 0, rfl, Own.none_ _ _ _, h, Only.refl _ _⟩
  · have e : stRaw bs bad v = (bs.take v.toNat, bs.drop v.toNat, false) := by unfold stRaw; rw [if_neg hc]
    have hbad : bad = false := by cases bad; rfl; exact absurd (.inl rfl) hc
    subst hbad
    rw [e]
    obtain ⟨k, rfl⟩ := Int.eq_ofNat_of_zero_le (show 0 ≤ v by omega)
    have hk : k ≤ bs.length := by omega
    refine (rraw_ok fp g bs k w h hk hb).mono ?_
    rintro e w' ⟨A', c', rfl, h1, h2, h3⟩
    refine ⟨A', c', ?_, h1, h2, h3⟩
    rw [show (bs.take (k : Int).toNat).length = k by rw [Int.toNat_natCast, List.length_take]; omega]
theorem rbytes_st (h : Rdr w fp g bs bad) (hb : bs.length ≤ 1099511627776) :
    Calls Tryz.prog 36 #[.pointer (some ⟨g, 0, none⟩)] w fun e w' => ∃ A' c', e = .returned (.slice A' (stBytes bs bad).1.length c') ∧ New w w' A' c' (stBytes bs bad).1 ∧ Rdr w' fp g (stBytes bs bad).2.1 (stBytes bs bad).2.2 ∧ Only (fun k => k = g) w w' := by
  have hl := stNum_len bs bad
  have hn := stNum_le bs bad
  go_enter Tryz.func36, Tryz.ntmps36
  go_wp2_with fail
  refine (rnum_st fp g bs bad _ h hb).mono ?_
  rintro e w1 ⟨rfl, h1, o1⟩
  go_wp2_with fail
  refine (rraw_st fp g _ _ _ _ ⟨by omega, by omega⟩ h1 (by omega)).mono ?_
  rintro e w2 ⟨A', c', rfl, hnew, h2, o2⟩
  go_wp2
  go_ret
  exact ⟨A', c', rfl, hnew.back o1.size, h2, o1.trans o2 (fun _ _ h => h)⟩
end
end Go.Proofs.YtpjgkacekelkdaaGreatDoor

/-
  Rows of numbers in three ways, and read back: mathematics. No statement of the seat is proved here.
-/
namespace Go.Proofs.YtpjgkacekelkdaaGreatDoor
open Go Go.RowKit
set_option maxRecDepth 100000

/-! ### what may be; the three ways -/
def okP (v : Int) : Bool := decide (0 ≤ v ∧ v ≤ 1099511627776)
def mayP (l : List Int) : Bool := decide (l.length ≤ 32768) && l.all okP
theorem mayP_iff (l : List Int) : mayP l = true ↔ l.length ≤ 32768 ∧ ∀ v ∈ l, 0 ≤ v ∧ v ≤ 1099511627776 := by
  unfold mayP okP
  rw [Bool.and_eq_true, decide_eq_true_eq, List.all_eq_true]
  exact and_congr Iff.rfl ⟨fun h v hv => by simpa using h v hv, fun h v hv => by simpa using h v hv⟩
def plainP (l : List Int) : List UInt8 := numsB [0, (l.length : Int)] ++ numsB l
/-- the number ahead -/
def prevP (l : List Int) (k : Nat) : Int := if k = 0 then 0 else l.getD (k - 1) 0
def foldP (d : Int) : Int := if d < 0 then -2 * d - 1 else 2 * d
def unfP (n : Int) : Int := if n % 2 = 1 then -(n / 2 + 1) else n / 2
def deltasTo (l : List Int) (k : Nat) : List Int := (List.range k).map fun j => foldP (l.getD j 0 - prevP l j)
def deltasP (l : List Int) : List Int := deltasTo l l.length
def deltaP (l : List Int) : List UInt8 := numsB [1, (l.length : Int)] ++ numsB (deltasP l)
theorem deltasTo_succ (l : List Int) (k : Nat) : deltasTo l (k + 1) = deltasTo l k ++ [foldP (l.getD k 0 - prevP l k)] := by
  unfold deltasTo
  rw [List.range_succ, List.map_append]
  rfl
theorem deltasTo_len (l : List Int) (k : Nat) : (deltasTo l k).length = k := by simp [deltasTo]
theorem deltasTo_get (l : List Int) (k j : Nat) (h : j < k) : (deltasTo l k)[j]? = some (foldP (l.getD j 0 - prevP l j)) := by simp [deltasTo, h]
theorem unf_fold (d : Int) : unfP (foldP d) = d := by
  unfold unfP foldP
  by_cases h : d < 0
  · rw [if_pos h, if_pos (by omega)]; omega
  · rw [if_neg h, if_neg (by omega)]; omega
theorem getD_mem {l : List Int} {k : Nat} (h : k < l.length) : l.getD k 0 ∈ l := by
  rw [List.getD_eq_getElem?_getD, List.getElem?_eq_getElem h]
  exact List.getElem_mem h
theorem prevP_ok {l : List Int} (hm : ∀ v ∈ l, 0 ≤ v ∧ v ≤ 1099511627776) {k : Nat} (hk : k < l.length) : 0 ≤ prevP l k ∧ prevP l k ≤ 1099511627776 := by
  unfold prevP
  by_cases h : k = 0
  · rw [if_pos h]; omega
  · rw [if_neg h]; exact hm _ (getD_mem (by omega))
theorem fold_ok {l : List Int} (hm : ∀ v ∈ l, 0 ≤ v ∧ v ≤ 1099511627776) {k : Nat} (hk : k < l.length) : 0 ≤ foldP (l.getD k 0 - prevP l k) ∧ foldP (l.getD k 0 - prevP l k) ≤ 2199023255552 := by
  have h1 := hm _ (getD_mem hk)
  have h2 := prevP_ok hm hk
  unfold foldP
  split <;> omega
theorem deltasP_ok {l : List Int} (hm : ∀ v ∈ l, 0 ≤ v ∧ v ≤ 1099511627776) : ∀ v ∈ deltasP l, 0 ≤ v ∧ v ≤ 2199023255552 := by
  intro v hv
  unfold deltasP deltasTo at hv
  obtain ⟨j, hj, rfl⟩ := List.mem_map.1 hv
  exact fold_ok hm (List.mem_range.1 hj)

/-! ### runs -/
/-- a number more: a run more, or the last run is longer -/
def bumpP (rs : List (Nat × Int)) : List (Nat × Int) := rs.dropLast ++ [((rs.getLastD (0, 0)).1 + 1, (rs.getLastD (0, 0)).2)]
def runsTo (l : List Int) : Nat → List (Nat × Int)
  | 0 => []
  | k + 1 => if k = 0 ∨ l.getD (k - 1) 0 ≠ l.getD k 0 then runsTo l k ++ [(1, l.getD k 0)] else bumpP (runsTo l k)
def runsP (l : List Int) : List (Nat × Int) := runsTo l l.length
def pairsB (rs : List (Nat × Int)) : List UInt8 := rs.flatMap fun r => numsB [(r.1 : Int), r.2]
def runsB (l : List Int) : List UInt8 := numsB [2, ((runsP l).length : Int)] ++ pairsB (runsP l)
def expP (rs : List (Nat × Int)) : List Int := rs.flatMap fun r => List.replicate r.1 r.2
theorem bump_snoc (rs : List (Nat × Int)) (c : Nat) (n : Int) : bumpP (rs ++ [(c, n)]) = rs ++ [(c + 1, n)] := by
  unfold bumpP
  rw [List.dropLast_concat, List.getLastD_concat]
theorem runsTo_last (l : List Int) : ∀ k, ∃ rs c, runsTo l (k + 1) = rs ++ [(c, l.getD k 0)] ∧ 1 ≤ c
  | 0 => ⟨[], 1, by simp [runsTo], Nat.le_refl _⟩
  | k + 1 => by
    obtain ⟨rs, c, e, hc⟩ := runsTo_last l k
    by_cases h : l.getD k 0 ≠ l.getD (k + 1) 0
    · exact ⟨runsTo l (k + 1), 1, by rw [runsTo, if_pos (.inr h)], Nat.le_refl _⟩
    · have h2 : l.getD k 0 = l.getD (k + 1) 0 := Classical.not_not.1 h
      refine ⟨rs, c + 1, ?_, by omega⟩
      rw [runsTo, if_neg (by simp only [Nat.add_sub_cancel]; omega), e, bump_snoc, h2]
theorem runsTo_new (l : List Int) (k : Nat) (h : k = 0 ∨ l.getD (k - 1) 0 ≠ l.getD k 0) : runsTo l (k + 1) = runsTo l k ++ [(1, l.getD k 0)] := by rw [runsTo, if_pos h]
theorem runsTo_same (l : List Int) (k : Nat) (h : l.getD k 0 = l.getD (k + 1) 0) : ∃ rs c, runsTo l (k + 1) = rs ++ [(c, l.getD (k + 1) 0)] ∧ runsTo l (k + 2) = rs ++ [(c + 1, l.getD (k + 1) 0)] := by
  obtain ⟨rs, c, e, _⟩ := runsTo_last l k
  refine ⟨rs, c, by rw [e, h], ?_⟩
  rw [runsTo, if_neg (by simp only [Nat.add_sub_cancel]; omega), e, bump_snoc, h]
theorem exp_snoc (rs : List (Nat × Int)) (c : Nat) (n : Int) : expP (rs ++ [(c, n)]) = expP rs ++ List.replicate c n := by simp [expP]
theorem exp_runsTo (l : List Int) : ∀ k, k ≤ l.length → expP (runsTo l k) = l.take k
  | 0, _ => by simp [runsTo, expP]
  | k + 1, hk => by
    have ih := exp_runsTo l k (by omega)
    have ht : l.take (k + 1) = l.take k ++ [l.getD k 0] := by
      rw [List.take_succ_eq_append_getElem (by omega), List.getD_eq_getElem?_getD, List.getElem?_eq_getElem (by omega)]
      rfl
    by_cases h : k = 0 ∨ l.getD (k - 1) 0 ≠ l.getD k 0
    · rw [runsTo_new l k h, exp_snoc, ih, ht]
      rfl
    · obtain ⟨k, rfl⟩ : ∃ m, k = m + 1 := ⟨k - 1, by omega⟩
      have h2 : l.getD k 0 = l.getD (k + 1) 0 := Classical.not_not.1 (fun h3 => h (.inr (by simpa using h3)))
      obtain ⟨rs, c, e1, e2⟩ := runsTo_same l k h2
      rw [e2, exp_snoc, ht, ← ih, e1, exp_snoc, List.replicate_succ', List.append_assoc]
theorem exp_runs (l : List Int) : expP (runsP l) = l := by
  unfold runsP
  rw [exp_runsTo l _ (Nat.le_refl _), List.take_length]
theorem runsTo_mem (l : List Int) : ∀ k, k ≤ l.length → ∀ r ∈ runsTo l k, 1 ≤ r.1 ∧ r.1 ≤ k ∧ r.2 ∈ l
  | 0, _, r, h => by simp [runsTo] at h
  | k + 1, hk, r, h => by
    have ih := runsTo_mem l k (by omega)
    by_cases hn : k = 0 ∨ l.getD (k - 1) 0 ≠ l.getD k 0
    · rw [runsTo_new l k hn] at h
      rcases List.mem_append.1 h with h | h
      · obtain ⟨h1, h2, h3⟩ := ih r h
        exact ⟨h1, by omega, h3⟩
      · simp only [List.mem_singleton] at h
        subst h
        exact ⟨Nat.le_refl _, by simp, getD_mem (by omega)⟩
    · obtain ⟨k, rfl⟩ : ∃ m, k = m + 1 := ⟨k - 1, by omega⟩
      have h2 : l.getD k 0 = l.getD (k + 1) 0 := Classical.not_not.1 (fun h3 => hn (.inr (by simpa using h3)))
      obtain ⟨rs, c, e1, e2⟩ := runsTo_same l k h2
      rw [e2] at h
      rw [e1] at ih
      rcases List.mem_append.1 h with h | h
      · obtain ⟨h1, h2, h3⟩ := ih r (List.mem_append_left _ h)
        exact ⟨h1, by omega, h3⟩
      · simp only [List.mem_singleton] at h
        subst h
        obtain ⟨h1, h2, h3⟩ := ih (c, l.getD (k + 1) 0) (List.mem_append_right _ (by simp))
        exact ⟨by simp, by simp at h2 ⊢; omega, h3⟩
theorem runsTo_len (l : List Int) : ∀ k, (runsTo l k).length ≤ k
  | 0 => by simp [runsTo]
  | k + 1 => by
    have ih := runsTo_len l k
    by_cases hn : k = 0 ∨ l.getD (k - 1) 0 ≠ l.getD k 0
    · rw [runsTo_new l k hn, List.length_append]; simp; omega
    · obtain ⟨k, rfl⟩ : ∃ m, k = m + 1 := ⟨k - 1, by omega⟩
      have h2 : l.getD k 0 = l.getD (k + 1) 0 := Classical.not_not.1 (fun h3 => hn (.inr (by simpa using h3)))
      obtain ⟨rs, c, e1, e2⟩ := runsTo_same l k h2
      rw [e1] at ih
      rw [e2]
      simp at ih ⊢
      omega
/-- in each way: its number, and the bytes -/
def encP : Nat → List Int → List UInt8
  | 0, l => plainP l
  | 1, l => deltaP l
  | _, l => runsB l

/-! ### reading -/
def takeN : Nat → List UInt8 → Bool → List Nat × List UInt8 × Bool
  | 0, bs, bad => ([], bs, bad)
  | k + 1, bs, bad => if bad = true then ([], bs, bad) else
    ((stNum bs bad).1 :: (takeN k (stNum bs bad).2.1 (stNum bs bad).2.2).1, (takeN k (stNum bs bad).2.1 (stNum bs bad).2.2).2)
theorem takeN_bad (k : Nat) (bs : List UInt8) : takeN k bs true = ([], bs, true) := by cases k <;> simp [takeN]
theorem takeN_zero (bs : List UInt8) (bad : Bool) : takeN 0 bs bad = ([], bs, bad) := rfl
theorem takeN_succ (k : Nat) (bs : List UInt8) : takeN (k + 1) bs false = ((stNum bs false).1 :: (takeN k (stNum bs false).2.1 (stNum bs false).2.2).1, (takeN k (stNum bs false).2.1 (stNum bs false).2.2).2) := by
  rw [takeN, if_neg (by simp)]
theorem stNum_dig (n : Nat) (r : List UInt8) (h : n ≤ 4611686018427387904) : stNum (dig n ++ r) false = (n, r, false) := by
  have e := num_dig n r h
  simp [stNum, e, resN, restOf, badOf]
theorem numsB_cons (v : Int) (l : List Int) : numsB (v :: l) = dig (clamp v) ++ numsB l := by simp [numsB]
theorem numsB_nil : numsB [] = [] := rfl
theorem numsB_append (a b : List Int) : numsB (a ++ b) = numsB a ++ numsB b := by simp [numsB]
theorem clamp_le' {v : Int} (h0 : 0 ≤ v) (h1 : v ≤ 4611686018427387904) : (clamp v : Int) = v := by unfold clamp; omega
theorem stNum_num (v : Int) (r : List UInt8) : stNum (dig (clamp v) ++ r) false = (clamp v, r, false) := stNum_dig _ _ (clamp_le v)
theorem takeN_nums : ∀ (l : List Int) (r : List UInt8), takeN l.length (numsB l ++ r) false = (l.map clamp, r, false)
  | [], r => by simp [takeN, numsB]
  | v :: l, r => by
    rw [List.length_cons, takeN_succ, numsB_cons, List.append_assoc, stNum_num, takeN_nums l r]
    rfl
theorem map_clamp {l : List Int} (h : ∀ v ∈ l, 0 ≤ v ∧ v ≤ 4611686018427387904) : (l.map clamp).map (fun n : Nat => (n : Int)) = l := by
  rw [List.map_map]
  conv => rhs; rw [← List.map_id l]
  exact List.map_congr_left fun v hv => clamp_le' (h v hv).1 (h v hv).2
/-- rows of two -/
def takeQ : Nat → List UInt8 → Bool → List (Nat × Nat) × List UInt8 × Bool
  | 0, bs, bad => ([], bs, bad)
  | k + 1, bs, bad => if bad = true then ([], bs, bad) else
    let s := stNum bs bad
    let t := stNum s.2.1 s.2.2
    ((s.1, t.1) :: (takeQ k t.2.1 t.2.2).1, (takeQ k t.2.1 t.2.2).2)
theorem takeQ_bad (k : Nat) (bs : List UInt8) : takeQ k bs true = ([], bs, true) := by cases k <;> simp [takeQ]
theorem takeQ_zero (bs : List UInt8) (bad : Bool) : takeQ 0 bs bad = ([], bs, bad) := rfl
/-- what two numbers in a row are -/
def stTwo (bs : List UInt8) : (Nat × Nat) × List UInt8 × Bool := (((stNum bs false).1, (stNum (stNum bs false).2.1 (stNum bs false).2.2).1), (stNum (stNum bs false).2.1 (stNum bs false).2.2).2)
theorem takeQ_succ (k : Nat) (bs : List UInt8) : takeQ (k + 1) bs false = ((stTwo bs).1 :: (takeQ k (stTwo bs).2.1 (stTwo bs).2.2).1, (takeQ k (stTwo bs).2.1 (stTwo bs).2.2).2) := by
  rw [takeQ, if_neg (by simp)]
  rfl
theorem takeQ_pairs : ∀ (rs : List (Nat × Int)) (r : List UInt8), takeQ rs.length (pairsB rs ++ r) false = (rs.map fun p => (clamp (p.1 : Int), clamp p.2), r, false)
  | [], r => by simp [takeQ, pairsB]
  | p :: rs, r => by
    have e : pairsB (p :: rs) ++ r = dig (clamp (p.1 : Int)) ++ (dig (clamp p.2) ++ (pairsB rs ++ r)) := by simp [pairsB, numsB]
    have h2 : stTwo (dig (clamp (p.1 : Int)) ++ (dig (clamp p.2) ++ (pairsB rs ++ r))) = ((clamp (p.1 : Int), clamp p.2), pairsB rs ++ r, false) := by
      unfold stTwo
      simp only [stNum_num]
    rw [List.length_cons, takeQ_succ, e, h2, takeQ_pairs rs r]
    rfl
end Go.Proofs.YtpjgkacekelkdaaGreatDoor
