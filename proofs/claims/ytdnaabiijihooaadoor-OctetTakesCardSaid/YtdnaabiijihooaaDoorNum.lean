/-
  The contract of octet's (*Writer).num. No statement of the seat is proved here.
-/
import Derived.Test.YtdnaabiijihooaaDoorWriter
namespace Go.Proofs.YtdnaabiijihooaaDoor
open Go Go.RowKit

theorem low_digit (n : Nat) (_ : ¬ n < 128) : Value.int .u8 (bits .or .u8 (bits .and .i64 (n : Int) 127 % 256) 128) = bv (n % 128 + 128).toUInt8 := by
  have h1 : bits .and .i64 (n : Int) 127 % 256 = ((n % 128 : Nat) : Int) := by rw [i64_and127]; omega
  have h2 : bits .or .u8 ((n % 128 : Nat) : Int) ((128 : Nat) : Int) = ((n % 128 ||| 128 : Nat) : Int) := u8_or_nat _ _ (by omega) (by omega)
  have h3 : n % 128 ||| 128 = n % 128 + 128 := by rw [Nat.or_comm, nat_join 7 128 (n % 128) rfl (by omega), Nat.add_comm]
  rw [h1]
  rw [show (128 : Int) = ((128 : Nat) : Int) from rfl, h2, h3]
  unfold bv
  rw [show (n % 128 + 128).toUInt8.toNat = n % 128 + 128 by simp [Nat.toUInt8, UInt8.toNat_ofNat']; omega]
theorem last_digit (n : Nat) (h : n < 128) : Value.int .u8 (n : Int) = bv n.toUInt8 := by
  unfold bv
  rw [show n.toUInt8.toNat = n by simp [Nat.toUInt8, UInt8.toNat_ofNat']; omega]

/-- the relation of num's loop -/
def NumRel (fp : Nat → Prop) (g : Nat) (N : Nat) (xs : List Value) (w : World) (n : Nat) (w1 : World) : Prop :=
  n ≤ 4611686018427387904 ∧ ∃ ds : List UInt8, ds ++ dig n = dig N ∧ Wr w1 (More fp w w1) g (xs ++ ds.map bv) ∧ Only fp w w1

theorem NumRel.put {fp : Nat → Prop} {g N : Nat} {xs : List Value} {w w1 w2 : World} {n : Nat} {ds : List UInt8} {d : UInt8} {o : Obj} (hn : n ≤ 4611686018427387904) (he : ds ++ dig n = dig N) (ho : Only fp w w1) (hd : dig n = d :: dig (n / 128))
    (h1 : Wr w2 (More (More fp w w1) (w1.alloc o) w2) g ((xs ++ ds.map bv) ++ [bv d])) (h2 : Only (More fp w w1) (w1.alloc o) w2) : NumRel fp g N xs w (n / 128) w2 := by
  refine ⟨by omega, ds ++ [d], by rw [List.append_assoc, List.singleton_append, ← hd, he], ?_, ?_⟩
  · have e : xs ++ (ds ++ [d]).map bv = (xs ++ ds.map bv) ++ [bv d] := by simp
    rw [e]
    refine h1.mono (fun k hk _ => ?_)
    rcases hk with (hk | hk) | hk
    · exact .inl hk
    · exact .inr ⟨hk.1, by have := h2.size; simp at this; omega⟩
    · exact .inr ⟨by have := ho.size; have := hk.1; simp at this; omega, hk.2⟩
  · exact (ho.alloc o).trans h2 (fun k hk hm => by
      rcases hm with hm | hm
      · exact hm
      · omega)

theorem NumRel.end_ {fp : Nat → Prop} {g N : Nat} {xs : List Value} {w w1 w2 : World} {n : Nat} {ds : List UInt8} {o : Obj} (he : ds ++ dig n = dig N) (ho : Only fp w w1) (hn : n < 128)
    (h1 : Wr w2 (More (More fp w w1) (w1.alloc o) w2) g ((xs ++ ds.map bv) ++ [bv n.toUInt8])) (h2 : Only (More fp w w1) (w1.alloc o) w2) :
    Wr w2 (More fp w w2) g (xs ++ (dig N).map bv) ∧ Only fp w w2 := by
  have e : xs ++ (dig N).map bv = (xs ++ ds.map bv) ++ [bv n.toUInt8] := by rw [← he, dig_lt hn]; simp
  refine ⟨?_, ?_⟩
  · rw [e]
    refine h1.mono (fun k hk _ => ?_)
    rcases hk with (hk | hk) | hk
    · exact .inl hk
    · exact .inr ⟨hk.1, by have := h2.size; simp at this; omega⟩
    · exact .inr ⟨by have := ho.size; have := hk.1; simp at this; omega, hk.2⟩
  · exact (ho.alloc o).trans h2 (fun k hk hm => by
      rcases hm with hm | hm
      · exact hm
      · omega)

theorem NumRel.len {n : Nat} {v : Int} {ds : List UInt8} (he : ds ++ dig n = dig (clamp v)) : (ds.map bv).length ≤ 8 := by
  have h1 := dig_clamp_len v
  have h2 := dig_pos n
  rw [← he, List.length_append] at h1
  rw [List.length_map]
  omega

set_option maxHeartbeats 1000000 in
theorem num_any (fp : Nat → Prop) (g : Nat) (v : Int) (xs : List Value) (w : World) (hw : Wr w fp g xs) (hv1 : -9223372036854775808 ≤ v) (hv2 : v ≤ 9223372036854775807) (hb : xs.length ≤ 549755813888) :
    Calls Tryd.prog 40 #[.pointer (some ⟨g, 0, none⟩), .int .i64 v] w fun e w' => e = .returned (.tuple #[]) ∧ Wr w' (More fp w w') g (xs ++ (dig (clamp v)).map bv) ∧ Only fp w w' := by
  have hcase : v < 0 ∨ (0 ≤ v ∧ v ≤ 4611686018427387904) ∨ 4611686018427387904 < v := by omega
  rcases hcase with ha | ⟨ha, hc⟩ | ha
  all_goals
    go_enter Tryd.func40, Tryd.ntmps40
    go_wp2
    go_loopw [4] (fun r w1 => ∃ n : Nat, r = .int .i64 (n : Int) ∧ NumRel fp g (clamp v) xs w n w1) (fun r _ => (intOf r).toNat)
    case atStart => exact ⟨clamp v, congrArg (Value.int .i64) (by unfold clamp; omega), clamp_le v, [], rfl, by simpa using hw.mono (fun k hk _ => .inl hk), Only.refl _ _⟩
    case round =>
      obtain ⟨n, rfl, hn, ds, he, hw1, ho⟩ := hrel
      have hl := NumRel.len he
      have He := Lib.hid he
      clear he
      by_cases hlt : n < 128
      · go_wp2_with fail
        rw [last_digit n hlt]
        refine (raw_any _ g _ 1 1 (xs ++ ds.map bv) [bv n.toUInt8] _ (hw1.alloc _) rfl (Rd.lit _ _ _) (by simp [bv_one]) (by simp at hl ⊢; omega)).mono ?_
        rintro e w2 ⟨rfl, h1, h2⟩
        go_wp2
        go_end0
        exact ⟨rfl, NumRel.end_ He.out ho hlt h1 h2⟩
      · go_wp2_with fail
        rw [low_digit n hlt]
        refine (raw_any _ g _ 1 1 (xs ++ ds.map bv) [bv (n % 128 + 128).toUInt8] _ (hw1.alloc _) rfl (Rd.lit _ _ _) (by simp [bv_one]) (by simp at hl ⊢; omega)).mono ?_
        rintro e w2 ⟨rfl, h1, h2⟩
        go_wp2
        go_roundw
        case rel => exact ⟨n / 128, by go_num, NumRel.put hn He.out ho (dig_ge hlt) h1 h2⟩
        case measure => simp [intOf]; omega
end Go.Proofs.YtdnaabiijihooaaDoor
