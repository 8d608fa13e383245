/-
  The contracts of octet's (*Writer).Nums, Bytes, Out. No statement of the seat is proved here.
-/
import Derived.Test.YtdnaabiijihooaaDoorNum
import Derived.Test.YtdnaabiijihooaaDoorJoin
namespace Go.Proofs.YtdnaabiijihooaaDoor
open Go Go.RowKit

def iv (v : Int) : Value := .int .i64 v
/-- a number that Go's int holds -/
def isInt (v : Int) : Prop := -9223372036854775808 ≤ v ∧ v ≤ 9223372036854775807
/-- numbers as bytes -/
def numsB (vs : List Int) : List UInt8 := vs.flatMap fun v => dig (clamp v)
def numsTo (vs : List Int) (k : Nat) : List UInt8 := numsB (vs.take k)
theorem numsTo_succ (vs : List Int) (k : Nat) (h : k < vs.length) : numsTo vs (k + 1) = numsTo vs k ++ dig (clamp vs[k]) := by
  unfold numsTo numsB
  rw [List.take_succ_eq_append_getElem h, List.flatMap_append]; simp
theorem numsTo_all (vs : List Int) : numsTo vs vs.length = numsB vs := by unfold numsTo; rw [List.take_length]
theorem numsTo_len (vs : List Int) : ∀ k, (numsTo vs k).length ≤ 9 * k
  | 0 => by simp [numsTo, numsB]
  | k + 1 => by
    have ih := numsTo_len vs k
    by_cases h : k < vs.length
    · rw [numsTo_succ vs k h, List.length_append]
      have := dig_clamp_len vs[k]
      omega
    · have e : numsTo vs (k + 1) = numsTo vs k := by unfold numsTo; rw [List.take_of_length_le (by omega), List.take_of_length_le (by omega)]
      rw [e]; omega

set_option maxHeartbeats 1000000 in
theorem nums_any (fp : Nat → Prop) (g : Nat) (A : Option Addr) (n c : Nat) (vs : List Int) (xs : List Value) (w : World) (hw : Wr w fp g xs) (hn : n = vs.length) (hr : RdF fp w A (vs.map iv)) (hi : ∀ v ∈ vs, isInt v)
    (hb : xs.length + 9 * vs.length ≤ 549755813888) :
    Calls Tryd.prog 11 #[.pointer (some ⟨g, 0, none⟩), .slice A n c] w fun e w' => e = .returned (.tuple #[]) ∧ Wr w' (More fp w w') g (xs ++ (numsB vs).map bv) ∧ Only fp w w' := by
  subst hn
  go_enter Tryd.func11, Tryd.ntmps11
  go_wp2
  go_loopw [8] (fun i w1 => ∃ k : Nat, k ≤ vs.length ∧ i = .int .i64 (k : Int) ∧ Wr w1 (More fp w w1) g (xs ++ (numsTo vs k).map bv) ∧ Only fp w w1) (fun i _ => vs.length - (intOf i).toNat)
  case atStart => exact ⟨0, Nat.zero_le _, rfl, by simpa [numsTo, numsB] using hw.mono (fun k hk _ => .inl hk), Only.refl _ _⟩
  case round =>
    obtain ⟨k, hk, rfl, hw1, ho⟩ := hrel
    by_cases hlt : k < vs.length
    · obtain ⟨ad, rfl, hc⟩ := (hr.only ho).1.at_ (k := k) (by simpa using hlt)
      simp only [List.getElem_map, iv] at hc
      have hik := hi vs[k] (List.getElem_mem hlt)
      have hlen := numsTo_len vs k
      have hs := Lib.hid (numsTo_succ vs k hlt)
      go_wp2_with fail
      refine (num_any _ g _ _ _ hw1 hik.1 hik.2 (by simp at hlen ⊢; omega)).mono ?_
      rintro e w2 ⟨rfl, h1, h2⟩
      go_wp2
      go_roundw
      case rel => exact ⟨k + 1, by omega, by go_num, by rw [hs.out, List.map_append, ← List.append_assoc]; exact Wr.join ho.size (Nat.le_refl _) h2.size h1, ho.join h2⟩
      case measure => simp [intOf]; omega
    · obtain rfl : k = vs.length := by omega
      rw [numsTo_all] at hw1
      go_wp2
      go_end0
      exact ⟨rfl, hw1, ho⟩

/-- rows as bytes, each with its length -/
def rowsB (xss : List (List UInt8)) : List UInt8 := xss.flatMap fun xs => dig xs.length ++ xs
def rowsTo (xss : List (List UInt8)) (k : Nat) : List UInt8 := rowsB (xss.take k)
theorem rowsTo_succ (xss : List (List UInt8)) (k : Nat) (h : k < xss.length) : rowsTo xss (k + 1) = rowsTo xss k ++ dig xss[k].length ++ xss[k] := by
  unfold rowsTo rowsB
  rw [List.take_succ_eq_append_getElem h, List.flatMap_append]; simp
theorem rowsTo_all (xss : List (List UInt8)) : rowsTo xss xss.length = rowsB xss := by unfold rowsTo; rw [List.take_length]
theorem rowsTo_le (xss : List (List UInt8)) (k : Nat) : (rowsTo xss k).length ≤ (rowsB xss).length := by
  have h : rowsB xss = rowsTo xss k ++ rowsB (xss.drop k) := by unfold rowsTo rowsB; rw [← List.flatMap_append, List.take_append_drop]
  rw [h, List.length_append]; omega

set_option maxHeartbeats 1000000 in
theorem bytes_any (fp : Nat → Prop) (g : Nat) (A : Option Addr) (n c : Nat) (xss : List (List UInt8)) (xs : List Value) (w : World) (hw : Wr w fp g xs) (hn : n = xss.length) (hr : RowsF fp w A xss)
    (hb : xs.length + (rowsB xss).length ≤ 549755813888) (hb2 : xss.length ≤ 549755813888) :
    Calls Tryd.prog 23 #[.pointer (some ⟨g, 0, none⟩), .slice A n c] w fun e w' => e = .returned (.tuple #[]) ∧ Wr w' (More fp w w') g (xs ++ (rowsB xss).map bv) ∧ Only fp w w' := by
  subst hn
  go_enter Tryd.func23, Tryd.ntmps23
  go_wp2
  go_loopw [8] (fun i w1 => ∃ k : Nat, k ≤ xss.length ∧ i = .int .i64 (k : Int) ∧ Wr w1 (More fp w w1) g (xs ++ (rowsTo xss k).map bv) ∧ Only fp w w1) (fun i _ => xss.length - (intOf i).toNat)
  case atStart => exact ⟨0, Nat.zero_le _, rfl, by simpa [rowsTo, rowsB] using hw.mono (fun k hk _ => .inl hk), Only.refl _ _⟩
  case round =>
    obtain ⟨k, hk, rfl, hw1, ho⟩ := hrel
    by_cases hlt : k < xss.length
    · obtain ⟨ad, B, cb, rfl, hcell, hl, hrd⟩ := (hr.more ho).at_ hlt
      have hlen := rowsTo_le xss (k + 1)
      rw [rowsTo_succ xss k hlt] at hlen
      simp only [List.length_append] at hlen
      have hs := Lib.hid (rowsTo_succ xss k hlt)
      have hcl := Lib.hid (clamp_of_nat (n := xss[k].length) (by omega))
      go_wp2_with fail
      refine (num_any _ g _ _ _ hw1 (by omega) (by omega) (by simp; omega)).mono ?_
      rintro e w2 ⟨rfl, h1, h2⟩
      rw [hcl.out] at h1
      have h1' := Wr.join ho.size (Nat.le_refl _) h2.size h1
      have ho2 := ho.join h2
      go_wp2_with fail
      refine (raw_any _ g B _ cb _ (xss[k].map bv) _ h1' (by simp) (hrd.only h2).1 (bvs_one _) (by simp; omega)).mono ?_
      rintro e w3 ⟨rfl, h3, h4⟩
      go_wp2
      go_roundw
      case rel => exact ⟨k + 1, by omega, by go_num, by rw [hs.out, List.map_append, List.map_append, ← List.append_assoc, ← List.append_assoc]; exact Wr.join ho2.size (Nat.le_refl _) h4.size h3, ho2.join h4⟩
      case measure => simp [intOf]; omega
    · obtain rfl : k = xss.length := by omega
      rw [rowsTo_all] at hw1
      go_wp2
      go_end0
      exact ⟨rfl, hw1, ho⟩

set_option maxHeartbeats 1000000 in
theorem out_any (fp : Nat → Prop) (g : Nat) (bs : List UInt8) (w : World) (hw : Wr w fp g (bs.map bv)) (hb : bs.length ≤ 1099511627776) :
    Calls Tryd.prog 12 #[.pointer (some ⟨g, 0, none⟩)] w fun e w' => ∃ A' c', e = .returned (.slice A' bs.length c') ∧ New w w' A' c' bs ∧ Below w.heap.size w w' := by
  obtain ⟨hg, A, c, hblk, hown⟩ := hw
  have h0 := hblk.cell 0
  simp only [List.getElem?_toArray, List.getElem?_cons_zero, List.length_map] at h0
  have hcap := hown.cap
  rw [List.length_map] at hcap
  go_enter Tryd.func12, Tryd.ntmps12
  go_wp2_with fail
  refine (join_any _ 1 1 [bs] bs _ rfl (by simp) (RowsF.one (RdF.of hown.rd) hcap _ rfl id) hb (by simp)).mono ?_
  rintro e w' ⟨A', c', rfl, hnew, hbel⟩
  go_wp2
  go_ret
  exact ⟨A', c', rfl, hnew.back (by simp), ((Below.refl _ _).alloc (Nat.le_refl _) _).trans (hbel.mono (by simp))⟩
end Go.Proofs.YtdnaabiijihooaaDoor
