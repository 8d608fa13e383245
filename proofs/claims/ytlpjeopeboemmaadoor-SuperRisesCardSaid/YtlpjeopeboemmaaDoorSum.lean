/-
  The contract of octet's Sum. No statement of the seat is proved here.
-/
import Derived.Test.YtlpjeopeboemmaaDoorJoin
namespace Go.Proofs.YtlpjeopeboemmaaDoor
open Go Go.RowKit

/-- the table of package octet lies in memory as its text lays it -/
def Tab (w : World) : Prop := ∀ i : Nat, i < 16 → w.cell? ⟨0, i, none⟩ = some (.int .u32 (tab i : Int))
theorem Tab.ext {w w' : World} (h : Tab w) (hb : Below w.heap.size w w') : Tab w' := fun i hi => by
  have hc := h i hi
  have hl := World.block_lt_of_cell? w _ hc
  exact (World.cell?_of_block (hb.block _ hl)).trans hc
theorem Tab.alloc {w : World} (h : Tab w) (o : Obj) : Tab (w.alloc o) := h.ext ((Below.refl _ _).alloc (Nat.le_refl _) o)
theorem Tab.drewN {w : World} (h : Tab w) (n : Nat) : Tab (w.drewN n) := h

def crcTo (xss : List (List UInt8)) (k : Nat) : Nat := crcL 4294967295 (upTo xss k)
theorem crcTo_lt (xss : List (List UInt8)) (k : Nat) : crcTo xss k < 4294967296 := crcL_lt _ (by decide)
theorem crcTo_succ (xss : List (List UInt8)) (k : Nat) (h : k < xss.length) : crcTo xss (k + 1) = crcL (crcTo xss k) xss[k] := by
  unfold crcTo; rw [upTo_succ xss k h, crcL_append]
def crcAt (s : Nat) (xs : List UInt8) (j : Nat) : Nat := crcL s (xs.take j)

theorem crcAt_succ (s : Nat) (xs : List UInt8) (j : Nat) (h : j < xs.length) : crcAt s xs (j + 1) = crcB (crcAt s xs j) xs[j] := crcL_take_succ s xs j h
theorem crcAt_all (s : Nat) (xs : List UInt8) : crcAt s xs xs.length = crcL s xs := by unfold crcAt; rw [List.take_length]

/-- one step of four digits, in the walk's own words -/
theorem nib_step (s : Nat) (h : s < 4294967296) (w : World) (ht : Tab w) : ∃ m t s2 : Nat, (m : Int) < 16 ∧ bits .and .u32 (s : Int) 15 = (m : Int) ∧ w.cell? ⟨0, m, none⟩ = some (.int .u32 (t : Int)) ∧
    bits .xor .u32 ((s : Int) / 16) (t : Int) = (s2 : Int) ∧ s2 = nib s := by
  refine ⟨s % 16, tab (s % 16), nib s, by omega, ?_, ht _ (by omega), ?_, rfl⟩
  · have h2 := u32_and_nat s 15 h (by omega)
    rw [nat_mask4] at h2
    exact h2
  · have h2 := u32_xor_nat (s / 16) (tab (s % 16)) (by omega) (tab_lt _)
    rw [Int.natCast_ediv] at h2
    exact h2
theorem xor_step (s : Nat) (h : s < 4294967296) (b : UInt8) : ∃ s1 : Nat, bits .xor .u32 (s : Int) ((b.toNat : Int) % 4294967296) = (s1 : Int) ∧ s1 = s ^^^ b.toNat ∧ s1 < 4294967296 := by
  refine ⟨s ^^^ b.toNat, ?_, rfl, xorb_lt h b⟩
  have hb := b.toNat_lt
  rw [show (b.toNat : Int) % 4294967296 = (b.toNat : Int) by omega]
  exact u32_xor_nat s b.toNat h (by omega)

theorem xor_ones (s : Nat) (h : s < 4294967296) : 4294967295 ^^^ s = 4294967295 - s := by
  have e : BitVec.allOnes 32 ^^^ BitVec.ofNat 32 s = ~~~ BitVec.ofNat 32 s := BitVec.allOnes_xor
  have e2 := congrArg BitVec.toNat e
  rw [BitVec.toNat_xor, BitVec.toNat_not, BitVec.toNat_ofNat, BitVec.toNat_allOnes, Nat.mod_eq_of_lt (by omega)] at e2
  have e3 : (2 : Nat) ^ 32 - 1 = 4294967295 := rfl
  rw [e3] at e2
  exact e2
theorem not_u32 (s : Nat) (h : s < 4294967296) : bits .xor .u32 IntKind.u32.max (s : Int) = ((4294967295 - s : Nat) : Int) := by
  have h1 := u32_xor_nat 4294967295 s (by omega) h
  rw [xor_ones s h] at h1
  exact h1

set_option maxHeartbeats 1000000 in
theorem sum_any (A : Option Addr) (n c : Nat) (xss : List (List UInt8)) (bs : List UInt8) (w : World) (ht : Tab w) (hn : n = xss.length) (hbs : xss.flatten = bs) (hr : RowsF (fun _ => False) w A xss) (hb : bs.length ≤ 1099511627776) (hb2 : xss.length ≤ 1099511627776) :
    Calls Tryd.prog 54 #[.slice A n c] w fun e w' => e = .returned (.int .u32 (sumOf bs : Int)) ∧ w = w' := by
  subst hn
  have Hbs := Lib.hid hbs
  have hle := lenTo_le xss
  rw [hbs] at hle
  have Hle := Lib.hid hle
  clear hbs hle
  go_enter Tryd.func54, Tryd.ntmps54
  go_wp2
  go_loop [3, 10] (fun s i => ∃ k : Nat, k ≤ xss.length ∧ i = .int .i64 (k : Int) ∧ s = .int .u32 (crcTo xss k : Int)) (fun _ i => xss.length - (intOf i).toNat)
  case atStart => exact ⟨0, Nat.zero_le _, rfl, rfl⟩
  case round =>
    obtain ⟨k, hk, rfl, rfl⟩ := hrel
    have hlt0 := crcTo_lt xss k
    by_cases hlt : k < xss.length
    · obtain ⟨ad, B, cb, rfl, hcell, hl, hrd⟩ := hr.at_ hlt
      have hsucc := Lib.hid (crcTo_succ xss k hlt)
      have hle' := Hle.out (k + 1)
      rw [lenTo_succ xss k hlt] at hle'
      have hlen : xss[k].length ≤ 1099511627776 := by omega
      clear hle'
      generalize crcTo xss k = s0 at *
      generalize xss[k] = xs at *
      go_wp2
      go_loop [3, 16] (fun s i => ∃ j : Nat, j ≤ xs.length ∧ i = .int .i64 (j : Int) ∧ s = .int .u32 (crcAt s0 xs j : Int)) (fun _ i => xs.length - (intOf i).toNat)
      case atStart => exact ⟨0, Nat.zero_le _, rfl, rfl⟩
      case round =>
        obtain ⟨j, hj, rfl, rfl⟩ := hrel
        by_cases hjl : j < xs.length
        · obtain ⟨a1, rfl, hc1⟩ := hrd.1.at_ (k := j) (by simpa using hjl)
          simp only [List.getElem_map, bv] at hc1
          have hS : crcAt s0 xs j < 4294967296 := crcL_lt _ hlt0
          have hnext := Lib.hid (crcAt_succ s0 xs j hjl)
          generalize crcAt s0 xs j = S at *
          generalize xs[j] = b at *
          obtain ⟨s1, e1, f1, l1⟩ := xor_step S hS b
          obtain ⟨m1, t1, s2, lm1, e2, c1, e3, f2⟩ := nib_step s1 l1 w ht
          have l2 : s2 < 4294967296 := by rw [f2]; exact nib_lt l1
          obtain ⟨m2, t2, s3, lm2, e4, c2, e5, f3⟩ := nib_step s2 l2 w ht
          have hfin := Lib.hid (show crcB S b = s3 by unfold crcB; rw [← f1, ← f2, ← f3])
          clear f1 f2 f3
          go_wp2
          go_round
          case rel => exact ⟨j + 1, by omega, by go_num, by rw [hnext.out, hfin.out]⟩
          case measure => simp [intOf]; omega
        · obtain rfl : j = xs.length := by omega
          have hall := crcAt_all s0 xs
          rw [hall]
          clear hall
          go_wp2
          go_round
          case rel => exact ⟨k + 1, by omega, by go_num, by rw [hsucc.out]⟩
          case measure => simp [intOf]; omega
    · obtain rfl : k = xss.length := by omega
      have hall : crcTo xss xss.length = crcL 4294967295 bs := by unfold crcTo; rw [upTo_all, Hbs.out]
      rw [hall] at hlt0 ⊢
      have hsum := Lib.hid (show bits .xor .u32 IntKind.u32.max (crcL 4294967295 bs : Int) = (sumOf bs : Int) from not_u32 _ hlt0)
      clear hall
      generalize crcL 4294967295 bs = s at *
      go_wp2
      go_ret
      exact ⟨by rw [hsum.out]; rfl, rfl⟩
end Go.Proofs.YtlpjeopeboemmaaDoor
