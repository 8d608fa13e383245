/-
  Texts of this claim, joined (part 1): contracts and lemmas that the last text goes by. No statement of the seat is proved here.
-/
import Derived.Test.YtjlakbcbfbcmhaaDoorAll0
import Derived.ChangeKeysEq
import Derived.Test.YtjlakbcbfbcmhaaDoorRows
import Derived.ProofKit
import Derived.OpenShut
import Derived.Deep.DeepHandedRow
import Derived.Deep.Matrix
import Derived.LaidLaws
import Derived.Test.YtjlakbcbfbcmhaaDoorCards
import Derived.Test.YtjlakbcbfbcmhaaDoorTie
import Derived.Lib.LaidTab
import Derived.Laws.IdiomArrays
import Derived.Deep.Slices
set_option linter.unusedVariables false
set_option linter.unusedSimpArgs false
/-
  The contracts of the reference's Of, Range. No statement of the seat is proved here.
-/
namespace Go.Proofs.YtjlakbcbfbcmhaaDoor
open Go Go.RowKit

set_option maxHeartbeats 2000000 in
theorem rof_any (A : Option Addr) (n c : Nat) (l : List Nat) (w : World) (hn : n = l.length) (hl : ∀ b ∈ l, b < 256) (hb : l.length ≤ 1000000) (hr : Rd w A (l.map nb)) :
    Calls Tryd.prog 12 #[.slice A n c] w fun e w' => e = .returned (setV (ofB l)) ∧ Below w.heap.size w w' := by
  subst hn
  have hz := zeros_set
  have hbi : (l.length : Int) ≤ 1000000 := by omega
  unfold setV
  go_enter Tryd.func12, Tryd.ntmps12
  go_wp2
  go_loopw [4] (fun i wr => ∃ (k : Nat) (us : List Nat), k ≤ l.length ∧ i = .int .i64 (k : Int) ∧ us = ofB (l.take k) ∧ Blk wr (w.heap.size + 1) 25 (cellsU us) ∧ Blk wr w.heap.size 25 (cellsU zeroB) ∧ Below w.heap.size w wr) (fun i _ => l.length - (intOf i).toNat)
  case atStart =>
    refine ⟨0, zeroB, by omega, rfl, rfl, ?_, ?_, ext2 w _ _⟩
    · have := Blk.new (w.alloc (Obj.cells (cellsU zeroB) 25)) 25 (cellsU zeroB)
      simpa using this
    · exact (Blk.new w 25 (cellsU zeroB)).alloc (Obj.cells (cellsU zeroB) 25)
  case round =>
    obtain ⟨k, us, hk, rfl, hus, hT, hR, hbel⟩ := hrel
    have husok : SetOk us := by rw [hus]; exact ofB_ok _
    by_cases hlt : k < l.length
    · have hki : (k : Int) < (l.length : Int) := by omega
      obtain ⟨ad, rfl, hc⟩ := (hr.ext hbel).at_ (k := k) (by simpa using hlt)
      simp only [List.getElem_map, nb] at hc
      have hbl := hl l[k] (List.getElem_mem hlt)
      have hsn : setB us l[k] = ofB (l.take (k + 1)) := by rw [hus, take_snoc l k hlt, ofB_snoc]
      have Hsn := Lib.hid hsn
      have Hus := Lib.hid hus
      clear hsn hus
      generalize l[k] = b at hc hbl Hsn
      have hi4 : b / 64 < 4 := by omega
      have hcell : wr.cell? ⟨w.heap.size + 1, b / 64, none⟩ = some (.int .u64 (wordB us (b / 64) : Int)) := (hT.cell _).trans (cellsU_at husok hi4)
      have hfree := hT.free (b / 64)
      have hor := or_key (wordB us (b / 64)) (2 ^ (b % 64)) (husok.wlt _) (two_pow_lt b)
      have hshl := shl_bit b
      have hT' := hT.put (b / 64) (.int .u64 ((wordB us (b / 64) ||| 2 ^ (b % 64) : Nat) : Int))
      rw [cellsU_set] at hT'
      have HT' := Lib.hid hT'
      have HT := Lib.hid hT
      have hset : us.set (b / 64) (wordB us (b / 64) ||| 2 ^ (b % 64)) = setB us b := rfl
      have Hset := Lib.hid hset
      have hbi : (b : Int) < 256 := by omega
      clear hT' hT hset
      go_wp2
      go_region
      go_wp2
      go_roundw
      case rel =>
        have hor' : bits BinOp.or IntKind.u64 (wordB us (b / 64) : Int) ((2 : Int) ^ (b % 64)) = ((wordB us (b / 64) ||| 2 ^ (b % 64) : Nat) : Int) := by rw [pow_cast]; exact hor
        rw [hor']
        exact ⟨k + 1, us.set (b / 64) (wordB us (b / 64) ||| 2 ^ (b % 64)), by omega, by go_num, Hset.out.trans Hsn.out, HT'.out.drew, (hR.far (by simp) _).drew, (hbel.setCell (by simp) _).drew⟩
      case measure => simp [intOf]; omega
    · obtain rfl : k = l.length := by omega
      rw [List.take_length] at hus
      subst hus
      have hi := size_set husok
      go_wp2_with (first | (refine wpList_load_set rfl _ rfl (w.heap.size + 1) rfl husok hT ?_) | (refine wpList_store_set rfl _ _ rfl w.heap.size rfl rfl husok zero_ok hR ?_; intro w2 hB2 _ _ hbel2))
      exact bodyPost_ret (results_cell rfl _ _ w.heap.size 25 _ 4 23 rfl hB2 Tryd.underlying25 hi) rfl ⟨rfl, hbel.trans (hbel2 _ (by omega))⟩

theorem info_u8 : (Tryd.prog.info? 5).map (fun i => (i.zero, i.size, i.bytes)) = some (some (.int .u8 0), 1, 1) := by kernel_rfl
theorem ext_alloc {a w : World} (h : Below a.heap.size a w) (o : Obj) : Below a.heap.size a (w.alloc o) := h.alloc h.size o

set_option maxHeartbeats 2000000 in
theorem rrange_any (lo hi : Nat) (w : World) (h1 : lo < 256) (h2 : hi < 256) :
    Calls Tryd.prog 14 #[.int .u8 (lo : Int), .int .u8 (hi : Int)] w fun e w' => e = .returned (setV (ofB (rangeB lo hi))) ∧ Below w.heap.size w w' := by
  have hz := zeros_set
  unfold setV
  go_enter Tryd.func14, Tryd.ntmps14
  go_wp2
  go_loopw [5, 6] (fun s i wr => ∃ (k : Nat) (A : Option Addr) (c : Nat), k ≤ hi + 1 - lo ∧ i = .int .i64 ((lo + k : Nat) : Int) ∧ s = .slice A k c ∧ NewO (w.alloc (Obj.cells (cellsU zeroB) 25)) wr 5 1 A k c ((fromN lo k).map nb)) (fun _ i _ => hi + 1 - (intOf i).toNat)
  case atStart => exact ⟨0, none, 0, by omega, rfl, rfl, NewO.start _ _ _⟩
  case round =>
    obtain ⟨k, A, c, hk, rfl, rfl, hN⟩ := hrel
    by_cases hlt : k < hi + 1 - lo
    · obtain ⟨b, hbe⟩ : ∃ b, lo + k = b := ⟨_, rfl⟩
      have hsn : (fromN lo (k + 1)).map nb = (fromN lo k).map nb ++ [.int .u8 (b : Int)] := by rw [fromN_succ, List.map_append, hbe]; rfl
      have Hsn := Lib.hid hsn
      rw [hbe]
      have hbl : b < 256 := by omega
      have hle : (b : Int) ≤ (hi : Int) := by omega
      have hm1 : k + 1 ≤ maxLen := by unfold maxLen; omega
      have hm2 : (k + 1) * 1 ≤ 140737488355328 := by omega
      have Hbe := Lib.hid hbe
      clear hsn hbe
      go_wp2_with (at_builtin
                   refine wpList_appO _ rfl (.tmp 15) (.tmp 18) _ rfl _ _ 1 1 Tryd.underlying22 info_u8 rfl A _ c _ rfl (hN.row.alloc _) (some ⟨wr.heap.size, 0, none⟩) 1 1 [.int .u8 (b : Int)] rfl rfl (Rd.lit _ #[.int .u8 (b : Int)] _) ?_ ?_ hm1 hm2 ?_
                   · simp; rfl
                   · intro h; cases h
                   intro A3 c3 w3 hrow3 honly3 hA3)
      have hN3 := hN.grow (ext_alloc (Below.refl _ _) _) hrow3 honly3 hA3
      go_roundw
      case rel =>
        refine ⟨k + 1, A3, c3, by omega, ?_, rfl, ?_⟩
        · have := Hbe.out
          rw [← Nat.add_assoc, this]
          go_num
        · rw [Hsn.out]; exact hN3
      case measure =>
        have := Hbe.out
        simp [intOf]; omega
    · obtain rfl : k = hi + 1 - lo := by omega
      have hgt : ¬ ((lo + (hi + 1 - lo) : Nat) : Int) ≤ (hi : Int) := by omega
      have hR := ((Blk.new w 25 (cellsU zeroB)).ext (by have := hN.bel; exact this))
      have hbel : Below w.heap.size w wr := ((Below.refl _ _).alloc (Nat.le_refl _) _).trans (hN.bel.mono (by simp))
      have hcall := rof_any A (hi + 1 - lo) c (fromN lo (hi + 1 - lo)) wr (by rw [fromN_len]) (fun b hb => by
        unfold fromN at hb
        rw [List.mem_range'_1] at hb
        omega) (by rw [fromN_len]; omega) hN.rd
      have hok : SetOk (ofB (rangeB lo hi)) := ofB_ok _
      have he : fromN lo (hi + 1 - lo) = rangeB lo hi := rfl
      rw [he] at hcall
      generalize hi + 1 - lo = m at hcall hgt ⊢
      generalize lo + m = b at hgt ⊢
      generalize hus : ofB (rangeB lo hi) = us at hcall hok
      have Hus := Lib.hid hus
      clear hus
      unfold setV at hcall
      have hi' := size_set hok
      clear he
      go_wp2_with fail
      refine hcall.mono ?_
      rintro e w2 ⟨rfl, hb2⟩
      have hR2 := hR.ext hb2
      clear hcall hR
      go_wp2_with (refine wpList_store_set rfl _ _ rfl w.heap.size rfl rfl hok zero_ok hR2 ?_; intro w3 hB3 _ _ hbel3)
      exact bodyPost_ret (results_cell rfl _ _ w.heap.size 25 _ 4 23 rfl hB3 Tryd.underlying25 hi') rfl ⟨by rw [← Hus.out], (ext_trans hbel hb2).trans (hbel3 _ (by omega))⟩
end Go.Proofs.YtjlakbcbfbcmhaaDoor

/-
  The contracts of the library's OnesCount64 and TrailingZeros64. No statement of the seat is proved here.
-/
namespace Go.Proofs.YtjlakbcbfbcmhaaDoor
open Go Go.RowKit

theorem and_i64_127 (f : Nat) (hf : f < 18446744073709551616) : bits .and .i64 (IntKind.i64.wrap (f : Int)) 127 = ((f % 128 : Nat) : Int) := by
  show IntKind.i64.wrap ((BitVec.ofInt 64 (IntKind.i64.wrap (f : Int)) &&& BitVec.ofInt 64 127).toNat : Int) = _
  have h2 : (BitVec.ofInt 64 (IntKind.i64.wrap (f : Int))).toNat = f := by
    rw [BitVec.toNat_ofInt, IntKind.wrap_i64]; omega
  have h3 : (BitVec.ofInt 64 127).toNat = 127 := rfl
  rw [BitVec.toNat_and, h2, h3, show (127 : Nat) = 2 ^ 7 - 1 from rfl, Nat.and_two_pow_sub_one_eq_mod, IntKind.wrap_i64]
  omega
theorem u64_fit (x : Nat) (h : x < 18446744073709551616) : IntKind.u64.wrap (x : Int) = (x : Int) := by rw [IntKind.wrap_u64]; omega

set_option maxHeartbeats 1000000 in
theorem onescount_any (x : Nat) (hx : x < 18446744073709551616) (w : World) :
    Calls Tryd.prog 24 #[.int .u64 (x : Int)] w fun e w' => e = .returned (.int .i64 (Lib.onesCount x : Int)) ∧ w = w' := by
  obtain ⟨a, b, c, d, e, f, s1, t1, s2, t2, s3, s4, t4, s5, t5, s6, t6, s7, t7⟩ := pop_steps x hx
  have dv : ∀ (n m : Nat), ((n : Int) / (m : Int)) = ((n / m : Nat) : Int) := fun n m => by simp
  have bl : b < 18446744073709551616 := by omega
  have k1 : IntKind.u64.wrap (bits BinOp.and IntKind.u64 ((x : Int) / 2) 6148914691236517205 + bits BinOp.and IntKind.u64 (x : Int) 6148914691236517205) = (a : Int) := by
    have h1 := bits_and_u64_nat (x / 2) 6148914691236517205 (by omega) (by omega)
    have h2 : bits BinOp.and IntKind.u64 (x : Int) 6148914691236517205 = _ := bits_and_u64_nat x 6148914691236517205 (by omega) (by omega)
    rw [← dv x 2] at h1
    have h1' : bits BinOp.and IntKind.u64 ((x : Int) / 2) 6148914691236517205 = _ := h1
    rw [h1', h2, ← Int.natCast_add, s1, u64_fit a t1]
  have k2 : IntKind.u64.wrap (bits BinOp.and IntKind.u64 ((a : Int) / 4) 3689348814741910323 + bits BinOp.and IntKind.u64 (a : Int) 3689348814741910323) = (b : Int) := by
    have h1 := bits_and_u64_nat (a / 4) 3689348814741910323 (by omega) (by omega)
    have h2 : bits BinOp.and IntKind.u64 (a : Int) 3689348814741910323 = _ := bits_and_u64_nat a 3689348814741910323 (by omega) (by omega)
    rw [← dv a 4] at h1
    have h1' : bits BinOp.and IntKind.u64 ((a : Int) / 4) 3689348814741910323 = _ := h1
    rw [h1', h2, ← Int.natCast_add, s2, u64_fit b bl]
  have k3 : bits BinOp.and IntKind.u64 (IntKind.u64.wrap ((b : Int) / 16 + (b : Int))) 1085102592571150095 = (c : Int) := by
    have h0 := dv b 16
    have h1 := bits_and_u64_nat (b / 16 + b) 1085102592571150095 (by omega) (by omega)
    rw [s3] at h1
    rw [show ((b : Int) / 16) = ((b / 16 : Nat) : Int) from h0, ← Int.natCast_add, u64_fit _ t2]
    exact h1
  have k4 : IntKind.u64.wrap ((c : Int) + (c : Int) / 256) = (d : Int) := by
    rw [show ((c : Int) / 256) = ((c / 256 : Nat) : Int) from dv c 256, ← Int.natCast_add, s4, u64_fit d t4]
  have k5 : IntKind.u64.wrap ((d : Int) + (d : Int) / 65536) = (e : Int) := by
    rw [show ((d : Int) / 65536) = ((d / 65536 : Nat) : Int) from dv d 65536, ← Int.natCast_add, s5, u64_fit e t5]
  have k6 : IntKind.u64.wrap ((e : Int) + (e : Int) / 4294967296) = (f : Int) := by
    rw [show ((e : Int) / 4294967296) = ((e / 4294967296 : Nat) : Int) from dv e 4294967296, ← Int.natCast_add, s6, u64_fit f t6]
  have k7 : bits .and .i64 (wrap64 (f : Int)) 127 = ((f % 128 : Nat) : Int) := by rw [← and_i64_127 f t6]; unfold wrap64; rw [IntKind.wrap_i64]
  rw [s7] at k7
  clear s1 s2 s3 s4 s5 s6 s7 t1 t2 t4 t5 t6 t7 dv bl hx
  have K1 := Lib.hid k1
  have K2 := Lib.hid k2
  have K3 := Lib.hid k3
  have K4 := Lib.hid k4
  have K5 := Lib.hid k5
  have K6 := Lib.hid k6
  have K7 := Lib.hid k7
  clear k1 k2 k3 k4 k5 k6 k7
  go_enter Tryd.func24, Tryd.ntmps24
  go_wp2
  simp only [K1.out, K2.out, K3.out, K4.out, K5.out, K6.out, K7.out]
  go_ret
  exact ⟨rfl, rfl⟩

/-- The table of the library's TrailingZeros64, in its variable. -/
def Tab (w : World) : Prop := ∀ j, j < Lib.deBruijn64tab.length → w.cell? ⟨0, j, none⟩ = some (.int .u8 (Lib.deBruijn64tab.getD j 0))
theorem Tab.ext {w w' : World} (h : Tab w) (hb : Below w.heap.size w w') : Tab w' := fun j hj => by
  have hl := World.block_lt_of_cell? w _ (h j hj)
  exact (World.cell?_of_block (hb.block _ hl)).trans (h j hj)

theorem tz_key (x a : Nat) (hx : x < 18446744073709551616) (hx0 : x ≠ 0) (hlow : x &&& (18446744073709551616 - x) = a) :
    IntKind.u64.wrap (bits BinOp.and IntKind.u64 (x : Int) (IntKind.u64.wrap (-(x : Int))) * 285870213051353865) / 288230376151711744 = ((a * 285870213051353865 % 18446744073709551616 / 288230376151711744 : Nat) : Int) := by
  have e1 : IntKind.u64.wrap (-(x : Int)) = ((18446744073709551616 - x : Nat) : Int) := by rw [IntKind.wrap_u64]; omega
  rw [e1, bits_and_u64_nat x _ hx (by omega), hlow, IntKind.wrap_u64]
  omega

set_option maxHeartbeats 1000000 in
theorem tz_core (x k idx : Nat) (w : World) (hx0 : ((x : Int) == 0) = false)
    (key : IntKind.u64.wrap (bits BinOp.and IntKind.u64 (x : Int) (IntKind.u64.wrap (-(x : Int))) * 285870213051353865) / 288230376151711744 = (idx : Int))
    (hi : idx < 64) (hk : k < 64) (hcell : w.cell? ⟨0, idx, none⟩ = some (.int .u8 k)) :
    Calls Tryd.prog 23 #[.int .u64 (x : Int)] w fun e w' => e = .returned (.int .i64 (k : Int)) ∧ w = w' := by
  go_enter Tryd.func23, Tryd.ntmps23
  go_wp2_with (simp only [key])
  go_ret
  exact ⟨rfl, rfl⟩
theorem tz_any (x : Nat) (hx0 : x ≠ 0) (hx : x < 18446744073709551616) (w : World) (ht : Tab w) :
    Calls Tryd.prog 23 #[.int .u64 (x : Int)] w fun e w' => e = .returned (.int .i64 (Lib.ctz 64 x : Int)) ∧ w = w' := by
  obtain ⟨hlow, hk⟩ := Lib.lowest_bit 64 x hx0 hx
  obtain ⟨hi, htab⟩ := Lib.deBruijn64_at _ hk
  have hcell := ht _ hi
  rw [htab] at hcell
  exact tz_core x _ _ w (by simp; omega) (tz_key x _ hx hx0 hlow) hi hk hcell
end Go.Proofs.YtjlakbcbfbcmhaaDoor

/-
  The contracts of Has, of both sides. No statement of the seat is proved here.
-/
namespace Go.Proofs.YtjlakbcbfbcmhaaDoor
open Go Go.RowKit

theorem and_bit (x i : Nat) : x &&& 2 ^ i = if x.testBit i then 2 ^ i else 0 := by
  apply Nat.eq_of_testBit_eq
  intro j
  rw [Nat.testBit_and, Nat.testBit_two_pow]
  by_cases h : i = j
  · subst h
    by_cases hx : x.testBit i <;> simp [hx, Nat.testBit_two_pow]
  · by_cases hx : x.testBit i <;> simp [hx, h, Nat.testBit_two_pow]
theorem has_key (x k : Nat) (hx : x < 18446744073709551616) : bits BinOp.and IntKind.u64 (x : Int) ((2 ^ (k % 64) : Nat) : Int) = if x.testBit (k % 64) then ((2 ^ (k % 64) : Nat) : Int) else 0 := by
  rw [bits_and_u64_nat x _ hx (two_pow_lt k), and_bit]
  by_cases h : x.testBit (k % 64) <;> simp [h]
theorem ref_key (x k : Nat) (hx : x < 18446744073709551616) : bits BinOp.and IntKind.u64 ((x : Int) / 2 ^ (k % 64)) 1 = if x.testBit (k % 64) then 1 else 0 := by
  have e : (x : Int) / 2 ^ (k % 64) = ((x / 2 ^ (k % 64) : Nat) : Int) := by simp
  have h1 := bits_and_u64_nat (x / 2 ^ (k % 64)) 1 (Nat.lt_of_le_of_lt (Nat.div_le_self _ _) hx) (by omega)
  rw [e]
  refine h1.trans ?_
  rw [Nat.and_one_is_mod, ← Nat.shiftRight_eq_div_pow]
  have h2 : x.testBit (k % 64) = decide ((x >>> (k % 64)) % 2 = 1) := by
    rw [Nat.testBit_eq_decide_div_mod_eq, Nat.shiftRight_eq_div_pow]
  rw [h2]
  rcases Nat.mod_two_eq_zero_or_one (x >>> (k % 64)) with h | h <;> simp [h]

set_option maxHeartbeats 1000000 in
theorem has_any (ws : List Nat) (hs : SetOk ws) (b : Nat) (hb : b < 256) (w : World) :
    Calls Tryd.prog 15 #[setV ws, .int .u8 (b : Int)] w fun e w' => e = .returned (.bool (hasB ws b)) ∧ Below w.heap.size w w' := by
  have hz := cellsU_size hs
  have hB := Blk.new w 25 (cellsU ws)
  have hcell : (w.alloc (.cells (cellsU ws) 25)).cell? ⟨w.heap.size, b / 64, none⟩ = some (.int .u64 (wordB ws (b / 64) : Int)) := (hB.cell _).trans (cellsU_at hs (by omega))
  have key := has_key (wordB ws (b / 64)) b (hs.wlt _)
  have hp : ((2 ^ (b % 64) : Nat) : Int) ≠ 0 := by have := Nat.two_pow_pos (b % 64); omega
  have hlt : b / 64 < 4 := by omega
  have hbel : Below w.heap.size w (w.alloc (.cells (cellsU ws) 25)) := (Below.refl _ _).alloc (Nat.le_refl _) _
  unfold setV
  have hcall := place_any b hb (w.alloc (.cells (cellsU ws) 25))
  generalize ((2 ^ (b % 64) : Nat) : Int) = bit at key hp hcall
  unfold hasB
  generalize wordB ws (b / 64) = word at hcell key ⊢
  generalize b / 64 = i at hcell hlt hcall ⊢
  generalize word.testBit (b % 64) = t at key ⊢
  go_enter Tryd.func15, Tryd.ntmps15
  go_wp2_with fail
  refine hcall.mono ?_
  rintro e w2 ⟨rfl, rfl⟩
  clear hcall hB hz hs
  have hb0 : (bit == 0) = false := by simp [hp]
  cases t
  · simp only [Bool.false_eq_true, if_false] at key
    go_wp2_with (simp only [key])
    go_ret
    exact ⟨rfl, hbel⟩
  · simp only [if_true] at key
    go_wp2_with (simp only [key, hb0])
    go_ret
    exact ⟨by simp [hp], hbel⟩

set_option maxHeartbeats 1000000 in
theorem rhas_any (ws : List Nat) (hs : SetOk ws) (b : Nat) (hb : b < 256) (w : World) :
    Calls Tryd.prog 16 #[setV ws, .int .u8 (b : Int)] w fun e w' => e = .returned (.bool (hasB ws b)) ∧ Below w.heap.size w w' := by
  have hz := cellsU_size hs
  have hB := Blk.new w 25 (cellsU ws)
  have hcell : (w.alloc (.cells (cellsU ws) 25)).cell? ⟨w.heap.size, b / 64, none⟩ = some (.int .u64 (wordB ws (b / 64) : Int)) := (hB.cell _).trans (cellsU_at hs (by omega))
  have key := ref_key (wordB ws (b / 64)) b (hs.wlt _)
  have hlt : b / 64 < 4 := by omega
  have hbel : Below w.heap.size w (w.alloc (.cells (cellsU ws) 25)) := (Below.refl _ _).alloc (Nat.le_refl _) _
  unfold setV
  unfold hasB
  generalize wordB ws (b / 64) = word at hcell key ⊢
  clear hB
  generalize word.testBit (b % 64) = t at key ⊢
  cases t
  · simp only [Bool.false_eq_true, if_false] at key
    go_enter Tryd.func16, Tryd.ntmps16
    go_wp2_with (simp only [key])
    go_ret
    exact ⟨rfl, hbel⟩
  · simp only [if_true] at key
    go_enter Tryd.func16, Tryd.ntmps16
    go_wp2_with (simp only [key])
    go_ret
    exact ⟨rfl, hbel⟩

end Go.Proofs.YtjlakbcbfbcmhaaDoor

/-
  The contracts of Count, List, and of the reference's List. No statement of the seat is proved here.
-/
namespace Go.Proofs.YtjlakbcbfbcmhaaDoor
open Go Go.RowKit

theorem listB_cnt (ws : List Nat) : cntB ws 4 = (listB ws).length := rfl
theorem cntB_zero (ws : List Nat) : cntB ws 0 = 0 := by simp [cntB, upB]
theorem cntB_le (ws : List Nat) (i : Nat) : cntB ws i ≤ 64 * i := upB_len _ _

set_option maxHeartbeats 2000000 in
theorem count_any (ws : List Nat) (hs : SetOk ws) (w : World) :
    Calls Tryd.prog 10 #[setV ws] w fun e w' => e = .returned (.int .i64 ((listB ws).length : Int)) ∧ Below w.heap.size w w' := by
  have hB1 := Blk.new w 25 (cellsU ws)
  unfold setV
  go_enter Tryd.func10, Tryd.ntmps10
  go_wp2_with (refine wpList_load_set rfl _ rfl w.heap.size rfl hs hB1 ?_)
  go_loopw [3, 5, 7] (fun s _ i wr => ∃ (k m : Nat), k ≤ 4 ∧ i = .int .i64 (k : Int) ∧ s = .int .i64 (m : Int) ∧ m = cntB ws k ∧ Below w.heap.size w wr) (fun _ _ i _ => 4 - (intOf i).toNat)
  case atStart => exact ⟨0, 0, by omega, rfl, rfl, (cntB_zero ws).symm, (Below.refl _ _).alloc (Nat.le_refl _) _⟩
  case round =>
    obtain ⟨k, m, hk, rfl, rfl, hm, hbel⟩ := hrel
    have hle := cntB_le ws k
    rw [← hm] at hle
    by_cases hlt : k < 4
    · have hki : (k : Int) < 4 := by omega
      have hsn := cntB_succ ws k
      rw [← hm] at hsn
      have hle2 := cntB_le ws (k + 1)
      rw [hsn] at hle2
      have hcall := onescount_any (wordB ws k) (hs.wlt k) wr
      have Hsn := Lib.hid hsn
      clear hsn hm hB1
      generalize Lib.onesCount (wordB ws k) = p at hcall Hsn hle2
      go_wp2_with (first | (refine wpList_index_set rfl _ _ rfl hs hlt rfl rfl ?_) | fail)
      refine hcall.mono ?_
      rintro e w2 ⟨rfl, rfl⟩
      clear hcall
      go_wp2
      go_roundw
      case rel => exact ⟨k + 1, m + p, by omega, by go_num, by go_num, Hsn.out.symm, hbel⟩
      case measure => simp [intOf]; omega
    · obtain rfl : k = 4 := by omega
      have hm2 := hm.trans (listB_cnt ws)
      have Hm2 := Lib.hid hm2
      clear hm hm2 hB1
      go_wp2
      go_ret
      exact ⟨by rw [Hm2.out]; rfl, hbel⟩

/-- what a word gives to the list -/
def wordL (i x : Nat) : List Nat := (wb x).map (64 * i + ·)
theorem wordL_cons {i x : Nat} (h0 : x ≠ 0) (h : x < 18446744073709551616) : wordL i x = (64 * i + Lib.ctz 64 x) :: wordL i (x &&& (x - 1)) := by
  unfold wordL
  rw [(wb_cons h0 h).1, List.map_cons]
theorem wordL_zero (i : Nat) : wordL i 0 = [] := by unfold wordL; rw [wb_zero]; rfl

set_option maxHeartbeats 4000000 in
theorem list_any (ws : List Nat) (hs : SetOk ws) (w : World) (ht : Tab w) :
    Calls Tryd.prog 6 #[setV ws] w fun e w' => ∃ A' c', e = .returned (.slice A' (listB ws).length c') ∧ NewO w w' 5 1 A' (listB ws).length c' ((listB ws).map nb) := by
  have hB1 := Blk.new w 25 (cellsU ws)
  unfold setV
  go_enter Tryd.func6, Tryd.ntmps6
  go_wp2_with (refine wpList_load_set rfl _ rfl w.heap.size rfl hs hB1 ?_)
  go_loopw [3, 4, 5, 6, 8] (fun s _ _ _ i wr => ∃ (k : Nat) (L : List Nat) (A : Option Addr) (c : Nat), k ≤ 4 ∧ i = .int .i64 (k : Int) ∧ L = upB ws (64 * k) ∧ s = .slice A L.length c ∧ NewO w wr 5 1 A L.length c (L.map nb)) (fun _ _ _ _ i _ => 4 - (intOf i).toNat)
  case atStart => exact ⟨0, [], none, 0, by omega, rfl, by simp [upB], rfl, (NewO.start w _ _).ext ((Below.refl _ _).alloc (Nat.le_refl _) _)⟩
  case round =>
    obtain ⟨k, L, A, c, hk, rfl, hL, rfl, hN⟩ := hrel
    by_cases hlt : k < 4
    · have hki : (k : Int) < 4 := by omega
      have hsn : upB ws (64 * (k + 1)) = L ++ wordL k (wordB ws k) := by rw [hL, upB_word]; rfl
      have hlen : (L ++ wordL k (wordB ws k)).length ≤ 256 := by
        rw [← hsn]
        have := upB_len ws (64 * (k + 1))
        omega
      have Hsn := Lib.hid hsn
      have Hlen := Lib.hid hlen
      have HL := Lib.hid hL
      have hx := hs.wlt k
      clear hsn hlen hL hB1
      obtain ⟨x, hxe⟩ : ∃ x, wordB ws k = x := ⟨_, rfl⟩
      rw [hxe] at Hsn Hlen hx
      have Hxe := Lib.hid hxe
      obtain ⟨wo, hwo⟩ : ∃ wo : World, wo = wr := ⟨_, rfl⟩
      subst hwo
      go_wp2_with (refine wpList_index_set rfl _ _ rfl hs hlt rfl rfl ?_; rw [Hxe.out])
      clear hxe
      go_loopw [3, 6] (fun s v w3 => ∃ (y : Nat) (M : List Nat) (A2 : Option Addr) (c2 : Nat), v = .int .u64 (y : Int) ∧ y < 18446744073709551616 ∧ L ++ wordL k x = M ++ wordL k y ∧ s = .slice A2 M.length c2 ∧ NewO w w3 5 1 A2 M.length c2 (M.map nb)) (fun _ v _ => (intOf v).toNat)
      case atStart => exact ⟨x, L, A, c, rfl, hx, rfl, rfl, hN⟩
      case round =>
        obtain ⟨y, M, A2, c2, rfl, hy, hLM, rfl, hN2⟩ := hrel
        have hMl : M.length ≤ 256 := by
          have h1 := Hlen.out
          rw [hLM, List.length_append] at h1
          omega
        by_cases h0 : y = 0
        · subst h0
          have hLM2 : L ++ wordL k x = M := by rw [hLM, wordL_zero, List.append_nil]
          have HLM2 := Lib.hid hLM2
          clear hLM hLM2
          go_wp2
          go_roundw
          case rel => exact ⟨k + 1, M, A2, c2, by omega, by go_num, by rw [Hsn.out, HLM2.out], rfl, hN2⟩
          case measure => simp [intOf]; omega
        · obtain ⟨hcons, hct, hlty⟩ := wb_cons h0 hy
          have hLM3 := hLM
          rw [wordL_cons h0 hy] at hLM3
          have hcall := tz_any y h0 hy wr (ht.ext hN2.bel)
          have hyb : ((y : Int) == 0) = false := by simp; omega
          have hyn : ¬ ((y : Int) = 0) := by omega
          have hand : bits BinOp.and IntKind.u64 (y : Int) ((y : Int) - 1) = ((y &&& (y - 1) : Nat) : Int) := by
            have := bits_and_u64_nat y (y - 1) hy (by omega)
            rwa [show ((y - 1 : Nat) : Int) = (y : Int) - 1 by omega] at this
          have hal : y &&& (y - 1) < 18446744073709551616 := by omega
          clear hcons hLM
          generalize Lib.ctz 64 y = t at hct hcall hLM3
          generalize y &&& (y - 1) = z at hlty hand hal hLM3
          obtain ⟨b, hb⟩ : ∃ b, 64 * k + t = b := ⟨_, rfl⟩
          rw [hb] at hLM3
          have hbb : b < 256 := by omega
          have hbe : (k : Int) * 64 + (t : Int) = (b : Int) := by omega
          have hm1 : M.length + 1 ≤ maxLen := by unfold maxLen; omega
          have hm2 : (M.length + 1) * 1 ≤ 140737488355328 := by omega
          have HLM := Lib.hid hLM3
          have Hb := Lib.hid hb
          clear hLM3 hb
          go_wp2_with fail
          refine hcall.mono ?_
          rintro e w3 ⟨rfl, rfl⟩
          clear hcall
          go_wp2_with (at_builtin
                       refine wpList_appO _ rfl (.tmp 19) (.tmp 26) _ rfl _ _ 1 1 Tryd.underlying22 info_u8 rfl A2 _ c2 _ rfl (hN2.row.alloc _) (some ⟨wr.heap.size, 0, none⟩) 1 1 [_] rfl rfl (Rd.lit _ #[_] _) ?_ ?_ hm1 hm2 ?_
                       · simp; rfl
                       · intro h; cases h
                       intro A3 c3 w4 hrow4 honly4 hA4)
          have hN4 := hN2.grow (ext_alloc (Below.refl _ _) _) hrow4 honly4 hA4
          go_roundw
          case rel =>
            refine ⟨z, M ++ [b], A3, c3, rfl, hal, by rw [HLM.out, List.append_assoc]; rfl, by rw [List.length_append]; rfl, ?_⟩
            rw [List.length_append, List.map_append]
            exact hN4
          case measure => simp [intOf]; omega
    · obtain rfl : k = 4 := by omega
      have hL2 : L = listB ws := hL
      subst hL2
      clear hL hB1
      go_wp2
      go_ret
      exact ⟨A, c, rfl, hN⟩

set_option maxHeartbeats 4000000 in
theorem rlist_any (ws : List Nat) (hs : SetOk ws) (w : World) :
    Calls Tryd.prog 7 #[setV ws] w fun e w' => ∃ A' c', e = .returned (.slice A' (listB ws).length c') ∧ NewO w w' 5 1 A' (listB ws).length c' ((listB ws).map nb) := by
  have hB1 := Blk.new w 25 (cellsU ws)
  unfold setV
  go_enter Tryd.func7, Tryd.ntmps7
  go_wp2
  go_loopw [3, 4] (fun s i wr => ∃ (k : Nat) (L : List Nat) (A : Option Addr) (c : Nat), k ≤ 256 ∧ i = .int .i64 (k : Int) ∧ L = upB ws k ∧ s = .slice A L.length c ∧ NewO (w.alloc (Obj.cells (cellsU ws) 25)) wr 5 1 A L.length c (L.map nb)) (fun _ i _ => 256 - (intOf i).toNat)
  case atStart => exact ⟨0, [], none, 0, by omega, rfl, by simp [upB], rfl, NewO.start _ _ _⟩
  case round =>
    obtain ⟨k, L, A, c, hk, rfl, hL, rfl, hN⟩ := hrel
    by_cases hlt : k < 256
    · have hki : (k : Int) < 256 := by omega
      have hsn := upB_succ ws k
      rw [← hL] at hsn
      have hle : L.length ≤ 256 := by
        have := upB_len ws k
        rw [← hL] at this
        omega
      have hB2 := hB1.ext hN.bel
      have hcall := rhas_any ws hs k hlt wr
      unfold setV at hcall
      have Hsn := Lib.hid hsn
      have HB1 := Lib.hid hB1
      clear hsn hL hB1
      go_wp2_with (refine wpList_load_set rfl _ rfl w.heap.size rfl hs hB2 ?_)
      refine hcall.mono ?_
      rintro e w2 ⟨rfl, hb2⟩
      have hN2 := hN.ext hb2
      clear hcall hB2
      generalize hasB ws k = t at Hsn
      cases t
      · go_wp2
        go_roundw
        case rel =>
          have h1 := Hsn.out
          simp only [Bool.false_eq_true, if_false, List.append_nil] at h1
          exact ⟨k + 1, L, A, c, by omega, by go_num, h1.symm, rfl, hN2⟩
        case measure => simp [intOf]; omega
      · have hm1 : L.length + 1 ≤ maxLen := by unfold maxLen; omega
        have hm2 : (L.length + 1) * 1 ≤ 140737488355328 := by omega
        go_wp2_with (at_builtin
                     refine wpList_appO _ rfl (.tmp 13) (.tmp 16) _ rfl _ _ 1 1 Tryd.underlying22 info_u8 rfl A _ c _ rfl (hN2.row.alloc _) (some ⟨w2.heap.size, 0, none⟩) 1 1 [_] rfl rfl (Rd.lit _ #[_] _) ?_ ?_ hm1 hm2 ?_
                     · simp; rfl
                     · intro h; cases h
                     intro A3 c3 w4 hrow4 honly4 hA4)
        have hN4 := hN2.grow (ext_alloc (Below.refl _ _) _) hrow4 honly4 hA4
        go_roundw
        case rel =>
          have h1 := Hsn.out
          simp only [if_true] at h1
          refine ⟨k + 1, L ++ [k], A3, c3, by omega, by go_num, h1.symm, by rw [List.length_append]; rfl, ?_⟩
          rw [List.length_append, List.map_append]
          exact hN4
        case measure => simp [intOf]; omega
    · obtain rfl : k = 256 := by omega
      have hL2 : L = listB ws := hL
      subst hL2
      clear hL hB1
      go_wp2
      go_ret
      exact ⟨A, c, rfl, hN.back ((Below.refl _ _).alloc (Nat.le_refl _) _)⟩
end Go.Proofs.YtjlakbcbfbcmhaaDoor

/-
  The contracts of Ranges, of both sides. No statement of the seat is proved here.
-/
namespace Go.Proofs.YtjlakbcbfbcmhaaDoor
open Go Go.RowKit

def encR (p : Nat × Nat) : List Value := [nb p.1, nb p.2]
def cellsR (l : List (Nat × Nat)) : List Value := l.flatMap encR
theorem cellsR_length (l : List (Nat × Nat)) : (cellsR l).length = l.length * 2 := by
  induction l with
  | nil => rfl
  | cons x r ih =>
    have : cellsR (x :: r) = encR x ++ cellsR r := rfl
    rw [this, List.length_append, ih]; simp [encR]; omega
theorem cellsR_append (a b : List (Nat × Nat)) : cellsR (a ++ b) = cellsR a ++ cellsR b := by unfold cellsR; rw [List.flatMap_append]
theorem cellsR_at (l : List (Nat × Nat)) (k : Nat) (h : k < l.length) : (cellsR l)[k * 2]? = some (nb l[k].1) ∧ (cellsR l)[k * 2 + 1]? = some (nb l[k].2) := by
  have e : cellsR l = cellsR (l.take k) ++ (encR l[k] ++ cellsR (l.drop (k + 1))) := by
    conv => lhs; rw [← List.take_append_drop k l, cellsR_append, List.drop_eq_getElem_cons h]
    rfl
  have hl : (cellsR (l.take k)).length = k * 2 := by rw [cellsR_length, List.length_take]; congr 1; omega
  rw [e]
  constructor
  · rw [List.getElem?_append_right (by omega), hl, Nat.sub_self]; rfl
  · rw [List.getElem?_append_right (by omega), hl, Nat.add_sub_cancel_left]; rfl
theorem cellsR_set (l : List (Nat × Nat)) (a h b : Nat) : (cellsR (l ++ [(a, h)])).set (l.length * 2 + 1) (nb b) = cellsR (l ++ [(a, b)]) := by
  rw [cellsR_append, cellsR_append, List.set_append, if_neg (by rw [cellsR_length]; omega), cellsR_length, Nat.add_sub_cancel_left]
  rfl
theorem info_two : (Tryd.prog.info? 30).map (fun i => (i.zero, i.size, i.bytes)) = some (some (.agg #[.int .u8 0, .int .u8 0]), 2, 2) := by kernel_rfl
/-- a row of rows in memory -/
theorem RowO.cellR {w : World} {e : TypeId} {A : Option Addr} {c : Nat} {l : List (Nat × Nat)} (h : RowO w e 2 A l.length c (cellsR l)) {k : Nat} (hk : k < l.length) :
    ∃ g o, A = some ⟨g, o, none⟩ ∧ w.cell? ⟨g, o + k * 2, none⟩ = some (.int .u8 (l[k].1 : Int)) ∧ w.cell? ⟨g, o + k * 2 + 1, none⟩ = some (.int .u8 (l[k].2 : Int)) := by
  obtain ⟨h1, h2⟩ := cellsR_at l k hk
  obtain ⟨ad, e, c1⟩ := h.rd _ _ h1
  obtain ⟨ad', e', c2⟩ := h.rd _ _ h2
  rw [e] at e'; injection e' with e'; subst e'
  obtain ⟨g, o, rfl⟩ := h.flat ad e
  rw [Addr.add_mid] at c1 c2
  rw [← Nat.add_assoc] at c2
  exact ⟨g, o, e, c1, c2⟩

theorem listB_rises (ws : List Nat) : (listB ws).Pairwise (· < ·) := by unfold listB upB; exact List.pairwise_lt_range.filter _
/-- one byte more of a rising list -/
theorem rows_at {l : List Nat} (hb : ∀ b ∈ l, b < 256) (hp : l.Pairwise (· < ·)) {k : Nat} (hk : k < l.length) :
    (k = 0 ∧ rowsB (l.take k) = [] ∧ rowsB (l.take (k + 1)) = [(l[k], l[k])]) ∨
    ∃ (r : List (Nat × Nat)) (lo h : Nat), 0 < k ∧ rowsB (l.take k) = r ++ [(lo, h)] ∧ h < l[k] ∧ l[k - 1]? = some h ∧ r.length + 1 ≤ k ∧
      (h + 1 = l[k] → rowsB (l.take (k + 1)) = r ++ [(lo, l[k])]) ∧ (h + 1 ≠ l[k] → rowsB (l.take (k + 1)) = r ++ [(lo, h)] ++ [(l[k], l[k])]) := by
  have hbt : ∀ b ∈ l.take k, b < 256 := fun b hm => hb b (List.mem_of_mem_take hm)
  have hsn : rowsB (l.take (k + 1)) = stepR (rowsB (l.take k)) l[k] := by rw [take_snoc l k hk, rowsB_snoc]
  have hlk : (l.take k).length = k := by rw [List.length_take]; omega
  rcases rows_facts _ (l.take k) rfl hbt with ⟨h1, h2⟩ | ⟨m, h, r, lo, h1, h2, h3, h4, _, _⟩
  · left
    have k0 : k = 0 := by rw [h1] at hlk; simpa using hlk.symm
    exact ⟨k0, h2, by rw [hsn, h2, stepR_nil]⟩
  · right
    have hm : m.length + 1 = k := by rw [h1] at hlk; simpa using hlk
    have hkm : (l.take k)[k - 1]? = some h := by rw [h1, show k - 1 = m.length by omega, List.getElem?_concat_length]
    have hk1 : l[k - 1]? = some h := by
      rw [List.getElem?_take] at hkm
      split at hkm
      · exact hkm
      · cases hkm
    have hlt : h < l[k] := by
      have h5 := List.pairwise_iff_getElem.1 hp (k - 1) k (by omega) hk (by omega)
      rw [List.getElem?_eq_getElem (by omega)] at hk1
      injection hk1 with hk1
      rwa [hk1] at h5
    refine ⟨r, lo, h, by omega, h2, hlt, hk1, ?_, fun e => ?_, fun e => ?_⟩
    · rw [h2, hlk, List.length_append] at h4
      simpa using h4
    · rw [hsn, h2, stepR_join _ _ _ _ e]
    · rw [hsn, h2, stepR_new _ _ _ _ e]

set_option maxHeartbeats 4000000 in
theorem ranges_any (ws : List Nat) (hs : SetOk ws) (w : World) (ht : Tab w) :
    Calls Tryd.prog 8 #[setV ws] w fun e w' => ∃ A' c', e = .returned (.slice A' (rowsB (listB ws)).length c') ∧ NewO w w' 30 2 A' (rowsB (listB ws)).length c' (cellsR (rowsB (listB ws))) := by
  have hB1 := Blk.new w 25 (cellsU ws)
  have hcall := list_any ws hs (w.alloc (Obj.cells (cellsU ws) 25)) (ht.ext ((Below.refl _ _).alloc (Nat.le_refl _) _))
  have hbs : ∀ b ∈ listB ws, b < 256 := fun b hb => listB_lt hb
  have hps := listB_rises ws
  have hll := listB_len ws
  obtain ⟨l, hl⟩ : ∃ l, listB ws = l := ⟨_, rfl⟩
  rw [hl] at hcall hbs hps hll ⊢
  clear hl ht
  unfold setV at hcall ⊢
  go_enter Tryd.func8, Tryd.ntmps8
  go_wp2_with (refine wpList_load_set rfl _ rfl w.heap.size rfl hs hB1 ?_)
  refine hcall.mono ?_
  rintro e w2 ⟨AL, cL, rfl, hNL⟩
  clear hcall hB1
  go_wp2
  go_loopw [3, 5, 6, 10] (fun s _ _ i wr => ∃ (k : Nat) (R : List (Nat × Nat)) (A : Option Addr) (c : Nat), k ≤ l.length ∧ i = .int .i64 (k : Int) ∧ R = rowsB (l.take k) ∧ s = .slice A R.length c ∧ NewO w2 wr 30 2 A R.length c (cellsR R)) (fun _ _ _ i _ => l.length - (intOf i).toNat)
  case atStart => exact ⟨0, [], none, 0, by omega, rfl, rfl, rfl, NewO.start _ _ _⟩
  case round =>
    obtain ⟨k, R, A, c, hk, rfl, hR, rfl, hN⟩ := hrel
    by_cases hlt : k < l.length
    · have hki : (k : Int) < (l.length : Int) := by omega
      obtain ⟨ad, rfl, q⟩ := (hNL.rd.ext hN.bel).at_ (k := k) (by simpa using hlt)
      simp only [List.getElem_map, nb] at q
      have hbb := hbs l[k] (List.getElem_mem hlt)
      rcases rows_at hbs hps hlt with ⟨hk0, h1, h2⟩ | ⟨r, lo, h, hk0, h1, hhb, hk1, hrl, hj, hn⟩
      · obtain rfl : R = [] := hR.trans h1
        have H2 := Lib.hid h2
        clear hR h1 h2 hk0
        generalize l[k] = b at q hbb H2
        have hm1 : 0 + 1 ≤ maxLen := by unfold maxLen; omega
        have hm2 : (0 + 1) * 2 ≤ 140737488355328 := by omega
        go_wp2_with (at_builtin
                     refine wpList_appO _ rfl (.tmp 34) (.tmp 38) _ rfl _ _ 2 2 Tryd.underlying27 info_two rfl A _ c _ rfl (hN.row.alloc _) (some ⟨wr.heap.size, 0, none⟩) 1 1 (encR (b, b)) rfl rfl (Rd.lit _ #[.int .u8 (b : Int), .int .u8 (b : Int)] _) ?_ ?_ hm1 hm2 ?_
                     · simp [encR, nb]; rfl
                     · intro h; cases h
                     intro A3 c3 w3 hrow3 honly3 hA3)
        have hN3 := hN.grow (ext_alloc (Below.refl _ _) _) hrow3 honly3 hA3
        go_roundw
        case rel => exact ⟨k + 1, [(b, b)], A3, c3, by omega, by go_num, H2.out.symm, rfl, hN3⟩
        case measure => simp [intOf]; omega
      · obtain rfl : R = r ++ [(lo, h)] := hR.trans h1
        have Hj := Lib.hid hj
        have Hn := Lib.hid hn
        clear hR h1 hk1 hj hn
        generalize l[k] = b at q hbb hhb Hj Hn
        obtain ⟨g, o, rfl, q1, q2⟩ := hN.row.cellR (k := r.length) (by simp)
        simp only [List.getElem_append_right (Nat.le_refl _), Nat.sub_self, List.getElem_cons_zero] at q1 q2
        rw [List.length_append, List.length_singleton] at hN ⊢
        have hfr := hN.row.free (o + r.length * 2 + 1)
        have hrb : r.length ≤ 1000000 := by omega
        have hlast : ((r.length + 1 : Nat) : Int) - 1 = (r.length : Int) := by omega
        have hb1 : IntKind.u8.wrap ((b : Int) - 1) = (b : Int) - 1 := by rw [IntKind.wrap_u8]; omega
        by_cases he : h + 1 = b
        · have hN3 := hN.set (r.length * 2 + 1) (by rw [cellsR_length, List.length_append, List.length_singleton]; omega) (nb b)
          rw [← Nat.add_assoc, cellsR_set] at hN3
          have H3 := Lib.hid hN3
          have hR3 := Hj.out he
          have HR3 := Lib.hid hR3
          have hhe : (h : Int) = (b : Int) - 1 := by omega
          have heq : ((h : Int) == (b : Int) - 1) = true := by simp; omega
          clear hN3 hR3
          go_wp2
          go_roundw
          case rel =>
            refine ⟨k + 1, r ++ [(lo, b)], some ⟨g, o, none⟩, c, by omega, by go_num, HR3.out.symm, by simp, ?_⟩
            rw [List.length_append, List.length_singleton]
            exact H3.out
          case measure => simp [intOf]; omega
        · have hne : ((h : Int) == (b : Int) - 1) = false := by simp; omega
          have hnn : ¬ ((h : Int) = (b : Int) - 1) := by omega
          have hR3 := Hn.out he
          have HR3 := Lib.hid hR3
          have hm1 : r.length + 1 + 1 ≤ maxLen := by unfold maxLen; omega
          have hm2 : (r.length + 1 + 1) * 2 ≤ 140737488355328 := by omega
          clear hR3
          go_wp2_with (at_builtin
                       refine wpList_appO _ rfl (.tmp 34) (.tmp 38) _ rfl _ _ 2 2 Tryd.underlying27 info_two rfl (some ⟨g, o, none⟩) _ c _ rfl (hN.row.alloc _) (some ⟨wr.heap.size, 0, none⟩) 1 1 (encR (b, b)) rfl rfl (Rd.lit _ #[.int .u8 (b : Int), .int .u8 (b : Int)] _) ?_ ?_ hm1 hm2 ?_
                       · simp [encR, nb]; rfl
                       · intro h; cases h
                       intro A3 c3 w3 hrow3 honly3 hA3)
          have hN3 := hN.grow (ext_alloc (Below.refl _ _) _) hrow3 honly3 hA3
          go_roundw
          case rel =>
            refine ⟨k + 1, r ++ [(lo, h)] ++ [(b, b)], A3, c3, by omega, by go_num, HR3.out.symm, by simp, ?_⟩
            rw [cellsR_append]
            simpa [cellsR] using hN3
          case measure => simp [intOf]; omega
    · obtain rfl : k = l.length := by omega
      rw [List.take_length] at hR
      subst hR
      go_wp2
      go_ret
      exact ⟨A, c, rfl, (hN.back hNL.bel).back ((Below.refl _ _).alloc (Nat.le_refl _) _)⟩
end Go.Proofs.YtjlakbcbfbcmhaaDoor

/-
  The contracts of Join, Meet, of both sides. No statement of the seat is proved here.
-/
namespace Go.Proofs.YtjlakbcbfbcmhaaDoor
open Go Go.RowKit

def cellsS (l : List (List Nat)) : List Value := l.flatMap fun ws => ws.map uv
theorem cellsS_append (a b : List (List Nat)) : cellsS (a ++ b) = cellsS a ++ cellsS b := by unfold cellsS; rw [List.flatMap_append]
theorem cellsS_length {l : List (List Nat)} (h : ∀ x ∈ l, SetOk x) : (cellsS l).length = l.length * 4 := by
  induction l with
  | nil => rfl
  | cons x r ih =>
    have e : cellsS (x :: r) = x.map uv ++ cellsS r := rfl
    rw [e, List.length_append, ih (fun y hy => h y (by simp [hy])), List.length_map, (h x (by simp)).len, List.length_cons]
    omega
theorem cellsS_one (l : List (List Nat)) : ∀ u ∈ cellsS l, u.oneCell' = true := by
  intro u hu
  obtain ⟨x, _, hx⟩ := List.mem_flatMap.1 hu
  obtain ⟨y, _, rfl⟩ := List.mem_map.1 hx
  rfl
/-- a list of sets in memory -/
structure SetsR (w : World) (A : Option Addr) (l : List (List Nat)) : Prop where
  flat : l ≠ [] → Flat A
  rd : Rd w A (cellsS l)
  ok : ∀ x ∈ l, SetOk x
theorem SetsR.ext {w w' : World} {A : Option Addr} {l : List (List Nat)} (h : SetsR w A l) (hb : Below w.heap.size w w') : SetsR w' A l := ⟨h.flat, h.rd.ext hb, h.ok⟩
theorem cellsS_at {l : List (List Nat)} (h : ∀ x ∈ l, SetOk x) {k j : Nat} (hk : k < l.length) (hj : j < 4) : (cellsS l)[k * 4 + j]? = some (.int .u64 (wordB l[k] j : Int)) := by
  have hx := h l[k] (List.getElem_mem hk)
  have e : cellsS l = cellsS (l.take k) ++ (l[k].map uv ++ cellsS (l.drop (k + 1))) := by
    conv => lhs; rw [← List.take_append_drop k l, cellsS_append, List.drop_eq_getElem_cons hk]
    rfl
  have hl : (cellsS (l.take k)).length = k * 4 := by
    rw [cellsS_length (fun x hx => h x (List.mem_of_mem_take hx)), List.length_take]
    congr 1; omega
  rw [e, List.getElem?_append_right (by omega), hl, Nat.add_sub_cancel_left, List.getElem?_append_left (by rw [List.length_map, hx.len]; exact hj), List.getElem?_map, hx.at_ hj]
  rfl
theorem SetsR.cells {w : World} {A : Option Addr} {l : List (List Nat)} (h : SetsR w A l) {k : Nat} (hk : k < l.length) :
    ∃ g o, A = some ⟨g, o, none⟩ ∧ ∀ j, j < 4 → w.cell? ⟨g, o + k * 4 + j, none⟩ = some (.int .u64 (wordB l[k] j : Int)) := by
  have hx := h.ok l[k] (List.getElem_mem hk)
  obtain ⟨ad, e, _⟩ := h.rd _ _ (cellsS_at h.ok hk (j := 0) (by omega))
  obtain ⟨g, o, rfl⟩ := h.flat (by rintro rfl; simp at hk) ad e
  refine ⟨g, o, e, fun j hj => ?_⟩
  obtain ⟨ad', e', c⟩ := h.rd _ _ (cellsS_at h.ok hk hj)
  rw [e] at e'
  injection e' with e'
  subst e'
  rw [Addr.add_mid, ← Nat.add_assoc] at c
  exact c
theorem SetsR.range {w : World} {A : Option Addr} {l : List (List Nat)} (h : SetsR w A l) {k : Nat} (hk : k < l.length) : ∃ g o, A = some ⟨g, o, none⟩ ∧ w.rangeAt g (o + k * 4) (l[k].map uv) := by
  obtain ⟨g, o, e, hc⟩ := h.cells hk
  have hx := h.ok l[k] (List.getElem_mem hk)
  refine ⟨g, o, e, fun j v hv => ?_⟩
  have hj : j < 4 := by
    have := (List.getElem?_eq_some_iff.1 hv).1
    rwa [List.length_map, hx.len] at this
  rw [hc j hj]
  rw [List.getElem?_map, hx.at_ hj] at hv
  injection hv with hv
  rw [← hv]
  rfl
theorem size_four {ws : List Nat} (h : SetOk ws) : (Tryd.prog.info? 25).map (·.size) = some (ws.map uv).length := by
  rw [List.length_map, h.len]; kernel_rfl
theorem and_key (x y : Nat) (hx : x < 18446744073709551616) (hy : y < 18446744073709551616) : bits BinOp.and IntKind.u64 (x : Int) (y : Int) = ((x &&& y : Nat) : Int) := bits_and_u64_nat x y hx hy

set_option maxHeartbeats 2000000 in
theorem join_any (A : Option Addr) (n c : Nat) (l : List (List Nat)) (w : World) (hn : n = l.length) (hb : l.length ≤ 1000000) (hr : SetsR w A l) :
    Calls Tryd.prog 19 #[.slice A n c] w fun e w' => e = .returned (setV (joinB l)) ∧ Below w.heap.size w w' := by
  subst hn
  have hz := zeros_set
  have hbi : (l.length : Int) ≤ 1000000 := by omega
  unfold setV
  go_enter Tryd.func19, Tryd.ntmps19
  go_wp2
  go_loopw [5, 6, 7, 10] (fun _ _ _ i wr => ∃ (k : Nat) (us : List Nat), k ≤ l.length ∧ i = .int .i64 (k : Int) ∧ us = joinB (l.take k) ∧ Blk wr (w.heap.size + 1) 25 (cellsU us) ∧ Blk wr w.heap.size 25 (cellsU zeroB) ∧ Below w.heap.size w wr) (fun _ _ _ i _ => l.length - (intOf i).toNat)
  case atStart =>
    refine ⟨0, zeroB, by omega, rfl, rfl, ?_, ?_, ext2 w _ _⟩
    · have := Blk.new (w.alloc (Obj.cells (cellsU zeroB) 25)) 25 (cellsU zeroB)
      simpa using this
    · exact (Blk.new w 25 (cellsU zeroB)).alloc (Obj.cells (cellsU zeroB) 25)
  case round =>
    obtain ⟨k, us, hk, rfl, hus, hT, hR, hbel⟩ := hrel
    have husok : SetOk us := by rw [hus]; exact join_ok fun x hx => hr.ok x (List.mem_of_mem_take hx)
    by_cases hlt : k < l.length
    · have hki : (k : Int) < (l.length : Int) := by omega
      obtain ⟨g, o, rfl, hrg⟩ := (hr.ext hbel).range hlt
      have hx := hr.ok l[k] (List.getElem_mem hlt)
      have hsn : orB us l[k] = joinB (l.take (k + 1)) := by rw [hus, take_snoc l k hlt, joinB_snoc]
      have Hsn := Lib.hid hsn
      have Hus := Lib.hid hus
      clear hsn hus
      generalize l[k] = x at hrg hx Hsn
      have hi4 := size_four hx
      have hsx := size_set hx
      obtain ⟨wo, hwo⟩ : ∃ wo : World, wo = wr := ⟨_, rfl⟩
      subst hwo
      have hxs : (cellsU x).size = 4 := cellsU_size hx
      have hz4 : (cellsU zeroB).size = (cellsU x).size := by rw [hxs]; rfl
      have hone := cellsU_one x
      go_wp2_with (first | (refine wpList_load_set rfl _ rfl wo.heap.size rfl hx hB2 ?_) | (refine wpList_load_mid rfl 25 _ rfl g (o + k * 4) rfl _ _ hrg Tryd.underlying25 rfl hi4 ?_) | (refine wpList_store_set rfl _ _ rfl wo.heap.size rfl rfl hx zero_ok (Blk.new _ _ _) ?_; intro w2 hB2 hfar2 hsz2 hbel2))
      have hext : Below wo.heap.size wo w2 := ((Below.refl _ _).alloc (Nat.le_refl _) _).trans (hbel2 _ (Nat.le_refl _))
      have hT2 := hT.ext hext
      have hR2 := hR.ext hext
      have hb2 : Below w.heap.size w w2 := ext_trans hbel hext
      clear hT hR hbel hrg hB2 hfar2 hsz2 hbel2 hext hz4 hone hxs hsx
      go_loopw [6, 7, 15] (fun _ _ i w3 => ∃ (j : Nat) (vs : List Nat), j ≤ 4 ∧ i = .int .i64 (j : Int) ∧ SetOk vs ∧ (∀ i, i < 4 → wordB vs i = if i < j then wordB us i ||| wordB x i else wordB us i) ∧ Blk w3 (w.heap.size + 1) 25 (cellsU vs) ∧ Blk w3 w.heap.size 25 (cellsU zeroB) ∧ Below w.heap.size w w3) (fun _ _ i _ => 4 - (intOf i).toNat)
      case atStart => exact ⟨0, us, by omega, rfl, husok, fun i hi => by simp, hT2, hR2, hb2⟩
      case round =>
        obtain ⟨j, vs, hj, rfl, hvs, hw, hT3, hR3, hb3⟩ := hrel
        by_cases hjl : j < 4
        · have hcell : wr.cell? ⟨w.heap.size + 1, j, none⟩ = some (.int .u64 (wordB vs j : Int)) := (hT3.cell _).trans (cellsU_at hvs hjl)
          have hfree := hT3.free j
          have hji : (j : Int) < 4 := by omega
          have hor := or_key (wordB vs j) (wordB x j) (hvs.wlt _) (hx.wlt _)
          have hol := or_lt (hvs.wlt j) (hx.wlt j)
          have hT' := hT3.put j (.int .u64 ((wordB vs j ||| wordB x j : Nat) : Int))
          rw [cellsU_set] at hT'
          have hval : wordB vs j = wordB us j := by rw [hw j hjl, if_neg (by omega)]
          have Hval := Lib.hid hval
          have Hw := Lib.hid hw
          have HT' := Lib.hid hT'
          clear hw hT' hval hT3 hT2 hR2
          go_wp2_with (refine wpList_index_set rfl _ _ rfl hx hjl rfl rfl ?_)
          go_roundw
          case rel =>
            refine ⟨j + 1, vs.set j (wordB vs j ||| wordB x j), by omega, by go_num, hvs.set _ _ hol, fun i hi => ?_, HT'.out, hR3.far (by simp) _, hb3.setCell (by simp) _⟩
            rw [wordB_set hvs.len hi]
            by_cases e : j = i
            · subst e; rw [if_pos rfl, if_pos (by omega), Hval.out]
            · rw [if_neg e, Hw.out i hi]
              by_cases e2 : i < j
              · rw [if_pos e2, if_pos (by omega)]
              · rw [if_neg e2, if_neg (by omega)]
          case measure => simp [intOf]; omega
        · obtain rfl : j = 4 := by omega
          have hvs' : vs = orB us x := word_ext hvs (or_ok husok hx) fun i hi => by rw [hw i hi, if_pos hi, word_or husok hx hi]
          subst hvs'
          have hki2 : (k : Int) ≤ 1000000 := by omega
          clear hw
          go_wp2
          go_roundw
          case rel => exact ⟨k + 1, orB us x, by omega, by go_num, Hsn.out, hT3, hR3, hb3⟩
          case measure => simp [intOf]; omega
    · obtain rfl : k = l.length := by omega
      rw [List.take_length] at hus
      subst hus
      have hi := size_set husok
      go_wp2_with (first | (refine wpList_load_set rfl _ rfl (w.heap.size + 1) rfl husok hT ?_) | (refine wpList_store_set rfl _ _ rfl w.heap.size rfl rfl husok zero_ok hR ?_; intro w2 hB2 _ _ hbel2))
      exact bodyPost_ret (results_cell rfl _ _ w.heap.size 25 _ 4 23 rfl hB2 Tryd.underlying25 hi) rfl ⟨rfl, hbel.trans (hbel2 _ (by omega))⟩
end Go.Proofs.YtjlakbcbfbcmhaaDoor

/-
  The contracts of Meet, and of the reference's Join, Meet. No statement of the seat is proved here.
-/
namespace Go.Proofs.YtjlakbcbfbcmhaaDoor
open Go Go.RowKit

set_option maxHeartbeats 2000000 in
theorem meet_any (A : Option Addr) (n c : Nat) (l : List (List Nat)) (w : World) (hn : n = l.length) (hb : l.length ≤ 1000000) (hr : SetsR w A l) :
    Calls Tryd.prog 21 #[.slice A n c] w fun e w' => e = .returned (setV (meetB l)) ∧ Below w.heap.size w w' := by
  subst hn
  have hz := zeros_set
  have hbi : (l.length : Int) ≤ 1000000 := by omega
  unfold setV
  go_enter Tryd.func21, Tryd.ntmps21
  have hnot := not_any zeroB zero_ok (w.alloc (Obj.cells (cellsU zeroB) 25))
  have hok0 := not_ok zero_ok
  go_wp2_with fail
  refine hnot.mono ?_
  rintro e w2 ⟨rfl, hb0⟩
  have hR0 := (Blk.new w 25 (cellsU zeroB)).ext hb0
  have hbel0 : Below w.heap.size w w2 := ((Below.refl _ _).alloc (Nat.le_refl _) _).trans (hb0.mono (by simp))
  have hlt0 := hR0.lt
  clear hnot hb0
  unfold setV
  go_wp2_with (refine wpList_store_set rfl _ _ rfl w2.heap.size rfl rfl hok0 zero_ok (Blk.new _ _ _) ?_; intro w3 hB3 hfar3 hsz3 hbel3)
  have hext3 : Below w2.heap.size w2 w3 := ((Below.refl _ _).alloc (Nat.le_refl _) _).trans (hbel3 _ (Nat.le_refl _))
  have hR3' := hR0.ext hext3
  have hb3' := ext_trans hbel0 hext3
  have hne : w.heap.size ≠ w2.heap.size := by omega
  obtain ⟨s, hs⟩ : ∃ s, s = w2.heap.size := ⟨_, rfl⟩
  have hsw : w.heap.size < s := by omega
  rw [← hs] at hB3 ⊢
  clear hfar3 hsz3 hbel3 hext3 hR0 hbel0 hlt0 hne hs
  go_loopw [5, 6, 7, 12] (fun _ _ _ i wr => ∃ (k : Nat) (us : List Nat), k ≤ l.length ∧ i = .int .i64 (k : Int) ∧ us = meetB (l.take k) ∧ Blk wr s 25 (cellsU us) ∧ Blk wr w.heap.size 25 (cellsU zeroB) ∧ Below w.heap.size w wr) (fun _ _ _ i _ => l.length - (intOf i).toNat)
  case atStart => exact ⟨0, notB zeroB, by omega, rfl, rfl, hB3, hR3', hb3'⟩
  case round =>
    obtain ⟨k, us, hk, rfl, hus, hT, hR, hbel⟩ := hrel
    have husok : SetOk us := by rw [hus]; exact meet_ok fun x hx => hr.ok x (List.mem_of_mem_take hx)
    by_cases hlt : k < l.length
    · have hki : (k : Int) < (l.length : Int) := by omega
      obtain ⟨g, o, rfl, hrg⟩ := (hr.ext hbel).range hlt
      have hx := hr.ok l[k] (List.getElem_mem hlt)
      have hsn : andB us l[k] = meetB (l.take (k + 1)) := by rw [hus, take_snoc l k hlt, meetB_snoc]
      have Hsn := Lib.hid hsn
      have Hus := Lib.hid hus
      clear hsn hus
      generalize l[k] = x at hrg hx Hsn
      have hi4 := size_four hx
      have hsx := size_set hx
      obtain ⟨wo, hwo⟩ : ∃ wo : World, wo = wr := ⟨_, rfl⟩
      subst hwo
      have hxs : (cellsU x).size = 4 := cellsU_size hx
      have hz4 : (cellsU zeroB).size = (cellsU x).size := by rw [hxs]; rfl
      have hone := cellsU_one x
      go_wp2_with (first | (refine wpList_load_set rfl _ rfl wo.heap.size rfl hx hB2 ?_) | (refine wpList_load_mid rfl 25 _ rfl g (o + k * 4) rfl _ _ hrg Tryd.underlying25 rfl hi4 ?_) | (refine wpList_store_set rfl _ _ rfl wo.heap.size rfl rfl hx zero_ok (Blk.new _ _ _) ?_; intro w4 hB2 hfar2 hsz2 hbel2))
      have hext : Below wo.heap.size wo w4 := ((Below.refl _ _).alloc (Nat.le_refl _) _).trans (hbel2 _ (Nat.le_refl _))
      have hT2 := hT.ext hext
      have hR2 := hR.ext hext
      have hb2 : Below w.heap.size w w4 := ext_trans hbel hext
      clear hT hR hbel hrg hB2 hfar2 hsz2 hbel2 hext hz4 hone hxs hsx
      go_loopw [6, 7, 17] (fun _ _ i w3 => ∃ (j : Nat) (vs : List Nat), j ≤ 4 ∧ i = .int .i64 (j : Int) ∧ SetOk vs ∧ (∀ i, i < 4 → wordB vs i = if i < j then wordB us i &&& wordB x i else wordB us i) ∧ Blk w3 (s) 25 (cellsU vs) ∧ Blk w3 w.heap.size 25 (cellsU zeroB) ∧ Below w.heap.size w w3) (fun _ _ i _ => 4 - (intOf i).toNat)
      case atStart => exact ⟨0, us, by omega, rfl, husok, fun i hi => by simp, hT2, hR2, hb2⟩
      case round =>
        obtain ⟨j, vs, hj, rfl, hvs, hw, hT3, hR3, hb3⟩ := hrel
        by_cases hjl : j < 4
        · have hcell : wr.cell? ⟨s, j, none⟩ = some (.int .u64 (wordB vs j : Int)) := (hT3.cell _).trans (cellsU_at hvs hjl)
          have hfree := hT3.free j
          have hji : (j : Int) < 4 := by omega
          have hor := and_key (wordB vs j) (wordB x j) (hvs.wlt _) (hx.wlt _)
          have hol : wordB vs j &&& wordB x j < 18446744073709551616 := Nat.lt_of_le_of_lt Nat.and_le_left (hvs.wlt j)
          have hT' := hT3.put j (.int .u64 ((wordB vs j &&& wordB x j : Nat) : Int))
          rw [cellsU_set] at hT'
          have hval : wordB vs j = wordB us j := by rw [hw j hjl, if_neg (by omega)]
          have Hval := Lib.hid hval
          have Hw := Lib.hid hw
          have HT' := Lib.hid hT'
          clear hw hT' hval hT3 hT2 hR2
          go_wp2_with (refine wpList_index_set rfl _ _ rfl hx hjl rfl rfl ?_)
          go_roundw
          case rel =>
            refine ⟨j + 1, vs.set j (wordB vs j &&& wordB x j), by omega, by go_num, hvs.set _ _ hol, fun i hi => ?_, HT'.out, hR3.far (by show w.heap.size ≠ s; omega) _, hb3.setCell (by show w.heap.size ≤ s; omega) _⟩
            rw [wordB_set hvs.len hi]
            by_cases e : j = i
            · subst e; rw [if_pos rfl, if_pos (by omega), Hval.out]
            · rw [if_neg e, Hw.out i hi]
              by_cases e2 : i < j
              · rw [if_pos e2, if_pos (by omega)]
              · rw [if_neg e2, if_neg (by omega)]
          case measure => simp [intOf]; omega
        · obtain rfl : j = 4 := by omega
          have hvs' : vs = andB us x := word_ext hvs (and_ok husok hx) fun i hi => by rw [hw i hi, if_pos hi, word_and husok hx hi]
          subst hvs'
          have hki2 : (k : Int) ≤ 1000000 := by omega
          clear hw
          go_wp2
          go_roundw
          case rel => exact ⟨k + 1, andB us x, by omega, by go_num, Hsn.out, hT3, hR3, hb3⟩
          case measure => simp [intOf]; omega
    · obtain rfl : k = l.length := by omega
      rw [List.take_length] at hus
      subst hus
      have hi := size_set husok
      go_wp2_with (first | (refine wpList_load_set rfl _ rfl (s) rfl husok hT ?_) | (refine wpList_store_set rfl _ _ rfl w.heap.size rfl rfl husok zero_ok hR ?_; intro w2 hB2 _ _ hbel2))
      exact bodyPost_ret (results_cell rfl _ _ w.heap.size 25 _ 4 23 rfl hB2 Tryd.underlying25 hi) rfl ⟨rfl, hbel.trans (hbel2 _ (by omega))⟩
end Go.Proofs.YtjlakbcbfbcmhaaDoor

/-
  The contract of the law package's known; lists of sets and rows as the laws read them. No statement of the seat is proved here.
-/
namespace Go.Proofs.YtjlakbcbfbcmhaaDoor
open Go Go.RowKit

theorem eq_int (d : Nat) (e : TypeId) (k : IntKind) (hu : Tryd.prog.underlying e = some (.int k)) (z : Int) (W : World) : (Op.equalIn (d + 1) e (.int k z) (.int k z)).run Tryd.prog W = .ok true W := by
  simp only [Op.equalIn, Sem.run_bind, run_underlying hu, Result.andThen_ok]
  simp
theorem eqItems_self (d : Nat) (e : TypeId) (k : IntKind) (hu : Tryd.prog.underlying e = some (.int k)) (c : Nat) (xs : Array Value) (W : World) : ∀ (is : List Nat), (∀ i ∈ is, ∃ z, (part e xs (i * c)).run Tryd.prog W = .ok (.int k z) W) →
    (Op.eqItems (d + 1) e c xs xs is).run Tryd.prog W = .ok true W
  | [], _ => rfl
  | i :: is, h => by
    obtain ⟨z, hz⟩ := h i (by simp)
    have ih := eqItems_self d e k hu c xs W is fun j hj => h j (by simp [hj])
    simp only [Op.eqItems, Sem.run_bind, hz, Result.andThen_ok, eq_int d e k hu z W]
    exact ih
theorem info_w : ∃ i, Tryd.prog.info? 23 = some i := by
  cases h : Tryd.prog.info? 23 with
  | some i => exact ⟨i, rfl⟩
  | none =>
    have h2 : (Tryd.prog.info? 23).isSome = true := by kernel_rfl
    rw [h] at h2; cases h2
theorem info_b : ∃ i, Tryd.prog.info? 5 = some i := by
  cases h : Tryd.prog.info? 5 with
  | some i => exact ⟨i, rfl⟩
  | none =>
    have h2 : (Tryd.prog.info? 5).isSome = true := by kernel_rfl
    rw [h] at h2; cases h2
theorem cells_w : Tryd.prog.cellsOf 23 = 1 := by kernel_rfl
theorem cells_b : Tryd.prog.cellsOf 5 = 1 := by kernel_rfl
/-- a set is itself -/
theorem eq_set {ws : List Nat} (hs : SetOk ws) (W : World) : (Op.equalIn 10000 25 (.agg (cellsU ws)) (.agg (cellsU ws))).run Tryd.prog W = .ok true W := by
  obtain ⟨i, hi⟩ := info_w
  refine (run_equalIn_array W 9999 _ _ Tryd.underlying25 hi).trans ?_
  rw [cells_w]
  obtain ⟨a, b, c, d, rfl⟩ := four_words hs
  refine eqItems_self 9998 23 .u64 Tryd.underlying23 1 _ W _ fun i hi => ?_
  have h0 : (part 23 #[.int .u64 (a : Int), .int .u64 (b : Int), .int .u64 (c : Int), .int .u64 (d : Int)] (0 * 1)).run Tryd.prog W = .ok (.int .u64 (a : Int)) W := by kernel_rfl
  have h1 : (part 23 #[.int .u64 (a : Int), .int .u64 (b : Int), .int .u64 (c : Int), .int .u64 (d : Int)] (1 * 1)).run Tryd.prog W = .ok (.int .u64 (b : Int)) W := by kernel_rfl
  have h2 : (part 23 #[.int .u64 (a : Int), .int .u64 (b : Int), .int .u64 (c : Int), .int .u64 (d : Int)] (2 * 1)).run Tryd.prog W = .ok (.int .u64 (c : Int)) W := by kernel_rfl
  have h3 : (part 23 #[.int .u64 (a : Int), .int .u64 (b : Int), .int .u64 (c : Int), .int .u64 (d : Int)] (3 * 1)).run Tryd.prog W = .ok (.int .u64 (d : Int)) W := by kernel_rfl
  have h4 := List.mem_range.1 hi
  match i, h4 with
  | 0, _ => exact ⟨_, h0⟩
  | 1, _ => exact ⟨_, h1⟩
  | 2, _ => exact ⟨_, h2⟩
  | 3, _ => exact ⟨_, h3⟩
/-- a row is itself -/
theorem eq_two (a b : Int) (W : World) : (Op.equalIn 10000 30 (.agg #[.int .u8 a, .int .u8 b]) (.agg #[.int .u8 a, .int .u8 b])).run Tryd.prog W = .ok true W := by
  obtain ⟨i, hi⟩ := info_b
  refine (run_equalIn_array W 9999 _ _ Tryd.underlying30 hi).trans ?_
  rw [cells_b]
  refine eqItems_self 9998 5 .u8 Tryd.underlying5 1 _ W _ fun i hi => ?_
  have h0 : (part 5 #[.int .u8 a, .int .u8 b] (0 * 1)).run Tryd.prog W = .ok (.int .u8 a) W := by kernel_rfl
  have h1 : (part 5 #[.int .u8 a, .int .u8 b] (1 * 1)).run Tryd.prog W = .ok (.int .u8 b) W := by kernel_rfl
  have h4 := List.mem_range.1 hi
  match i, h4 with
  | 0, _ => exact ⟨_, h0⟩
  | 1, _ => exact ⟨_, h1⟩

theorem known_rows : rowsB (listB (ofB [97, 98, 100])) = [(97, 98), (100, 100)] := by decide +kernel

set_option maxHeartbeats 2000000 in
theorem known_any (w : World) (ht : Tab w) :
    Calls Tryd.prog 17 #[] w fun e w' => e = .returned (.bool true) ∧ Below w.heap.size w w' := by
  have hb0 : Below w.heap.size w (w.alloc (Obj.cells #[.int .u8 97, .int .u8 98, .int .u8 100] 5)) := (Below.refl _ _).alloc (Nat.le_refl _) _
  have h1 := of_any (some ⟨w.heap.size, 0, none⟩) 3 3 [97, 98, 100] (w.alloc (Obj.cells #[.int .u8 97, .int .u8 98, .int .u8 100] 5)) rfl (by simp) (by simp) (Rd.lit w #[.int .u8 97, .int .u8 98, .int .u8 100] 5)
  have hok := ofB_ok [97, 98, 100]
  have hrow := known_rows
  generalize ofB [97, 98, 100] = us at h1 hok hrow
  go_enter Tryd.func17, Tryd.ntmps17
  go_wp2_with fail
  refine h1.mono ?_
  rintro e w2 ⟨rfl, hb2⟩
  have hb3 : Below w.heap.size w w2 := ext_trans hb0 hb2
  clear h1 hb0 hb2
  have h2 := ranges_any us hok w2 (ht.ext hb3)
  rw [hrow] at h2
  clear hrow ht
  go_wp2_with fail
  refine h2.mono ?_
  rintro e w3 ⟨A, c, rfl, hN⟩
  obtain ⟨g, o, rfl, q1, q2⟩ := hN.row.cellR (k := 0) (by simp)
  obtain ⟨g', o', e', q3, q4⟩ := hN.row.cellR (k := 1) (by simp)
  injection e' with e'
  injection e' with e1 e2 _
  subst e1 e2
  simp only [List.getElem_cons_zero, List.getElem_cons_succ, Nat.zero_mul, Nat.one_mul, Nat.add_zero] at q1 q2 q3 q4
  have hb4 := ext_trans hb3 hN.bel
  clear h2 hN hb3 hok
  have k1 := eq_two 97 98 w3
  have k2 := eq_two 100 100 w3
  go_wp2_with (first | simp only [k1] | simp only [k2])
  go_ret
  exact ⟨rfl, hb4⟩
end Go.Proofs.YtjlakbcbfbcmhaaDoor

/-
  What the arguments of the laws read as, in this seat's words for memory (numbers, bytes); how a law's contract closes its statement. No statement of the seat is proved here.
-/
namespace Go.Proofs.YtjlakbcbfbcmhaaDoor
open Go Go.ChangeShapes Go.WideShapes Go.ChangeAt Go.RowKit

theorem own : ownKnob Tryd.prog.godebug = none := by kernel_rfl
theorem laidOut : laidOutB Tryd.prog = true := by kernel_rfl
theorem cells_u8 : Tryd.prog.cellsOf 5 = 1 := by kernel_rfl
theorem cells_int : Tryd.prog.cellsOf 3 = 1 := by kernel_rfl

section
variable {H : Type} {enc : TypeId × Value → H} {W : World} {base : Nat}
theorem bv_of {z : Int} (h : (Lit.int .u8 z).wf = true) : Value.int .u8 z = bv z.toNat.toUInt8 := by
  have h1 : IntKind.u8.min = 0 := rfl
  have h2 : IntKind.u8.max = 255 := rfl
  simp only [Lit.wf, Bool.and_eq_true, decide_eq_true_eq] at h
  unfold bv
  rw [show (z.toNat.toUInt8.toNat : Int) = z by simp [Nat.toUInt8, UInt8.toNat_ofNat']; omega]

/-- the bytes that numbers are -/
def toBytes (zs : List Int) : List UInt8 := zs.map fun z => z.toNat.toUInt8

theorem rd_bytes {a : Addr} {len : Nat} {zs : List Int} (hl : len ≤ zs.length) (hc : ∀ i, i < zs.length → W.cell? (a.add i) = some (.int .u8 (zs.getD i 0))) (hw : ∀ n ∈ zs, (Lit.int .u8 n).wf = true) :
    Rd W (some a) ((toBytes (zs.take len)).map bv) := by
  intro j u hu
  have hj : j < len := by
    have := (List.getElem?_eq_some_iff.1 hu).1
    simp [toBytes] at this; omega
  refine ⟨a, rfl, ?_⟩
  rw [hc j (by omega), ← hu]
  have hz : zs.getD j 0 = zs[j]'(by omega) := by simp [List.getD, show j < zs.length by omega]
  rw [hz, bv_of (hw _ (List.getElem_mem _))]
  simp [toBytes, hj, show j < zs.length by omega]

set_option maxRecDepth 100000 in
theorem arg_bytes {v : Value} {d : DataW H} {p : List MemPlace} (hv : Value.okWide Tryd.prog W .any base 22 v) (h : DataW.Trod enc Tryd.prog W 0 (fun _ => true) true 22 v d p) :
    ∃ (A : Option Addr) (n c : Nat) (xs : List UInt8), v = .slice A n c ∧ n = xs.length ∧ xs.length ≤ c ∧ c ≤ maxLen ∧ Rd W A (xs.map bv) := by
  obtain ⟨a0, len, cap, rfl⟩ := okWide_slice Tryd.underlying22 hv
  obtain ⟨fuel, hf⟩ := h
  rcases open_ints Tryd.underlying22 Tryd.underlying5 cells_u8 hf with ⟨hcs, hx⟩ | ⟨a, len', cap', zs, hcs, _, hl, hm, hz, hx, hcell, hwz⟩
  · simp [Value.cells] at hcs
    obtain ⟨rfl, rfl, rfl⟩ := hcs
    exact ⟨none, 0, 0, [], rfl, rfl, Nat.le_refl _, Nat.zero_le _, Rd.nil _ _⟩
  · simp [Value.cells] at hcs
    obtain ⟨rfl, rfl, rfl⟩ := hcs
    simp only [if_true] at hz
    exact ⟨some a, len, cap, toBytes (zs.take len), rfl, by simp [toBytes]; omega, by simp [toBytes]; omega, hm, rd_bytes (by omega) hcell hwz⟩

end

theorem int_of_wf {v : Int} (h : (Lit.int .i64 v).wf = true) : isInt v := by
  have h1 : IntKind.i64.min = -9223372036854775808 := rfl
  have h2 : IntKind.i64.max = 9223372036854775807 := rfl
  simp only [Lit.wf, Bool.and_eq_true, decide_eq_true_eq] at h
  unfold isInt
  omega
theorem u8_of_wf {v : Int} (h : (Lit.int .u8 v).wf = true) : 0 ≤ v ∧ v ≤ 255 := by
  have h1 : IntKind.u8.min = 0 := rfl
  have h2 : IntKind.u8.max = 255 := rfl
  simp only [Lit.wf, Bool.and_eq_true, decide_eq_true_eq] at h
  omega

/-! ### How a contract closes a statement -/
section
variable {H : Type} {enc : TypeId × Value → H}
theorem below_trodAll {P : Program} (hl : laidOutB P = true) {W W' : World} (hb : Below W.heap.size W W') : ∀ {ts : List TypeId} {vs : List Value} {ds : List (DataW H)} {ps : List MemPlace},
    (∀ t ∈ ts, P.readableRec t = true ∧ t < P.types.size) → DataW.TrodAll enc P W 0 (fun _ => true) true ts vs ds ps → (∀ x ∈ ps, x.block < W.heap.size) → DataW.TrodAll enc P W' 0 (fun b => decide (b < W.heap.size)) true ts vs ds ps
  | [], [], [], _, _, h, _ => h
  | t :: ts, v :: vs, d :: ds, _, hr, h, hlt => by
    obtain ⟨p, q, h1, h2, rfl⟩ := h
    exact ⟨p, q, Below.trod hl (hr t (by simp)).1 (hr t (by simp)).2 h1 hb (fun x hx => hlt x (by simp [hx])), below_trodAll hl hb (fun t' ht => hr t' (by simp [ht])) h2 (fun x hx => hlt x (by simp [hx])), rfl⟩
  | [], [], _ :: _, _, _, h, _ => h.elim
  | [], _ :: _, _, _, _, h, _ => h.elim
  | _ :: _, [], _, _, _, h, _ => h.elim
  | _ :: _, _ :: _, [], _, _, h, _ => h.elim

/-- a law that returned true, and left all that was there as it was -/
theorem law_post {f : Func} {s : ChangeSpec} {W W' : World} {args : Array Value} {ds gs : List (DataW H)} {before : List MemPlace} (hvars : s.vars = []) (hf : f.resultTypes = #[4])
    (hread : f.params.toList.all (fun t => Tryd.prog.readableRec t && decide (t < Tryd.prog.types.size)) = true)
    (hs : (s.fn H ds).results = [.lit (.bool true)] ∧ (s.fn H ds).args = ds ∧ (s.fn H ds).vars = []) (hW : DataW.Whole enc Tryd.prog f.params.toList s.vars false W args.toList ds gs before) (hb : Below W.heap.size W W') :
    s.post enc Tryd.prog f false true false false W args (.bool true) W' := by
  have hW' := hW
  have hlt : ∀ x ∈ before, x.block < W.heap.size := fun x hx => by simpa using hW'.lt x hx
  obtain ⟨p, q, hA, hV, he, _, _⟩ := hW
  rw [hvars] at hV
  obtain ⟨hg, hq⟩ := trodVars_none hV
  have hx : ds ++ gs = ds := by rw [hg, List.append_nil]
  refine ⟨ds, gs, before, [] ++ [], p, [], hW', ?_, ?_, ?_, hb.frame _, fun h => by cases h⟩
  · rw [hx, hs.1, hf]
    exact trodAll_cons_mk (shut_bool Tryd.underlying4 _) trodAll_mk0
  · rw [hx, hs.2.1]
    refine below_trodAll laidOut hb (fun t ht => ?_) hA (fun x hx => hlt x (by rw [he]; simp [hx]))
    have := List.all_eq_true.1 hread t ht
    simpa using this
  · rw [hx, hs.2.2, hvars]
    rfl
end

/-- a world for the witness: the settled one -/
noncomputable def plainWorld (os : Os) : World := World.holding Tryd.prog os ⟨#[], #[], []⟩
end Go.Proofs.YtjlakbcbfbcmhaaDoor

/-
  The arguments of class's laws (a set, a list of sets); the table of the library's TrailingZeros64 out of 'laid'. No statement of the seat is proved here.
-/
namespace Go.Proofs.YtjlakbcbfbcmhaaDoor
open Go Go.ChangeShapes Go.WideShapes Go.ChangeAt Go.RowKit

theorem cells_tab : Tryd.prog.cellsOf 47 = 64 := by kernel_rfl
theorem gTab : Tryd.prog.globalNamed "math/bits.deBruijn64tab" = some 0 := by kernel_rfl
theorem gTabType : (Tryd.prog.globals[0]?).map (·.type) = some 47 := by kernel_rfl

/-- the list of every row of this seat -/
def theLaid : List (String × DataW Unit) := [("math/bits.deBruijn64tab", Rows.laid_math_bits_deBruijn64tab)]

theorem tab_same : ∀ i : Fin 64, (([0, 1, 56, 2, 57, 49, 28, 3, 61, 58, 42, 50, 38, 29, 17, 4, 62, 47, 59, 36, 45, 43, 51, 22, 53, 39, 33, 30, 24, 18, 12, 5, 63, 55, 48, 27, 60, 41, 37, 16, 46, 35, 44, 21, 52, 32, 23, 11, 54, 26, 40, 15, 34, 20, 31, 10, 25, 14, 19, 9, 13, 8, 7, 6] : List Int).getD i.val 0) = ((Lib.deBruijn64tab.getD i.val 0 : Nat) : Int) := by decide +kernel
theorem tab_of_laid {W : World} (h : laidMetH Tryd.prog theLaid W) : Tab W := by
  have h1 : Lib.TabIs Tryd.prog W "math/bits.deBruijn64tab" .u8 [0, 1, 56, 2, 57, 49, 28, 3, 61, 58, 42, 50, 38, 29, 17, 4, 62, 47, 59, 36, 45, 43, 51, 22, 53, 39, 33, 30, 24, 18, 12, 5, 63, 55, 48, 27, 60, 41, 37, 16, 46, 35, 44, 21, 52, 32, 23, 11, 54, 26, 40, 15, 34, 20, 31, 10, 25, 14, 19, 9, 13, 8, 7, 6] :=
    Lib.tabIs_of_head (rest := []) gTab gTabType Tryd.underlying47 Tryd.underlying5 cells_u8 cells_tab h
  intro i hi
  have hi' : i < 64 := hi
  have h2 := h1.cell gTab i (by simpa using hi')
  rw [h2]
  have h3 := tab_same ⟨i, hi'⟩
  exact congrArg (fun z => some (Value.int .u8 z)) h3

section
variable {H : Type} {enc : TypeId × Value → H} {W : World} {base : Nat}
theorem okWide_array {P : Program} {r : Reach} {t e : TypeId} {n : Nat} {v : Value} (ht : P.underlying t = some (.array n e)) (h : Value.okWide P W r base t v) : ∃ cs, v = .agg cs ∧ cs.size = P.cellsOf t := by
  simp only [Value.okWide, ht] at h
  obtain ⟨cs, h1, h2, _⟩ := h
  exact ⟨cs, h1, h2⟩
theorem cells_set : Tryd.prog.cellsOf 25 = 4 := by kernel_rfl
theorem u64_of_wf {v : Int} (h : (Lit.int .u64 v).wf = true) : ∃ n : Nat, v = (n : Int) ∧ n < 18446744073709551616 := by
  have h1 : IntKind.u64.min = 0 := rfl
  have h2 : IntKind.u64.max = 18446744073709551615 := rfl
  simp only [Lit.wf, Bool.and_eq_true, decide_eq_true_eq] at h
  exact ⟨v.toNat, by omega, by omega⟩
theorem cell_set {fuel : Nat} {cs : List Value} {x : DataW H × List MemPlace} (hl : cs.length = 4) (hf : DataW.trod enc Tryd.prog W 0 (fun _ => true) true fuel 25 cs = some x) : ∃ ws, SetOk ws ∧ cs = ws.map uv := by
  match cs, hl with
  | [c0, c1, c2, c3], _ =>
    obtain ⟨y0, y1, y2, y3, n, _, g0, g1, g2, g3⟩ := trod_array4 Tryd.underlying25 cells_w hf
    obtain ⟨z0, q0, _, w0⟩ := DataW.trod_int Tryd.underlying23 g0
    obtain ⟨z1, q1, _, w1⟩ := DataW.trod_int Tryd.underlying23 g1
    obtain ⟨z2, q2, _, w2⟩ := DataW.trod_int Tryd.underlying23 g2
    obtain ⟨z3, q3, _, w3⟩ := DataW.trod_int Tryd.underlying23 g3
    obtain ⟨n0, rfl, l0⟩ := u64_of_wf w0
    obtain ⟨n1, rfl, l1⟩ := u64_of_wf w1
    obtain ⟨n2, rfl, l2⟩ := u64_of_wf w2
    obtain ⟨n3, rfl, l3⟩ := u64_of_wf w3
    injection q0 with q0
    injection q1 with q1
    injection q2 with q2
    injection q3 with q3
    subst q0 q1 q2 q3
    exact ⟨[n0, n1, n2, n3], ⟨rfl, by simp [l0, l1, l2, l3]⟩, rfl⟩

set_option maxRecDepth 100000 in
theorem arg_set {v : Value} {d : DataW H} {p : List MemPlace} (hv : Value.okWide Tryd.prog W .any base 25 v) (h : DataW.Trod enc Tryd.prog W 0 (fun _ => true) true 25 v d p) : ∃ ws, SetOk ws ∧ v = setV ws := by
  obtain ⟨cs, rfl, hsz⟩ := okWide_array Tryd.underlying25 hv
  rw [cells_set] at hsz
  obtain ⟨fuel, hf⟩ := h
  obtain ⟨ws, hs, e⟩ := cell_set (by simp [Value.cells, hsz]) hf
  refine ⟨ws, hs, ?_⟩
  unfold setV cellsU
  rw [← e]
  simp [Value.cells]

theorem flat_of_cell {w : World} {ad : Addr} {u : Value} (h : w.cell? (ad.add 0) = some u) : ∃ g o, ad = ⟨g, o, none⟩ := by
  obtain ⟨g, o, s⟩ := ad
  cases s with
  | none => exact ⟨g, o, rfl⟩
  | some s =>
    unfold World.cell? Addr.add at h
    simp at h
    split at h <;> simp at h
theorem rd_flat {β : Type} (a : Addr) (len sz : Nat) (T : Nat → β) (enc : β → List Value) (hsz : ∀ k, k < len → (enc (T k)).length = sz) (h : ∀ k, k < len → ∀ j u, (enc (T k))[j]? = some u → W.cell? (a.add (k * sz + j)) = some u) :
    Rd W (some a) (((List.range len).map T).flatMap enc) := by
  have key : ∀ n, n ≤ len → Rd W (some a) (((List.range n).map T).flatMap enc) ∧ (((List.range n).map T).flatMap enc).length = n * sz := by
    intro n
    induction n with
    | zero => intro _; exact ⟨Rd.nil _ _, by simp⟩
    | succ n ih =>
      intro hn
      obtain ⟨h1, h2⟩ := ih (by omega)
      have e : (((List.range (n + 1)).map T).flatMap enc) = (((List.range n).map T).flatMap enc) ++ enc (T n) := by
        rw [List.range_succ, List.map_append, List.flatMap_append]
        simp
      refine ⟨fun j u hu => ?_, by rw [e, List.length_append, h2, hsz n (by omega), Nat.add_mul]; omega⟩
      rw [e, List.getElem?_append, h2] at hu
      split at hu
      · exact h1 j u hu
      · rename_i hj
        refine ⟨a, rfl, ?_⟩
        have := h n (by omega) _ u hu
        rwa [show n * sz + (j - n * sz) = j by omega] at this
  exact (key len (Nat.le_refl _)).1

set_option maxRecDepth 100000 in
theorem arg_sets {v : Value} {d : DataW H} {p : List MemPlace} (hv : Value.okWide Tryd.prog W .any base 37 v) (h : DataW.Trod enc Tryd.prog W 0 (fun _ => true) true 37 v d p) :
    ∃ (A : Option Addr) (n c : Nat) (l : List (List Nat)), v = .slice A n c ∧ n = l.length ∧ l.length ≤ c ∧ c ≤ maxLen ∧ SetsR W A l := by
  obtain ⟨a0, len, cap, rfl⟩ := okWide_slice Tryd.underlying37 hv
  obtain ⟨fuel, hf⟩ := h
  rcases Deep.open_slice Tryd.underlying37 hf with ⟨hcs, hx⟩ | ⟨a, len', cap', m, n, D, Pl, hcs, _, hl, hm, hmm, hx, hi⟩
  · simp [Value.cells] at hcs
    obtain ⟨rfl, rfl, rfl⟩ := hcs
    exact ⟨none, 0, 0, [], rfl, rfl, Nat.le_refl _, Nat.zero_le _, ⟨fun h => absurd rfl h, Rd.nil _ _, by simp⟩⟩
  · simp [Value.cells] at hcs
    obtain ⟨rfl, rfl, rfl⟩ := hcs
    simp only [if_true] at hmm
    rw [hmm, cells_set] at hi
    have each : ∀ k, k < cap → ∃ ws, SetOk ws ∧ ∀ j u, (ws.map uv)[j]? = some u → W.cell? (a.add (k * 4 + j)) = some u := by
      intro k hk
      obtain ⟨cs', hc, ht⟩ := hi k hk
      obtain ⟨_, hcl, hat⟩ := World.cells?_some hc
      obtain ⟨ws, hs, e⟩ := cell_set hcl ht
      refine ⟨ws, hs, fun j u hu => ?_⟩
      have hj : j < 4 := by
        have := (List.getElem?_eq_some_iff.1 hu).1
        rwa [List.length_map, hs.len] at this
      have k0 := hat j (by omega)
      rw [add_add_] at k0
      rw [k0, e]
      exact hu
    have each' : ∀ k, ∃ ws : List Nat, k < cap → SetOk ws ∧ ∀ j u, (ws.map uv)[j]? = some u → W.cell? (a.add (k * 4 + j)) = some u := fun k => by
      by_cases hk : k < cap
      · obtain ⟨ws, h⟩ := each k hk
        exact ⟨ws, fun _ => h⟩
      · exact ⟨[], fun h => absurd h hk⟩
    obtain ⟨T, hT⟩ := Classical.axiomOfChoice each'
    refine ⟨some a, len, cap, (List.range len).map T, rfl, by simp, by simpa using hl, hm, ⟨fun hne ad e => ?_, ?_, fun x hx => ?_⟩⟩
    · injection e with e
      subst e
      have h0 : 0 < cap := by
        rcases Nat.eq_zero_or_pos len with h0 | h0
        · subst h0; exact absurd rfl hne
        · omega
      have h1 := (hT 0 h0).2 0 _ (by rw [List.getElem?_map, (hT 0 h0).1.at_ (by omega)]; rfl)
      exact flat_of_cell (by simpa using h1)
    · exact rd_flat a len 4 T (fun ws => ws.map uv) (fun k hk => by rw [List.length_map, (hT k (by omega)).1.len]) (fun k hk j u hu => (hT k (by omega)).2 j u hu)
    · obtain ⟨k, hk, rfl⟩ := List.mem_map.1 hx
      exact (hT k (by have := List.mem_range.1 hk; omega)).1
end

/-- A WORLD FOR THE WITNESS: the settled one, the table holding what its initialiser lays. -/
noncomputable def laidWorld (os : Os) : World :=
  { World.holding Tryd.prog os ⟨#[], #[], []⟩ with heap := (World.holding Tryd.prog os ⟨#[], #[], []⟩).heap.modify 0 fun
      | .cells _ t frozen => .cells #[.int .u8 0, .int .u8 1, .int .u8 56, .int .u8 2, .int .u8 57, .int .u8 49, .int .u8 28, .int .u8 3, .int .u8 61, .int .u8 58, .int .u8 42, .int .u8 50, .int .u8 38, .int .u8 29, .int .u8 17, .int .u8 4, .int .u8 62, .int .u8 47, .int .u8 59, .int .u8 36, .int .u8 45, .int .u8 43, .int .u8 51, .int .u8 22, .int .u8 53, .int .u8 39, .int .u8 33, .int .u8 30, .int .u8 24, .int .u8 18, .int .u8 12, .int .u8 5, .int .u8 63, .int .u8 55, .int .u8 48, .int .u8 27, .int .u8 60, .int .u8 41, .int .u8 37, .int .u8 16, .int .u8 46, .int .u8 35, .int .u8 44, .int .u8 21, .int .u8 52, .int .u8 32, .int .u8 23, .int .u8 11, .int .u8 54, .int .u8 26, .int .u8 40, .int .u8 15, .int .u8 34, .int .u8 20, .int .u8 31, .int .u8 10, .int .u8 25, .int .u8 14, .int .u8 19, .int .u8 9, .int .u8 13, .int .u8 8, .int .u8 7, .int .u8 6] t frozen
      | o => o }
end Go.Proofs.YtjlakbcbfbcmhaaDoor

/-
  The contract of the reference's Ranges. No statement of the seat is proved here.
-/
namespace Go.Proofs.YtjlakbcbfbcmhaaDoor
open Go Go.RowKit

theorem ext_drew {a w : World} (h : Below a.heap.size a w) : Below a.heap.size a w.drew := ext_drewN h 1

theorem cell_only {S : Nat → Prop} {w w' : World} {p : Addr} {v : Value} (h : w.cell? p = some v) (ho : Only S w w') (hn : ¬ S p.block) : w'.cell? p = some v :=
  (World.cell?_of_block (ho.block _ (World.block_lt_of_cell? w _ h) hn)).trans h

set_option maxHeartbeats 4000000 in
theorem rranges_any (ws : List Nat) (hs : SetOk ws) (w : World) :
    Calls Tryd.prog 9 #[setV ws] w fun e w' => ∃ A' c', e = .returned (.slice A' (rowsB (listB ws)).length c') ∧ NewO w w' 30 2 A' (rowsB (listB ws)).length c' (cellsR (rowsB (listB ws))) := by
  have hB1 := Blk.new w 25 (cellsU ws)
  have hcall := rlist_any ws hs (w.alloc (Obj.cells (cellsU ws) 25))
  have hbs : ∀ b ∈ listB ws, b < 256 := fun b hb => listB_lt hb
  have hps := listB_rises ws
  have hll := listB_len ws
  obtain ⟨l, hl⟩ : ∃ l, listB ws = l := ⟨_, rfl⟩
  rw [hl] at hcall hbs hps hll ⊢
  clear hl
  unfold setV at hcall ⊢
  go_enter Tryd.func9, Tryd.ntmps9
  go_wp2_with (refine wpList_load_set rfl _ rfl w.heap.size rfl hs hB1 ?_)
  refine hcall.mono ?_
  rintro e w2 ⟨AL, cL, rfl, hNL⟩
  clear hcall hB1
  go_wp2
  go_loopw [3, 5] (fun s i wr => ∃ (k : Nat) (R : List (Nat × Nat)) (A : Option Addr) (c : Nat), k ≤ l.length ∧ i = .int .i64 (k : Int) ∧ R = rowsB (l.take k) ∧ s = .slice A R.length c ∧ NewO w2 wr 30 2 A R.length c (cellsR R)) (fun _ i _ => l.length - (intOf i).toNat)
  case atStart => exact ⟨0, [], none, 0, by omega, rfl, rfl, rfl, NewO.start _ _ _⟩
  case round =>
    obtain ⟨k, R, A, c, hk, rfl, hR, rfl, hN⟩ := hrel
    by_cases hlt : k < l.length
    · have hki : (k : Int) < (l.length : Int) := by omega
      have hrd := hNL.rd.ext hN.bel
      obtain ⟨ad, rfl, q⟩ := hrd.at_ (k := k) (by simpa using hlt)
      simp only [List.getElem_map, nb] at q
      have hbb := hbs l[k] (List.getElem_mem hlt)
      have hne : ¬ inA A ad.block := fun hin => by
        have h1 := hN.2.2 _ hin
        obtain ⟨ad', e', h2⟩ := hNL.rd.at_ (k := k) (by simpa using hlt)
        injection e' with e'
        subst e'
        have h3 := World.block_lt_of_cell? _ _ h2
        rw [block_add] at h3
        omega
      have Hne := Lib.hid hne
      rcases rows_at hbs hps hlt with ⟨hk0, h1, h2⟩ | ⟨r, lo, h, hk0, h1, hhb, hk1, hrl, hj, hn⟩
      · obtain rfl : R = [] := hR.trans h1
        have H2 := Lib.hid h2
        clear hR h1 h2
        generalize l[k] = b at q hbb H2
        have hkf : ¬ ((0 : Int) < (k : Int)) := by omega
        have hkn : ¬ (0 < k) := by omega
        have Hk0 := Lib.hid hk0
        obtain ⟨m, hm⟩ : ∃ m, ([] : List (Nat × Nat)).length = m := ⟨_, rfl⟩
        obtain ⟨xs, hxs⟩ : ∃ xs, cellsR [] = xs := ⟨_, rfl⟩
        rw [hm, hxs] at hN
        rw [hm]
        have hm0 : m = 0 := hm.symm
        have hm1 : m + 1 ≤ maxLen := by unfold maxLen; omega
        have hm2 : (m + 1) * 2 ≤ 140737488355328 := by omega
        have Hm := Lib.hid hm
        have Hxs := Lib.hid hxs
        clear hm hxs hm0 hk0
        have Hrow : Hid (∀ W, Below wr.heap.size wr W → RowO W 30 2 A m c xs) := Lib.hid fun W hW => hN.row.ext hW
        have Hq : Hid (∀ W, Below wr.heap.size wr W → W.cell? (ad.add k) = some (.int .u8 (b : Int))) := Lib.hid fun W hW => (World.cell?_of_block (hW.block _ (World.block_lt_of_cell? wr _ q))).trans q
        have Hm1 := Lib.hid hm1
        have Hm2 := Lib.hid hm2
        have HN := Lib.hid hN
        clear hm1 hm2 hN
        go_wp2
        go_region
        go_wp2
        go_region_held3 (fun w' => w'.cell? (ad.add k) = some (.int .u8 (b : Int)))
          (first | exact q | exact hq3 | exact Hq.out _ (by repeat (first | apply ext_alloc | apply ext_drew | exact Below.refl _ _)))
          (first
          | (refine step_appO _ rfl (.tmp 41) (.tmp 51) _ rfl _ _ 2 2 Tryd.underlying27 info_two rfl A m c xs rfl (Hrow.out _ (by repeat (first | apply ext_alloc | apply ext_drew | exact Below.refl _ _))) (some ⟨_, 0, none⟩) 1 1 [.int .u8 (b : Int), .int .u8 (b : Int)] rfl rfl (Rd.lit_at _ #[.int .u8 (b : Int), .int .u8 (b : Int)] _ (by first | rfl | simp)) (by intro u hu; simp at hu; subst hu; rfl) (by intro h; cases h) Hm1.out Hm2.out ?_; intro A3 c3 w3 hrow3 honly3 hA3; have hq3 := cell_only (Hq.out _ (by repeat (first | apply ext_alloc | apply ext_drew | exact Below.refl _ _))) honly3 (by rw [block_add]; exact hne)))
        have hN3 := HN.out.grow (by repeat (first | apply ext_alloc | apply ext_drew | exact Below.refl _ _)) hrow3 honly3 hA3
        go_wp2
        go_roundw
        case rel =>
          refine ⟨k + 1, [(b, b)], A3, c3, by omega, by go_num, H2.out.symm, by rw [← Hm.out]; rfl, ?_⟩
          rw [← Hm.out, ← Hxs.out] at hN3
          exact hN3
        case measure => simp [intOf]; omega
      · obtain rfl : R = r ++ [(lo, h)] := hR.trans h1
        have Hj := Lib.hid hj
        have Hn := Lib.hid hn
        obtain ⟨ad', e', q0⟩ := hrd.at_ (k := k - 1) (by simp; omega)
        injection e' with e'
        subst e'
        have hlk : l[k - 1]'(by omega) = h := by
          rw [List.getElem?_eq_getElem (by omega)] at hk1
          injection hk1
        simp only [List.getElem_map, nb, hlk] at q0
        clear hR h1 hk1 hj hn hlk
        generalize l[k] = b at q hbb hhb Hj Hn
        have hkt : (0 : Int) < (k : Int) := by omega
        have hkk : ((k : Int) - 1).toNat = k - 1 := by omega
        have hki1 : (k : Int) - 1 < (l.length : Int) := by omega
        have hkb : (k : Int) ≤ 1000000 := by omega
        by_cases he : h + 1 = b
        · obtain ⟨g, o, rfl, q1, q2⟩ := hN.row.cellR (k := r.length) (by simp)
          simp only [List.getElem_append_right (Nat.le_refl _), Nat.sub_self, List.getElem_cons_zero] at q1 q2
          have hfr := hN.row.free (o + r.length * 2 + 1)
          have hN3 := hN.set (r.length * 2 + 1) (by rw [cellsR_length, List.length_append, List.length_singleton]; omega) (nb b)
          rw [← Nat.add_assoc, cellsR_set] at hN3
          have H3 := Lib.hid hN3
          have HN := Lib.hid hN
          have hR3 := Hj.out he
          have HR3 := Lib.hid hR3
          rw [List.length_append, List.length_singleton]
          have hrb : r.length ≤ 1000000 := by omega
          have hlast : ((r.length + 1 : Nat) : Int) - 1 = (r.length : Int) := by omega
          have hhe : (h : Int) + 1 = (b : Int) := by omega
          clear hN3 hR3 hN
          go_wp2
          go_region
          go_wp2
          go_region
          go_wp2
          go_roundw
          case rel =>
            refine ⟨k + 1, r ++ [(lo, b)], some ⟨g, o, none⟩, c, by omega, by go_num, HR3.out.symm, by simp, ?_⟩
            have h3 := H3.out
            rw [List.length_append, List.length_singleton] at h3 ⊢
            exact h3.ext (ext_drew (ext_drew (Below.refl _ _)))
          case measure => simp [intOf]; omega
        · have hR3 := Hn.out he
          have HR3 := Lib.hid hR3
          have hhe : ¬ ((h : Int) + 1 = (b : Int)) := by omega
          obtain ⟨m, hm⟩ : ∃ m, (r ++ [(lo, h)]).length = m := ⟨_, rfl⟩
          obtain ⟨xs, hxs⟩ : ∃ xs, cellsR (r ++ [(lo, h)]) = xs := ⟨_, rfl⟩
          rw [hm, hxs] at hN
          rw [hm]
          have hmk : m ≤ k := by rw [← hm]; simp; omega
          have hm1 : m + 1 ≤ maxLen := by unfold maxLen; omega
          have hm2 : (m + 1) * 2 ≤ 140737488355328 := by omega
          have Hm := Lib.hid hm
          have Hxs := Lib.hid hxs
          clear hm hxs hR3
          have Hrow : Hid (∀ W, Below wr.heap.size wr W → RowO W 30 2 A m c xs) := Lib.hid fun W hW => hN.row.ext hW
          have Hq : Hid (∀ W, Below wr.heap.size wr W → W.cell? (ad.add k) = some (.int .u8 (b : Int))) := Lib.hid fun W hW => (World.cell?_of_block (hW.block _ (World.block_lt_of_cell? wr _ q))).trans q
          have Hm1 := Lib.hid hm1
          have Hm2 := Lib.hid hm2
          have HN := Lib.hid hN
          clear hm1 hm2 hN
          go_wp2
          go_region
          go_wp2
          go_region_held3 (fun w' => w'.cell? (ad.add k) = some (.int .u8 (b : Int)))
            (first | exact q | exact hq3 | exact Hq.out _ (by repeat (first | apply ext_alloc | apply ext_drew | exact Below.refl _ _)))
            (first
            | (refine step_appO _ rfl (.tmp 41) (.tmp 51) _ rfl _ _ 2 2 Tryd.underlying27 info_two rfl A m c xs rfl (Hrow.out _ (by repeat (first | apply ext_alloc | apply ext_drew | exact Below.refl _ _))) (some ⟨_, 0, none⟩) 1 1 [.int .u8 (b : Int), .int .u8 (b : Int)] rfl rfl (Rd.lit_at _ #[.int .u8 (b : Int), .int .u8 (b : Int)] _ (by first | rfl | simp)) (by intro u hu; simp at hu; subst hu; rfl) (by intro h; cases h) Hm1.out Hm2.out ?_; intro A3 c3 w3 hrow3 honly3 hA3; have hq3 := cell_only (Hq.out _ (by repeat (first | apply ext_alloc | apply ext_drew | exact Below.refl _ _))) honly3 (by rw [block_add]; exact hne)))
          have hN3 := HN.out.grow (by repeat (first | apply ext_alloc | apply ext_drew | exact Below.refl _ _)) hrow3 honly3 hA3
          go_wp2
          go_roundw
          case rel =>
            refine ⟨k + 1, r ++ [(lo, h)] ++ [(b, b)], A3, c3, by omega, by go_num, HR3.out.symm, by rw [← Hm.out]; simp, ?_⟩
            rw [← Hm.out, ← Hxs.out] at hN3
            rw [cellsR_append (r ++ [(lo, h)]), show (r ++ [(lo, h)] ++ [(b, b)]).length = (r ++ [(lo, h)]).length + 1 by simp]
            exact hN3
          case measure => simp [intOf]; omega
    · obtain rfl : k = l.length := by omega
      rw [List.take_length] at hR
      subst hR
      go_wp2
      go_ret
      exact ⟨A, c, rfl, (hN.back hNL.bel).back ((Below.refl _ _).alloc (Nat.le_refl _) _)⟩
end Go.Proofs.YtjlakbcbfbcmhaaDoor

/-
  Bytes as a string, as the laws compare them. No statement of the seat is proved here.
-/
namespace Go.Proofs.YtjlakbcbfbcmhaaDoor
open Go Go.RowKit

theorem conv_bytes (w : World) (A : Option Addr) (n c : Nat) (bs : List UInt8) (hn : n = bs.length) (hr : Rd w A (bs.map bv)) :
    (convert 22 9 (.slice A n c)).run Tryd.prog w = .ok (.string ⟨bs.toArray⟩) w := by
  subst hn
  rcases A with _ | ad
  · have hnil : bs = [] := by
      rcases bs with _ | ⟨b, r⟩
      · rfl
      · obtain ⟨ad, h0, _⟩ := hr 0 _ rfl
        cases h0
    subst hnil
    exact Lib.run_convert_nil_bytes w _ _ 5 c Tryd.underlying22 Tryd.underlying5 Tryd.underlying9
  · refine run_convert_bytes_back w _ _ 5 ad c bs Tryd.underlying22 Tryd.underlying5 Tryd.underlying9 (fun j hj => ?_)
    obtain ⟨ad', h1, h2⟩ := hr j (bv bs[j]) (by simp [hj])
    injection h1 with h1
    subst h1
    exact h2
end Go.Proofs.YtjlakbcbfbcmhaaDoor

/-
  The contracts of the reference's Join, Meet. No statement of the seat is proved here.
-/
namespace Go.Proofs.YtjlakbcbfbcmhaaDoor
open Go Go.RowKit

set_option maxHeartbeats 2000000 in
theorem rjoin_any (A : Option Addr) (n c : Nat) (l : List (List Nat)) (w : World) (hn : n = l.length) (hb : l.length ≤ 1000000) (hr : SetsR w A l) :
    Calls Tryd.prog 20 #[.slice A n c] w fun e w' => e = .returned (setV (joinB l)) ∧ Below w.heap.size w w' := by
  subst hn
  have hz := zeros_set
  have hbi : (l.length : Int) ≤ 1000000 := by omega
  unfold setV
  go_enter Tryd.func20, Tryd.ntmps20
  go_wp2
  go_loopw [4, 5] (fun i _ wr => ∃ (k : Nat) (us : List Nat), k ≤ l.length ∧ i = .int .i64 (k : Int) ∧ us = joinB (l.take k) ∧ Blk wr (w.heap.size + 1) 25 (cellsU us) ∧ Blk wr w.heap.size 25 (cellsU zeroB) ∧ Below w.heap.size w wr) (fun i _ _ => l.length - (intOf i).toNat)
  case atStart =>
    refine ⟨0, zeroB, by omega, rfl, rfl, ?_, ?_, ext2 w _ _⟩
    · have := Blk.new (w.alloc (Obj.cells (cellsU zeroB) 25)) 25 (cellsU zeroB)
      simpa using this
    · exact (Blk.new w 25 (cellsU zeroB)).alloc (Obj.cells (cellsU zeroB) 25)
  case round =>
    obtain ⟨k, us, hk, rfl, hus, hT, hR, hbel⟩ := hrel
    have husok : SetOk us := by rw [hus]; exact join_ok fun x hx => hr.ok x (List.mem_of_mem_take hx)
    by_cases hlt : k < l.length
    · have hki : (k : Int) < (l.length : Int) := by omega
      obtain ⟨g, o, rfl, hrg⟩ := hr.cells hlt
      have hx := hr.ok l[k] (List.getElem_mem hlt)
      have hsn : orB us l[k] = joinB (l.take (k + 1)) := by rw [hus, take_snoc l k hlt, joinB_snoc]
      have Hsn := Lib.hid hsn
      have Hus := Lib.hid hus
      have Hrg := Lib.hid hrg
      clear hsn hus hrg
      generalize l[k] = x at Hrg hx Hsn
      obtain ⟨wo, hwo⟩ : ∃ wo : World, wo = wr := ⟨_, rfl⟩
      subst hwo
      go_wp2
      go_loopw [5] (fun i w3 => ∃ (j : Nat) (vs : List Nat), j ≤ 4 ∧ i = .int .i64 (j : Int) ∧ SetOk vs ∧ (∀ i, i < 4 → wordB vs i = if i < j then wordB us i ||| wordB x i else wordB us i) ∧ Blk w3 (w.heap.size + 1) 25 (cellsU vs) ∧ Blk w3 w.heap.size 25 (cellsU zeroB) ∧ Below w.heap.size w w3) (fun i _ => 4 - (intOf i).toNat)
      case atStart => exact ⟨0, us, by omega, rfl, husok, fun i hi => by simp, hT, hR, hbel⟩
      case round =>
        obtain ⟨j, vs, hj, rfl, hvs, hw, hT3, hR3, hb3⟩ := hrel
        by_cases hjl : j < 4
        · have hcell : wr.cell? ⟨w.heap.size + 1, j, none⟩ = some (.int .u64 (wordB vs j : Int)) := (hT3.cell _).trans (cellsU_at hvs hjl)
          have hfree := hT3.free j
          have hji : (j : Int) < 4 := by omega
          have hcx : wr.cell? ⟨g, o + k * 4 + j, none⟩ = some (.int .u64 (wordB x j : Int)) := by
            have h1 := Hrg.out j hjl
            have hl := World.block_lt_of_cell? w _ h1
            exact (World.cell?_of_block (hb3.block _ hl)).trans h1
          have hor := or_key (wordB vs j) (wordB x j) (hvs.wlt _) (hx.wlt _)
          have hol := or_lt (hvs.wlt j) (hx.wlt j)
          have hT' := hT3.put j (.int .u64 ((wordB vs j ||| wordB x j : Nat) : Int))
          rw [cellsU_set] at hT'
          have hval : wordB vs j = wordB us j := by rw [hw j hjl, if_neg (by omega)]
          have Hval := Lib.hid hval
          have Hw := Lib.hid hw
          have HT' := Lib.hid hT'
          clear hw hT' hval hT3 hT hR hbel
          go_wp2
          go_region
          go_wp2
          go_roundw
          case rel =>
            refine ⟨j + 1, vs.set j (wordB vs j ||| wordB x j), by omega, by go_num, hvs.set _ _ hol, fun i hi => ?_, HT'.out.drew, (hR3.far (by simp) _).drew, (hb3.setCell (by simp) _).drew⟩
            rw [wordB_set hvs.len hi]
            by_cases e : j = i
            · subst e; rw [if_pos rfl, if_pos (by omega), Hval.out]
            · rw [if_neg e, Hw.out i hi]
              by_cases e2 : i < j
              · rw [if_pos e2, if_pos (by omega)]
              · rw [if_neg e2, if_neg (by omega)]
          case measure => simp [intOf]; omega
        · obtain rfl : j = 4 := by omega
          have hvs' : vs = orB us x := word_ext hvs (or_ok husok hx) fun i hi => by rw [hw i hi, if_pos hi, word_or husok hx hi]
          subst hvs'
          have hki2 : (k : Int) ≤ 1000000 := by omega
          clear hw
          go_wp2
          go_roundw
          case rel => exact ⟨k + 1, orB us x, by omega, by go_num, Hsn.out, hT3, hR3, hb3⟩
          case measure => simp [intOf]; omega
    · obtain rfl : k = l.length := by omega
      rw [List.take_length] at hus
      subst hus
      have hi := size_set husok
      go_wp2_with (first | (refine wpList_load_set rfl _ rfl (w.heap.size + 1) rfl husok hT ?_) | (refine wpList_store_set rfl _ _ rfl w.heap.size rfl rfl husok zero_ok hR ?_; intro w2 hB2 _ _ hbel2))
      exact bodyPost_ret (results_cell rfl _ _ w.heap.size 25 _ 4 23 rfl hB2 Tryd.underlying25 hi) rfl ⟨rfl, hbel.trans (hbel2 _ (by omega))⟩

set_option maxHeartbeats 2000000 in
theorem rmeet_any (A : Option Addr) (n c : Nat) (l : List (List Nat)) (w : World) (hn : n = l.length) (hb : l.length ≤ 1000000) (hr : SetsR w A l) :
    Calls Tryd.prog 22 #[.slice A n c] w fun e w' => e = .returned (setV (meetB l)) ∧ Below w.heap.size w w' := by
  subst hn
  have hz := zeros_set
  have hbi : (l.length : Int) ≤ 1000000 := by omega
  unfold setV
  go_enter Tryd.func22, Tryd.ntmps22
  have hnot := rnot_any zeroB zero_ok (w.alloc (Obj.cells (cellsU zeroB) 25))
  have hok0 := not_ok zero_ok
  go_wp2_with fail
  refine hnot.mono ?_
  rintro e w2 ⟨rfl, hb0⟩
  have hR0 := (Blk.new w 25 (cellsU zeroB)).ext hb0
  have hbel0 : Below w.heap.size w w2 := ((Below.refl _ _).alloc (Nat.le_refl _) _).trans (hb0.mono (by simp))
  have hlt0 := hR0.lt
  clear hnot hb0
  unfold setV
  go_wp2_with (refine wpList_store_set rfl _ _ rfl w2.heap.size rfl rfl hok0 zero_ok (Blk.new _ _ _) ?_; intro w3 hB3 hfar3 hsz3 hbel3)
  have hext3 : Below w2.heap.size w2 w3 := ((Below.refl _ _).alloc (Nat.le_refl _) _).trans (hbel3 _ (Nat.le_refl _))
  have hR3' := hR0.ext hext3
  have hb3' := ext_trans hbel0 hext3
  have hne : w.heap.size ≠ w2.heap.size := by omega
  obtain ⟨s, hs⟩ : ∃ s, s = w2.heap.size := ⟨_, rfl⟩
  have hsw : w.heap.size < s := by omega
  rw [← hs] at hB3 ⊢
  clear hfar3 hsz3 hbel3 hext3 hR0 hbel0 hlt0 hne hs
  go_loopw [4, 5] (fun i _ wr => ∃ (k : Nat) (us : List Nat), k ≤ l.length ∧ i = .int .i64 (k : Int) ∧ us = meetB (l.take k) ∧ Blk wr s 25 (cellsU us) ∧ Blk wr w.heap.size 25 (cellsU zeroB) ∧ Below w.heap.size w wr) (fun i _ _ => l.length - (intOf i).toNat)
  case atStart => exact ⟨0, notB zeroB, by omega, rfl, rfl, hB3, hR3', hb3'⟩
  case round =>
    obtain ⟨k, us, hk, rfl, hus, hT, hR, hbel⟩ := hrel
    have husok : SetOk us := by rw [hus]; exact meet_ok fun x hx => hr.ok x (List.mem_of_mem_take hx)
    by_cases hlt : k < l.length
    · have hki : (k : Int) < (l.length : Int) := by omega
      obtain ⟨g, o, rfl, hrg⟩ := hr.cells hlt
      have hx := hr.ok l[k] (List.getElem_mem hlt)
      have hsn : andB us l[k] = meetB (l.take (k + 1)) := by rw [hus, take_snoc l k hlt, meetB_snoc]
      have Hsn := Lib.hid hsn
      have Hus := Lib.hid hus
      have Hrg := Lib.hid hrg
      clear hsn hus hrg
      generalize l[k] = x at Hrg hx Hsn
      obtain ⟨wo, hwo⟩ : ∃ wo : World, wo = wr := ⟨_, rfl⟩
      subst hwo
      go_wp2
      go_loopw [5] (fun i w3 => ∃ (j : Nat) (vs : List Nat), j ≤ 4 ∧ i = .int .i64 (j : Int) ∧ SetOk vs ∧ (∀ i, i < 4 → wordB vs i = if i < j then wordB us i &&& wordB x i else wordB us i) ∧ Blk w3 (s) 25 (cellsU vs) ∧ Blk w3 w.heap.size 25 (cellsU zeroB) ∧ Below w.heap.size w w3) (fun i _ => 4 - (intOf i).toNat)
      case atStart => exact ⟨0, us, by omega, rfl, husok, fun i hi => by simp, hT, hR, hbel⟩
      case round =>
        obtain ⟨j, vs, hj, rfl, hvs, hw, hT3, hR3, hb3⟩ := hrel
        by_cases hjl : j < 4
        · have hcell : wr.cell? ⟨s, j, none⟩ = some (.int .u64 (wordB vs j : Int)) := (hT3.cell _).trans (cellsU_at hvs hjl)
          have hfree := hT3.free j
          have hji : (j : Int) < 4 := by omega
          have hcx : wr.cell? ⟨g, o + k * 4 + j, none⟩ = some (.int .u64 (wordB x j : Int)) := by
            have h1 := Hrg.out j hjl
            have hl := World.block_lt_of_cell? w _ h1
            exact (World.cell?_of_block (hb3.block _ hl)).trans h1
          have hor := and_key (wordB vs j) (wordB x j) (hvs.wlt _) (hx.wlt _)
          have hol : wordB vs j &&& wordB x j < 18446744073709551616 := Nat.lt_of_le_of_lt Nat.and_le_left (hvs.wlt j)
          have hT' := hT3.put j (.int .u64 ((wordB vs j &&& wordB x j : Nat) : Int))
          rw [cellsU_set] at hT'
          have hval : wordB vs j = wordB us j := by rw [hw j hjl, if_neg (by omega)]
          have Hval := Lib.hid hval
          have Hw := Lib.hid hw
          have HT' := Lib.hid hT'
          clear hw hT' hval hT3 hT hR hbel
          go_wp2
          go_region
          go_wp2
          go_roundw
          case rel =>
            refine ⟨j + 1, vs.set j (wordB vs j &&& wordB x j), by omega, by go_num, hvs.set _ _ hol, fun i hi => ?_, HT'.out.drew, (hR3.far (by show w.heap.size ≠ s; omega) _).drew, (hb3.setCell (by show w.heap.size ≤ s; omega) _).drew⟩
            rw [wordB_set hvs.len hi]
            by_cases e : j = i
            · subst e; rw [if_pos rfl, if_pos (by omega), Hval.out]
            · rw [if_neg e, Hw.out i hi]
              by_cases e2 : i < j
              · rw [if_pos e2, if_pos (by omega)]
              · rw [if_neg e2, if_neg (by omega)]
          case measure => simp [intOf]; omega
        · obtain rfl : j = 4 := by omega
          have hvs' : vs = andB us x := word_ext hvs (and_ok husok hx) fun i hi => by rw [hw i hi, if_pos hi, word_and husok hx hi]
          subst hvs'
          have hki2 : (k : Int) ≤ 1000000 := by omega
          clear hw
          go_wp2
          go_roundw
          case rel => exact ⟨k + 1, andB us x, by omega, by go_num, Hsn.out, hT3, hR3, hb3⟩
          case measure => simp [intOf]; omega
    · obtain rfl : k = l.length := by omega
      rw [List.take_length] at hus
      subst hus
      have hi := size_set husok
      go_wp2_with (first | (refine wpList_load_set rfl _ rfl (s) rfl husok hT ?_) | (refine wpList_store_set rfl _ _ rfl w.heap.size rfl rfl husok zero_ok hR ?_; intro w2 hB2 _ _ hbel2))
      exact bodyPost_ret (results_cell rfl _ _ w.heap.size 25 _ 4 23 rfl hB2 Tryd.underlying25 hi) rfl ⟨rfl, hbel.trans (hbel2 _ (by omega))⟩
end Go.Proofs.YtjlakbcbfbcmhaaDoor
