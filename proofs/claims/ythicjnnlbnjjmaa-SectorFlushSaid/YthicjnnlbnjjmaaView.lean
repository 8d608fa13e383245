/-
  A copy of a Disk, as it is read; the contract of sector's Copy. No statement of the seat is proved here.
-/
import Derived.Test.YthicjnnlbnjjmaaDisks
import Derived.Lib.SliceRun
namespace Go.Proofs.Ythicjnnlbnjjmaa
open Go Go.RowKit

/-- A disk that is only read, in blocks from 'L' on: its sectors lie in block 'gc' from offset 'o' on. -/
structure View (w : World) (L g gc o K : Nat) (S : Sec) (B : Nat → Option Addr) (C : Nat → Nat) : Prop where
  n : S.length ≤ 4096
  c0 : w.cell? ⟨g, 0, none⟩ = some (.slice (some ⟨gc, o, none⟩) S.length K)
  cel : ∀ i (hi : i < S.length), CelAt w gc (o + i * 65) S[i] (B i) (C i)
  lg : L ≤ g
  lgc : L ≤ gc
  lB : ∀ i k, i < S.length → inA (B i) k → L ≤ k
theorem View.keep {w w' : World} {L g gc o K : Nat} {S : Sec} {B : Nat → Option Addr} {C : Nat → Nat} (h : View w L g gc o K S B C) (hk : ∀ k, L ≤ k → k < w.heap.size → w'.heap[k]? = w.heap[k]?) : View w' L g gc o K S B C :=
  { h with
    c0 := (World.cell?_of_block (a := ⟨g, 0, none⟩) (hk g h.lg (World.block_lt_of_cell? w _ h.c0))).trans h.c0
    cel := fun i hi => (h.cel i hi).keep (hk gc h.lgc (h.cel i hi).lt) fun k hk' => hk k (h.lB i k hi hk') ((h.cel i hi).own.lt hk') }
theorem View.ext {w w' : World} {L g gc o K : Nat} {S : Sec} {B : Nat → Option Addr} {C : Nat → Nat} (h : View w L g gc o K S B C) (hb : Below w.heap.size w w') : View w' L g gc o K S B C := h.keep fun k _ hk => hb.block k hk

/-! ### Len, has, Waiting, Read of a copy -/
section
variable {w : World} {L g gc o K : Nat} {S : Sec} {B : Nat → Option Addr} {C : Nat → Nat}
theorem len_v (h : View w L g gc o K S B C) : Calls Try.prog 23 #[.pointer (some ⟨g, 0, none⟩)] w fun e w' => e = .returned (.int .i64 (S.length : Int)) ∧ w = w' := by
  have h0 : w.cell? ⟨g, 0, none⟩ = some (.slice (some ⟨gc, o, none⟩) S.length K) := h.c0
  go_enter Try.func23, Try.ntmps23
  go_wp2
  go_ret
  exact ⟨rfl, rfl⟩
theorem has_v (h : View w L g gc o K S B C) (i : Int) : Calls Try.prog 33 #[.pointer (some ⟨g, 0, none⟩), .int .i64 i] w fun e w' => e = .returned (.bool (decide (0 ≤ i ∧ i < (S.length : Int)))) ∧ w = w' := by
  by_cases h0 : 0 ≤ i
  · have e1 : decide (0 ≤ i ∧ i < (S.length : Int)) = decide (i < (S.length : Int)) := by simp [h0]
    rw [e1]
    go_enter Try.func33, Try.ntmps33
    go_wp2_with fail
    refine (len_v h).mono ?_
    rintro e w2 ⟨rfl, rfl⟩
    go_wp2
    go_ret
    exact ⟨rfl, rfl⟩
  · have e1 : decide (0 ≤ i ∧ i < (S.length : Int)) = false := by simp [h0]
    rw [e1]
    go_enter Try.func33, Try.ntmps33
    go_wp2
    go_ret
    exact ⟨rfl, rfl⟩
end

set_option maxHeartbeats 1000000 in
theorem waiting_v {w : World} {L g gc o K : Nat} {S : Sec} {B : Nat → Option Addr} {C : Nat → Nat} (h : View w L g gc o K S B C) (hs : Small 1000000 S) :
    Calls Try.prog 17 #[.pointer (some ⟨g, 0, none⟩)] w fun e w' => ∃ A c, e = .returned (.slice A (waiting S).length c) ∧ RowO w' 3 1 A (waiting S).length c ((waiting S).map iv') ∧ Below w.heap.size w w' ∧ ∀ k, inA A k → w.heap.size ≤ k := by
  have hn := h.n
  go_enter Try.func17, Try.ntmps17
  go_wp2_with fail
  refine (len_v h).mono ?_
  rintro e w2 ⟨rfl, rfl⟩
  go_wp2
  go_loopw [3, 4, 7] (fun s _ i w1 => ∃ (k : Nat) (A : Option Addr) (c : Nat), k ≤ S.length ∧ i = .int .i64 (k : Int) ∧ s = .slice A (rk (pw S) k) c ∧ RowO w1 3 1 A (rk (pw S) k) c ((wl (pw S) k).map iv') ∧ Below w.heap.size w w1 ∧ ∀ k, inA A k → w.heap.size ≤ k) (fun _ _ i _ => S.length - (intOf i).toNat)
  case atStart => exact ⟨0, none, 0, Nat.zero_le _, rfl, rfl, RowO.none_ _ _ _, Below.refl _ _, fun k hk => absurd hk (inA_none k)⟩
  case round =>
    obtain ⟨k, A, c, hk, rfl, rfl, hrow, hbel, hnew⟩ := hrel
    by_cases hlt : k < S.length
    · have hl := h.ext hbel
      have h0 : wr.cell? ⟨g, 0, none⟩ = some (.slice (some ⟨gc, o, none⟩) S.length K) := hl.c0
      have hsm := hs S[k] (List.getElem_mem hlt)
      have hsucc := Lib.hid (rk_succ (pw S) k)
      have wsucc := Lib.hid (wl_succ (pw S) k)
      have hle := rk_le (pw S) k
      have hpk := pw_eq hlt
      go_wp2_with fail
      refine (waits_any gc (o + k * 65) S[k] _ _ _ (hl.cel k hlt) hsm).mono ?_
      rintro e w2 ⟨rfl, rfl⟩
      by_cases hp : 1 < S[k].length
      · have hpk' : pw S k = true := by rw [hpk]; simp [hp]
        rw [hpk'] at hsucc wsucc
        have hm1 : rk (pw S) k + 1 ≤ maxLen := by unfold maxLen; omega
        have hm2 : (rk (pw S) k + 1) * 8 ≤ 140737488355328 := by omega
        go_wp2_with (at_builtin
                     refine wpList_appO _ rfl (.tmp 17) (.tmp 19) _ rfl _ _ 1 8 Try.underlying33 info_int rfl A _ c _ rfl (hrow.alloc _) (some ⟨wr.heap.size, 0, none⟩) 1 1 [.int .i64 (k : Int)] rfl rfl (Rd.lit _ #[.int .i64 (k : Int)] _) ?_ ?_ hm1 hm2 ?_
                     · simp; rfl
                     · intro h; cases h
                     intro A2 c2 w3 hrow3 honly3 hA3)
        go_roundw
        case rel =>
          refine ⟨k + 1, A2, c2, by omega, by go_num, ?_, ?_, ?_, ?_⟩
          · rw [hsucc.out]; rfl
          · rw [hsucc.out, wsucc.out]
            simpa [iv'] using hrow3
          · refine (hbel.alloc hbel.size _).trans (honly3.below (fun i hi => hnew i hi) ?_)
            rw [World.size_alloc]; have := hbel.size; omega
          · intro k' hk'
            rcases hA3 k' hk' with h1 | h1
            · exact hnew k' h1
            · have := hbel.size
              rw [World.size_alloc] at h1; omega
        case measure => simp [intOf]; omega
      · have hpk' : pw S k = false := by rw [hpk]; simp [hp]
        rw [hpk'] at hsucc wsucc
        have hdec : decide (1 < S[k].length) = false := by simp [hp]
        rw [hdec]
        go_wp2
        go_roundw
        case rel =>
          refine ⟨k + 1, A, c, by omega, by go_num, ?_, ?_, hbel, hnew⟩
          · rw [hsucc.out]; rfl
          · rw [hsucc.out, wsucc.out]
            simpa using hrow
        case measure => simp [intOf]; omega
    · obtain rfl : k = S.length := by omega
      go_wp2
      go_ret
      exact ⟨A, c, rfl, hrow, hbel, hnew⟩


set_option maxRecDepth 100000 in
theorem readOk_v {w : World} {L g gc o K : Nat} {S : Sec} {B : Nat → Option Addr} {C : Nat → Nat} (h : View w L g gc o K S B C) (hs : Small 1000000 S) (i : Nat) (hi : i < S.length) :
    Calls Try.prog 18 #[.pointer (some ⟨g, 0, none⟩), .int .i64 (i : Int)] w fun e w' => ∃ g', e = .returned (.tuple #[.slice (some ⟨g', 0, none⟩) 64 64, .int .i64 0]) ∧ Below w.heap.size w w' ∧ Blk w' g' 67 ((lastOf S[i]).map bv).toArray ∧ w.heap.size ≤ g' := by
  have hz := zeros_ver
  have h0 : w.cell? ⟨g, 0, none⟩ = some (.slice (some ⟨gc, o, none⟩) S.length K) := h.c0
  have hc := h.cel i hi
  have hm := lastOf_mem hc.ne
  have hv64 := hc.len _ hm
  have hsm := hs S[i] (List.getElem_mem hi)
  have hlast : S[i].getLast? = some (lastOf S[i]) := by
    unfold lastOf
    rw [List.getLastD_eq_getLast?]
    have := List.length_pos_iff.2 hc.ne
    rw [List.getLast?_eq_getElem?, List.getElem?_eq_getElem (by omega)]; rfl
  have hii : (i : Int) < (S.length : Int) := by omega
  have hhas : decide (0 ≤ (i : Int) ∧ (i : Int) < (S.length : Int)) = true := by simp; omega
  have hisz : (Try.prog.info? 67).map (·.size) = some ((lastOf S[i]).map bv).toArray.size := by rw [size_ver]; simp [hv64]
  have hsz : (Array.replicate 64 (Value.int .u8 0)).size = ((lastOf S[i]).map bv).toArray.size := by simp [hv64]
  have h1 : ((lastOf S[i]).map bv).toArray.all (·.oneCell') = true := all_oneCell_toArray (bvs_one _)
  go_enter Try.func18, Try.ntmps18
  go_wp2_with fail
  refine (has_v h (i : Int)).mono ?_
  rintro e w2 ⟨rfl, rfl⟩
  rw [hhas]
  go_wp2_with fail
  refine (now_any gc (o + i * 65) S[i] _ _ w hc (lastOf S[i]) hlast hsm).mono ?_
  rintro e w2 ⟨rfl, hb2⟩
  go_wp2_with (refine wpList_store_new rfl 67 _ _ rfl _ _ rfl rfl hisz hsz h1 ?_)
  go_ret2
  exact ⟨w2.heap.size, rfl, hb2.alloc hb2.size _, Blk.new _ _ _, hb2.size⟩
theorem readBad_v {w : World} {L g gc o K : Nat} {S : Sec} {B : Nat → Option Addr} {C : Nat → Nat} (h : View w L g gc o K S B C) (i : Int) (hi : ¬ (0 ≤ i ∧ i < (S.length : Int))) :
    Calls Try.prog 18 #[.pointer (some ⟨g, 0, none⟩), .int .i64 i] w fun e w' => e = .returned (.tuple #[.slice none 0 0, .int .i64 1]) ∧ w = w' := by
  have hhas : decide (0 ≤ i ∧ i < (S.length : Int)) = false := by simp only [decide_eq_false_iff_not]; exact hi
  go_enter Try.func18, Try.ntmps18
  go_wp2_with fail
  refine (has_v h i).mono ?_
  rintro e w2 ⟨rfl, rfl⟩
  rw [hhas]
  go_wp2
  go_ret2
  exact ⟨rfl, rfl⟩
end Go.Proofs.Ythicjnnlbnjjmaa
