/-
  The contract of the laws' helper disks. No statement of the seat is proved here.
-/
import Derived.Test.YthicjnnlbnjjmaaAct
namespace Go.Proofs.Ythicjnnlbnjjmaa
open Go Go.RowKit

set_option maxRecDepth 100000 in
set_option maxHeartbeats 4000000 in
theorem disks_any {w : World} {fI fR : Nat → Prop} {gd gx gc : Nat} {S : Sec} {l l2 : Int} {B : Nat → Option Addr} {C : Nat → Nat} {A0 : Option Addr} {c0 : Nat} {B0 : Nat → Option Addr} {C0 : Nat → Nat} (hL : Lay w fI gd gc S l B C) (hR : RLay w fR gx S l2 A0 c0 B0 C0) (hs : Small 1000000 S) :
    Calls Try.prog 14 #[.pointer (some ⟨gd, 0, none⟩), .pointer (some ⟨gx, 0, none⟩)] w fun e w' => e = .returned (.bool true) ∧ Below w.heap.size w w' := by
  obtain ⟨Wt, hWt⟩ : ∃ Wt, Wt = waiting S := ⟨_, rfl⟩
  have hWlen : Wt.length ≤ 4096 := by rw [hWt]; exact Nat.le_trans (rk_le _ _) hL.n
  have hn := hL.n
  go_enter Try.func14, Try.ntmps14
  go_wp2_with fail
  refine (waiting_any hL hs).mono ?_
  rintro e w1 ⟨A1, c1, rfl, hrow1, hb1, _⟩
  go_wp2_with fail
  refine (rwaiting_any (hR.ext hb1)).mono ?_
  rintro e w2 ⟨A2, c2, rfl, hrow2, hb2, _⟩
  rw [← hWt] at hrow1 hrow2 ⊢
  replace hWt := Lib.hid hWt
  have hrow1' := hrow1.ext hb2
  have hb12 : Below w.heap.size w w2 := hb1.trans (hb2.mono hb1.size)
  have hL2 := hL.ext hb12
  have hR2 := hR.ext hb12
  have hx0 : w2.cell? ⟨gx, 0, none⟩ = some (.slice A0 S.length c0) := hR2.dsk.cell 0
  have hlen := len_any (hL2.only ((Only.refl (fun _ => False) w2).drew) (fun _ _ x => x))
  go_wp2_with fail
  go_region_held_law (fun w' => w'.cell? ⟨gx, 0, none⟩ = some (.slice A0 S.length c0))
    (first | exact hx0 | assumption)
    (first
      | (go_at_call 23; refine hlen.mono ?_; rintro e w3 ⟨rfl, rfl⟩))
  go_wp2
  go_loopw [7] (fun i wr => ∃ k : Nat, k ≤ Wt.length ∧ i = .int .i64 (k : Int) ∧ Below w2.heap.size w2 wr) (fun i _ => Wt.length - (intOf i).toNat)
  case atStart => exact ⟨0, Nat.zero_le _, rfl, Below.drew' (Below.refl _ _)⟩
  case round =>
    obtain ⟨k, hk, rfl, hbr⟩ := hrel
    by_cases hlt : k < Wt.length
    · have hv : (Wt.map iv')[k]? = some (.int .i64 (Wt[k] : Int)) := by rw [List.getElem?_map, List.getElem?_eq_getElem hlt]; rfl
      obtain ⟨a1, rfl, hc1⟩ := (hrow1'.ext hbr).rd k _ hv
      obtain ⟨a2, rfl, hc2⟩ := (hrow2.ext hbr).rd k _ hv
      have hki : (k : Int) < (Wt.length : Int) := by omega
      clear hv
      go_wp2_with fail
      go_quiet (fail)
      go_wp2
      go_roundw
      case rel => exact ⟨k + 1, by omega, by go_num, ext_drewN hbr _⟩
      case measure => simp [intOf]; omega
    · obtain rfl : k = Wt.length := by omega
      obtain ⟨wo, hwo⟩ : ∃ wo : World, wo = wr := ⟨_, rfl⟩
      subst hwo
      go_wp2
      go_loopw [8, 9, 10, 11, 12] (fun i _ _ _ _ wr => ∃ n : Nat, n ≤ S.length ∧ i = .int .i64 (n : Int) ∧ Below w2.heap.size w2 wr) (fun i _ _ _ _ _ => S.length - (intOf i).toNat)
      case atStart => exact ⟨0, Nat.zero_le _, rfl, hbr⟩
      case round =>
        clear hbr
        obtain ⟨n, hnn, rfl, hbr⟩ := hrel
        have hxr : wr.cell? ⟨gx, 0, none⟩ = some (.slice A0 S.length c0) := (hR2.ext hbr).dsk.cell 0
        by_cases hlt : n < S.length
        · have hni : (n : Int) < (S.length : Int) := by omega
          have hr1 := read_ok (hL2.ext hbr) hs n hlt
          go_wp2_with fail
          refine hr1.mono ?_
          rintro e w5 ⟨g', rfl, hb5, hk5, _⟩
          have hbr5 := hbr.trans (hb5.mono hbr.size)
          have hr2 := rread_ok (hR2.ext hbr5) hs n hlt
          go_wp2_with fail
          refine hr2.mono ?_
          rintro e w6 ⟨g2, c2', rfl, hb6, hrd6, _⟩
          have hl64 : (lastOf S[n]).length = 64 := (hR2.wf S[n] (List.getElem_mem hlt)).2 _ (lastOf_mem (hR2.wf S[n] (List.getElem_mem hlt)).1)
          have hrd5 : Rd w6 (some ⟨g', 0, none⟩) ((lastOf S[n]).map bv) := (Rd.blk (w := w5) hk5).ext hb6
          have hcv1 := conv_bytes w6 (some ⟨g', 0, none⟩) 64 64 (lastOf S[n]) hl64.symm hrd5
          have hcv2 := conv_bytes w6 (some ⟨g2, 0, none⟩) 64 c2' (lastOf S[n]) hl64.symm hrd6
          generalize (⟨(lastOf S[n]).toArray⟩ : ByteArray) = Z at hcv1 hcv2
          clear hr1 hr2 hrd5 hrd6 hk5
          go_wp2
          go_roundw
          case rel => exact ⟨n + 1, by omega, by go_num, hbr5.trans (hb6.mono hbr5.size)⟩
          case measure => simp [intOf]; omega
        · obtain rfl : n = S.length := by omega
          go_wp2
          go_ret
          exact ⟨rfl, hb12.trans (hbr.mono hb12.size)⟩
end Go.Proofs.Ythicjnnlbnjjmaa
