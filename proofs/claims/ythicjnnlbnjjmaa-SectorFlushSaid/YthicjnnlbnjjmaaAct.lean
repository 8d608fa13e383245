/-
  The contract of the laws' helper act. No statement of the seat is proved here.
-/
import Derived.Test.YthicjnnlbnjjmaaTwo
import Derived.Test.YthicjnnlbnjjmaaLong
namespace Go.Proofs.Ythicjnnlbnjjmaa
open Go Go.RowKit

/-- what is left behind an act -/
def After (W w' : World) (gd gx : Nat) (N n : Nat) : Prop := ∃ S' l', Two W w' (fun _ => False) gd gx S' l' S' l' ∧ Small N S' ∧ S'.length = n

set_option maxRecDepth 100000 in
set_option maxHeartbeats 4000000 in
theorem act_any {W w : World} {gd gx : Nat} {S : Sec} {l : Int} {N : Nat} (hT : Two W w (fun _ => False) gd gx S l S l) (hb : Below W.heap.size W w) (hs : Small N S) (hN : N ≤ 999998) (a : ActD) (hok : a.ok) (B : Option Addr) (cB : Nat) (P : Option Addr) (cP : Nat) (hB : Rd W B (a.bs.map bv)) (hP : Rd W P (a.ps.map iv)) (hne : 1 ≤ N) :
    Calls Try.prog 13 #[.pointer (some ⟨gd, 0, none⟩), .pointer (some ⟨gx, 0, none⟩), .agg #[.int .i64 a.kind, .int .i64 a.i, .slice B a.bs.length cB, .slice P a.ps.length cP]] w fun e w' => e = .returned (.bool true) ∧ After W w' gd gx (N + 1) S.length ∧ Below W.heap.size W w' := by
  obtain ⟨O, hO⟩ : ∃ O, O = Obj.cells #[.int .i64 a.kind, .int .i64 a.i, .slice B a.bs.length cB, .slice P a.ps.length cP] 35 := ⟨_, rfl⟩
  have hT1 := hT.guard O
  have hb1 : Below W.heap.size W (w.alloc O) := hb.alloc hb.size O
  have hblk : ∀ w' : World, Kept (fun k => k = w.heap.size) (w.alloc O) w' → Blk w' w.heap.size 35 #[.int .i64 a.kind, .int .i64 a.i, .slice B a.bs.length cB, .slice P a.ps.length cP] := fun w' hk => (hk _ rfl).trans (by rw [hO]; exact Blk.new w _ _)
  replace hblk := Lib.hid hblk
  have k0 : (w.alloc O).cell? ⟨w.heap.size, 0, none⟩ = some (.int .i64 a.kind) := (hblk.out _ (fun _ _ => rfl)).cell 0
  have k1 : (w.alloc O).cell? ⟨w.heap.size, 1, none⟩ = some (.int .i64 a.i) := (hblk.out _ (fun _ _ => rfl)).cell 1
  have k2 : (w.alloc O).cell? ⟨w.heap.size, 2, none⟩ = some (.slice B a.bs.length cB) := (hblk.out _ (fun _ _ => rfl)).cell 2
  have k3 : (w.alloc O).cell? ⟨w.heap.size, 3, none⟩ = some (.slice P a.ps.length cP) := (hblk.out _ (fun _ _ => rfl)).cell 3
  have hs9 : Small 999999 S := small_mono hs (by omega)
  have hs1 : Small (N + 1) S := small_mono hs (by omega)
  rw [hO] at k0 k1 k2 k3 hT1 hb1 hblk
  clear hO
  by_cases c1 : a.kind = 1
  · rw [c1] at k0 k1 k2
    have hcall := two_write (w := (w.alloc (Obj.cells #[.int .i64 a.kind, .int .i64 a.i, .slice B a.bs.length cB, .slice P a.ps.length cP] 35)).drew) (hT1.ext ⟨rfl, rfl, rfl, Nat.le_refl _, fun _ _ => rfl⟩) (Below.drew' hb1) hs9 a.i B _ cB a.bs rfl hB
    rw [c1] at hcall hblk
    have hw := small_write hs l a.i a.bs
    have hwl := writeS_length S l a.i a.bs
    rw [c1]
    go_enter Try.func13, Try.ntmps13
    go_wp2_with fail
    generalize hcd : writeCode S.length l a.i a.bs = cd at hcall
    have hcall2 : ∀ w2 : World, Two W w2 (fun k => k = w.heap.size) gd gx (writeS S l a.i a.bs) (writeL S.length l a.i a.bs) S l → Below W.heap.size W w2 → Calls Try.prog 24 #[.pointer (some ⟨gx, 0, none⟩), .int .i64 a.i, .slice B a.bs.length cB] w2 fun e w' => e = .returned (.int .i64 cd) ∧ Two W w' (fun k => k = w.heap.size) gd gx (writeS S l a.i a.bs) (writeL S.length l a.i a.bs) (writeS S l a.i a.bs) (writeL S.length l a.i a.bs) ∧ Below W.heap.size W w' ∧ Kept (fun k => k = w.heap.size) w2 w' := by
      intro w2 hT2 hb2
      have h9 := two_rwrite hT2 hb2 hs9 a.i B a.bs.length cB a.bs rfl hB
      rw [hcd] at h9
      exact h9
    go_region_held_law (fun w' => w'.cell? ⟨w.heap.size, 1, none⟩ = some (.int .i64 a.i) ∧ w'.cell? ⟨w.heap.size, 2, none⟩ = some (.slice B a.bs.length cB))
      (first | exact ⟨k1, k2⟩ | exact hS2 | exact hS3)
      (first
        | (go_at_call 22; refine hcall.mono ?_; rintro e w2 ⟨rfl, hT2, hb2, hk2'⟩; have hS2 : w2.cell? ⟨w.heap.size, 1, none⟩ = some (.int .i64 a.i) ∧ w2.cell? ⟨w.heap.size, 2, none⟩ = some (.slice B a.bs.length cB) := ⟨(hblk.out w2 hk2').cell 1, (hblk.out w2 hk2').cell 2⟩)
        | (go_at_call 24; refine (hcall2 _ hT2 hb2).mono ?_; rintro e w3 ⟨rfl, hT3, hb3, hk3'⟩; have hS3 : w3.cell? ⟨w.heap.size, 1, none⟩ = some (.int .i64 a.i) ∧ w3.cell? ⟨w.heap.size, 2, none⟩ = some (.slice B a.bs.length cB) := ⟨(hblk.out w3 (fun k hk => (hk3' k hk).trans (hk2' k hk))).cell 1, (hblk.out w3 (fun k hk => (hk3' k hk).trans (hk2' k hk))).cell 2⟩))
    go_wp2
    go_ret
    exact ⟨rfl, ⟨_, _, hT3.free, hw, hwl⟩, hb3⟩
  · have c1b : (a.kind == 1) = false := by simpa using c1
    by_cases c2 : a.kind = 2
    · rw [c2] at k0 hT1 hb1 hblk
      rw [c2]
      have hw : Small (N + 1) (if l = 0 then S else flushS S) := by
        split
        · exact hs1
        · exact small_flush S (by omega)
      have hwl : (if l = 0 then S else flushS S).length = S.length := by
        split
        · rfl
        · exact flushS_length S
      have hf1 := two_flush hT1 hb1 (small_mono hs (by omega))
      go_enter Try.func13, Try.ntmps13
      go_wp2_with fail
      refine hf1.mono ?_
      rintro e w2 ⟨rfl, hT2, hb2, _⟩
      generalize hfc : flushCode l = cd
      go_wp2_with fail
      refine (two_rflush hT2 hb2 (small_mono hs (by omega))).mono ?_
      rintro e w3 ⟨rfl, hT3, hb3, _⟩
      rw [hfc]
      go_wp2
      go_ret
      exact ⟨rfl, ⟨_, _, hT3.free, hw, hwl⟩, hb3⟩
    · have c2b : (a.kind == 2) = false := by simpa using c2
      by_cases c3 : a.kind = 3
      · rw [c3] at k0 k1 hT1 hb1 hblk
        rw [c3]
        go_enter Try.func13, Try.ntmps13
        go_wp2_with fail
        refine (two_fuse hT1 hb1 a.i hok.i).mono ?_
        rintro e w2 ⟨rfl, hT2, hb2, hk2⟩
        have k1' : w2.cell? ⟨w.heap.size, 1, none⟩ = some (.int .i64 a.i) := (hblk.out w2 hk2).cell 1
        go_wp2_with fail
        refine (two_rfuse hT2 hb2 a.i hok.i).mono ?_
        rintro e w3 ⟨rfl, hT3, hb3, _⟩
        go_wp2
        go_ret
        exact ⟨rfl, ⟨_, _, hT3.free, hs1, rfl⟩, hb3⟩
      · have c3b : (a.kind == 3) = false := by simpa using c3
        by_cases c4 : a.kind = 4
        · rw [c4] at k0 k3 hT1 hb1 hblk
          rw [c4]
          go_enter Try.func13, Try.ntmps13
          go_wp2_with fail
          refine (two_crash hT1 hb1 (small_mono hs (by omega)) P _ cP a.ps rfl hP hok.ps).mono ?_
          rintro e w2 ⟨rfl, hT2, hb2, hk2⟩
          have k3' : w2.cell? ⟨w.heap.size, 3, none⟩ = some (.slice P a.ps.length cP) := (hblk.out w2 hk2).cell 3
          go_wp2_with fail
          refine (two_rcrash hT2 hb2 (small_mono hs (by omega)) P _ cP a.ps rfl hP hok.ps).mono ?_
          rintro e w3 ⟨rfl, hT3, hb3, _⟩
          go_wp2
          go_ret
          exact ⟨rfl, ⟨_, _, hT3.free, small_crash hs1 (by omega) _, crashS_length _ _⟩, hb3⟩
        · have c4b : (a.kind == 4) = false := by simpa using c4
          by_cases c5 : a.kind = 5
          · rw [c5] at k0 k1 hT1 hb1 hblk
            rw [c5]
            obtain ⟨fI, fR, hI, hR, _⟩ := id hT1
            have hrd := read_all hI (small_mono hs (by omega)) a.i
            go_enter Try.func13, Try.ntmps13
            go_wp2_with fail
            refine hrd.mono ?_
            rintro e w2 ⟨hb2, hcase⟩
            have k1' : w2.cell? ⟨w.heap.size, 1, none⟩ = some (.int .i64 a.i) := (World.cell?_of_block (a := ⟨w.heap.size, 1, none⟩) (hb2.block w.heap.size (by rw [World.size_alloc]; omega))).trans k1
            have hrd2 := rread_all (hR.ext hb2) (small_mono hs (by omega)) a.i
            have hT2 := hT1.ext hb2
            have hbb2 := hb1.trans (hb2.mono hb1.size)
            rcases hcase with ⟨k, hk, hik, g', rfl, hkk, _⟩ | ⟨hbad, rfl⟩
            · replace hik := Lib.hid hik
              go_wp2_with fail
              refine hrd2.mono ?_
              rintro e w3 ⟨hb3, hcase⟩
              rcases hcase with ⟨k', hk', hik', g2, c2, rfl, hr2, _⟩ | ⟨hbad, rfl⟩
              · obtain rfl : k = k' := by have := hik.out; omega
                have hl64 : (lastOf S[k]).length = 64 := (hR.wf S[k] (List.getElem_mem hk)).2 _ (lastOf_mem (hR.wf S[k] (List.getElem_mem hk)).1)
                have hr1 : Rd w3 (some ⟨g', 0, none⟩) ((lastOf S[k]).map bv) := (Rd.blk (w := w2) hkk).ext hb3
                have hcv1 := conv_bytes w3 (some ⟨g', 0, none⟩) 64 64 (lastOf S[k]) hl64.symm hr1
                have hcv2 := conv_bytes w3 (some ⟨g2, 0, none⟩) 64 c2 (lastOf S[k]) hl64.symm hr2
                generalize (⟨(lastOf S[k]).toArray⟩ : ByteArray) = Z at hcv1 hcv2
                clear hik hik'
                go_wp2
                go_ret
                exact ⟨rfl, ⟨_, _, (hT2.ext hb3).free, hs1, rfl⟩, hbb2.trans (hb3.mono hbb2.size)⟩
              · exfalso; have := hik.out; omega
            · replace hbad := Lib.hid hbad
              go_wp2_with fail
              refine hrd2.mono ?_
              rintro e w3 ⟨hb3, hcase⟩
              rcases hcase with ⟨k', hk', hik', _⟩ | ⟨_, rfl⟩
              · exfalso; have := hbad.out; omega
              · have hcv1 := conv_bytes w3 none 0 0 [] rfl (Rd.nil _ _)
                generalize (⟨([] : List UInt8).toArray⟩ : ByteArray) = Z at hcv1
                clear hbad
                go_wp2
                go_ret
                exact ⟨rfl, ⟨_, _, (hT2.ext hb3).free, hs1, rfl⟩, hbb2.trans (hb3.mono hbb2.size)⟩
          · have c5b : (a.kind == 5) = false := by simpa using c5
            go_enter Try.func13, Try.ntmps13
            go_wp2
            go_ret
            exact ⟨rfl, ⟨_, _, hT1.free, hs1, rfl⟩, hb1⟩
end Go.Proofs.Ythicjnnlbnjjmaa
