/-
  The contract of the laws' helper begin. No statement of the seat is proved here.
-/
import Derived.Test.YtlpjeopeboemmaaDoorRSup
import Derived.Test.YtlpjeopeboemmaaDoorOwn
namespace Go.Proofs.YtlpjeopeboemmaaDoor
open Go Go.RowKit

/-- what lies behind begin: both Supers over their disks, and the pair that holds them -/
def Begun (W w : World) (gp gd gx g gy : Nat) (s : SupS) : Prop :=
  Blk w gp 32 #[.pointer (some ⟨gd, 0, none⟩), .pointer (some ⟨gx, 0, none⟩), .pointer (some ⟨g, 0, none⟩), .pointer (some ⟨gy, 0, none⟩)] ∧ Born W w gp ∧
  ∃ fI fR, Sup w fI g gd s ∧ RSup w fR gy gx s ∧ (∀ k, fI k → fR k → False) ∧ (∀ k, fI k → Born W w k ∧ k ≠ gp) ∧ (∀ k, fR k → Born W w k ∧ k ≠ gp)

theorem Begun.own {W w : World} {gp gd gx g gy : Nat} {s : SupS} (h : Begun W w gp gd gx g gy s) (hb : Below W.heap.size W w) (ht : Tab W) : OwnG W w (fun k => k = gp) g gd s := by
  obtain ⟨-, h1, fI, fR, h2, -, -, h3, -⟩ := h
  exact ⟨SupAt.mono h2 (fun k hk _ => h3 k hk), fun k e => by subst e; exact h1, hb, ht⟩

theorem zero_ne (n : Nat) : ∀ vs ∈ zeroS n, vs ≠ [] := fun vs hv e => by
  rw [List.eq_of_mem_replicate hv] at e
  cases e

set_option maxRecDepth 100000 in
set_option maxHeartbeats 2000000 in
theorem begin_any (n : Nat) (h32 : 32 ≤ n) (hn : n ≤ 4096) (W wr : World) (ht : Tab W) (hb : Below W.heap.size W wr) (B : Option Addr) (m d : Nat) (bs : List UInt8) (hB : Bs W B m d bs) (hbl : bs.length ≤ 814) :
    Calls Tryd.prog 12 #[.int .i64 (n : Int), .slice B m d] wr fun e w' => ∃ gp gd gx g gy s, e = .returned (.pointer (some ⟨gp, 0, none⟩)) ∧ Begun W w' gp gd gx g gy s ∧ Below W.heap.size W w' ∧
      Alive s ∧ s.img = bs ∧ s.N = 1 ∧ s.slot = 0 ∧ s.l = -1 ∧ s.S.length = n ∧ slotD (lasts s.S) 0 = packOf 1 bs ∧ unpackS (slotD (lasts s.S) 1) = (0, []) := by
  have hm := hB.1
  subst hm
  have hzl : (zeroS n).length = n := by simp [zeroS]
  have hz32 : 32 ≤ (zeroS n).length := by rw [hzl]; exact h32
  obtain ⟨c1, s, c2, r1, r2, r3, r4, r5, r6, r7, r8⟩ := format_sem hz32 (zero_ne n) bs hbl
  rw [hzl] at r6
  have hsm : Small 800000 (zeroS n) := small_mono (small_zero n) (by omega)
  have hnew := new_step n wr wr (Below.refl _ _) (by omega) (by omega)
  have hz0 := hb.size
  have htl := ht.block_lt
  have hBn : ∀ ad, B = some ad → bs ≠ [] → ad.block < W.heap.size := fun ad e hne => by
    rcases Nat.lt_or_ge ad.block W.heap.size with hh | hh
    · exact hh
    · obtain ⟨b0, br, rfl⟩ : ∃ b0 br, bs = b0 :: br := by
        cases bs with
        | nil => exact absurd rfl hne
        | cons x y => exact ⟨x, y, rfl⟩
      obtain ⟨ad', e', hc⟩ := hB.2.2 0 _ rfl
      rw [e] at e'
      injection e' with e'
      subst e'
      have hb' := World.block_lt_of_cell? W _ hc
      rw [block_add] at hb'
      exact hb'
  have hfm : ∀ (w1 w2 : World) (gd : Nat), Below wr.heap.size wr w1 → Below w1.heap.size w1 w2 → Imp w1 (Born wr w1) gd (zeroS n) (-1) →
      Calls Tryd.prog 30 #[.pointer (some ⟨gd, 0, none⟩), .slice B bs.length d] w2 (Formatted w2 (Born wr w1) gd s) := fun w1 w2 gd hb1 hb2 hI => by
    have hbb : Below W.heap.size W w2 := ext_trans (ext_trans hb hb1) hb2
    have hf := format_any (ht.ext hbb) (fun hk => by have := hk.1; omega) (hI.ext hb2) hsm hz32 B _ d bs ⟨rfl, hB.2.1, hB.2.2.ext hbb⟩ (fun ad e hne hk => by have := hBn ad e hne; have := hk.1; omega) hbl c1 (by rw [c2])
    rw [c2] at hf
    exact hf
  have hrfm : ∀ (w1 w2 w3 : World) (gx : Nat), W.heap.size ≤ w1.heap.size → Below W.heap.size W w3 → Ref w3 (Born w1 w2) gx (zeroS n) (-1) →
      Calls Tryd.prog 32 #[.pointer (some ⟨gx, 0, none⟩), .slice B bs.length d] w3 fun e w' =>
      ∃ g, e = .returned (.tuple #[.pointer (some ⟨g, 0, none⟩), .int .i64 0]) ∧ w3.heap.size ≤ g ∧ RSup w' (More (Born w1 w2) w3 w') g gx s ∧ Only (Born w1 w2) w3 w' := fun w1 w2 w3 gx hz1 hb3 hR => by
    have hf := rformat_any hR hsm hz32 B _ d bs ⟨rfl, hB.2.1, hB.2.2.ext hb3⟩ (fun ad e hne hk => by have := hBn ad e hne; have := hk.1; omega) hbl c1 (by rw [c2])
    rw [c2] at hf
    exact hf
  have Hfm := Lib.hid hfm
  have Hrfm := Lib.hid hrfm
  have Hnew := Lib.hid hnew
  clear hfm hrfm hnew c1 c2 hBn hsm hz32 hzl
  generalize hZ : zeroS n = Z at *
  go_enter Tryd.func12, Tryd.ntmps12
  go_wp2_with fail
  refine Hnew.out.mono ?_
  rintro e w1 ⟨gd, rfl, hI1, hb1⟩
  go_wp2_with fail
  refine (rnew_ok n w1 w1 (Below.refl _ _) (by omega) (by omega)).mono ?_
  rintro e w2 ⟨gx, rfl, hb2, hR2, hgx⟩
  rw [hZ] at hR2
  go_wp2_with fail
  refine (Hfm.out w1 w2 gd hb1 hb2 hI1).mono ?_
  rintro e w3 ⟨g, rfl, hg3, hS3, ho3⟩
  have z1 := hb1.size
  have z2 := hb2.size
  have z3 := ho3.size
  have hbel3 : Below W.heap.size W w3 := (ext_trans (ext_trans hb hb1) hb2).trans (ho3.below (fun _ hk => by have := hk.1; omega) (by omega))
  have hR3 : Ref w3 (Born w1 w2) gx Z (-1) := hR2.only ho3 (fun k hk hk' => by have := hk.1; have := hk'.2; omega)
  go_wp2_with fail
  refine (Hrfm.out w1 w2 w3 gx (by omega) hbel3 hR3).mono ?_
  rintro e w4 ⟨gy, rfl, hg4, hS4, ho4⟩
  have z4 := ho4.size
  have hbel4 : Below W.heap.size W w4 := hbel3.trans (ho4.below (fun _ hk => by have := hk.1; omega) (by omega))
  have hS3' : Sup w4 (More (Born wr w1) w2 w3) g gd s := SupAt.only hS3 ho4 (fun k hk hk' => by
    have h1 := hk'.1
    have h2 := hk'.2
    rcases hk with hk | hk
    · have := hk.2; omega
    · have := hk.1; omega)
  have hfin : ∀ o, o = Obj.cells #[.pointer (some ⟨gd, 0, none⟩), .pointer (some ⟨gx, 0, none⟩), .pointer (some ⟨g, 0, none⟩), .pointer (some ⟨gy, 0, none⟩)] 32 → Begun W (w4.alloc o) w4.heap.size gd gx g gy s ∧ Below W.heap.size W (w4.alloc o) := by
    rintro o rfl
    have hba := ext_alloc (Below.refl w4.heap.size w4) (.cells #[.pointer (some ⟨gd, 0, none⟩), .pointer (some ⟨gx, 0, none⟩), .pointer (some ⟨g, 0, none⟩), .pointer (some ⟨gy, 0, none⟩)] 32)
    refine ⟨⟨Blk.new w4 _ _, ⟨by omega, by rw [World.size_alloc]; omega⟩, More (Born wr w1) w2 w3, More (Born w1 w2) w3 w4, SupAt.ext hS3' hba, hS4.ext hba, fun k h1 h2 => ?_, fun k hk => ?_, fun k hk => ?_⟩, ext_trans hbel4 hba⟩
    · rcases h1 with h1 | h1 <;> rcases h2 with h2 | h2 <;> have := h1.1 <;> have := h1.2 <;> have := h2.1 <;> have := h2.2 <;> omega
    · rcases hk with hk | hk <;> have := hk.1 <;> have := hk.2 <;> exact ⟨⟨by omega, by rw [World.size_alloc]; omega⟩, by omega⟩
    · rcases hk with hk | hk <;> have := hk.1 <;> have := hk.2 <;> exact ⟨⟨by omega, by rw [World.size_alloc]; omega⟩, by omega⟩
  obtain ⟨f1, f2⟩ := hfin _ rfl
  have Hf1 := Lib.hid f1
  have Hf2 := Lib.hid f2
  have HR := Lib.hid (show _ ∧ _ ∧ _ ∧ _ ∧ _ ∧ _ ∧ _ ∧ _ from ⟨r1, r2, r3, r4, r5, r6, r7, r8⟩)
  clear hfin f1 f2 hS3 hS3' hS4 hR2 hR3 hI1 ho3 ho4 hb1 hb2 Hfm Hrfm Hnew r1 r2 r3 r4 r5 r6 r7 r8
  go_wp2
  go_ret
  exact ⟨_, gd, gx, g, gy, s, rfl, Hf1.out, Hf2.out, HR.out⟩
end Go.Proofs.YtlpjeopeboemmaaDoor
