/-
  The methods of a Super in a law's own words; the contract of the laws' helper known. No statement of the seat is proved here.
-/
import Derived.Test.YtlpjeopeboemmaaDoorSem3
import Derived.Lib.SlBytesConst
namespace Go.Proofs.YtlpjeopeboemmaaDoor
open Go Go.RowKit

theorem Tab.block_lt {W : World} (ht : Tab W) : 0 < W.heap.size := World.block_lt_of_cell? W _ (ht 0 (by omega))
theorem Tab.born {W w : World} (ht : Tab W) : ¬ Born W w 0 := fun h => by have := ht.block_lt; have := h.1; omega
/-- a Super of the law's own -/
structure Own3 (W w : World) (g gd : Nat) (s : SupS) : Prop where
  sup : Sup w (Born W w) g gd s
  bel : Below W.heap.size W w
  tab : Tab W
theorem Own3.tb {W w : World} {g gd : Nat} {s : SupS} (h : Own3 W w g gd s) : Tab w := h.tab.ext h.bel
theorem sup_born {W w w' : World} {g gd : Nat} {s : SupS} (hb : Below W.heap.size W w) (h : Sup w' (More (Born W w) w w') g gd s) (ho : w.heap.size ≤ w'.heap.size) : Sup w' (Born W w') g gd s :=
  SupAt.mono h fun k hk _ => by
    rcases hk with hk | hk
    · exact ⟨hk.1, by have := hk.2; omega⟩
    · exact ⟨by have := hb.size; omega, hk.2⟩
theorem Own3.ext {W w w' : World} {g gd : Nat} {s : SupS} (h : Own3 W w g gd s) (hb : Below w.heap.size w w') : Own3 W w' g gd s :=
  ⟨(SupAt.ext h.sup hb).mono (fun k hk _ => ⟨hk.1, by have := hk.2; have := hb.size; omega⟩), ext_trans h.bel hb, h.tab⟩
theorem Own3.drew {W w : World} {g gd : Nat} {s : SupS} (h : Own3 W w g gd s) : Own3 W w.drew g gd s := h.ext (ext_drew (Below.refl _ _))
theorem Own3.imp {W w : World} {g gd : Nat} {s : SupS} (h : Own3 W w g gd s) : Imp w (Born W w) gd s.S s.l := SupAt.impd h.sup

theorem step_commit {W w : World} {g gd : Nat} {s : SupS} (h : Own3 W w g gd s) (hs : Small 900000 s.S) (B : Option Addr) (m d : Nat) (bs : List UInt8) (hB : Bs w B m d bs) (hbl : bs.length ≤ maxLen) :
    Calls Tryd.prog 19 #[.pointer (some ⟨g, 0, none⟩), .slice B m d] w fun e w' => e = .returned (.int .i64 (commitS s bs).1) ∧ Own3 W w' g gd (commitS s bs).2 := by
  refine (commit_any h.tb h.sup hs B m d bs hB hbl).mono ?_
  rintro e w' ⟨rfl, h1, h2⟩
  exact ⟨rfl, sup_born h.bel h1 h2.size, h.bel.trans (Born.below h2 h.bel.size), h.tab⟩
theorem step_image {W w : World} {g gd : Nat} {s : SupS} (h : Own3 W w g gd s) :
    Calls Tryd.prog 15 #[.pointer (some ⟨g, 0, none⟩)] w fun e w' => ∃ A c, e = .returned (.slice A s.img.length c) ∧ Bs w' A s.img.length c s.img ∧ Own3 W w' g gd s ∧ Below w.heap.size w w' := by
  refine (image_any h.sup).mono ?_
  rintro e w' ⟨A, c, rfl, hn, hb⟩
  exact ⟨A, c, rfl, hn.bs, h.ext hb, hb⟩
theorem step_open {W w : World} {gd : Nat} {S : Sec} {l : Int} (hI : Imp w (Born W w) gd S l) (hb : Below W.heap.size W w) (ht : Tab W) (hs : Small 1000000 S) (h32 : 32 ≤ S.length) {img : List UInt8} {N slot : Nat} (hT : Tells (lasts S) img N slot) :
    Calls Tryd.prog 22 #[.pointer (some ⟨gd, 0, none⟩)] w fun e w' => ∃ g, e = .returned (.tuple #[.pointer (some ⟨g, 0, none⟩), .int .i64 0]) ∧ Own3 W w' g gd ⟨S, l, img, N, slot, false⟩ ∧ Below w.heap.size w w' := by
  refine (open_any (ht.ext hb) hI hs h32).mono ?_
  rintro e w' ⟨h1, h2⟩
  obtain ⟨t1, t2, t3⟩ := hT
  rw [tell_lasts, most_lasts] at h2
  rcases h2 with ⟨h2, _⟩ | ⟨_, g, rfl, _, h3⟩
  · omega
  · rw [t2, t3] at h3
    exact ⟨g, rfl, ⟨sup_born hb h3 h1.size, ext_trans hb h1, ht⟩, h1⟩
theorem step_open_none {W w : World} {gd : Nat} {S : Sec} {l : Int} (hI : Imp w (Born W w) gd S l) (hb : Below W.heap.size W w) (ht : Tab W) (hs : Small 1000000 S) (h32 : 32 ≤ S.length) (hT : (tellD (lasts S)).1 = 0) :
    Calls Tryd.prog 22 #[.pointer (some ⟨gd, 0, none⟩)] w fun e w' => e = .returned (.tuple #[.pointer none, .int .i64 2]) ∧ Below w.heap.size w w' := by
  refine (open_any (ht.ext hb) hI hs h32).mono ?_
  rintro e w' ⟨h1, h2⟩
  rw [tell_lasts] at h2
  rcases h2 with ⟨_, h2⟩ | ⟨h2, _⟩
  · exact ⟨h2, h1⟩
  · omega
/-- Format of a disk of the law's own, without a fuse -/
theorem step_format {W w : World} {gd : Nat} {S : Sec} (hI : Imp w (Born W w) gd S (-1)) (hb : Below W.heap.size W w) (ht : Tab W) (hs : Small 800000 S) (h32 : 32 ≤ S.length) {w1 : World} (h1 : Below w.heap.size w w1) (B : Option Addr) (m d : Nat) (bs : List UInt8) (hB : Bs w1 B m d bs) (hBf : ∀ ad, B = some ad → bs ≠ [] → ¬ Born W w ad.block) (hbl : bs.length ≤ 814) :
    Calls Tryd.prog 30 #[.pointer (some ⟨gd, 0, none⟩), .slice B m d] w1 fun e w' => ∃ g s, e = .returned (.tuple #[.pointer (some ⟨g, 0, none⟩), .int .i64 0]) ∧ Own3 W w' g gd s ∧ Alive s ∧ s.img = bs ∧ s.N = 1 ∧ s.slot = 0 ∧ s.l = -1 ∧ s.S.length = S.length ∧ slotD (lasts s.S) 0 = packOf 1 bs ∧ unpackS (slotD (lasts s.S) 1) = (0, []) := by
  obtain ⟨c1, s, c2, r⟩ := format_sem h32 (fun vs hv => (hI.wf vs hv).1) bs hbl
  have hf := format_any (fp := Born W w) (ht.ext (ext_trans hb h1)) ht.born (hI.ext h1) hs h32 B m d bs hB hBf hbl c1 (by rw [c2])
  rw [c2] at hf
  refine hf.mono ?_
  rintro e w' ⟨g, rfl, _, h3, h4⟩
  have hz := hb.size
  have hz1 := h1.size
  refine ⟨g, s, rfl, ⟨?_, (ext_trans hb h1).trans (h4.below (fun _ hk => hk.1) (by omega)), ht⟩, r⟩
  exact SupAt.mono h3 fun k hk _ => by
    have := h4.size
    rcases hk with hk | hk
    · exact ⟨hk.1, by have := hk.2; omega⟩
    · exact ⟨by omega, hk.2⟩

theorem Bs.lit1 {W : World} (v : UInt8) {fr : Nat × Nat} {g : Nat} (hg : g = W.heap.size) : Bs (W.alloc (.cells #[.int .u8 (v.toNat : Int)] 5 fr)) (some ⟨g, 0, none⟩) 1 1 [v] :=
  ⟨rfl, Nat.le_refl _, by
    have := Rd.lit_at W #[.int .u8 (v.toNat : Int)] 5 (fr := fr) hg
    exact this⟩
theorem Alive.small {s : SupS} (h : Alive s) (N : Nat) (hN : 1 ≤ N) : Small N s.S := small_mono (single_small h.one) hN

set_option maxRecDepth 100000 in
set_option maxHeartbeats 2000000 in
theorem known_any (w : World) (ht : Tab w) : Calls Tryd.prog 18 #[] w fun e w' => e = .returned (.bool true) ∧ Below w.heap.size w w' := by
  have kc := fun (w : World) (C : Array Value) (n c : Nat) => Lib.run_convert_bytes_const (P := Tryd.prog) w 22 5 C n c Tryd.underlying22 Tryd.underlying5
  have hnew := new_step 32 w w (Below.refl _ _) (by omega) (by omega)
  have Hnew := Lib.hid hnew
  clear hnew
  go_enter Tryd.func18, Tryd.ntmps18
  go_wp2_with fail
  refine Hnew.out.mono ?_
  rintro e w1 ⟨gd, rfl, hI1, hb1⟩
  go_wp2_with fail
  refine (step_format hI1 hb1 ht (small_mono (small_zero 32) (by omega)) (by simp [zeroS]) (ext_alloc (Below.refl _ _) (.cells #[.int .u8 97] 5 (1, 2))) (some ⟨w1.heap.size, 0, none⟩) 1 1 [97] (Bs.lit1 97 rfl) (fun ad e _ hk => by injection e with e; subst e; exact Nat.lt_irrefl _ hk.2) (by decide)).mono ?_
  rintro e w2 ⟨g, s, rfl, hO, hA, hi, hN, -, hl, hlen, -, -⟩
  rcases commit_sem hA [98] (by decide) (by omega) with ⟨s2, e2, hA2, hi2, hN2, hl2, -⟩ | ⟨h0, _⟩
  case inr => omega
  have hcm := step_commit (hO.ext (ext_alloc (Below.refl _ _) (.cells #[.int .u8 98] 5 (1, 2)))) (hA.small _ (by omega)) (some ⟨w2.heap.size, 0, none⟩) 1 1 [98] (Bs.lit1 98 rfl) (by decide)
  rw [e2] at hcm
  have Hcm := Lib.hid hcm
  clear hcm
  go_wp2_with fail
  refine Hcm.out.mono ?_
  rintro e w3 ⟨rfl, hO3⟩
  have hop := step_open hO3.imp hO3.bel ht (hA2.small _ (by omega)) hA2.len hA2.tells
  have Hop := Lib.hid hop
  clear hop
  go_wp2_with fail
  refine Hop.out.mono ?_
  rintro e w4 ⟨g4, rfl, hO4, hb4⟩
  rw [hi2, show s2.N = 2 by omega] at hO4
  go_wp2_with fail
  refine (step_image hO4).mono ?_
  rintro e w5 ⟨A5, c5, rfl, hB5, hO5, hb5⟩
  have hcv := conv_bytes w5 A5 1 c5 [98] rfl hB5.2.2
  have hone : ([98] : List UInt8).length = 1 := rfl
  go_wp2_with fail
  refine (number_of hO5.sup).mono ?_
  rintro e w6 ⟨rfl, rfl⟩
  go_wp2
  go_ret
  exact ⟨rfl, hO5.bel⟩
end Go.Proofs.YtlpjeopeboemmaaDoor
