/-
  (DRAFT) SuperLasts: behind any crashes what is opened is the image of the last commit that was answered OK, or of one that was under way.
-/
import Derived.Test.YtlpjeopeboemmaaDoorAll5
namespace Go.Proofs.YtlpjeopeboemmaaDoor.SuperLasts
open Go Go.ChangeShapes Go.WideShapes Go.ChangeAt Go.RowKit

/-- it lives and tells 'nb'; or a commit was cut short, and 'nb' or 'xb' will be told -/
def Last (s : SupS) (nb xb : List UInt8) : Prop := (Alive s ∧ s.img = nb ∧ xb = nb) ∨ ∃ bs N, Cut s bs N ∧ s.img = nb ∧ (bs = xb ∨ bs = nb)
theorem Last.small {s : SupS} {nb xb : List UInt8} (h : Last s nb xb) : Small 900000 s.S := by
  rcases h with ⟨h, _⟩ | ⟨_, _, h, _⟩
  · exact h.small _ (by omega)
  · exact small_mono h.small (by omega)
theorem Last.fuse {s : SupS} {nb xb : List UInt8} (h : Last s nb xb) (n : Int) : Last { s with l := max n (-1) } nb xb := by
  rcases h with ⟨h, h2, h3⟩ | ⟨bs, N, h, h2, h3⟩
  · exact .inl ⟨h.fuse n, h2, h3⟩
  · exact .inr ⟨bs, N, h.fuse n, h2, h3⟩
theorem Last.crash {s : SupS} {nb xb : List UInt8} (h : Last s nb xb) (ps : List Int) : ∃ M k img, (img = nb ∨ img = xb) ∧ Alive ⟨crashS s.S ps, -1, img, M, k, false⟩ := by
  rcases h with ⟨h, h2, h3⟩ | ⟨bs, N, h, h2, h3⟩
  · exact ⟨s.N, s.slot, s.img, .inl h2, h.crash ps⟩
  · obtain ⟨M, k, img, _, h4, h5⟩ := h.crash ps
    refine ⟨M, k, img, ?_, h5⟩
    rcases h4 with rfl | rfl
    · exact .inl h2
    · rcases h3 with rfl | rfl
      · exact .inr rfl
      · exact .inl rfl
theorem Last.commit {s : SupS} {nb xb : List UInt8} (h : Last s nb xb) (hN : s.N ≤ 1125899906842624) (bs : List UInt8) : ∃ cd s', commitS s bs = (cd, s') ∧
    ((cd = 0 ∧ Last s' bs bs) ∨ (cd = 6 ∧ xb = nb ∧ Last s' nb bs) ∨ (cd = 6 ∧ xb ≠ nb ∧ Last s' nb xb) ∨ (cd = 3 ∧ Last s' nb xb)) := by
  rcases h with ⟨h, h2, h3⟩ | ⟨b0, N, h, h2, h3⟩
  · by_cases hc : 814 < bs.length ∨ s.N = 1125899906842624
    · exact ⟨3, s, commit_refused h.dead bs hc, .inr (.inr (.inr ⟨rfl, .inl ⟨h, h2, h3⟩⟩))⟩
    · rcases commit_sem h bs (by omega) (by omega) with ⟨s', e, hA, hi, _⟩ | ⟨_, s', e, hC, hi, _⟩
      · exact ⟨0, s', e, .inl ⟨rfl, .inl ⟨hA, hi, rfl⟩⟩⟩
      · exact ⟨6, s', e, .inr (.inl ⟨rfl, h3, .inr ⟨bs, _, hC, by rw [hi, h2], .inl rfl⟩⟩)⟩
  · by_cases hx : xb = nb
    · refine ⟨6, s, commit_dead h.dead bs, .inr (.inl ⟨rfl, hx, .inr ⟨b0, N, h, h2, .inr ?_⟩⟩)⟩
      rcases h3 with rfl | rfl
      · exact hx
      · rfl
    · exact ⟨6, s, commit_dead h.dead bs, .inr (.inr (.inl ⟨rfl, hx, .inr ⟨b0, N, h, h2, h3⟩⟩))⟩
theorem ownN {W w : World} {G : Nat → Prop} {g gd : Nat} {s : SupS} (h : OwnG W w G g gd s) : s.N ≤ 1125899906842624 := by
  obtain ⟨_, _, _, hp⟩ := h.sup
  exact hp.hN
theorem ne_list {xs ys : List UInt8} (h : xs ≠ ys) : ((⟨xs.toArray⟩ : ByteArray).toList == (⟨ys.toArray⟩ : ByteArray).toList) = false := by
  rw [ByteArray.toList_mk, ByteArray.toList_mk]
  simpa using h
theorem g_conv {w : World} {A : Option Addr} {n c : Nat} {xs : List UInt8} (h : Bs w A n c xs) : (convert 22 9 (.slice A n c)).run Tryd.prog w = .ok (.string ⟨xs.toArray⟩) w := conv_bytes w A n c xs h.1 h.2.2

set_option maxRecDepth 100000 in
set_option maxHeartbeats 8000000 in
theorem walk (I : Option Addr) (q d : Nat) (im : List UInt8) (A : Option Addr) (m c : Nat) (acs : List ActD) (W : World) (ht : Tab W) (hI : Bs W I q d im) (hdm : d ≤ maxLen) (hm : m = acs.length) (hl : acs.length ≤ maxLen) (h : Acts W A acs) :
    Calls Tryd.prog 4 #[.slice I q d, .slice A m c] W fun e w' => e = .returned (.bool true) ∧ Below W.heap.size W w' := by
  subst hm
  have hq := hI.1
  subst hq
  have hlong := long_any W A acs.length c acs rfl hl h
  have hcap := hI.2.1
  unfold maxLen at hdm
  by_cases hbig : 814 < im.length
  · have hbi : (814 : Int) < (im.length : Int) := by omega
    go_enter Tryd.func4, Tryd.ntmps4
    go_wp2_with fail
    refine hlong.mono ?_
    rintro e w1 ⟨b, rfl, hb1⟩
    cases b
    all_goals
      go_wp2
      go_ret
      exact ⟨rfl, hb1⟩
  have hbi : ¬ (814 : Int) < (im.length : Int) := by omega
  go_enter Tryd.func4, Tryd.ntmps4
  go_wp2_with fail
  refine hlong.mono ?_
  rintro e w1 ⟨b, rfl, hb1⟩
  cases b
  · have hbeg := begin_any 32 (by omega) (by omega) W w1 ht hb1 I _ d im hI (by omega)
    have Hbeg := Lib.hid hbeg
    clear hbeg hlong
    go_wp2_with fail
    refine Hbeg.out.mono ?_
    rintro e w2 ⟨gp, gd, gx, g, gy, s, rfl, hB, hb2, hA, him, -⟩
    have hO := hB.own hb2 ht
    have hblk : Blk w2 gp 32 #[.pointer (some ⟨gd, 0, none⟩), .pointer (some ⟨gx, 0, none⟩), .pointer (some ⟨g, 0, none⟩), .pointer (some ⟨gy, 0, none⟩)] := hB.1
    have hst : Last s im im := .inl ⟨hA, him, rfl⟩
    have hcv := fun q => g_conv ((hI.ext hb2).drewN q)
    clear hB Hbeg hA
    go_wp2_with fail
    go_quiet (fail)
    go_wp2
    go_loopw [6, 7, 8, 9, 10, 11, 90, 129] (fun nw nx i _ _ _ _ _ wr => ∃ (k g : Nat) (s : SupS) (nb xb : List UInt8), k ≤ acs.length ∧ k ≤ 30 ∧ i = .int .i64 (k : Int) ∧ nw = .string ⟨nb.toArray⟩ ∧ nx = .string ⟨xb.toArray⟩ ∧ Blk wr gp 32 #[.pointer (some ⟨gd, 0, none⟩), .pointer (some ⟨gx, 0, none⟩), .pointer (some ⟨g, 0, none⟩), .pointer (some ⟨gy, 0, none⟩)] ∧ OwnG W wr (fun k => k = gp) g gd s ∧ Last s nb xb) (fun _ _ i _ _ _ _ _ _ => acs.length - (intOf i).toNat)
    case atStart => exact ⟨0, g, s, im, im, Nat.zero_le _, Nat.zero_le _, rfl, rfl, rfl, hblk.ext (ext_drewN (Below.refl _ _) _), hO.ext (ext_drewN (Below.refl _ _) _), hst⟩
    case round =>
      clear hblk hO hst hb2 hb1 hcv
      obtain ⟨k, g, s, nb, xb, hk, hk30, rfl, rfl, rfl, hblk, hO, hst⟩ := hrel
      by_cases hlt : k < acs.length
      · by_cases hlt6 : k < 30
        · obtain ⟨b, o, B, cB, P, cP, rfl, h0, h1, h2, h3, r4, r5, hok⟩ := h.at0 hO.bel hlt
          have hki : (k : Int) < (acs.length : Int) := by omega
          have hki6 : (k : Int) < 30 := by omega
          have p2 : wr.cell? ⟨gp, 2, none⟩ = some (.pointer (some ⟨g, 0, none⟩)) := hblk.cell 2
          have p0 : wr.cell? ⟨gp, 0, none⟩ = some (.pointer (some ⟨gd, 0, none⟩)) := hblk.cell 0
          have hNb := ownN hO
          have hkeep : ∀ w', Only (fun k => ¬ k = gp) wr.drew w' → Blk w' gp 32 #[.pointer (some ⟨gd, 0, none⟩), .pointer (some ⟨gx, 0, none⟩), .pointer (some ⟨g, 0, none⟩), .pointer (some ⟨gy, 0, none⟩)] := fun w' ho => hblk.drew.only ho (fun hk => hk rfl)
          have Hkeep := Lib.hid hkeep
          have hact : ∀ w', Below W.heap.size W w' → w'.cell? ⟨b, o + k * 4, none⟩ = some (.int .i64 acs[k].kind) ∧ w'.cell? ⟨b, o + k * 4 + 1, none⟩ = some (.int .i64 acs[k].i) ∧ w'.cell? ⟨b, o + k * 4 + 2, none⟩ = some (.slice B acs[k].bs.length cB) ∧ w'.cell? ⟨b, o + k * 4 + 3, none⟩ = some (.slice P acs[k].ps.length cP) := fun w' hb' => by
            have hlb := Acts.block_lt h hlt
            have e1 : w'.heap[b]? = wr.heap[b]? := by rw [hb'.block b hlb, hO.bel.block b hlb]
            exact ⟨(World.cell?_of_block (a := ⟨b, o + k * 4, none⟩) e1).trans h0, (World.cell?_of_block (a := ⟨b, o + k * 4 + 1, none⟩) e1).trans h1, (World.cell?_of_block (a := ⟨b, o + k * 4 + 2, none⟩) e1).trans h2, (World.cell?_of_block (a := ⟨b, o + k * 4 + 3, none⟩) e1).trans h3⟩
          have Hact := Lib.hid hact
          clear hkeep hact
          by_cases hk1 : acs[k].kind = 1
          · rw [hk1] at h0
            obtain ⟨cd, s', ec, hcd⟩ := hst.commit hNb acs[k].bs
            have hcall := g_commit (hO.ext (ext_drew (Below.refl _ _))) hst.small B _ cB acs[k].bs ((r4.ext hO.bel).ext (ext_drew (Below.refl _ _))) hok.lb
            rw [ec] at hcall
            have Hcall := Lib.hid hcall
            clear hcall ec
            rcases hcd with ⟨rfl, hst'⟩ | ⟨rfl, hx, hst'⟩ | ⟨rfl, hx, hst'⟩ | ⟨rfl, hst'⟩
            · go_wp2_with fail
              go_region_held_law (fun w' => w'.cell? ⟨gp, 2, none⟩ = some (.pointer (some ⟨g, 0, none⟩)) ∧ w'.cell? ⟨b, o + k * 4 + 2, none⟩ = some (.slice B acs[k].bs.length cB))
                (first | exact ⟨p2, h2⟩ | exact ⟨(Hkeep.out _ ho4).cell 2, (Hact.out _ hO4.bel).2.2.1⟩)
                (first
                  | (go_at_call 19; refine Hcall.out.mono ?_; rintro e w4 ⟨rfl, hO4, ho4⟩))
              have p4 := (Hact.out _ hO4.bel).2.2.1
              have hcv4 := fun q => g_conv ((r4.ext hO4.bel).drewN q)
              have hcv4a := g_conv (r4.ext hO4.bel)
              go_wp2_with fail
              go_quiet (fail)
              go_wp2
              go_roundw
              case rel => exact ⟨k + 1, g, s', acs[k].bs, acs[k].bs, by omega, by omega, by go_num, rfl, rfl, (Hkeep.out _ ho4).ext (ext_drewN (Below.refl _ _) _), hO4.ext (ext_drewN (Below.refl _ _) _), hst'⟩
              case measure => simp [intOf]; omega
            · subst hx
              go_wp2_with fail
              go_region_held_law (fun w' => w'.cell? ⟨gp, 2, none⟩ = some (.pointer (some ⟨g, 0, none⟩)) ∧ w'.cell? ⟨b, o + k * 4 + 2, none⟩ = some (.slice B acs[k].bs.length cB))
                (first | exact ⟨p2, h2⟩ | exact ⟨(Hkeep.out _ ho4).cell 2, (Hact.out _ hO4.bel).2.2.1⟩)
                (first
                  | (go_at_call 19; refine Hcall.out.mono ?_; rintro e w4 ⟨rfl, hO4, ho4⟩))
              have p4 := (Hact.out _ hO4.bel).2.2.1
              have hcv4 := g_conv (r4.ext hO4.bel)
              go_wp2
              go_roundw
              case rel => exact ⟨k + 1, g, s', xb, acs[k].bs, by omega, by omega, by go_num, rfl, rfl, Hkeep.out _ ho4, hO4, hst'⟩
              case measure => simp [intOf]; omega
            · have hxl := ne_list hx
              have hxl2 : (xb == nb) = false := beq_eq_false_iff_ne.2 hx
              go_wp2_with fail
              go_region_held_law (fun w' => w'.cell? ⟨gp, 2, none⟩ = some (.pointer (some ⟨g, 0, none⟩)) ∧ w'.cell? ⟨b, o + k * 4 + 2, none⟩ = some (.slice B acs[k].bs.length cB))
                (first | exact ⟨p2, h2⟩ | exact ⟨(Hkeep.out _ ho4).cell 2, (Hact.out _ hO4.bel).2.2.1⟩)
                (first
                  | (go_at_call 19; refine Hcall.out.mono ?_; rintro e w4 ⟨rfl, hO4, ho4⟩))
              go_wp2
              go_roundw
              case rel => exact ⟨k + 1, g, s', nb, xb, by omega, by omega, by go_num, rfl, rfl, Hkeep.out _ ho4, hO4, hst'⟩
              case measure => simp [intOf]; omega
            · go_wp2_with fail
              go_region_held_law (fun w' => w'.cell? ⟨gp, 2, none⟩ = some (.pointer (some ⟨g, 0, none⟩)) ∧ w'.cell? ⟨b, o + k * 4 + 2, none⟩ = some (.slice B acs[k].bs.length cB))
                (first | exact ⟨p2, h2⟩ | exact ⟨(Hkeep.out _ ho4).cell 2, (Hact.out _ hO4.bel).2.2.1⟩)
                (first
                  | (go_at_call 19; refine Hcall.out.mono ?_; rintro e w4 ⟨rfl, hO4, ho4⟩))
              go_wp2
              go_roundw
              case rel => exact ⟨k + 1, g, s', nb, xb, by omega, by omega, by go_num, rfl, rfl, Hkeep.out _ ho4, hO4, hst'⟩
              case measure => simp [intOf]; omega
          · have hk1b : (acs[k].kind == 1) = false := by simpa using hk1
            by_cases hk2 : acs[k].kind = 2
            · have hk1c : ((2 : Int) == 1) = false := rfl
              rw [hk2] at h0
              have hcall := g_fuse (hO.ext (ext_drew (Below.refl _ _))) acs[k].i hok.i
              have hst' := hst.fuse acs[k].i
              have Hcall := Lib.hid hcall
              clear hcall
              go_wp2_with fail
              go_region_held_law (fun w' => w'.cell? ⟨gp, 0, none⟩ = some (.pointer (some ⟨gd, 0, none⟩)) ∧ w'.cell? ⟨b, o + k * 4 + 1, none⟩ = some (.int .i64 acs[k].i))
                (first | exact ⟨p0, h1⟩ | exact ⟨(Hkeep.out _ ho4).cell 0, (Hact.out _ hO4.bel).2.1⟩)
                (first
                  | (go_at_call 20; refine Hcall.out.mono ?_; rintro e w4 ⟨rfl, hO4, ho4⟩))
              go_wp2
              go_roundw
              case rel => exact ⟨k + 1, g, { s with l := max acs[k].i (-1) }, nb, xb, by omega, by omega, by go_num, rfl, rfl, Hkeep.out _ ho4, hO4, hst'⟩
              case measure => simp [intOf]; omega
            · have hk2b : (acs[k].kind == 2) = false := by simpa using hk2
              obtain ⟨M, sl, img, him, hA2⟩ := hst.crash acs[k].ps
              have hcall := g_crash ((hO.disk).ext (ext_drew (Below.refl _ _))) (small_mono hst.small (by omega)) P _ cP acs[k].ps rfl r5 hok.ps
              have Hcall := Lib.hid hcall
              clear hcall
              go_wp2_with fail
              go_region_held_law (fun w' => w'.cell? ⟨gp, 0, none⟩ = some (.pointer (some ⟨gd, 0, none⟩)) ∧ w'.cell? ⟨b, o + k * 4 + 3, none⟩ = some (.slice P acs[k].ps.length cP))
                (first | exact ⟨p0, h3⟩ | exact ⟨(Hkeep.out _ ho4).cell 0, (Hact.out _ hD4.bel).2.2.2⟩)
                (first
                  | (go_at_call 21; refine Hcall.out.mono ?_; rintro e w4 ⟨rfl, hD4, ho4⟩))
              have hblk4 := Hkeep.out _ ho4
              have p4 : w4.cell? ⟨gp, 0, none⟩ = some (.pointer (some ⟨gd, 0, none⟩)) := hblk4.cell 0
              have hop := g_open hD4 (hA2.small _ (by omega)) hA2.len hA2.tells
              have Hop := Lib.hid hop
              clear hop
              go_wp2_with fail
              refine Hop.out.mono ?_
              rintro e w5 ⟨g5, rfl, hO5, hb5⟩
              have hblk5 := hblk4.ext hb5
              obtain ⟨s5, hs5⟩ : ∃ s5 : SupS, s5 = ⟨crashS s.S acs[k].ps, -1, img, M, sl, false⟩ := ⟨_, rfl⟩
              have hi5 : s5.img = img := by rw [hs5]
              rw [← hs5] at hO5 hA2
              have hst5 : Last s5 img img := .inl ⟨hA2, hi5, rfl⟩
              have him5 := g_image hO5
              rw [hi5] at him5
              have Him5 := Lib.hid him5
              clear him5 Hop Hcall hs5 p0 p2 p4 hD4 ho4 hblk hst hO
              by_cases e1 : img = nb
              · subst e1
                go_wp2_with fail
                refine Him5.out.mono ?_
                rintro e w7 ⟨A7, c7, rfl, hB7, hO7, hb7⟩
                have hcv7 := g_conv hB7
                have hblk7 := hblk5.ext hb7
                have q2 := hblk7.cell 2
                have f2 := hblk7.free 2
                have hO8 := hO7.put (p := ⟨gp, 2, none⟩) rfl (.pointer (some ⟨g5, 0, none⟩))
                have hblk8 := hblk7.put 2 (.pointer (some ⟨g5, 0, none⟩))
                have hO9 := hO8.ext (ext_drew (Below.refl _ _))
                go_wp2
                refine wp_region_held_drew (S := fun _ => True) (by kernel_rfl) ?_ (fun hHeld => ?_)
                · try trivial
                refine wpAnyH_take (i := 0) (v := ?_) (take_list rfl) (by kernel_rfl) (by kernel_rfl) (by kernel_rfl) (fun _ _ _ h => h) (Or.inl ⟨by rfl, ?_⟩) (by assumption) ?_
                rotate_left
                · intro w hSw
                  try dsimp only at hSw
                  first | (go_simp; done) | (go_simp; with_reducible rfl)
                try simp only [Act.put, List.setIfInBounds_toArray, List.set_cons_zero, List.set_cons_succ]
                refine wpAnyH_take (i := 3) (v := ?_) (take_list rfl) (by kernel_rfl) (by kernel_rfl) (by kernel_rfl) (fun _ _ _ h => h) (Or.inl ⟨by rfl, ?_⟩) (by assumption) ?_
                rotate_left
                · intro w hSw
                  try dsimp only at hSw
                  first | (go_simp; done) | (go_simp; with_reducible rfl)
                try simp only [Act.put, List.setIfInBounds_toArray, List.set_cons_zero, List.set_cons_succ]
                refine wpAnyH_ready (rs := [1]) (by kernel_rfl) (by simp) ?_
                refine AllReadyH.cons (take_list rfl) (fun K hK => ?_) ?_
                · skip
                  go_simp
                  have him9 := g_image hO9
                  rw [hi5] at him9
                  refine him9.mono ?_
                  rintro e w10 ⟨A10, c10, rfl, hB10, hO10, hb10⟩
                  have hcv10 := g_conv hB10
                  dsimp only
                  refine hK.out _ _ ?_ (fun hHeld => ?_)
                  · try dsimp only
                    try trivial
                  clear hK K
                  refine wpAnyH_ready (rs := [2, 4]) (by kernel_rfl) (by simp) ?_
                  refine AllReadyH.cons (take_list rfl) (fun K hK => ?_) ?_
                  · skip
                    go_simp
                    refine hK.out _ _ ?_ (fun hHeld => ?_)
                    · try dsimp only
                      try trivial
                    clear hK K
                    refine wpAnyH_ready (rs := [4]) (by kernel_rfl) (by simp) ?_
                    refine AllReadyH.cons (take_list rfl) (fun K hK => ?_) ?_
                    · skip
                      go_simp
                      have him10 := g_image hO10
                      rw [hi5] at him10
                      refine him10.mono ?_
                      rintro e w11 ⟨A11, c11, rfl, hB11, hO11, hb11⟩
                      have hcv11 := g_conv hB11
                      have hcv12 := g_conv (hB10.ext hb11)
                      dsimp only
                      refine hK.out _ _ ?_ (fun hHeld => ?_)
                      · try dsimp only
                        try trivial
                      clear hK K
                      refine wpAnyH_take (i := 6) (v := ?_) (take_list rfl) (by kernel_rfl) (by kernel_rfl) (by kernel_rfl) (fun _ _ _ h => h) (Or.inl ⟨by rfl, ?_⟩) (by assumption) ?_
                      rotate_left
                      · intro w hSw
                        try dsimp only at hSw
                        first | (go_simp; done) | (go_simp; with_reducible rfl)
                      try simp only [Act.put, List.setIfInBounds_toArray, List.set_cons_zero, List.set_cons_succ]
                      refine wpAnyH_ready (rs := [5]) (by kernel_rfl) (by simp) ?_
                      refine AllReadyH.cons (take_list rfl) (fun K hK => ?_) ?_
                      · skip
                        go_simp
                        refine hK.out _ _ ?_ (fun hHeld => ?_)
                        · try dsimp only
                          try trivial
                        clear hK K
                        refine wpAnyH_take (i := 7) (v := ?_) (take_list rfl) (by kernel_rfl) (by kernel_rfl) (by kernel_rfl) (fun _ _ _ h => h) (Or.inl ⟨by rfl, ?_⟩) (by assumption) ?_
                        rotate_left
                        · intro w hSw
                          try dsimp only at hSw
                          first | (go_simp; done) | (go_simp; with_reducible rfl)
                        try simp only [Act.put, List.setIfInBounds_toArray, List.set_cons_zero, List.set_cons_succ]
                        refine wpAnyH_done (by kernel_rfl) ?_ _
                        go_wp2
                        go_roundw
                        case rel => exact ⟨k + 1, g5, s5, img, img, by omega, by omega, by go_num, rfl, rfl, (hblk8.drew.ext hb10).ext hb11, hO11, hst5⟩
                        case measure => simp [intOf]; omega
                      exact AllReadyH.nil
                    exact AllReadyH.nil
                  refine AllReadyH.cons (take_list rfl) (fun K hK => ?_) ?_
                  · skip
                    go_simp
                    have him10 := g_image hO10
                    rw [hi5] at him10
                    refine him10.mono ?_
                    rintro e w11 ⟨A11, c11, rfl, hB11, hO11, hb11⟩
                    have hcv11 := g_conv hB11
                    have hcv12 := g_conv (hB10.ext hb11)
                    dsimp only
                    refine hK.out _ _ ?_ (fun hHeld => ?_)
                    · try dsimp only
                      try trivial
                    clear hK K
                    refine wpAnyH_ready (rs := [2, 5]) (by kernel_rfl) (by simp) ?_
                    refine AllReadyH.cons (take_list rfl) (fun K hK => ?_) ?_
                    · skip
                      go_simp
                      refine hK.out _ _ ?_ (fun hHeld => ?_)
                      · try dsimp only
                        try trivial
                      clear hK K
                      refine wpAnyH_take (i := 6) (v := ?_) (take_list rfl) (by kernel_rfl) (by kernel_rfl) (by kernel_rfl) (fun _ _ _ h => h) (Or.inl ⟨by rfl, ?_⟩) (by assumption) ?_
                      rotate_left
                      · intro w hSw
                        try dsimp only at hSw
                        first | (go_simp; done) | (go_simp; with_reducible rfl)
                      try simp only [Act.put, List.setIfInBounds_toArray, List.set_cons_zero, List.set_cons_succ]
                      refine wpAnyH_ready (rs := [5]) (by kernel_rfl) (by simp) ?_
                      refine AllReadyH.cons (take_list rfl) (fun K hK => ?_) ?_
                      · skip
                        go_simp
                        refine hK.out _ _ ?_ (fun hHeld => ?_)
                        · try dsimp only
                          try trivial
                        clear hK K
                        refine wpAnyH_take (i := 7) (v := ?_) (take_list rfl) (by kernel_rfl) (by kernel_rfl) (by kernel_rfl) (fun _ _ _ h => h) (Or.inl ⟨by rfl, ?_⟩) (by assumption) ?_
                        rotate_left
                        · intro w hSw
                          try dsimp only at hSw
                          first | (go_simp; done) | (go_simp; with_reducible rfl)
                        try simp only [Act.put, List.setIfInBounds_toArray, List.set_cons_zero, List.set_cons_succ]
                        refine wpAnyH_done (by kernel_rfl) ?_ _
                        go_wp2
                        go_roundw
                        case rel => exact ⟨k + 1, g5, s5, img, img, by omega, by omega, by go_num, rfl, rfl, (hblk8.drew.ext hb10).ext hb11, hO11, hst5⟩
                        case measure => simp [intOf]; omega
                      exact AllReadyH.nil
                    refine AllReadyH.cons (take_list rfl) (fun K hK => ?_) ?_
                    · skip
                      go_simp
                      refine hK.out _ _ ?_ (fun hHeld => ?_)
                      · try dsimp only
                        try trivial
                      clear hK K
                      refine wpAnyH_ready (rs := [2]) (by kernel_rfl) (by simp) ?_
                      refine AllReadyH.cons (take_list rfl) (fun K hK => ?_) ?_
                      · skip
                        go_simp
                        refine hK.out _ _ ?_ (fun hHeld => ?_)
                        · try dsimp only
                          try trivial
                        clear hK K
                        refine wpAnyH_take (i := 6) (v := ?_) (take_list rfl) (by kernel_rfl) (by kernel_rfl) (by kernel_rfl) (fun _ _ _ h => h) (Or.inl ⟨by rfl, ?_⟩) (by assumption) ?_
                        rotate_left
                        · intro w hSw
                          try dsimp only at hSw
                          first | (go_simp; done) | (go_simp; with_reducible rfl)
                        try simp only [Act.put, List.setIfInBounds_toArray, List.set_cons_zero, List.set_cons_succ]
                        refine wpAnyH_take (i := 7) (v := ?_) (take_list rfl) (by kernel_rfl) (by kernel_rfl) (by kernel_rfl) (fun _ _ _ h => h) (Or.inl ⟨by rfl, ?_⟩) (by assumption) ?_
                        rotate_left
                        · intro w hSw
                          try dsimp only at hSw
                          first | (go_simp; done) | (go_simp; with_reducible rfl)
                        try simp only [Act.put, List.setIfInBounds_toArray, List.set_cons_zero, List.set_cons_succ]
                        refine wpAnyH_done (by kernel_rfl) ?_ _
                        go_wp2
                        go_roundw
                        case rel => exact ⟨k + 1, g5, s5, img, img, by omega, by omega, by go_num, rfl, rfl, (hblk8.drew.ext hb10).ext hb11, hO11, hst5⟩
                        case measure => simp [intOf]; omega
                      exact AllReadyH.nil
                    exact AllReadyH.nil
                  exact AllReadyH.nil
                exact AllReadyH.nil
              · have e2 : img = xb := him.resolve_left e1
                subst e2
                have hne := ne_list e1
                have hne2 : (img == nb) = false := beq_eq_false_iff_ne.2 e1
                go_wp2_with fail
                refine Him5.out.mono ?_
                rintro e w6 ⟨A6, c6, rfl, hB6, hO6, hb6⟩
                have hcv6 := g_conv hB6
                have him6 := g_image hO6
                rw [hi5] at him6
                have Him6 := Lib.hid him6
                clear him6
                go_wp2_with fail
                refine Him6.out.mono ?_
                rintro e w7 ⟨A7, c7, rfl, hB7, hO7, hb7⟩
                have hcv7 := g_conv hB7
                have hblk7 := (hblk5.ext hb6).ext hb7
                have q2 := hblk7.cell 2
                have f2 := hblk7.free 2
                have hO8 := hO7.put (p := ⟨gp, 2, none⟩) rfl (.pointer (some ⟨g5, 0, none⟩))
                have hblk8 := hblk7.put 2 (.pointer (some ⟨g5, 0, none⟩))
                have hO9 := hO8.ext (ext_drew (Below.refl _ _))
                go_wp2
                refine wp_region_held_drew (S := fun _ => True) (by kernel_rfl) ?_ (fun hHeld => ?_)
                · try trivial
                refine wpAnyH_take (i := 0) (v := ?_) (take_list rfl) (by kernel_rfl) (by kernel_rfl) (by kernel_rfl) (fun _ _ _ h => h) (Or.inl ⟨by rfl, ?_⟩) (by assumption) ?_
                rotate_left
                · intro w hSw
                  try dsimp only at hSw
                  first | (go_simp; done) | (go_simp; with_reducible rfl)
                try simp only [Act.put, List.setIfInBounds_toArray, List.set_cons_zero, List.set_cons_succ]
                refine wpAnyH_take (i := 3) (v := ?_) (take_list rfl) (by kernel_rfl) (by kernel_rfl) (by kernel_rfl) (fun _ _ _ h => h) (Or.inl ⟨by rfl, ?_⟩) (by assumption) ?_
                rotate_left
                · intro w hSw
                  try dsimp only at hSw
                  first | (go_simp; done) | (go_simp; with_reducible rfl)
                try simp only [Act.put, List.setIfInBounds_toArray, List.set_cons_zero, List.set_cons_succ]
                refine wpAnyH_ready (rs := [1]) (by kernel_rfl) (by simp) ?_
                refine AllReadyH.cons (take_list rfl) (fun K hK => ?_) ?_
                · skip
                  go_simp
                  have him9 := g_image hO9
                  rw [hi5] at him9
                  refine him9.mono ?_
                  rintro e w10 ⟨A10, c10, rfl, hB10, hO10, hb10⟩
                  have hcv10 := g_conv hB10
                  dsimp only
                  refine hK.out _ _ ?_ (fun hHeld => ?_)
                  · try dsimp only
                    try trivial
                  clear hK K
                  refine wpAnyH_ready (rs := [2, 4]) (by kernel_rfl) (by simp) ?_
                  refine AllReadyH.cons (take_list rfl) (fun K hK => ?_) ?_
                  · skip
                    go_simp
                    refine hK.out _ _ ?_ (fun hHeld => ?_)
                    · try dsimp only
                      try trivial
                    clear hK K
                    refine wpAnyH_ready (rs := [4]) (by kernel_rfl) (by simp) ?_
                    refine AllReadyH.cons (take_list rfl) (fun K hK => ?_) ?_
                    · skip
                      go_simp
                      have him10 := g_image hO10
                      rw [hi5] at him10
                      refine him10.mono ?_
                      rintro e w11 ⟨A11, c11, rfl, hB11, hO11, hb11⟩
                      have hcv11 := g_conv hB11
                      have hcv12 := g_conv (hB10.ext hb11)
                      dsimp only
                      refine hK.out _ _ ?_ (fun hHeld => ?_)
                      · try dsimp only
                        try trivial
                      clear hK K
                      refine wpAnyH_take (i := 6) (v := ?_) (take_list rfl) (by kernel_rfl) (by kernel_rfl) (by kernel_rfl) (fun _ _ _ h => h) (Or.inl ⟨by rfl, ?_⟩) (by assumption) ?_
                      rotate_left
                      · intro w hSw
                        try dsimp only at hSw
                        first | (go_simp; done) | (go_simp; with_reducible rfl)
                      try simp only [Act.put, List.setIfInBounds_toArray, List.set_cons_zero, List.set_cons_succ]
                      refine wpAnyH_ready (rs := [5]) (by kernel_rfl) (by simp) ?_
                      refine AllReadyH.cons (take_list rfl) (fun K hK => ?_) ?_
                      · skip
                        go_simp
                        refine hK.out _ _ ?_ (fun hHeld => ?_)
                        · try dsimp only
                          try trivial
                        clear hK K
                        refine wpAnyH_take (i := 7) (v := ?_) (take_list rfl) (by kernel_rfl) (by kernel_rfl) (by kernel_rfl) (fun _ _ _ h => h) (Or.inl ⟨by rfl, ?_⟩) (by assumption) ?_
                        rotate_left
                        · intro w hSw
                          try dsimp only at hSw
                          first | (go_simp; done) | (go_simp; with_reducible rfl)
                        try simp only [Act.put, List.setIfInBounds_toArray, List.set_cons_zero, List.set_cons_succ]
                        refine wpAnyH_done (by kernel_rfl) ?_ _
                        go_wp2
                        go_roundw
                        case rel => exact ⟨k + 1, g5, s5, img, img, by omega, by omega, by go_num, rfl, rfl, (hblk8.drew.ext hb10).ext hb11, hO11, hst5⟩
                        case measure => simp [intOf]; omega
                      exact AllReadyH.nil
                    exact AllReadyH.nil
                  refine AllReadyH.cons (take_list rfl) (fun K hK => ?_) ?_
                  · skip
                    go_simp
                    have him10 := g_image hO10
                    rw [hi5] at him10
                    refine him10.mono ?_
                    rintro e w11 ⟨A11, c11, rfl, hB11, hO11, hb11⟩
                    have hcv11 := g_conv hB11
                    have hcv12 := g_conv (hB10.ext hb11)
                    dsimp only
                    refine hK.out _ _ ?_ (fun hHeld => ?_)
                    · try dsimp only
                      try trivial
                    clear hK K
                    refine wpAnyH_ready (rs := [2, 5]) (by kernel_rfl) (by simp) ?_
                    refine AllReadyH.cons (take_list rfl) (fun K hK => ?_) ?_
                    · skip
                      go_simp
                      refine hK.out _ _ ?_ (fun hHeld => ?_)
                      · try dsimp only
                        try trivial
                      clear hK K
                      refine wpAnyH_take (i := 6) (v := ?_) (take_list rfl) (by kernel_rfl) (by kernel_rfl) (by kernel_rfl) (fun _ _ _ h => h) (Or.inl ⟨by rfl, ?_⟩) (by assumption) ?_
                      rotate_left
                      · intro w hSw
                        try dsimp only at hSw
                        first | (go_simp; done) | (go_simp; with_reducible rfl)
                      try simp only [Act.put, List.setIfInBounds_toArray, List.set_cons_zero, List.set_cons_succ]
                      refine wpAnyH_ready (rs := [5]) (by kernel_rfl) (by simp) ?_
                      refine AllReadyH.cons (take_list rfl) (fun K hK => ?_) ?_
                      · skip
                        go_simp
                        refine hK.out _ _ ?_ (fun hHeld => ?_)
                        · try dsimp only
                          try trivial
                        clear hK K
                        refine wpAnyH_take (i := 7) (v := ?_) (take_list rfl) (by kernel_rfl) (by kernel_rfl) (by kernel_rfl) (fun _ _ _ h => h) (Or.inl ⟨by rfl, ?_⟩) (by assumption) ?_
                        rotate_left
                        · intro w hSw
                          try dsimp only at hSw
                          first | (go_simp; done) | (go_simp; with_reducible rfl)
                        try simp only [Act.put, List.setIfInBounds_toArray, List.set_cons_zero, List.set_cons_succ]
                        refine wpAnyH_done (by kernel_rfl) ?_ _
                        go_wp2
                        go_roundw
                        case rel => exact ⟨k + 1, g5, s5, img, img, by omega, by omega, by go_num, rfl, rfl, (hblk8.drew.ext hb10).ext hb11, hO11, hst5⟩
                        case measure => simp [intOf]; omega
                      exact AllReadyH.nil
                    refine AllReadyH.cons (take_list rfl) (fun K hK => ?_) ?_
                    · skip
                      go_simp
                      refine hK.out _ _ ?_ (fun hHeld => ?_)
                      · try dsimp only
                        try trivial
                      clear hK K
                      refine wpAnyH_ready (rs := [2]) (by kernel_rfl) (by simp) ?_
                      refine AllReadyH.cons (take_list rfl) (fun K hK => ?_) ?_
                      · skip
                        go_simp
                        refine hK.out _ _ ?_ (fun hHeld => ?_)
                        · try dsimp only
                          try trivial
                        clear hK K
                        refine wpAnyH_take (i := 6) (v := ?_) (take_list rfl) (by kernel_rfl) (by kernel_rfl) (by kernel_rfl) (fun _ _ _ h => h) (Or.inl ⟨by rfl, ?_⟩) (by assumption) ?_
                        rotate_left
                        · intro w hSw
                          try dsimp only at hSw
                          first | (go_simp; done) | (go_simp; with_reducible rfl)
                        try simp only [Act.put, List.setIfInBounds_toArray, List.set_cons_zero, List.set_cons_succ]
                        refine wpAnyH_take (i := 7) (v := ?_) (take_list rfl) (by kernel_rfl) (by kernel_rfl) (by kernel_rfl) (fun _ _ _ h => h) (Or.inl ⟨by rfl, ?_⟩) (by assumption) ?_
                        rotate_left
                        · intro w hSw
                          try dsimp only at hSw
                          first | (go_simp; done) | (go_simp; with_reducible rfl)
                        try simp only [Act.put, List.setIfInBounds_toArray, List.set_cons_zero, List.set_cons_succ]
                        refine wpAnyH_done (by kernel_rfl) ?_ _
                        go_wp2
                        go_roundw
                        case rel => exact ⟨k + 1, g5, s5, img, img, by omega, by omega, by go_num, rfl, rfl, (hblk8.drew.ext hb10).ext hb11, hO11, hst5⟩
                        case measure => simp [intOf]; omega
                      exact AllReadyH.nil
                    exact AllReadyH.nil
                  exact AllReadyH.nil
                exact AllReadyH.nil
        · obtain rfl : k = 30 := by omega
          go_wp2_with fail
          refine (known_any wr hO.tb).mono ?_
          rintro e w4 ⟨rfl, hb4⟩
          go_wp2
          go_ret
          exact ⟨rfl, ext_trans hO.bel hb4⟩
      · obtain rfl : k = acs.length := by omega
        go_wp2_with fail
        refine (known_any wr hO.tb).mono ?_
        rintro e w4 ⟨rfl, hb4⟩
        go_wp2
        go_ret
        exact ⟨rfl, ext_trans hO.bel hb4⟩
  · go_wp2
    go_ret
    exact ⟨rfl, hb1⟩

set_option maxRecDepth 100000 in
theorem contract (H : Type) (enc : TypeId × Value → H) (W : World) (base : Nat) (args : Array Value) (ds gs : List (DataW H)) (before : List MemPlace)
    (hval : ∀ (j : Nat) t v, Tryd.f4.params[j]? = some t → args[j]? = some v → Value.okWide Tryd.prog W .any base t v)
    (hW : DataW.Whole enc Tryd.prog Tryd.f4.params.toList Rows.superLastsSpec.vars false W args.toList ds gs before) (hL : laidMetH Tryd.prog Rows.superLastsRow.laid W) :
    Calls Tryd.prog 4 args W fun e W' => ∃ v, e = .returned v ∧ Rows.superLastsSpec.post enc Tryd.prog Tryd.f4 false true false false W args v W' := by
  have ht : Tab W := tab_of_laid hL
  have hW' := hW
  obtain ⟨p, q, hA0, hV, rfl, hfz, hnd⟩ := hW
  have hA : DataW.TrodAll enc Tryd.prog W 0 (fun _ => true) true Tryd.f4.params.toList args.toList ds p := hA0
  rw [Tryd.params4] at hA hval
  obtain ⟨x0, x1, d0, d1, p0, p1, rfl, rfl, rfl, h0, h1⟩ := trodAll_two hA
  obtain ⟨A0, n0, c0, xs0, rfl, hn0, hc0, hm0, hr0⟩ := arg_bytes (hval 0 _ x0 rfl rfl) h0
  obtain ⟨A1, n1, c1, xs1, rfl, hn1, hc1, hm1, hr1, hi1⟩ := arg_acts (hval 1 _ x1 rfl rfl) h1
  have walk : Calls Tryd.prog 4 #[.slice A0 n0 c0, .slice A1 n1 c1] W fun e w' => e = .returned (.bool true) ∧ Below W.heap.size W w' := walk A0 n0 c0 xs0 A1 n1 c1 xs1 W ht ⟨hn0, hc0, hr0⟩ hm0 hn1 (Nat.le_trans hc1 hm1) hr1
  refine walk.mono fun e W' ⟨he, hb⟩ => ?_
  subst he
  exact ⟨_, rfl, law_post rfl rfl (by kernel_rfl) ⟨rfl, rfl, rfl⟩ hW' hb⟩

theorem laid_met (os : Os) : laidMet Tryd.prog Rows.superLastsRow.laid ((laidWorld os).forCall (fun _ _ => 0) ⟨#[], #[.slice none 0 0, .slice none 0 0], []⟩).memory :=
  laidMet_of_run' 8 (by kernel_rfl) (by kernel_rfl)
theorem reads (os : Os) {H : Type} (enc : TypeId × Value → H) : ∃ places, DataW.whole enc Tryd.prog ((laidWorld os).forCall (fun _ _ => 0) ⟨#[], #[.slice none 0 0, .slice none 0 0], []⟩).memory Tryd.f4.params.toList Rows.superLastsSpec.vars false #[Value.slice none 0 0, .slice none 0 0].toList 8 = some ([.nil, .nil], [], places) :=
  ⟨[], by kernel_rfl⟩

set_option maxRecDepth 100000 in
theorem lifted (os : Os) (started : os.Started) (H : Type) (enc : TypeId × Value → H) (F : Stop.Interp) :
    ReturnsInHanded {} Tryd.checked os 4 .any ((OpenSpec.ofChange Rows.superLastsSpec).preRow enc Tryd.prog Tryd.f4 Rows.superLastsRow.domain false Rows.superLastsRow.laid) (((OpenSpec.ofChange Rows.superLastsSpec).at F).post enc Tryd.prog Tryd.f4 false true false false) := by
  obtain ⟨places, hx⟩ := reads os enc
  refine returnsInHanded_of_row (C := Tryd.checked) (s := OpenSpec.ofChange Rows.superLastsSpec) own started (by kernel_rfl) Tryd.func4
    (witness_row_at (enc := enc) (C := Tryd.checked) false (laidWorld os) #[.slice none 0 0, .slice none 0 0] rfl (by kernel_rfl) (by kernel_rfl) (by kernel_rfl)
      (OpenSpec.preRow_of_cond 8 hx (by kernel_rfl) (fun k hk => by cases hk) (by kernel_rfl) (laid_met os))) ?_
  intro W base args ds gs before hval hW _ _ _ hL _ _
  exact contract H enc W base args ds gs before hval hW hL

theorem said : Rows.SuperLastsSaid :=
  OpenClaim.holds_of_cond 4 Tryd.f4 rfl rfl rfl rfl rfl rfl rfl ⟨rfl, rfl, rfl, rfl, rfl⟩ rfl rfl rfl rfl rfl (by kernel_rfl) Tryd.func4 (by kernel_rfl)
    (of_decide_eq_true (by kernel_rfl)) (by unfold Func.isWrapper; first | (rw [if_pos (by decide +kernel)]; kernel_rfl) | (rw [if_neg (by decide +kernel)]; exact ⟨rfl, rfl⟩))
    (fun os started H enc _ F => by rw [OpenClaim.pre_eq_preRow]; exact lifted os started H enc F)

theorem plain (f : FuncId) (fn : Func) (hf : Tryd.pinned.checked.prog.funcNamed "winnower/winnowerlaw3.SuperLasts" = some f) (hfn : Tryd.pinned.checked.prog.funcs[f]? = some fn) :
    false = Tryd.pinned.checked.prog.looks [] ∧ ∀ (j : Nat) t, fn.params[j]? = some t → Tryd.pinned.checked.prog.wantsStandIn t = false := by
  obtain rfl : f = 4 := Option.some.inj ((show Tryd.prog.funcNamed "winnower/winnowerlaw3.SuperLasts" = some 4 by kernel_rfl).symm.trans hf) |>.symm
  obtain rfl : fn = Tryd.f4 := (Option.some.inj (Tryd.func4.symm.trans hfn)).symm
  refine ⟨by kernel_rfl, fun j t ht => ?_⟩
  have hall : Tryd.f4.params.all (fun t => !Tryd.prog.wantsStandIn t) = true := by kernel_rfl
  have h1 := Array.all_eq_true'.1 hall t (Array.mem_of_getElem? ht)
  have h2 : Tryd.prog.wantsStandIn t = false := by simpa using h1
  exact h2

/-- THE CARD -/
theorem superLasts_card : Rows.SuperLastsCardSaid :=
  Claim7.holds_tied_plain_at .later [] _ _ _ _ said (fun _ h => by cases h) (by kernel_rfl) (fun _ h => by cases h) superLasts_row_tie rfl ⟨rfl, rfl⟩ (by kernel_rfl) rfl plain (by kernel_rfl)
end Go.Proofs.YtlpjeopeboemmaaDoor.SuperLasts
