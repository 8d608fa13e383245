/-
  PROVED HERE: SuperRises's tied card (the first form, every argument): a commit's number is one above the last, and none that is opened behind a crash is below it.
  Conditions: none of our own; the card's row lists the table octet.crcSteps, which the card ties to the program's text.
-/
import Derived.Test.YtlpjeopeboemmaaDoorBegin
import Derived.Test.YtlpjeopeboemmaaDoorLong3
import Derived.Test.YtlpjeopeboemmaaDoorArgs
namespace Go.Proofs.YtlpjeopeboemmaaDoor.SuperRises
open Go Go.ChangeShapes Go.WideShapes Go.ChangeAt Go.RowKit

/-- it lives, or was cut short -/
def Rise (s : SupS) : Prop := Alive s ∨ ∃ bs, Cut s bs s.N
theorem Rise.small {s : SupS} (h : Rise s) : Small 900000 s.S := by
  rcases h with h | ⟨bs, h⟩
  · exact h.small _ (by omega)
  · exact small_mono h.small (by omega)
theorem Rise.len {s : SupS} (h : Rise s) : 32 ≤ s.S.length := by
  rcases h with h | ⟨bs, h⟩
  · exact h.len
  · exact h.len
theorem Rise.fuse {s : SupS} (h : Rise s) (n : Int) : Rise { s with l := max n (-1) } := by
  rcases h with h | ⟨bs, h⟩
  · exact .inl (h.fuse n)
  · exact .inr ⟨bs, h.fuse n⟩
theorem Rise.crash {s : SupS} (h : Rise s) (ps : List Int) : ∃ M k img, s.N ≤ M ∧ Alive ⟨crashS s.S ps, -1, img, M, k, false⟩ := by
  rcases h with h | ⟨bs, h⟩
  · exact ⟨s.N, s.slot, s.img, Nat.le_refl _, h.crash ps⟩
  · obtain ⟨M, k, img, h1, _, h2⟩ := h.crash ps
    exact ⟨M, k, img, h1, h2⟩
theorem Rise.commit {s : SupS} (h : Rise s) (hN : s.N ≤ 1125899906842624) (bs : List UInt8) : ∃ cd s', commitS s bs = (cd, s') ∧ Rise s' ∧ ((cd = 0 ∧ s'.N = s.N + 1) ∨ (cd ≠ 0 ∧ s'.N = s.N)) := by
  rcases h with h | ⟨b0, h⟩
  · by_cases hc : 814 < bs.length ∨ s.N = 1125899906842624
    · exact ⟨3, s, commit_refused h.dead bs hc, .inl h, .inr ⟨by decide, rfl⟩⟩
    · rcases commit_sem h bs (by omega) (by omega) with ⟨s', e, hA, _, hn, _⟩ | ⟨_, s', e, hC, _, _, _, hn⟩
      · exact ⟨0, s', e, .inl hA, .inl ⟨rfl, hn⟩⟩
      · exact ⟨6, s', e, .inr ⟨bs, by rw [hn]; exact hC⟩, .inr ⟨by decide, hn⟩⟩
  · exact ⟨6, s, commit_dead h.dead bs, .inr ⟨b0, h⟩, .inr ⟨by decide, rfl⟩⟩
theorem ownN {W w : World} {G : Nat → Prop} {g gd : Nat} {s : SupS} (h : OwnG W w G g gd s) : s.N ≤ 1125899906842624 := by
  obtain ⟨_, _, _, hp⟩ := h.sup
  exact hp.hN

set_option maxRecDepth 100000 in
set_option maxHeartbeats 8000000 in
theorem walk (A : Option Addr) (m c : Nat) (acs : List ActD) (W : World) (ht : Tab W) (hm : m = acs.length) (hl : acs.length ≤ maxLen) (h : Acts W A acs) :
    Calls Tryd.prog 7 #[.slice A m c] W fun e w' => e = .returned (.bool true) ∧ Below W.heap.size W w' := by
  subst hm
  have hlong := long_any W A acs.length c acs rfl hl h
  go_enter Tryd.func7, Tryd.ntmps7
  go_wp2_with fail
  refine hlong.mono ?_
  rintro e w1 ⟨b, rfl, hb1⟩
  cases b
  · have hbeg := begin_any 32 (by omega) (by omega) W w1 ht hb1 none 0 0 [] ⟨rfl, Nat.le_refl _, Rd.nil _ _⟩ (by simp)
    have Hbeg := Lib.hid hbeg
    clear hbeg hlong
    go_wp2_with fail
    refine Hbeg.out.mono ?_
    rintro e w2 ⟨gp, gd, gx, g, gy, s, rfl, hB, hb2, hA, -, hN, -⟩
    have hO := hB.own hb2 ht
    have hblk : Blk w2 gp 32 #[.pointer (some ⟨gd, 0, none⟩), .pointer (some ⟨gx, 0, none⟩), .pointer (some ⟨g, 0, none⟩), .pointer (some ⟨gy, 0, none⟩)] := hB.1
    have hst : Rise s := .inl hA
    have p2 : w2.cell? ⟨gp, 2, none⟩ = some (.pointer (some ⟨g, 0, none⟩)) := hblk.cell 2
    clear hB Hbeg hA
    go_wp2_with fail
    refine (number_of hO.sup).mono ?_
    rintro e w3 ⟨rfl, rfl⟩
    go_wp2
    go_loopw [4, 5, 6, 7, 69, 92] (fun lst i _ _ _ _ wr => ∃ (k g : Nat) (s : SupS), k ≤ acs.length ∧ k ≤ 30 ∧ i = .int .i64 (k : Int) ∧ lst = .int .i64 (s.N : Int) ∧ Blk wr gp 32 #[.pointer (some ⟨gd, 0, none⟩), .pointer (some ⟨gx, 0, none⟩), .pointer (some ⟨g, 0, none⟩), .pointer (some ⟨gy, 0, none⟩)] ∧ OwnG W wr (fun k => k = gp) g gd s ∧ Rise s) (fun _ i _ _ _ _ _ => acs.length - (intOf i).toNat)
    case atStart => exact ⟨0, g, s, Nat.zero_le _, Nat.zero_le _, rfl, by rw [hN]; rfl, hblk, hO, hst⟩
    case round =>
      clear hblk hO hst p2 hb2 hb1
      obtain ⟨k, g, s, hk, hk30, rfl, rfl, hblk, hO, hst⟩ := hrel
      by_cases hlt : k < acs.length
      · by_cases hlt6 : k < 30
        · obtain ⟨b, o, B, cB, P, cP, rfl, h0, h1, h2, h3, r4, r5, hok⟩ := h.at0 hO.bel hlt
          have hki : (k : Int) < (acs.length : Int) := by omega
          have hki6 : (k : Int) < 30 := by omega
          have p2 : wr.cell? ⟨gp, 2, none⟩ = some (.pointer (some ⟨g, 0, none⟩)) := hblk.cell 2
          have p0 : wr.cell? ⟨gp, 0, none⟩ = some (.pointer (some ⟨gd, 0, none⟩)) := hblk.cell 0
          have hNb := ownN hO
          have hgp : gp < wr.heap.size := (hO.gb gp rfl).2
          have hkeep : ∀ w', Only (fun k => ¬ k = gp) wr.drew w' → Blk w' gp 32 #[.pointer (some ⟨gd, 0, none⟩), .pointer (some ⟨gx, 0, none⟩), .pointer (some ⟨g, 0, none⟩), .pointer (some ⟨gy, 0, none⟩)] := fun w' ho => hblk.drew.only ho (fun hk => hk rfl)
          have Hkeep := Lib.hid hkeep
          have hact : ∀ w', Below W.heap.size W w' → w'.cell? ⟨b, o + k * 4, none⟩ = some (.int .i64 acs[k].kind) ∧ w'.cell? ⟨b, o + k * 4 + 1, none⟩ = some (.int .i64 acs[k].i) ∧ w'.cell? ⟨b, o + k * 4 + 2, none⟩ = some (.slice B acs[k].bs.length cB) ∧ w'.cell? ⟨b, o + k * 4 + 3, none⟩ = some (.slice P acs[k].ps.length cP) := fun w' hb' => by
            have hlb := Acts.block_lt h hlt
            have e1 : w'.heap[b]? = wr.heap[b]? := by rw [hb'.block b hlb, hO.bel.block b hlb]
            exact ⟨(World.cell?_of_block (a := ⟨b, o + k * 4, none⟩) e1).trans h0, (World.cell?_of_block (a := ⟨b, o + k * 4 + 1, none⟩) e1).trans h1, (World.cell?_of_block (a := ⟨b, o + k * 4 + 2, none⟩) e1).trans h2, (World.cell?_of_block (a := ⟨b, o + k * 4 + 3, none⟩) e1).trans h3⟩
          have Hact := Lib.hid hact
          clear hkeep hact
          by_cases hk1 : acs[k].kind = 1
          · rw [hk1] at h0
            obtain ⟨cd, s', ec, hst', hcd⟩ := hst.commit hNb acs[k].bs
            have hcall := g_commit (hO.ext (ext_drew (Below.refl _ _))) hst.small B _ cB acs[k].bs ((r4.ext hO.bel).ext (ext_drew (Below.refl _ _))) hok.lb
            rw [ec] at hcall
            have Hcall := Lib.hid hcall
            clear hcall ec
            rcases hcd with ⟨rfl, hN'⟩ | ⟨hne, hN'⟩
            · go_wp2_with fail
              go_region_held_law (fun w' => w'.cell? ⟨gp, 2, none⟩ = some (.pointer (some ⟨g, 0, none⟩)) ∧ w'.cell? ⟨b, o + k * 4 + 2, none⟩ = some (.slice B acs[k].bs.length cB))
                (first | exact ⟨p2, h2⟩ | exact ⟨(Hkeep.out _ ho4).cell 2, (Hact.out _ hO4.bel).2.2.1⟩)
                (first
                  | (go_at_call 19; refine Hcall.out.mono ?_; rintro e w4 ⟨rfl, hO4, ho4⟩))
              have p4 : w4.cell? ⟨gp, 2, none⟩ = some (.pointer (some ⟨g, 0, none⟩)) := (Hkeep.out _ ho4).cell 2
              go_wp2_with fail
              refine (number_of hO4.sup).mono ?_
              rintro e w5 ⟨rfl, rfl⟩
              have hN2 : (s'.N : Int) = (s.N : Int) + 1 := by omega
              rw [hN2]
              go_wp2
              go_roundw
              case rel => exact ⟨k + 1, g, s', by omega, by omega, by go_num, by rw [hN2], Hkeep.out _ ho4, hO4, hst'⟩
              case measure => simp [intOf]; omega
            · have hbeq : (cd == 0) = false := by simpa using hne
              go_wp2_with fail
              go_region_held_law (fun w' => w'.cell? ⟨gp, 2, none⟩ = some (.pointer (some ⟨g, 0, none⟩)) ∧ w'.cell? ⟨b, o + k * 4 + 2, none⟩ = some (.slice B acs[k].bs.length cB))
                (first | exact ⟨p2, h2⟩ | exact ⟨(Hkeep.out _ ho4).cell 2, (Hact.out _ hO4.bel).2.2.1⟩)
                (first
                  | (go_at_call 19; refine Hcall.out.mono ?_; rintro e w4 ⟨rfl, hO4, ho4⟩))
              go_wp2
              go_roundw
              case rel => exact ⟨k + 1, g, s', by omega, by omega, by go_num, by rw [hN'], Hkeep.out _ ho4, hO4, hst'⟩
              case measure => simp [intOf]; omega
          · have hk1b : (acs[k].kind == 1) = false := by simpa using hk1
            by_cases hk2 : acs[k].kind = 2
            · have hk1c : ((2 : Int) == 1) = false := rfl
              rw [hk2] at h0
              have hcall := g_fuse (hO.ext (ext_drew (Below.refl _ _))) acs[k].i hok.i
              have hst' := hst.fuse acs[k].i
              have Hcall := Lib.hid hcall
              clear hcall
              go_wp2_with fail
              go_region_held_law (fun w' => w'.cell? ⟨gp, 0, none⟩ = some (.pointer (some ⟨gd, 0, none⟩)) ∧ w'.cell? ⟨b, o + k * 4 + 1, none⟩ = some (.int .i64 acs[k].i))
                (first | exact ⟨p0, h1⟩ | exact ⟨(Hkeep.out _ ho4).cell 0, (Hact.out _ hO4.bel).2.1⟩)
                (first
                  | (go_at_call 20; refine Hcall.out.mono ?_; rintro e w4 ⟨rfl, hO4, ho4⟩))
              go_wp2
              go_roundw
              case rel => exact ⟨k + 1, g, { s with l := max acs[k].i (-1) }, by omega, by omega, by go_num, rfl, Hkeep.out _ ho4, hO4, hst'⟩
              case measure => simp [intOf]; omega
            · have hk2b : (acs[k].kind == 2) = false := by simpa using hk2
              obtain ⟨M, sl, img, hM, hA2⟩ := hst.crash acs[k].ps
              have hcall := g_crash ((hO.disk).ext (ext_drew (Below.refl _ _))) (small_mono hst.small (by omega)) P _ cP acs[k].ps rfl r5 hok.ps
              have Hcall := Lib.hid hcall
              clear hcall
              go_wp2_with fail
              go_region_held_law (fun w' => w'.cell? ⟨gp, 0, none⟩ = some (.pointer (some ⟨gd, 0, none⟩)) ∧ w'.cell? ⟨b, o + k * 4 + 3, none⟩ = some (.slice P acs[k].ps.length cP))
                (first | exact ⟨p0, h3⟩ | exact ⟨(Hkeep.out _ ho4).cell 0, (Hact.out _ hD4.bel).2.2.2⟩)
                (first
                  | (go_at_call 21; refine Hcall.out.mono ?_; rintro e w4 ⟨rfl, hD4, ho4⟩))
              have hblk4 := Hkeep.out _ ho4
              have p4 : w4.cell? ⟨gp, 0, none⟩ = some (.pointer (some ⟨gd, 0, none⟩)) := hblk4.cell 0
              have hop := g_open hD4 (hA2.small _ (by omega)) hA2.len hA2.tells
              have Hop := Lib.hid hop
              clear hop
              go_wp2_with fail
              refine Hop.out.mono ?_
              rintro e w5 ⟨g5, rfl, hO5, hb5⟩
              have hblk5 := hblk4.ext hb5
              obtain ⟨s5, hs5⟩ : ∃ s5 : SupS, s5 = ⟨crashS s.S acs[k].ps, -1, img, M, sl, false⟩ := ⟨_, rfl⟩
              have hN5 : s.N ≤ s5.N := by rw [hs5]; exact hM
              rw [← hs5] at hO5 hA2
              have hMi : ¬ (s5.N : Int) < (s.N : Int) := by omega
              clear hs5 Hop Hcall hD4 ho4 p0 p2 hblk hst hO hM hN5
              go_wp2_with fail
              refine (number_of hO5.sup).mono ?_
              rintro e w6 ⟨rfl, rfl⟩
              go_wp2_with fail
              refine (number_of hO5.sup).mono ?_
              rintro e w6 ⟨rfl, rfl⟩
              have q2 := hblk5.cell 2
              have f2 := hblk5.free 2
              go_wp2
              go_roundw
              case rel => exact ⟨k + 1, g5, s5, by omega, by omega, by go_num, rfl, hblk5.put 2 _, hO5.put rfl _, .inl hA2⟩
              case measure => simp [intOf]; omega
        · obtain rfl : k = 30 := by omega
          go_wp2_with fail
          refine (known_any wr hO.tb).mono ?_
          rintro e w4 ⟨rfl, hb4⟩
          go_wp2
          go_ret
          exact ⟨rfl, ext_trans hO.bel hb4⟩
      · obtain rfl : k = acs.length := by omega
        go_wp2_with fail
        refine (known_any wr hO.tb).mono ?_
        rintro e w4 ⟨rfl, hb4⟩
        go_wp2
        go_ret
        exact ⟨rfl, ext_trans hO.bel hb4⟩
  · go_wp2
    go_ret
    exact ⟨rfl, hb1⟩

set_option maxRecDepth 100000 in
theorem contract (H : Type) (enc : TypeId × Value → H) (W : World) (base : Nat) (args : Array Value) (ds gs : List (DataW H)) (before : List MemPlace)
    (hval : ∀ (j : Nat) t v, Tryd.f7.params[j]? = some t → args[j]? = some v → Value.okWide Tryd.prog W .any base t v)
    (hW : DataW.Whole enc Tryd.prog Tryd.f7.params.toList Rows.superRisesSpec.vars false W args.toList ds gs before) (hL : laidMetH Tryd.prog Rows.superRisesRow.laid W) :
    Calls Tryd.prog 7 args W fun e W' => ∃ v, e = .returned v ∧ Rows.superRisesSpec.post enc Tryd.prog Tryd.f7 false true false false W args v W' := by
  have ht : Tab W := tab_of_laid hL
  have hW' := hW
  obtain ⟨p, q, hA0, hV, rfl, hfz, hnd⟩ := hW
  have hA : DataW.TrodAll enc Tryd.prog W 0 (fun _ => true) true Tryd.f7.params.toList args.toList ds p := hA0
  rw [Tryd.params7] at hA hval
  obtain ⟨x0, d0, rfl, rfl, h0⟩ := trodAll_one hA
  obtain ⟨A0, n0, c0, xs0, rfl, hn0, hc0, hm0, hr0, hi0⟩ := arg_acts (hval 0 _ x0 rfl rfl) h0
  have walk : Calls Tryd.prog 7 #[.slice A0 n0 c0] W fun e w' => e = .returned (.bool true) ∧ Below W.heap.size W w' := walk A0 n0 c0 xs0 W ht hn0 (Nat.le_trans hc0 hm0) hr0
  refine walk.mono fun e W' ⟨he, hb⟩ => ?_
  subst he
  exact ⟨_, rfl, law_post rfl rfl (by kernel_rfl) ⟨rfl, rfl, rfl⟩ hW' hb⟩

theorem laid_met (os : Os) : laidMet Tryd.prog Rows.superRisesRow.laid ((laidWorld os).forCall (fun _ _ => 0) ⟨#[], #[.slice none 0 0], []⟩).memory :=
  laidMet_of_run' 8 (by kernel_rfl) (by kernel_rfl)
theorem reads (os : Os) {H : Type} (enc : TypeId × Value → H) : ∃ places, DataW.whole enc Tryd.prog ((laidWorld os).forCall (fun _ _ => 0) ⟨#[], #[.slice none 0 0], []⟩).memory Tryd.f7.params.toList Rows.superRisesSpec.vars false #[Value.slice none 0 0].toList 8 = some ([.nil], [], places) :=
  ⟨[], by kernel_rfl⟩

set_option maxRecDepth 100000 in
theorem lifted (os : Os) (started : os.Started) (H : Type) (enc : TypeId × Value → H) (F : Stop.Interp) :
    ReturnsInHanded {} Tryd.checked os 7 .any ((OpenSpec.ofChange Rows.superRisesSpec).preRow enc Tryd.prog Tryd.f7 Rows.superRisesRow.domain false Rows.superRisesRow.laid) (((OpenSpec.ofChange Rows.superRisesSpec).at F).post enc Tryd.prog Tryd.f7 false true false false) := by
  obtain ⟨places, hx⟩ := reads os enc
  refine returnsInHanded_of_row (C := Tryd.checked) (s := OpenSpec.ofChange Rows.superRisesSpec) own started (by kernel_rfl) Tryd.func7
    (witness_row_at (enc := enc) (C := Tryd.checked) false (laidWorld os) #[.slice none 0 0] rfl (by kernel_rfl) (by kernel_rfl) (by kernel_rfl)
      (OpenSpec.preRow_of_cond 8 hx (by kernel_rfl) (fun k hk => by cases hk) (by kernel_rfl) (laid_met os))) ?_
  intro W base args ds gs before hval hW _ _ _ hL _ _
  exact contract H enc W base args ds gs before hval hW hL

theorem said : Rows.SuperRisesSaid :=
  OpenClaim.holds_of_cond 7 Tryd.f7 rfl rfl rfl rfl rfl rfl rfl ⟨rfl, rfl, rfl, rfl, rfl⟩ rfl rfl rfl rfl rfl (by kernel_rfl) Tryd.func7 (by kernel_rfl)
    (of_decide_eq_true (by kernel_rfl)) (by unfold Func.isWrapper; first | (rw [if_pos (by decide +kernel)]; kernel_rfl) | (rw [if_neg (by decide +kernel)]; exact ⟨rfl, rfl⟩))
    (fun os started H enc _ F => by rw [OpenClaim.pre_eq_preRow]; exact lifted os started H enc F)

theorem plain (f : FuncId) (fn : Func) (hf : Tryd.pinned.checked.prog.funcNamed "winnower/winnowerlaw3.SuperRises" = some f) (hfn : Tryd.pinned.checked.prog.funcs[f]? = some fn) :
    false = Tryd.pinned.checked.prog.looks [] ∧ ∀ (j : Nat) t, fn.params[j]? = some t → Tryd.pinned.checked.prog.wantsStandIn t = false := by
  obtain rfl : f = 7 := Option.some.inj ((show Tryd.prog.funcNamed "winnower/winnowerlaw3.SuperRises" = some 7 by kernel_rfl).symm.trans hf) |>.symm
  obtain rfl : fn = Tryd.f7 := (Option.some.inj (Tryd.func7.symm.trans hfn)).symm
  refine ⟨by kernel_rfl, fun j t ht => ?_⟩
  have hall : Tryd.f7.params.all (fun t => !Tryd.prog.wantsStandIn t) = true := by kernel_rfl
  have h1 := Array.all_eq_true'.1 hall t (Array.mem_of_getElem? ht)
  have h2 : Tryd.prog.wantsStandIn t = false := by simpa using h1
  exact h2

/-- THE CARD -/
theorem superRises_card : Rows.SuperRisesCardSaid :=
  Claim7.holds_tied_plain_at .later [] _ _ _ _ said (fun _ h => by cases h) (by kernel_rfl) (fun _ h => by cases h) superRises_row_tie rfl ⟨rfl, rfl⟩ (by kernel_rfl) rfl plain (by kernel_rfl)
end Go.Proofs.YtlpjeopeboemmaaDoor.SuperRises
