/-
  PROVED HERE: OctetTakes's tied card (the first form, every argument): any bytes, taken as somebody asks: what comes, what is left, and whether it erred.
  Conditions: none of our own; the card's row lists the table octet.crcSteps, which the card ties to the program's text.
-/
import Derived.Test.YtdnaabiijihooaaDoorKnown
import Derived.Test.YtdnaabiijihooaaDoorHeavy
import Derived.Test.YtdnaabiijihooaaDoorRoomy
import Derived.Test.YtdnaabiijihooaaDoorRNums3
import Derived.Test.YtdnaabiijihooaaDoorArgs
import Derived.Deep.RegionWith
import Derived.Deep.DeepCutAuto
import Derived.Deep.CutBlock
namespace Go.Proofs.YtdnaabiijihooaaDoor.OctetTakes
open Go Go.ChangeShapes Go.WideShapes Go.ChangeAt Go.RowKit

theorem quiet_l {P : Program} {f : FuncId} {args : Array Value} {w : World} {n : Nat} {v : Value}
    (h : Calls P f args (w.drewN n) fun e w' => e = .returned v ∧ w.drewN n = w') : Calls P f args (w.drewN n) fun e w'' => e = .returned v ∧ ∃ m, w'' = w.drewN m :=
  h.mono fun _ _ ⟨he, hm⟩ => ⟨he, n, hm.symm⟩

set_option maxHeartbeats 1000000 in
theorem walk_exit (A B C : Option Addr) (n m l c d e0 : Nat) (w : World) (h : (4000 : Int) < (n : Int) ∨ (200 : Int) < (m : Int) ∨ l < m) :
    Calls Tryd.prog 5 #[.slice A n c, .slice B m d, .slice C l e0] w fun e w' => e = .returned (.bool true) ∧ Below w.heap.size w w' := by
  by_cases h1 : (4000 : Int) < (n : Int)
  · go_enter Tryd.func5, Tryd.ntmps5
    go_wp2
    go_ret
    exact ⟨rfl, Below.refl _ _⟩
  have d1 : decide ((4000 : Int) < (n : Int)) = false := decide_eq_false h1
  by_cases h2 : (200 : Int) < (m : Int)
  · clear h
    go_enter Tryd.func5, Tryd.ntmps5
    go_wp2
    go_ret
    exact ⟨rfl, Below.refl _ _⟩
  have d2 : decide ((200 : Int) < (m : Int)) = false := decide_eq_false h2
  have h3 : l < m := by omega
  have d3 : decide (l < m) = true := decide_eq_true h3
  clear h
  go_enter Tryd.func5, Tryd.ntmps5
  go_wp2
  go_ret
  exact ⟨rfl, Below.refl _ _⟩

set_option maxRecDepth 100000 in
set_option maxHeartbeats 40000000 in
theorem walk_in (A B C : Option Addr) (n m l c d e0 : Nat) (xs : List UInt8) (ks ns : List Int) (w : World) (ht : Tab w) (hn : n = xs.length) (hm : m = ks.length) (hl : l = ns.length) (hr : Rd w A (xs.map bv)) (hk : Rd w B (ks.map iv)) (hns : Rd w C (ns.map iv)) (hni : ∀ v ∈ ns, isInt v)
    (h1 : ¬ (4000 : Int) < (n : Int)) (h2 : ¬ (200 : Int) < (m : Int)) (h3 : ¬ l < m) :
    Calls Tryd.prog 5 #[.slice A n c, .slice B m d, .slice C l e0] w fun e w' => e = .returned (.bool true) ∧ Below w.heap.size w w' := by
  subst hn hm hl
  have hx4 : xs.length ≤ 4000 := by omega
  have hk2 : ks.length ≤ 200 := by omega
  have d1 : decide ((4000 : Int) < (xs.length : Int)) = false := decide_eq_false h1
  have d2 : decide ((200 : Int) < (ks.length : Int)) = false := decide_eq_false h2
  have d3 : decide (ns.length < ks.length) = false := decide_eq_false h3
  have hk1 : 0 + xs.length ≤ maxLen := by unfold maxLen; omega
  have hk1' : (0 + xs.length) * 1 ≤ 140737488355328 := by omega
  have h0 := Lib.hid (show xs.length = (xs.map bv).length by rw [List.length_map])
  go_enter Tryd.func5, Tryd.ntmps5
  go_wp2_with fail
  refine (roomy_any A _ c xs _ rfl hr (by omega)).mono ?_
  rintro e w1 ⟨A1, c1, rfl, hn1, hb1⟩
  have hcap1 := Own.cap hn1
  rw [List.length_map, List.length_append] at hcap1
  have hcap1' : xs.length + 1 ≤ c1 := hcap1
  have hA1 : Rd w1 A1 (xs.map bv) := by
    have := hn1.rd.take xs.length
    rwa [← List.map_take, List.take_left' rfl] at this
  clear hcap1
  go_wp2_with fail
  refine (newreader A1 _ c1 xs _ rfl (by omega) hA1 (by omega)).mono ?_
  rintro e w2 ⟨g, rfl, hrd, hb2⟩
  have hb02 := ext_trans hb1 hb2
  have hr2 := hr.ext hb02
  go_wp2_with (at_builtin
               refine wpList_app _ (fp := fun k => w2.heap.size ≤ k ∧ k < w2.heap.size + 1) rfl (.tmp 40) (.tmp 41) _ rfl _ _ 1 Tryd.underlying23 info_u8 rfl (some ⟨w2.heap.size, 0, none⟩) 0 0 [] rfl rfl (Own.lit w2 _ #[] _ (by unfold maxLen; simp) (by omega)) A xs.length c (xs.map bv) rfl h0.out (hr2.alloc _) (bvs_one _) hk1 hk1' ?_
               intro A3 c3 w3 hown3 honly3)
  have s3 := honly3.size
  rw [World.size_alloc] at s3
  have hb23 : Below w2.heap.size w2 w3 := ((Below.refl _ _).alloc (Nat.le_refl _) _).trans (honly3.below (fun _ h => h.1) (by simp))
  have hcap3 := hown3.cap
  rw [List.nil_append, List.length_map] at hcap3
  have hfr4 : RRd (w3.alloc (.cells #[.slice A3 xs.length c3, .bool false] 45)) (fun j => w2.heap.size ≤ j ∧ j < (w3.alloc (.cells #[.slice A3 xs.length c3, .bool false] 45)).heap.size) w3.heap.size xs false := by
    refine ⟨?_, fun h => by simp at h, A3, c3, Blk.new _ _ _, ?_, fun ad e _ => ?_, hcap3⟩
    · rw [World.size_alloc]; omega
    · have := hown3.rd
      rw [List.nil_append] at this
      exact this.alloc _
    · rcases hown3.some_ with ⟨h, _⟩ | ⟨q, h, hf, hl⟩
      · rw [h] at e; cases e
      · rw [h] at e; injection e with e; subst e
        have hf2 : w2.heap.size ≤ q := by
          rcases hf with hf | hf
          · exact hf.1
          · have := hf.1; rw [World.size_alloc] at this; omega
        rw [World.size_alloc]
        show (_ ≤ q ∧ q < _) ∧ q ≠ _
        omega
  have hb24 : Below w2.heap.size w2 (w3.alloc (.cells #[.slice A3 xs.length c3, .bool false] 45)) := hb23.alloc hb23.size _
  have hg2 : ∃ g2, g2 = w3.heap.size := ⟨_, rfl⟩
  obtain ⟨g2, hg2⟩ := hg2
  rw [← hg2] at hfr4 ⊢
  clear hg2 hown3 honly3 s3 hb23
  generalize w3.alloc (.cells #[.slice A3 xs.length c3, .bool false] 45) = w4 at *
  have hb14 := ext_trans hb2 hb24
  have hb04 := ext_trans hb1 hb14
  have hrd4 := hrd.ext hb24
  have s24 := hb24.size
  have s12 := hb2.size
  have s01 := hb1.size
  have hgg : g ≠ g2 := by have h1 := hrd.1; have h2 := hfr4.1; omega
  have hgw : w1.heap.size ≤ g ∧ g < w2.heap.size := hrd.1
  have hg2w : w2.heap.size ≤ g2 ∧ g2 < w4.heap.size := hfr4.1
  clear hrd hb24
  go_wp2
  go_loopw [10] (fun i wr => ∃ (k : Nat) (bs : List UInt8) (bad : Bool), k ≤ ks.length ∧ i = .int .i64 (k : Int) ∧ Rdr wr (fun j => w1.heap.size ≤ j ∧ j < w2.heap.size) g bs bad ∧ RRd wr (fun j => w2.heap.size ≤ j ∧ j < w4.heap.size) g2 bs bad ∧ bs.length ≤ 4000 ∧ Below w1.heap.size w1 wr ∧ w4.heap.size ≤ wr.heap.size) (fun i _ => ks.length - (intOf i).toNat)
  case atStart => exact ⟨0, xs, false, Nat.zero_le _, rfl, hrd4, hfr4, hx4, hb14, Nat.le_refl _⟩
  case round =>
    obtain ⟨k, bs, bad, hkl, rfl, hR, hF, hbl, hbr, hsr⟩ := hrel
    have hb0r := ext_trans hb1 hbr
    by_cases hlt : k < ks.length
    · obtain ⟨adk, rfl, hck0⟩ := hk.at_ (k := k) (by simpa using hlt)
      have hckb : adk.block < w.heap.size := by have := World.block_lt_of_cell? w _ hck0; rwa [block_add] at this
      have hck : wr.cell? (adk.add k) = some (.int .i64 ks[k]) := (hb0r.cell (p := adk.add k) (by rw [block_add]; exact hckb)).trans (by rw [hck0]; simp [iv])
      generalize ks[k] = kd at *
      clear hck0
      have hstep : Hid (∀ (w5 w6 : World), Only (fun j => j = g) wr w5 → Only (fun j => j = g2) w5 w6 → Below w1.heap.size w1 w6 ∧ w4.heap.size ≤ w6.heap.size) := fun w5 w6 o5 o6 => by
        have q1 : Below w1.heap.size w1 w5 := hbr.trans (o5.below (by intro i hi; omega) hbr.size)
        have q2 : Below w1.heap.size w1 w6 := q1.trans (o6.below (by intro i hi; omega) q1.size)
        exact ⟨q2, Nat.le_trans hsr (Nat.le_trans o5.size o6.size)⟩
      go_upto_block 2 with fail
      go_cut [11] (fun ok wx => ok = .bool true ∧ ∃ (b2 : List UInt8) (bd2 : Bool), Rdr wx (fun j => w1.heap.size ≤ j ∧ j < w2.heap.size) g b2 bd2 ∧ RRd wx (fun j => w2.heap.size ≤ j ∧ j < w4.heap.size) g2 b2 bd2 ∧ b2.length ≤ 4000 ∧ Below w1.heap.size w1 wx ∧ w4.heap.size ≤ wx.heap.size)
      case rest =>
        obtain ⟨rfl, b2, bd2, hRt, hFt, hlt2, hbt, hst⟩ := hcut
        obtain ⟨wt, rfl⟩ : ∃ wt : World, wt = wc := ⟨_, rfl⟩
        clear hR hF hck hbr hsr hb0r hstep
        have hEc : wt.cell? ⟨g2, 1, none⟩ = some (.bool bd2) := by obtain ⟨_, _, _, _, hb, _⟩ := hFt; exact hb.cell 1
        obtain ⟨AB, cB, hBc⟩ : ∃ AB cB, wt.cell? ⟨g2, 0, none⟩ = some (.slice AB b2.length cB) := by obtain ⟨_, _, AB, cB, hb, _⟩ := hFt; exact ⟨AB, cB, hb.cell 0⟩
        have hrel : ∀ W, (∃ q, W = wt.drewN q) → Rdr W (fun j => w1.heap.size ≤ j ∧ j < w2.heap.size) g b2 bd2 ∧ RRd W (fun j => w2.heap.size ≤ j ∧ j < w4.heap.size) g2 b2 bd2 ∧ b2.length ≤ 4000 ∧ Below w1.heap.size w1 W ∧ w4.heap.size ≤ W.heap.size := by
          rintro W ⟨q, rfl⟩
          exact ⟨hRt.drewN q, hFt.drewN q, hlt2, ext_drewN hbt q, hst⟩
        have Hrel := Lib.hid hrel
        clear hrel
        cases bd2
        · go_wp2
          go_quiet (first
            | (go_at_call 28; exact quiet_l (rleft _ g b2 _ _ (hRt.drewN _)))
            | (go_at_call 18; exact quiet_l (rgood _ g b2 _ _ (hRt.drewN _)))
            | (go_at_call 19; exact quiet_l (rwhole _ g b2 _ (hRt.drewN _)))
            | (go_at_call 36; exact quiet_l (refwhole _ g2 b2 _ (hFt.drewN _))))
          go_wp2
          go_roundw
          case rel => exact ⟨k + 1, b2, false, by omega, by go_num, Hrel.out _ ⟨_, rfl⟩⟩
          case measure => simp [intOf]; omega
        · go_wp2
          go_quiet (first
            | (go_at_call 28; exact quiet_l (rleft _ g b2 _ _ (hRt.drewN _)))
            | (go_at_call 18; exact quiet_l (rgood _ g b2 _ _ (hRt.drewN _)))
            | (go_at_call 19; exact quiet_l (rwhole_bad _ g b2 _ (hRt.drewN _)))
            | (go_at_call 36; exact quiet_l (refwhole_bad _ g2 b2 _ (hFt.drewN _))))
          go_wp2
          go_roundw
          case rel => exact ⟨k + 1, b2, true, by omega, by go_num, Hrel.out _ ⟨_, rfl⟩⟩
          case measure => simp [intOf]; omega
      have hcase : kd = 1 ∨ kd = 2 ∨ kd = 3 ∨ kd = 4 ∨ (kd ≠ 1 ∧ kd ≠ 2 ∧ kd ≠ 3 ∧ kd ≠ 4) := by omega
      rcases hcase with rfl | rfl | rfl | rfl | ⟨n1, n2, n3, n4⟩
      · -- a number
        go_wp2_with fail
        refine (rnum_st _ g bs bad _ hR (by omega)).mono ?_
        rintro e w5 ⟨rfl, hR5, o5⟩
        go_wp2_with fail
        refine (refnum_st _ g2 bs bad _ (hF.only o5 (fun j hj h => by omega)) (by omega)).mono ?_
        rintro e wt ⟨rfl, hFt, ot⟩
        have hRt := hR5.only ot (fun j hj h => by omega)
        obtain ⟨hbt, hst⟩ := hstep.out _ _ o5 ot
        have hlt2 := Nat.le_trans (stNum_len bs bad) hbl
        clear hR hF hR5 o5 ot hck hbr hsr hb0r hstep
        generalize (stNum bs bad).2.1 = b2 at *
        generalize (stNum bs bad).2.2 = bd2 at *
        go_wp2
        go_meet
        case rel => exact ⟨rfl, b2, bd2, hRt, hFt, hlt2, hbt, hst⟩
      · -- a row
        go_wp2_with fail
        refine (rbytes_st _ g bs bad _ hR (by omega)).mono ?_
        rintro e w5 ⟨A5, c5, rfl, hn5, hR5, o5⟩
        go_wp2_with fail
        refine (refbytes_st _ g2 bs bad _ (hF.only o5 (fun j hj h => by omega)) (by omega)).mono ?_
        rintro e w6 ⟨A6, c6, rfl, hn6, hF6, o6⟩
        have hR6 := hR5.only o6 (fun j hj h => by omega)
        obtain ⟨hb6, hs6⟩ := hstep.out _ _ o5 o6
        have hl2 := stBytes_len bs bad
        have s5 := o5.size
        have s6 := o6.size
        have hO6 : Own w6 (fun j => wr.heap.size ≤ j ∧ j < w5.heap.size) 5 A5 c5 ((stBytes bs bad).1.map bv) := Own.only hn5 o6 (fun j hj h => by omega)
        clear hn5 hR5 hck
        go_wp2_with fail
        refine (same_yes A5 A6 _ _ c5 c6 _ _ rfl rfl hO6.rd hn6.rd (by omega)).mono ?_
        rintro e w7 ⟨rfl, q, hq⟩
        have hO7 : Own w7 (fun j => wr.heap.size ≤ j ∧ j < w5.heap.size) 5 A5 c5 ((stBytes bs bad).1.map bv) := by rw [hq]; exact hO6
        have hR7 : Rdr w7 (fun j => w1.heap.size ≤ j ∧ j < w2.heap.size) g (stBytes bs bad).2.1 (stBytes bs bad).2.2 := by rw [hq]; exact hR6
        have hF7 : RRd w7 (fun j => w2.heap.size ≤ j ∧ j < w4.heap.size) g2 (stBytes bs bad).2.1 (stBytes bs bad).2.2 := by rw [hq]; exact hF6
        have hb7 : Below w1.heap.size w1 w7 := by rw [hq]; exact ext_drewN hb6 q
        have hs7 : w4.heap.size ≤ w7.heap.size := by rw [hq]; exact hs6
        clear hq hO6 hR6 hF6 hn6 o5 o6
        go_wp2_with fail
        refine (spoil_any _ A5 _ c5 _ _ (by simp) hO7 (by simp; omega)).mono ?_
        rintro e wt ⟨rfl, ot⟩
        have hRt := hR7.only ot (fun j hj h => by omega)
        have hFt := hF7.only ot (fun j hj h => by omega)
        have hbt : Below w1.heap.size w1 wt := hb7.trans (ot.below (fun i hi => Nat.le_trans hbr.size hi.1) hb7.size)
        have hst : w4.heap.size ≤ wt.heap.size := Nat.le_trans hs7 ot.size
        have hlt2 := Nat.le_trans hl2.1 hbl
        clear hR hF hR7 hF7 hO7 ot hbr hsr hb0r hstep hb6 hs6 hb7 hs7 hl2 s5 s6
        generalize (stBytes bs bad).2.1 = b2 at *
        generalize (stBytes bs bad).2.2 = bd2 at *
        go_wp2
        go_meet
        case rel => exact ⟨rfl, b2, bd2, hRt, hFt, hlt2, hbt, hst⟩
      · -- raw bytes
        obtain ⟨adn, rfl, hcn0⟩ := hns.at_ (k := k) (by simp; omega)
        have hcnb : adn.block < w.heap.size := by have := World.block_lt_of_cell? w _ hcn0; rwa [block_add] at this
        have hvi : isInt ns[k] := hni _ (List.getElem_mem (by omega))
        have hcn : wr.cell? (adn.add k) = some (.int .i64 ns[k]) := (hb0r.cell (p := adn.add k) (by rw [block_add]; exact hcnb)).trans (by rw [hcn0]; simp [iv])
        generalize ns[k] = v at *
        have hl2 := stRaw_len bs bad v
        have h29 : Hid (∀ W, (∃ q, W = wr.drewN q) → Calls Tryd.prog 29 #[.pointer (some ⟨g, 0, none⟩), .int .i64 v] W fun e w' => ∃ A' c', e = .returned (.slice A' (stRaw bs bad v).1.length c') ∧ Rd w' A' ((stRaw bs bad v).1.map bv) ∧ (∀ ad, A' = some ad → wr.heap.size ≤ ad.block ∧ ad.block < w'.heap.size) ∧
            Rdr w' (fun j => w1.heap.size ≤ j ∧ j < w2.heap.size) g (stRaw bs bad v).2.1 (stRaw bs bad v).2.2 ∧ RRd w' (fun j => w2.heap.size ≤ j ∧ j < w4.heap.size) g2 bs bad ∧ Only (fun j => j = g) wr w' ∧ w'.cell? (adn.add k) = some (.int .i64 v)) := by
          rintro W ⟨q, rfl⟩
          refine (rraw_st _ g bs bad (wr.drewN q) v hvi (hR.drewN q) (by omega)).mono ?_
          rintro e w5 ⟨A5, c5, rfl, hn5, hR5, o5⟩
          have o5' : Only (fun j => j = g) wr w5 := ⟨o5.os, o5.tape, o5.output, o5.size, o5.block⟩
          refine ⟨A5, c5, rfl, hn5.rd, fun ad e => hn5.2 ad e, hR5, hF.only o5' (fun j hj h => by omega), o5', ?_⟩
          have h1 : w5.heap[adn.block]? = wr.heap[adn.block]? := o5'.block _ (Nat.lt_of_lt_of_le hcnb hb0r.size) (by omega)
          exact (World.cell?_of_block (by rw [block_add]; exact h1)).trans hcn
        have h32 : Hid (∀ w5 W A5, (∃ q, W = w5.drewN q) → Rd w5 A5 ((stRaw bs bad v).1.map bv) → (∀ ad, A5 = some ad → wr.heap.size ≤ ad.block ∧ ad.block < w5.heap.size) →
            Rdr w5 (fun j => w1.heap.size ≤ j ∧ j < w2.heap.size) g (stRaw bs bad v).2.1 (stRaw bs bad v).2.2 → RRd w5 (fun j => w2.heap.size ≤ j ∧ j < w4.heap.size) g2 bs bad → Only (fun j => j = g) wr w5 →
            Calls Tryd.prog 32 #[.pointer (some ⟨g2, 0, none⟩), .int .i64 v] W fun e w' => ∃ A' c', e = .returned (.slice A' (stRaw bs bad v).1.length c') ∧ Rd w' A' ((stRaw bs bad v).1.map bv) ∧ Rd w' A5 ((stRaw bs bad v).1.map bv) ∧
            Rdr w' (fun j => w1.heap.size ≤ j ∧ j < w2.heap.size) g (stRaw bs bad v).2.1 (stRaw bs bad v).2.2 ∧ RRd w' (fun j => w2.heap.size ≤ j ∧ j < w4.heap.size) g2 (stRaw bs bad v).2.1 (stRaw bs bad v).2.2 ∧ Below w1.heap.size w1 w' ∧ w4.heap.size ≤ w'.heap.size) := by
          rintro w5 W A5 ⟨q, rfl⟩ hA5 hA5b hR5 hF5 o5
          refine (refraw_st _ g2 bs bad (w5.drewN q) v (hF5.drewN q) (by omega)).mono ?_
          rintro e w6 ⟨A6, c6, rfl, hn6, hF6, o6⟩
          have o6' : Only (fun j => j = g2) w5 w6 := ⟨o6.os, o6.tape, o6.output, o6.size, o6.block⟩
          obtain ⟨q1, q2⟩ := hstep.out _ _ o5 o6'
          exact ⟨A6, c6, rfl, hn6.rd, hA5.only o6' (fun ad e _ h => by have := (hA5b ad e).1; omega), hR5.only o6' (fun j hj h => by omega), hF6, q1, q2⟩
        have h13 : Hid (∀ w6 W A5 A6 c5 c6, (∃ q, W = w6.drewN q) → Rd w6 A6 ((stRaw bs bad v).1.map bv) → Rd w6 A5 ((stRaw bs bad v).1.map bv) →
            Rdr w6 (fun j => w1.heap.size ≤ j ∧ j < w2.heap.size) g (stRaw bs bad v).2.1 (stRaw bs bad v).2.2 → RRd w6 (fun j => w2.heap.size ≤ j ∧ j < w4.heap.size) g2 (stRaw bs bad v).2.1 (stRaw bs bad v).2.2 → Below w1.heap.size w1 w6 → w4.heap.size ≤ w6.heap.size →
            Calls Tryd.prog 13 #[.slice A5 (stRaw bs bad v).1.length c5, .slice A6 (stRaw bs bad v).1.length c6] W fun e w' => e = .returned (.bool true) ∧
            Rdr w' (fun j => w1.heap.size ≤ j ∧ j < w2.heap.size) g (stRaw bs bad v).2.1 (stRaw bs bad v).2.2 ∧ RRd w' (fun j => w2.heap.size ≤ j ∧ j < w4.heap.size) g2 (stRaw bs bad v).2.1 (stRaw bs bad v).2.2 ∧ Below w1.heap.size w1 w' ∧ w4.heap.size ≤ w'.heap.size) := by
          rintro w6 W A5 A6 c5 c6 ⟨q, rfl⟩ hA6 hA5 hR6 hF6 hb6 hs6
          refine (same_yes A5 A6 _ _ c5 c6 _ (w6.drewN q) rfl rfl (hA5.drewN q) (hA6.drewN q) (by omega)).mono ?_
          rintro e w7 ⟨rfl, q2, rfl⟩
          exact ⟨rfl, (hR6.drewN q).drewN q2, (hF6.drewN q).drewN q2, ext_drewN (ext_drewN hb6 q) q2, hs6⟩
        have hlt2 : (stRaw bs bad v).2.1.length ≤ 4000 := Nat.le_trans hl2.1 hbl
        clear hcn0 hR hF hl2
        generalize (stRaw bs bad v).1 = ys at *
        generalize (stRaw bs bad v).2.1 = b2 at *
        generalize (stRaw bs bad v).2.2 = bd2 at *
        have hk0 : (0 : Int) ≤ (k : Int) := by omega
        go_wp2
        go_region_with (first
          | (go_at_call 29; refine (h29.out _ ?_).mono ?_; (first | exact ⟨0, rfl⟩ | exact ⟨1, rfl⟩ | exact ⟨_, rfl⟩); rintro e5 w5 ⟨A5, c5, rfl, hA5, hA5b, hR5, hF5, o5, hc5⟩)
          | (go_at_call 32; refine (h32.out w5 _ A5 ?_ hA5 hA5b hR5 hF5 o5).mono ?_; (first | exact ⟨0, rfl⟩ | exact ⟨1, rfl⟩ | exact ⟨_, rfl⟩); rintro e6 w6 ⟨A6, c6, rfl, hA6, hA56, hR6, hF6, hb6, hs6⟩)
          | (go_at_call 13; refine (h13.out w6 _ A5 A6 c5 c6 ?_ hA6 hA56 hR6 hF6 hb6 hs6).mono ?_; (first | exact ⟨0, rfl⟩ | exact ⟨1, rfl⟩ | exact ⟨_, rfl⟩); rintro e7 wt ⟨rfl, hRt, hFt, hbt, hst⟩))
        all_goals
          clear h29 h32 h13 hR5 hF5 o5 hc5 hA5b hA5 hA6 hA56 hR6 hF6 hb6 hs6 hck hcn hbr hsr hb0r hstep
          go_wp2
          go_meet
          case rel => first | exact ⟨rfl, b2, bd2, hRt, hFt, hlt2, hbt, hst⟩ | exact ⟨rfl, b2, bd2, hRt.drewN _, hFt.drewN _, hlt2, ext_drewN hbt _, hst⟩
      · -- Bad
        go_wp2_with fail
        refine (rbad _ g bs bad _ hR).mono ?_
        rintro e w5 ⟨rfl, hR5, o5⟩
        go_wp2_with fail
        refine (refbad _ g2 bs bad _ (hF.only o5 (fun j hj h => by omega))).mono ?_
        rintro e wt ⟨rfl, hFt, ot⟩
        have hRt := hR5.only ot (fun j hj h => by omega)
        obtain ⟨hbt, hst⟩ := hstep.out _ _ o5 ot
        have hlt2 : ([] : List UInt8).length ≤ 4000 := by simp
        clear hR hF hR5 o5 ot hck hbr hsr hb0r hstep
        generalize ([] : List UInt8) = b2 at *
        obtain ⟨bd2, hbd2⟩ : ∃ bd2, bd2 = true := ⟨_, rfl⟩
        rw [← hbd2] at hRt hFt
        clear hbd2
        go_wp2
        go_meet
        case rel => exact ⟨rfl, b2, bd2, hRt, hFt, hlt2, hbt, hst⟩
      · -- two numbers at once
        have m1 : (kd == 1) = false := beq_eq_false_iff_ne.2 n1
        have m2 : (kd == 2) = false := beq_eq_false_iff_ne.2 n2
        have m3 : (kd == 3) = false := beq_eq_false_iff_ne.2 n3
        have m4 : (kd == 4) = false := beq_eq_false_iff_ne.2 n4
        clear n1 n2 n3 n4
        have b1 := stNum_len bs bad
        have b2' : (st2 bs bad).2.1.length ≤ (stNum bs bad).2.1.length := stNum_len _ _
        have b3 : (st3 bs bad).2.1.length ≤ (st2 bs bad).2.1.length := stNum_len _ _
        have hW : ∃ W3, W3 = (((wr.alloc (.cells #[.int .i64 7] 3)).alloc (.cells #[.int .i64 7] 3)).alloc (.cells #[.pointer (some ⟨wr.heap.size, 0, none⟩), .pointer none, .pointer (some ⟨wr.heap.size + 1, 0, none⟩)] 47)) := ⟨_, rfl⟩
        obtain ⟨W3, hW⟩ := hW
        have hba : Blk W3 wr.heap.size 3 #[.int .i64 7] := by rw [hW]; exact ((Blk.new wr _ _).alloc _).alloc _
        have hbc : Blk W3 (wr.heap.size + 1) 3 #[.int .i64 7] := by
          have h := Blk.new (wr.alloc (.cells #[.int .i64 7] 3)) 3 #[.int .i64 7]
          rw [World.size_alloc] at h
          rw [hW]; exact h.alloc _
        have hbl3 : Blk W3 (wr.heap.size + 1 + 1) 47 #[.pointer (some ⟨wr.heap.size, 0, none⟩), .pointer none, .pointer (some ⟨wr.heap.size + 1, 0, none⟩)] := by
          have h := Blk.new ((wr.alloc (.cells #[.int .i64 7] 3)).alloc (.cells #[.int .i64 7] 3)) 47 #[.pointer (some ⟨wr.heap.size, 0, none⟩), .pointer none, .pointer (some ⟨wr.heap.size + 1, 0, none⟩)]
          rw [World.size_alloc, World.size_alloc] at h
          rw [hW]; exact h
        have hrW : Below wr.heap.size wr W3 := by rw [hW]; exact (((Below.refl _ _).alloc (Nat.le_refl _) _).alloc (by simp) _).alloc (by simp; omega) _
        have hRW := hR.ext hrW
        have hFW := hF.ext hrW
        have HW := Lib.hid hW
        clear hW hR hF
        go_wp2_with fail
        rw [← HW.out]
        refine (rnums3 _ g wr.heap.size (wr.heap.size + 1) (wr.heap.size + 1 + 1) 3 3 7 7 bs bad W3 hRW (by omega) rfl hbl3 hba hbc (by omega) (by omega) (by omega) (by omega)).mono ?_
        rintro e w5 ⟨rfl, hR5, ha5, hc5, o5⟩
        have hF5 := hFW.only o5 (fun j hj h => by omega)
        have hb5 : Below w1.heap.size w1 w5 := (hbr.trans (hrW.mono hbr.size)).trans (o5.below (by intro i hi; have := hbr.size; omega) (Nat.le_trans hbr.size hrW.size))
        have hs5 : w4.heap.size ≤ w5.heap.size := Nat.le_trans hsr (Nat.le_trans hrW.size o5.size)
        clear hbl3 hba hbc hRW hFW o5 HW
        go_wp2_with fail
        refine (refnum_st _ g2 bs bad _ hF5 (by omega)).mono ?_
        rintro e w6 ⟨rfl, hF6, o6⟩
        have hR6 := hR5.only o6 (fun j hj h => by omega)
        have ha6 := ha5.only o6 (fun h => by omega)
        have hc6 := hc5.only o6 (fun h => by omega)
        have hb6 : Below w1.heap.size w1 w6 := hb5.trans (o6.below (by intro i hi; omega) hb5.size)
        have hs6 := Nat.le_trans hs5 o6.size
        clear hR5 ha5 hc5 hF5
        go_wp2_with fail
        refine (refnum_st _ g2 _ _ _ hF6 (by omega)).mono ?_
        rintro e w7 ⟨rfl, hF7, o7⟩
        have hR7 := hR6.only o7 (fun j hj h => by omega)
        have ha7 := ha6.only o7 (fun h => by omega)
        have hc7 := hc6.only o7 (fun h => by omega)
        have hb7 : Below w1.heap.size w1 w7 := hb6.trans (o7.below (by intro i hi; omega) hb6.size)
        have hs7 := Nat.le_trans hs6 o7.size
        have hg2r : g2 < wr.heap.size := by omega
        have h30 : Hid (∀ W, (∃ q, W = w7.drewN q) → Calls Tryd.prog 30 #[.pointer (some ⟨g2, 0, none⟩)] W fun e w' => e = .returned (.int .i64 ((st3 bs bad).1 : Int)) ∧
            Rdr w' (fun j => w1.heap.size ≤ j ∧ j < w2.heap.size) g (st3 bs bad).2.1 (st3 bs bad).2.2 ∧ RRd w' (fun j => w2.heap.size ≤ j ∧ j < w4.heap.size) g2 (st3 bs bad).2.1 (st3 bs bad).2.2 ∧ Below w1.heap.size w1 w' ∧ w4.heap.size ≤ w'.heap.size ∧
            w'.cell? ⟨wr.heap.size, 0, none⟩ = some (.int .i64 ((stNum bs bad).1 : Int)) ∧ w'.cell? ⟨wr.heap.size + 1, 0, none⟩ = some (.int .i64 ((st3 bs bad).1 : Int))) := by
          rintro W ⟨q, rfl⟩
          refine (refnum_st _ g2 (st2 bs bad).2.1 (st2 bs bad).2.2 (w7.drewN q) (hF7.drewN q) (by omega)).mono ?_
          rintro e w8 ⟨rfl, hF8, o8⟩
          have o8' : Only (fun j => j = g2) w7 w8 := ⟨o8.os, o8.tape, o8.output, o8.size, o8.block⟩
          exact ⟨rfl, hR7.only o8' (fun j hj h => by omega), hF8, hb7.trans (o8'.below (by intro i hi; omega) hb7.size), Nat.le_trans hs7 o8.size, (ha7.only o8' (fun h => by omega)).cell 0, (hc7.only o8' (fun h => by omega)).cell 0⟩
        have qa := ha7.cell 0
        have qc := hc7.cell 0
        simp only [List.getElem?_toArray, List.getElem?_cons_zero] at qa qc
        have hlt2 : (st3 bs bad).2.1.length ≤ 4000 := by omega
        clear hR6 ha6 hc6 hF6 hb5 hs5 hb6 hs6 o6 o7 hR7 ha7 hc7 hF7 hb7 hs7 b1 b2' b3 hrW hck
        generalize (stNum bs bad).1 = N1 at *
        generalize (st3 bs bad).1 = N3 at *
        generalize (st3 bs bad).2.1 = b2 at *
        generalize (st3 bs bad).2.2 = bd2 at *
        go_wp2
        go_region_with (go_at_call 30; refine (h30.out _ ?_).mono ?_; (first | exact ⟨0, rfl⟩ | exact ⟨1, rfl⟩ | exact ⟨_, rfl⟩); rintro e8 wt ⟨rfl, hRt, hFt, hbt, hst, qa8, qc8⟩)
        all_goals
          clear h30 qa qc qa8 qc8 hbr hsr hb0r hstep hg2r
          go_wp2
          go_meet
          case rel => first | exact ⟨rfl, b2, bd2, hRt, hFt, hlt2, hbt, hst⟩ | exact ⟨rfl, b2, bd2, hRt.drewN _, hFt.drewN _, hlt2, ext_drewN hbt _, hst⟩
    · obtain rfl : k = ks.length := by omega
      have hx := hn1.rd.ext hbr
      have ht0 := ht.ext hb0r
      go_wp2_with fail
      refine (stands_yes A1 A _ _ c1 c xs _ rfl rfl hcap1' hx (hr.ext hb0r) (by omega)).mono ?_
      rintro e w5 ⟨rfl, q, rfl⟩
      have hbf := ext_drewN hb0r q
      cases bad
      · go_wp2_with (first
          | (go_at_call 19; refine (rwhole _ g bs _ (hR.drewN q)).mono ?_; rintro e8 w8 ⟨rfl, rfl⟩)
          | (go_at_call 36; refine (refwhole _ g2 bs _ (hF.drewN q)).mono ?_; rintro e8 w8 ⟨rfl, rfl⟩)
          | (go_at_call 20; refine (known_any _ (ht.ext hbf)).mono ?_; rintro e9 w9 ⟨rfl, hb9⟩))
        go_ret
        exact ⟨rfl, ext_trans hbf hb9⟩
      · go_wp2_with (first
          | (go_at_call 19; refine (rwhole_bad _ g bs _ (hR.drewN q)).mono ?_; rintro e8 w8 ⟨rfl, rfl⟩)
          | (go_at_call 36; refine (refwhole_bad _ g2 bs _ (hF.drewN q)).mono ?_; rintro e8 w8 ⟨rfl, rfl⟩)
          | (go_at_call 20; refine (known_any _ (ht.ext hbf)).mono ?_; rintro e9 w9 ⟨rfl, hb9⟩))
        go_ret
        exact ⟨rfl, ext_trans hbf hb9⟩

theorem walk (A B C : Option Addr) (n m l c d e0 : Nat) (xs : List UInt8) (ks ns : List Int) (w : World) (ht : Tab w) (hn : n = xs.length) (hm : m = ks.length) (hl : l = ns.length) (hr : Rd w A (xs.map bv)) (hk : Rd w B (ks.map iv)) (hns : Rd w C (ns.map iv)) (hni : ∀ v ∈ ns, isInt v) :
    Calls Tryd.prog 5 #[.slice A n c, .slice B m d, .slice C l e0] w fun e w' => e = .returned (.bool true) ∧ Below w.heap.size w w' := by
  by_cases h : (4000 : Int) < (n : Int) ∨ (200 : Int) < (m : Int) ∨ l < m
  · exact walk_exit A B C n m l c d e0 w h
  · exact walk_in A B C n m l c d e0 xs ks ns w ht hn hm hl hr hk hns hni (fun h1 => h (.inl h1)) (fun h1 => h (.inr (.inl h1))) (fun h1 => h (.inr (.inr h1)))

theorem contract (H : Type) (enc : TypeId × Value → H) (W : World) (base : Nat) (args : Array Value) (ds gs : List (DataW H)) (before : List MemPlace)
    (hval : ∀ (j : Nat) t v, Tryd.f5.params[j]? = some t → args[j]? = some v → Value.okWide Tryd.prog W .any base t v)
    (hW : DataW.Whole enc Tryd.prog Tryd.f5.params.toList Rows.octetTakesSpec.vars false W args.toList ds gs before) (hL : laidMetH Tryd.prog Rows.octetTakesRow.laid W) :
    Calls Tryd.prog 5 args W fun e W' => ∃ v, e = .returned v ∧ Rows.octetTakesSpec.post enc Tryd.prog Tryd.f5 false true false false W args v W' := by
  have ht : Tab W := tab_of_laid hL
  have hW' := hW
  obtain ⟨p, q, hA0, hV, rfl, hfz, hnd⟩ := hW
  have hA : DataW.TrodAll enc Tryd.prog W 0 (fun _ => true) true Tryd.f5.params.toList args.toList ds p := hA0
  rw [Tryd.params5] at hA hval
  obtain ⟨x0, x1, x2, d0, d1, d2, p0, p1, p2, rfl, rfl, rfl, h0, h1, h2⟩ := trodAll_three hA
  obtain ⟨A0, n0, c0, xs0, rfl, hn0, hc0, hm0, hr0⟩ := arg_bytes (hval 0 _ x0 rfl rfl) h0
  obtain ⟨A1, n1, c1, xs1, rfl, hn1, hc1, hm1, hr1, hi1⟩ := arg_ints (hval 1 _ x1 rfl rfl) h1
  obtain ⟨A2, n2, c2, xs2, rfl, hn2, hc2, hm2, hr2, hi2⟩ := arg_ints (hval 2 _ x2 rfl rfl) h2
  have walk : Calls Tryd.prog 5 #[.slice A0 n0 c0, .slice A1 n1 c1, .slice A2 n2 c2] W fun e w' => e = .returned (.bool true) ∧ Below W.heap.size W w' := walk A0 A1 A2 n0 n1 n2 c0 c1 c2 xs0 xs1 xs2 W ht hn0 hn1 hn2 hr0 hr1 hr2 hi2
  refine walk.mono fun e W' ⟨he, hb⟩ => ?_
  subst he
  exact ⟨_, rfl, law_post rfl rfl (by kernel_rfl) ⟨rfl, rfl, rfl⟩ hW' hb⟩

theorem laid_met (os : Os) : laidMet Tryd.prog Rows.octetTakesRow.laid ((laidWorld os).forCall (fun _ _ => 0) ⟨#[], #[.slice none 0 0, .slice none 0 0, .slice none 0 0], []⟩).memory :=
  laidMet_of_run' 8 (by kernel_rfl) (by kernel_rfl)
theorem reads (os : Os) {H : Type} (enc : TypeId × Value → H) : ∃ places, DataW.whole enc Tryd.prog ((laidWorld os).forCall (fun _ _ => 0) ⟨#[], #[.slice none 0 0, .slice none 0 0, .slice none 0 0], []⟩).memory Tryd.f5.params.toList Rows.octetTakesSpec.vars false #[Value.slice none 0 0, .slice none 0 0, .slice none 0 0].toList 8 = some ([.nil, .nil, .nil], [], places) :=
  ⟨[], by kernel_rfl⟩

set_option maxRecDepth 100000 in
theorem lifted (os : Os) (started : os.Started) (H : Type) (enc : TypeId × Value → H) (F : Stop.Interp) :
    ReturnsInHanded {} Tryd.checked os 5 .any ((OpenSpec.ofChange Rows.octetTakesSpec).preRow enc Tryd.prog Tryd.f5 Rows.octetTakesRow.domain false Rows.octetTakesRow.laid) (((OpenSpec.ofChange Rows.octetTakesSpec).at F).post enc Tryd.prog Tryd.f5 false true false false) := by
  obtain ⟨places, hx⟩ := reads os enc
  refine returnsInHanded_of_row (C := Tryd.checked) (s := OpenSpec.ofChange Rows.octetTakesSpec) own started (by kernel_rfl) Tryd.func5
    (witness_row_at (enc := enc) (C := Tryd.checked) false (laidWorld os) #[.slice none 0 0, .slice none 0 0, .slice none 0 0] rfl (by kernel_rfl) (by kernel_rfl) (by kernel_rfl)
      (OpenSpec.preRow_of_cond 8 hx (by kernel_rfl) (fun k hk => by cases hk) (by kernel_rfl) (laid_met os))) ?_
  intro W base args ds gs before hval hW _ _ _ hL _ _
  exact contract H enc W base args ds gs before hval hW hL

theorem said : Rows.OctetTakesSaid :=
  OpenClaim.holds_of_cond 5 Tryd.f5 rfl rfl rfl rfl rfl rfl rfl ⟨rfl, rfl, rfl, rfl, rfl⟩ rfl rfl rfl rfl rfl (by kernel_rfl) Tryd.func5 (by kernel_rfl)
    (of_decide_eq_true (by kernel_rfl)) (by unfold Func.isWrapper; first | (rw [if_pos (by decide +kernel)]; kernel_rfl) | (rw [if_neg (by decide +kernel)]; exact ⟨rfl, rfl⟩))
    (fun os started H enc _ F => by rw [OpenClaim.pre_eq_preRow]; exact lifted os started H enc F)

theorem plain (f : FuncId) (fn : Func) (hf : Tryd.pinned.checked.prog.funcNamed "winnower/winnowerlaw1.OctetTakes" = some f) (hfn : Tryd.pinned.checked.prog.funcs[f]? = some fn) :
    false = Tryd.pinned.checked.prog.looks [] ∧ ∀ (j : Nat) t, fn.params[j]? = some t → Tryd.pinned.checked.prog.wantsStandIn t = false := by
  obtain rfl : f = 5 := Option.some.inj ((show Tryd.prog.funcNamed "winnower/winnowerlaw1.OctetTakes" = some 5 by kernel_rfl).symm.trans hf) |>.symm
  obtain rfl : fn = Tryd.f5 := (Option.some.inj (Tryd.func5.symm.trans hfn)).symm
  refine ⟨by kernel_rfl, fun j t ht => ?_⟩
  have hall : Tryd.f5.params.all (fun t => !Tryd.prog.wantsStandIn t) = true := by kernel_rfl
  have h1 := Array.all_eq_true'.1 hall t (Array.mem_of_getElem? ht)
  have h2 : Tryd.prog.wantsStandIn t = false := by simpa using h1
  exact h2

/-- THE CARD -/
theorem octetTakes_card : Rows.OctetTakesCardSaid :=
  Claim7.holds_tied_plain_at .later [] _ _ _ _ said (fun _ h => by cases h) (by kernel_rfl) (fun _ h => by cases h) octetTakes_row_tie rfl ⟨rfl, rfl⟩ (by kernel_rfl) rfl plain (by kernel_rfl)
end Go.Proofs.YtdnaabiijihooaaDoor.OctetTakes
