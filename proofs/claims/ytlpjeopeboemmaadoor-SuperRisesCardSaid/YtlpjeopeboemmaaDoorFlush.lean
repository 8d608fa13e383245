/-
  The contracts of sector's Flush and Crash. No statement of the seat is proved here.
-/
import Derived.Test.YtlpjeopeboemmaaDoorWrite
namespace Go.Proofs.YtlpjeopeboemmaaDoor
open Go Go.RowKit

theorem small_stage {S : Sec} {N : Nat} (h : Small N S) (h1 : 1 ≤ N) (F : Nat → List UInt8) (k : Nat) : Small N (stage S F k) := fun vs hvs => by
  obtain ⟨i, hi, rfl⟩ := List.mem_iff_getElem.1 hvs
  have hi' : i < S.length := by simpa [stage_length] using hi
  rw [stage_get S F k i hi' hi]
  split
  · simpa using h1
  · exact h _ (List.getElem_mem hi')

/-- a sector settles, in a loop -/
theorem settle_step {w wr w2 : World} {fp : Nat → Prop} {g gc : Nat} {T : Sec} {l : Int} {B : Nat → Option Addr} {C : Nat → Nat} (hL : Lay wr (More fp w wr) g gc T l B C) (ho : Only fp w wr) (hgc : fp gc) (hb2 : Below wr.heap.size wr w2)
    {i : Nat} (hi : i < T.length) (v : List UInt8) (hv : v.length = 64) {A : Option Addr} {m c : Nat} {xs : List Value} (hrow : RowO wr 3 1 A m c xs) :
    (∃ B' C', Lay ((w2.alloc (.cells (v.map bv).toArray 91)).setCells gc (i * 65) (oneCells v)) (More fp w ((w2.alloc (.cells (v.map bv).toArray 91)).setCells gc (i * 65) (oneCells v))) g gc (T.set i [v]) l B' C') ∧
    Only fp w ((w2.alloc (.cells (v.map bv).toArray 91)).setCells gc (i * 65) (oneCells v)) ∧
    RowO ((w2.alloc (.cells (v.map bv).toArray 91)).setCells gc (i * 65) (oneCells v)) 3 1 A m c xs := by
  have hb3 : Below wr.heap.size wr (w2.alloc (.cells (v.map bv).toArray 91)) := hb2.alloc hb2.size _
  generalize w2.alloc (.cells (v.map bv).toArray 91) = w3 at hb3
  have ho3 : Only (fun k => k = gc) w3 (w3.setCells gc (i * 65) (oneCells v)) := (Only.refl (fun k => k = gc) w3).setCells (.inl rfl) _ _
  have h3 := hL.ext hb3
  have z1 := hb3.size
  have z2 := ho3.size
  have z0 := ho.size
  have ho' : Only fp w w3 := ho.trans (Only.of_ext (S := fun _ => False) hb3) (fun _ _ h => h.elim)
  refine ⟨⟨_, _, (h3.settle hi v hv).mono (fun k hk _ => ?_)⟩, ho'.setCells (.inl hgc) _ _, (hrow.ext hb3).only ho3 (fun k hk e => ?_)⟩
  · rcases hk with hk | hk
    · exact .inl hk
    · exact .inr (by omega)
  · subst e
    obtain ⟨cs, hb, _⟩ := h3.row
    exact (hrow.ext hb3).ne_blk hb (by decide) hk

theorem getLast_lastOf {vs : List (List UInt8)} (h : vs ≠ []) : vs.getLast? = some (lastOf vs) := by
  unfold lastOf
  rw [List.getLastD_eq_getLast?]
  have := List.length_pos_iff.2 h
  rw [List.getLast?_eq_getElem?, List.getElem?_eq_getElem (by omega)]; rfl

set_option maxRecDepth 100000 in
set_option maxHeartbeats 2000000 in
theorem flush_any {w : World} {fp : Nat → Prop} {g gc : Nat} {S : Sec} {l : Int} {B : Nat → Option Addr} {C : Nat → Nat} (h : Lay w fp g gc S l B C) (hs : Small 1000000 S) (h0 : l ≠ 0) :
    Calls Tryd.prog 66 #[.pointer (some ⟨g, 0, none⟩)] w fun e w' => e = .returned (.int .i64 0) ∧ Imp w' (More fp w w') g (flushS S) (tick l) ∧ Only fp w w' := by
  have hburnt : decide (l = 0) = false := by simpa using h0
  have hwf := h.wf
  obtain ⟨F, hF⟩ : ∃ F : Nat → List UInt8, F = fun i => lastOf (S.getD i []) := ⟨_, rfl⟩
  have hall := flush_stage S (fun vs hvs => (hwf vs hvs).1)
  rw [← hF] at hall
  obtain ⟨W, hW⟩ : ∃ W, W = waiting S := ⟨_, rfl⟩
  have hWat := Lib.hid (show ∀ k i, W[k]? = some i → i < S.length ∧ (waiting S)[k]? = some i from fun k i h => by rw [hW] at h; exact ⟨(wl_at _ _ _ _ h).1, h⟩)
  have hsm := fun k => small_stage hs (by omega) F k
  rw [← hW] at hall
  replace hall := Lib.hid hall
  replace hF := Lib.hid hF
  have hWlen : W.length ≤ 4096 := by rw [hW]; exact Nat.le_trans (rk_le _ _) h.n
  go_enter Tryd.func66, Tryd.ntmps66
  go_wp2_with fail
  refine (burnt_any g _ l w h.dsk h.lo h.hi).mono ?_
  rintro e w2 ⟨rfl, rfl⟩
  rw [hburnt]
  go_wp2_with fail
  refine (waiting_any h hs).mono ?_
  rintro e w2 ⟨A, c, rfl, hrow, hbel, hnew⟩
  rw [← hW] at hrow ⊢
  replace hW := Lib.hid hW
  have hL2 : Lay w2 (More fp w w2) g gc (stage S F 0) l B C := by
    rw [stage_zero]
    exact (h.ext hbel).mono (fun k hk _ => .inl hk)
  go_wp2
  go_loopw [4, 14] (fun _ i w1 => ∃ (k : Nat) (B1 : Nat → Option Addr) (C1 : Nat → Nat), k ≤ W.length ∧ i = .int .i64 (k : Int) ∧ Lay w1 (More fp w w1) g gc (stage S F k) l B1 C1 ∧ Only fp w w1 ∧ RowO w1 3 1 A W.length c (W.map iv')) (fun _ i _ => W.length - (intOf i).toNat)
  case atStart => exact ⟨0, B, C, Nat.zero_le _, rfl, hL2, Only.of_ext hbel, hrow⟩
  case round =>
    obtain ⟨k, B1, C1, hk, rfl, hL, honly, hrow1⟩ := hrel
    clear hL2 hrow
    by_cases hlt : k < W.length
    · obtain ⟨i, hi⟩ : ∃ i, W[k]? = some i := ⟨_, List.getElem?_eq_getElem hlt⟩
      obtain ⟨hiS, hiW⟩ := hWat.out k i hi
      have hiT : i < (stage S F k).length := by rw [stage_length]; exact hiS
      obtain ⟨ad, rfl, hcell⟩ := hrow1.rd k (.int .i64 (i : Int)) (by rw [List.getElem?_map, hi]; rfl)
      have hat := stage_at S F hiW hiS hiT
      have hFi : lastOf (stage S F k)[i] = F i := by
        rw [hat, hF.out]
        show _ = lastOf (S.getD i [])
        rw [List.getD_eq_getElem?_getD, List.getElem?_eq_getElem hiS]; rfl
      have hcel := hL.cel i hiT
      have hlast := getLast_lastOf hcel.ne
      rw [hFi] at hlast
      have hFlen : (F i).length = 64 := by rw [← hFi]; exact hcel.len _ (lastOf_mem hcel.ne)
      have hsuc := Lib.hid (stage_succ S F hiW)
      have hs1 := hsm k _ (List.getElem_mem hiT)
      have hlenT : (stage S F k).length = S.length := stage_length S F k
      have hdsk0 : wr.cell? ⟨g, 0, none⟩ = some (.slice (some ⟨gc, 0, none⟩) S.length S.length) := by
        have := hL.dsk.cell 0
        rw [hlenT] at this
        exact this
      have hii : (i : Int) < (S.length : Int) := by omega
      have hki : (k : Int) < (W.length : Int) := by omega
      have hdrew := hcel.drew
      clear hat hFi hlenT
      have hth := fun w2 hb2 => (hL.ext (w' := w2) hb2).there hiT
      have hcw := hL.dsk
      have hkeep := Lib.hid (show ∀ w' : World, Below wr.heap.size wr w' → w'.cell? ⟨g, 0, none⟩ = some (.slice (some ⟨gc, 0, none⟩) S.length S.length) from fun w' hb => (World.cell?_of_block (a := ⟨g, 0, none⟩) (hb.block g hcw.lt)).trans hdsk0)
      have hset := Lib.hid (fun w2 hb2 => settle_step hL honly h.fgc (w2 := w2) hb2 hiT (F i) hFlen hrow1)
      have hne := h.ne
      have hset2 := Lib.hid (show ∀ w2 : World, Below wr.heap.size wr w2 → ((w2.alloc (.cells ((F i).map bv).toArray 91)).setCells gc (i * 65) (oneCells (F i))).cell? ⟨g, 0, none⟩ = some (.slice (some ⟨gc, 0, none⟩) S.length S.length) from fun w2 hb2 => by
        rw [World.cell?_setCells_out gc _ _ _ ⟨g, 0, none⟩ (fun e _ => absurd e hne)]
        exact hkeep.out _ (hb2.alloc hb2.size _))
      go_wp2_with fail
      go_region_held_law (fun w' => w'.cell? ⟨g, 0, none⟩ = some (.slice (some ⟨gc, 0, none⟩) S.length S.length))
        (first | exact hdsk0 | exact hkeep.out _ hb2 | exact hset2.out _ hb2)
        (first
          | (go_at_call 63; refine (now_any gc (i * 65) _ _ _ _ hdrew (F i) hlast hs1).mono ?_; rintro e w2 ⟨rfl, hb2'⟩; have hb2 : Below wr.heap.size wr w2 := ⟨hb2'.os, hb2'.tape, hb2'.output, hb2'.size, hb2'.block⟩)
          | (go_at_call 46; refine (settle_any gc (i * 65) (F i) w2 hFlen (hth w2 hb2) (Nat.lt_of_lt_of_le hcel.lt hb2.size)).mono ?_; rintro e w3 ⟨rfl, rfl⟩))
      obtain ⟨⟨B2, C2, hL2⟩, honly2, hrow2⟩ := hset.out _ hb2
      rw [← hsuc.out] at hL2
      go_wp2
      go_roundw
      case rel => exact ⟨k + 1, B2, C2, by omega, by go_num, hL2, honly2, hrow2⟩
      case measure => simp [intOf]; omega
    · obtain rfl : k = W.length := by omega
      go_wp2_with fail
      refine (count_any g _ l _ (by have := hL.dsk; exact this) h.lo h.hi h0).mono ?_
      rintro e w6 ⟨rfl, ho6, hb6⟩
      go_wp2
      go_ret
      have hf := hL.fuse (tick l) (tick_lo h.lo) (tick_hi h.hi) ho6 hb6
      rw [hall.out] at hf
      have z1 := ho6.size
      refine ⟨rfl, ⟨gc, B1, C1, hf.mono (fun k hk _ => ?_)⟩, honly.trans ho6 (fun k _ hk => by subst hk; exact h.fg)⟩
      rcases hk with hk | hk
      · exact .inl hk
      · exact .inr (by omega)

theorem flush_dead {w : World} {fp : Nat → Prop} {g gc : Nat} {S : Sec} {l : Int} {B : Nat → Option Addr} {C : Nat → Nat} (h : Lay w fp g gc S l B C) (h0 : l = 0) :
    Calls Tryd.prog 66 #[.pointer (some ⟨g, 0, none⟩)] w fun e w' => e = .returned (.int .i64 6) ∧ w = w' := by
  have hburnt : decide (l = 0) = true := by simpa using h0
  go_enter Tryd.func66, Tryd.ntmps66
  go_wp2_with fail
  refine (burnt_any g _ l w h.dsk h.lo h.hi).mono ?_
  rintro e w2 ⟨rfl, rfl⟩
  rw [hburnt]
  go_wp2
  go_ret
  exact ⟨rfl, rfl⟩
def flushCode (l : Int) : Int := if l = 0 then 6 else 0
theorem flush_all {w : World} {fp : Nat → Prop} {g : Nat} {S : Sec} {l : Int} (h : Imp w fp g S l) (hs : Small 1000000 S) :
    Calls Tryd.prog 66 #[.pointer (some ⟨g, 0, none⟩)] w fun e w' => e = .returned (.int .i64 (flushCode l)) ∧ Imp w' (More fp w w') g (if l = 0 then S else flushS S) (tick l) ∧ Only fp w w' := by
  obtain ⟨gc, B, C, h⟩ := h
  by_cases h0 : l = 0
  · refine (flush_dead h h0).mono ?_
    rintro e w' ⟨rfl, rfl⟩
    have e1 : tick l = l := by unfold tick; rw [if_neg (by omega)]
    unfold flushCode
    rw [if_pos h0, if_pos h0, e1]
    exact ⟨rfl, Imp.more ⟨gc, B, C, h⟩, Only.refl _ _⟩
  · refine (flush_any h hs h0).mono ?_
    unfold flushCode
    rw [if_neg h0, if_neg h0]
    exact fun e w' h => h

/-! ### Crash -/
def pickNat (ps : List Int) (k : Nat) : Nat := (max (ps.getD k 0) 0).toNat

set_option maxRecDepth 100000 in
set_option maxHeartbeats 2000000 in
theorem crash_any {w : World} {fp : Nat → Prop} {g gc : Nat} {S : Sec} {l : Int} {B : Nat → Option Addr} {C : Nat → Nat} (h : Lay w fp g gc S l B C) (hs : Small 1000000 S) (P : Option Addr) (n cp : Nat) (ps : List Int) (hn : n = ps.length) (hp : RdF fp w P (ps.map iv)) (hpi : ∀ x ∈ ps, isInt x) :
    Calls Tryd.prog 21 #[.pointer (some ⟨g, 0, none⟩), .slice P n cp] w fun e w' => e = .returned (.tuple #[]) ∧ Imp w' (More fp w w') g (crashS S ps) (-1) ∧ Only fp w w' := by
  subst hn
  have hwf := h.wf
  obtain ⟨F, hF⟩ : ∃ F : Nat → List UInt8, F = crashAt S ps := ⟨_, rfl⟩
  have hall := crash_stage S ps
  rw [← hF] at hall
  obtain ⟨W, hW⟩ : ∃ W, W = waiting S := ⟨_, rfl⟩
  have hWat := Lib.hid (show ∀ k i, W[k]? = some i → i < S.length ∧ (waiting S)[k]? = some i ∧ rk (pw S) i = k from fun k i h => by rw [hW] at h; exact ⟨(wl_at _ _ _ _ h).1, h, (wl_at _ _ _ _ h).2.2⟩)
  have hsm := fun k => small_stage hs (by omega) F k
  rw [← hW] at hall
  replace hall := Lib.hid hall
  replace hF := Lib.hid hF
  have hWlen : W.length ≤ 4096 := by rw [hW]; exact Nat.le_trans (rk_le _ _) h.n
  have hpi := Lib.hid hpi
  go_enter Tryd.func21, Tryd.ntmps21
  go_wp2_with fail
  refine (waiting_any h hs).mono ?_
  rintro e w2 ⟨A, c, rfl, hrow, hbel, hnew⟩
  rw [← hW] at hrow ⊢
  replace hW := Lib.hid hW
  have hL2 : Lay w2 (More fp w w2) g gc (stage S F 0) l B C := by
    rw [stage_zero]
    exact (h.ext hbel).mono (fun k hk _ => .inl hk)
  go_wp2
  go_loopw [4, 5, 6, 7, 13] (fun _ _ _ _ i w1 => ∃ (k : Nat) (B1 : Nat → Option Addr) (C1 : Nat → Nat), k ≤ W.length ∧ i = .int .i64 (k : Int) ∧ Lay w1 (More fp w w1) g gc (stage S F k) l B1 C1 ∧ Only fp w w1 ∧ RowO w1 3 1 A W.length c (W.map iv')) (fun _ _ _ _ i _ => W.length - (intOf i).toNat)
  case atStart => exact ⟨0, B, C, Nat.zero_le _, rfl, hL2, Only.of_ext hbel, hrow⟩
  case round =>
    obtain ⟨k, B1, C1, hk, rfl, hL, honly, hrow1⟩ := hrel
    clear hL2 hrow
    by_cases hlt : k < W.length
    · obtain ⟨i, hi⟩ : ∃ i, W[k]? = some i := ⟨_, List.getElem?_eq_getElem hlt⟩
      obtain ⟨hiS, hiW, hrk⟩ := hWat.out k i hi
      have hiT : i < (stage S F k).length := by rw [stage_length]; exact hiS
      obtain ⟨ad, rfl, hcell⟩ := hrow1.rd k (.int .i64 (i : Int)) (by rw [List.getElem?_map, hi]; rfl)
      have hat := stage_at S F hiW hiS hiT
      have hcel := hL.cel i hiT
      have hpos := List.length_pos_iff.2 hcel.ne
      have hq : pickNat ps k % (stage S F k)[i].length < (stage S F k)[i].length := Nat.mod_lt _ hpos
      have hFi : (stage S F k)[i][pickNat ps k % (stage S F k)[i].length] = F i := by
        have hSd : S.getD i [] = (stage S F k)[i] := by rw [List.getD_eq_getElem?_getD, List.getElem?_eq_getElem hiS, hat]; rfl
        have h5 : F i = List.getD (stage S F k)[i] (pickNat ps k % (stage S F k)[i].length) [] := by
          refine (congrFun hF.out i).trans ?_
          unfold crashAt pickOf
          rw [hSd, hrk]; rfl
        refine Eq.trans ?_ h5.symm
        rw [List.getD_eq_getElem?_getD, List.getElem?_eq_getElem hq]
        rfl
      have hFlen : (F i).length = 64 := by rw [← hFi]; exact hcel.len _ (List.getElem_mem _)
      have hsuc := Lib.hid (stage_succ S F hiW)
      have hs1 := hsm k _ (List.getElem_mem hiT)
      have hlenT : (stage S F k).length = S.length := stage_length S F k
      have hdsk0 : wr.cell? ⟨g, 0, none⟩ = some (.slice (some ⟨gc, 0, none⟩) S.length S.length) := by
        have := hL.dsk.cell 0
        rw [hlenT] at this
        exact this
      have hrow64 := hcel.row
      have hii : (i : Int) < (S.length : Int) := by omega
      have hki : (k : Int) < (W.length : Int) := by omega
      have hth := fun w2 hb2 => (hL.ext (w' := w2) hb2).there hiT
      have hset := Lib.hid (fun w2 hb2 => settle_step hL honly h.fgc (w2 := w2) hb2 hiT (F i) hFlen hrow1)
      have hatc := at_any gc (i * 65) _ _ _ _ wr hcel hq hs1
      rw [hFi] at hatc
      have hlp := hp.only honly
      clear hat hFi hlenT
      generalize hlen : (stage S F k)[i].length = m at hpos hs1 hrow64 hatc
      clear hq
      obtain ⟨q, hqe⟩ : ∃ q, q = pickNat ps k := ⟨_, rfl⟩
      rw [← hqe] at hatc
      have hm1 : m = (m - 1) + 1 := by omega
      generalize m - 1 = m1 at hm1 hrow64
      subst hm1
      have hqb : q ≤ 9223372036854775807 := by
        rw [hqe]
        unfold pickNat
        by_cases hkp : k < ps.length
        · rw [List.getD_eq_getElem?_getD, List.getElem?_eq_getElem hkp]
          have := hpi.out ps[k] (List.getElem_mem _)
          unfold isInt at this
          simp only [Option.getD_some]
          omega
        · rw [List.getD_eq_getElem?_getD, List.getElem?_eq_none (by omega)]; simp
      have hm1b : m1 ≤ 999999 := by omega
      have fin : ∀ w2 : World, Below wr.heap.size wr w2 → Calls Tryd.prog 46 #[.pointer (some ⟨gc, i * 65, none⟩), .agg ((F i).map bv).toArray] w2 fun e w' => e = .returned (.tuple #[]) ∧ (∃ B2 C2, Lay w' (More fp w w') g gc (stage S F (k + 1)) l B2 C2) ∧ Only fp w w' ∧ RowO w' 3 1 (some ad) W.length c (W.map iv') := fun w2 hb2 => by
        refine (settle_any gc (i * 65) (F i) w2 hFlen (hth w2 hb2) (Nat.lt_of_lt_of_le hcel.lt hb2.size)).mono ?_
        rintro e w3 ⟨rfl, rfl⟩
        rw [hsuc.out]
        exact ⟨rfl, hset.out w2 hb2⟩
      replace fin := Lib.hid fin
      clear hset hth
      by_cases hkp : k < ps.length
      · obtain ⟨ap, rfl, hcp⟩ := hlp.1.at_ (k := k) (by simpa using hkp)
        simp only [List.getElem_map, iv] at hcp
        have hkpi : (k : Int) < (ps.length : Int) := by omega
        have hqp : q = (max ps[k] 0).toNat := by rw [hqe]; unfold pickNat; rw [List.getD_eq_getElem?_getD, List.getElem?_eq_getElem hkp]; rfl
        have hpb := hpi.out ps[k] (List.getElem_mem _)
        unfold isInt at hpb
        clear hqe
        generalize ps[k] = p at hcp hqp hpb
        by_cases h0 : 0 ≤ p
        · obtain rfl : p = (q : Int) := by omega
          have hrem : ((q : Nat) : Int) % ((m1 : Int) + 1) = ((q % (m1 + 1) : Nat) : Int) := by
            rw [show ((m1 : Int) + 1) = ((m1 + 1 : Nat) : Int) by omega]; rfl
          rw [← hrem] at hatc
          replace hrem := Lib.hid hrem
          clear hqp
          go_wp2_with fail
          refine hatc.mono ?_
          rintro e w3 ⟨rfl, hb3⟩
          go_wp2_with fail
          refine (fin.out w3 hb3).mono ?_
          rintro e w4 ⟨rfl, ⟨B2, C2, hL4⟩, ho4, hr4⟩
          go_wp2
          go_roundw
          case rel => exact ⟨k + 1, B2, C2, by omega, by go_num, hL4, ho4, hr4⟩
          case measure => simp [intOf]; omega
        · obtain rfl : q = 0 := by omega
          rw [Nat.zero_mod] at hatc
          clear hqp
          go_wp2_with fail
          refine hatc.mono ?_
          rintro e w3 ⟨rfl, hb3⟩
          go_wp2_with fail
          refine (fin.out w3 hb3).mono ?_
          rintro e w4 ⟨rfl, ⟨B2, C2, hL4⟩, ho4, hr4⟩
          go_wp2
          go_roundw
          case rel => exact ⟨k + 1, B2, C2, by omega, by go_num, hL4, ho4, hr4⟩
          case measure => simp [intOf]; omega
      · have hq0 : q = 0 := by
          rw [hqe]; unfold pickNat
          rw [List.getD_eq_getElem?_getD, List.getElem?_eq_none (by omega)]; simp
        subst hq0
        rw [Nat.zero_mod] at hatc
        clear hqe
        have hkpi : ¬ (k : Int) < (ps.length : Int) := by omega
        go_wp2_with fail
        refine hatc.mono ?_
        rintro e w3 ⟨rfl, hb3⟩
        go_wp2_with fail
        refine (fin.out w3 hb3).mono ?_
        rintro e w4 ⟨rfl, ⟨B2, C2, hL4⟩, ho4, hr4⟩
        go_wp2
        go_roundw
        case rel => exact ⟨k + 1, B2, C2, by omega, by go_num, hL4, ho4, hr4⟩
        case measure => simp [intOf]; omega
    · obtain rfl : k = W.length := by omega
      have c1 : wr.cell? ⟨g, 1, none⟩ = some (litV l) := hL.dsk.cell 1
      have c2 : wr.cell? ⟨g, 2, none⟩ = some (leftV l) := hL.dsk.cell 2
      have f1 : wr.frozen? ⟨g, 1, none⟩ = false := hL.dsk.free 1
      have f2 : wr.frozen? ⟨g, 2, none⟩ = false := hL.dsk.free 2
      go_wp2
      go_end0
      have ho6 : Only (fun k => k = g) wr ((wr.setCell ⟨g, 1, none⟩ (.bool false)).setCell ⟨g, 2, none⟩ (.int .i64 0)) :=
        ((Only.refl (fun k => k = g) wr).setCell (p := ⟨g, 1, none⟩) (.inl rfl) _).setCell (p := ⟨g, 2, none⟩) (.inl rfl) _
      have hb6 : Blk ((wr.setCell ⟨g, 1, none⟩ (.bool false)).setCell ⟨g, 2, none⟩ (.int .i64 0)) g 88 #[.slice (some ⟨gc, 0, none⟩) (stage S F W.length).length (stage S F W.length).length, litV (-1), leftV (-1)] := (hL.dsk.put 1 (.bool false)).put 2 (.int .i64 0)
      have hf := hL.fuse (-1) (by omega) (by omega) ho6 hb6
      rw [hall.out] at hf
      have z1 := ho6.size
      refine ⟨rfl, ⟨gc, B1, C1, hf.mono (fun k hk _ => ?_)⟩, honly.trans ho6 (fun k _ hk => by subst hk; exact h.fg)⟩
      rcases hk with hk | hk
      · exact .inl hk
      · exact .inr (by omega)
theorem crash_all {w : World} {fp : Nat → Prop} {g : Nat} {S : Sec} {l : Int} (h : Imp w fp g S l) (hs : Small 1000000 S) (P : Option Addr) (n cp : Nat) (ps : List Int) (hn : n = ps.length) (hp : RdF fp w P (ps.map iv)) (hpi : ∀ x ∈ ps, isInt x) :
    Calls Tryd.prog 21 #[.pointer (some ⟨g, 0, none⟩), .slice P n cp] w fun e w' => e = .returned (.tuple #[]) ∧ Imp w' (More fp w w') g (crashS S ps) (-1) ∧ Only fp w w' := by
  obtain ⟨gc, B, C, h⟩ := h
  exact crash_any h hs P n cp ps hn hp hpi
theorem fuse_all {w : World} {fp : Nat → Prop} {g : Nat} {S : Sec} {l : Int} (h : Imp w fp g S l) (n : Int) (hn : isInt n) :
    Calls Tryd.prog 20 #[.pointer (some ⟨g, 0, none⟩), .int .i64 n] w fun e w' => e = .returned (.tuple #[]) ∧ Imp w' (More fp w w') g S (max n (-1)) ∧ Only fp w w' := by
  obtain ⟨gc, B, C, h⟩ := h
  refine (fuse_any h n hn).mono ?_
  rintro e w' ⟨rfl, h1, h2⟩
  exact ⟨rfl, Imp.more ⟨gc, B, C, h2⟩, h1.mono (fun k _ hk => by subst hk; exact h.fg)⟩
end Go.Proofs.YtlpjeopeboemmaaDoor
