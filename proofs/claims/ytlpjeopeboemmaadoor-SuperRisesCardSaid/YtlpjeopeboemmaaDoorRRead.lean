/-
  The contracts of the reference's Read, Waiting, Fuse, Flush, Crash, whatever comes in. No statement of the seat is proved here.
-/
import Derived.Test.YtlpjeopeboemmaaDoorRCrash
namespace Go.Proofs.YtlpjeopeboemmaaDoor
open Go Go.RowKit

set_option maxHeartbeats 1000000 in
theorem rwaiting_any {w : World} {fp : Nat → Prop} {g : Nat} {S : Sec} {l : Int} {A : Option Addr} {c : Nat} {B : Nat → Option Addr} {C : Nat → Nat} (h : RLay w fp g S l A c B C) :
    Calls Tryd.prog 38 #[.pointer (some ⟨g, 0, none⟩)] w fun e w' => ∃ A c, e = .returned (.slice A (waiting S).length c) ∧ RowO w' 3 1 A (waiting S).length c ((waiting S).map iv') ∧ Below w.heap.size w w' ∧ ∀ k, inA A k → w.heap.size ≤ k := by
  have hn := h.n
  go_enter Tryd.func38, Tryd.ntmps38
  go_wp2
  go_loopw [3, 4] (fun s i w1 => ∃ (k : Nat) (A : Option Addr) (c : Nat), k ≤ S.length ∧ i = .int .i64 (k : Int) ∧ s = .slice A (rk (pw S) k) c ∧ RowO w1 3 1 A (rk (pw S) k) c ((wl (pw S) k).map iv') ∧ Below w.heap.size w w1 ∧ ∀ k, inA A k → w.heap.size ≤ k) (fun _ i _ => S.length - (intOf i).toNat)
  case atStart => exact ⟨0, none, 0, Nat.zero_le _, rfl, rfl, RowO.none_ _ _ _, Below.refl _ _, fun k hk => absurd hk (inA_none k)⟩
  case round =>
    obtain ⟨k, A1, c1, hk, rfl, rfl, hrow, hbel, hnew⟩ := hrel
    have hl := h.ext hbel
    have h0 : wr.cell? ⟨g, 0, none⟩ = some (.slice A S.length c) := hl.dsk.cell 0
    by_cases hlt : k < S.length
    · obtain ⟨b, o, rfl, hcell, hfr⟩ := hl.row.there1 hlt
      have hck := hcell _ (rvals_get S B C hlt)
      have hsucc := Lib.hid (rk_succ (pw S) k)
      have wsucc := Lib.hid (wl_succ (pw S) k)
      have hle := rk_le (pw S) k
      have hpk := pw_eq hlt
      have hki : (k : Int) < (S.length : Int) := by omega
      by_cases hp : 1 < S[k].length
      · have hpk' : pw S k = true := by rw [hpk]; simp [hp]
        rw [hpk'] at hsucc wsucc
        have hm1 : rk (pw S) k + 1 ≤ maxLen := by unfold maxLen; omega
        have hm2 : (rk (pw S) k + 1) * 8 ≤ 140737488355328 := by omega
        have hpi : (1 : Int) < (S[k].length : Int) := by omega
        clear hpk
        go_wp2_with (at_builtin
                     refine wpList_appO _ rfl (.tmp 23) (.tmp 25) _ rfl _ _ 1 8 Tryd.underlying34 info_int rfl A1 _ c1 _ rfl (hrow.alloc _) (some ⟨wr.heap.size, 0, none⟩) 1 1 [.int .i64 (k : Int)] rfl rfl (Rd.lit _ #[.int .i64 (k : Int)] _) ?_ ?_ hm1 hm2 ?_
                     · simp; rfl
                     · intro h; cases h
                     intro A2 c2 w3 hrow3 honly3 hA3)
        go_roundw
        case rel =>
          refine ⟨k + 1, A2, c2, by omega, by go_num, ?_, ?_, ?_, ?_⟩
          · rw [hsucc.out]; rfl
          · rw [hsucc.out, wsucc.out]
            simpa [iv'] using hrow3
          · refine (hbel.alloc hbel.size _).trans (honly3.below (fun i hi => hnew i hi) ?_)
            rw [World.size_alloc]; have := hbel.size; omega
          · intro k' hk'
            rcases hA3 k' hk' with h1 | h1
            · exact hnew k' h1
            · have := hbel.size
              rw [World.size_alloc] at h1; omega
        case measure => simp [intOf]; omega
      · have hpk' : pw S k = false := by rw [hpk]; simp [hp]
        rw [hpk'] at hsucc wsucc
        have hpi : ¬ (1 : Int) < (S[k].length : Int) := by omega
        clear hpk
        go_wp2
        go_roundw
        case rel =>
          refine ⟨k + 1, A1, c1, by omega, by go_num, ?_, ?_, hbel, hnew⟩
          · rw [hsucc.out]; rfl
          · rw [hsucc.out, wsucc.out]
            simpa using hrow
        case measure => simp [intOf]; omega
    · obtain rfl : k = S.length := by omega
      go_wp2
      go_ret
      exact ⟨A1, c1, rfl, hrow, hbel, hnew⟩

theorem strV_size (bs : List UInt8) : (⟨bs.toArray⟩ : ByteArray).size = bs.length := by
  show bs.toArray.size = bs.length
  simp

set_option maxRecDepth 100000 in
theorem rread_ok {w : World} {fp : Nat → Prop} {g : Nat} {S : Sec} {l : Int} {A : Option Addr} {c : Nat} {B : Nat → Option Addr} {C : Nat → Nat} (h : RLay w fp g S l A c B C) (hs : Small 1000000 S) (i : Nat) (hi : i < S.length) :
    Calls Tryd.prog 40 #[.pointer (some ⟨g, 0, none⟩), .int .i64 (i : Int)] w fun e w' => ∃ g' c', e = .returned (.tuple #[.slice (some ⟨g', 0, none⟩) 64 c', .int .i64 0]) ∧ Below w.heap.size w w' ∧ Rd w' (some ⟨g', 0, none⟩) ((lastOf S[i]).map bv) ∧ w.heap.size ≤ g' := by
  have h0 : w.cell? ⟨g, 0, none⟩ = some (.slice A S.length c) := h.dsk.cell 0
  obtain ⟨b, o, rfl, hcell, hfr⟩ := h.row.there1 hi
  have hck := hcell _ (rvals_get S B C hi)
  have hwf := h.wf S[i] (List.getElem_mem hi)
  have hpos := List.length_pos_iff.2 hwf.1
  have hsm := hs S[i] (List.getElem_mem hi)
  obtain ⟨b', o', hB, _, _⟩ := (h.cel i hi).there1 (i := 0) hpos
  have hlast : (S[i].map strV)[S[i].length - 1]? = some (strV (lastOf S[i])) := by
    have := getLast_lastOf hwf.1
    rw [List.getLast?_eq_getElem?] at this
    rw [List.getElem?_map, this]; rfl
  have hF64 := hwf.2 _ (lastOf_mem hwf.1)
  have hcel := h.cel i hi
  obtain ⟨b2, o2, hB2, hc2, _⟩ := hcel.there1 (i := S[i].length - 1) (by omega)
  rw [hB] at hB2 hck
  injection hB2 with hB2
  injection hB2 with e1 e2 _
  subst e1 e2
  have hstr := hc2 _ hlast
  unfold strV at hstr
  generalize lastOf S[i] = F at hF64 hstr
  generalize S[i].length = m at hpos hsm hck hstr
  obtain ⟨m1, rfl⟩ : ∃ m1, m = m1 + 1 := ⟨m - 1, by omega⟩
  have hii : (i : Int) < (S.length : Int) := by omega
  have hd : decide ((i : Int) < 0) = false := decide_eq_false (by omega)
  rw [show m1 + 1 - 1 = m1 by omega] at hstr
  have hsz : (⟨F.toArray⟩ : ByteArray).size = 64 := by rw [strV_size]; exact hF64
  have hcv := run_bytes_of_string (P := Tryd.prog) w 9 22 5 ⟨F.toArray⟩ Tryd.underlying9 Tryd.underlying22 Tryd.underlying5
  have hcell9 : ∀ (cap : Nat) (fr : Nat × Nat), Rd (w.alloc (.cells (bytesRow ⟨F.toArray⟩ cap) 5 fr)) (some ⟨w.heap.size, 0, none⟩) (F.map bv) := fun cap fr => by
    have h1 := (Rd.lit_at w (bytesRow ⟨F.toArray⟩ cap) 5 (fr := fr) rfl).take 64
    have h2 : (bytesRow ⟨F.toArray⟩ cap).toList.take 64 = F.map bv := by
      unfold bytesRow
      rw [Array.toList_append, Array.toList_map]
      show (F.map bv ++ _).take 64 = F.map bv
      rw [List.take_append_of_le_length (by rw [List.length_map]; omega), List.take_of_length_le (by rw [List.length_map]; omega)]
    rw [h2] at h1
    exact h1
  go_enter Tryd.func40, Tryd.ntmps40
  go_wp2_with fail
  go_ret2
  exact ⟨w.heap.size, ⟨_, rfl⟩, Below.drew' ((Below.refl _ _).alloc (Nat.le_refl _) _), hcell9 _ _, Nat.le_refl _⟩
theorem rread_bad {w : World} {fp : Nat → Prop} {g : Nat} {S : Sec} {l : Int} {A : Option Addr} {c : Nat} {B : Nat → Option Addr} {C : Nat → Nat} (h : RLay w fp g S l A c B C) (i : Int) (hi : ¬ (0 ≤ i ∧ i < (S.length : Int))) :
    Calls Tryd.prog 40 #[.pointer (some ⟨g, 0, none⟩), .int .i64 i] w fun e w' => e = .returned (.tuple #[.slice none 0 0, .int .i64 1]) ∧ w = w' := by
  have h0 : w.cell? ⟨g, 0, none⟩ = some (.slice A S.length c) := h.dsk.cell 0
  by_cases hn : i < 0
  · go_enter Tryd.func40, Tryd.ntmps40
    go_wp2
    go_ret2
    exact ⟨rfl, rfl⟩
  · have hd : decide (i < 0) = false := decide_eq_false hn
    have hge : (S.length : Int) ≤ i := by omega
    go_enter Tryd.func40, Tryd.ntmps40
    go_wp2
    go_ret2
    exact ⟨rfl, rfl⟩
theorem rread_all {w : World} {fp : Nat → Prop} {g : Nat} {S : Sec} {l : Int} (h : Ref w fp g S l) (hs : Small 1000000 S) (i : Int) :
    Calls Tryd.prog 40 #[.pointer (some ⟨g, 0, none⟩), .int .i64 i] w fun e w' => Below w.heap.size w w' ∧ ((∃ (k : Nat) (hk : k < S.length), i = (k : Int) ∧ ∃ g' c', e = .returned (.tuple #[.slice (some ⟨g', 0, none⟩) 64 c', .int .i64 0]) ∧ Rd w' (some ⟨g', 0, none⟩) ((lastOf S[k]).map bv) ∧ w.heap.size ≤ g') ∨
      (¬ (0 ≤ i ∧ i < (S.length : Int)) ∧ e = .returned (.tuple #[.slice none 0 0, .int .i64 1]))) := by
  obtain ⟨A, c, B, C, h⟩ := h
  by_cases hi : 0 ≤ i ∧ i < (S.length : Int)
  · obtain ⟨k, rfl⟩ : ∃ k : Nat, i = (k : Int) := ⟨i.toNat, by omega⟩
    refine (rread_ok h hs k (by omega)).mono ?_
    rintro e w' ⟨g', c', h1, h2, h3, h4⟩
    exact ⟨h2, .inl ⟨k, by omega, rfl, g', c', h1, h3, h4⟩⟩
  · refine (rread_bad h i hi).mono ?_
    rintro e w' ⟨h1, rfl⟩
    exact ⟨Below.refl _ _, .inr ⟨hi, h1⟩⟩
theorem Ref.more {w w' : World} {fp : Nat → Prop} {g : Nat} {S : Sec} {l : Int} (h : Ref w' fp g S l) : Ref w' (More fp w w') g S l := h.mono fun _ hk _ => .inl hk
theorem rflush_all {w : World} {fp : Nat → Prop} {g : Nat} {S : Sec} {l : Int} (h : Ref w fp g S l) (hs : Small 1000000 S) :
    Calls Tryd.prog 75 #[.pointer (some ⟨g, 0, none⟩)] w fun e w' => e = .returned (.int .i64 (flushCode l)) ∧ Ref w' (More fp w w') g (if l = 0 then S else flushS S) (tick l) ∧ Only fp w w' := by
  obtain ⟨A, c, B, C, h⟩ := h
  by_cases h0 : l = 0
  · refine (rflush_dead h h0).mono ?_
    rintro e w' ⟨rfl, rfl⟩
    have e1 : tick l = l := by unfold tick; rw [if_neg (by omega)]
    unfold flushCode
    rw [if_pos h0, if_pos h0, e1]
    exact ⟨rfl, Ref.more ⟨A, c, B, C, h⟩, Only.refl _ _⟩
  · refine (rflush_any h hs h0).mono ?_
    unfold flushCode
    rw [if_neg h0, if_neg h0]
    exact fun e w' h => h
theorem rcrash_all {w : World} {fp : Nat → Prop} {g : Nat} {S : Sec} {l : Int} (h : Ref w fp g S l) (hs : Small 1000000 S) (P : Option Addr) (n cp : Nat) (ps : List Int) (hn : n = ps.length) (hp : RdF fp w P (ps.map iv)) (hpi : ∀ x ∈ ps, isInt x) :
    Calls Tryd.prog 35 #[.pointer (some ⟨g, 0, none⟩), .slice P n cp] w fun e w' => e = .returned (.tuple #[]) ∧ Ref w' (More fp w w') g (crashS S ps) (-1) ∧ Only fp w w' := by
  obtain ⟨A, c, B, C, h⟩ := h
  exact rcrash_any h hs P n cp ps hn hp hpi
theorem rfuse_all {w : World} {fp : Nat → Prop} {g : Nat} {S : Sec} {l : Int} (h : Ref w fp g S l) (n : Int) (hn : isInt n) :
    Calls Tryd.prog 34 #[.pointer (some ⟨g, 0, none⟩), .int .i64 n] w fun e w' => e = .returned (.tuple #[]) ∧ Ref w' (More fp w w') g S (max n (-1)) ∧ Only fp w w' := by
  obtain ⟨A, c, B, C, h⟩ := h
  refine (rfuse_any h n hn).mono ?_
  rintro e w' ⟨rfl, h1, h2⟩
  exact ⟨rfl, Ref.more ⟨A, c, B, C, h2⟩, h1.mono (fun k _ hk => by subst hk; exact h.fg)⟩
end Go.Proofs.YtlpjeopeboemmaaDoor
