/-
  The contracts of the reference's New, and of Write, whatever comes in. No statement of the seat is proved here.
-/
import Derived.Test.YtlpjeopeboemmaaDoorRWrite
namespace Go.Proofs.YtlpjeopeboemmaaDoor
open Go Go.RowKit

theorem rvals_snoc (S : Sec) (B : Nat → Option Addr) (C : Nat → Nat) (vs : List (List UInt8)) (A1 : Option Addr) (c1 : Nat) :
    rvals (S ++ [vs]) (fun j => if j = S.length then A1 else B j) (fun j => if j = S.length then c1 else C j) = rvals S B C ++ [.slice A1 vs.length c1] := by
  refine List.ext_getElem? fun j => ?_
  unfold rvals
  rw [List.getElem?_mapIdx, List.getElem?_append, List.getElem?_append, List.length_mapIdx, List.getElem?_mapIdx]
  by_cases h : j < S.length
  · have e : ¬ j = S.length := by omega
    rw [if_pos h, if_pos h]
    simp only [if_neg e]
  · rw [if_neg h, if_neg h]
    rcases Nat.lt_or_ge (j - S.length) 1 with h1 | h1
    · have e : j = S.length := by omega
      simp [e]
    · rw [List.getElem?_eq_none (by simpa using h1), List.getElem?_eq_none (by simpa using h1)]; rfl

theorem RLay.grow {w w1 w4 : World} {fp : Nat → Prop} {g : Nat} {S : Sec} {l : Int} {A : Option Addr} {c : Nat} {B : Nat → Option Addr} {C : Nat → Nat} (h : RLay w fp g S l A c B C) (hb : Below w.heap.size w w1) (v : List UInt8) (hv : v.length = 64) {gb : Nat} (hg1 : w.heap.size ≤ gb) (hg2 : gb < w1.heap.size)
    (hr0 : RowO w1 9 1 (some ⟨gb, 0, none⟩) 1 1 [strV v]) (ho : Only (inA A) w1 w4) {A' : Option Addr} {c' : Nat} (hr : RowO w4 108 1 A' (S.length + 1) c' (rvals S B C ++ [.slice (some ⟨gb, 0, none⟩) 1 1])) (hA : ∀ k, inA A' k → inA A k ∨ (w1.heap.size ≤ k ∧ k < w4.heap.size)) (hn : S.length + 1 ≤ 4096) :
    RLay (w4.setCell ⟨g, 0, none⟩ (.slice A' (S.length + 1) c')) (More fp w w4) g (S ++ [[v]]) l A' c' (fun j => if j = S.length then some ⟨gb, 0, none⟩ else B j) (fun j => if j = S.length then 1 else C j) := by
  have hfar := h.far
  have z1 := hb.size
  have z2 := ho.size
  have hltA : ∀ k, inA A k → k < w.heap.size := fun k hk => h.row.lt hk
  have hltB : ∀ j k, j < S.length → inA (B j) k → k < w.heap.size := fun j k hj hk => (h.cel j hj).lt hk
  have hdsk4 : Blk w4 g 74 #[.slice A S.length c, .int .i64 l] := (h.dsk.ext hb).only ho hfar.1
  have ho5 : Only (fun k => k = g) w4 (w4.setCell ⟨g, 0, none⟩ (.slice A' (S.length + 1) c')) := (Only.refl (fun k => k = g) w4).setCell (p := ⟨g, 0, none⟩) (.inl rfl) _
  have hg : g < w.heap.size := h.dsk.lt
  have hA'g : ¬ inA A' g := fun hk => by
    rcases hA g hk with h1 | h1
    · exact hfar.1 h1
    · omega
  have keepS : ∀ {A0 : Option Addr} {m c0 : Nat} {xs : List Value}, RowO w1 9 1 A0 m c0 xs → (∀ k, inA A0 k → k ≠ g ∧ ¬ inA A k) → RowO (w4.setCell ⟨g, 0, none⟩ (.slice A' (S.length + 1) c')) 9 1 A0 m c0 xs := fun hr0 hk => (hr0.only ho (fun k hk' => (hk k hk').2)).only ho5 (fun k hk' e => (hk k hk').1 e)
  have hlen : (S ++ [[v]]).length = S.length + 1 := by simp
  refine ⟨.inl h.fg, h.lo, h.hi, by rw [hlen]; exact hn, ?_, ?_, fun k hk => ?_, fun us hus => ?_, fun j hj => ?_, fun j k hj hk => ?_, fun j j' k hj hj' hk hk' => ?_⟩
  · rw [hlen]; exact hdsk4.put 0 _
  · rw [hlen, rvals_snoc]
    exact hr.only ho5 (fun k hk e => hA'g (e ▸ hk))
  · rcases hA k hk with h1 | h1
    · exact .inl (h.fA k h1)
    · exact .inr (by omega)
  · rcases List.mem_append.1 hus with hus | hus
    · exact h.wf us hus
    · simp at hus
      subst hus
      exact ⟨by simp, fun u hu => by simp at hu; subst hu; exact hv⟩
  · by_cases e : j = S.length
    · subst e
      have e2 : (S ++ [[v]])[S.length] = [v] := by simp
      simp only [e2, if_true]
      exact keepS hr0 (fun k hk => by
        rw [inA_some] at hk
        subst hk
        exact ⟨by omega, fun h1 => by have := hltA _ h1; omega⟩)
    · have hj1 : j < S.length := by rw [hlen] at hj; omega
      have e2 : (S ++ [[v]])[j] = S[j] := List.getElem_append_left hj1
      simp only [e2, if_neg e]
      exact keepS ((h.cel j hj1).ext hb) (fun k hk => hfar.2 j k hj1 hk)
  · by_cases e : j = S.length
    · simp only [if_pos e] at hk
      rw [inA_some] at hk
      exact .inr (by omega)
    · simp only [if_neg e] at hk
      exact .inl (h.fB j k (by rw [hlen] at hj; omega) hk)
  · by_cases e : j = S.length
    · by_cases e' : j' = S.length
      · omega
      · simp only [if_pos e] at hk; simp only [if_neg e'] at hk'
        rw [inA_some] at hk
        have := hltB j' k (by rw [hlen] at hj'; omega) hk'
        omega
    · by_cases e' : j' = S.length
      · simp only [if_neg e] at hk; simp only [if_pos e'] at hk'
        rw [inA_some] at hk'
        have := hltB j k (by rw [hlen] at hj; omega) hk
        omega
      · simp only [if_neg e] at hk; simp only [if_neg e'] at hk'
        exact h.apart j j' k (by rw [hlen] at hj; omega) (by rw [hlen] at hj'; omega) hk hk'

theorem info_row : (Tryd.prog.info? 108).map (fun i => (i.zero, i.size, i.bytes)) = some (some (.slice none 0 0), 1, 24) := by kernel_rfl
theorem zeroS_succ (k : Nat) : zeroS (k + 1) = zeroS k ++ [[zerosV]] := by unfold zeroS; rw [List.replicate_succ']

/-- what a round of New leaves behind -/
theorem rnew_fin {W wr w4 : World} {g k : Nat} {A : Option Addr} {c : Nat} {B : Nat → Option Addr} {C : Nat → Nat} (h : RLay wr (Born W wr) g (zeroS k) (-1) A c B C) (hb : Below W.heap.size W wr) (hk : k + 1 ≤ 4096) (O1 O2 O3 : Obj) (Z : ByteArray) (hZ : Z = ⟨zerosV.toArray⟩) (hO2 : O2 = Obj.cells #[.string Z] 9)
    (A' : Option Addr) (c' : Nat) (hr : RowO w4 108 1 A' (k + 1) c' (rvals (zeroS k) B C ++ [.slice (some ⟨wr.heap.size + 1, 0, none⟩) 1 1])) (ho : Only (inA A) (((wr.alloc O1).alloc O2).alloc O3).drew w4) (hA : ∀ k', inA A' k' → inA A k' ∨ ((((wr.alloc O1).alloc O2).alloc O3).drew.heap.size ≤ k' ∧ k' < w4.heap.size)) :
    (∃ A'' c'' B' C', RLay (w4.setCell ⟨g, 0, none⟩ (.slice A' (k + 1) c')) (Born W (w4.setCell ⟨g, 0, none⟩ (.slice A' (k + 1) c'))) g (zeroS (k + 1)) (-1) A'' c'' B' C') ∧ Below W.heap.size W (w4.setCell ⟨g, 0, none⟩ (.slice A' (k + 1) c')) := by
  have hl : (zeroS k).length = k := by simp [zeroS]
  have hs : (((wr.alloc O1).alloc O2).alloc O3).drew.heap.size = wr.heap.size + 3 := by
    show (((wr.alloc O1).alloc O2).alloc _).heap.size = _
    rw [World.size_alloc, World.size_alloc, World.size_alloc]
  have hb1 : Below wr.heap.size wr (((wr.alloc O1).alloc O2).alloc O3).drew := Below.drew' ((((Below.refl _ wr).alloc (Nat.le_refl _) O1).alloc (by rw [World.size_alloc]; omega) O2).alloc (by rw [World.size_alloc, World.size_alloc]; omega) O3)
  have hr0 : RowO (((wr.alloc O1).alloc O2).alloc O3).drew 9 1 (some ⟨wr.heap.size + 1, 0, none⟩) 1 1 [strV zerosV] := by
    have h1 := RowO.lit (wr.alloc O1) 9 1 1 #[.string Z] rfl (by unfold maxLen; omega) (g := wr.heap.size + 1) (by rw [World.size_alloc])
    rw [← hO2, hZ] at h1
    exact (h1.alloc O3).drew
  have hg := h.grow hb1 zerosV rfl (gb := wr.heap.size + 1) (by omega) (by omega) hr0 ho (by rw [hl]; exact hr) hA (by rw [hl]; exact hk)
  rw [hl, ← zeroS_succ] at hg
  have z1 := hb.size
  have z2 := ho.size
  have zw : (w4.setCell ⟨g, 0, none⟩ (.slice A' (k + 1) c')).heap.size = w4.heap.size := by simp [World.setCell]
  have hgB := h.fg
  refine ⟨⟨_, _, _, _, hg.mono (fun k' hk' _ => ?_)⟩, ?_⟩
  · rcases hk' with hk' | hk'
    · exact ⟨hk'.1, by have := hk'.2; rw [zw]; omega⟩
    · exact ⟨by omega, by rw [zw]; omega⟩
  · have e1 : Below W.heap.size W w4 := (hb.trans (hb1.mono z1)).trans (ho.below (fun i hi => (h.fA i hi).1) (by omega))
    exact ⟨e1.os, e1.tape, e1.output, by rw [zw]; exact e1.size, fun i hi => (Below.heap_setCell w4 ⟨g, 0, none⟩ _ i (by have := hgB.1; show i ≠ g; omega)).trans (e1.block i hi)⟩

set_option maxRecDepth 100000 in
set_option maxHeartbeats 4000000 in
theorem rnew_ok (n : Nat) (W w : World) (hb0 : Below W.heap.size W w) (h1 : 1 ≤ n) (h2 : n ≤ 4096) :
    Calls Tryd.prog 26 #[.int .i64 (n : Int)] w fun e w' => ∃ g, e = .returned (.tuple #[.pointer (some ⟨g, 0, none⟩), .int .i64 0]) ∧ Below W.heap.size W w' ∧ Ref w' (Born W w') g (zeroS n) (-1) ∧ w.heap.size ≤ g := by
  have hstart : RLay (w.alloc (.cells #[.slice none 0 0, .int .i64 (-1)] 74)) (Born W (w.alloc (.cells #[.slice none 0 0, .int .i64 (-1)] 74))) w.heap.size (zeroS 0) (-1) none 0 (fun _ => none) (fun _ => 0) := by
    have := hb0.size
    refine ⟨⟨by omega, by rw [World.size_alloc]; omega⟩, by omega, by omega, by simp [zeroS], Blk.new _ _ _, RowO.none_ _ _ _, fun k hk => absurd hk (inA_none k), fun vs hv => ?_, fun i hi => ?_, fun i k hi => ?_, fun i j k hi => ?_⟩
    · simp [zeroS] at hv
    · simp [zeroS] at hi
    · simp [zeroS] at hi
    · simp [zeroS] at hi
  have hbs : Below W.heap.size W (w.alloc (.cells #[.slice none 0 0, .int .i64 (-1)] 74)) := hb0.alloc hb0.size _
  have hd1 : decide ((n : Int) < 1) = false := decide_eq_false (by omega)
  have hd2 : decide ((4096 : Int) < (n : Int)) = false := decide_eq_false (by omega)
  obtain ⟨Z, hZ⟩ : ∃ Z, Z = (⟨zerosV.toArray⟩ : ByteArray) := ⟨_, rfl⟩
  obtain ⟨O1, hO1⟩ : ∃ O1, O1 = Obj.cells (madeCells #[.int .u8 0] 64) 5 := ⟨_, rfl⟩
  have hmk : ∀ W : World, (Instr.makeSlice 22 (.int .i64 64) (.int .i64 64)).run Tryd.prog W = .ok (.slice (some ⟨W.heap.size, 0, none⟩) 64 64) (W.alloc O1) := fun W => by rw [hO1]; exact make_zeros W 64 (by omega)
  have hzs : ∀ W : World, (convert 22 9 (.slice (some ⟨W.heap.size, 0, none⟩) 64 64)).run Tryd.prog (W.alloc O1).drew = .ok (.string Z) (W.alloc O1).drew := fun W => by rw [hO1, hZ]; exact zeros_str W 64
  replace hO1 := Lib.hid hO1
  replace hZ := Lib.hid hZ
  go_enter Tryd.func26, Tryd.ntmps26
  go_wp2
  go_loopw [5] (fun i wr => ∃ (k : Nat) (A : Option Addr) (c : Nat) (B : Nat → Option Addr) (C : Nat → Nat), k ≤ n ∧ i = .int .i64 (k : Int) ∧ RLay wr (Born W wr) w.heap.size (zeroS k) (-1) A c B C ∧ Below W.heap.size W wr) (fun i _ => n - (intOf i).toNat)
  case atStart => exact ⟨0, none, 0, _, _, Nat.zero_le _, rfl, hstart, hbs⟩
  case round =>
    obtain ⟨k, A, c, B, C, hk, rfl, hL, hb⟩ := hrel
    clear hstart hbs
    by_cases hlt : k < n
    · have hki : (k : Int) < (n : Int) := by omega
      have hl : (zeroS k).length = k := by simp [zeroS]
      have hdsk := hL.dsk
      have hrowL := hL.row
      rw [hl] at hdsk hrowL
      have hdsk1 : wr.cell? ⟨w.heap.size, 0, none⟩ = some (.slice A k c) := hdsk.cell 0
      have hfr : wr.frozen? ⟨w.heap.size, 0, none⟩ = false := hdsk.free 0
      have hlg : w.heap.size < wr.heap.size := hdsk.lt
      obtain ⟨O2, hO2⟩ : ∃ O2, O2 = Obj.cells #[.string Z] 9 := ⟨_, rfl⟩
      obtain ⟨O3, hO3⟩ : ∃ O3, O3 = Obj.cells #[.slice (some ⟨wr.heap.size + 1, 0, none⟩) 1 1] 108 := ⟨_, rfl⟩
      have q3 : ∀ k, k < wr.heap.size → (((wr.alloc O1).alloc O2).alloc O3).heap[k]? = wr.heap[k]? := fun k hk => (Below.heap_alloc _ _ k (by rw [World.size_alloc, World.size_alloc]; omega)).trans ((Below.heap_alloc _ _ k (by rw [World.size_alloc]; omega)).trans (Below.heap_alloc wr _ k hk))
      have e1 : (wr.alloc O1).cell? ⟨w.heap.size, 0, none⟩ = some (.slice A k c) := ((hdsk.alloc O1).cell 0)
      have e2 : ((wr.alloc O1).alloc O2).cell? ⟨w.heap.size, 0, none⟩ = some (.slice A k c) := (((hdsk.alloc O1).alloc O2).cell 0)
      have e3 : (((wr.alloc O1).alloc O2).alloc O3).cell? ⟨w.heap.size, 0, none⟩ = some (.slice A k c) := ((((hdsk.alloc O1).alloc O2).alloc O3).cell 0)
      have hrow3 : RowO (((wr.alloc O1).alloc O2).alloc O3).drew 108 1 A k c (rvals (zeroS k) B C) := (((hrowL.alloc _).alloc _).alloc _).drew
      have hlit : Rd (((wr.alloc O1).alloc O2).alloc O3).drew (some ⟨wr.heap.size + 2, 0, none⟩) [.slice (some ⟨wr.heap.size + 1, 0, none⟩) 1 1] := by
        rw [hO3]
        exact (Rd.lit_at ((wr.alloc O1).alloc O2) #[.slice (some ⟨wr.heap.size + 1, 0, none⟩) 1 1] 108 (by rw [World.size_alloc, World.size_alloc])).drew
      have hgA : ¬ inA A w.heap.size := hL.far.1
      have fin : ∀ (A' : Option Addr) (c' : Nat) (w4 : World), RowO w4 108 1 A' (k + 1) c' (rvals (zeroS k) B C ++ [.slice (some ⟨wr.heap.size + 1, 0, none⟩) 1 1]) → Only (inA A) (((wr.alloc O1).alloc O2).alloc O3).drew w4 → (∀ k', inA A' k' → inA A k' ∨ ((((wr.alloc O1).alloc O2).alloc O3).drew.heap.size ≤ k' ∧ k' < w4.heap.size)) → ∃ (k' : Nat) (A : Option Addr) (c : Nat) (B : Nat → Option Addr) (C : Nat → Nat), k' ≤ n ∧ Value.int .i64 ((k : Int) + 1) = .int .i64 (k' : Int) ∧ RLay (w4.setCell ⟨w.heap.size, 0, none⟩ (.slice A' (k + 1) c')) (Born W (w4.setCell ⟨w.heap.size, 0, none⟩ (.slice A' (k + 1) c'))) w.heap.size (zeroS k') (-1) A c B C ∧ Below W.heap.size W (w4.setCell ⟨w.heap.size, 0, none⟩ (.slice A' (k + 1) c')) := fun A' c' w4 a1 a2 a3 => by
        obtain ⟨⟨A2, c2, B2, C2, hh⟩, hbb⟩ := rnew_fin hL hb (by omega) O1 O2 O3 Z hZ.out hO2 A' c' a1 a2 a3
        exact ⟨k + 1, A2, c2, B2, C2, by omega, by go_num, hh, hbb⟩
      have q4 : ∀ w4 : World, Only (inA A) (((wr.alloc O1).alloc O2).alloc O3).drew w4 → w4.heap[w.heap.size]? = wr.heap[w.heap.size]? := fun w4 ho => (ho.block w.heap.size (by show w.heap.size < (((wr.alloc O1).alloc O2).alloc O3).heap.size; rw [World.size_alloc, World.size_alloc, World.size_alloc]; omega) hgA).trans (q3 w.heap.size hlg)
      rw [hO2] at e2 e3 hrow3 hlit fin q4
      rw [hO3] at e3 hrow3 hlit fin q4
      replace fin := Lib.hid fin
      replace q4 := Lib.hid q4
      clear q3 hO2 hO3
      have hm1 : k + 1 ≤ maxLen := by unfold maxLen; omega
      have hm2 : (k + 1) * 24 ≤ 140737488355328 := by omega
      go_wp2_with fail
      refine wp_region_held_drew (S := fun _ => True) (by kernel_rfl) ?_ (fun hHeld => ?_)
      · all_goals exact True.intro
      refine wpAnyH_take (i := 0) (v := ?_) (take_list rfl) (by kernel_rfl) (by kernel_rfl) (by kernel_rfl) (fun _ _ _ h => h) (Or.inl ⟨by rfl, ?_⟩) (by assumption) ?_
      rotate_left
      · intro w hSw
        try dsimp only at hSw
        first | (go_simp; done) | (go_simp; with_reducible rfl)
      try simp only [Act.put, List.setIfInBounds_toArray, List.set_cons_zero, List.set_cons_succ]
      refine wpAnyH_take (i := 1) (v := ?_) (take_list rfl) (by kernel_rfl) (by kernel_rfl) (by kernel_rfl) (fun _ _ _ h => h) (Or.inl ⟨by rfl, ?_⟩) (by assumption) ?_
      rotate_left
      · intro w hSw
        try dsimp only at hSw
        first | (go_simp; done) | (go_simp; with_reducible rfl)
      try simp only [Act.put, List.setIfInBounds_toArray, List.set_cons_zero, List.set_cons_succ]
      refine wpAnyH_take (i := 2) (v := ?_) (take_list rfl) (by kernel_rfl) (by kernel_rfl) (by kernel_rfl) (fun _ _ _ h => h) (Or.inl ⟨by rfl, ?_⟩) (by assumption) ?_
      rotate_left
      · intro w hSw
        try dsimp only at hSw
        first | (go_simp; done) | (go_simp; with_reducible rfl)
      try simp only [Act.put, List.setIfInBounds_toArray, List.set_cons_zero, List.set_cons_succ]
      refine wpAnyH_take (i := 3) (v := ?_) (take_list rfl) (by kernel_rfl) (by kernel_rfl) (by kernel_rfl) (fun _ _ _ h => h) (Or.inl ⟨by rfl, ?_⟩) (by assumption) ?_
      rotate_left
      · intro w hSw
        try dsimp only at hSw
        first | (go_simp; done) | (go_simp; with_reducible rfl)
      try simp only [Act.put, List.setIfInBounds_toArray, List.set_cons_zero, List.set_cons_succ]
      refine wpAnyH_ready (rs := [4, 5]) (by kernel_rfl) (by simp) ?_
      refine AllReadyH.cons (take_list rfl) (fun K hK => ?_) ?_
      · skip
        go_simp
        refine hK.out _ _ ?_ (fun hHeld => ?_)
        · try dsimp only
          all_goals exact True.intro
        clear hK K
        refine wpAnyH_ready (rs := [5]) (by kernel_rfl) (by simp) ?_
        refine AllReadyH.cons (take_list rfl) (fun K hK => ?_) ?_
        · skip
          go_simp
          refine hK.out _ _ ?_ (fun hHeld => ?_)
          · try dsimp only
            all_goals exact True.intro
          clear hK K
          refine wpAnyH_ready (rs := [6]) (by kernel_rfl) (by simp) ?_
          refine AllReadyH.cons (take_list rfl) (fun K hK => ?_) ?_
          · skip
            go_simp
            refine hK.out _ _ ?_ (fun hHeld => ?_)
            · try dsimp only
              all_goals exact True.intro
            clear hK K
            refine wpAnyH_ready (rs := [7]) (by kernel_rfl) (by simp) ?_
            refine AllReadyH.cons (take_list rfl) (fun K hK => ?_) ?_
            · skip
              go_simp
              refine hK.out _ _ ?_ (fun hHeld => ?_)
              · try dsimp only
                all_goals exact True.intro
              clear hK K
              refine wpAnyH_ready (rs := [8]) (by kernel_rfl) (by simp) ?_
              refine AllReadyH.cons (take_list rfl) (fun K hK => ?_) ?_
              · skip
                go_simp
                refine hK.out _ _ ?_ (fun hHeld => ?_)
                · try dsimp only
                  all_goals exact True.intro
                clear hK K
                refine wpAnyH_ready (rs := [9]) (by kernel_rfl) (by simp) ?_
                refine AllReadyH.cons (take_list rfl) (fun K hK => ?_) ?_
                · skip
                  refine step_appO _ rfl (.tmp 23) (.tmp 27) _ rfl _ _ 1 24 Tryd.underlying72 info_row rfl A _ c _ rfl hrow3 (some ⟨wr.heap.size + 2, 0, none⟩) 1 1 [.slice (some ⟨wr.heap.size + 1, 0, none⟩) 1 1] rfl rfl hlit ?_ ?_ hm1 hm2 ?_
                  · simp; rfl
                  · intro h; cases h
                  intro A4 c4 w4 hrow4 ho4 hA4
                  have p4 : w4.cell? ⟨w.heap.size, 0, none⟩ = some (.slice A k c) := (World.cell?_of_block (a := ⟨w.heap.size, 0, none⟩) (q4.out w4 ho4)).trans hdsk1
                  have p5 : w4.frozen? ⟨w.heap.size, 0, none⟩ = false := (World.frozen?_of_block (a := ⟨w.heap.size, 0, none⟩) (q4.out w4 ho4)).trans hfr
                  refine hK.out _ _ ?_ (fun hHeld => ?_)
                  · try dsimp only
                    all_goals exact True.intro
                  clear hK K
                  refine wpAnyH_take (i := 10) (v := ?_) (take_list rfl) (by kernel_rfl) (by kernel_rfl) (by kernel_rfl) (fun _ _ _ h => h) (Or.inl ⟨by rfl, ?_⟩) (by assumption) ?_
                  rotate_left
                  · intro w hSw
                    try dsimp only at hSw
                    first | (go_simp; done) | (go_simp; with_reducible rfl)
                  try simp only [Act.put, List.setIfInBounds_toArray, List.set_cons_zero, List.set_cons_succ]
                  refine wpAnyH_take (i := 11) (v := ?_) (take_list rfl) (by kernel_rfl) (by kernel_rfl) (by kernel_rfl) (fun _ _ _ h => h) (Or.inl ⟨by rfl, ?_⟩) (by assumption) ?_
                  rotate_left
                  · intro w hSw
                    try dsimp only at hSw
                    first | (go_simp; done) | (go_simp; with_reducible rfl)
                  try simp only [Act.put, List.setIfInBounds_toArray, List.set_cons_zero, List.set_cons_succ]
                  refine wpAnyH_ready (rs := [12]) (by kernel_rfl) (by simp) ?_
                  refine AllReadyH.cons (take_list rfl) (fun K hK => ?_) ?_
                  · skip
                    go_simp
                    refine hK.out _ _ ?_ (fun hHeld => ?_)
                    · try dsimp only
                      all_goals exact True.intro
                    clear hK K
                    refine wpAnyH_done (by kernel_rfl) ?_ _
                    go_wp2
                    go_roundw
                    case rel => exact fin.out A4 c4 w4 hrow4 ho4 hA4
                    case measure => simp [intOf]; omega
                  exact AllReadyH.nil
                exact AllReadyH.nil
              exact AllReadyH.nil
            exact AllReadyH.nil
          exact AllReadyH.nil
        exact AllReadyH.nil
      refine AllReadyH.cons (take_list rfl) (fun K hK => ?_) ?_
      · skip
        go_simp
        refine hK.out _ _ ?_ (fun hHeld => ?_)
        · try dsimp only
          all_goals exact True.intro
        clear hK K
        refine wpAnyH_ready (rs := [4, 6]) (by kernel_rfl) (by simp) ?_
        refine AllReadyH.cons (take_list rfl) (fun K hK => ?_) ?_
        · skip
          go_simp
          refine hK.out _ _ ?_ (fun hHeld => ?_)
          · try dsimp only
            all_goals exact True.intro
          clear hK K
          refine wpAnyH_ready (rs := [6]) (by kernel_rfl) (by simp) ?_
          refine AllReadyH.cons (take_list rfl) (fun K hK => ?_) ?_
          · skip
            go_simp
            refine hK.out _ _ ?_ (fun hHeld => ?_)
            · try dsimp only
              all_goals exact True.intro
            clear hK K
            refine wpAnyH_ready (rs := [7]) (by kernel_rfl) (by simp) ?_
            refine AllReadyH.cons (take_list rfl) (fun K hK => ?_) ?_
            · skip
              go_simp
              refine hK.out _ _ ?_ (fun hHeld => ?_)
              · try dsimp only
                all_goals exact True.intro
              clear hK K
              refine wpAnyH_ready (rs := [8]) (by kernel_rfl) (by simp) ?_
              refine AllReadyH.cons (take_list rfl) (fun K hK => ?_) ?_
              · skip
                go_simp
                refine hK.out _ _ ?_ (fun hHeld => ?_)
                · try dsimp only
                  all_goals exact True.intro
                clear hK K
                refine wpAnyH_ready (rs := [9]) (by kernel_rfl) (by simp) ?_
                refine AllReadyH.cons (take_list rfl) (fun K hK => ?_) ?_
                · skip
                  refine step_appO _ rfl (.tmp 23) (.tmp 27) _ rfl _ _ 1 24 Tryd.underlying72 info_row rfl A _ c _ rfl hrow3 (some ⟨wr.heap.size + 2, 0, none⟩) 1 1 [.slice (some ⟨wr.heap.size + 1, 0, none⟩) 1 1] rfl rfl hlit ?_ ?_ hm1 hm2 ?_
                  · simp; rfl
                  · intro h; cases h
                  intro A4 c4 w4 hrow4 ho4 hA4
                  have p4 : w4.cell? ⟨w.heap.size, 0, none⟩ = some (.slice A k c) := (World.cell?_of_block (a := ⟨w.heap.size, 0, none⟩) (q4.out w4 ho4)).trans hdsk1
                  have p5 : w4.frozen? ⟨w.heap.size, 0, none⟩ = false := (World.frozen?_of_block (a := ⟨w.heap.size, 0, none⟩) (q4.out w4 ho4)).trans hfr
                  refine hK.out _ _ ?_ (fun hHeld => ?_)
                  · try dsimp only
                    all_goals exact True.intro
                  clear hK K
                  refine wpAnyH_take (i := 10) (v := ?_) (take_list rfl) (by kernel_rfl) (by kernel_rfl) (by kernel_rfl) (fun _ _ _ h => h) (Or.inl ⟨by rfl, ?_⟩) (by assumption) ?_
                  rotate_left
                  · intro w hSw
                    try dsimp only at hSw
                    first | (go_simp; done) | (go_simp; with_reducible rfl)
                  try simp only [Act.put, List.setIfInBounds_toArray, List.set_cons_zero, List.set_cons_succ]
                  refine wpAnyH_take (i := 11) (v := ?_) (take_list rfl) (by kernel_rfl) (by kernel_rfl) (by kernel_rfl) (fun _ _ _ h => h) (Or.inl ⟨by rfl, ?_⟩) (by assumption) ?_
                  rotate_left
                  · intro w hSw
                    try dsimp only at hSw
                    first | (go_simp; done) | (go_simp; with_reducible rfl)
                  try simp only [Act.put, List.setIfInBounds_toArray, List.set_cons_zero, List.set_cons_succ]
                  refine wpAnyH_ready (rs := [12]) (by kernel_rfl) (by simp) ?_
                  refine AllReadyH.cons (take_list rfl) (fun K hK => ?_) ?_
                  · skip
                    go_simp
                    refine hK.out _ _ ?_ (fun hHeld => ?_)
                    · try dsimp only
                      all_goals exact True.intro
                    clear hK K
                    refine wpAnyH_done (by kernel_rfl) ?_ _
                    go_wp2
                    go_roundw
                    case rel => exact fin.out A4 c4 w4 hrow4 ho4 hA4
                    case measure => simp [intOf]; omega
                  exact AllReadyH.nil
                exact AllReadyH.nil
              exact AllReadyH.nil
            exact AllReadyH.nil
          exact AllReadyH.nil
        refine AllReadyH.cons (take_list rfl) (fun K hK => ?_) ?_
        · skip
          go_simp
          refine hK.out _ _ ?_ (fun hHeld => ?_)
          · try dsimp only
            all_goals exact True.intro
          clear hK K
          refine wpAnyH_ready (rs := [4, 7]) (by kernel_rfl) (by simp) ?_
          refine AllReadyH.cons (take_list rfl) (fun K hK => ?_) ?_
          · skip
            go_simp
            refine hK.out _ _ ?_ (fun hHeld => ?_)
            · try dsimp only
              all_goals exact True.intro
            clear hK K
            refine wpAnyH_ready (rs := [7]) (by kernel_rfl) (by simp) ?_
            refine AllReadyH.cons (take_list rfl) (fun K hK => ?_) ?_
            · skip
              go_simp
              refine hK.out _ _ ?_ (fun hHeld => ?_)
              · try dsimp only
                all_goals exact True.intro
              clear hK K
              refine wpAnyH_ready (rs := [8]) (by kernel_rfl) (by simp) ?_
              refine AllReadyH.cons (take_list rfl) (fun K hK => ?_) ?_
              · skip
                go_simp
                refine hK.out _ _ ?_ (fun hHeld => ?_)
                · try dsimp only
                  all_goals exact True.intro
                clear hK K
                refine wpAnyH_ready (rs := [9]) (by kernel_rfl) (by simp) ?_
                refine AllReadyH.cons (take_list rfl) (fun K hK => ?_) ?_
                · skip
                  refine step_appO _ rfl (.tmp 23) (.tmp 27) _ rfl _ _ 1 24 Tryd.underlying72 info_row rfl A _ c _ rfl hrow3 (some ⟨wr.heap.size + 2, 0, none⟩) 1 1 [.slice (some ⟨wr.heap.size + 1, 0, none⟩) 1 1] rfl rfl hlit ?_ ?_ hm1 hm2 ?_
                  · simp; rfl
                  · intro h; cases h
                  intro A4 c4 w4 hrow4 ho4 hA4
                  have p4 : w4.cell? ⟨w.heap.size, 0, none⟩ = some (.slice A k c) := (World.cell?_of_block (a := ⟨w.heap.size, 0, none⟩) (q4.out w4 ho4)).trans hdsk1
                  have p5 : w4.frozen? ⟨w.heap.size, 0, none⟩ = false := (World.frozen?_of_block (a := ⟨w.heap.size, 0, none⟩) (q4.out w4 ho4)).trans hfr
                  refine hK.out _ _ ?_ (fun hHeld => ?_)
                  · try dsimp only
                    all_goals exact True.intro
                  clear hK K
                  refine wpAnyH_take (i := 10) (v := ?_) (take_list rfl) (by kernel_rfl) (by kernel_rfl) (by kernel_rfl) (fun _ _ _ h => h) (Or.inl ⟨by rfl, ?_⟩) (by assumption) ?_
                  rotate_left
                  · intro w hSw
                    try dsimp only at hSw
                    first | (go_simp; done) | (go_simp; with_reducible rfl)
                  try simp only [Act.put, List.setIfInBounds_toArray, List.set_cons_zero, List.set_cons_succ]
                  refine wpAnyH_take (i := 11) (v := ?_) (take_list rfl) (by kernel_rfl) (by kernel_rfl) (by kernel_rfl) (fun _ _ _ h => h) (Or.inl ⟨by rfl, ?_⟩) (by assumption) ?_
                  rotate_left
                  · intro w hSw
                    try dsimp only at hSw
                    first | (go_simp; done) | (go_simp; with_reducible rfl)
                  try simp only [Act.put, List.setIfInBounds_toArray, List.set_cons_zero, List.set_cons_succ]
                  refine wpAnyH_ready (rs := [12]) (by kernel_rfl) (by simp) ?_
                  refine AllReadyH.cons (take_list rfl) (fun K hK => ?_) ?_
                  · skip
                    go_simp
                    refine hK.out _ _ ?_ (fun hHeld => ?_)
                    · try dsimp only
                      all_goals exact True.intro
                    clear hK K
                    refine wpAnyH_done (by kernel_rfl) ?_ _
                    go_wp2
                    go_roundw
                    case rel => exact fin.out A4 c4 w4 hrow4 ho4 hA4
                    case measure => simp [intOf]; omega
                  exact AllReadyH.nil
                exact AllReadyH.nil
              exact AllReadyH.nil
            exact AllReadyH.nil
          refine AllReadyH.cons (take_list rfl) (fun K hK => ?_) ?_
          · skip
            go_simp
            refine hK.out _ _ ?_ (fun hHeld => ?_)
            · try dsimp only
              all_goals exact True.intro
            clear hK K
            refine wpAnyH_ready (rs := [4, 8]) (by kernel_rfl) (by simp) ?_
            refine AllReadyH.cons (take_list rfl) (fun K hK => ?_) ?_
            · skip
              go_simp
              refine hK.out _ _ ?_ (fun hHeld => ?_)
              · try dsimp only
                all_goals exact True.intro
              clear hK K
              refine wpAnyH_ready (rs := [8]) (by kernel_rfl) (by simp) ?_
              refine AllReadyH.cons (take_list rfl) (fun K hK => ?_) ?_
              · skip
                go_simp
                refine hK.out _ _ ?_ (fun hHeld => ?_)
                · try dsimp only
                  all_goals exact True.intro
                clear hK K
                refine wpAnyH_ready (rs := [9]) (by kernel_rfl) (by simp) ?_
                refine AllReadyH.cons (take_list rfl) (fun K hK => ?_) ?_
                · skip
                  refine step_appO _ rfl (.tmp 23) (.tmp 27) _ rfl _ _ 1 24 Tryd.underlying72 info_row rfl A _ c _ rfl hrow3 (some ⟨wr.heap.size + 2, 0, none⟩) 1 1 [.slice (some ⟨wr.heap.size + 1, 0, none⟩) 1 1] rfl rfl hlit ?_ ?_ hm1 hm2 ?_
                  · simp; rfl
                  · intro h; cases h
                  intro A4 c4 w4 hrow4 ho4 hA4
                  have p4 : w4.cell? ⟨w.heap.size, 0, none⟩ = some (.slice A k c) := (World.cell?_of_block (a := ⟨w.heap.size, 0, none⟩) (q4.out w4 ho4)).trans hdsk1
                  have p5 : w4.frozen? ⟨w.heap.size, 0, none⟩ = false := (World.frozen?_of_block (a := ⟨w.heap.size, 0, none⟩) (q4.out w4 ho4)).trans hfr
                  refine hK.out _ _ ?_ (fun hHeld => ?_)
                  · try dsimp only
                    all_goals exact True.intro
                  clear hK K
                  refine wpAnyH_take (i := 10) (v := ?_) (take_list rfl) (by kernel_rfl) (by kernel_rfl) (by kernel_rfl) (fun _ _ _ h => h) (Or.inl ⟨by rfl, ?_⟩) (by assumption) ?_
                  rotate_left
                  · intro w hSw
                    try dsimp only at hSw
                    first | (go_simp; done) | (go_simp; with_reducible rfl)
                  try simp only [Act.put, List.setIfInBounds_toArray, List.set_cons_zero, List.set_cons_succ]
                  refine wpAnyH_take (i := 11) (v := ?_) (take_list rfl) (by kernel_rfl) (by kernel_rfl) (by kernel_rfl) (fun _ _ _ h => h) (Or.inl ⟨by rfl, ?_⟩) (by assumption) ?_
                  rotate_left
                  · intro w hSw
                    try dsimp only at hSw
                    first | (go_simp; done) | (go_simp; with_reducible rfl)
                  try simp only [Act.put, List.setIfInBounds_toArray, List.set_cons_zero, List.set_cons_succ]
                  refine wpAnyH_ready (rs := [12]) (by kernel_rfl) (by simp) ?_
                  refine AllReadyH.cons (take_list rfl) (fun K hK => ?_) ?_
                  · skip
                    go_simp
                    refine hK.out _ _ ?_ (fun hHeld => ?_)
                    · try dsimp only
                      all_goals exact True.intro
                    clear hK K
                    refine wpAnyH_done (by kernel_rfl) ?_ _
                    go_wp2
                    go_roundw
                    case rel => exact fin.out A4 c4 w4 hrow4 ho4 hA4
                    case measure => simp [intOf]; omega
                  exact AllReadyH.nil
                exact AllReadyH.nil
              exact AllReadyH.nil
            refine AllReadyH.cons (take_list rfl) (fun K hK => ?_) ?_
            · skip
              go_simp
              refine hK.out _ _ ?_ (fun hHeld => ?_)
              · try dsimp only
                all_goals exact True.intro
              clear hK K
              refine wpAnyH_ready (rs := [4]) (by kernel_rfl) (by simp) ?_
              refine AllReadyH.cons (take_list rfl) (fun K hK => ?_) ?_
              · skip
                go_simp
                refine hK.out _ _ ?_ (fun hHeld => ?_)
                · try dsimp only
                  all_goals exact True.intro
                clear hK K
                refine wpAnyH_ready (rs := [9]) (by kernel_rfl) (by simp) ?_
                refine AllReadyH.cons (take_list rfl) (fun K hK => ?_) ?_
                · skip
                  refine step_appO _ rfl (.tmp 23) (.tmp 27) _ rfl _ _ 1 24 Tryd.underlying72 info_row rfl A _ c _ rfl hrow3 (some ⟨wr.heap.size + 2, 0, none⟩) 1 1 [.slice (some ⟨wr.heap.size + 1, 0, none⟩) 1 1] rfl rfl hlit ?_ ?_ hm1 hm2 ?_
                  · simp; rfl
                  · intro h; cases h
                  intro A4 c4 w4 hrow4 ho4 hA4
                  have p4 : w4.cell? ⟨w.heap.size, 0, none⟩ = some (.slice A k c) := (World.cell?_of_block (a := ⟨w.heap.size, 0, none⟩) (q4.out w4 ho4)).trans hdsk1
                  have p5 : w4.frozen? ⟨w.heap.size, 0, none⟩ = false := (World.frozen?_of_block (a := ⟨w.heap.size, 0, none⟩) (q4.out w4 ho4)).trans hfr
                  refine hK.out _ _ ?_ (fun hHeld => ?_)
                  · try dsimp only
                    all_goals exact True.intro
                  clear hK K
                  refine wpAnyH_take (i := 10) (v := ?_) (take_list rfl) (by kernel_rfl) (by kernel_rfl) (by kernel_rfl) (fun _ _ _ h => h) (Or.inl ⟨by rfl, ?_⟩) (by assumption) ?_
                  rotate_left
                  · intro w hSw
                    try dsimp only at hSw
                    first | (go_simp; done) | (go_simp; with_reducible rfl)
                  try simp only [Act.put, List.setIfInBounds_toArray, List.set_cons_zero, List.set_cons_succ]
                  refine wpAnyH_take (i := 11) (v := ?_) (take_list rfl) (by kernel_rfl) (by kernel_rfl) (by kernel_rfl) (fun _ _ _ h => h) (Or.inl ⟨by rfl, ?_⟩) (by assumption) ?_
                  rotate_left
                  · intro w hSw
                    try dsimp only at hSw
                    first | (go_simp; done) | (go_simp; with_reducible rfl)
                  try simp only [Act.put, List.setIfInBounds_toArray, List.set_cons_zero, List.set_cons_succ]
                  refine wpAnyH_ready (rs := [12]) (by kernel_rfl) (by simp) ?_
                  refine AllReadyH.cons (take_list rfl) (fun K hK => ?_) ?_
                  · skip
                    go_simp
                    refine hK.out _ _ ?_ (fun hHeld => ?_)
                    · try dsimp only
                      all_goals exact True.intro
                    clear hK K
                    refine wpAnyH_done (by kernel_rfl) ?_ _
                    go_wp2
                    go_roundw
                    case rel => exact fin.out A4 c4 w4 hrow4 ho4 hA4
                    case measure => simp [intOf]; omega
                  exact AllReadyH.nil
                exact AllReadyH.nil
              exact AllReadyH.nil
            exact AllReadyH.nil
          exact AllReadyH.nil
        exact AllReadyH.nil
      exact AllReadyH.nil
    · obtain rfl : k = n := by omega
      go_wp2
      go_ret2
      exact ⟨w.heap.size, rfl, hb, ⟨A, c, B, C, hL⟩, Nat.le_refl _⟩
end Go.Proofs.YtlpjeopeboemmaaDoor
