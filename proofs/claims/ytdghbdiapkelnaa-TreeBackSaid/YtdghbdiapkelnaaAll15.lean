/-
  Texts of this claim, joined (part 15): contracts and lemmas that the last text goes by. No statement of the seat is proved here.
-/
import Derived.Test.YtdghbdiapkelnaaAll10
import Derived.Test.YtdghbdiapkelnaaAll5
import Derived.Test.YtdghbdiapkelnaaAll12
import Derived.Deep.RegionHeld3
set_option linter.unusedVariables false
set_option linter.unusedSimpArgs false
/-
  Copy (program). No statement of the seat is proved here.
-/
namespace Go.Proofs.Ytdghbdiapkelnaa
open Go Go.RowKit Go.Maps
set_option maxRecDepth 100000

theorem info_intC : (Try.prog.info? 3).map (fun i => (i.zero, i.size, i.bytes)) = some (some (.int .i64 0), 1, 8) := by kernel_rfl
theorem clonei_any {w : World} (A : Option Addr) (c : Nat) (l : List Nat) (hrd : Rd w A (l.map natV)) (hm : l.length ≤ 1000000) :
    Calls Try.prog 57 #[.slice A l.length c] w fun e w' => ∃ A' c', e = .returned (.slice A' l.length c') ∧ NewO w w' 3 1 A' l.length c' (l.map natV) := by
  have he := Lib.run_eql_slice_nil (P := Try.prog) w 82 3 A l.length c 0 0 Try.underlying82
  have hl : (l.map natV).length = l.length * 1 := by rw [List.length_map, Nat.mul_one]
  have h1 : ∀ u ∈ l.map natV, u.oneCell' = true := fun u hu => by
    obtain ⟨x, _, rfl⟩ := List.mem_map.1 hu
    rfl
  generalize l.map natV = xs at *
  generalize l.length = m at *
  rcases A with _ | ad
  · have hnil : xs = [] := by
      cases xs with
      | nil => rfl
      | cons u r => obtain ⟨ad, e, _⟩ := hrd 0 u rfl; cases e
    subst hnil
    obtain rfl : m = 0 := by simp at hl; omega
    clear hrd
    go_enter Try.func57, Try.ntmps57
    go_wp2
    go_ret
    exact ⟨none, 0, rfl, NewO.start _ _ _⟩
  · have hm1 : 0 + m ≤ maxLen := by unfold maxLen; omega
    have hm2 : (0 + m) * 8 ≤ 140737488355328 := by omega
    have hempty : NewO w (w.alloc (.cells #[] 3)) 3 1 (some ⟨w.heap.size, 0, none⟩) 0 0 [] := ⟨RowO.lit w 3 1 0 #[] rfl (Nat.zero_le _) rfl, ext_alloc (Below.refl _ _) _, fun k hk => by rw [inA_some] at hk; omega⟩
    have hrd := hrd.alloc (.cells #[] 3)
    go_enter Try.func57, Try.ntmps57
    go_wp2_with (at_builtin
                 refine wpList_appO _ rfl (.tmp 5) (.tmp 6) _ rfl _ _ 1 8 Try.underlying82 info_intC rfl (some ⟨w.heap.size, 0, none⟩) 0 0 [] rfl hempty.row (some ad) m c xs rfl hl hrd h1 ?_ hm1 hm2 ?_
                 · intro h; cases h
                 intro A2 c2 w2 hrow2 honly2 hA2)
    go_ret
    rw [List.nil_append] at hrow2
    rw [Nat.zero_add] at hrow2
    exact ⟨A2, c2, by first | rfl | simp, hempty.grow (Below.refl _ _) hrow2 honly2 hA2⟩
section
variable {S : Nat → Prop} {w : World} {g : Nat} {t : Tr}
set_option maxHeartbeats 16000000 in
theorem copy_any (h : TrIn S w g t) (hG : Good t) :
    Calls Try.prog 28 #[.pointer (some ⟨g, 0, none⟩)] w fun e w' => ∃ (g2 : Nat) (T : Nat → Prop), e = .returned (.pointer (some ⟨g2, 0, none⟩)) ∧ Hid (TrIn T w' g2 t) ∧ Hid (∀ j, T j → w.heap.size ≤ j) ∧ Hid (Below w.heap.size w w') := by
  have HN := Lib.hid (new_any w)
  obtain ⟨A, c, xs, R, d, ys, M, h⟩ := h
  have H := Lib.hid h
  have HG := Lib.hid hG
  have hti : (t.ts.length : Int) ≤ 63 := by have := hG.ids; omega
  have hli : (t.lv.length : Int) ≤ 32 := by have := hG.lvs; omega
  have HCs : Hid (∀ W, Below w.heap.size w W → W.cell? ⟨g, 0, none⟩ = some (.slice A t.ts.length c) ∧ W.cell? ⟨g, 1, none⟩ = some (.slice R t.lv.length d)) := Lib.hid (fun W hW => by
    have hx := (H.out.ext hW).blk
    have x0 := hx.cell 0
    have x1 := hx.cell 1
    simp only [List.getElem?_toArray, List.getElem?_cons_zero, List.getElem?_cons_succ] at x0 x1
    exact ⟨x0, x1⟩)
  clear h hG
  go_enter Try.func28, Try.ntmps28
  go_wp2_with fail
  refine HN.out.mono ?_
  rintro e w1 ⟨g2, rfl, hT, hb, hg⟩
  have HT := Lib.hid hT
  have Hb := Lib.hid hb
  have Hg2 : Hid (∀ j, j = g2 → w.heap.size ≤ j) := Lib.hid (fun j hj => by omega)
  obtain ⟨y0, -⟩ := HCs.out w1 hb
  clear hT hb hg HN
  go_wp2
  go_loopw [17] (fun i wr => ∃ k : Nat, k ≤ t.ts.length ∧ i = .int .i64 (k : Int) ∧ ∃ T : Nat → Prop, Hid (TrIn T wr g2 ⟨t.ts.take k, []⟩) ∧ Hid (∀ j, T j → w.heap.size ≤ j) ∧ Hid (Below w.heap.size w wr)) (fun i _ => t.ts.length - (intOf i).toNat)
  case atStart => exact ⟨0, Nat.zero_le _, rfl, _, HT, Hg2, Hb⟩
  case round =>
    obtain ⟨k, hk, rfl, T, HTr, HTs, Hbr⟩ := hrel
    clear y0
    by_cases hlt : k < t.ts.length
    · have hki : (k : Int) < (t.ts.length : Int) := by omega
      obtain ⟨gA, oA, B, e, rfl, c0, hr, -⟩ := H.out.tmp hlt
      have c1 := (World.cell?_of_block (Hbr.out.block _ (World.block_lt_of_cell? w _ c0))).trans c0
      have hp := (HG.out.long _ (List.getElem_mem hlt)).2
      have HCl : Hid (∀ W, Below w.heap.size w W → Calls Try.prog 44 #[.slice B t.ts[k].length e] W fun e w' => ∃ A' c', e = .returned (.slice A' t.ts[k].length c') ∧ Hid (NewO W w' 72 2 A' t.ts[k].length c' (cellsP t.ts[k]))) := Lib.hid (fun W hW => (clonep_any B e t.ts[k] ((parts_row hr).ext hW) (by omega)).mono (fun e w' ⟨A', c', h1, h2⟩ => ⟨A', c', h1, Lib.hid h2⟩))
      have HSn : Hid (addT ⟨t.ts.take k, []⟩ t.ts[k] [] = ⟨t.ts.take (k + 1), []⟩) := Lib.hid (by unfold addT; rw [take_snoc _ _ hlt])
      have Htl : Hid ((t.ts.take k).length ≤ 63) := Lib.hid (by rw [List.length_take]; omega)
      clear c0 hr hp
      generalize t.ts[k] = pt at *
      go_wp2
      refine wp_region_held_drew (S := fun _ => True) (by kernel_rfl) ?_ (fun hHeld => ?_)
      · try trivial
      refine wpAnyH_take (i := 0) (v := ?_) (take_list rfl) (by kernel_rfl) (by kernel_rfl) (by kernel_rfl) (fun _ _ _ h => h) (Or.inl ⟨by rfl, ?_⟩) (by assumption) ?_
      rotate_left
      · intro w hSw
        try dsimp only at hSw
        first | (go_simp; done) | (go_simp; with_reducible rfl)
      try simp only [Act.put, List.setIfInBounds_toArray, List.set_cons_zero, List.set_cons_succ]
      refine wpAnyH_take (i := 1) (v := ?_) (take_list rfl) (by kernel_rfl) (by kernel_rfl) (by kernel_rfl) (fun _ _ _ h => h) (Or.inl ⟨by rfl, ?_⟩) (by assumption) ?_
      rotate_left
      · intro w hSw
        try dsimp only at hSw
        first | (go_simp; done) | (go_simp; with_reducible rfl)
      try simp only [Act.put, List.setIfInBounds_toArray, List.set_cons_zero, List.set_cons_succ]
      refine wpAnyH_take (i := 2) (v := ?_) (take_list rfl) (by kernel_rfl) (by kernel_rfl) (by kernel_rfl) (fun _ _ _ h => h) (Or.inl ⟨by rfl, ?_⟩) (by assumption) ?_
      rotate_left
      · intro w hSw
        try dsimp only at hSw
        first | (go_simp; done) | (go_simp; with_reducible rfl)
      try simp only [Act.put, List.setIfInBounds_toArray, List.set_cons_zero, List.set_cons_succ]
      refine wpAnyH_take (i := 3) (v := ?_) (take_list rfl) (by kernel_rfl) (by kernel_rfl) (by kernel_rfl) (fun _ _ _ h => h) (Or.inl ⟨by rfl, ?_⟩) (by assumption) ?_
      rotate_left
      · intro w hSw
        try dsimp only at hSw
        first | (go_simp; done) | (go_simp; with_reducible rfl)
      try simp only [Act.put, List.setIfInBounds_toArray, List.set_cons_zero, List.set_cons_succ]
      refine wpAnyH_ready (rs := [4]) (by kernel_rfl) (by simp) ?_
      refine AllReadyH.cons (take_list rfl) (fun K hK => ?_) ?_
      · skip
        go_simp
        refine (HCl.out _ (ext_trans Hbr.out (by repeat (first | exact Below.refl _ _ | refine ext_drewN ?_ _ | refine ext_drew ?_) : Below wr.heap.size wr wr.drew))).mono ?_
        rintro e4 w4 ⟨B4, c4, rfl, hN4⟩
        dsimp only
        have Hb4 : Hid (Below wr.heap.size wr w4) := Lib.hid (ext_trans (by repeat (first | exact Below.refl _ _ | refine ext_drewN ?_ _ | refine ext_drew ?_) : Below wr.heap.size wr wr.drew) hN4.out.bel)
        obtain ⟨A5, c5, xs5, R5, d5, ys5, M5, h5⟩ := HTr.out.ext Hb4.out
        have HAd := Lib.hid (add_any h5 (by show (t.ts.take k).length ≤ 1000000; have := Htl.out; omega) hN4.out.row)
        clear h5
        refine hK.out _ _ ?_ (fun hHeld => ?_)
        · try dsimp only
          try trivial
        clear hK K
        refine wpAnyH_ready (rs := [5]) (by kernel_rfl) (by simp) ?_
        refine AllReadyH.cons (take_list rfl) (fun K hK => ?_) ?_
        · skip
          go_simp
          refine HAd.out.mono ?_
          rintro e6 w6 ⟨rfl, ⟨A6, c6, h6⟩, ho6⟩
          dsimp only
          have HT6 := Lib.hid h6
          have Hb6 : Hid (Below w.heap.size w w6) := Lib.hid ((ext_trans Hbr.out Hb4.out).trans (ho6.below HTs.out (ext_trans Hbr.out Hb4.out).size))
          have HTs6 : Hid (∀ j, (grewS T w4 w6 j ∨ inA B4 j) → w.heap.size ≤ j) := Lib.hid (fun j hj => by
            rcases hj with (hj | hj) | hj
            · exact HTs.out j hj
            · have := (ext_trans Hbr.out Hb4.out).size; omega
            · have := hN4.out.2.2 j hj; have h1 := Hbr.out.size; have h2 : wr.heap.size ≤ j := this; omega)
          clear h6 ho6
          refine hK.out _ _ ?_ (fun hHeld => ?_)
          · try dsimp only
            try trivial
          clear hK K
          refine wpAnyH_done (by kernel_rfl) ?_ _
          go_wp2
          go_roundw
          case rel => exact ⟨k + 1, by omega, by go_num, _, Lib.hid (by rw [← HSn.out]; exact ⟨_, _, _, _, _, _, _, HT6.out⟩), HTs6, Hb6⟩
          case measure => simp [intOf]; omega
        exact AllReadyH.nil
      exact AllReadyH.nil
    · obtain rfl : k = t.ts.length := by omega
      obtain ⟨-, z1⟩ := HCs.out wr Hbr.out
      have htk : (⟨t.ts.take t.ts.length, []⟩ : Tr) = ⟨t.ts, t.lv.take 0⟩ := by rw [List.take_length]; rfl
      rw [htk] at HTr
      have HTr2 := Lib.hid HTr.out
      clear htk HTr
      go_wp2
      go_loopw [34] (fun i wr => ∃ k : Nat, k ≤ t.lv.length ∧ i = .int .i64 (k : Int) ∧ ∃ T : Nat → Prop, Hid (TrIn T wr g2 ⟨t.ts, t.lv.take k⟩) ∧ Hid (∀ j, T j → w.heap.size ≤ j) ∧ Hid (Below w.heap.size w wr)) (fun i _ => t.lv.length - (intOf i).toNat)
      case atStart => exact ⟨0, Nat.zero_le _, rfl, _, HTr2, HTs, Hbr⟩
      case round =>
        obtain ⟨k, hk, rfl, T, HT3, HTs3, Hb3⟩ := hrel
        clear z1
        by_cases hlt : k < t.lv.length
        · have hki : (k : Int) < (t.lv.length : Int) := by omega
          obtain ⟨gR, oR, G, e, rfl, c0, c1, c2, c3, -, hGr, -⟩ := H.out.leaf hlt
          have hok := H.out.okl _ (List.getElem_mem hlt)
          have hg8 := (HG.out.gr _ (List.getElem_mem hlt)).2.1
          have f : ∀ {a v}, w.cell? a = some v → wr.cell? a = some v := fun h => cell_only h (Only.of_ext (S := fun _ => False) Hb3.out) (fun h => h)
          have d0 := f c0
          have d1 := f c1
          have d2 := f c2
          have d3 := f c3
          have HCl : Hid (∀ W, Below w.heap.size w W → Calls Try.prog 57 #[.slice G t.lv[k].gr.length e] W fun e w' => ∃ A' c', e = .returned (.slice A' t.lv[k].gr.length c') ∧ Hid (NewO W w' 3 1 A' t.lv[k].gr.length c' (t.lv[k].gr.map natV))) := Lib.hid (fun W hW => (clonei_any G e t.lv[k].gr (hGr.rd.ext hW) (by omega)).mono (fun e w' ⟨A', c', h1, h2⟩ => ⟨A', c', h1, Lib.hid h2⟩))
          have HSn : Hid ((⟨t.ts, t.lv.take k ++ [t.lv[k]]⟩ : Tr) = ⟨t.ts, t.lv.take (k + 1)⟩) := Lib.hid (by rw [take_snoc _ _ hlt])
          have Htl : Hid ((t.lv.take k).length ≤ 1000) := Lib.hid (by rw [List.length_take]; omega)
          have Hok := Lib.hid hok
          clear c0 c1 c2 c3 hGr hok f hg8
          generalize t.lv[k] = lf at *
          unfold natV at d0
          obtain ⟨ZA, hZA, -⟩ := str_hide lf.a
          obtain ⟨ZB, hZB, -⟩ := str_hide lf.b
          have HZA := Lib.hid hZA
          have HZB := Lib.hid hZB
          rw [hZA] at d1
          rw [hZB] at d2
          have HBl := Lib.hid (Blk.new wr 96 #[.int .i64 (lf.count : Int), .string ZA, .string ZB, .slice G lf.gr.length e])
          obtain ⟨wl, hwl⟩ : ∃ wl, wl = wr.alloc (.cells #[.int .i64 (lf.count : Int), .string ZA, .string ZB, .slice G lf.gr.length e] 96) := ⟨_, rfl⟩
          have Hwl := Lib.hid hwl
          have HX : Hid (Below wr.heap.size wr wl) := Lib.hid (by rw [hwl]; exact ext_alloc (Below.refl _ _) _)
          obtain ⟨lb, hlb⟩ : ∃ lb, lb = wr.heap.size := ⟨_, rfl⟩
          have Hlb : Hid (lb = wr.heap.size) := Lib.hid hlb
          have HC1 : Hid (∀ W, Below wl.heap.size wl W → W.cell? ⟨lb, 0, none⟩ = some (.int .i64 (lf.count : Int)) ∧ W.cell? ⟨lb, 1, none⟩ = some (.string ZA) ∧ W.cell? ⟨lb, 2, none⟩ = some (.string ZB) ∧ W.cell? ⟨lb, 3, none⟩ = some (.slice G lf.gr.length e)) := Lib.hid (fun W hW => by
            have h0 := HBl.out.cell 0
            have h1 := HBl.out.cell 1
            have h2 := HBl.out.cell 2
            have h3 := HBl.out.cell 3
            rw [← hwl, ← hlb] at h0 h1 h2 h3
            simp only [List.getElem?_toArray, List.getElem?_cons_zero, List.getElem?_cons_succ] at h0 h1 h2 h3
            have f : ∀ {a v}, wl.cell? a = some v → W.cell? a = some v := fun h => cell_only h (Only.of_ext (S := fun _ => False) hW) (fun h => h)
            exact ⟨f h0, f h1, f h2, f h3⟩)
          clear hZA hZB hwl hlb
          go_wp2
          rw [← Hwl.out]
          rw [← Hlb.out]
          clear d0 d1 d2 d3
          refine wp_region_held_drew (S := (fun W => W.cell? ⟨lb, 0, none⟩ = some (.int .i64 (lf.count : Int)) ∧ W.cell? ⟨lb, 1, none⟩ = some (.string ZA) ∧ W.cell? ⟨lb, 2, none⟩ = some (.string ZB) ∧ W.cell? ⟨lb, 3, none⟩ = some (.slice G lf.gr.length e))) (by kernel_rfl) ?_ (fun hHeld => ?_)
          · exact HC1.out _ (by repeat (first | exact Below.refl _ _ | refine ext_drewN ?_ _ | refine ext_drew ?_) : Below wl.heap.size wl wl.drew)
          refine wpAnyH_take (i := 0) (v := ?_) (take_list rfl) (by kernel_rfl) (by kernel_rfl) (by kernel_rfl) (fun _ _ _ h => h) (Or.inl ⟨by rfl, ?_⟩) (by assumption) ?_
          rotate_left
          · intro w hSw
            try dsimp only at hSw
            first | (go_simp; done) | (go_simp; with_reducible rfl)
          try simp only [Act.put, List.setIfInBounds_toArray, List.set_cons_zero, List.set_cons_succ]
          refine wpAnyH_take (i := 1) (v := ?_) (take_list rfl) (by kernel_rfl) (by kernel_rfl) (by kernel_rfl) (fun _ _ _ h => h) (Or.inl ⟨by rfl, ?_⟩) (by assumption) ?_
          rotate_left
          · intro w hSw
            try dsimp only at hSw
            first | (go_simp; done) | (go_simp; with_reducible rfl)
          try simp only [Act.put, List.setIfInBounds_toArray, List.set_cons_zero, List.set_cons_succ]
          refine wpAnyH_take (i := 2) (v := ?_) (take_list rfl) (by kernel_rfl) (by kernel_rfl) (by kernel_rfl) (fun _ _ _ h => h) (Or.inl ⟨by rfl, ?_⟩) (by assumption) ?_
          rotate_left
          · intro w hSw
            try dsimp only at hSw
            first | (go_simp; done) | (go_simp; with_reducible rfl)
          try simp only [Act.put, List.setIfInBounds_toArray, List.set_cons_zero, List.set_cons_succ]
          refine wpAnyH_take (i := 3) (v := ?_) (take_list rfl) (by kernel_rfl) (by kernel_rfl) (by kernel_rfl) (fun _ _ _ h => h) (Or.inl ⟨by rfl, ?_⟩) (by assumption) ?_
          rotate_left
          · intro w hSw
            try dsimp only at hSw
            first | (go_simp; done) | (go_simp; with_reducible rfl)
          try simp only [Act.put, List.setIfInBounds_toArray, List.set_cons_zero, List.set_cons_succ]
          refine wpAnyH_take (i := 4) (v := ?_) (take_list rfl) (by kernel_rfl) (by kernel_rfl) (by kernel_rfl) (fun _ _ _ h => h) (Or.inl ⟨by rfl, ?_⟩) (by assumption) ?_
          rotate_left
          · intro w hSw
            try dsimp only at hSw
            first | (go_simp; done) | (go_simp; with_reducible rfl)
          try simp only [Act.put, List.setIfInBounds_toArray, List.set_cons_zero, List.set_cons_succ]
          refine wpAnyH_take (i := 5) (v := ?_) (take_list rfl) (by kernel_rfl) (by kernel_rfl) (by kernel_rfl) (fun _ _ _ h => h) (Or.inl ⟨by rfl, ?_⟩) (by assumption) ?_
          rotate_left
          · intro w hSw
            try dsimp only at hSw
            first | (go_simp; done) | (go_simp; with_reducible rfl)
          try simp only [Act.put, List.setIfInBounds_toArray, List.set_cons_zero, List.set_cons_succ]
          refine wpAnyH_take (i := 6) (v := ?_) (take_list rfl) (by kernel_rfl) (by kernel_rfl) (by kernel_rfl) (fun _ _ _ h => h) (Or.inl ⟨by rfl, ?_⟩) (by assumption) ?_
          rotate_left
          · intro w hSw
            try dsimp only at hSw
            first | (go_simp; done) | (go_simp; with_reducible rfl)
          try simp only [Act.put, List.setIfInBounds_toArray, List.set_cons_zero, List.set_cons_succ]
          refine wpAnyH_ready (rs := [7]) (by kernel_rfl) (by simp) ?_
          refine AllReadyH.cons (take_list rfl) (fun K hK => ?_) ?_
          · skip
            go_simp
            refine (HCl.out _ (ext_trans (ext_trans Hb3.out HX.out) (by repeat (first | exact Below.refl _ _ | refine ext_drewN ?_ _ | refine ext_drew ?_) : Below wl.heap.size wl wl.drew))).mono ?_
            rintro e4 w4 ⟨G4, c4, rfl, hN4⟩
            dsimp only
            have Hl4 : Hid (Below wl.heap.size wl w4) := Lib.hid (ext_trans (by repeat (first | exact Below.refl _ _ | refine ext_drewN ?_ _ | refine ext_drew ?_) : Below wl.heap.size wl wl.drew) hN4.out.bel)
            obtain ⟨A5, c5, xs5, R5, d5, ys5, M5, h5⟩ := HT3.out.ext (ext_trans HX.out Hl4.out)
            have hap : ∀ j, inA G4 j → ¬ T j := fun j hj ht => by
              have h1 := hN4.out.2.2 j hj
              have h2 : wl.heap.size ≤ j := h1
              have h3 := HX.out.size
              obtain ⟨A8, c8, xs8, R8, d8, ys8, M8, h8⟩ := HT3.out
              have := h8.lt j ht
              omega
            have hgr := grow_any h5 Htl.out lf Hok.out hN4.out.row hap
            unfold lfV natV at hgr
            rw [HZA.out, HZB.out] at hgr
            have HGr := Lib.hid hgr
            clear h5 hap hgr
            refine hK.out _ _ ?_ (fun hHeld => ?_)
            · try dsimp only
              exact HC1.out _ Hl4.out
            clear hK K
            refine wpAnyH_take (i := 8) (v := ?_) (take_list rfl) (by kernel_rfl) (by kernel_rfl) (by kernel_rfl) (fun _ _ _ h => h) (Or.inl ⟨by rfl, ?_⟩) (by assumption) ?_
            rotate_left
            · intro w hSw
              try dsimp only at hSw
              first | (go_simp; done) | (go_simp; with_reducible rfl)
            try simp only [Act.put, List.setIfInBounds_toArray, List.set_cons_zero, List.set_cons_succ]
            refine wpAnyH_ready (rs := [9]) (by kernel_rfl) (by simp) ?_
            refine AllReadyH.cons (take_list rfl) (fun K hK => ?_) ?_
            · skip
              go_simp
              refine HGr.out.mono ?_
              rintro e6 w6 ⟨rfl, ⟨R6, d6, ys6, b6, h6⟩, ho6⟩
              dsimp only
              have HT6 := Lib.hid h6
              have Hb6 : Hid (Below w.heap.size w w6) := Lib.hid ((ext_trans (ext_trans Hb3.out HX.out) Hl4.out).trans (ho6.below HTs3.out (ext_trans (ext_trans Hb3.out HX.out) Hl4.out).size))
              have HTs6 : Hid (∀ j, (grewS T w4 w6 j ∨ inA G4 j) → w.heap.size ≤ j) := Lib.hid (fun j hj => by
                rcases hj with (hj | hj) | hj
                · exact HTs3.out j hj
                · have := (ext_trans (ext_trans Hb3.out HX.out) Hl4.out).size; omega
                · have := hN4.out.2.2 j hj; have h1 := (ext_trans Hb3.out HX.out).size; have h2 : wl.heap.size ≤ j := this; omega)
              have hs6 := cell_only (HC1.out w4 Hl4.out).1 ho6 (fun hx => by obtain ⟨A8, c8, xs8, R8, d8, ys8, M8, h8⟩ := HT3.out; have h9 : lb < wr.heap.size := h8.lt _ hx; have := Hlb.out; omega)
              have hs7 := cell_only (HC1.out w4 Hl4.out).2.1 ho6 (fun hx => by obtain ⟨A8, c8, xs8, R8, d8, ys8, M8, h8⟩ := HT3.out; have h9 : lb < wr.heap.size := h8.lt _ hx; have := Hlb.out; omega)
              have hs8 := cell_only (HC1.out w4 Hl4.out).2.2.1 ho6 (fun hx => by obtain ⟨A8, c8, xs8, R8, d8, ys8, M8, h8⟩ := HT3.out; have h9 : lb < wr.heap.size := h8.lt _ hx; have := Hlb.out; omega)
              have hs9 := cell_only (HC1.out w4 Hl4.out).2.2.2 ho6 (fun hx => by obtain ⟨A8, c8, xs8, R8, d8, ys8, M8, h8⟩ := HT3.out; have h9 : lb < wr.heap.size := h8.lt _ hx; have := Hlb.out; omega)
              clear h6 ho6
              refine hK.out _ _ ?_ (fun hHeld => ?_)
              · try dsimp only
                exact ⟨hs6, hs7, hs8, hs9⟩
              clear hK K
              refine wpAnyH_done (by kernel_rfl) ?_ _
              go_wp2
              go_roundw
              case rel => exact ⟨k + 1, by omega, by go_num, _, Lib.hid (by rw [← HSn.out]; exact ⟨_, _, _, _, _, _, _, HT6.out⟩), HTs6, Hb6⟩
              case measure => simp [intOf]; omega
            exact AllReadyH.nil
          exact AllReadyH.nil
        · obtain rfl : k = t.lv.length := by omega
          rw [List.take_length] at HT3
          have HT4 := Lib.hid HT3.out
          clear HT3
          go_wp2
          go_ret
          exact ⟨g2, T, rfl, HT4, HTs3, Hb3⟩
end
end Go.Proofs.Ytdghbdiapkelnaa

/-
  Encode (program). No statement of the seat is proved here.
-/
namespace Go.Proofs.Ytdghbdiapkelnaa
open Go Go.RowKit
set_option maxRecDepth 100000

theorem clampN (n : Nat) (h : n ≤ 4611686018427387904) : dig (clamp (n : Int)) = dig n := by rw [clamp_of_nat h]
section
variable {w0 w : World} {bs : List UInt8}
set_option maxHeartbeats 4000000 in
theorem wtmpl_any (h : WS w0 bs w) (A : Option Addr) (c : Nat) (p : List Prt) (hA : PartsAt w0 A p) (hp : p.length ≤ 64) (ht : ∀ q ∈ p, q.text.length ≤ 6000) (hb : bs.length ≤ 40000000) :
    Calls Try.prog 47 #[.pointer (some ⟨w0.heap.size, 0, none⟩), .slice A p.length c] w fun e w' => e = .returned (.tuple #[]) ∧ WS w0 (bs ++ tmpB p) w' := by
  have HN := Lib.hid (ws_num h (Below.refl _ _) (p.length : Int) ⟨by omega, by omega⟩ (by omega))
  have HA := Lib.hid hA
  have HT := Lib.hid ht
  have HL : Hid (∀ k, (prtTo p k).length ≤ 400000) := Lib.hid (prtTo_len ht hp)
  have HB := Lib.hid hb
  have HE : Hid (prtTo p p.length = tmpB p) := Lib.hid (prtTo_all p)
  have H0 : Hid (prtTo p 0 = dig p.length) := Lib.hid (by simp [prtTo])
  have Hcl : Hid (dig (clamp (p.length : Int)) = dig p.length) := Lib.hid (clampN _ (by omega))
  have hpi : (p.length : Int) ≤ 64 := by omega
  clear h hA ht hp hb
  go_enter Try.func47, Try.ntmps47
  go_wp2_with fail
  refine HN.out.mono ?_
  rintro e w1 ⟨rfl, h1, -⟩
  rw [Hcl.out, ← H0.out] at h1
  have H1 := Lib.hid h1
  clear h1 HN
  go_wp2
  go_loopw [13] (fun i wr => ∃ k : Nat, k ≤ p.length ∧ i = .int .i64 (k : Int) ∧ Hid (WS w0 (bs ++ prtTo p k) wr)) (fun i _ => p.length - (intOf i).toNat)
  case atStart => exact ⟨0, Nat.zero_le _, rfl, H1⟩
  case round =>
    obtain ⟨k, hk, rfl, HW⟩ := hrel
    by_cases hlt : k < p.length
    · have hki : (k : Int) < (p.length : Int) := by omega
      obtain ⟨gA, oA, rfl, c0, c1⟩ := (HA.out.ext HW.out.bel).at_ hlt
      have hlen := HL.out k
      have hbl := HB.out
      have Hlen : Hid ((bs ++ prtTo p k).length ≤ 50000000) := Lib.hid (by rw [List.length_append]; omega)
      have htx := HT.out _ (List.getElem_mem hlt)
      have HSn : Hid (bs ++ prtTo p (k + 1) = (bs ++ prtTo p k) ++ prtB p[k]) := Lib.hid (by rw [prtTo_succ hlt, List.append_assoc])
      generalize p[k] = q at *
      obtain ⟨an, tx⟩ := q
      dsimp only at c0 c1 htx
      generalize bs ++ prtTo p k = bk at *
      have hX : Below wr.heap.size wr (wr.alloc (.cells #[.bool an, strV tx] 72)) := ext_alloc (Below.refl _ _) _
      have HBp := Lib.hid (Blk.new wr 72 #[.bool an, strV tx])
      have HX := Lib.hid hX
      cases an
      case true =>
        have hn1 := ws_num HW.out hX 1 ⟨by omega, by omega⟩ (by have := Hlen.out; omega)
        rw [World.size_alloc] at hn1
        have e1 : dig (clamp 1) = prtB ⟨true, tx⟩ := by rw [show (1 : Int) = ((1 : Nat) : Int) from rfl, clampN 1 (by omega)]; rfl
        rw [e1, ← HSn.out] at hn1
        have HN1 := Lib.hid hn1
        obtain ⟨Z, hZ, -⟩ := str_hide tx
        rw [hZ] at c1 HN1 HBp
        have b0 := HBp.out.cell 0
        simp only [List.getElem?_toArray, List.getElem?_cons_zero, List.getElem?_cons_succ] at b0
        clear hn1 e1 hZ hX
        go_wp2_with fail
        refine HN1.out.mono ?_
        rintro e w2 ⟨rfl, h2, -⟩
        have H2 := Lib.hid h2
        clear h2 b0 c0 c1
        go_wp2
        go_roundw
        case rel => exact ⟨k + 1, by omega, by go_num, H2⟩
        case measure => simp [intOf]; omega
      case false =>
        have hn1 := ws_num HW.out hX 0 ⟨by omega, by omega⟩ (by have := Hlen.out; omega)
        rw [World.size_alloc] at hn1
        have e1 : dig (clamp 0) = dig 0 := by rw [show (0 : Int) = ((0 : Nat) : Int) from rfl, clampN 0 (by omega)]
        rw [e1] at hn1
        have HN1 := Lib.hid hn1
        have HF : Hid (¬ WF w0 wr wr.heap.size) := Lib.hid (HW.out.far (.inr (Nat.le_refl _)))
        have Hd0 : Hid ((dig 0).length ≤ 9) := Lib.hid (dig9 0 (by omega))
        obtain ⟨Z, hZ, -⟩ := str_hide tx
        have HZ := Lib.hid hZ
        rw [hZ] at c1 HN1 HBp
        have b0 := HBp.out.cell 0
        simp only [List.getElem?_toArray, List.getElem?_cons_zero, List.getElem?_cons_succ] at b0
        clear hn1 e1 hZ hX
        go_wp2_with fail
        refine HN1.out.mono ?_
        rintro e w2 ⟨rfl, h2, ho2⟩
        have H2 := Lib.hid h2
        have hb1 := (HBp.out.alloc (.cells #[.int .i64 0] 3)).only ho2 HF.out
        have b1 := hb1.cell 1
        simp only [List.getElem?_toArray, List.getElem?_cons_zero, List.getElem?_cons_succ] at b1
        obtain ⟨cc, wc, hcv, hcc, hrc, hbc, hzc⟩ := str_row w2 tx
        have htx2 := ws_text h2 (Below.refl _ _) tx cc hbc hzc hrc hcc htx (by rw [List.length_append]; have := Hlen.out; have := Hd0.out; omega)
        have e2 : bk ++ dig 0 ++ (dig tx.length ++ tx) = bk ++ prtB ⟨false, tx⟩ := by rw [List.append_assoc]; rfl
        rw [e2, ← HSn.out] at htx2
        have HT2 := Lib.hid htx2
        rw [show Value.string ⟨tx.toArray⟩ = strV tx from rfl, HZ.out] at hcv
        clear h2 ho2 hb1 htx2 e2 hcc hrc hbc hzc b0 c0 c1
        go_wp2_with fail
        refine HT2.out.mono ?_
        rintro e w3 ⟨rfl, h3, -⟩
        have H3 := Lib.hid h3
        clear h3 b1
        go_wp2
        go_roundw
        case rel => exact ⟨k + 1, by omega, by go_num, H3⟩
        case measure => simp [intOf]; omega
    · obtain rfl : k = p.length := by omega
      have hw := HW.out
      rw [HE.out] at hw
      have HW2 := Lib.hid hw
      clear hw
      go_wp2
      go_end0
      exact ⟨rfl, HW2.out⟩
end
end Go.Proofs.Ytdghbdiapkelnaa

/-
  Encode (program). No statement of the seat is proved here.
-/
namespace Go.Proofs.Ytdghbdiapkelnaa
open Go Go.RowKit Go.Maps
set_option maxRecDepth 100000

/-- as WS, with what the Writer owns -/
structure WSF (w0 : World) (F : Nat → Prop) (bs : List UInt8) (w : World) : Prop where
  wr : Wr w F w0.heap.size (bs.map bv)
  on : Only (fun k => k = w0.heap.size) (W4 w0) w
  lo : ∀ k, F k → k = w0.heap.size ∨ w0.heap.size + 1 ≤ k
  lt : ∀ k, F k → k < w.heap.size
section
variable {w0 w wc X X2 : World} {bs ds : List UInt8} {F : Nat → Prop}
theorem WS.f (h : WS w0 bs w) : WSF w0 (WF w0 w) bs w := by
  have h1 := W4_size w0
  have h2 := h.2.size
  refine ⟨h.1, h.2, fun k hk => ?_, fun k hk => ?_⟩
  · rcases hk with hk | hk
    · exact .inl hk
    · exact .inr (by have := hk.1; omega)
  · rcases hk with hk | hk
    · omega
    · exact hk.2
theorem WSF.s (h : WSF w0 F bs w) : WS w0 bs w := by
  have h1 := W4_size w0
  refine ⟨h.wr.mono (fun k hk _ => ?_), h.on⟩
  rcases h.lo k hk with h3 | h3
  · exact .inl h3
  · exact .inr ⟨by omega, h.lt k hk⟩
theorem WSF.far (h : WSF w0 F bs w) {k : Nat} (hk : k < w0.heap.size ∨ w.heap.size ≤ k) : ¬ F k := fun hf => by
  have h1 := h.lt k hf
  rcases h.lo k hf with h2 | h2 <;> omega
theorem WSF.step (h : WSF w0 F bs w) (hX : Below w.heap.size w X) {w' : World} (hr : Wr w' (More F X w') w0.heap.size (bs.map bv ++ ds.map bv)) (ho : Only F X w') : WSF w0 (More F X w') (bs ++ ds) w' := by
  have h1 := W4_size w0
  have h2 := h.on.size
  have h3 := hX.size
  have h4 := ho.size
  refine ⟨by rw [List.map_append]; exact hr, (h.on.trans (Only.of_ext hX) (fun _ _ h => h)).trans ho (fun k hk hf => ?_), fun k hk => ?_, fun k hk => ?_⟩
  · rcases h.lo k hf with h5 | h5
    · exact h5
    · omega
  · rcases hk with hk | hk
    · exact h.lo k hk
    · exact .inr (by have := hk.1; omega)
  · rcases hk with hk | hk
    · have := h.lt k hk; omega
    · exact hk.2
theorem WSF.ends (h : WSF w0 F bs w) (hX : Below w.heap.size w X) (hb : Below X.heap.size X X2) {w' : World} (hr : Wr w' (More F X2 w') w0.heap.size (bs.map bv ++ ds.map bv)) (ho : Only F X2 w') : ∃ F', Hid (WSF w0 F' (bs ++ ds) w') ∧ Hid (∀ k, k < X.heap.size → ¬ F k → ¬ F' k) ∧ Hid (Only F X w') := by
  refine ⟨More F X2 w', Lib.hid (h.step (ext_trans hX hb) hr ho), Lib.hid (fun k hk hf hm => ?_), Lib.hid ((Only.of_ext hb).trans ho (fun _ _ h => h))⟩
  have := hb.size
  rcases hm with hm | hm
  · exact hf hm
  · have := hm.1; omega
theorem wf_num (h : WSF w0 F bs w) (hX : Below w.heap.size w X) (v : Int) (hv : isInt v) (hb : bs.length ≤ 100000000) :
    Calls Try.prog 46 #[.pointer (some ⟨w0.heap.size, 0, none⟩), .slice (some ⟨X.heap.size, 0, none⟩) 1 1] (X.alloc (.cells #[.int .i64 v] 3)) fun e w' => e = .returned (.tuple #[]) ∧ ∃ F', Hid (WSF w0 F' (bs ++ dig (clamp v)) w') ∧ Hid (∀ k, k < X.heap.size → ¬ F k → ¬ F' k) ∧ Hid (Only F X w') := by
  have hbc : Below X.heap.size X (X.alloc (.cells #[.int .i64 v] 3)) := ext_alloc (Below.refl _ _) _
  refine (nums_any _ _ (some ⟨X.heap.size, 0, none⟩) 1 1 [v] (bs.map bv) _ (h.wr.ext (ext_trans hX hbc)) rfl (RdF.lit X #[.int .i64 v] _ rfl (h.far (.inr hX.size))) (by
      intro x hx
      simp only [List.mem_cons, List.not_mem_nil, or_false] at hx
      subst hx
      exact hv) (by simp; omega)).mono ?_
  rintro e w' ⟨rfl, hr, ho⟩
  have e : numsB [v] = dig (clamp v) := by simp [numsB]
  rw [e] at hr
  exact ⟨rfl, h.ends hX hbc hr ho⟩
theorem numsB_nat : ∀ l : List Nat, (∀ v ∈ l, v ≤ 100) → numsB (l.map (fun v : Nat => (v : Int))) = l.flatMap dig
  | [], _ => rfl
  | a :: r, hx => by
    have h1 := numsB_nat r (fun v hv => hx v (List.mem_cons_of_mem _ hv))
    have h2 := hx a (List.mem_cons_self ..)
    unfold numsB at h1 ⊢
    rw [List.map_cons, List.flatMap_cons, h1, clamp_of_nat (by omega), List.flatMap_cons]
theorem wf_nums (h : WSF w0 F bs w) (hX : Below w.heap.size w X) (hX0 : Below w0.heap.size w0 X) (A : Option Addr) (c : Nat) (vs : List Nat) (hA : Rd w0 A (vs.map natV)) (hv : ∀ v ∈ vs, v ≤ 100) (hl : vs.length ≤ 1000) (hb : bs.length ≤ 100000000) :
    Calls Try.prog 46 #[.pointer (some ⟨w0.heap.size, 0, none⟩), .slice A vs.length c] X fun e w' => e = .returned (.tuple #[]) ∧ ∃ F', Hid (WSF w0 F' (bs ++ vs.flatMap dig) w') ∧ Hid (∀ k, k < X.heap.size → ¬ F k → ¬ F' k) ∧ Hid (Only F X w') := by
  have hmap : (vs.map (fun v : Nat => (v : Int))).map iv = vs.map natV := by rw [List.map_map]; rfl
  refine (nums_any _ _ A _ c (vs.map (fun v : Nat => (v : Int))) (bs.map bv) X (h.wr.ext hX) (by rw [List.length_map]) (by
      rw [hmap]
      refine ⟨hA.ext hX0, fun ad e hne => ?_⟩
      obtain ⟨u, r, hu⟩ := List.exists_cons_of_ne_nil hne
      obtain ⟨ad2, e2, hc⟩ := hA 0 u (by rw [hu]; rfl)
      rw [e] at e2
      injection e2 with e2
      subst e2
      have := World.block_lt_of_cell? w0 _ hc
      rw [block_add] at this
      exact h.far (.inl this)) (by
      intro x hx
      obtain ⟨v, hv2, rfl⟩ := List.mem_map.1 hx
      have := hv v hv2
      exact ⟨by omega, by omega⟩) (by simp; omega)).mono ?_
  rintro e w' ⟨rfl, hr, ho⟩
  rw [numsB_nat vs hv] at hr
  exact ⟨rfl, h.ends hX (Below.refl _ _) hr ho⟩
theorem wf_text2 {wd : World} (h : WSF w0 F bs w) (hX : Below w.heap.size w X) (s u : List UInt8) (cc cd : Nat) (hbc : Below X.heap.size X wc) (hz : wc.heap.size = X.heap.size + 1) (hrc : Rd wc (some ⟨X.heap.size, 0, none⟩) (s.map bv)) (hcc : s.length ≤ cc) (hs : s.length ≤ 6000)
    (hbd : Below wc.heap.size wc wd) (hzd : wd.heap.size = wc.heap.size + 1) (hrd : Rd wd (some ⟨wc.heap.size, 0, none⟩) (u.map bv)) (hcd : u.length ≤ cd) (hu : u.length ≤ 6000) (hb : bs.length ≤ 100000000) :
    Calls Try.prog 48 #[.pointer (some ⟨w0.heap.size, 0, none⟩), .slice (some ⟨wd.heap.size, 0, none⟩) 2 2] (wd.alloc (.cells #[.slice (some ⟨X.heap.size, 0, none⟩) s.length cc, .slice (some ⟨wc.heap.size, 0, none⟩) u.length cd] 48)) fun e w' => e = .returned (.tuple #[]) ∧ ∃ F', Hid (WSF w0 F' (bs ++ ((dig s.length ++ s) ++ (dig u.length ++ u))) w') ∧ Hid (∀ k, k < X.heap.size → ¬ F k → ¬ F' k) ∧ Hid (Only F X w') := by
  have hb2 : Below X.heap.size X (wd.alloc (.cells #[.slice (some ⟨X.heap.size, 0, none⟩) s.length cc, .slice (some ⟨wc.heap.size, 0, none⟩) u.length cd] 48)) := ext_alloc (ext_trans hbc hbd) _
  have hd := dig9 s.length (by omega)
  have hd2 := dig9 u.length (by omega)
  have hs1 := hX.size
  have e : rowsB [s, u] = (dig s.length ++ s) ++ (dig u.length ++ u) := by simp [rowsB]
  refine (bytes_any _ _ (some ⟨wd.heap.size, 0, none⟩) 2 2 [s, u] (bs.map bv) _ (h.wr.ext (ext_trans hX hb2)) rfl (RowsF.two ⟨hrc.ext hbd, fun ad e _ => by injection e with e; subst e; exact h.far (.inr hs1)⟩ hcc ⟨hrd, fun ad e _ => by injection e with e; subst e; exact h.far (.inr (by show w.heap.size ≤ wc.heap.size; omega))⟩ hcd _ rfl (h.far (.inr (by omega)))) (by rw [e]; simp; omega) (by simp)).mono ?_
  rintro e' w' ⟨rfl, hr, ho⟩
  rw [e] at hr
  exact ⟨rfl, h.ends hX hb2 hr ho⟩
end
section
variable {S : Nat → Prop} {w : World} {g : Nat} {t : Tr}
set_option maxHeartbeats 8000000 in
theorem encode_any (h : TrIn S w g t) (hG : Good t) (hS : Sml t) :
    Calls Try.prog 26 #[.pointer (some ⟨g, 0, none⟩)] w fun e w' => ∃ A' c', e = .returned (.slice A' (treeB t).length c') ∧ New w w' A' c' (treeB t) ∧ Below w.heap.size w w' := by
  obtain ⟨A, c, xs, R, d, ys, M, h⟩ := h
  have hb4 : Below w.heap.size w (W4 w) := ext_alloc (Below.refl _ _) _
  have HW0 := Lib.hid (WS.start w)
  have H := Lib.hid h
  have HL1 := Lib.hid (tsTo_len hG hS)
  have HL2 := Lib.hid (lvTo_len hG hS)
  have HS := Lib.hid hS
  have HG := Lib.hid hG
  have HC := Lib.hid (count_any (h.ext hb4) (by have := hG.ids; omega))
  have hti : (t.ts.length : Int) ≤ 63 := by have := hG.ids; omega
  have hli : (t.lv.length : Int) ≤ 32 := by have := hG.lvs; omega
  have HCs : Hid (∀ W, Below w.heap.size w W → W.cell? ⟨g, 0, none⟩ = some (.slice A t.ts.length c) ∧ W.cell? ⟨g, 1, none⟩ = some (.slice R t.lv.length d)) := Lib.hid (fun W hW => by
    have hx := (H.out.ext hW).blk
    have x0 := hx.cell 0
    have x1 := hx.cell 1
    simp only [List.getElem?_toArray, List.getElem?_cons_zero, List.getElem?_cons_succ] at x0 x1
    exact ⟨x0, x1⟩)
  have HE0 : Hid (dig (clamp ((t.ts.length : Int) + 1)) = tsTo t 0) := Lib.hid (by rw [show (t.ts.length : Int) + 1 = ((t.ts.length + 1 : Nat) : Int) by omega, clampN _ (by omega)]; simp [tsTo])
  have hw4 : W4 w = w.alloc (.cells #[.slice none 0 0] 89) := rfl
  clear h hG hS hb4
  unfold W4 at hw4
  have Hw4 := Lib.hid (show W4 w = w.alloc (.cells #[.slice none 0 0] 89) from rfl)
  clear hw4
  go_enter Try.func26, Try.ntmps26
  go_wp2_with fail
  rw [← Hw4.out]
  refine HC.out.mono ?_
  rintro e w1 ⟨rfl, hw1⟩
  have hw1 := hw1.symm
  subst hw1
  have HN := Lib.hid (ws_num HW0.out (Below.refl _ _) ((t.ts.length : Int) + 1) ⟨by omega, by omega⟩ (by simp))
  clear HC
  go_wp2_with fail
  refine HN.out.mono ?_
  rintro e w2 ⟨rfl, h2, -⟩
  rw [List.nil_append, HE0.out] at h2
  have H2 := Lib.hid h2
  obtain ⟨y0, y1⟩ := HCs.out w2 h2.bel
  clear h2 HN y1
  go_wp2
  go_loopw [22] (fun i wr => ∃ k : Nat, k ≤ t.ts.length ∧ i = .int .i64 (k : Int) ∧ Hid (WS w (tsTo t k) wr)) (fun i _ => t.ts.length - (intOf i).toNat)
  case atStart => exact ⟨0, Nat.zero_le _, rfl, H2⟩
  case round =>
    obtain ⟨k, hk, rfl, HW⟩ := hrel
    clear y0
    by_cases hlt : k < t.ts.length
    · have hki : (k : Int) < (t.ts.length : Int) := by omega
      obtain ⟨gA, oA, B, e, rfl, c0, hr, -⟩ := (H.out.ext HW.out.bel).tmp hlt
      have hr0 := (H.out.tmp hlt)
      obtain ⟨gA2, oA2, B2, e2, eA, c02, hr2, -⟩ := hr0
      injection eA with eA
      injection eA with ea1 ea2
      subst ea1 ea2
      have hc2 := (World.cell?_of_block (HW.out.bel.block _ (World.block_lt_of_cell? w _ c02))).trans c02
      rw [c0] at hc2
      injection hc2 with hc2
      injection hc2 with e1 e2' e3
      subst e1 e3
      have HT := Lib.hid (wtmpl_any HW.out B e t.ts[k] (parts_row hr2) (HG.out.long _ (List.getElem_mem hlt)).2 (fun q hq => HS.out.tx _ (List.getElem_mem hlt) q hq) (by have := HL1.out k; omega))
      have HSn := Lib.hid (tsTo_succ hlt)
      clear hr hr2 c02
      generalize t.ts[k].length = pl at *
      go_wp2_with fail
      refine HT.out.mono ?_
      rintro e w3 ⟨rfl, h3⟩
      rw [← HSn.out] at h3
      have H3 := Lib.hid h3
      clear h3 c0
      go_wp2
      go_roundw
      case rel => exact ⟨k + 1, by omega, by go_num, H3⟩
      case measure => simp [intOf]; omega
    · obtain rfl : k = t.ts.length := by omega
      obtain ⟨y0, y1⟩ := HCs.out wr HW.out.bel
      have HN := Lib.hid (ws_num HW.out (Below.refl _ _) (t.lv.length : Int) ⟨by omega, by omega⟩ (by have := HL1.out t.ts.length; omega))
      have HE1 : Hid (tsTo t t.ts.length ++ dig (clamp (t.lv.length : Int)) = lvTo t 0) := Lib.hid (by rw [clampN _ (by omega)]; exact tsTo_all t)
      clear y0
      go_wp2_with fail
      refine HN.out.mono ?_
      rintro e w3 ⟨rfl, h3, -⟩
      rw [HE1.out] at h3
      have H3 := Lib.hid h3
      obtain ⟨z0, z1⟩ := HCs.out w3 h3.bel
      clear h3 HN y1 z0
      go_wp2
      go_loopw [43] (fun i wr => ∃ k : Nat, k ≤ t.lv.length ∧ i = .int .i64 (k : Int) ∧ Hid (WS w (lvTo t k) wr)) (fun i _ => t.lv.length - (intOf i).toNat)
      case atStart => exact ⟨0, Nat.zero_le _, rfl, H3⟩
      case round =>
        obtain ⟨k, hk, rfl, HW⟩ := hrel
        clear z1
        by_cases hlt : k < t.lv.length
        · have hki : (k : Int) < (t.lv.length : Int) := by omega
          obtain ⟨gR, oR, G, e, rfl, c0, c1, c2, c3, -, hGr, -⟩ := H.out.leaf hlt
          have HGr := Lib.hid hGr.rd
          have f : ∀ {a v}, w.cell? a = some v → wr.cell? a = some v := fun h => cell_only h (Only.of_ext (S := fun _ => False) HW.out.bel) (fun h => h)
          have d0 := f c0
          have d1 := f c1
          have d2 := f c2
          have d3 := f c3
          obtain ⟨hk1, hk2, hk3⟩ := HS.out.ky _ (List.getElem_mem hlt)
          obtain ⟨hg1, hg2, -, hg4⟩ := HG.out.gr _ (List.getElem_mem hlt)
          have HSn : Hid (lvTo t (k + 1) = lvTo t k ++ lfB t.lv[k]) := Lib.hid (lvTo_succ hlt)
          have HLn : Hid ((lvTo t k).length ≤ 40000000) := Lib.hid (HL2.out k)
          have HLn2 : Hid ((lvTo t (k + 1)).length ≤ 40000000) := Lib.hid (HL2.out (k + 1))
          have hg100 : ∀ v ∈ t.lv[k].gr, v ≤ 100 := fun v hv => by have := (hg4 v hv).2.1; omega
          have Hg100 := Lib.hid hg100
          have hgr8 : (t.lv[k].gr.length : Int) ≤ 8 := by omega
          generalize t.lv[k] = lf at *
          obtain ⟨cnt, ka, kb, gr⟩ := lf
          dsimp only at d0 d1 d2 d3 hk1 hk2 hk3 hg2 HGr Hg100 hgr8
          unfold natV at d0
          obtain ⟨ZA, hZA, -⟩ := str_hide ka
          obtain ⟨ZB, hZB, -⟩ := str_hide kb
          have HZA := Lib.hid hZA
          have HZB := Lib.hid hZB
          rw [hZA] at d1
          rw [hZB] at d2
          have hX : Below wr.heap.size wr (wr.alloc (.cells #[.int .i64 (cnt : Int), .string ZA, .string ZB, .slice G gr.length e] 96)) := ext_alloc (Below.refl _ _) _
          have HBl := Lib.hid (Blk.new wr 96 #[.int .i64 (cnt : Int), .string ZA, .string ZB, .slice G gr.length e])
          have HF0 : Hid (¬ WF w wr wr.heap.size) := Lib.hid (HW.out.far (.inr (Nat.le_refl _)))
          have HLt : Hid (wr.heap.size < (wr.alloc (.cells #[.int .i64 (cnt : Int), .string ZA, .string ZB, .slice G gr.length e] 96)).heap.size) := Lib.hid (by rw [World.size_alloc]; omega)
          have hn1 := wf_num HW.out.f hX (cnt : Int) ⟨by omega, by omega⟩ (by have := HLn.out; omega)
          rw [clampN cnt (by omega)] at hn1
          have HN1 : Hid (Calls Try.prog 46 #[.pointer (some ⟨w.heap.size, 0, none⟩), .slice (some ⟨wr.heap.size + 1, 0, none⟩) 1 1] _ _) := Lib.hid (by rw [World.size_alloc] at hn1; exact hn1)
          have Hsz : Hid (wr.heap.size ≤ wr.heap.size) := Lib.hid (Nat.le_refl _)
          have Hd1 := Lib.hid (dig9 cnt (by omega))
          have Hd2 := Lib.hid (dig9 ka.length (by omega))
          have Hd3 := Lib.hid (dig9 kb.length (by omega))
          have Hd4 := Lib.hid (dig9 gr.length (by omega))
          have Hk1 := Lib.hid hk1
          have Hk2 := Lib.hid hk2
          have Hg2 := Lib.hid hg2
          have Hbw := Lib.hid HW.out.bel
          have b0 := HBl.out.cell 0
          simp only [List.getElem?_toArray, List.getElem?_cons_zero, List.getElem?_cons_succ] at b0
          clear c0 c1 c2 c3 hGr hn1 hX hg4 hg1 hg100 f hZA hZB hk1 hk2 hk3 hg2
          go_wp2_with fail
          refine HN1.out.mono ?_
          rintro e w5 ⟨rfl, F5, h5, hf5, ho5⟩
          have hl5 := (HBl.out).only ho5.out HF0.out
          have HF5 : Hid (¬ F5 wr.heap.size) := Lib.hid (hf5.out _ (by rw [World.size_alloc] at *; omega) HF0.out)
          have b1 := hl5.cell 1
          have b2 := hl5.cell 2
          simp only [List.getElem?_toArray, List.getElem?_cons_zero, List.getElem?_cons_succ] at b1 b2
          have HB5 := Lib.hid hl5
          obtain ⟨cc, wc, hcv, hcc, hrc, hbc, hzc⟩ := str_row w5 ka
          obtain ⟨cd, wd, hcv2, hcd, hrd, hbd, hzd⟩ := str_row wc kb
          have ht2 := wf_text2 h5.out (Below.refl _ _) ka kb cc cd hbc hzc hrc hcc Hk1.out hbd hzd hrd hcd Hk2.out (by rw [List.length_append]; have := HLn.out; have := Hd1.out; omega)
          have HT2 := Lib.hid ht2
          rw [show Value.string ⟨ka.toArray⟩ = strV ka from rfl, HZA.out] at hcv
          rw [show Value.string ⟨kb.toArray⟩ = strV kb from rfl, HZB.out] at hcv2
          have b2c : wc.cell? ⟨wr.heap.size, 2, none⟩ = some (.string ZB) := cell_only b2 (Only.of_ext (S := fun _ => False) hbc) (fun h => h)
          clear h5 hf5 ho5 hl5 ht2 hcc hrc hbc hzc hcd hrd hbd hzd b0 d0 d1 d2 d3 HN1
          go_wp2_with fail
          refine HT2.out.mono ?_
          rintro e w6 ⟨rfl, F6, h6, hf6, ho6⟩
          have hl6 := HB5.out.only ho6.out HF5.out
          have HF6 : Hid (¬ F6 wr.heap.size) := Lib.hid (hf6.out _ HB5.out.lt HF5.out)
          have b3 := hl6.cell 3
          simp only [List.getElem?_toArray, List.getElem?_cons_zero, List.getElem?_cons_succ] at b3
          have HB6 := Lib.hid hl6
          have hn2 := wf_num h6.out (Below.refl _ _) (gr.length : Int) ⟨by omega, by omega⟩ (by simp only [List.length_append]; have := HLn.out; have := Hd1.out; have := Hd2.out; have := Hd3.out; have := Hk1.out; have := Hk2.out; omega)
          rw [clampN gr.length (by have := Hg2.out; omega)] at hn2
          have HN2 := Lib.hid hn2
          clear h6 hf6 ho6 hl6 hn2 b1 b2 b2c hcv hcv2 HT2
          go_wp2_with fail
          refine HN2.out.mono ?_
          rintro e w7 ⟨rfl, F7, h7, hf7, ho7⟩
          have hl7 := HB6.out.only ho7.out HF6.out
          have b4 := hl7.cell 3
          simp only [List.getElem?_toArray, List.getElem?_cons_zero, List.getElem?_cons_succ] at b4
          have hn3 := wf_nums h7.out (Below.refl _ _) h7.out.s.bel G e gr HGr.out Hg100.out (by have := Hg2.out; omega) (by simp only [List.length_append]; have := HLn.out; have := Hd1.out; have := Hd2.out; have := Hd3.out; have := Hd4.out; have := Hk1.out; have := Hk2.out; omega)
          have HN3 := Lib.hid hn3
          clear h7 hf7 ho7 hl7 hn3 b3 HN2
          go_wp2_with fail
          refine HN3.out.mono ?_
          rintro e w8 ⟨rfl, F8, h8, -, -⟩
          have h9 := h8.out.s
          have e9 : lvTo t k ++ dig cnt ++ (dig ka.length ++ ka ++ (dig kb.length ++ kb)) ++ dig gr.length ++ gr.flatMap dig = lvTo t (k + 1) := by
            rw [HSn.out]
            unfold lfB
            simp only [List.append_assoc]
          rw [e9] at h9
          have H9 := Lib.hid h9
          clear h8 h9 e9 b4 HN3
          go_wp2
          go_roundw
          case rel => exact ⟨k + 1, by omega, by go_num, H9⟩
          case measure => simp [intOf]; omega
        · obtain rfl : k = t.lv.length := by omega
          have hw := HW.out
          have hbw := hw.bel
          have HO := Lib.hid (ws_out hw (by have := HL2.out t.lv.length; omega))
          rw [lvTo_all] at HO
          have Hbw := Lib.hid hbw
          clear hw hbw
          go_wp2_with fail
          refine HO.out.mono ?_
          rintro e w4 ⟨A', c', rfl, hN, hb⟩
          have HN9 := Lib.hid hN
          have Hb9 := Lib.hid hb
          clear hN hb
          go_wp2
          go_ret
          exact ⟨A', c', rfl, HN9.out.back Hbw.out.size, ext_trans Hbw.out Hb9.out⟩
end
end Go.Proofs.Ytdghbdiapkelnaa
