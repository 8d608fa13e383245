/-
  Texts of this claim, joined (part 16): contracts and lemmas that the last text goes by. No statement of the seat is proved here.
-/
import Derived.Test.YtdghbdiapkelnaaAll15
set_option linter.unusedVariables false
set_option linter.unusedSimpArgs false
/-
  The reference's Assign where a leaf is there. No statement of the seat is proved here.
-/
namespace Go.Proofs.Ytdghbdiapkelnaa
open Go Go.RowKit
set_option maxRecDepth 100000

theorem mergeL_le (ps : List Prt) (l : List Tok) : (mergeL ps l).length = ps.length := mergeL_len ps l
section
variable {S T : Nat → Prop} {w w2 w3 W : World} {g : Nat} {t : Tr} {A R A' : Option Addr} {c d c' : Nat} {xs ys : List Value}
/-- what is owned, from the walk's begin on -/
theorem some_wide {w0 w3 w6 : World} {S U : Nat → Prop} {w00 : World} {g : Nat} {t : Tr} {A R : Option Addr} {c d : Nat} {xs ys : List Value} (hw : w0 = w00) (hS : ∀ k, S k → k < w0.heap.size) (h1 : Only S w0 w3) (hU : ∀ k, U k → S k ∨ (w0.heap.size ≤ k)) (hUS : ∀ k, S k → U k) (h6 : Only U w3 w6)
    (h : RTAt (grewS U w3 w6) w6 g t A c xs R d ys) : RTAt (grewS S w00 w6) w6 g t A c xs R d ys ∧ Only S w00 w6 := by
  subst hw
  have s1 := h1.size
  have s6 := h6.size
  refine ⟨h.wider (fun k hk => ?_) (fun k hk => ?_), h1.trans h6 (fun k hlt hk => ?_)⟩
  · have hlt := h.lt k hk
    rcases hk with hk | hk
    · rcases hU k hk with h | h
      · exact .inl h
      · exact .inr ⟨h, hlt⟩
    · exact .inr ⟨by omega, hlt⟩
  · rcases hk with hk | hk
    · have := hS k hk; omega
    · exact hk.2
  · rcases hU k hk with h | h
    · exact h
    · omega
set_option maxHeartbeats 16000000 in
theorem rassign_some (h : RTIn S w g t) (hG : Good t) (B : Option Addr) (e2 : Nat) (l : List Tok) (hT : ToksAt w B l) (hBS : ∀ ad, B = some ad → cellsT l ≠ [] → ¬ S ad.block) (hm : l.length ≤ 64) (hl0 : 1 ≤ l.length) (hj : sumT l l.length ≤ 140737488355328) {i : Nat} (hf : leafAt t l = some i) :
    Calls Try.prog 16 #[.pointer (some ⟨g, 0, none⟩), .slice B l.length e2] w (RAsgd S w g (numT t l).1 (numT t l).2 (varsT t l)) := by
  obtain ⟨hi, hgd, hg8, hgs, hcnt, -, -⟩ := hG.at_ hf
  have hni : numT t l = atLeaf t i t.lv[i] l := by
    have ho : ¬ overB l = true := by unfold overB; rw [decide_eq_true_eq]; omega
    unfold numT
    rw [if_neg ho, hf]
    simp only
    rw [hgd]
  have hLI : leafI t l = (i : Int) := by unfold leafI; rw [hf]
  have hids := hG.ids
  have hlvs := hG.lvs
  have HG := Lib.hid hG
  obtain ⟨w0, hw0⟩ : ∃ w0, w0 = (w.alloc (.cells #[.int .i64 0, .slice none 0 0] 31)) := ⟨_, rfl⟩
  have hb0 : Below w.heap.size w w0 := by rw [hw0]; exact ext_alloc (Below.refl _ _) _
  have HSl : Hid (∀ k, S k → k < w.heap.size) := Lib.hid h.lt
  have HSl0 : Hid (∀ k, S k → k < w0.heap.size) := Lib.hid (fun k hk => Nat.lt_of_lt_of_le (h.lt k hk) hb0.size)
  have HB0 : Hid (Blk w0 w.heap.size 31 #[.int .i64 0, .slice none 0 0]) := Lib.hid (by rw [hw0]; exact Blk.new _ _ _)
  have hleaf := rleaf_any (h.ext hb0) B e2 l (hT.ext hb0) hm (by omega)
  rw [hLI] at hleaf
  have HLf := Lib.hid hleaf
  have HT := Lib.hid (hT.ext hb0)
  have HBS := Lib.hid hBS
  obtain ⟨A, c, xs, R, d, ys, h⟩ := h
  have h0 := h.ext hb0
  have H := Lib.hid h0
  have x0 := h0.blk.cell 0
  have x1 := h0.blk.cell 1
  simp only [List.getElem?_toArray, List.getElem?_cons_zero, List.getElem?_cons_succ] at x0 x1
  obtain ⟨gR, oR, G, gc, rfl, -, -, -, c3, hy3, hGr, hGS⟩ := h0.leaf hi
  obtain ⟨gG, oG, rfl⟩ := hGr.addr (by omega)
  obtain ⟨gA, oA, P0, e0, rfl, -, -, -⟩ := h0.tmp (Nat.zero_le _)
  have hli : (l.length : Int) ≤ 64 := by omega
  have hli1 : (1 : Int) ≤ (l.length : Int) := by omega
  have hne : ¬ (l.length : Int) = 0 := by omega
  have hneb : ((l.length : Int) == 0) = false := beq_eq_false_iff_ne.2 hne
  have hng : ¬ (64 : Int) < (l.length : Int) := by omega
  have Hw0 := Lib.hid hw0
  have HV : Hid (varsT t l = if (numT t l).2 = 0 then [joinL l] else varsL (tmpl (numT t l).1 (numT t l).2) l) := Lib.hid rfl
  rw [hni] at HV ⊢
  obtain ⟨gr, hgr⟩ : ∃ gr, gr = t.lv[i].gr := ⟨_, rfl⟩
  rw [← hgr] at hg8 hgs hGr hy3 c3
  have Hgr := Lib.hid hgr
  have hlk := lik_what t gr l (fun q hq => (hgs q hq).2.2) gr.length (Nat.le_refl _) (by omega)
  have HLk := Lib.hid hlk
  have Hgs := Lib.hid hgs
  have HAL : Hid (∀ k, k < gr.length → 0 ≤ alikeI (tmpl t (gr.getD k 0)) l) := Lib.hid (fun k hk => by
    have := lik_what t gr l (fun q hq => (hgs q hq).2.2) gr.length (Nat.le_refl _) (by omega)
    unfold alikeI
    rw [if_pos (hgs _ (by rw [List.getD_eq_getElem?_getD, List.getElem?_eq_getElem hk]; exact List.getElem_mem hk)).2.2]
    omega)
  have hal : ∀ k, alikeI (tmpl t (gr.getD k 0)) l ≤ 64 := fun k => by have := alike_le (ps := tmpl t (gr.getD k 0)) (l := l); omega
  have HAl2 := Lib.hid hal
  have hall : atLeaf t i t.lv[i] l = (if 2 * (likTo t gr l gr.length).2 < (l.length : Int) then
    if gr.length = 8 ∨ fullT t = true then (t, 0) else (addT t (ofL l) (t.lv.set i ⟨t.lv[i].count, t.lv[i].a, t.lv[i].b, gr ++ [t.ts.length + 1]⟩), t.ts.length + 1)
  else if mergeL (tmpl t (gr.getD (likTo t gr l gr.length).1 0)) l = tmpl t (gr.getD (likTo t gr l gr.length).1 0) then (t, gr.getD (likTo t gr l gr.length).1 0)
  else if fullT t = true then (t, 0)
  else (addT t (mergeL (tmpl t (gr.getD (likTo t gr l gr.length).1 0)) l) (t.lv.set i ⟨t.lv[i].count, t.lv[i].a, t.lv[i].b, gr.set (likTo t gr l gr.length).1 (t.ts.length + 1)⟩), t.ts.length + 1)) := by rw [hgr]; rfl
  obtain ⟨RES, hRES⟩ : ∃ r, r = atLeaf t i t.lv[i] l := ⟨_, rfl⟩
  rw [← hRES] at HV ⊢
  have HE := Lib.hid (hRES.trans hall)
  clear hRES
  obtain ⟨n1, hn1⟩ : ∃ n1, n1 = t.ts.length + 1 := ⟨_, rfl⟩
  rw [← hn1] at x0
  have hn1i : (n1 : Int) ≤ 64 := by omega
  obtain ⟨n2, hn2⟩ : ∃ n2, n2 = t.lv.length := ⟨_, rfl⟩
  rw [← hn2] at x1
  have hn2i : (n2 : Int) ≤ 32 := by omega
  have Hn1 := Lib.hid hn1
  have Hn2 := Lib.hid hn2
  have hii : (i : Int) < (n2 : Int) := by omega
  have hft : fullT t = true ↔ 64 ≤ n1 := by unfold fullT; rw [decide_eq_true_eq]; omega
  have Hft := Lib.hid hft
  have hgli : (gr.length : Int) ≤ 8 := by omega
  have hgl1 : (1 : Int) ≤ (gr.length : Int) := by omega
  have Hii := Lib.hid hi
  have HRv : Hid (∀ W, Below w0.heap.size w0 W → Calls Try.prog 36 #[.slice B l.length e2] W (RSaid 0 [joinL l] W)) := Lib.hid (fun W hW => rover_any B e2 l W (HT.out.ext hW) (by omega) hj)
  have HOut : Hid (∀ W, Below w0.heap.size w0 W → RTIn (grewS S (w.alloc (.cells #[.int .i64 0, .slice none 0 0] 31)) W) W g t ∧ Only S (w.alloc (.cells #[.int .i64 0, .slice none 0 0] 31)) W) := Lib.hid (fun W hW => by
    rw [← Hw0.out]
    refine ⟨⟨_, c, xs, _, d, ys, (H.out.ext hW).wider (fun k hk => .inl hk) (fun k hk => ?_)⟩, Only.of_ext hW⟩
    rcases hk with hk | hk
    · exact (H.out.ext hW).lt k hk
    · exact hk.2)
  have HCs : Hid (∀ W, Below w0.heap.size w0 W → W.cell? ⟨g, 0, none⟩ = some (.slice (some ⟨gA, oA, none⟩) n1 c) ∧ W.cell? ⟨g, 1, none⟩ = some (.slice (some ⟨gR, oR, none⟩) n2 d) ∧ W.cell? ⟨gR, oR + i * 4 + 3, none⟩ = some (.slice (some ⟨gG, oG, none⟩) gr.length gc)) := Lib.hid (fun W hW =>
    have f : ∀ {a v}, w0.cell? a = some v → W.cell? a = some v := fun h => cell_only h (Only.of_ext (S := fun _ => False) hW) (fun h => h)
    ⟨f x0, f x1, f c3⟩)
  have HGc : Hid (∀ W, Below w0.heap.size w0 W → ∀ k (hk : k < gr.length), W.cell? ⟨gG, oG + k, none⟩ = some (.int .i64 ((gr.getD k 0 : Nat) : Int))) := Lib.hid (fun W hW k hk => by
    obtain ⟨ad, had, hc⟩ := (hGr.ext hW).rd k (natV (gr.getD k 0)) (by rw [List.getElem?_map, List.getElem?_eq_getElem hk, List.getD_eq_getElem?_getD, List.getElem?_eq_getElem hk]; rfl)
    injection had with had
    rw [← had, Addr.add_mid] at hc
    exact hc)
  have HTm : Hid (∀ W, Below w0.heap.size w0 W → ∀ q, q ≤ t.ts.length → ∃ P e, W.cell? ⟨gA, oA + q, none⟩ = some (.slice P (tmpl t q).length e) ∧ PartsAt W P (tmpl t q)) := Lib.hid (fun W hW q hq => by
    obtain ⟨gA2, oA2, P, e, eA, hc, hr, -⟩ := (H.out.ext hW).tmp hq
    injection eA with eA
    injection eA with e1 e2
    subst e1 e2
    exact ⟨P, e, hc, parts_row hr⟩)
  have HgrL : Hid (∀ k, k < gr.length → 1 ≤ gr.getD k 0 ∧ gr.getD k 0 ≤ t.ts.length ∧ (tmpl t (gr.getD k 0)).length = l.length) := Lib.hid (fun k hk => hgs _ (by rw [List.getD_eq_getElem?_getD, List.getElem?_eq_getElem hk]; exact List.getElem_mem hk))
  have Hrow := Lib.hid hGr
  have HGS := Lib.hid hGS
  have Hy3 := Lib.hid hy3
  have Hm := Lib.hid hm
  rw [hw0] at x0 x1
  clear hleaf h h0 hT hBS hG hni hLI hf hb0 hw0 hj hids hlvs hgd hcnt hgr hlk hgs hGr hGS hy3 hal hall hn1 hn2 hft c3 hg8
  go_enter Try.func16, Try.ntmps16
  go_wp2_with fail
  rw [← Hw0.out]
  refine HLf.out.mono ?_
  rintro e w1 ⟨rfl, hb1⟩
  have Hb1 := Lib.hid hb1
  obtain ⟨y0, y1, y2⟩ := HCs.out w1 hb1
  clear x0 x1 hb1 HLf
  go_wp2_with fail
  go_loopw [9, 10, 11] (fun b m j wr => ∃ k : Nat, k ≤ gr.length ∧ j = .int .i64 (k : Int) ∧ b = .int .i64 (bI t gr l k) ∧ m = .int .i64 (mI t gr l k) ∧ Hid (Below w0.heap.size w0 wr)) (fun _ _ j _ => gr.length - (intOf j).toNat)
  case atStart => exact ⟨0, Nat.zero_le _, rfl, rfl, rfl, Hb1⟩
  case round =>
    obtain ⟨k, hk, rfl, rfl, rfl, Hb⟩ := hrel
    clear y0 y1 y2
    by_cases hlt : k < gr.length
    · have hki : (k : Int) < (gr.length : Int) := by omega
      have HS := Lib.hid (bm_step (HAL.out k hlt))
      obtain ⟨g1, g2, g3⟩ := HgrL.out k hlt
      obtain ⟨P, e, hc, hP⟩ := HTm.out wr Hb.out _ g2
      have z0 := (HCs.out wr Hb.out).1
      have z1 := HGc.out wr Hb.out k hlt
      have HX : Hid (∀ W, Below wr.heap.size wr W → Calls Try.prog 31 #[.slice P (tmpl t (gr.getD k 0)).length e, .slice B l.length e2] W fun e w' => e = .returned (.int .i64 (alikeI (tmpl t (gr.getD k 0)) l)) ∧ Below wr.heap.size wr w') := Lib.hid (fun W hW => (ralike_any P _ e _ B _ e2 l W rfl rfl (hP.ext hW) (HT.out.ext (ext_trans Hb.out hW)) (by have := Hm.out; omega) (by have := Hm.out; omega)).mono (fun e w' ⟨h1, h2⟩ => ⟨h1, ext_trans hW h2⟩))
      have hal := HAl2.out k
      have h0 := HAL.out k hlt
      have hidn : ((gr.getD k 0 : Nat) : Int) < (n1 : Int) := by have := Hn1.out; omega
      have HK : Hid (∀ W, Below wr.heap.size wr W → W.cell? ⟨g, 0, none⟩ = some (.slice (some ⟨gA, oA, none⟩) n1 c) ∧ W.cell? ⟨gG, oG + k, none⟩ = some (.int .i64 ((gr.getD k 0 : Nat) : Int)) ∧ W.cell? ⟨gA, oA + gr.getD k 0, none⟩ = some (.slice P (tmpl t (gr.getD k 0)).length e)) := Lib.hid (fun W hW =>
        have f : ∀ {a v}, wr.cell? a = some v → W.cell? a = some v := fun h => cell_only h (Only.of_ext (S := fun _ => False) hW) (fun h => h)
        ⟨f z0, f z1, f hc⟩)
      clear g1 g2 g3 hP hc z0 z1
      generalize alikeI (tmpl t (gr.getD k 0)) l = al at *
      generalize (tmpl t (gr.getD k 0)).length = pl at *
      generalize gr.getD k 0 = id_ at *
      have e0 := HK.out wr (Below.refl _ _)
      go_wp2
      go_region_held3 (fun W => W.cell? ⟨g, 0, none⟩ = some (.slice (some ⟨gA, oA, none⟩) n1 c) ∧ W.cell? ⟨gG, oG + k, none⟩ = some (.int .i64 (id_ : Int)) ∧ W.cell? ⟨gA, oA + id_, none⟩ = some (.slice P pl e)) (first | exact e0 | exact HK.out _ hb9) (first
        | (go_at_call 31; (with_reducible refine (HX.out _ ?_).mono ?_); (repeat (first | exact hb9 | exact Below.refl _ _ | refine ext_drewN ?_ _ | refine ext_drew ?_)); rintro e w9 ⟨rfl, hb9⟩))
      all_goals
        have Hb9 := Lib.hid (ext_trans Hb.out hb9)
        by_cases hq : mI t gr l k < al
        · have hs := HS.out.1 (by omega)
          have Hs1 := Lib.hid hs.1
          have Hs2 := Lib.hid hs.2
          clear hs HS
          generalize mI t gr l k = mm at *
          generalize bI t gr l k = bb at *
          go_wp2
          go_roundw
          case rel => exact ⟨k + 1, by omega, by go_num, by rw [Hs1.out], by rw [Hs2.out], Lib.hid (ext_trans Hb.out (by repeat (first | exact hb9 | exact Below.refl _ _ | refine ext_drewN ?_ _ | refine ext_drew ?_)))⟩
          case measure => simp [intOf]; omega
        · have hs := HS.out.2 (by omega)
          have Hs1 := Lib.hid hs.1
          have Hs2 := Lib.hid hs.2
          clear hs HS
          generalize mI t gr l k = mm at *
          generalize bI t gr l k = bb at *
          go_wp2
          go_roundw
          case rel => exact ⟨k + 1, by omega, by go_num, by rw [Hs1.out], by rw [Hs2.out], Lib.hid (ext_trans Hb.out (by repeat (first | exact hb9 | exact Below.refl _ _ | refine ext_drewN ?_ _ | refine ext_drew ?_)))⟩
          case measure => simp [intOf]; omega
    · obtain rfl : k = gr.length := by omega
      have hb1 : bI t gr l gr.length = ((likTo t gr l gr.length).1 : Int) := by unfold bI; rw [if_neg (by omega)]
      have hm1 : mI t gr l gr.length = (likTo t gr l gr.length).2 := by unfold mI; rw [if_neg (by omega)]
      rw [hb1, hm1]
      obtain ⟨q1, q2, q3, -, -⟩ := HLk.out
      obtain ⟨⟨q, mo⟩, hqq⟩ : ∃ p, p = likTo t gr l gr.length := ⟨_, rfl⟩
      have hE := HE.out
      rw [← hqq] at q1 q2 q3 hE ⊢
      dsimp only at q1 q2 q3 hE ⊢
      have hmo : mo ≤ 64 := by rw [q3]; exact HAl2.out q
      have hqi : (q : Int) < (gr.length : Int) := by omega
      obtain ⟨m2, hm2⟩ : ∃ m2, m2 = 2 * mo := ⟨_, rfl⟩
      have hw2 : IntKind.i64.wrap (2 * mo) = m2 := by rw [hm2]; exact IntWalk.i64_in _ (by omega)
      have Hql := Lib.hid q1
      clear hb1 hm1 hqq q1 q3 hk hlt HLk HE
      -- new group, or the group's own
      by_cases h2m : 2 * mo < (l.length : Int)
      · rw [if_pos h2m] at hE
        have h2i : m2 < (l.length : Int) := by omega
        clear h2m hm2
        by_cases hc8 : gr.length = 8 ∨ fullT t = true
        · rw [if_pos hc8] at hE
          have hv := HV.out
          rw [hE] at hv
          dsimp only at hv
          rw [if_pos rfl] at hv
          have HOv := Lib.hid hv
          have HE8 := Lib.hid hE
          clear HV hv hE
          by_cases h64 : 64 ≤ n1
          · have h64i : (64 : Int) ≤ (n1 : Int) := by omega
            clear hc8 h64
            have HR8 := Lib.hid (HRv.out wr Hb.out)
            have HT8 := Lib.hid (HOut.out wr Hb.out).1
            have HO8 := Lib.hid (HOut.out wr Hb.out).2
            have HB8 := Lib.hid (HB0.out.ext Hb.out)
            go_wp2_with fail
            refine HR8.out.mono ?_
            rintro e w8 ⟨V, cv, rfl, hN⟩
            have HN := Lib.hid hN
            have hX := HB8.out.ext hN.bel
            clear hN
            have k0 := hX.cell 0
            have k1 := hX.cell 1
            have f0 := hX.free 0
            have f1 := hX.free 1
            simp only [List.getElem?_toArray, List.getElem?_cons_zero, List.getElem?_cons_succ] at k0 k1
            have hY := hX.put 0 (.int .i64 0)
            have m0 := (hY.put 1 (.slice V 1 cv)).cell 0
            have m1 := (hY.put 1 (.slice V 1 cv)).cell 1
            have m2 := hY.cell 0
            simp only [List.getElem?_toArray, List.setIfInBounds_toArray, List.set_cons_zero, List.set_cons_succ, List.getElem?_cons_zero, List.getElem?_cons_succ] at m0 m1 m2
            clear hY hX
            go_wp2
            refine bodyPost_ret (v := .agg #[(.int .i64 0), (.slice V 1 cv)]) (by simp [results, Try.results16, go_sem, m0, m1, m2]) rfl ?_
            rw [HOv.out, HE8.out]
            exact rasgd_end (id := 0) (vs := [joinL l]) HSl.out HT8.out HO8.out HN.out _ _ 0 rfl
          · have h64i : ¬ (64 : Int) ≤ (n1 : Int) := by omega
            have h8 : gr.length = 8 := by
              rcases hc8 with h | h
              · exact h
              · exact absurd (Hft.out.1 h) h64
            have h8i : (8 : Int) ≤ (gr.length : Int) := by omega
            clear hc8 h64 h8
            have HR8 := Lib.hid (HRv.out wr Hb.out)
            have HT8 := Lib.hid (HOut.out wr Hb.out).1
            have HO8 := Lib.hid (HOut.out wr Hb.out).2
            have HB8 := Lib.hid (HB0.out.ext Hb.out)
            go_wp2_with fail
            refine HR8.out.mono ?_
            rintro e w8 ⟨V, cv, rfl, hN⟩
            have HN := Lib.hid hN
            have hX := HB8.out.ext hN.bel
            clear hN
            have k0 := hX.cell 0
            have k1 := hX.cell 1
            have f0 := hX.free 0
            have f1 := hX.free 1
            simp only [List.getElem?_toArray, List.getElem?_cons_zero, List.getElem?_cons_succ] at k0 k1
            have hY := hX.put 0 (.int .i64 0)
            have m0 := (hY.put 1 (.slice V 1 cv)).cell 0
            have m1 := (hY.put 1 (.slice V 1 cv)).cell 1
            have m2 := hY.cell 0
            simp only [List.getElem?_toArray, List.setIfInBounds_toArray, List.set_cons_zero, List.set_cons_succ, List.getElem?_cons_zero, List.getElem?_cons_succ] at m0 m1 m2
            clear hY hX
            go_wp2
            refine bodyPost_ret (v := .agg #[(.int .i64 0), (.slice V 1 cv)]) (by simp [results, Try.results16, go_sem, m0, m1, m2]) rfl ?_
            rw [HOv.out, HE8.out]
            exact rasgd_end (id := 0) (vs := [joinL l]) HSl.out HT8.out HO8.out HN.out _ _ 0 rfl
        · rw [if_neg hc8] at hE
          have hv := HV.out
          rw [hE] at hv
          dsimp only at hv
          rw [if_neg (Nat.succ_ne_zero _)] at hv
          have HOv := Lib.hid hv
          have HE8 := Lib.hid hE
          clear HV hv hE
          have h64i : ¬ (64 : Int) ≤ (n1 : Int) := fun h => hc8 (.inr (Hft.out.2 (by omega)))
          have h8i : ¬ (8 : Int) ≤ (gr.length : Int) := fun h => hc8 (.inl (by omega))
          clear hc8
          have HOf := Lib.hid (rof_any B _ e2 l wr rfl (HT.out.ext Hb.out) (by have := Hm.out; omega))
          go_wp2_with fail
          refine HOf.out.mono ?_
          rintro e w2 ⟨P, eP, rfl, hP⟩
          have Hb2 := Lib.hid hP.bel
          have HPr := Lib.hid hP.row
          have HPn : Hid (∀ k, inA P k → wr.heap.size ≤ k) := Lib.hid hP.2.2
          have HLay := Lib.hid (rlay_any ((H.out.ext Hb.out).ext hP.bel) (by have := Hn1.out; omega) HPr.out)
          clear hP HOf
          go_wp2_with fail
          refine HLay.out.mono ?_
          rintro e w3 ⟨rfl, ⟨A3, c3, h3⟩, ho3⟩
          have H3 := Lib.hid h3
          have HO3 := Lib.hid ho3
          have hOT : Only S w0 w3 := (Only.of_ext (S := S) (ext_trans Hb.out Hb2.out)).trans ho3 (fun _ _ h => h)
          have HOT := Lib.hid hOT
          have y1 := h3.blk.cell 1
          simp only [List.getElem?_toArray, List.getElem?_cons_zero, List.getElem?_cons_succ] at y1
          have y1 : w3.cell? ⟨g, 1, none⟩ = some (.slice (some ⟨gR, oR, none⟩) n2 d) := by rw [Hn2.out]; exact y1
          have HY1 : Hid (∀ W, Below w3.heap.size w3 W → W.cell? ⟨g, 1, none⟩ = some (.slice (some ⟨gR, oR, none⟩) n2 d)) := Lib.hid (fun W hW => cell_only y1 (Only.of_ext (S := fun _ => False) hW) (fun h => h))
          have HGr3 : Hid (RowO w3 3 1 (some ⟨gG, oG, none⟩) gr.length gc (gr.map natV)) := Lib.hid (by rw [Hgr.out]; exact (h3.grp (i := i) hi Hy3.out).2.1)
          have hgg : g ≠ gR := fun e => h3.rows.ne_blk h3.blk (by decide) (by rw [inA_some]; exact e.symm)
          have Hgg := Lib.hid hgg
          have hIdE : ((t.ts.length : Int) + 1) = (n1 : Int) := by have := Hn1.out; omega
          rw [hIdE]
          clear h3 ho3 hOT y1 hgg hIdE HLay
          have hgs3 : gr.length + 1 ≤ maxLen := by unfold maxLen; omega
          have hgs4 : (gr.length + 1) * 8 ≤ 140737488355328 := by omega
          have hgs1 : 0 + gr.length ≤ maxLen := by unfold maxLen; omega
          have hgs2 : (0 + gr.length) * 8 ≤ 140737488355328 := by omega
          have HOL : Hid ((ofL l).length ≤ 64) := Lib.hid (by rw [ofL_len]; exact Hm.out)
          go_wp2_with fail
          refine wp_region_held_drew (S := (fun W => W.cell? ⟨g, 1, none⟩ = some (.slice (some ⟨gR, oR, none⟩) n2 d))) (by kernel_rfl) ?_ (fun hHeld => ?_)
          · exact HY1.out _ (by repeat (first | exact Below.refl _ _ | exact Hx4.out | exact Hx5.out | apply ext_drew | apply ext_drewN | apply ext_alloc))
          refine wpAnyH_take (i := 0) (v := ?_) (take_list rfl) (by kernel_rfl) (by kernel_rfl) (by kernel_rfl) (fun _ _ _ h => h) (Or.inl ⟨by rfl, ?_⟩) (by assumption) ?_
          rotate_left
          · intro w hSw
            try dsimp only at hSw
            first | (go_simp; done) | (go_simp; with_reducible rfl)
          try simp only [Act.put, List.setIfInBounds_toArray, List.set_cons_zero, List.set_cons_succ]
          refine wpAnyH_take (i := 1) (v := ?_) (take_list rfl) (by kernel_rfl) (by kernel_rfl) (by kernel_rfl) (fun _ _ _ h => h) (Or.inl ⟨by rfl, ?_⟩) (by assumption) ?_
          rotate_left
          · intro w hSw
            try dsimp only at hSw
            first | (go_simp; done) | (go_simp; with_reducible rfl)
          try simp only [Act.put, List.setIfInBounds_toArray, List.set_cons_zero, List.set_cons_succ]
          refine wpAnyH_take (i := 2) (v := ?_) (take_list rfl) (by kernel_rfl) (by kernel_rfl) (by kernel_rfl) (fun _ _ _ h => h) (Or.inl ⟨by rfl, ?_⟩) (by assumption) ?_
          rotate_left
          · intro w hSw
            try dsimp only at hSw
            first | (go_simp; done) | (go_simp; with_reducible rfl)
          try simp only [Act.put, List.setIfInBounds_toArray, List.set_cons_zero, List.set_cons_succ]
          refine wpAnyH_take (i := 3) (v := ?_) (take_list rfl) (by kernel_rfl) (by kernel_rfl) (by kernel_rfl) (fun _ _ _ h => h) (Or.inl ⟨by rfl, ?_⟩) (by assumption) ?_
          rotate_left
          · intro w hSw
            try dsimp only at hSw
            first | (go_simp; done) | (go_simp; with_reducible rfl)
          try simp only [Act.put, List.setIfInBounds_toArray, List.set_cons_zero, List.set_cons_succ]
          refine wpAnyH_take (i := 4) (v := ?_) (take_list rfl) (by kernel_rfl) (by kernel_rfl) (by kernel_rfl) (fun _ _ _ h => h) (Or.inl ⟨by rfl, ?_⟩) (by assumption) ?_
          rotate_left
          · intro w hSw
            try dsimp only at hSw
            first | (go_simp; done) | (go_simp; with_reducible rfl)
          try simp only [Act.put, List.setIfInBounds_toArray, List.set_cons_zero, List.set_cons_succ]
          refine wpAnyH_take (i := 6) (v := ?_) (take_list rfl) (by kernel_rfl) (by kernel_rfl) (by kernel_rfl) (fun _ _ _ h => h) (Or.inl ⟨by rfl, ?_⟩) (by assumption) ?_
          rotate_left
          · intro w hSw
            try dsimp only at hSw
            first | (go_simp; done) | (go_simp; with_reducible rfl)
          try simp only [Act.put, List.setIfInBounds_toArray, List.set_cons_zero, List.set_cons_succ]
          refine wpAnyH_take (i := 8) (v := ?_) (take_list rfl) (by kernel_rfl) (by kernel_rfl) (by kernel_rfl) (fun _ _ _ h => h) (Or.inl ⟨by rfl, ?_⟩) (by assumption) ?_
          rotate_left
          · intro w hSw
            try dsimp only at hSw
            first | (go_simp; done) | (go_simp; with_reducible rfl)
          try simp only [Act.put, List.setIfInBounds_toArray, List.set_cons_zero, List.set_cons_succ]
          refine wpAnyH_ready (rs := [5, 9]) (by kernel_rfl) (by simp) ?_
          refine AllReadyH.cons (take_list rfl) (fun K hK => ?_) ?_
          · skip
            go_simp
            refine hK.out _ _ ?_ (fun hHeld => ?_)
            · try dsimp only
              exact HY1.out _ (by repeat (first | exact Below.refl _ _ | exact Hx4.out | exact Hx5.out | apply ext_drew | apply ext_drewN | apply ext_alloc))
            clear hK K
            refine wpAnyH_ready (rs := [7, 9]) (by kernel_rfl) (by simp) ?_
            refine AllReadyH.cons (take_list rfl) (fun K hK => ?_) ?_
            · skip
              refine step_appO _ rfl (.tmp 127) (.tmp 128) _ rfl 3 _ 1 8 Try.underlying82 info_int15 rfl (some ⟨_, 0, none⟩) 0 0 [] rfl (by first | exact RowO.lit _ 3 1 0 #[] rfl (Nat.zero_le _) (by first | rfl | (simp; done)) | exact RowO.drew (RowO.lit _ 3 1 0 #[] rfl (Nat.zero_le _) (by first | rfl | (simp; done))) | exact RowO.alloc (RowO.lit _ 3 1 0 #[] rfl (Nat.zero_le _) (by first | rfl | (simp; done))) _ | exact RowO.drew (RowO.alloc (RowO.lit _ 3 1 0 #[] rfl (Nat.zero_le _) (by first | rfl | (simp; done))) _)) (some ⟨gG, oG, none⟩) gr.length gc (gr.map natV) rfl (by rw [List.length_map, Nat.mul_one]) (HGr3.out.rd.ext (by repeat (first | exact Below.refl _ _ | exact Hx4.out | exact Hx5.out | apply ext_drew | apply ext_drewN | apply ext_alloc))) (natV_one _) (by intro h; cases h) hgs1 hgs2 ?_
              intro A4 c4 w4 hr4 ho4 hA4
              rw [Nat.zero_add, List.nil_append] at hr4
              obtain ⟨hx4, hn4⟩ := grow_fresh15 (w0 := w3) (by repeat (first | exact Below.refl _ _ | exact Hx4.out | exact Hx5.out | apply ext_drew | apply ext_drewN | apply ext_alloc)) ho4 hA4 (fun q hq => by rw [inA_some] at hq; subst hq; first | exact Nat.le_refl _ | (simp; done))
              have Hx4 := Lib.hid hx4
              have Hn4 := Lib.hid hn4
              have Hr4 := Lib.hid hr4
              clear hr4 ho4 hA4 hx4 hn4
              refine hK.out _ _ ?_ (fun hHeld => ?_)
              · try dsimp only
                exact HY1.out _ (by repeat (first | exact Below.refl _ _ | exact Hx4.out | exact Hx5.out | apply ext_drew | apply ext_drewN | apply ext_alloc))
              clear hK K
              refine wpAnyH_ready (rs := [9]) (by kernel_rfl) (by simp) ?_
              refine AllReadyH.cons (take_list rfl) (fun K hK => ?_) ?_
              · skip
                go_simp
                refine hK.out _ _ ?_ (fun hHeld => ?_)
                · try dsimp only
                  exact HY1.out _ (by repeat (first | exact Below.refl _ _ | exact Hx4.out | exact Hx5.out | apply ext_drew | apply ext_drewN | apply ext_alloc))
                clear hK K
                refine wpAnyH_ready (rs := [10]) (by kernel_rfl) (by simp) ?_
                refine AllReadyH.cons (take_list rfl) (fun K hK => ?_) ?_
                · skip
                  refine step_appO _ rfl (.tmp 129) (.tmp 131) _ rfl 3 _ 1 8 Try.underlying82 info_int15 rfl A4 gr.length c4 (gr.map natV) rfl (Hr4.out.alloc _) (some ⟨_, 0, none⟩) 1 1 [.int .i64 (n1 : Int)] rfl rfl (by repeat (first | exact Rd.lit_at _ #[.int .i64 (n1 : Int)] _ (by first | rfl | (simp; done)) | apply Rd.drew | apply Rd.alloc)) (by intro u hu; simp at hu; rw [hu]; rfl) (by intro h; cases h) hgs3 hgs4 ?_
                  intro A5 c5 w5 hr5 ho5 hA5
                  obtain ⟨hx5, hn5⟩ := grow_fresh15 (w0 := w3) (by repeat (first | exact Below.refl _ _ | exact Hx4.out | exact Hx5.out | apply ext_drew | apply ext_drewN | apply ext_alloc)) ho5 hA5 (fun q hq => Hn4.out q hq)
                  have Hx5 := Lib.hid hx5
                  have Hn5 := Lib.hid hn5
                  have Hr5 : Hid (RowO w5 3 1 A5 (gr.length + 1) c5 ((gr ++ [n1]).map natV)) := Lib.hid (by rw [List.map_append]; exact hr5)
                  obtain ⟨vs3, q3, f3⟩ := H3.out.slot hi hx5
                  clear hr5 ho5 hA5 hx5 hn5
                  refine hK.out _ _ ?_ (fun hHeld => ?_)
                  · try dsimp only
                    exact HY1.out _ (by repeat (first | exact Below.refl _ _ | exact Hx4.out | exact Hx5.out | apply ext_drew | apply ext_drewN | apply ext_alloc))
                  clear hK K
                  refine wpAnyH_take (i := 11) (v := ?_) (take_list rfl) (by kernel_rfl) (by kernel_rfl) (by kernel_rfl) (fun _ _ _ h => h) (Or.inl ⟨by rfl, ?_⟩) (by assumption) ?_
                  rotate_left
                  · intro w hSw
                    try dsimp only at hSw
                    first | (go_simp; done) | (go_simp; with_reducible rfl)
                  try simp only [Act.put, List.setIfInBounds_toArray, List.set_cons_zero, List.set_cons_succ]
                  refine wpAnyH_take (i := 12) (v := ?_) (take_list rfl) (by kernel_rfl) (by kernel_rfl) (by kernel_rfl) (fun _ _ _ h => h) (Or.inl ⟨by rfl, ?_⟩) (by assumption) ?_
                  rotate_left
                  · intro w hSw
                    try dsimp only at hSw
                    first | (go_simp; done) | (go_simp; with_reducible rfl)
                  try simp only [Act.put, List.setIfInBounds_toArray, List.set_cons_zero, List.set_cons_succ]
                  refine wpAnyH_ready (rs := [13]) (by kernel_rfl) (by simp) ?_
                  refine AllReadyH.cons (take_list rfl) (fun K hK => ?_) ?_
                  · skip
                    go_simp
                    refine hK.out _ _ ?_ (fun hHeld => ?_)
                    · try dsimp only
                      exact cell_only (HY1.out _ (by exact Hx5.out)) ((Only.refl (fun k => k = gR) w5).setCell (.inl rfl) _) Hgg.out
                    clear hK K
                    refine wpAnyH_done (by kernel_rfl) ?_ _
                    obtain ⟨r1, r2, r3⟩ := H3.out.regrouped hi Hx5.out (gs := gr ++ [n1]) (by simp) Hr5.out Hn5.out
                    obtain ⟨hT6, hO6⟩ := H3.out.regroup hi r3 r1 r2 Hn5.out
                    obtain ⟨hT7, hO7⟩ := some_wide Hw0.out HSl0.out HOT.out (U := fun k => grewS S w2 w3 k ∨ inA P k) (fun k hk => by rcases hk with (hk | hk) | hk; exact .inl hk; exact .inr (by have := (ext_trans Hb.out Hb2.out).size; omega); exact .inr (by have := HPn.out k hk; have := Hb.out.size; omega)) (fun k hk => .inl (.inl hk)) hO6 hT6
                    have HT8 : Hid (RTIn (grewS S (w.alloc (.cells #[.int .i64 0, .slice none 0 0] 31)) (w5.setCell ⟨gR, oR + i * 4 + 3, none⟩ (.slice A5 (gr.length + 1) c5))) (w5.setCell ⟨gR, oR + i * 4 + 3, none⟩ (.slice A5 (gr.length + 1) c5)) g (addT t (ofL l) (t.lv.set i ⟨t.lv[i].count, t.lv[i].a, t.lv[i].b, gr ++ [n1]⟩))) := Lib.hid ⟨_, _, _, _, _, _, hT7⟩
                    have HO8 := Lib.hid hO7
                    clear r1 r2 r3 hT6 hO6 hT7 hO7 q3 f3
                    have HTo := Lib.hid (told_any HT8.out B e2 l ⟨HT.out.rd.only (Hw0.out ▸ HO8.out) HBS.out, HT.out.flat⟩ (by have := Hm.out; omega) (id := n1) (by rw [Hn1.out]; unfold addT; simp) (by have := Hn1.out; unfold addT; simp; omega) (by have e := tmpl_new t (ofL l) (t.lv.set i ⟨t.lv[i].count, t.lv[i].a, t.lv[i].b, gr ++ [n1]⟩); rw [← Hn1.out] at e; rw [e]; have := HOL.out; omega))
                    have htm : tmpl (addT t (ofL l) (t.lv.set i ⟨t.lv[i].count, t.lv[i].a, t.lv[i].b, gr ++ [n1]⟩)) n1 = ofL l := by rw [Hn1.out]; exact tmpl_new _ _ _
                    rw [htm] at HTo
                    have HB8 := Lib.hid (HB0.out.only (Hw0.out ▸ HO8.out) (fun hx => absurd (HSl.out _ hx) (Nat.lt_irrefl _)))
                    have HOv2 : Hid (varsT t l = varsL (ofL l) l) := Lib.hid (by rw [HOv.out, ← Hn1.out]; exact congrArg (fun p => varsL p l) htm)
                    clear htm
                    go_wp2_with fail
                    refine HTo.out.mono ?_
                    rintro e w8 ⟨V, cv, rfl, hN⟩
                    have HN := Lib.hid hN
                    have hX := HB8.out.ext hN.bel
                    clear hN
                    have k0 := hX.cell 0
                    have k1 := hX.cell 1
                    have f0 := hX.free 0
                    have f1 := hX.free 1
                    simp only [List.getElem?_toArray, List.getElem?_cons_zero, List.getElem?_cons_succ] at k0 k1
                    have hY := hX.put 0 (.int .i64 (n1 : Int))
                    have m0 := (hY.put 1 (.slice V (varsL (ofL l) l).length cv)).cell 0
                    have m1 := (hY.put 1 (.slice V (varsL (ofL l) l).length cv)).cell 1
                    have m2 := hY.cell 0
                    simp only [List.getElem?_toArray, List.setIfInBounds_toArray, List.set_cons_zero, List.set_cons_succ, List.getElem?_cons_zero, List.getElem?_cons_succ] at m0 m1 m2
                    clear hY hX
                    go_wp2
                    refine bodyPost_ret (v := .agg #[(.int .i64 (n1 : Int)), (.slice V (varsL (ofL l) l).length cv)]) (by simp [results, Try.results16, go_sem, m0, m1, m2]) rfl ?_
                    rw [HOv2.out, HE8.out, ← Hn1.out]
                    exact rasgd_end (id := n1) HSl.out HT8.out HO8.out HN.out _ _ _ rfl
                  exact AllReadyH.nil
                exact AllReadyH.nil
              exact AllReadyH.nil
            refine AllReadyH.cons (take_list rfl) (fun K hK => ?_) ?_
            · skip
              go_simp
              refine hK.out _ _ ?_ (fun hHeld => ?_)
              · try dsimp only
                exact HY1.out _ (by repeat (first | exact Below.refl _ _ | exact Hx4.out | exact Hx5.out | apply ext_drew | apply ext_drewN | apply ext_alloc))
              clear hK K
              refine wpAnyH_ready (rs := [7]) (by kernel_rfl) (by simp) ?_
              refine AllReadyH.cons (take_list rfl) (fun K hK => ?_) ?_
              · skip
                refine step_appO _ rfl (.tmp 127) (.tmp 128) _ rfl 3 _ 1 8 Try.underlying82 info_int15 rfl (some ⟨_, 0, none⟩) 0 0 [] rfl (by first | exact RowO.lit _ 3 1 0 #[] rfl (Nat.zero_le _) (by first | rfl | (simp; done)) | exact RowO.drew (RowO.lit _ 3 1 0 #[] rfl (Nat.zero_le _) (by first | rfl | (simp; done))) | exact RowO.alloc (RowO.lit _ 3 1 0 #[] rfl (Nat.zero_le _) (by first | rfl | (simp; done))) _ | exact RowO.drew (RowO.alloc (RowO.lit _ 3 1 0 #[] rfl (Nat.zero_le _) (by first | rfl | (simp; done))) _)) (some ⟨gG, oG, none⟩) gr.length gc (gr.map natV) rfl (by rw [List.length_map, Nat.mul_one]) (HGr3.out.rd.ext (by repeat (first | exact Below.refl _ _ | exact Hx4.out | exact Hx5.out | apply ext_drew | apply ext_drewN | apply ext_alloc))) (natV_one _) (by intro h; cases h) hgs1 hgs2 ?_
                intro A4 c4 w4 hr4 ho4 hA4
                rw [Nat.zero_add, List.nil_append] at hr4
                obtain ⟨hx4, hn4⟩ := grow_fresh15 (w0 := w3) (by repeat (first | exact Below.refl _ _ | exact Hx4.out | exact Hx5.out | apply ext_drew | apply ext_drewN | apply ext_alloc)) ho4 hA4 (fun q hq => by rw [inA_some] at hq; subst hq; first | exact Nat.le_refl _ | (simp; done))
                have Hx4 := Lib.hid hx4
                have Hn4 := Lib.hid hn4
                have Hr4 := Lib.hid hr4
                have Hlt : Hid (Rd w4 (some ⟨w3.heap.size + 1, 0, none⟩) [.int .i64 (n1 : Int)]) := Lib.hid (Rd.only (by repeat (first | exact Rd.lit_at _ #[.int .i64 (n1 : Int)] _ (by first | rfl | (simp; done)) | apply Rd.drew | apply Rd.alloc)) ho4 (fun ad e _ hq => by injection e with e; subst e; rw [inA_some] at hq; simp at hq))
                clear hr4 ho4 hA4 hx4 hn4
                refine hK.out _ _ ?_ (fun hHeld => ?_)
                · try dsimp only
                  exact HY1.out _ (by repeat (first | exact Below.refl _ _ | exact Hx4.out | exact Hx5.out | apply ext_drew | apply ext_drewN | apply ext_alloc))
                clear hK K
                refine wpAnyH_ready (rs := [10]) (by kernel_rfl) (by simp) ?_
                refine AllReadyH.cons (take_list rfl) (fun K hK => ?_) ?_
                · skip
                  simp only [Nat.zero_add]
                  refine step_appO _ rfl (.tmp 129) (.tmp 131) _ rfl 3 _ 1 8 Try.underlying82 info_int15 rfl A4 gr.length c4 (gr.map natV) rfl (Hr4.out) (some ⟨_, 0, none⟩) 1 1 [.int .i64 (n1 : Int)] rfl rfl (Hlt.out) (by intro u hu; simp at hu; rw [hu]; rfl) (by intro h; cases h) hgs3 hgs4 ?_
                  intro A5 c5 w5 hr5 ho5 hA5
                  obtain ⟨hx5, hn5⟩ := grow_fresh15 (w0 := w3) (by repeat (first | exact Below.refl _ _ | exact Hx4.out | exact Hx5.out | apply ext_drew | apply ext_drewN | apply ext_alloc)) ho5 hA5 (fun q hq => Hn4.out q hq)
                  have Hx5 := Lib.hid hx5
                  have Hn5 := Lib.hid hn5
                  have Hr5 : Hid (RowO w5 3 1 A5 (gr.length + 1) c5 ((gr ++ [n1]).map natV)) := Lib.hid (by rw [List.map_append]; exact hr5)
                  obtain ⟨vs3, q3, f3⟩ := H3.out.slot hi hx5
                  clear hr5 ho5 hA5 hx5 hn5
                  refine hK.out _ _ ?_ (fun hHeld => ?_)
                  · try dsimp only
                    exact HY1.out _ (by repeat (first | exact Below.refl _ _ | exact Hx4.out | exact Hx5.out | apply ext_drew | apply ext_drewN | apply ext_alloc))
                  clear hK K
                  refine wpAnyH_take (i := 11) (v := ?_) (take_list rfl) (by kernel_rfl) (by kernel_rfl) (by kernel_rfl) (fun _ _ _ h => h) (Or.inl ⟨by rfl, ?_⟩) (by assumption) ?_
                  rotate_left
                  · intro w hSw
                    try dsimp only at hSw
                    first | (go_simp; done) | (go_simp; with_reducible rfl)
                  try simp only [Act.put, List.setIfInBounds_toArray, List.set_cons_zero, List.set_cons_succ]
                  refine wpAnyH_take (i := 12) (v := ?_) (take_list rfl) (by kernel_rfl) (by kernel_rfl) (by kernel_rfl) (fun _ _ _ h => h) (Or.inl ⟨by rfl, ?_⟩) (by assumption) ?_
                  rotate_left
                  · intro w hSw
                    try dsimp only at hSw
                    first | (go_simp; done) | (go_simp; with_reducible rfl)
                  try simp only [Act.put, List.setIfInBounds_toArray, List.set_cons_zero, List.set_cons_succ]
                  refine wpAnyH_ready (rs := [13]) (by kernel_rfl) (by simp) ?_
                  refine AllReadyH.cons (take_list rfl) (fun K hK => ?_) ?_
                  · skip
                    go_simp
                    refine hK.out _ _ ?_ (fun hHeld => ?_)
                    · try dsimp only
                      exact cell_only (HY1.out _ (by exact Hx5.out)) ((Only.refl (fun k => k = gR) w5).setCell (.inl rfl) _) Hgg.out
                    clear hK K
                    refine wpAnyH_done (by kernel_rfl) ?_ _
                    obtain ⟨r1, r2, r3⟩ := H3.out.regrouped hi Hx5.out (gs := gr ++ [n1]) (by simp) Hr5.out Hn5.out
                    obtain ⟨hT6, hO6⟩ := H3.out.regroup hi r3 r1 r2 Hn5.out
                    obtain ⟨hT7, hO7⟩ := some_wide Hw0.out HSl0.out HOT.out (U := fun k => grewS S w2 w3 k ∨ inA P k) (fun k hk => by rcases hk with (hk | hk) | hk; exact .inl hk; exact .inr (by have := (ext_trans Hb.out Hb2.out).size; omega); exact .inr (by have := HPn.out k hk; have := Hb.out.size; omega)) (fun k hk => .inl (.inl hk)) hO6 hT6
                    have HT8 : Hid (RTIn (grewS S (w.alloc (.cells #[.int .i64 0, .slice none 0 0] 31)) (w5.setCell ⟨gR, oR + i * 4 + 3, none⟩ (.slice A5 (gr.length + 1) c5))) (w5.setCell ⟨gR, oR + i * 4 + 3, none⟩ (.slice A5 (gr.length + 1) c5)) g (addT t (ofL l) (t.lv.set i ⟨t.lv[i].count, t.lv[i].a, t.lv[i].b, gr ++ [n1]⟩))) := Lib.hid ⟨_, _, _, _, _, _, hT7⟩
                    have HO8 := Lib.hid hO7
                    clear r1 r2 r3 hT6 hO6 hT7 hO7 q3 f3
                    have HTo := Lib.hid (told_any HT8.out B e2 l ⟨HT.out.rd.only (Hw0.out ▸ HO8.out) HBS.out, HT.out.flat⟩ (by have := Hm.out; omega) (id := n1) (by rw [Hn1.out]; unfold addT; simp) (by have := Hn1.out; unfold addT; simp; omega) (by have e := tmpl_new t (ofL l) (t.lv.set i ⟨t.lv[i].count, t.lv[i].a, t.lv[i].b, gr ++ [n1]⟩); rw [← Hn1.out] at e; rw [e]; have := HOL.out; omega))
                    have htm : tmpl (addT t (ofL l) (t.lv.set i ⟨t.lv[i].count, t.lv[i].a, t.lv[i].b, gr ++ [n1]⟩)) n1 = ofL l := by rw [Hn1.out]; exact tmpl_new _ _ _
                    rw [htm] at HTo
                    have HB8 := Lib.hid (HB0.out.only (Hw0.out ▸ HO8.out) (fun hx => absurd (HSl.out _ hx) (Nat.lt_irrefl _)))
                    have HOv2 : Hid (varsT t l = varsL (ofL l) l) := Lib.hid (by rw [HOv.out, ← Hn1.out]; exact congrArg (fun p => varsL p l) htm)
                    clear htm
                    go_wp2_with fail
                    refine HTo.out.mono ?_
                    rintro e w8 ⟨V, cv, rfl, hN⟩
                    have HN := Lib.hid hN
                    have hX := HB8.out.ext hN.bel
                    clear hN
                    have k0 := hX.cell 0
                    have k1 := hX.cell 1
                    have f0 := hX.free 0
                    have f1 := hX.free 1
                    simp only [List.getElem?_toArray, List.getElem?_cons_zero, List.getElem?_cons_succ] at k0 k1
                    have hY := hX.put 0 (.int .i64 (n1 : Int))
                    have m0 := (hY.put 1 (.slice V (varsL (ofL l) l).length cv)).cell 0
                    have m1 := (hY.put 1 (.slice V (varsL (ofL l) l).length cv)).cell 1
                    have m2 := hY.cell 0
                    simp only [List.getElem?_toArray, List.setIfInBounds_toArray, List.set_cons_zero, List.set_cons_succ, List.getElem?_cons_zero, List.getElem?_cons_succ] at m0 m1 m2
                    clear hY hX
                    go_wp2
                    refine bodyPost_ret (v := .agg #[(.int .i64 (n1 : Int)), (.slice V (varsL (ofL l) l).length cv)]) (by simp [results, Try.results16, go_sem, m0, m1, m2]) rfl ?_
                    rw [HOv2.out, HE8.out, ← Hn1.out]
                    exact rasgd_end (id := n1) HSl.out HT8.out HO8.out HN.out _ _ _ rfl
                  exact AllReadyH.nil
                exact AllReadyH.nil
              exact AllReadyH.nil
            exact AllReadyH.nil
          refine AllReadyH.cons (take_list rfl) (fun K hK => ?_) ?_
          · skip
            go_simp
            refine hK.out _ _ ?_ (fun hHeld => ?_)
            · try dsimp only
              exact HY1.out _ (by repeat (first | exact Below.refl _ _ | exact Hx4.out | exact Hx5.out | apply ext_drew | apply ext_drewN | apply ext_alloc))
            clear hK K
            refine wpAnyH_ready (rs := [5]) (by kernel_rfl) (by simp) ?_
            refine AllReadyH.cons (take_list rfl) (fun K hK => ?_) ?_
            · skip
              go_simp
              refine hK.out _ _ ?_ (fun hHeld => ?_)
              · try dsimp only
                exact HY1.out _ (by repeat (first | exact Below.refl _ _ | exact Hx4.out | exact Hx5.out | apply ext_drew | apply ext_drewN | apply ext_alloc))
              clear hK K
              refine wpAnyH_ready (rs := [7]) (by kernel_rfl) (by simp) ?_
              refine AllReadyH.cons (take_list rfl) (fun K hK => ?_) ?_
              · skip
                refine step_appO _ rfl (.tmp 127) (.tmp 128) _ rfl 3 _ 1 8 Try.underlying82 info_int15 rfl (some ⟨_, 0, none⟩) 0 0 [] rfl (by first | exact RowO.lit _ 3 1 0 #[] rfl (Nat.zero_le _) (by first | rfl | (simp; done)) | exact RowO.drew (RowO.lit _ 3 1 0 #[] rfl (Nat.zero_le _) (by first | rfl | (simp; done))) | exact RowO.alloc (RowO.lit _ 3 1 0 #[] rfl (Nat.zero_le _) (by first | rfl | (simp; done))) _ | exact RowO.drew (RowO.alloc (RowO.lit _ 3 1 0 #[] rfl (Nat.zero_le _) (by first | rfl | (simp; done))) _)) (some ⟨gG, oG, none⟩) gr.length gc (gr.map natV) rfl (by rw [List.length_map, Nat.mul_one]) (HGr3.out.rd.ext (by repeat (first | exact Below.refl _ _ | exact Hx4.out | exact Hx5.out | apply ext_drew | apply ext_drewN | apply ext_alloc))) (natV_one _) (by intro h; cases h) hgs1 hgs2 ?_
                intro A4 c4 w4 hr4 ho4 hA4
                rw [Nat.zero_add, List.nil_append] at hr4
                obtain ⟨hx4, hn4⟩ := grow_fresh15 (w0 := w3) (by repeat (first | exact Below.refl _ _ | exact Hx4.out | exact Hx5.out | apply ext_drew | apply ext_drewN | apply ext_alloc)) ho4 hA4 (fun q hq => by rw [inA_some] at hq; subst hq; first | exact Nat.le_refl _ | (simp; done))
                have Hx4 := Lib.hid hx4
                have Hn4 := Lib.hid hn4
                have Hr4 := Lib.hid hr4
                have Hlt : Hid (Rd w4 (some ⟨w3.heap.size, 0, none⟩) [.int .i64 (n1 : Int)]) := Lib.hid (Rd.only (by repeat (first | exact Rd.lit_at _ #[.int .i64 (n1 : Int)] _ (by first | rfl | (simp; done)) | apply Rd.drew | apply Rd.alloc)) ho4 (fun ad e _ hq => by injection e with e; subst e; rw [inA_some] at hq; simp at hq))
                clear hr4 ho4 hA4 hx4 hn4
                refine hK.out _ _ ?_ (fun hHeld => ?_)
                · try dsimp only
                  exact HY1.out _ (by repeat (first | exact Below.refl _ _ | exact Hx4.out | exact Hx5.out | apply ext_drew | apply ext_drewN | apply ext_alloc))
                clear hK K
                refine wpAnyH_ready (rs := [10]) (by kernel_rfl) (by simp) ?_
                refine AllReadyH.cons (take_list rfl) (fun K hK => ?_) ?_
                · skip
                  simp only [Nat.zero_add]
                  refine step_appO _ rfl (.tmp 129) (.tmp 131) _ rfl 3 _ 1 8 Try.underlying82 info_int15 rfl A4 gr.length c4 (gr.map natV) rfl (Hr4.out) (some ⟨_, 0, none⟩) 1 1 [.int .i64 (n1 : Int)] rfl rfl (Hlt.out) (by intro u hu; simp at hu; rw [hu]; rfl) (by intro h; cases h) hgs3 hgs4 ?_
                  intro A5 c5 w5 hr5 ho5 hA5
                  obtain ⟨hx5, hn5⟩ := grow_fresh15 (w0 := w3) (by repeat (first | exact Below.refl _ _ | exact Hx4.out | exact Hx5.out | apply ext_drew | apply ext_drewN | apply ext_alloc)) ho5 hA5 (fun q hq => Hn4.out q hq)
                  have Hx5 := Lib.hid hx5
                  have Hn5 := Lib.hid hn5
                  have Hr5 : Hid (RowO w5 3 1 A5 (gr.length + 1) c5 ((gr ++ [n1]).map natV)) := Lib.hid (by rw [List.map_append]; exact hr5)
                  obtain ⟨vs3, q3, f3⟩ := H3.out.slot hi hx5
                  clear hr5 ho5 hA5 hx5 hn5
                  refine hK.out _ _ ?_ (fun hHeld => ?_)
                  · try dsimp only
                    exact HY1.out _ (by repeat (first | exact Below.refl _ _ | exact Hx4.out | exact Hx5.out | apply ext_drew | apply ext_drewN | apply ext_alloc))
                  clear hK K
                  refine wpAnyH_take (i := 11) (v := ?_) (take_list rfl) (by kernel_rfl) (by kernel_rfl) (by kernel_rfl) (fun _ _ _ h => h) (Or.inl ⟨by rfl, ?_⟩) (by assumption) ?_
                  rotate_left
                  · intro w hSw
                    try dsimp only at hSw
                    first | (go_simp; done) | (go_simp; with_reducible rfl)
                  try simp only [Act.put, List.setIfInBounds_toArray, List.set_cons_zero, List.set_cons_succ]
                  refine wpAnyH_take (i := 12) (v := ?_) (take_list rfl) (by kernel_rfl) (by kernel_rfl) (by kernel_rfl) (fun _ _ _ h => h) (Or.inl ⟨by rfl, ?_⟩) (by assumption) ?_
                  rotate_left
                  · intro w hSw
                    try dsimp only at hSw
                    first | (go_simp; done) | (go_simp; with_reducible rfl)
                  try simp only [Act.put, List.setIfInBounds_toArray, List.set_cons_zero, List.set_cons_succ]
                  refine wpAnyH_ready (rs := [13]) (by kernel_rfl) (by simp) ?_
                  refine AllReadyH.cons (take_list rfl) (fun K hK => ?_) ?_
                  · skip
                    go_simp
                    refine hK.out _ _ ?_ (fun hHeld => ?_)
                    · try dsimp only
                      exact cell_only (HY1.out _ (by exact Hx5.out)) ((Only.refl (fun k => k = gR) w5).setCell (.inl rfl) _) Hgg.out
                    clear hK K
                    refine wpAnyH_done (by kernel_rfl) ?_ _
                    obtain ⟨r1, r2, r3⟩ := H3.out.regrouped hi Hx5.out (gs := gr ++ [n1]) (by simp) Hr5.out Hn5.out
                    obtain ⟨hT6, hO6⟩ := H3.out.regroup hi r3 r1 r2 Hn5.out
                    obtain ⟨hT7, hO7⟩ := some_wide Hw0.out HSl0.out HOT.out (U := fun k => grewS S w2 w3 k ∨ inA P k) (fun k hk => by rcases hk with (hk | hk) | hk; exact .inl hk; exact .inr (by have := (ext_trans Hb.out Hb2.out).size; omega); exact .inr (by have := HPn.out k hk; have := Hb.out.size; omega)) (fun k hk => .inl (.inl hk)) hO6 hT6
                    have HT8 : Hid (RTIn (grewS S (w.alloc (.cells #[.int .i64 0, .slice none 0 0] 31)) (w5.setCell ⟨gR, oR + i * 4 + 3, none⟩ (.slice A5 (gr.length + 1) c5))) (w5.setCell ⟨gR, oR + i * 4 + 3, none⟩ (.slice A5 (gr.length + 1) c5)) g (addT t (ofL l) (t.lv.set i ⟨t.lv[i].count, t.lv[i].a, t.lv[i].b, gr ++ [n1]⟩))) := Lib.hid ⟨_, _, _, _, _, _, hT7⟩
                    have HO8 := Lib.hid hO7
                    clear r1 r2 r3 hT6 hO6 hT7 hO7 q3 f3
                    have HTo := Lib.hid (told_any HT8.out B e2 l ⟨HT.out.rd.only (Hw0.out ▸ HO8.out) HBS.out, HT.out.flat⟩ (by have := Hm.out; omega) (id := n1) (by rw [Hn1.out]; unfold addT; simp) (by have := Hn1.out; unfold addT; simp; omega) (by have e := tmpl_new t (ofL l) (t.lv.set i ⟨t.lv[i].count, t.lv[i].a, t.lv[i].b, gr ++ [n1]⟩); rw [← Hn1.out] at e; rw [e]; have := HOL.out; omega))
                    have htm : tmpl (addT t (ofL l) (t.lv.set i ⟨t.lv[i].count, t.lv[i].a, t.lv[i].b, gr ++ [n1]⟩)) n1 = ofL l := by rw [Hn1.out]; exact tmpl_new _ _ _
                    rw [htm] at HTo
                    have HB8 := Lib.hid (HB0.out.only (Hw0.out ▸ HO8.out) (fun hx => absurd (HSl.out _ hx) (Nat.lt_irrefl _)))
                    have HOv2 : Hid (varsT t l = varsL (ofL l) l) := Lib.hid (by rw [HOv.out, ← Hn1.out]; exact congrArg (fun p => varsL p l) htm)
                    clear htm
                    go_wp2_with fail
                    refine HTo.out.mono ?_
                    rintro e w8 ⟨V, cv, rfl, hN⟩
                    have HN := Lib.hid hN
                    have hX := HB8.out.ext hN.bel
                    clear hN
                    have k0 := hX.cell 0
                    have k1 := hX.cell 1
                    have f0 := hX.free 0
                    have f1 := hX.free 1
                    simp only [List.getElem?_toArray, List.getElem?_cons_zero, List.getElem?_cons_succ] at k0 k1
                    have hY := hX.put 0 (.int .i64 (n1 : Int))
                    have m0 := (hY.put 1 (.slice V (varsL (ofL l) l).length cv)).cell 0
                    have m1 := (hY.put 1 (.slice V (varsL (ofL l) l).length cv)).cell 1
                    have m2 := hY.cell 0
                    simp only [List.getElem?_toArray, List.setIfInBounds_toArray, List.set_cons_zero, List.set_cons_succ, List.getElem?_cons_zero, List.getElem?_cons_succ] at m0 m1 m2
                    clear hY hX
                    go_wp2
                    refine bodyPost_ret (v := .agg #[(.int .i64 (n1 : Int)), (.slice V (varsL (ofL l) l).length cv)]) (by simp [results, Try.results16, go_sem, m0, m1, m2]) rfl ?_
                    rw [HOv2.out, HE8.out, ← Hn1.out]
                    exact rasgd_end (id := n1) HSl.out HT8.out HO8.out HN.out _ _ _ rfl
                  exact AllReadyH.nil
                exact AllReadyH.nil
              exact AllReadyH.nil
            exact AllReadyH.nil
          exact AllReadyH.nil
      · rw [if_neg h2m] at hE
        have h2i : ¬ m2 < (l.length : Int) := by omega
        clear h2m hm2
        obtain ⟨g1, g2, g3⟩ := HgrL.out q Hql.out
        obtain ⟨P, eP, hcP, hP⟩ := HTm.out wr Hb.out _ g2
        have z0 := (HCs.out wr Hb.out).1
        have z1 := HGc.out wr Hb.out q Hql.out
        obtain ⟨gq, hgq⟩ : ∃ gq, gq = gr.getD q 0 := ⟨_, rfl⟩
        rw [← hgq] at g1 g2 g3 hcP hP z1 hE
        have hidn : (gq : Int) < (n1 : Int) := by have := Hn1.out; omega
        have hgq1 : (1 : Int) ≤ (gq : Int) := by omega
        have Hg1 := Lib.hid g1
        have Hg2 := Lib.hid g2
        have Hpl : Hid ((tmpl t gq).length ≤ 64) := Lib.hid (by rw [g3]; exact Hm.out)
        have Hml : Hid ((mergeL (tmpl t gq) l).length ≤ 64) := Lib.hid (by rw [mergeL_len]; exact Hpl.out)
        have HMg : Hid (∀ W, Below wr.heap.size wr W → Calls Try.prog 42 #[.slice P (tmpl t gq).length eP, .slice B l.length e2] W fun e w' => ∃ M cM, e = .returned (.slice M (mergeL (tmpl t gq) l).length cM) ∧ Below wr.heap.size wr w' ∧ Hid (RowO w' 72 2 M (mergeL (tmpl t gq) l).length cM (cellsP (mergeL (tmpl t gq) l))) ∧ Hid (∀ k, inA M k → wr.heap.size ≤ k)) := Lib.hid (fun W hW => (rmerge_any P _ eP _ B _ e2 l W rfl rfl (hP.ext hW) (HT.out.ext (ext_trans Hb.out hW)) (by have := Hpl.out; omega) (by have := Hm.out; omega)).mono (fun e w' ⟨M, cM, h1, h2⟩ => ⟨M, cM, h1, ext_trans hW h2.bel, Lib.hid h2.row, Lib.hid (fun k hk => Nat.le_trans hW.size (h2.2.2 k hk))⟩))
        have HK : Hid (∀ W, Below wr.heap.size wr W → W.cell? ⟨g, 0, none⟩ = some (.slice (some ⟨gA, oA, none⟩) n1 c) ∧ W.cell? ⟨gG, oG + q, none⟩ = some (.int .i64 (gq : Int)) ∧ W.cell? ⟨gA, oA + gq, none⟩ = some (.slice P (tmpl t gq).length eP)) := Lib.hid (fun W hW =>
          have f : ∀ {a v}, wr.cell? a = some v → W.cell? a = some v := fun h => cell_only h (Only.of_ext (S := fun _ => False) hW) (fun h => h)
          ⟨f z0, f z1, f hcP⟩)
        have HPx : Hid (∀ W, Below wr.heap.size wr W → PartsAt W P (tmpl t gq)) := Lib.hid (fun W hW => hP.ext hW)
        have HPl2 := Lib.hid Hpl.out
        have HSm : Hid (∀ W M cM, Below wr.heap.size wr W → PartsAt W M (mergeL (tmpl t gq) l) → Calls Try.prog 23 #[.slice M (mergeL (tmpl t gq) l).length cM, .slice P (tmpl t gq).length eP] W fun e w' => e = .returned (.bool (decide (mergeL (tmpl t gq) l = tmpl t gq))) ∧ Below wr.heap.size wr w') := Lib.hid (fun W M cM hW hM => (rsame_any M _ cM _ P _ eP _ W rfl rfl hM (hP.ext hW) (by have := Hml.out; omega) (by have := Hpl.out; omega)).mono (fun e w' ⟨h1, h2⟩ => ⟨h1, ext_trans hW h2⟩))
        have HTl : Hid (∀ W, Below w0.heap.size w0 W → Calls Try.prog 41 #[.pointer (some ⟨g, 0, none⟩), .int .i64 (gq : Int), .slice B l.length e2] W (RSaid gq (varsL (tmpl t gq) l) W)) := Lib.hid (fun W hW => told_any (HOut.out W hW).1 B e2 l (HT.out.ext hW) (by have := Hm.out; omega) Hg2.out (by have := Hn1.out; omega) (by have := Hpl.out; omega))
        have HLay : Hid (∀ W M cM, Below w0.heap.size w0 W → RowO W 72 2 M (mergeL (tmpl t gq) l).length cM (cellsP (mergeL (tmpl t gq) l)) → (∀ k, inA M k → wr.heap.size ≤ k) → Calls Try.prog 38 #[.pointer (some ⟨g, 0, none⟩), .slice M (mergeL (tmpl t gq) l).length cM] W fun e w' => e = .returned (.int .i64 (n1 : Int)) ∧ (∃ A' c' xs', RTAt (grewS S w0 w') w' g (addT t (mergeL (tmpl t gq) l) t.lv) A' c' xs' (some ⟨gR, oR, none⟩) d ys) ∧ Only S w0 w') := Lib.hid (fun W M cM hW hM hMn => (rlay_any (H.out.ext hW) (by have := Hn1.out; omega) hM).mono (fun e w' ⟨h1, ⟨A', c', h2⟩, h3⟩ => by
          refine ⟨by rw [h1, Hn1.out]; push_cast; rfl, ⟨A', c', _, h2.wider (fun k hk => ?_) (fun k hk => ?_)⟩, (Only.of_ext (S := S) hW).trans h3 (fun _ _ h => h)⟩
          · have hlt := h2.lt k hk
            rcases hk with (hk | hk) | hk
            · exact .inl hk
            · exact .inr ⟨by have := hW.size; omega, hlt⟩
            · exact .inr ⟨by have := hMn k hk; have := Hb.out.size; omega, hlt⟩
          · rcases hk with hk | hk
            · have := HSl0.out k hk; have := hW.size; have := h3.size; omega
            · exact hk.2))
        obtain ⟨sb, hsb⟩ : ∃ sb, sb = decide (mergeL (tmpl t gq) l = tmpl t gq) := ⟨_, rfl⟩
        rw [← hsb] at HSm
        have HSb := Lib.hid hsb
        have HEx := Lib.hid hE
        obtain ⟨MG, hMG⟩ : ∃ MG, MG = mergeL (tmpl t gq) l := ⟨_, rfl⟩
        obtain ⟨PT, hPT⟩ : ∃ PT, PT = tmpl t gq := ⟨_, rfl⟩
        rw [← hPT] at HMg HK HSm HTl HLay HSb HEx Hml hMG HPx HPl2
        rw [← hMG] at HMg HSm HLay HSb HEx Hml
        have HMG := Lib.hid hMG
        have HPT := Lib.hid hPT
        clear g1 g2 g3 hcP hP z0 z1 hgq hsb hE hMG hPT
        go_wp2
        go_region_held3 (fun W => W.cell? ⟨g, 0, none⟩ = some (.slice (some ⟨gA, oA, none⟩) n1 c) ∧ W.cell? ⟨gG, oG + q, none⟩ = some (.int .i64 (gq : Int)) ∧ W.cell? ⟨gA, oA + gq, none⟩ = some (.slice P PT.length eP)) (first | exact HK.out _ hb9 | exact HK.out _ (by repeat (first | exact Below.refl _ _ | refine ext_drewN ?_ _ | refine ext_drew ?_))) (first
          | (go_at_call 42; (with_reducible refine (HMg.out _ ?_).mono ?_); (repeat (first | exact hb9 | exact Below.refl _ _ | refine ext_drewN ?_ _ | refine ext_drew ?_)); rintro e w9 ⟨M, cM, rfl, hb9, HM9, HMn⟩))
        all_goals
          have hb19 := hb9
          have HSm9 := Lib.hid (fun W (hW : Below w9.heap.size w9 W) => HSm.out W M cM (ext_trans hb19 hW) (parts_row (HM9.out.ext hW)))
          have HMx : Hid (∀ W, Below w9.heap.size w9 W → RowO W 72 2 M MG.length cM (cellsP MG)) := Lib.hid (fun W hW => HM9.out.ext hW)
          have HKx : Hid (∀ W, Below w9.heap.size w9 W → W.cell? ⟨g, 0, none⟩ = some (.slice (some ⟨gA, oA, none⟩) n1 c) ∧ W.cell? ⟨gG, oG + q, none⟩ = some (.int .i64 (gq : Int)) ∧ W.cell? ⟨gA, oA + gq, none⟩ = some (.slice P PT.length eP)) := Lib.hid (fun W hW => HK.out W (ext_trans hb19 hW))
          have HS9 : Hid (∀ W, Below w9.heap.size w9 W → Calls Try.prog 23 #[.slice M MG.length cM, .slice P PT.length eP] W fun e w' => e = .returned (.bool sb) ∧ Below w9.heap.size w9 w') := Lib.hid (fun W hW => (rsame_any M _ cM MG P _ eP PT W rfl rfl (parts_row (HM9.out.ext hW)) (HPx.out W (ext_trans hb19 hW)) (by have := Hml.out; omega) (by have := HPl2.out; omega)).mono (fun e w' ⟨h1, h2⟩ => ⟨by rw [h1, HSb.out], ext_trans hW h2⟩))
          have Hb9 := Lib.hid (ext_trans Hb.out hb19)
          clear hb9 hb19 HM9 HSm HK HMg HSm9
          go_wp2
          go_region_held3 (fun W => W.cell? ⟨g, 0, none⟩ = some (.slice (some ⟨gA, oA, none⟩) n1 c) ∧ W.cell? ⟨gG, oG + q, none⟩ = some (.int .i64 (gq : Int)) ∧ W.cell? ⟨gA, oA + gq, none⟩ = some (.slice P PT.length eP)) (first | exact HKx.out _ hb9 | exact HKx.out _ (by repeat (first | exact Below.refl _ _ | refine ext_drewN ?_ _ | refine ext_drew ?_))) (first
            | (go_at_call 23; (with_reducible refine (HS9.out _ ?_).mono ?_); (repeat (first | exact Below.refl _ _ | refine ext_drewN ?_ _ | refine ext_drew ?_)); rintro e w10 ⟨rfl, hb9⟩))
          all_goals
            have HKy : Hid (∀ W, Below w10.heap.size w10 W → W.cell? ⟨gG, oG + q, none⟩ = some (.int .i64 (gq : Int))) := Lib.hid (fun W hW => (HKx.out W (ext_trans hb9 hW)).2.1)
            have Hb10 := Lib.hid (ext_trans Hb9.out hb9)
            have HM10 : Hid (∀ W, Below w10.heap.size w10 W → RowO W 72 2 M MG.length cM (cellsP MG)) := Lib.hid (fun W hW => HMx.out W (ext_trans hb9 hW))
            clear hb9 HKx HMx HS9
            cases sb
            case true =>
              have hsame : MG = PT := by have := HSb.out; simpa using this.symm
              have hE2 := HEx.out
              rw [if_pos hsame] at hE2
              have hv := HV.out
              rw [hE2] at hv
              dsimp only at hv
              rw [if_neg (by have := Hg1.out; omega), ← HPT.out] at hv
              have HOv := Lib.hid hv
              have HE8 := Lib.hid hE2
              have z1 := HKy.out w10 (Below.refl _ _)
              clear hsame hE2 hv HEx HSb HV HLay
              go_wp2_with fail
              refine (HTl.out _ (by repeat (first | exact Hb10.out | refine ext_drewN ?_ _ | refine ext_drew ?_))).mono ?_
              rintro e w8 ⟨V, cv, rfl, hN⟩
              have HN := Lib.hid hN
              have hX := HB0.out.ext (ext_trans (by repeat (first | exact Hb10.out | refine ext_drewN ?_ _ | refine ext_drew ?_)) hN.bel)
              clear hN
              have k0 := hX.cell 0
              have k1 := hX.cell 1
              have f0 := hX.free 0
              have f1 := hX.free 1
              simp only [List.getElem?_toArray, List.getElem?_cons_zero, List.getElem?_cons_succ] at k0 k1
              have hY := hX.put 0 (.int .i64 (gq : Int))
              have m0 := (hY.put 1 (.slice V (varsL PT l).length cv)).cell 0
              have m1 := (hY.put 1 (.slice V (varsL PT l).length cv)).cell 1
              have m2 := hY.cell 0
              simp only [List.getElem?_toArray, List.setIfInBounds_toArray, List.set_cons_zero, List.set_cons_succ, List.getElem?_cons_zero, List.getElem?_cons_succ] at m0 m1 m2
              clear hY hX
              go_wp2
              refine bodyPost_ret (v := .agg #[(.int .i64 (gq : Int)), (.slice V (varsL PT l).length cv)]) (by simp [results, Try.results16, go_sem, m0, m1, m2]) rfl ?_
              rw [HOv.out, HE8.out]
              exact rasgd_end (id := gq) HSl.out (HOut.out _ (by repeat (first | exact Hb10.out | refine ext_drewN ?_ _ | refine ext_drew ?_))).1 (HOut.out _ (by repeat (first | exact Hb10.out | refine ext_drewN ?_ _ | refine ext_drew ?_))).2 HN.out _ _ _ rfl
            case false =>
              have hdiff : ¬ MG = PT := by have := HSb.out; intro h; rw [decide_eq_true h] at this; cases this
              have hE2 := HEx.out
              rw [if_neg hdiff] at hE2
              clear hdiff HEx HSb
              by_cases hfu : fullT t = true
              · rw [if_pos hfu] at hE2
                have hv := HV.out
                rw [hE2] at hv
                dsimp only at hv
                rw [if_pos rfl] at hv
                have HOv := Lib.hid hv
                have HE8 := Lib.hid hE2
                have h64i : (64 : Int) ≤ (n1 : Int) := by have := Hft.out.1 hfu; omega
                clear hv hE2 hfu HV HLay
                go_wp2_with fail
                refine (HRv.out _ (by repeat (first | exact Hb10.out | refine ext_drewN ?_ _ | refine ext_drew ?_))).mono ?_
                rintro e w8 ⟨V, cv, rfl, hN⟩
                have HN := Lib.hid hN
                have hX := HB0.out.ext (ext_trans (by repeat (first | exact Hb10.out | refine ext_drewN ?_ _ | refine ext_drew ?_)) hN.bel)
                clear hN
                have k0 := hX.cell 0
                have k1 := hX.cell 1
                have f0 := hX.free 0
                have f1 := hX.free 1
                simp only [List.getElem?_toArray, List.getElem?_cons_zero, List.getElem?_cons_succ] at k0 k1
                have hY := hX.put 0 (.int .i64 0)
                have m0 := (hY.put 1 (.slice V 1 cv)).cell 0
                have m1 := (hY.put 1 (.slice V 1 cv)).cell 1
                have m2 := hY.cell 0
                simp only [List.getElem?_toArray, List.setIfInBounds_toArray, List.set_cons_zero, List.set_cons_succ, List.getElem?_cons_zero, List.getElem?_cons_succ] at m0 m1 m2
                clear hY hX
                go_wp2
                refine bodyPost_ret (v := .agg #[(.int .i64 0), (.slice V 1 cv)]) (by simp [results, Try.results16, go_sem, m0, m1, m2]) rfl ?_
                rw [HOv.out, HE8.out]
                exact rasgd_end (id := 0) (vs := [joinL l]) HSl.out (HOut.out _ (by repeat (first | exact Hb10.out | refine ext_drewN ?_ _ | refine ext_drew ?_))).1 (HOut.out _ (by repeat (first | exact Hb10.out | refine ext_drewN ?_ _ | refine ext_drew ?_))).2 HN.out _ _ 0 rfl
              · rw [if_neg hfu] at hE2
                have hv := HV.out
                rw [hE2] at hv
                dsimp only at hv
                rw [if_neg (Nat.succ_ne_zero _)] at hv
                have HOv := Lib.hid hv
                have HE8 := Lib.hid hE2
                have h64i : ¬ (64 : Int) ≤ (n1 : Int) := fun h => hfu (Hft.out.2 (by omega))
                clear hv hE2 hfu HV
                go_wp2_with fail
                refine (HLay.out _ M cM (by repeat (first | exact Hb10.out | refine ext_drewN ?_ _ | refine ext_drew ?_)) (HM10.out _ (by repeat (first | exact Below.refl _ _ | refine ext_drewN ?_ _ | refine ext_drew ?_))) HMn.out).mono ?_
                rintro e w3 ⟨rfl, ⟨A3, c3, xs3, h3⟩, ho3⟩
                have H3 := Lib.hid h3
                have HOT := Lib.hid ho3
                have y1 := h3.blk.cell 1
                simp only [List.getElem?_toArray, List.getElem?_cons_zero, List.getElem?_cons_succ] at y1
                have y1 : w3.cell? ⟨g, 1, none⟩ = some (.slice (some ⟨gR, oR, none⟩) n2 d) := by rw [Hn2.out]; exact y1
                have HY1 : Hid (∀ W, Below w3.heap.size w3 W → W.cell? ⟨g, 1, none⟩ = some (.slice (some ⟨gR, oR, none⟩) n2 d)) := Lib.hid (fun W hW => cell_only y1 (Only.of_ext (S := fun _ => False) hW) (fun h => h))
                have HGr3 : Hid (RowO w3 3 1 (some ⟨gG, oG, none⟩) gr.length gc (gr.map natV)) := Lib.hid (by rw [Hgr.out]; exact (h3.grp (i := i) hi Hy3.out).2.1)
                have hgg : g ≠ gR := fun e => h3.rows.ne_blk h3.blk (by decide) (by rw [inA_some]; exact e.symm)
                have Hgg := Lib.hid hgg
                have hgs1 : 0 + gr.length ≤ maxLen := by unfold maxLen; omega
                have hgs2 : (0 + gr.length) * 8 ≤ 140737488355328 := by omega
                clear h3 ho3 y1 hgg HLay
                go_wp2_with fail
                refine wp_region_held_drew (S := (fun W => W.cell? ⟨g, 1, none⟩ = some (.slice (some ⟨gR, oR, none⟩) n2 d))) (by kernel_rfl) ?_ (fun hHeld => ?_)
                · exact HY1.out _ (by repeat (first | exact Below.refl _ _ | apply ext_drew | apply ext_drewN | apply ext_alloc))
                refine wpAnyH_take (i := 0) (v := ?_) (take_list rfl) (by kernel_rfl) (by kernel_rfl) (by kernel_rfl) (fun _ _ _ h => h) (Or.inl ⟨by rfl, ?_⟩) (by assumption) ?_
                rotate_left
                · intro w hSw
                  try dsimp only at hSw
                  first | (go_simp; done) | (go_simp; with_reducible rfl)
                try simp only [Act.put, List.setIfInBounds_toArray, List.set_cons_zero, List.set_cons_succ]
                refine wpAnyH_take (i := 1) (v := ?_) (take_list rfl) (by kernel_rfl) (by kernel_rfl) (by kernel_rfl) (fun _ _ _ h => h) (Or.inl ⟨by rfl, ?_⟩) (by assumption) ?_
                rotate_left
                · intro w hSw
                  try dsimp only at hSw
                  first | (go_simp; done) | (go_simp; with_reducible rfl)
                try simp only [Act.put, List.setIfInBounds_toArray, List.set_cons_zero, List.set_cons_succ]
                refine wpAnyH_take (i := 2) (v := ?_) (take_list rfl) (by kernel_rfl) (by kernel_rfl) (by kernel_rfl) (fun _ _ _ h => h) (Or.inl ⟨by rfl, ?_⟩) (by assumption) ?_
                rotate_left
                · intro w hSw
                  try dsimp only at hSw
                  first | (go_simp; done) | (go_simp; with_reducible rfl)
                try simp only [Act.put, List.setIfInBounds_toArray, List.set_cons_zero, List.set_cons_succ]
                refine wpAnyH_take (i := 3) (v := ?_) (take_list rfl) (by kernel_rfl) (by kernel_rfl) (by kernel_rfl) (fun _ _ _ h => h) (Or.inl ⟨by rfl, ?_⟩) (by assumption) ?_
                rotate_left
                · intro w hSw
                  try dsimp only at hSw
                  first | (go_simp; done) | (go_simp; with_reducible rfl)
                try simp only [Act.put, List.setIfInBounds_toArray, List.set_cons_zero, List.set_cons_succ]
                refine wpAnyH_take (i := 4) (v := ?_) (take_list rfl) (by kernel_rfl) (by kernel_rfl) (by kernel_rfl) (fun _ _ _ h => h) (Or.inl ⟨by rfl, ?_⟩) (by assumption) ?_
                rotate_left
                · intro w hSw
                  try dsimp only at hSw
                  first | (go_simp; done) | (go_simp; with_reducible rfl)
                try simp only [Act.put, List.setIfInBounds_toArray, List.set_cons_zero, List.set_cons_succ]
                refine wpAnyH_take (i := 6) (v := ?_) (take_list rfl) (by kernel_rfl) (by kernel_rfl) (by kernel_rfl) (fun _ _ _ h => h) (Or.inl ⟨by rfl, ?_⟩) (by assumption) ?_
                rotate_left
                · intro w hSw
                  try dsimp only at hSw
                  first | (go_simp; done) | (go_simp; with_reducible rfl)
                try simp only [Act.put, List.setIfInBounds_toArray, List.set_cons_zero, List.set_cons_succ]
                refine wpAnyH_ready (rs := [5]) (by kernel_rfl) (by simp) ?_
                refine AllReadyH.cons (take_list rfl) (fun K hK => ?_) ?_
                · skip
                  go_simp
                  refine hK.out _ _ ?_ (fun hHeld => ?_)
                  · try dsimp only
                    exact HY1.out _ (by repeat (first | exact Below.refl _ _ | apply ext_drew | apply ext_drewN | apply ext_alloc))
                  clear hK K
                  refine wpAnyH_ready (rs := [7]) (by kernel_rfl) (by simp) ?_
                  refine AllReadyH.cons (take_list rfl) (fun K hK => ?_) ?_
                  · skip
                    refine step_appO _ rfl (.tmp 181) (.tmp 182) _ rfl 3 _ 1 8 Try.underlying82 info_int15 rfl (some ⟨_, 0, none⟩) 0 0 [] rfl (by first | exact RowO.lit _ 3 1 0 #[] rfl (Nat.zero_le _) (by first | rfl | (simp; done)) | exact RowO.drew (RowO.lit _ 3 1 0 #[] rfl (Nat.zero_le _) (by first | rfl | (simp; done))) | exact RowO.alloc (RowO.lit _ 3 1 0 #[] rfl (Nat.zero_le _) (by first | rfl | (simp; done))) _ | exact RowO.drew (RowO.alloc (RowO.lit _ 3 1 0 #[] rfl (Nat.zero_le _) (by first | rfl | (simp; done))) _)) (some ⟨gG, oG, none⟩) gr.length gc (gr.map natV) rfl (by rw [List.length_map, Nat.mul_one]) (HGr3.out.rd.ext (by repeat (first | exact Below.refl _ _ | exact Hx4.out | apply ext_drew | apply ext_drewN | apply ext_alloc))) (natV_one _) (by intro h; cases h) hgs1 hgs2 ?_
                    intro A4 c4 w4 hr4 ho4 hA4
                    rw [Nat.zero_add, List.nil_append] at hr4
                    obtain ⟨hx4, hn4⟩ := grow_fresh15 (w0 := w3) (by repeat (first | exact Below.refl _ _ | exact Hx4.out | apply ext_drew | apply ext_drewN | apply ext_alloc)) ho4 hA4 (fun q hq => by rw [inA_some] at hq; subst hq; first | exact Nat.le_refl _ | (simp; done))
                    have Hx4 := Lib.hid hx4
                    have Hn4 := Lib.hid hn4
                    have Hr4 := Lib.hid hr4
                    obtain ⟨gN, oN, rfl⟩ := hr4.addr (by omega)
                    obtain ⟨vs3, q3, f3⟩ := H3.out.slot hi hx4
                    obtain ⟨r1, r2, r3⟩ := H3.out.regrouped hi hx4 (gs := gr) rfl hr4 hn4
                    have hHn : w3.heap.size ≤ gN := hn4 gN (by rw [inA_some])
                    have HHn := Lib.hid hHn
                    have s1 := cell_only (HY1.out _ hx4) ((Only.refl (fun k => k = gR) w4).setCell (p := ⟨gR, oR + i * 4 + 3, none⟩) (.inl rfl) (.slice (some ⟨gN, oN, none⟩) gr.length c4)) Hgg.out
                    have hyl : ys.length = t.lv.length * 4 := H3.out.rows.1
                    obtain ⟨ad, ea, s2⟩ := r1.rd (i * 4 + 3) (.slice (some ⟨gN, oN, none⟩) gr.length c4) (by rw [List.getElem?_set_self (by omega)])
                    injection ea with ea
                    subst ea
                    rw [Addr.add_mid, ← Nat.add_assoc] at s2
                    obtain ⟨ad, ea, s3⟩ := r2.rd q (natV (gr.getD q 0)) (by rw [List.getElem?_map, List.getElem?_eq_getElem Hql.out, List.getD_eq_getElem?_getD, List.getElem?_eq_getElem Hql.out]; rfl)
                    injection ea with ea
                    subst ea
                    rw [Addr.add_mid] at s3
                    have f4 := r2.free (oN + q)
                    have HR1 := Lib.hid r1
                    have HR2 := Lib.hid r2
                    have HR3 := Lib.hid r3
                    have Hs1 := Lib.hid s1
                    clear hr4 ho4 hA4 hx4 hn4 r1 r2 r3 hHn hyl
                    refine hK.out _ _ ?_ (fun hHeld => ?_)
                    · try dsimp only
                      exact HY1.out _ Hx4.out
                    clear hK K
                    refine wpAnyH_take (i := 8) (v := ?_) (take_list rfl) (by kernel_rfl) (by kernel_rfl) (by kernel_rfl) (fun _ _ _ h => h) (Or.inl ⟨by rfl, ?_⟩) (by assumption) ?_
                    rotate_left
                    · intro w hSw
                      try dsimp only at hSw
                      first | (go_simp; done) | (go_simp; with_reducible rfl)
                    try simp only [Act.put, List.setIfInBounds_toArray, List.set_cons_zero, List.set_cons_succ]
                    refine wpAnyH_take (i := 9) (v := ?_) (take_list rfl) (by kernel_rfl) (by kernel_rfl) (by kernel_rfl) (fun _ _ _ h => h) (Or.inl ⟨by rfl, ?_⟩) (by assumption) ?_
                    rotate_left
                    · intro w hSw
                      try dsimp only at hSw
                      first | (go_simp; done) | (go_simp; with_reducible rfl)
                    try simp only [Act.put, List.setIfInBounds_toArray, List.set_cons_zero, List.set_cons_succ]
                    refine wpAnyH_ready (rs := [10]) (by kernel_rfl) (by simp) ?_
                    refine AllReadyH.cons (take_list rfl) (fun K hK => ?_) ?_
                    · skip
                      go_simp
                      refine hK.out _ _ ?_ (fun hHeld => ?_)
                      · try dsimp only
                        exact Hs1.out
                      clear hK K
                      refine wpAnyH_done (by kernel_rfl) ?_ _
                      obtain ⟨hT6, hO6⟩ := H3.out.reput (id := n1) hi HR1.out HR2.out HR3.out Hql.out HHn.out
                      obtain ⟨hT7, hO7⟩ := some_wide Hw0.out HSl0.out HOT.out (U := grewS S w0 w3) (fun k hk => by rcases hk with hk | hk; exact .inl hk; exact .inr hk.1) (fun k hk => .inl hk) hO6 hT6
                      have HT8 : Hid (RTIn (grewS S (w.alloc (.cells #[.int .i64 0, .slice none 0 0] 31)) ((w4.setCell ⟨gR, oR + i * 4 + 3, none⟩ (.slice (some ⟨gN, oN, none⟩) gr.length c4)).setCell ⟨gN, oN + q, none⟩ (.int .i64 (n1 : Int)))) ((w4.setCell ⟨gR, oR + i * 4 + 3, none⟩ (.slice (some ⟨gN, oN, none⟩) gr.length c4)).setCell ⟨gN, oN + q, none⟩ (.int .i64 (n1 : Int))) g (addT t MG (t.lv.set i ⟨t.lv[i].count, t.lv[i].a, t.lv[i].b, gr.set q n1⟩))) := Lib.hid ⟨_, _, _, _, _, _, hT7⟩
                      have HO8 : Hid (Only S (w.alloc (.cells #[.int .i64 0, .slice none 0 0] 31)) ((w4.setCell ⟨gR, oR + i * 4 + 3, none⟩ (.slice (some ⟨gN, oN, none⟩) gr.length c4)).setCell ⟨gN, oN + q, none⟩ (.int .i64 (n1 : Int)))) := Lib.hid hO7
                      clear hT6 hO6 hT7 hO7
                      have htm : tmpl (addT t MG (t.lv.set i ⟨t.lv[i].count, t.lv[i].a, t.lv[i].b, gr.set q n1⟩)) n1 = MG := by rw [Hn1.out]; exact tmpl_new _ _ _
                      have HTo := Lib.hid (told_any HT8.out B e2 l ⟨HT.out.rd.only (Hw0.out ▸ HO8.out) HBS.out, HT.out.flat⟩ (by have := Hm.out; omega) (id := n1) (by rw [Hn1.out]; unfold addT; simp) (by have := Hn1.out; unfold addT; simp; omega) (by rw [htm]; have := Hml.out; omega))
                      rw [htm] at HTo
                      have HB8 := Lib.hid (HB0.out.only (Hw0.out ▸ HO8.out) (fun hx => absurd (HSl.out _ hx) (Nat.lt_irrefl _)))
                      have HOv2 : Hid (varsT t l = varsL MG l) := Lib.hid (by rw [HOv.out, ← Hn1.out]; exact congrArg (fun p => varsL p l) htm)
                      clear htm q3 f3
                      go_wp2_with fail
                      refine HTo.out.mono ?_
                      rintro e w8 ⟨V, cv, rfl, hN⟩
                      have HN := Lib.hid hN
                      have hX := HB8.out.ext hN.bel
                      clear hN s1 s2 s3 f4
                      have k0 := hX.cell 0
                      have k1 := hX.cell 1
                      have f0 := hX.free 0
                      have f1 := hX.free 1
                      simp only [List.getElem?_toArray, List.getElem?_cons_zero, List.getElem?_cons_succ] at k0 k1
                      have hY := hX.put 0 (.int .i64 (n1 : Int))
                      have m0 := (hY.put 1 (.slice V (varsL MG l).length cv)).cell 0
                      have m1 := (hY.put 1 (.slice V (varsL MG l).length cv)).cell 1
                      have m2 := hY.cell 0
                      simp only [List.getElem?_toArray, List.setIfInBounds_toArray, List.set_cons_zero, List.set_cons_succ, List.getElem?_cons_zero, List.getElem?_cons_succ] at m0 m1 m2
                      clear hY hX
                      go_wp2
                      refine bodyPost_ret (v := .agg #[(.int .i64 (n1 : Int)), (.slice V (varsL MG l).length cv)]) (by simp [results, Try.results16, go_sem, m0, m1, m2]) rfl ?_
                      rw [HOv2.out, HE8.out, ← Hn1.out]
                      exact rasgd_end (id := n1) HSl.out HT8.out HO8.out HN.out _ _ _ rfl
                    exact AllReadyH.nil
                  exact AllReadyH.nil
                exact AllReadyH.nil
end
end Go.Proofs.Ytdghbdiapkelnaa
