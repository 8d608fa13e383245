/-
  Texts of this claim, joined (part 13): contracts and lemmas that the last text goes by. No statement of the seat is proved here.
-/
import Derived.Test.YtdghbdiapkelnaaAll12
set_option linter.unusedVariables false
set_option linter.unusedSimpArgs false
/-
  The reference's Assign where nothing is laid, and where a leaf is new. No statement of the seat is proved here.
-/
namespace Go.Proofs.Ytdghbdiapkelnaa
open Go Go.RowKit
set_option maxRecDepth 100000

theorem info_rleaf : (Try.prog.info? 84).map (fun i => (i.zero, i.size, i.bytes)) = some (some (.agg #[.int .i64 0, .string ⟨#[]⟩, .string ⟨#[]⟩, .slice none 0 0]), 4, 64) := by kernel_rfl
/-- what the reference's Assign leaves -/
def RAsgd (S : Nat → Prop) (w : World) (g : Nat) (t : Tr) (id : Nat) (vs : List (List UInt8)) (e : Ending) (w' : World) : Prop := ∃ (T : Nat → Prop) (V : Option Addr) (cv : Nat), e = .returned (.agg #[.int .i64 (id : Int), .slice V vs.length cv]) ∧ RTIn T w' g t ∧ (∀ k, T k → S k ∨ w.heap.size ≤ k) ∧ RowO w' 9 1 V vs.length cv (vs.map strV) ∧ (∀ k, inA V k → w.heap.size ≤ k ∧ ¬ T k) ∧ Only S w w'
section
variable {S T : Nat → Prop} {w w2 w3 W : World} {g : Nat} {t : Tr} {A R A' : Option Addr} {c d c' : Nat} {xs ys : List Value}
theorem rasgd_end {w2 w4 : World} {id : Nat} {vs : List (List UInt8)} {V : Option Addr} {cv : Nat} {cs : Array Value} (hSl : ∀ k, S k → k < w.heap.size) (hT2 : RTIn (grewS S (w.alloc (.cells cs 31)) w2) w2 g t) (hO2 : Only S (w.alloc (.cells cs 31)) w2)
    (hN : NewO w2 w4 9 1 V vs.length cv (vs.map strV)) (u v : Value) (x : Int) (hx : x = (id : Int)) :
    RAsgd S w g t id vs (.returned (.agg #[.int .i64 x, .slice V vs.length cv])) ((w4.setCell ⟨w.heap.size, 0, none⟩ u).setCell ⟨w.heap.size, 1, none⟩ v) := by
  have hz : (w.alloc (.cells cs 31)).heap.size = w.heap.size + 1 := World.size_alloc _ _
  have h2 := hO2.size
  rw [hz] at h2
  have hz4 := hN.bel.size
  have hTn : ¬ grewS S (w.alloc (.cells cs 31)) w2 w.heap.size := by
    rintro (h | ⟨h, _⟩)
    · exact absurd (hSl _ h) (Nat.lt_irrefl _)
    · rw [hz] at h; omega
  have hc : Only (fun k => k = w.heap.size) w4 ((w4.setCell ⟨w.heap.size, 0, none⟩ u).setCell ⟨w.heap.size, 1, none⟩ v) := ((Only.of_ext (S := fun k => k = w.heap.size) (Below.refl _ _)).setCell (.inl rfl) _).setCell (.inl rfl) _
  refine ⟨grewS S (w.alloc (.cells cs 31)) w2, V, cv, by rw [hx], (hT2.ext hN.bel).only hc (fun k hk e => hTn (e ▸ hk)), fun k hk => ?_, hN.row.only hc (fun k hk e => ?_), fun k hk => ⟨?_, fun hT => ?_⟩, ?_⟩
  · rcases hk with hk | ⟨hk, _⟩
    · exact .inl hk
    · rw [hz] at hk; exact .inr (by omega)
  · have := hN.2.2 k hk; omega
  · have := hN.2.2 k hk; omega
  · have hk2 := hN.2.2 k hk
    rcases hT with hT | ⟨_, hT⟩
    · have := hSl _ hT; omega
    · omega
  · have h1 : Only S w (w.alloc (.cells cs 31)) := Only.of_ext (ext_alloc (Below.refl _ _) _)
    have h3 : Only S w w4 := (h1.trans hO2 (fun _ _ h => h)).trans (Only.of_ext (S := S) hN.bel) (fun _ _ h => h)
    exact (h3.setCell (.inr (Nat.le_refl _)) _).setCell (.inr (Nat.le_refl _)) _
/-- a leaf more, of one group -/
theorem RTAt.grown (h : RTAt S w g t A c xs R d ys) {cnt id gG : Nat} {ka kb : List UInt8} {w5 : World} {A5 : Option Addr} {c5 : Nat} (hb : Below w.heap.size w W) (hG : RowO W 3 1 (some ⟨gG, 0, none⟩) 1 1 [natV id]) (hg : w.heap.size ≤ gG)
    (hr : RowO w5 84 4 A5 (t.lv.length + 1) c5 (ys ++ [natV cnt, strV ka, strV kb, .slice (some ⟨gG, 0, none⟩) 1 1])) (ho : Only (inA R) W w5) (hA : ∀ k, inA A5 k → inA R k ∨ (W.heap.size ≤ k ∧ k < w5.heap.size)) :
    RTAt (grewS S w (w5.setCell ⟨g, 1, none⟩ (.slice A5 (t.lv.length + 1) c5))) (w5.setCell ⟨g, 1, none⟩ (.slice A5 (t.lv.length + 1) c5)) g ⟨t.ts, t.lv ++ [⟨cnt, ka, kb, [id]⟩]⟩ A c xs A5 c5 (ys ++ [natV cnt, strV ka, strV kb, .slice (some ⟨gG, 0, none⟩) 1 1]) ∧ Only S w (w5.setCell ⟨g, 1, none⟩ (.slice A5 (t.lv.length + 1) c5)) ∧ Blk w5 g 75 #[.slice A (t.ts.length + 1) c, .slice R t.lv.length d] := by
  have hgR : ¬ inA R g := h.rows.ne_blk h.blk (by decide)
  have hblk5 : Blk w5 g 75 #[.slice A (t.ts.length + 1) c, .slice R t.lv.length d] := (h.blk.ext hb).only ho hgR
  have hsz : (w5.setCell ⟨g, 1, none⟩ (.slice A5 (t.lv.length + 1) c5)).heap.size = w5.heap.size := by simp [World.setCell]
  have hO5 : Only (fun k => inA R k ∨ k = g) w w5 := (Only.of_ext (S := fun k => inA R k ∨ k = g) hb).trans ho (fun _ _ h => .inl h)
  have hO : Only (fun k => inA R k ∨ k = g) w (w5.setCell ⟨g, 1, none⟩ (.slice A5 (t.lv.length + 1) c5)) := hO5.setCell (.inl (.inr rfl)) _
  have hOS : Only S w (w5.setCell ⟨g, 1, none⟩ (.slice A5 (t.lv.length + 1) c5)) := hO.mono (fun k _ hk => by
    rcases hk with hk | rfl
    · exact h.sR k hk
    · exact h.sg)
  have s1 := hb.size
  have s2 := ho.size
  have hyl : ys.length = t.lv.length * 4 := h.rows.1
  refine ⟨⟨?_, ?_, ?_, fun j hj => ?_, fun j hj => ?_, .inl h.sg, fun k hk => .inl (h.sA k hk), fun k hk => ?_, fun k hk => ?_⟩, hOS, hblk5⟩
  · have := hblk5.put 1 (.slice A5 (t.lv.length + 1) c5)
    simp only [List.setIfInBounds_toArray, List.set_cons_zero, List.set_cons_succ] at this
    simpa using this
  · exact h.own.only hO (fun k hk hx => hx.elim (fun hx => h.own.ne_rowT h.rows (by decide) k hk hx) (fun hx => h.own.ne_blk h.blk (by decide) (by rw [← hx]; exact hk)))
  · have : RowO (w5.setCell ⟨g, 1, none⟩ (.slice A5 (t.lv.length + 1) c5)) 84 4 A5 (t.lv.length + 1) c5 (ys ++ [natV cnt, strV ka, strV kb, .slice (some ⟨gG, 0, none⟩) 1 1]) := hr.keep fun k hk => Below.heap_setCell w5 _ _ k (fun e => hr.ne_blk hblk5 (by decide) (by rw [← show k = g from e]; exact hk))
    simpa using this
  · obtain ⟨B', e', h1, h2, h3⟩ := h.tsAt j hj
    exact ⟨B', e', h1, h2.only hO (fun k hk hx => hx.elim (fun hx => h2.ne_rowT h.rows (by decide) k hk hx) (fun hx => h2.ne_blk h.blk (by decide) (by rw [← hx]; exact hk))), fun k hk => .inl (h3 k hk)⟩
  · by_cases hjm : j < t.lv.length
    · obtain ⟨G, e', h1, h2, h3, h4, h5, h6⟩ := h.lvAt j hjm
      simp only [List.getElem_append_left hjm]
      exact ⟨G, e', by rw [List.getElem?_append_left (by omega)]; exact h1, by rw [List.getElem?_append_left (by omega)]; exact h2, by rw [List.getElem?_append_left (by omega)]; exact h3, by rw [List.getElem?_append_left (by omega)]; exact h4,
        h5.only hO (fun k hk hx => hx.elim (fun hx => h5.ne_rowT h.rows (by decide) k hk hx) (fun hx => h5.ne_blk h.blk (by decide) (by rw [← hx]; exact hk))), fun k hk => .inl (h6 k hk)⟩
    · have hj2 : j = t.lv.length := by simp at hj; omega
      subst hj2
      simp only [List.getElem_append_right (Nat.le_refl _), Nat.sub_self, List.getElem_cons_zero]
      have hGne : gG < W.heap.size := hG.lt ((inA_some _ _ _ _).2 rfl)
      refine ⟨some ⟨gG, 0, none⟩, 1, by rw [List.getElem?_append_right (by omega), hyl]; simp, by rw [List.getElem?_append_right (by omega), hyl]; simp, by rw [List.getElem?_append_right (by omega), hyl]; simp, by rw [List.getElem?_append_right (by omega), hyl]; simp, ?_, fun k hk => .inr ?_⟩
      · have hg5 : RowO w5 3 1 (some ⟨gG, 0, none⟩) 1 1 [natV id] := hG.only ho (fun k hk hk2 => by
          rw [inA_some] at hk
          have := h.rows.lt hk2
          omega)
        exact hg5.keep fun k hk => Below.heap_setCell w5 _ _ k (fun e => hg5.ne_blk hblk5 (by decide) (by rw [← show k = g from e]; exact hk))
      · rw [inA_some] at hk
        rw [hsz]; omega
  · rcases hA k hk with hk | hk
    · exact .inl (h.sR k hk)
    · exact .inr (by rw [hsz]; omega)
  · rcases hk with hk | hk
    · have := h.lt k hk; rw [hsz]; omega
    · exact hk.2

set_option maxHeartbeats 1000000 in
theorem rassign_over (h : RTIn S w g t) (B : Option Addr) (e2 : Nat) (l : List Tok) (hT : ToksAt w B l) (hm : l.length ≤ 6000) (hj : sumT l l.length ≤ 140737488355328) (ho : overB l = true) :
    Calls Try.prog 16 #[.pointer (some ⟨g, 0, none⟩), .slice B l.length e2] w (RAsgd S w g t 0 [joinL l]) := by
  obtain ⟨w0, hw0⟩ : ∃ w0, w0 = w.alloc (.cells #[.int .i64 0, .slice none 0 0] 31) := ⟨_, rfl⟩
  have hb0 : Below w.heap.size w w0 := by rw [hw0]; exact ext_alloc (Below.refl _ _) _
  have HSl : Hid (∀ k, S k → k < w.heap.size) := Lib.hid h.lt
  have HB0 : Hid (Blk w0 w.heap.size 31 #[.int .i64 0, .slice none 0 0]) := Lib.hid (by rw [hw0]; exact Blk.new _ _ _)
  have HR0 := Lib.hid (rover_any B e2 l w0 (hT.ext hb0) (by omega) hj)
  have HT0 : Hid (RTIn (grewS S (w.alloc (.cells #[.int .i64 0, .slice none 0 0] 31)) w0) w0 g t) := Lib.hid (by
    obtain ⟨A, c, xs, R, d, ys, h⟩ := h
    refine ⟨A, c, xs, R, d, ys, (h.ext hb0).wider (fun k hk => .inl hk) (fun k hk => ?_)⟩
    rcases hk with hk | hk
    · have := h.lt k hk; have := hb0.size; omega
    · exact hk.2)
  have HO0 : Hid (Only S (w.alloc (.cells #[.int .i64 0, .slice none 0 0] 31)) w0) := Lib.hid (by rw [hw0]; exact Only.refl _ _)
  have hli : (l.length : Int) ≤ 6000 := by omega
  have Hw0 := Lib.hid hw0
  unfold overB at ho
  rw [decide_eq_true_eq] at ho
  clear h hT hb0 hw0 hj
  rcases ho with ho | ho
  · have hi : (l.length : Int) = 0 := by omega
    have hb : ((l.length : Int) == 0) = true := by rw [hi]; rfl
    clear ho
    go_enter Try.func16, Try.ntmps16
    go_wp2_with fail
    rw [← Hw0.out]
    refine HR0.out.mono ?_
    rintro e w8 ⟨V, cv, rfl, hN⟩
    have HN := Lib.hid hN
    have hX := HB0.out.ext hN.bel
    clear hN
    have k0 := hX.cell 0
    have k1 := hX.cell 1
    have f0 := hX.free 0
    have f1 := hX.free 1
    simp only [List.getElem?_toArray, List.getElem?_cons_zero, List.getElem?_cons_succ] at k0 k1
    have hY := hX.put 0 (.int .i64 0)
    have m0 := (hY.put 1 (.slice V 1 cv)).cell 0
    have m1 := (hY.put 1 (.slice V 1 cv)).cell 1
    have m2 := hY.cell 0
    simp only [List.getElem?_toArray, List.setIfInBounds_toArray, List.set_cons_zero, List.set_cons_succ, List.getElem?_cons_zero, List.getElem?_cons_succ] at m0 m1 m2
    clear hY hX
    go_wp2
    refine bodyPost_ret (v := .agg #[(.int .i64 0), (.slice V 1 cv)]) (by simp [results, Try.results16, go_sem, m0, m1, m2]) rfl ?_
    exact rasgd_end (id := 0) (vs := [joinL l]) HSl.out HT0.out HO0.out HN.out _ _ 0 rfl
  · have hi : ¬ (l.length : Int) = 0 := by omega
    have hb : ((l.length : Int) == 0) = false := beq_eq_false_iff_ne.2 hi
    have hg : (64 : Int) < (l.length : Int) := by omega
    clear ho
    go_enter Try.func16, Try.ntmps16
    go_wp2_with fail
    rw [← Hw0.out]
    refine HR0.out.mono ?_
    rintro e w8 ⟨V, cv, rfl, hN⟩
    have HN := Lib.hid hN
    have hX := HB0.out.ext hN.bel
    clear hN
    have k0 := hX.cell 0
    have k1 := hX.cell 1
    have f0 := hX.free 0
    have f1 := hX.free 1
    simp only [List.getElem?_toArray, List.getElem?_cons_zero, List.getElem?_cons_succ] at k0 k1
    have hY := hX.put 0 (.int .i64 0)
    have m0 := (hY.put 1 (.slice V 1 cv)).cell 0
    have m1 := (hY.put 1 (.slice V 1 cv)).cell 1
    have m2 := hY.cell 0
    simp only [List.getElem?_toArray, List.setIfInBounds_toArray, List.set_cons_zero, List.set_cons_succ, List.getElem?_cons_zero, List.getElem?_cons_succ] at m0 m1 m2
    clear hY hX
    go_wp2
    refine bodyPost_ret (v := .agg #[(.int .i64 0), (.slice V 1 cv)]) (by simp [results, Try.results16, go_sem, m0, m1, m2]) rfl ?_
    exact rasgd_end (id := 0) (vs := [joinL l]) HSl.out HT0.out HO0.out HN.out _ _ 0 rfl
end
end Go.Proofs.Ytdghbdiapkelnaa
