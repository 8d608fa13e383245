/-
  Texts of this claim, joined (part 18): contracts and lemmas that the last text goes by. No statement of the seat is proved here.
-/
import Derived.Test.YtdghbdiapkelnaaAll17
import Derived.Test.YtdghbdiapkelnaaAll12
import Derived.Test.YtdghbdiapkelnaaAll7
import Derived.Deep.RegionHeld3
set_option linter.unusedVariables false
set_option linter.unusedSimpArgs false
/-
  Encode (reference). No statement of the seat is proved here.
-/
namespace Go.Proofs.Ytdghbdiapkelnaa
open Go Go.RowKit
set_option maxRecDepth 100000

/-- bytes in a row of the call's own, which was made since 'w0' -/
structure OB (w0 w : World) (A : Option Addr) (c : Nat) (ds : List UInt8) : Prop where
  own : Own w (inA A) 5 A c (ds.map bv)
  bel : Below w0.heap.size w0 w
  new : ∀ k, inA A k → w0.heap.size ≤ k
section
variable {w0 w w1 w2 : World} {A A' : Option Addr} {c c' : Nat} {ds bs : List UInt8}
theorem Own.tight {fp : Nat → Prop} {e : TypeId} {xs : List Value} (h : Own w fp e A c xs) : Own w (inA A) e A c xs := ⟨h.1, fun ad e => ⟨ad, e, rfl⟩⟩
theorem OB.ext (h : OB w0 w A c ds) (hb : Below w.heap.size w w1) : OB w0 w1 A c ds := ⟨Own.ext h.own hb, ext_trans h.bel hb, h.new⟩
theorem OB.rd (h : OB w0 w A c ds) : Rd w A (ds.map bv) := Own.rd h.own
theorem OB.of (h : New w0 w A c ds) (hb : Below w0.heap.size w0 w) : OB w0 w A c ds := ⟨Own.tight h, hb, fun k hk => by
  obtain ⟨ad, e, rfl⟩ := hk
  exact (h.2 ad e).1⟩
theorem OB.to (h : OB w0 w A c ds) (hl : ∀ k, inA A k → k < w.heap.size) : New w0 w A c ds := ⟨h.own.1, fun ad e => ⟨h.new _ ⟨ad, e, rfl⟩, hl _ ⟨ad, e, rfl⟩⟩⟩
/-- behind an append -/
theorem OB.app (h : OB w0 w A c ds) (hb : Below w.heap.size w w1) (hown : Own w2 (More (inA A) w1 w2) 5 A' c' (ds.map bv ++ bs.map bv)) (ho : Only (inA A) w1 w2) : OB w0 w2 A' c' (ds ++ bs) ∧ ∀ k, k < w1.heap.size → ¬ inA A k → ¬ inA A' k := by
  have hs := (ext_trans h.bel hb).size
  refine ⟨⟨by rw [List.map_append]; exact Own.tight hown, (ext_trans h.bel hb).trans (ho.below h.new hs), fun k hk => ?_⟩, fun k hk hn hk2 => ?_⟩
  · obtain ⟨ad, e, rfl⟩ := hk
    rcases hown.2 ad e with h1 | h1
    · exact h.new _ h1
    · have := h1.1; omega
  · obtain ⟨ad, e, rfl⟩ := hk2
    rcases hown.2 ad e with h1 | h1
    · exact hn h1
    · have := h1.1; omega
end
theorem own_lt {w : World} {fp : Nat → Prop} {e : TypeId} {A : Option Addr} {c : Nat} {xs : List Value} (h : Own w fp e A c xs) {ad : Addr} (ha : A = some ad) : ad.block < w.heap.size := by
  rcases h.some_ with ⟨h1, _⟩ | ⟨g, h1, _, h2⟩
  · rw [h1] at ha; cases ha
  · rw [h1] at ha; injection ha with ha; subst ha; exact h2
theorem step_app15 {P : Program} {w : World} {fp : Nat → Prop} {ops : Array Oper} {o : Oper} {a : Act} {K : Act → World → Prop} {Q : Exit → Act → World → Prop} {E : Prop} (hgd : o.guard = none) (s x : Operand) (t : TypeId)
    (ho : o.op = .call { callee := .builtin .append, args := #[s, x], argTypes := #[t, t] })
    (e : TypeId) (z : Value) (bytes : Nat) (ht : P.underlying t = some (.slice e)) (hi : (P.info? e).map (fun i => (i.zero, i.size, i.bytes)) = some (some z, 1, bytes)) (hzs : z.cells.size = 1)
    (A : Option Addr) (n c : Nat) (xs : List Value) (hs : a.eval s = .slice A n c) (hn : n = xs.length) (hown : Own w fp e A c xs)
    (A2 : Option Addr) (m c2 : Nat) (news : List Value) (hx : a.eval x = .slice A2 m c2) (hm : m = news.length) (hr : Rd w A2 news) (h1 : ∀ u ∈ news, u.oneCell' = true)
    (h63 : n + m ≤ maxLen) (hbytes : (n + m) * bytes ≤ 140737488355328)
    (h : ∀ A' c' w', Own w' (More fp w w') e A' c' (xs ++ news) → Only fp w w' → K (a.put o.dst (.slice A' (n + m) c')) w') :
    if Region.wanted o (yielded ops a.tmps) = true then Oper.wp P o a w K Q else E := by
  have hw : Region.wanted o (yielded ops a.tmps) = true := by simp [Region.wanted, hgd]
  rw [if_pos hw]
  exact wp_app w s x t ho e z bytes ht hi hzs A n c xs hs hn hown A2 m c2 news hx hm hr h1 h63 hbytes h
section
variable {S : Nat → Prop} {w : World} {g : Nat} {t : Tr}
set_option maxHeartbeats 16000000 in
theorem rencode_any (h : RTIn S w g t) (hG : Good t) (hS : Sml t) :
    Calls Try.prog 43 #[.pointer (some ⟨g, 0, none⟩)] w fun e w' => ∃ A' c', e = .returned (.slice A' (treeB t).length c') ∧ Rd w' A' ((treeB t).map bv) ∧ Below w.heap.size w w' := by
  obtain ⟨A, c, xs, R, d, ys, h⟩ := h
  have H := Lib.hid h
  have HL1 := Lib.hid (tsTo_len hG hS)
  have HL2 := Lib.hid (lvTo_len hG hS)
  have HS := Lib.hid hS
  have HG := Lib.hid hG
  have hti : (t.ts.length : Int) ≤ 63 := by have := hG.ids; omega
  have hli : (t.lv.length : Int) ≤ 32 := by have := hG.lvs; omega
  obtain ⟨n1, hn1⟩ : ∃ n1, n1 = t.ts.length + 1 := ⟨_, rfl⟩
  have Hn1 := Lib.hid hn1
  have hn1i : (n1 : Int) ≤ 64 := by omega
  have HCs : Hid (∀ W, Below w.heap.size w W → W.cell? ⟨g, 0, none⟩ = some (.slice A n1 c) ∧ W.cell? ⟨g, 1, none⟩ = some (.slice R t.lv.length d)) := Lib.hid (fun W hW => by
    have hx := (H.out.ext hW).blk
    have x0 := hx.cell 0
    have x1 := hx.cell 1
    simp only [List.getElem?_toArray, List.getElem?_cons_zero, List.getElem?_cons_succ] at x0 x1
    rw [Hn1.out]
    exact ⟨x0, x1⟩)
  have HNum : Hid (∀ (n : Nat) (W : World), n ≤ 1000000 → Calls Try.prog 72 #[.int .i64 (n : Int)] W fun e w' => ∃ A' c', e = .returned (.slice A' (dig n).length c') ∧ Hid (Rd w' A' ((dig n).map bv)) ∧ Hid (OB W w' A' c' (dig n)) ∧ Hid (Below W.heap.size W w')) := Lib.hid (fun n W hn => by
    have hx := refnum_any (n : Int) W ⟨by omega, by omega⟩
    rw [clampN n (by omega)] at hx
    refine hx.mono ?_
    rintro e w' ⟨A', c', rfl, h1, h2⟩
    exact ⟨A', c', rfl, Lib.hid h1.rd, Lib.hid (OB.of h1 h2), Lib.hid h2⟩)
  have HByt : Hid (∀ (s : List UInt8) (B : Option Addr) (cB : Nat) (W : World), s.length ≤ 6000 → Rd W B (s.map bv) → Calls Try.prog 73 #[.slice B s.length cB] W fun e w' => ∃ A' c', e = .returned (.slice A' (dig s.length ++ s).length c') ∧ Hid (Rd w' A' ((dig s.length ++ s).map bv)) ∧ Hid (Below W.heap.size W w')) := Lib.hid (fun s B cB W hs hr => by
    refine (refbytes_any B s.length cB s _ W rfl rfl hr (by omega)).mono ?_
    rintro e w' ⟨A', c', rfl, h1, h2⟩
    exact ⟨A', c', rfl, Lib.hid h1.rd, Lib.hid h2⟩)
  have H0 : Hid (dig n1 = tsTo t 0) := Lib.hid (by rw [hn1]; simp [tsTo])
  have HN0 := Lib.hid (HNum.out n1 w (by omega))
  obtain ⟨y0, -⟩ := HCs.out w (Below.refl _ _)
  clear h hG hS hn1
  go_enter Try.func43, Try.ntmps43
  go_wp2_with fail
  refine HN0.out.mono ?_
  rintro e w1 ⟨A1, c1, rfl, -, hob1, -⟩
  rw [H0.out] at hob1 ⊢
  clear HN0 y0
  go_wp2
  go_loopw [3, 4] (fun s i wr => ∃ (k cb : Nat) (Ab : Option Addr) (ds : List UInt8), k ≤ t.ts.length ∧ i = .int .i64 ((k + 1 : Nat) : Int) ∧ s = .slice Ab ds.length cb ∧ Hid (ds = tsTo t k) ∧ Hid (OB w wr Ab cb ds)) (fun _ i _ => t.ts.length + 1 - (intOf i).toNat)
  case atStart => exact ⟨0, c1, A1, tsTo t 0, Nat.zero_le _, rfl, rfl, Lib.hid rfl, hob1⟩
  case round =>
    obtain ⟨k, cb, Ab, ds, hk, rfl, rfl, Hds, HO⟩ := hrel
    have Hdl : Hid (ds.length ≤ 30000000) := Lib.hid (by rw [Hds.out]; exact HL1.out k)
    obtain ⟨y0, y1⟩ := HCs.out wr HO.out.bel
    by_cases hlt : k < t.ts.length
    · have hki : ((k + 1 : Nat) : Int) < (n1 : Int) := by have := Hn1.out; omega
      have hk0 : (0 : Int) ≤ ((k + 1 : Nat) : Int) := by omega
      obtain ⟨gA, oA, P, e, rfl, c0, hP, -⟩ := H.out.tmp (j := k + 1) (by omega)
      have htm : tmpl t (k + 1) = t.ts[k] := by
        unfold tmpl
        rw [if_neg (Nat.succ_ne_zero k), Nat.add_sub_cancel, List.getD_eq_getElem?_getD, List.getElem?_eq_getElem hlt]
        rfl
      rw [htm] at c0 hP
      have hpl := (HG.out.long _ (List.getElem_mem hlt)).2
      have HTx : Hid (∀ q ∈ t.ts[k], q.text.length ≤ 6000) := Lib.hid (HS.out.tx _ (List.getElem_mem hlt))
      have HSn := Lib.hid (tsTo_succ hlt)
      have HPl := Lib.hid (prtTo_len HTx.out hpl)
      have HPp : Hid (∀ W, Below w.heap.size w W → PartsAt W P t.ts[k]) := Lib.hid (fun W hW => (parts_row hP).ext hW)
      have HCc : Hid (∀ W, Below w.heap.size w W → W.cell? ⟨gA, oA + (k + 1), none⟩ = some (.slice P t.ts[k].length e)) := Lib.hid (fun W hW => cell_only c0 (Only.of_ext (S := fun _ => False) hW) (fun h => h))
      clear c0 hP htm
      generalize t.ts[k] = p at *
      have hpi : (p.length : Int) ≤ 64 := by omega
      have HE0 : Hid (prtTo p 0 = dig p.length) := Lib.hid (by simp [prtTo])
      have HEa : Hid (prtTo p p.length = tmpB p) := Lib.hid (prtTo_all p)
      have d0 := HCc.out wr HO.out.bel
      have HN1 := Lib.hid (HNum.out p.length wr (by omega))
      obtain ⟨ki, hki2⟩ : ∃ ki, ki = k + 1 := ⟨_, rfl⟩
      rw [← hki2] at hki hk0 d0 HCc ⊢
      have Hki := Lib.hid hki2
      have hkii : (ki : Int) ≤ 64 := by omega
      have hdp := Hdl.out
      have Hd9 := Lib.hid (dig9 p.length (by omega))
      have hq1 : ds.length + (dig p.length).length ≤ maxLen := by unfold maxLen; have := Hd9.out; omega
      have hq2 : (ds.length + (dig p.length).length) * 1 ≤ 140737488355328 := by have := Hd9.out; omega
      clear hki2 y1 hdp hpl
      go_wp2_with fail
      refine HN1.out.mono ?_
      rintro e4 w4 ⟨A4, c4, rfl, hr4, -, hb4⟩
      clear HN1 y0 d0
      go_wp2_with (at_builtin
                   refine wpList_app _ rfl (.tmp 24) (.tmp 33) _ rfl _ _ 1 Try.underlying48 info_u8 rfl Ab ds.length cb (ds.map bv) rfl (by rw [List.length_map]) (HO.out.ext hb4.out).own A4 (dig p.length).length c4 ((dig p.length).map bv) rfl (by rw [List.length_map]) hr4.out (bvs_one _) hq1 hq2 ?_
                   intro A5 c5 w5 hown5 honly5
                   obtain ⟨hob5, -⟩ := HO.out.app hb4.out hown5 honly5
                   have HO5 := Lib.hid hob5
                   clear hown5 honly5 hob5)
      go_loopw [3, 5] (fun s i wr => ∃ (q cb : Nat) (Ab : Option Addr) (es : List UInt8), q ≤ p.length ∧ i = .int .i64 (q : Int) ∧ s = .slice Ab es.length cb ∧ Hid (es = ds ++ prtTo p q) ∧ Hid (OB w wr Ab cb es)) (fun _ i _ => p.length - (intOf i).toNat)
      case atStart => exact ⟨0, c5, A5, ds ++ dig p.length, Nat.zero_le _, rfl, by rw [List.length_append], Lib.hid (by rw [HE0.out]), HO5⟩
      case round =>
        obtain ⟨q, cb, Ab, es, hq, rfl, rfl, Hes, HO6⟩ := hrel
        have Hel : Hid (es.length ≤ 31000000) := Lib.hid (by rw [Hes.out, List.length_append]; have := HPl.out q; have := Hdl.out; omega)
        obtain ⟨z0, -⟩ := HCs.out wr HO6.out.bel
        have z1 := HCc.out wr HO6.out.bel
        by_cases hlt2 : q < p.length
        · have hqi : (q : Int) < (p.length : Int) := by omega
          obtain ⟨gP, oP, rfl, c0, c1⟩ := (HPp.out wr HO6.out.bel).at_ hlt2
          have HSn2 : Hid (ds ++ prtTo p (q + 1) = (ds ++ prtTo p q) ++ prtB p[q]) := Lib.hid (by rw [prtTo_succ hlt2, List.append_assoc])
          have Htx := Lib.hid (HTx.out _ (List.getElem_mem hlt2))
          generalize p[q] = pr at *
          obtain ⟨an, tx⟩ := pr
          dsimp only at c0 c1 Htx
          obtain ⟨Z, hZ, -⟩ := str_hide tx
          have HZ := Lib.hid hZ
          rw [hZ] at c1
          clear hZ
          cases an
          case true =>
            have HN2 : Hid (Calls Try.prog 72 #[.int .i64 1] (wr.alloc (.cells #[.bool true, .string Z] 72)) fun e w' => ∃ A' c', e = .returned (.slice A' (dig 1).length c') ∧ Hid (Rd w' A' ((dig 1).map bv)) ∧ Hid (Below wr.heap.size wr w')) := Lib.hid ((HNum.out 1 (wr.alloc (.cells #[.bool true, .string Z] 72)) (by omega)).mono (fun e w' ⟨A', c', h1, h2, _, h4⟩ => ⟨A', c', h1, h2, Lib.hid (ext_trans (ext_alloc (Below.refl _ _) _) h4.out)⟩))
            have HBp := Blk.new wr 72 #[.bool true, .string Z]
            have b0 := HBp.cell 0
            simp only [List.getElem?_toArray, List.getElem?_cons_zero, List.getElem?_cons_succ] at b0
            have HY : Hid ((ds ++ prtTo p q) ++ dig 1 = ds ++ prtTo p (q + 1)) := Lib.hid (by rw [HSn2.out]; rfl)
            have Hd1 := Lib.hid (dig9 1 (by omega))
            obtain ⟨Y, hY⟩ : ∃ Y, Y = dig 1 := ⟨_, rfl⟩
            rw [← hY] at HN2 HY Hd1
            have hq1 : es.length + Y.length ≤ maxLen := by unfold maxLen; have := Hd1.out; have := Hel.out; omega
            have hq2 : (es.length + Y.length) * 1 ≤ 140737488355328 := by have := Hd1.out; have := Hel.out; omega
            clear HBp hY
            go_wp2_with fail
            refine HN2.out.mono ?_
            rintro e4 w6 ⟨A6, c6, rfl, hr6, hb6⟩
            clear b0 c0 c1 z0 z1 HN2
            go_wp2_with (at_builtin
                         refine wpList_app _ rfl (.tmp 59) (.tmp 60) _ rfl _ _ 1 Try.underlying48 info_u8 rfl Ab es.length cb (es.map bv) rfl (by rw [List.length_map]) (HO6.out.ext hb6.out).own A6 Y.length c6 (Y.map bv) rfl (by rw [List.length_map]) hr6.out (bvs_one _) hq1 hq2 ?_
                         intro A7 c7 w7 hown7 honly7
                         obtain ⟨hob7, -⟩ := HO6.out.app hb6.out hown7 honly7
                         have HO7 := Lib.hid hob7
                         clear hown7 honly7 hob7)
            go_roundw
            case rel => exact ⟨q + 1, c7, A7, es ++ Y, by omega, by go_num, by rw [List.length_append], Lib.hid (by rw [Hes.out, HY.out]), HO7⟩
            case measure => simp [intOf]; omega
          case false =>
            have HX : Hid (Below wr.heap.size wr (wr.alloc (.cells #[.bool false, .string Z] 72))) := Lib.hid (ext_alloc (Below.refl _ _) _)
            have HBp := Lib.hid (Blk.new wr 72 #[.bool false, .string Z])
            have b0 := HBp.out.cell 0
            simp only [List.getElem?_toArray, List.getElem?_cons_zero, List.getElem?_cons_succ] at b0
            have HY : Hid ((ds ++ prtTo p q) ++ dig 0 ++ (dig tx.length ++ tx) = ds ++ prtTo p (q + 1)) := Lib.hid (by rw [HSn2.out, List.append_assoc]; rfl)
            have Hd0 := Lib.hid (dig9 0 (by omega))
            have Hd1 := Lib.hid (dig9 tx.length (by have := Htx.out; omega))
            obtain ⟨Y, hY⟩ : ∃ Y, Y = dig 0 := ⟨_, rfl⟩
            have HNz : Hid (∀ W, Calls Try.prog 72 #[.int .i64 0] W fun e w' => ∃ A' c', e = .returned (.slice A' Y.length c') ∧ Hid (Rd w' A' (Y.map bv)) ∧ Hid (Below W.heap.size W w')) := Lib.hid (fun W => (HNum.out 0 W (by omega)).mono (fun e w' ⟨A', c', h1, h2, _, h4⟩ => ⟨A', c', by rw [hY]; exact h1, by rw [hY]; exact h2, h4⟩))
            obtain ⟨T2, hT2⟩ : ∃ T2, T2 = dig tx.length ++ tx := ⟨_, rfl⟩
            have HBz : Hid (∀ (B : Option Addr) (cB : Nat) (W : World), Rd W B (tx.map bv) → Calls Try.prog 73 #[.slice B tx.length cB] W fun e w' => ∃ A' c', e = .returned (.slice A' T2.length c') ∧ Hid (Rd w' A' (T2.map bv)) ∧ Hid (Below W.heap.size W w')) := Lib.hid (fun B cB W hr => by rw [hT2]; exact HByt.out tx B cB W Htx.out hr)
            have HT2l : Hid (T2.length ≤ 6009) := Lib.hid (by rw [hT2, List.length_append]; have := Hd1.out; have := Htx.out; omega)
            rw [← hY, ← hT2] at HY
            rw [← hY] at Hd0
            have hq1 : es.length + Y.length ≤ maxLen := by unfold maxLen; have := Hd0.out; have := Hel.out; omega
            have hq2 : (es.length + Y.length) * 1 ≤ 140737488355328 := by have := Hd0.out; have := Hel.out; omega
            have hq3 : es.length + Y.length + T2.length ≤ maxLen := by unfold maxLen; have := Hd0.out; have := Hel.out; have := HT2l.out; omega
            have hq4 : (es.length + Y.length + T2.length) * 1 ≤ 140737488355328 := by have := Hd0.out; have := Hel.out; have := HT2l.out; omega
            obtain ⟨wp, hwp⟩ : ∃ wp, wp = wr.alloc (.cells #[.bool false, .string Z] 72) := ⟨_, rfl⟩
            have Hwp := Lib.hid hwp
            have HOp : Hid (OB w wp Ab cb es) := Lib.hid (by rw [hwp]; exact HO6.out.ext HX.out)
            have HC1 : Hid (∀ W, Below wp.heap.size wp W → W.cell? ⟨wr.heap.size, 1, none⟩ = some (.string Z)) := Lib.hid (fun W hW => by
              have h1 := (HBp.out).cell 1
              simp only [List.getElem?_toArray, List.getElem?_cons_zero, List.getElem?_cons_succ] at h1
              rw [← hwp] at h1
              exact cell_only h1 (Only.of_ext (S := fun _ => False) hW) (fun h => h))
            have HnA : Hid (¬ inA Ab wr.heap.size) := Lib.hid (fun h => by
              obtain ⟨ad, e, hb⟩ := h
              have := own_lt HO6.out.own e
              omega)
            clear hY hT2 hwp HX
            go_wp2_with fail
            rw [← Hwp.out]
            refine wp_region_held_drew (S := (fun W => W.cell? ⟨wr.heap.size, 1, none⟩ = some (.string Z))) (by kernel_rfl) ?_ (fun hHeld => ?_)
            · exact HC1.out _ (by repeat (first | exact Below.refl _ _ | apply ext_drew | apply ext_drewN | apply ext_alloc))
            refine wpAnyH_take (i := 0) (v := ?_) (take_list rfl) (by kernel_rfl) (by kernel_rfl) (by kernel_rfl) (fun _ _ _ h => h) (Or.inl ⟨by rfl, ?_⟩) (by assumption) ?_
            rotate_left
            · intro w hSw
              try dsimp only at hSw
              first | (go_simp; done) | (go_simp; with_reducible rfl)
            try simp only [Act.put, List.setIfInBounds_toArray, List.set_cons_zero, List.set_cons_succ]
            refine wpAnyH_take (i := 3) (v := ?_) (take_list rfl) (by kernel_rfl) (by kernel_rfl) (by kernel_rfl) (fun _ _ _ h => h) (Or.inl ⟨by rfl, ?_⟩) (by assumption) ?_
            rotate_left
            · intro w hSw
              try dsimp only at hSw
              first | (go_simp; done) | (go_simp; with_reducible rfl)
            try simp only [Act.put, List.setIfInBounds_toArray, List.set_cons_zero, List.set_cons_succ]
            refine wpAnyH_take (i := 4) (v := ?_) (take_list rfl) (by kernel_rfl) (by kernel_rfl) (by kernel_rfl) (fun _ _ _ h => h) (Or.inl ⟨by rfl, ?_⟩) (by assumption) ?_
            rotate_left
            · intro w hSw
              try dsimp only at hSw
              first | (go_simp; done) | (go_simp; with_reducible rfl)
            try simp only [Act.put, List.setIfInBounds_toArray, List.set_cons_zero, List.set_cons_succ]
            refine wpAnyH_ready (rs := [1, 5]) (by kernel_rfl) (by simp) ?_
            refine AllReadyH.cons (take_list rfl) (fun K hK => ?_) ?_
            · skip
              go_simp
              refine (HNz.out _).mono ?_
              rintro e6 w6 ⟨A6, c6, rfl, hr6, hb6⟩
              dsimp only
              refine hK.out _ _ ?_ (fun hHeld => ?_)
              · try dsimp only
                exact HC1.out _ ((ext_trans (by repeat (first | exact Below.refl _ _ | apply ext_drew | apply ext_drewN | apply ext_alloc) : Below wp.heap.size wp wp.drew) hb6.out))
              clear hK K
              refine wpAnyH_ready (rs := [2, 5]) (by kernel_rfl) (by simp) ?_
              refine AllReadyH.cons (take_list rfl) (fun K hK => ?_) ?_
              · skip
                refine step_app15 rfl (.tmp 62) (.tmp 63) _ rfl _ _ 1 Try.underlying48 info_u8 rfl Ab es.length cb (es.map bv) rfl (by rw [List.length_map]) (HOp.out.ext ((ext_trans (by repeat (first | exact Below.refl _ _ | apply ext_drew | apply ext_drewN | apply ext_alloc) : Below wp.heap.size wp wp.drew) hb6.out))).own A6 Y.length c6 (Y.map bv) rfl (by rw [List.length_map]) (hr6.out) (bvs_one _) hq1 hq2 ?_
                intro A7 c7 w7 hown7 honly7
                obtain ⟨hob7, hne7⟩ := HOp.out.app ((ext_trans (by repeat (first | exact Below.refl _ _ | apply ext_drew | apply ext_drewN | apply ext_alloc) : Below wp.heap.size wp wp.drew) hb6.out)) hown7 honly7
                have HO7 := Lib.hid hob7
                have Hne7 := Lib.hid hne7
                have HA7 := Lib.hid honly7
                clear hown7 hob7 hne7 honly7
                refine hK.out _ _ ?_ (fun hHeld => ?_)
                · try dsimp only
                  exact cell_only (HC1.out _ (ext_trans (by repeat (first | exact Below.refl _ _ | apply ext_drew | apply ext_drewN | apply ext_alloc) : Below wp.heap.size wp wp.drew) hb6.out)) HA7.out HnA.out
                clear hK K
                refine wpAnyH_ready (rs := [5]) (by kernel_rfl) (by simp) ?_
                refine AllReadyH.cons (take_list rfl) (fun K hK => ?_) ?_
                · skip
                  obtain ⟨cc, wc, hcv, hcc, hrc, hbc, hzc⟩ := str_row (w7) tx
                  rw [show Value.string ⟨tx.toArray⟩ = strV tx from rfl, HZ.out] at hcv
                  go_simp
                  have Hrc := Lib.hid hrc
                  have Hbc := Lib.hid hbc
                  have Hzc := Lib.hid hzc
                  clear hcv hcc hrc hbc hzc
                  refine hK.out _ _ ?_ (fun hHeld => ?_)
                  · try dsimp only
                    exact cell_only (cell_only (HC1.out _ (ext_trans (by repeat (first | exact Below.refl _ _ | apply ext_drew | apply ext_drewN | apply ext_alloc) : Below wp.heap.size wp wp.drew) hb6.out)) HA7.out HnA.out) (Only.of_ext (S := fun _ => False) Hbc.out) (fun h => h)
                  clear hK K
                  refine wpAnyH_ready (rs := [6]) (by kernel_rfl) (by simp) ?_
                  refine AllReadyH.cons (take_list rfl) (fun K hK => ?_) ?_
                  · skip
                    go_simp
                    refine (HBz.out _ _ _ (Hrc.out)).mono ?_
                    rintro e8 w8 ⟨A8, c8, rfl, hr8, hb8⟩
                    dsimp only
                    refine hK.out _ _ ?_ (fun hHeld => ?_)
                    · try dsimp only
                      exact cell_only (cell_only (HC1.out _ (ext_trans (by repeat (first | exact Below.refl _ _ | apply ext_drew | apply ext_drewN | apply ext_alloc) : Below wp.heap.size wp wp.drew) hb6.out)) HA7.out HnA.out) (Only.of_ext (S := fun _ => False) (ext_trans Hbc.out hb8.out)) (fun h => h)
                    clear hK K
                    refine wpAnyH_ready (rs := [7]) (by kernel_rfl) (by simp) ?_
                    refine AllReadyH.cons (take_list rfl) (fun K hK => ?_) ?_
                    · skip
                      refine step_app15 rfl (.tmp 64) (.tmp 68) _ rfl _ _ 1 Try.underlying48 info_u8 rfl A7 (es.length + Y.length) c7 ((es ++ Y).map bv) rfl (by rw [List.length_map, List.length_append]) (HO7.out.ext ((ext_trans Hbc.out hb8.out))).own A8 T2.length c8 (T2.map bv) rfl (by rw [List.length_map]) hr8.out (bvs_one _) hq3 hq4 ?_
                      intro A9 c9 w9 hown9 honly9
                      obtain ⟨hob9, -⟩ := HO7.out.app ((ext_trans Hbc.out hb8.out)) hown9 honly9
                      have HO9 := Lib.hid hob9
                      have hs9 : w9.cell? ⟨wr.heap.size, 1, none⟩ = some (.string Z) := cell_only (cell_only (cell_only (HC1.out _ (ext_trans (by repeat (first | exact Below.refl _ _ | apply ext_drew | apply ext_drewN | apply ext_alloc) : Below wp.heap.size wp wp.drew) hb6.out)) HA7.out HnA.out) (Only.of_ext (S := fun _ => False) (ext_trans Hbc.out hb8.out)) (fun h => h)) honly9 (Hne7.out _ (by have h1 := ((ext_trans (by repeat (first | exact Below.refl _ _ | apply ext_drew | apply ext_drewN | apply ext_alloc) : Below wp.heap.size wp wp.drew) hb6.out)).size; have h2 := HBp.out.lt; rw [← Hwp.out] at h2; show wr.heap.size < _; omega) HnA.out)
                      clear hown9 honly9 hob9
                      refine hK.out _ _ ?_ (fun hHeld => ?_)
                      · try dsimp only
                        exact hs9
                      clear hK K
                      refine wpAnyH_take (i := 8) (v := ?_) (take_list rfl) (by kernel_rfl) (by kernel_rfl) (by kernel_rfl) (fun _ _ _ h => h) (Or.inl ⟨by rfl, ?_⟩) (by assumption) ?_
                      rotate_left
                      · intro w hSw
                        try dsimp only at hSw
                        first | (go_simp; done) | (go_simp; with_reducible rfl)
                      try simp only [Act.put, List.setIfInBounds_toArray, List.set_cons_zero, List.set_cons_succ]
                      refine wpAnyH_done (by kernel_rfl) ?_ _
                      go_wp2
                      go_roundw
                      case rel => exact ⟨q + 1, c9, A9, es ++ Y ++ T2, by omega, by go_num, by rw [List.length_append, List.length_append], Lib.hid (by rw [Hes.out, HY.out]), HO9⟩
                      case measure => simp [intOf]; omega
                    exact AllReadyH.nil
                  exact AllReadyH.nil
                exact AllReadyH.nil
              refine AllReadyH.cons (take_list rfl) (fun K hK => ?_) ?_
              · skip
                obtain ⟨cc, wc, hcv, hcc, hrc, hbc, hzc⟩ := str_row (w6) tx
                rw [show Value.string ⟨tx.toArray⟩ = strV tx from rfl, HZ.out] at hcv
                go_simp
                have Hrc := Lib.hid hrc
                have Hbc := Lib.hid hbc
                have Hzc := Lib.hid hzc
                clear hcv hcc hrc hbc hzc
                refine hK.out _ _ ?_ (fun hHeld => ?_)
                · try dsimp only
                  exact HC1.out _ ((ext_trans (ext_trans (by repeat (first | exact Below.refl _ _ | apply ext_drew | apply ext_drewN | apply ext_alloc) : Below wp.heap.size wp wp.drew) hb6.out) Hbc.out))
                clear hK K
                refine wpAnyH_ready (rs := [2]) (by kernel_rfl) (by simp) ?_
                refine AllReadyH.cons (take_list rfl) (fun K hK => ?_) ?_
                · skip
                  refine step_app15 rfl (.tmp 62) (.tmp 63) _ rfl _ _ 1 Try.underlying48 info_u8 rfl Ab es.length cb (es.map bv) rfl (by rw [List.length_map]) (HOp.out.ext ((ext_trans (ext_trans (by repeat (first | exact Below.refl _ _ | apply ext_drew | apply ext_drewN | apply ext_alloc) : Below wp.heap.size wp wp.drew) hb6.out) Hbc.out))).own A6 Y.length c6 (Y.map bv) rfl (by rw [List.length_map]) ((hr6.out.ext Hbc.out)) (bvs_one _) hq1 hq2 ?_
                  intro A7 c7 w7 hown7 honly7
                  obtain ⟨hob7, hne7⟩ := HOp.out.app ((ext_trans (ext_trans (by repeat (first | exact Below.refl _ _ | apply ext_drew | apply ext_drewN | apply ext_alloc) : Below wp.heap.size wp wp.drew) hb6.out) Hbc.out)) hown7 honly7
                  have HO7 := Lib.hid hob7
                  have Hne7 := Lib.hid hne7
                  have HA7 := Lib.hid honly7
                  clear hown7 hob7 hne7 honly7
                  have Hrc7 : Hid (Rd w7 (some ⟨(w6).heap.size, 0, none⟩) (tx.map bv)) := Lib.hid (Rd.only Hrc.out HA7.out (fun ad e _ hq => by injection e with e; subst e; obtain ⟨ad2, e2, hb2⟩ := hq; have h1 := own_lt HOp.out.own e2; have h2 := ((ext_trans (by repeat (first | exact Below.refl _ _ | apply ext_drew | apply ext_drewN | apply ext_alloc) : Below wp.heap.size wp wp.drew) hb6.out)).size; have h3 : ad2.block = (w6).heap.size := hb2; omega))
                  refine hK.out _ _ ?_ (fun hHeld => ?_)
                  · try dsimp only
                    exact cell_only (HC1.out _ (ext_trans (ext_trans (by repeat (first | exact Below.refl _ _ | apply ext_drew | apply ext_drewN | apply ext_alloc) : Below wp.heap.size wp wp.drew) hb6.out) Hbc.out)) HA7.out HnA.out
                  clear hK K
                  refine wpAnyH_ready (rs := [6]) (by kernel_rfl) (by simp) ?_
                  refine AllReadyH.cons (take_list rfl) (fun K hK => ?_) ?_
                  · skip
                    go_simp
                    refine (HBz.out _ _ _ (Hrc7.out)).mono ?_
                    rintro e8 w8 ⟨A8, c8, rfl, hr8, hb8⟩
                    dsimp only
                    refine hK.out _ _ ?_ (fun hHeld => ?_)
                    · try dsimp only
                      exact cell_only (cell_only (HC1.out _ (ext_trans (ext_trans (by repeat (first | exact Below.refl _ _ | apply ext_drew | apply ext_drewN | apply ext_alloc) : Below wp.heap.size wp wp.drew) hb6.out) Hbc.out)) HA7.out HnA.out) (Only.of_ext (S := fun _ => False) hb8.out) (fun h => h)
                    clear hK K
                    refine wpAnyH_ready (rs := [7]) (by kernel_rfl) (by simp) ?_
                    refine AllReadyH.cons (take_list rfl) (fun K hK => ?_) ?_
                    · skip
                      refine step_app15 rfl (.tmp 64) (.tmp 68) _ rfl _ _ 1 Try.underlying48 info_u8 rfl A7 (es.length + Y.length) c7 ((es ++ Y).map bv) rfl (by rw [List.length_map, List.length_append]) (HO7.out.ext (hb8.out)).own A8 T2.length c8 (T2.map bv) rfl (by rw [List.length_map]) hr8.out (bvs_one _) hq3 hq4 ?_
                      intro A9 c9 w9 hown9 honly9
                      obtain ⟨hob9, -⟩ := HO7.out.app (hb8.out) hown9 honly9
                      have HO9 := Lib.hid hob9
                      have hs9 : w9.cell? ⟨wr.heap.size, 1, none⟩ = some (.string Z) := cell_only (cell_only (cell_only (HC1.out _ (ext_trans (ext_trans (by repeat (first | exact Below.refl _ _ | apply ext_drew | apply ext_drewN | apply ext_alloc) : Below wp.heap.size wp wp.drew) hb6.out) Hbc.out)) HA7.out HnA.out) (Only.of_ext (S := fun _ => False) hb8.out) (fun h => h)) honly9 (Hne7.out _ (by have h1 := ((ext_trans (ext_trans (by repeat (first | exact Below.refl _ _ | apply ext_drew | apply ext_drewN | apply ext_alloc) : Below wp.heap.size wp wp.drew) hb6.out) Hbc.out)).size; have h2 := HBp.out.lt; rw [← Hwp.out] at h2; show wr.heap.size < _; omega) HnA.out)
                      clear hown9 honly9 hob9
                      refine hK.out _ _ ?_ (fun hHeld => ?_)
                      · try dsimp only
                        exact hs9
                      clear hK K
                      refine wpAnyH_take (i := 8) (v := ?_) (take_list rfl) (by kernel_rfl) (by kernel_rfl) (by kernel_rfl) (fun _ _ _ h => h) (Or.inl ⟨by rfl, ?_⟩) (by assumption) ?_
                      rotate_left
                      · intro w hSw
                        try dsimp only at hSw
                        first | (go_simp; done) | (go_simp; with_reducible rfl)
                      try simp only [Act.put, List.setIfInBounds_toArray, List.set_cons_zero, List.set_cons_succ]
                      refine wpAnyH_done (by kernel_rfl) ?_ _
                      go_wp2
                      go_roundw
                      case rel => exact ⟨q + 1, c9, A9, es ++ Y ++ T2, by omega, by go_num, by rw [List.length_append, List.length_append], Lib.hid (by rw [Hes.out, HY.out]), HO9⟩
                      case measure => simp [intOf]; omega
                    exact AllReadyH.nil
                  exact AllReadyH.nil
                exact AllReadyH.nil
              exact AllReadyH.nil
            refine AllReadyH.cons (take_list rfl) (fun K hK => ?_) ?_
            · skip
              obtain ⟨cc, wc, hcv, hcc, hrc, hbc, hzc⟩ := str_row (wp.drew) tx
              rw [show Value.string ⟨tx.toArray⟩ = strV tx from rfl, HZ.out] at hcv
              go_simp
              have Hrc := Lib.hid hrc
              have Hbc := Lib.hid hbc
              have Hzc := Lib.hid hzc
              clear hcv hcc hrc hbc hzc
              refine hK.out _ _ ?_ (fun hHeld => ?_)
              · try dsimp only
                exact HC1.out _ ((ext_trans (by repeat (first | exact Below.refl _ _ | apply ext_drew | apply ext_drewN | apply ext_alloc) : Below wp.heap.size wp wp.drew) Hbc.out))
              clear hK K
              refine wpAnyH_ready (rs := [1]) (by kernel_rfl) (by simp) ?_
              refine AllReadyH.cons (take_list rfl) (fun K hK => ?_) ?_
              · skip
                go_simp
                refine (HNz.out _).mono ?_
                rintro e6 w6 ⟨A6, c6, rfl, hr6, hb6⟩
                dsimp only
                refine hK.out _ _ ?_ (fun hHeld => ?_)
                · try dsimp only
                  exact HC1.out _ ((ext_trans (ext_trans (by repeat (first | exact Below.refl _ _ | apply ext_drew | apply ext_drewN | apply ext_alloc) : Below wp.heap.size wp wp.drew) Hbc.out) hb6.out))
                clear hK K
                refine wpAnyH_ready (rs := [2]) (by kernel_rfl) (by simp) ?_
                refine AllReadyH.cons (take_list rfl) (fun K hK => ?_) ?_
                · skip
                  refine step_app15 rfl (.tmp 62) (.tmp 63) _ rfl _ _ 1 Try.underlying48 info_u8 rfl Ab es.length cb (es.map bv) rfl (by rw [List.length_map]) (HOp.out.ext ((ext_trans (ext_trans (by repeat (first | exact Below.refl _ _ | apply ext_drew | apply ext_drewN | apply ext_alloc) : Below wp.heap.size wp wp.drew) Hbc.out) hb6.out))).own A6 Y.length c6 (Y.map bv) rfl (by rw [List.length_map]) (hr6.out) (bvs_one _) hq1 hq2 ?_
                  intro A7 c7 w7 hown7 honly7
                  obtain ⟨hob7, hne7⟩ := HOp.out.app ((ext_trans (ext_trans (by repeat (first | exact Below.refl _ _ | apply ext_drew | apply ext_drewN | apply ext_alloc) : Below wp.heap.size wp wp.drew) Hbc.out) hb6.out)) hown7 honly7
                  have HO7 := Lib.hid hob7
                  have Hne7 := Lib.hid hne7
                  have HA7 := Lib.hid honly7
                  clear hown7 hob7 hne7 honly7
                  have Hrc7 : Hid (Rd w7 (some ⟨(wp.drew).heap.size, 0, none⟩) (tx.map bv)) := Lib.hid (Rd.only (Hrc.out.ext hb6.out) HA7.out (fun ad e _ hq => by injection e with e; subst e; obtain ⟨ad2, e2, hb2⟩ := hq; have h1 := own_lt HOp.out.own e2; have h2 := ((by repeat (first | exact Below.refl _ _ | apply ext_drew | apply ext_drewN | apply ext_alloc) : Below wp.heap.size wp wp.drew)).size; have h3 : ad2.block = (wp.drew).heap.size := hb2; omega))
                  refine hK.out _ _ ?_ (fun hHeld => ?_)
                  · try dsimp only
                    exact cell_only (HC1.out _ (ext_trans (ext_trans (by repeat (first | exact Below.refl _ _ | apply ext_drew | apply ext_drewN | apply ext_alloc) : Below wp.heap.size wp wp.drew) Hbc.out) hb6.out)) HA7.out HnA.out
                  clear hK K
                  refine wpAnyH_ready (rs := [6]) (by kernel_rfl) (by simp) ?_
                  refine AllReadyH.cons (take_list rfl) (fun K hK => ?_) ?_
                  · skip
                    go_simp
                    refine (HBz.out _ _ _ (Hrc7.out)).mono ?_
                    rintro e8 w8 ⟨A8, c8, rfl, hr8, hb8⟩
                    dsimp only
                    refine hK.out _ _ ?_ (fun hHeld => ?_)
                    · try dsimp only
                      exact cell_only (cell_only (HC1.out _ (ext_trans (ext_trans (by repeat (first | exact Below.refl _ _ | apply ext_drew | apply ext_drewN | apply ext_alloc) : Below wp.heap.size wp wp.drew) Hbc.out) hb6.out)) HA7.out HnA.out) (Only.of_ext (S := fun _ => False) hb8.out) (fun h => h)
                    clear hK K
                    refine wpAnyH_ready (rs := [7]) (by kernel_rfl) (by simp) ?_
                    refine AllReadyH.cons (take_list rfl) (fun K hK => ?_) ?_
                    · skip
                      refine step_app15 rfl (.tmp 64) (.tmp 68) _ rfl _ _ 1 Try.underlying48 info_u8 rfl A7 (es.length + Y.length) c7 ((es ++ Y).map bv) rfl (by rw [List.length_map, List.length_append]) (HO7.out.ext (hb8.out)).own A8 T2.length c8 (T2.map bv) rfl (by rw [List.length_map]) hr8.out (bvs_one _) hq3 hq4 ?_
                      intro A9 c9 w9 hown9 honly9
                      obtain ⟨hob9, -⟩ := HO7.out.app (hb8.out) hown9 honly9
                      have HO9 := Lib.hid hob9
                      have hs9 : w9.cell? ⟨wr.heap.size, 1, none⟩ = some (.string Z) := cell_only (cell_only (cell_only (HC1.out _ (ext_trans (ext_trans (by repeat (first | exact Below.refl _ _ | apply ext_drew | apply ext_drewN | apply ext_alloc) : Below wp.heap.size wp wp.drew) Hbc.out) hb6.out)) HA7.out HnA.out) (Only.of_ext (S := fun _ => False) hb8.out) (fun h => h)) honly9 (Hne7.out _ (by have h1 := ((ext_trans (ext_trans (by repeat (first | exact Below.refl _ _ | apply ext_drew | apply ext_drewN | apply ext_alloc) : Below wp.heap.size wp wp.drew) Hbc.out) hb6.out)).size; have h2 := HBp.out.lt; rw [← Hwp.out] at h2; show wr.heap.size < _; omega) HnA.out)
                      clear hown9 honly9 hob9
                      refine hK.out _ _ ?_ (fun hHeld => ?_)
                      · try dsimp only
                        exact hs9
                      clear hK K
                      refine wpAnyH_take (i := 8) (v := ?_) (take_list rfl) (by kernel_rfl) (by kernel_rfl) (by kernel_rfl) (fun _ _ _ h => h) (Or.inl ⟨by rfl, ?_⟩) (by assumption) ?_
                      rotate_left
                      · intro w hSw
                        try dsimp only at hSw
                        first | (go_simp; done) | (go_simp; with_reducible rfl)
                      try simp only [Act.put, List.setIfInBounds_toArray, List.set_cons_zero, List.set_cons_succ]
                      refine wpAnyH_done (by kernel_rfl) ?_ _
                      go_wp2
                      go_roundw
                      case rel => exact ⟨q + 1, c9, A9, es ++ Y ++ T2, by omega, by go_num, by rw [List.length_append, List.length_append], Lib.hid (by rw [Hes.out, HY.out]), HO9⟩
                      case measure => simp [intOf]; omega
                    exact AllReadyH.nil
                  exact AllReadyH.nil
                exact AllReadyH.nil
              exact AllReadyH.nil
            exact AllReadyH.nil
        · obtain rfl : q = p.length := by omega
          have Hds3 : Hid (es = tsTo t (k + 1)) := Lib.hid (by rw [Hes.out, HEa.out, HSn.out, Hds.out])
          go_wp2
          go_roundw
          case rel => exact ⟨k + 1, cb, Ab, es, by omega, by first | (rw [Hki.out]; push_cast; rfl) | (push_cast; rfl), rfl, Hds3, HO6⟩
          case measure => simp [intOf]; have := Hki.out; omega
    · obtain rfl : k = t.ts.length := by omega
      have HEl : Hid (ds ++ dig t.lv.length = lvTo t 0) := Lib.hid (by rw [Hds.out]; exact tsTo_all t)
      have HNl := Lib.hid (HNum.out t.lv.length wr (by omega))
      have Hd9 := Lib.hid (dig9 t.lv.length (by omega))
      have hki : ¬ ((t.ts.length + 1 : Nat) : Int) < (n1 : Int) := by have := Hn1.out; omega
      obtain ⟨ki, hki2⟩ : ∃ ki, ki = t.ts.length + 1 := ⟨_, rfl⟩
      rw [← hki2] at hki ⊢
      obtain ⟨Y, hY⟩ : ∃ Y, Y = dig t.lv.length := ⟨_, rfl⟩
      rw [← hY] at HEl HNl Hd9
      have hq1 : ds.length + Y.length ≤ maxLen := by unfold maxLen; have := Hd9.out; have := Hdl.out; omega
      have hq2 : (ds.length + Y.length) * 1 ≤ 140737488355328 := by have := Hd9.out; have := Hdl.out; omega
      clear hki2 hlt hk hY
      go_wp2_with fail
      refine HNl.out.mono ?_
      rintro e4 w4 ⟨A4, c4, rfl, hr4, -, hb4⟩
      clear HNl y0 y1
      go_wp2_with (at_builtin
                   refine wpList_app _ rfl (.tmp 70) (.tmp 76) _ rfl _ _ 1 Try.underlying48 info_u8 rfl Ab (ds.length) cb ((ds).map bv) rfl (by simp only [List.length_map, List.length_append]) (HO.out.ext hb4.out).own A4 (Y).length _ ((Y).map bv) rfl (by rw [List.length_map]) hr4.out (bvs_one _) hq1 hq2 ?_
                   intro A5 c5 w5 hown5 honly5
                   obtain ⟨hob5, -⟩ := HO.out.app hb4.out hown5 honly5
                   have HO5 := Lib.hid hob5
                   clear hown5 honly5 hob5)
      go_loopw [3, 7] (fun s i wr => ∃ (q cb : Nat) (Ab : Option Addr) (es : List UInt8), q ≤ t.lv.length ∧ i = .int .i64 (q : Int) ∧ s = .slice Ab es.length cb ∧ Hid (es = lvTo t q) ∧ Hid (OB w wr Ab cb es)) (fun _ i _ => t.lv.length - (intOf i).toNat)
      case atStart => exact ⟨0, c5, A5, ds ++ Y, Nat.zero_le _, rfl, by rw [List.length_append], HEl, HO5⟩
      case round =>
        obtain ⟨q, cb, Ab, es, hq, rfl, rfl, Hes, HO6⟩ := hrel
        have Hel : Hid (es.length ≤ 40000000) := Lib.hid (by rw [Hes.out]; exact HL2.out q)
        obtain ⟨-, z1⟩ := HCs.out wr HO6.out.bel
        by_cases hlt : q < t.lv.length
        · have hqi : (q : Int) < (t.lv.length : Int) := by omega
          obtain ⟨gR, oR, G, e, rfl, c0, c1, c2, c3, -, hGr, -⟩ := H.out.leaf hlt
          have HGr := Lib.hid hGr.rd
          have f : ∀ {a v}, w.cell? a = some v → wr.cell? a = some v := fun h => cell_only h (Only.of_ext (S := fun _ => False) HO6.out.bel) (fun h => h)
          have d0 := f c0
          have d1 := f c1
          have d2 := f c2
          have d3 := f c3
          obtain ⟨hk1, hk2, hk3⟩ := HS.out.ky _ (List.getElem_mem hlt)
          obtain ⟨hg1, hg2, -, hg4⟩ := HG.out.gr _ (List.getElem_mem hlt)
          have HSn : Hid (lvTo t (q + 1) = lvTo t q ++ lfB t.lv[q]) := Lib.hid (lvTo_succ hlt)
          have hg100 : ∀ v ∈ t.lv[q].gr, v ≤ 100 := fun v hv => by have := (hg4 v hv).2.1; omega
          have Hg100 := Lib.hid hg100
          have hgr8 : (t.lv[q].gr.length : Int) ≤ 8 := by omega
          generalize t.lv[q] = lf at *
          obtain ⟨cnt, ka, kb, gr⟩ := lf
          dsimp only at d0 d1 d2 d3 hk1 hk2 hk3 hg2 HGr Hg100 hgr8
          unfold natV at d0
          obtain ⟨ZA, hZA, -⟩ := str_hide ka
          obtain ⟨ZB, hZB, -⟩ := str_hide kb
          have HZA := Lib.hid hZA
          have HZB := Lib.hid hZB
          rw [hZA] at d1
          rw [hZB] at d2
          have HBl := Lib.hid (Blk.new wr 84 #[.int .i64 (cnt : Int), .string ZA, .string ZB, .slice G gr.length e])
          obtain ⟨wl, hwl⟩ : ∃ wl, wl = wr.alloc (.cells #[.int .i64 (cnt : Int), .string ZA, .string ZB, .slice G gr.length e] 84) := ⟨_, rfl⟩
          have Hwl := Lib.hid hwl
          have HX : Hid (Below wr.heap.size wr wl) := Lib.hid (by rw [hwl]; exact ext_alloc (Below.refl _ _) _)
          have HOl := Lib.hid (HO6.out.ext HX.out)
          obtain ⟨lb, hlb⟩ : ∃ lb, lb = wr.heap.size := ⟨_, rfl⟩
          have Hlb : Hid (lb = wr.heap.size) := Lib.hid hlb
          have Hll : Hid (lb < wl.heap.size) := Lib.hid (by rw [hlb, hwl, World.size_alloc]; omega)
          have Hln : Hid (¬ inA Ab lb) := Lib.hid (fun h => by
            obtain ⟨ad, e2, hb⟩ := h
            have := own_lt HO6.out.own e2
            omega)
          have HC0 : Hid (∀ W, Below wl.heap.size wl W → W.cell? ⟨lb, 0, none⟩ = some (.int .i64 (cnt : Int))) := Lib.hid (fun W hW => by
            have h1 := HBl.out.cell 0
            rw [← hwl, ← hlb] at h1
            simp only [List.getElem?_toArray, List.getElem?_cons_zero, List.getElem?_cons_succ] at h1
            exact cell_only h1 (Only.of_ext (S := fun _ => False) hW) (fun h => h))
          have HC1 : Hid (∀ W, Below wl.heap.size wl W → W.cell? ⟨lb, 1, none⟩ = some (.string ZA) ∧ W.cell? ⟨lb, 2, none⟩ = some (.string ZB) ∧ W.cell? ⟨lb, 3, none⟩ = some (.slice G gr.length e)) := Lib.hid (fun W hW => by
            have h1 := HBl.out.cell 1
            have h2 := HBl.out.cell 2
            have h3 := HBl.out.cell 3
            rw [← hwl, ← hlb] at h1 h2 h3
            simp only [List.getElem?_toArray, List.getElem?_cons_zero, List.getElem?_cons_succ] at h1 h2 h3
            have f : ∀ {a v}, wl.cell? a = some v → W.cell? a = some v := fun h => cell_only h (Only.of_ext (S := fun _ => False) hW) (fun h => h)
            exact ⟨f h1, f h2, f h3⟩)
          have HNc := Lib.hid (HNum.out cnt wl (by omega))
          have HNg : Hid (∀ W, Calls Try.prog 72 #[.int .i64 (gr.length : Int)] W fun e w' => ∃ A' c', e = .returned (.slice A' (dig gr.length).length c') ∧ Hid (Rd w' A' ((dig gr.length).map bv)) ∧ Hid (Below W.heap.size W w')) := Lib.hid (fun W => (HNum.out gr.length W (by omega)).mono (fun e w' ⟨A', c', h1, h2, _, h4⟩ => ⟨A', c', h1, h2, h4⟩))
          have HNs : Hid (∀ W, Below w.heap.size w W → Calls Try.prog 74 #[.slice G gr.length e] W fun e w' => ∃ A' c', e = .returned (.slice A' (gr.flatMap dig).length c') ∧ Hid (Rd w' A' ((gr.flatMap dig).map bv)) ∧ Hid (Below W.heap.size W w')) := Lib.hid (fun W hW => by
            refine (refnums_any G gr.length e (gr.map (fun v : Nat => (v : Int))) (gr.flatMap dig) W (by rw [List.length_map]) (numsB_nat gr Hg100.out) (by rw [List.map_map]; exact HGr.out.ext hW) (fun v hv => by
              obtain ⟨u, hu, rfl⟩ := List.mem_map.1 hv
              have := Hg100.out u hu
              exact ⟨by omega, by omega⟩) (by rw [List.length_map]; omega)).mono ?_
            rintro e4 w' ⟨A', c', rfl, h1, h2⟩
            exact ⟨A', c', rfl, Lib.hid h1.rd, Lib.hid h2⟩)
          obtain ⟨T1, hT1⟩ : ∃ T1, T1 = dig ka.length ++ ka := ⟨_, rfl⟩
          obtain ⟨T2, hT2⟩ : ∃ T2, T2 = dig kb.length ++ kb := ⟨_, rfl⟩
          have HBa : Hid (∀ (B : Option Addr) (cB : Nat) (W : World), Rd W B (ka.map bv) → Calls Try.prog 73 #[.slice B ka.length cB] W fun e w' => ∃ A' c', e = .returned (.slice A' T1.length c') ∧ Hid (Rd w' A' (T1.map bv)) ∧ Hid (Below W.heap.size W w')) := Lib.hid (fun B cB W hr => by rw [hT1]; exact HByt.out ka B cB W hk1 hr)
          have HBb : Hid (∀ (B : Option Addr) (cB : Nat) (W : World), Rd W B (kb.map bv) → Calls Try.prog 73 #[.slice B kb.length cB] W fun e w' => ∃ A' c', e = .returned (.slice A' T2.length c') ∧ Hid (Rd w' A' (T2.map bv)) ∧ Hid (Below W.heap.size W w')) := Lib.hid (fun B cB W hr => by rw [hT2]; exact HByt.out kb B cB W hk2 hr)
          have HY : Hid (es ++ dig cnt ++ T1 ++ T2 ++ dig gr.length ++ gr.flatMap dig = lvTo t (q + 1)) := Lib.hid (by
            rw [HSn.out, Hes.out, hT1, hT2]
            unfold lfB
            simp only [List.append_assoc])
          have HLs : Hid (T1.length ≤ 6009 ∧ T2.length ≤ 6009 ∧ (dig cnt).length ≤ 9 ∧ (dig gr.length).length ≤ 9 ∧ (gr.flatMap dig).length ≤ 72) := Lib.hid (by
            have h1 := dig9 ka.length (by omega)
            have h2 := dig9 kb.length (by omega)
            have h3 := flat_len_le dig 9 gr (fun g hg => dig9 g (by have := Hg100.out g hg; omega))
            refine ⟨by rw [hT1, List.length_append]; omega, by rw [hT2, List.length_append]; omega, dig9 _ (by omega), dig9 _ (by omega), by omega⟩)
          obtain ⟨Yc, hYc⟩ : ∃ Yc, Yc = dig cnt := ⟨_, rfl⟩
          obtain ⟨Yg, hYg⟩ : ∃ Yg, Yg = dig gr.length := ⟨_, rfl⟩
          obtain ⟨Yn, hYn⟩ : ∃ Yn, Yn = gr.flatMap dig := ⟨_, rfl⟩
          rw [← hYc] at HNc HY HLs
          rw [← hYg] at HNg HY HLs
          rw [← hYn] at HNs HY HLs
          have hq1 : es.length + Yc.length ≤ maxLen := by unfold maxLen; have := HLs.out; have := Hel.out; omega
          have hq2 : (es.length + Yc.length) * 1 ≤ 140737488355328 := by have := HLs.out; have := Hel.out; omega
          have hq3 : es.length + Yc.length + T1.length ≤ maxLen := by unfold maxLen; have := HLs.out; have := Hel.out; omega
          have hq4 : (es.length + Yc.length + T1.length) * 1 ≤ 140737488355328 := by have := HLs.out; have := Hel.out; omega
          have hq5 : es.length + Yc.length + T1.length + T2.length ≤ maxLen := by unfold maxLen; have := HLs.out; have := Hel.out; omega
          have hq6 : (es.length + Yc.length + T1.length + T2.length) * 1 ≤ 140737488355328 := by have := HLs.out; have := Hel.out; omega
          have hq7 : es.length + Yc.length + T1.length + T2.length + Yg.length ≤ maxLen := by unfold maxLen; have := HLs.out; have := Hel.out; omega
          have hq8 : (es.length + Yc.length + T1.length + T2.length + Yg.length) * 1 ≤ 140737488355328 := by have := HLs.out; have := Hel.out; omega
          have hq9 : es.length + Yc.length + T1.length + T2.length + Yg.length + Yn.length ≤ maxLen := by unfold maxLen; have := HLs.out; have := Hel.out; omega
          have hq10 : (es.length + Yc.length + T1.length + T2.length + Yg.length + Yn.length) * 1 ≤ 140737488355328 := by have := HLs.out; have := Hel.out; omega
          have b0 := HC0.out wl (Below.refl _ _)
          rw [hwl, hlb] at b0
          clear c0 c1 c2 c3 hGr hg4 hg1 hg100 f hZA hZB hk1 hk2 hk3 hg2 hwl hlb hT1 hT2 hYc hYg hYn
          go_wp2_with fail
          rw [← Hwl.out]
          rw [← Hlb.out]
          refine HNc.out.mono ?_
          rintro e4 w4 ⟨A4, c4, rfl, hr4, -, hb4⟩
          clear HNc d0 d1 d2 d3 z1 b0
          go_wp2_with (at_builtin
                       refine wpList_app _ rfl (.tmp 94) (.tmp 97) _ rfl _ _ 1 Try.underlying48 info_u8 rfl Ab (es.length) cb ((es).map bv) rfl (by simp only [List.length_map, List.length_append]) (HOl.out.ext hb4.out).own A4 (Yc).length _ ((Yc).map bv) rfl (by rw [List.length_map]) hr4.out (bvs_one _) hq1 hq2 ?_
                       intro A6 c6 w6 hown6 honly6
                       obtain ⟨hob6, hne6⟩ := HOl.out.app hb4.out hown6 honly6
                       have HO7 := Lib.hid hob6
                       have Hne6 := Lib.hid hne6
                       have HA6 := Lib.hid honly6
                       obtain ⟨b1, b2⟩ : w6.cell? ⟨lb, 1, none⟩ = some (.string ZA) ∧ w6.cell? ⟨lb, 2, none⟩ = some (.string ZB) := by
                         obtain ⟨a1, a2, a3⟩ := HC1.out w4 hb4.out
                         exact ⟨cell_only a1 honly6 Hln.out, cell_only a2 honly6 Hln.out⟩
                       clear hown6 honly6 hob6 hne6)
          have HC6 : Hid (∀ W, Below w6.heap.size w6 W → W.cell? ⟨lb, 1, none⟩ = some (.string ZA) ∧ W.cell? ⟨lb, 2, none⟩ = some (.string ZB) ∧ W.cell? ⟨lb, 3, none⟩ = some (.slice G gr.length e)) := Lib.hid (fun W hW => by
            obtain ⟨a1, a2, a3⟩ := HC1.out w4 hb4.out
            have f : ∀ {j v}, w4.cell? ⟨lb, j, none⟩ = some v → W.cell? ⟨lb, j, none⟩ = some v := fun h => cell_only (cell_only h HA6.out Hln.out) (Only.of_ext (S := fun _ => False) hW) (fun h => h)
            exact ⟨f a1, f a2, f a3⟩)
          have Hn6 : Hid (¬ inA A6 lb) := Lib.hid (Hne6.out lb (by have := hb4.out.size; have := Hll.out; omega) Hln.out)
          have Hl6 : Hid (lb < w6.heap.size) := Lib.hid (by have := hb4.out.size; have := Hll.out; have := HA6.out.size; omega)
          go_wp2
          refine wp_region_held_drew (S := (fun W => W.cell? ⟨lb, 1, none⟩ = some (.string ZA) ∧ W.cell? ⟨lb, 2, none⟩ = some (.string ZB))) (by kernel_rfl) ?_ (fun hHeld => ?_)
          · exact ⟨(HC6.out _ (by repeat (first | exact Below.refl _ _ | apply ext_drew | apply ext_drewN | apply ext_alloc) : Below w6.heap.size w6 w6.drew)).1, (HC6.out _ (by repeat (first | exact Below.refl _ _ | apply ext_drew | apply ext_drewN | apply ext_alloc) : Below w6.heap.size w6 w6.drew)).2.1⟩
          refine wpAnyH_take (i := 0) (v := ?_) (take_list rfl) (by kernel_rfl) (by kernel_rfl) (by kernel_rfl) (fun _ _ _ h => h) (Or.inl ⟨by rfl, ?_⟩) (by assumption) ?_
          rotate_left
          · intro w hSw
            try dsimp only at hSw
            first | (go_simp; done) | (go_simp; with_reducible rfl)
          try simp only [Act.put, List.setIfInBounds_toArray, List.set_cons_zero, List.set_cons_succ]
          refine wpAnyH_take (i := 1) (v := ?_) (take_list rfl) (by kernel_rfl) (by kernel_rfl) (by kernel_rfl) (fun _ _ _ h => h) (Or.inl ⟨by rfl, ?_⟩) (by assumption) ?_
          rotate_left
          · intro w hSw
            try dsimp only at hSw
            first | (go_simp; done) | (go_simp; with_reducible rfl)
          try simp only [Act.put, List.setIfInBounds_toArray, List.set_cons_zero, List.set_cons_succ]
          refine wpAnyH_take (i := 2) (v := ?_) (take_list rfl) (by kernel_rfl) (by kernel_rfl) (by kernel_rfl) (fun _ _ _ h => h) (Or.inl ⟨by rfl, ?_⟩) (by assumption) ?_
          rotate_left
          · intro w hSw
            try dsimp only at hSw
            first | (go_simp; done) | (go_simp; with_reducible rfl)
          try simp only [Act.put, List.setIfInBounds_toArray, List.set_cons_zero, List.set_cons_succ]
          refine wpAnyH_take (i := 6) (v := ?_) (take_list rfl) (by kernel_rfl) (by kernel_rfl) (by kernel_rfl) (fun _ _ _ h => h) (Or.inl ⟨by rfl, ?_⟩) (by assumption) ?_
          rotate_left
          · intro w hSw
            try dsimp only at hSw
            first | (go_simp; done) | (go_simp; with_reducible rfl)
          try simp only [Act.put, List.setIfInBounds_toArray, List.set_cons_zero, List.set_cons_succ]
          refine wpAnyH_take (i := 7) (v := ?_) (take_list rfl) (by kernel_rfl) (by kernel_rfl) (by kernel_rfl) (fun _ _ _ h => h) (Or.inl ⟨by rfl, ?_⟩) (by assumption) ?_
          rotate_left
          · intro w hSw
            try dsimp only at hSw
            first | (go_simp; done) | (go_simp; with_reducible rfl)
          try simp only [Act.put, List.setIfInBounds_toArray, List.set_cons_zero, List.set_cons_succ]
          refine wpAnyH_ready (rs := [3, 8]) (by kernel_rfl) (by simp) ?_
          refine AllReadyH.cons (take_list rfl) (fun K hK => ?_) ?_
          · skip
            obtain ⟨cc1, wc1, hcv, hcc, hrc, hbc, hzc⟩ := str_row (w6.drew) ka
            rw [show Value.string ⟨ka.toArray⟩ = strV ka from rfl, HZA.out] at hcv
            go_simp
            have Hrc1 := Lib.hid hrc
            have Hbc1 := Lib.hid hbc
            clear hcv hcc hrc hbc hzc
            refine hK.out _ _ ?_ (fun hHeld => ?_)
            · try dsimp only
              exact ⟨(HC6.out _ (ext_trans (by repeat (first | exact Below.refl _ _ | apply ext_drew | apply ext_drewN | apply ext_alloc) : Below w6.heap.size w6 w6.drew) Hbc1.out)).1, (HC6.out _ (ext_trans (by repeat (first | exact Below.refl _ _ | apply ext_drew | apply ext_drewN | apply ext_alloc) : Below w6.heap.size w6 w6.drew) Hbc1.out)).2.1⟩
            clear hK K
            refine wpAnyH_ready (rs := [4, 8]) (by kernel_rfl) (by simp) ?_
            refine AllReadyH.cons (take_list rfl) (fun K hK => ?_) ?_
            · skip
              go_simp
              refine (HBa.out _ _ _ Hrc1.out).mono ?_
              rintro e8 w8 ⟨A8, c8, rfl, hr8, hb8⟩
              dsimp only
              refine hK.out _ _ ?_ (fun hHeld => ?_)
              · try dsimp only
                exact ⟨(HC6.out _ (ext_trans (ext_trans (by repeat (first | exact Below.refl _ _ | apply ext_drew | apply ext_drewN | apply ext_alloc) : Below w6.heap.size w6 w6.drew) Hbc1.out) hb8.out)).1, (HC6.out _ (ext_trans (ext_trans (by repeat (first | exact Below.refl _ _ | apply ext_drew | apply ext_drewN | apply ext_alloc) : Below w6.heap.size w6 w6.drew) Hbc1.out) hb8.out)).2.1⟩
              clear hK K
              refine wpAnyH_ready (rs := [5, 8]) (by kernel_rfl) (by simp) ?_
              refine AllReadyH.cons (take_list rfl) (fun K hK => ?_) ?_
              · skip
                refine step_app15 rfl (.tmp 99) (.tmp 103) _ rfl _ _ 1 Try.underlying48 info_u8 rfl A6 (es.length + Yc.length) c6 ((es ++ Yc).map bv) rfl (by simp only [List.length_map, List.length_append]) (HO7.out.ext (ext_trans (ext_trans (by repeat (first | exact Below.refl _ _ | apply ext_drew | apply ext_drewN | apply ext_alloc) : Below w6.heap.size w6 w6.drew) Hbc1.out) hb8.out)).own A8 T1.length c8 (T1.map bv) rfl (by rw [List.length_map]) hr8.out (bvs_one _) hq3 hq4 ?_
                intro A9 c9 w9 hown9 honly9
                obtain ⟨hob9, hne9⟩ := HO7.out.app (ext_trans (ext_trans (by repeat (first | exact Below.refl _ _ | apply ext_drew | apply ext_drewN | apply ext_alloc) : Below w6.heap.size w6 w6.drew) Hbc1.out) hb8.out) hown9 honly9
                have HO9 := Lib.hid hob9
                have Hne9 := Lib.hid hne9
                have HA9 := Lib.hid honly9
                have HC9 : Hid (∀ W, Below w9.heap.size w9 W → W.cell? ⟨lb, 1, none⟩ = some (.string ZA) ∧ W.cell? ⟨lb, 2, none⟩ = some (.string ZB) ∧ W.cell? ⟨lb, 3, none⟩ = some (.slice G gr.length e)) := Lib.hid (fun W hW => by
                  obtain ⟨a1, a2, a3⟩ := HC6.out _ (ext_trans (ext_trans (by repeat (first | exact Below.refl _ _ | apply ext_drew | apply ext_drewN | apply ext_alloc) : Below w6.heap.size w6 w6.drew) Hbc1.out) hb8.out)
                  have f : ∀ {j v}, (w8).cell? ⟨lb, j, none⟩ = some v → W.cell? ⟨lb, j, none⟩ = some v := fun h => cell_only (cell_only h HA9.out Hn6.out) (Only.of_ext (S := fun _ => False) hW) (fun h => h)
                  exact ⟨f a1, f a2, f a3⟩)
                have Hn9 : Hid (¬ inA A9 lb) := Lib.hid (Hne9.out lb (by have := (ext_trans (ext_trans (by repeat (first | exact Below.refl _ _ | apply ext_drew | apply ext_drewN | apply ext_alloc) : Below w6.heap.size w6 w6.drew) Hbc1.out) hb8.out).size; have := Hl6.out; omega) Hn6.out)
                have Hl9 : Hid (lb < w9.heap.size) := Lib.hid (by have := (ext_trans (ext_trans (by repeat (first | exact Below.refl _ _ | apply ext_drew | apply ext_drewN | apply ext_alloc) : Below w6.heap.size w6 w6.drew) Hbc1.out) hb8.out).size; have := Hl6.out; have := HA9.out.size; omega)
                clear hown9 honly9 hob9 hne9
                refine hK.out _ _ ?_ (fun hHeld => ?_)
                · try dsimp only
                  exact ⟨(HC9.out _ (Below.refl _ _)).1, (HC9.out _ (Below.refl _ _)).2.1⟩
                clear hK K
                refine wpAnyH_ready (rs := [8]) (by kernel_rfl) (by simp) ?_
                refine AllReadyH.cons (take_list rfl) (fun K hK => ?_) ?_
                · skip
                  obtain ⟨cc2, wc2, hcv, hcc, hrc, hbc, hzc⟩ := str_row (w9) kb
                  rw [show Value.string ⟨kb.toArray⟩ = strV kb from rfl, HZB.out] at hcv
                  go_simp
                  have Hrc2 := Lib.hid hrc
                  have Hbc2 := Lib.hid hbc
                  clear hcv hcc hrc hbc hzc
                  refine hK.out _ _ ?_ (fun hHeld => ?_)
                  · try dsimp only
                    exact ⟨(HC9.out _ (ext_trans (Below.refl _ _) Hbc2.out)).1, (HC9.out _ (ext_trans (Below.refl _ _) Hbc2.out)).2.1⟩
                  clear hK K
                  refine wpAnyH_ready (rs := [9]) (by kernel_rfl) (by simp) ?_
                  refine AllReadyH.cons (take_list rfl) (fun K hK => ?_) ?_
                  · skip
                    go_simp
                    refine (HBb.out _ _ _ Hrc2.out).mono ?_
                    rintro e10 w10 ⟨A10, c10, rfl, hr10, hb10⟩
                    dsimp only
                    refine hK.out _ _ ?_ (fun hHeld => ?_)
                    · try dsimp only
                      exact ⟨(HC9.out _ (ext_trans (ext_trans (Below.refl _ _) Hbc2.out) hb10.out)).1, (HC9.out _ (ext_trans (ext_trans (Below.refl _ _) Hbc2.out) hb10.out)).2.1⟩
                    clear hK K
                    refine wpAnyH_ready (rs := [10]) (by kernel_rfl) (by simp) ?_
                    refine AllReadyH.cons (take_list rfl) (fun K hK => ?_) ?_
                    · skip
                      refine step_app15 rfl (.tmp 104) (.tmp 108) _ rfl _ _ 1 Try.underlying48 info_u8 rfl A9 (es.length + Yc.length + T1.length) c9 ((es ++ Yc ++ T1).map bv) rfl (by simp only [List.length_map, List.length_append]) (HO9.out.ext (ext_trans (ext_trans (Below.refl _ _) Hbc2.out) hb10.out)).own A10 T2.length c10 (T2.map bv) rfl (by rw [List.length_map]) hr10.out (bvs_one _) hq5 hq6 ?_
                      intro A11 c11 w11 hown11 honly11
                      obtain ⟨hob11, hne11⟩ := HO9.out.app (ext_trans (ext_trans (Below.refl _ _) Hbc2.out) hb10.out) hown11 honly11
                      have HO11 := Lib.hid hob11
                      have HA11 := Lib.hid honly11
                      have HC11 : Hid (∀ W, Below w11.heap.size w11 W → W.cell? ⟨lb, 1, none⟩ = some (.string ZA) ∧ W.cell? ⟨lb, 2, none⟩ = some (.string ZB) ∧ W.cell? ⟨lb, 3, none⟩ = some (.slice G gr.length e)) := Lib.hid (fun W hW => by
                        obtain ⟨a1, a2, a3⟩ := HC9.out _ (ext_trans (ext_trans (Below.refl _ _) Hbc2.out) hb10.out)
                        have f : ∀ {j v}, w10.cell? ⟨lb, j, none⟩ = some v → W.cell? ⟨lb, j, none⟩ = some v := fun h => cell_only (cell_only h HA11.out Hn9.out) (Only.of_ext (S := fun _ => False) hW) (fun h => h)
                        exact ⟨f a1, f a2, f a3⟩)
                      have Hn11 : Hid (¬ inA A11 lb) := Lib.hid (hne11 lb (by have := (ext_trans (ext_trans (Below.refl _ _) Hbc2.out) hb10.out).size; have := Hl9.out; omega) Hn9.out)
                      clear hown11 honly11 hob11 hne11
                      refine hK.out _ _ ?_ (fun hHeld => ?_)
                      · try dsimp only
                        exact ⟨(HC11.out _ (Below.refl _ _)).1, (HC11.out _ (Below.refl _ _)).2.1⟩
                      clear hK K
                      refine wpAnyH_take (i := 11) (v := ?_) (take_list rfl) (by kernel_rfl) (by kernel_rfl) (by kernel_rfl) (fun _ _ _ h => h) (Or.inl ⟨by rfl, ?_⟩) (by assumption) ?_
                      rotate_left
                      · intro w hSw
                        try dsimp only at hSw
                        first | (go_simp; done) | (go_simp; with_reducible rfl)
                      try simp only [Act.put, List.setIfInBounds_toArray, List.set_cons_zero, List.set_cons_succ]
                      refine wpAnyH_done (by kernel_rfl) ?_ _
                      have b3 := (HC11.out w11 (Below.refl _ _)).2.2
                      go_wp2_with fail
                      refine (HNg.out _).mono ?_
                      rintro e12 w12 ⟨A12, c12, rfl, hr12, hb12⟩
                      clear b3
                      have b4 := (HC11.out w12 hb12.out).2.2
                      go_wp2_with (at_builtin
                                   refine wpList_app _ rfl (.tmp 110) (.tmp 114) _ rfl _ _ 1 Try.underlying48 info_u8 rfl A11 (es.length + Yc.length + T1.length + T2.length) c11 ((es ++ Yc ++ T1 ++ T2).map bv) rfl (by simp only [List.length_map, List.length_append]) (HO11.out.ext hb12.out).own A12 (Yg).length _ ((Yg).map bv) rfl (by rw [List.length_map]) hr12.out (bvs_one _) hq7 hq8 ?_
                                   intro A13 c13 w13 hown13 honly13
                                   obtain ⟨hob13, -⟩ := HO11.out.app hb12.out hown13 honly13
                                   have HO13 := Lib.hid hob13
                                   have b5 := cell_only b4 honly13 Hn11.out
                                   have HNs13 := Lib.hid (HNs.out w13 hob13.bel)
                                   clear hown13 honly13 hob13 b4)
                      refine HNs13.out.mono ?_
                      rintro e14 w14 ⟨A14, c14, rfl, hr14, hb14⟩
                      clear b5
                      go_wp2_with (at_builtin
                                   refine wpList_app _ rfl (.tmp 116) (.tmp 119) _ rfl _ _ 1 Try.underlying48 info_u8 rfl A13 (es.length + Yc.length + T1.length + T2.length + Yg.length) c13 ((es ++ Yc ++ T1 ++ T2 ++ Yg).map bv) rfl (by simp only [List.length_map, List.length_append]) (HO13.out.ext hb14.out).own A14 (Yn).length _ ((Yn).map bv) rfl (by rw [List.length_map]) hr14.out (bvs_one _) hq9 hq10 ?_
                                   intro A15 c15 w15 hown15 honly15
                                   obtain ⟨hob15, -⟩ := HO13.out.app hb14.out hown15 honly15
                                   have HO15 := Lib.hid hob15
                                   clear hown15 honly15 hob15)
                      go_roundw
                      case rel => exact ⟨q + 1, c15, A15, es ++ Yc ++ T1 ++ T2 ++ Yg ++ Yn, by omega, by go_num, by simp only [List.length_append], HY, HO15⟩
                      case measure => simp [intOf]; omega
                    exact AllReadyH.nil
                  exact AllReadyH.nil
                exact AllReadyH.nil
              refine AllReadyH.cons (take_list rfl) (fun K hK => ?_) ?_
              · skip
                obtain ⟨cc2, wc2, hcv, hcc, hrc, hbc, hzc⟩ := str_row (w8) kb
                rw [show Value.string ⟨kb.toArray⟩ = strV kb from rfl, HZB.out] at hcv
                go_simp
                have Hrc2 := Lib.hid hrc
                have Hbc2 := Lib.hid hbc
                clear hcv hcc hrc hbc hzc
                refine hK.out _ _ ?_ (fun hHeld => ?_)
                · try dsimp only
                  exact ⟨(HC6.out _ (ext_trans (ext_trans (ext_trans (by repeat (first | exact Below.refl _ _ | apply ext_drew | apply ext_drewN | apply ext_alloc) : Below w6.heap.size w6 w6.drew) Hbc1.out) hb8.out) Hbc2.out)).1, (HC6.out _ (ext_trans (ext_trans (ext_trans (by repeat (first | exact Below.refl _ _ | apply ext_drew | apply ext_drewN | apply ext_alloc) : Below w6.heap.size w6 w6.drew) Hbc1.out) hb8.out) Hbc2.out)).2.1⟩
                clear hK K
                refine wpAnyH_ready (rs := [5]) (by kernel_rfl) (by simp) ?_
                refine AllReadyH.cons (take_list rfl) (fun K hK => ?_) ?_
                · skip
                  refine step_app15 rfl (.tmp 99) (.tmp 103) _ rfl _ _ 1 Try.underlying48 info_u8 rfl A6 (es.length + Yc.length) c6 ((es ++ Yc).map bv) rfl (by simp only [List.length_map, List.length_append]) (HO7.out.ext (ext_trans (ext_trans (ext_trans (by repeat (first | exact Below.refl _ _ | apply ext_drew | apply ext_drewN | apply ext_alloc) : Below w6.heap.size w6 w6.drew) Hbc1.out) hb8.out) Hbc2.out)).own A8 T1.length c8 (T1.map bv) rfl (by rw [List.length_map]) (hr8.out.ext Hbc2.out) (bvs_one _) hq3 hq4 ?_
                  intro A9 c9 w9 hown9 honly9
                  obtain ⟨hob9, hne9⟩ := HO7.out.app (ext_trans (ext_trans (ext_trans (by repeat (first | exact Below.refl _ _ | apply ext_drew | apply ext_drewN | apply ext_alloc) : Below w6.heap.size w6 w6.drew) Hbc1.out) hb8.out) Hbc2.out) hown9 honly9
                  have HO9 := Lib.hid hob9
                  have Hne9 := Lib.hid hne9
                  have HA9 := Lib.hid honly9
                  have HC9 : Hid (∀ W, Below w9.heap.size w9 W → W.cell? ⟨lb, 1, none⟩ = some (.string ZA) ∧ W.cell? ⟨lb, 2, none⟩ = some (.string ZB) ∧ W.cell? ⟨lb, 3, none⟩ = some (.slice G gr.length e)) := Lib.hid (fun W hW => by
                    obtain ⟨a1, a2, a3⟩ := HC6.out _ (ext_trans (ext_trans (ext_trans (by repeat (first | exact Below.refl _ _ | apply ext_drew | apply ext_drewN | apply ext_alloc) : Below w6.heap.size w6 w6.drew) Hbc1.out) hb8.out) Hbc2.out)
                    have f : ∀ {j v}, (wc2).cell? ⟨lb, j, none⟩ = some v → W.cell? ⟨lb, j, none⟩ = some v := fun h => cell_only (cell_only h HA9.out Hn6.out) (Only.of_ext (S := fun _ => False) hW) (fun h => h)
                    exact ⟨f a1, f a2, f a3⟩)
                  have Hn9 : Hid (¬ inA A9 lb) := Lib.hid (Hne9.out lb (by have := (ext_trans (ext_trans (ext_trans (by repeat (first | exact Below.refl _ _ | apply ext_drew | apply ext_drewN | apply ext_alloc) : Below w6.heap.size w6 w6.drew) Hbc1.out) hb8.out) Hbc2.out).size; have := Hl6.out; omega) Hn6.out)
                  have Hl9 : Hid (lb < w9.heap.size) := Lib.hid (by have := (ext_trans (ext_trans (ext_trans (by repeat (first | exact Below.refl _ _ | apply ext_drew | apply ext_drewN | apply ext_alloc) : Below w6.heap.size w6 w6.drew) Hbc1.out) hb8.out) Hbc2.out).size; have := Hl6.out; have := HA9.out.size; omega)
                  have Hrd9 : Hid (Rd w9 (some ⟨(w8).heap.size, 0, none⟩) (kb.map bv)) := Lib.hid (Rd.only Hrc2.out HA9.out (fun ad e _ hq => by injection e with e; subst e; obtain ⟨ad2, e2, hb2⟩ := hq; have h1 := own_lt HO7.out.own e2; have h2 := (ext_trans (ext_trans (by repeat (first | exact Below.refl _ _ | apply ext_drew | apply ext_drewN | apply ext_alloc) : Below w6.heap.size w6 w6.drew) Hbc1.out) hb8.out).size; have h3 : ad2.block = (w8).heap.size := hb2; omega))
                  clear hown9 honly9 hob9 hne9
                  refine hK.out _ _ ?_ (fun hHeld => ?_)
                  · try dsimp only
                    exact ⟨(HC9.out _ (Below.refl _ _)).1, (HC9.out _ (Below.refl _ _)).2.1⟩
                  clear hK K
                  refine wpAnyH_ready (rs := [9]) (by kernel_rfl) (by simp) ?_
                  refine AllReadyH.cons (take_list rfl) (fun K hK => ?_) ?_
                  · skip
                    go_simp
                    refine (HBb.out _ _ _ Hrd9.out).mono ?_
                    rintro e10 w10 ⟨A10, c10, rfl, hr10, hb10⟩
                    dsimp only
                    refine hK.out _ _ ?_ (fun hHeld => ?_)
                    · try dsimp only
                      exact ⟨(HC9.out _ (ext_trans (Below.refl _ _) hb10.out)).1, (HC9.out _ (ext_trans (Below.refl _ _) hb10.out)).2.1⟩
                    clear hK K
                    refine wpAnyH_ready (rs := [10]) (by kernel_rfl) (by simp) ?_
                    refine AllReadyH.cons (take_list rfl) (fun K hK => ?_) ?_
                    · skip
                      refine step_app15 rfl (.tmp 104) (.tmp 108) _ rfl _ _ 1 Try.underlying48 info_u8 rfl A9 (es.length + Yc.length + T1.length) c9 ((es ++ Yc ++ T1).map bv) rfl (by simp only [List.length_map, List.length_append]) (HO9.out.ext (ext_trans (Below.refl _ _) hb10.out)).own A10 T2.length c10 (T2.map bv) rfl (by rw [List.length_map]) hr10.out (bvs_one _) hq5 hq6 ?_
                      intro A11 c11 w11 hown11 honly11
                      obtain ⟨hob11, hne11⟩ := HO9.out.app (ext_trans (Below.refl _ _) hb10.out) hown11 honly11
                      have HO11 := Lib.hid hob11
                      have HA11 := Lib.hid honly11
                      have HC11 : Hid (∀ W, Below w11.heap.size w11 W → W.cell? ⟨lb, 1, none⟩ = some (.string ZA) ∧ W.cell? ⟨lb, 2, none⟩ = some (.string ZB) ∧ W.cell? ⟨lb, 3, none⟩ = some (.slice G gr.length e)) := Lib.hid (fun W hW => by
                        obtain ⟨a1, a2, a3⟩ := HC9.out _ (ext_trans (Below.refl _ _) hb10.out)
                        have f : ∀ {j v}, w10.cell? ⟨lb, j, none⟩ = some v → W.cell? ⟨lb, j, none⟩ = some v := fun h => cell_only (cell_only h HA11.out Hn9.out) (Only.of_ext (S := fun _ => False) hW) (fun h => h)
                        exact ⟨f a1, f a2, f a3⟩)
                      have Hn11 : Hid (¬ inA A11 lb) := Lib.hid (hne11 lb (by have := (ext_trans (Below.refl _ _) hb10.out).size; have := Hl9.out; omega) Hn9.out)
                      clear hown11 honly11 hob11 hne11
                      refine hK.out _ _ ?_ (fun hHeld => ?_)
                      · try dsimp only
                        exact ⟨(HC11.out _ (Below.refl _ _)).1, (HC11.out _ (Below.refl _ _)).2.1⟩
                      clear hK K
                      refine wpAnyH_take (i := 11) (v := ?_) (take_list rfl) (by kernel_rfl) (by kernel_rfl) (by kernel_rfl) (fun _ _ _ h => h) (Or.inl ⟨by rfl, ?_⟩) (by assumption) ?_
                      rotate_left
                      · intro w hSw
                        try dsimp only at hSw
                        first | (go_simp; done) | (go_simp; with_reducible rfl)
                      try simp only [Act.put, List.setIfInBounds_toArray, List.set_cons_zero, List.set_cons_succ]
                      refine wpAnyH_done (by kernel_rfl) ?_ _
                      have b3 := (HC11.out w11 (Below.refl _ _)).2.2
                      go_wp2_with fail
                      refine (HNg.out _).mono ?_
                      rintro e12 w12 ⟨A12, c12, rfl, hr12, hb12⟩
                      clear b3
                      have b4 := (HC11.out w12 hb12.out).2.2
                      go_wp2_with (at_builtin
                                   refine wpList_app _ rfl (.tmp 110) (.tmp 114) _ rfl _ _ 1 Try.underlying48 info_u8 rfl A11 (es.length + Yc.length + T1.length + T2.length) c11 ((es ++ Yc ++ T1 ++ T2).map bv) rfl (by simp only [List.length_map, List.length_append]) (HO11.out.ext hb12.out).own A12 (Yg).length _ ((Yg).map bv) rfl (by rw [List.length_map]) hr12.out (bvs_one _) hq7 hq8 ?_
                                   intro A13 c13 w13 hown13 honly13
                                   obtain ⟨hob13, -⟩ := HO11.out.app hb12.out hown13 honly13
                                   have HO13 := Lib.hid hob13
                                   have b5 := cell_only b4 honly13 Hn11.out
                                   have HNs13 := Lib.hid (HNs.out w13 hob13.bel)
                                   clear hown13 honly13 hob13 b4)
                      refine HNs13.out.mono ?_
                      rintro e14 w14 ⟨A14, c14, rfl, hr14, hb14⟩
                      clear b5
                      go_wp2_with (at_builtin
                                   refine wpList_app _ rfl (.tmp 116) (.tmp 119) _ rfl _ _ 1 Try.underlying48 info_u8 rfl A13 (es.length + Yc.length + T1.length + T2.length + Yg.length) c13 ((es ++ Yc ++ T1 ++ T2 ++ Yg).map bv) rfl (by simp only [List.length_map, List.length_append]) (HO13.out.ext hb14.out).own A14 (Yn).length _ ((Yn).map bv) rfl (by rw [List.length_map]) hr14.out (bvs_one _) hq9 hq10 ?_
                                   intro A15 c15 w15 hown15 honly15
                                   obtain ⟨hob15, -⟩ := HO13.out.app hb14.out hown15 honly15
                                   have HO15 := Lib.hid hob15
                                   clear hown15 honly15 hob15)
                      go_roundw
                      case rel => exact ⟨q + 1, c15, A15, es ++ Yc ++ T1 ++ T2 ++ Yg ++ Yn, by omega, by go_num, by simp only [List.length_append], HY, HO15⟩
                      case measure => simp [intOf]; omega
                    exact AllReadyH.nil
                  exact AllReadyH.nil
                exact AllReadyH.nil
              exact AllReadyH.nil
            refine AllReadyH.cons (take_list rfl) (fun K hK => ?_) ?_
            · skip
              obtain ⟨cc2, wc2, hcv, hcc, hrc, hbc, hzc⟩ := str_row (wc1) kb
              rw [show Value.string ⟨kb.toArray⟩ = strV kb from rfl, HZB.out] at hcv
              go_simp
              have Hrc2 := Lib.hid hrc
              have Hbc2 := Lib.hid hbc
              clear hcv hcc hrc hbc hzc
              refine hK.out _ _ ?_ (fun hHeld => ?_)
              · try dsimp only
                exact ⟨(HC6.out _ (ext_trans (ext_trans (by repeat (first | exact Below.refl _ _ | apply ext_drew | apply ext_drewN | apply ext_alloc) : Below w6.heap.size w6 w6.drew) Hbc1.out) Hbc2.out)).1, (HC6.out _ (ext_trans (ext_trans (by repeat (first | exact Below.refl _ _ | apply ext_drew | apply ext_drewN | apply ext_alloc) : Below w6.heap.size w6 w6.drew) Hbc1.out) Hbc2.out)).2.1⟩
              clear hK K
              refine wpAnyH_ready (rs := [4]) (by kernel_rfl) (by simp) ?_
              refine AllReadyH.cons (take_list rfl) (fun K hK => ?_) ?_
              · skip
                go_simp
                refine (HBa.out _ _ _ (Hrc1.out.ext Hbc2.out)).mono ?_
                rintro e8 w8 ⟨A8, c8, rfl, hr8, hb8⟩
                dsimp only
                refine hK.out _ _ ?_ (fun hHeld => ?_)
                · try dsimp only
                  exact ⟨(HC6.out _ (ext_trans (ext_trans (ext_trans (by repeat (first | exact Below.refl _ _ | apply ext_drew | apply ext_drewN | apply ext_alloc) : Below w6.heap.size w6 w6.drew) Hbc1.out) Hbc2.out) hb8.out)).1, (HC6.out _ (ext_trans (ext_trans (ext_trans (by repeat (first | exact Below.refl _ _ | apply ext_drew | apply ext_drewN | apply ext_alloc) : Below w6.heap.size w6 w6.drew) Hbc1.out) Hbc2.out) hb8.out)).2.1⟩
                clear hK K
                refine wpAnyH_ready (rs := [5]) (by kernel_rfl) (by simp) ?_
                refine AllReadyH.cons (take_list rfl) (fun K hK => ?_) ?_
                · skip
                  refine step_app15 rfl (.tmp 99) (.tmp 103) _ rfl _ _ 1 Try.underlying48 info_u8 rfl A6 (es.length + Yc.length) c6 ((es ++ Yc).map bv) rfl (by simp only [List.length_map, List.length_append]) (HO7.out.ext (ext_trans (ext_trans (ext_trans (by repeat (first | exact Below.refl _ _ | apply ext_drew | apply ext_drewN | apply ext_alloc) : Below w6.heap.size w6 w6.drew) Hbc1.out) Hbc2.out) hb8.out)).own A8 T1.length c8 (T1.map bv) rfl (by rw [List.length_map]) hr8.out (bvs_one _) hq3 hq4 ?_
                  intro A9 c9 w9 hown9 honly9
                  obtain ⟨hob9, hne9⟩ := HO7.out.app (ext_trans (ext_trans (ext_trans (by repeat (first | exact Below.refl _ _ | apply ext_drew | apply ext_drewN | apply ext_alloc) : Below w6.heap.size w6 w6.drew) Hbc1.out) Hbc2.out) hb8.out) hown9 honly9
                  have HO9 := Lib.hid hob9
                  have Hne9 := Lib.hid hne9
                  have HA9 := Lib.hid honly9
                  have HC9 : Hid (∀ W, Below w9.heap.size w9 W → W.cell? ⟨lb, 1, none⟩ = some (.string ZA) ∧ W.cell? ⟨lb, 2, none⟩ = some (.string ZB) ∧ W.cell? ⟨lb, 3, none⟩ = some (.slice G gr.length e)) := Lib.hid (fun W hW => by
                    obtain ⟨a1, a2, a3⟩ := HC6.out _ (ext_trans (ext_trans (ext_trans (by repeat (first | exact Below.refl _ _ | apply ext_drew | apply ext_drewN | apply ext_alloc) : Below w6.heap.size w6 w6.drew) Hbc1.out) Hbc2.out) hb8.out)
                    have f : ∀ {j v}, (w8).cell? ⟨lb, j, none⟩ = some v → W.cell? ⟨lb, j, none⟩ = some v := fun h => cell_only (cell_only h HA9.out Hn6.out) (Only.of_ext (S := fun _ => False) hW) (fun h => h)
                    exact ⟨f a1, f a2, f a3⟩)
                  have Hn9 : Hid (¬ inA A9 lb) := Lib.hid (Hne9.out lb (by have := (ext_trans (ext_trans (ext_trans (by repeat (first | exact Below.refl _ _ | apply ext_drew | apply ext_drewN | apply ext_alloc) : Below w6.heap.size w6 w6.drew) Hbc1.out) Hbc2.out) hb8.out).size; have := Hl6.out; omega) Hn6.out)
                  have Hl9 : Hid (lb < w9.heap.size) := Lib.hid (by have := (ext_trans (ext_trans (ext_trans (by repeat (first | exact Below.refl _ _ | apply ext_drew | apply ext_drewN | apply ext_alloc) : Below w6.heap.size w6 w6.drew) Hbc1.out) Hbc2.out) hb8.out).size; have := Hl6.out; have := HA9.out.size; omega)
                  have Hrd9 : Hid (Rd w9 (some ⟨(wc1).heap.size, 0, none⟩) (kb.map bv)) := Lib.hid (Rd.only (Hrc2.out.ext hb8.out) HA9.out (fun ad e _ hq => by injection e with e; subst e; obtain ⟨ad2, e2, hb2⟩ := hq; have h1 := own_lt HO7.out.own e2; have h2 := (ext_trans (by repeat (first | exact Below.refl _ _ | apply ext_drew | apply ext_drewN | apply ext_alloc) : Below w6.heap.size w6 w6.drew) Hbc1.out).size; have h3 : ad2.block = (wc1).heap.size := hb2; omega))
                  clear hown9 honly9 hob9 hne9
                  refine hK.out _ _ ?_ (fun hHeld => ?_)
                  · try dsimp only
                    exact ⟨(HC9.out _ (Below.refl _ _)).1, (HC9.out _ (Below.refl _ _)).2.1⟩
                  clear hK K
                  refine wpAnyH_ready (rs := [9]) (by kernel_rfl) (by simp) ?_
                  refine AllReadyH.cons (take_list rfl) (fun K hK => ?_) ?_
                  · skip
                    go_simp
                    refine (HBb.out _ _ _ Hrd9.out).mono ?_
                    rintro e10 w10 ⟨A10, c10, rfl, hr10, hb10⟩
                    dsimp only
                    refine hK.out _ _ ?_ (fun hHeld => ?_)
                    · try dsimp only
                      exact ⟨(HC9.out _ (ext_trans (Below.refl _ _) hb10.out)).1, (HC9.out _ (ext_trans (Below.refl _ _) hb10.out)).2.1⟩
                    clear hK K
                    refine wpAnyH_ready (rs := [10]) (by kernel_rfl) (by simp) ?_
                    refine AllReadyH.cons (take_list rfl) (fun K hK => ?_) ?_
                    · skip
                      refine step_app15 rfl (.tmp 104) (.tmp 108) _ rfl _ _ 1 Try.underlying48 info_u8 rfl A9 (es.length + Yc.length + T1.length) c9 ((es ++ Yc ++ T1).map bv) rfl (by simp only [List.length_map, List.length_append]) (HO9.out.ext (ext_trans (Below.refl _ _) hb10.out)).own A10 T2.length c10 (T2.map bv) rfl (by rw [List.length_map]) hr10.out (bvs_one _) hq5 hq6 ?_
                      intro A11 c11 w11 hown11 honly11
                      obtain ⟨hob11, hne11⟩ := HO9.out.app (ext_trans (Below.refl _ _) hb10.out) hown11 honly11
                      have HO11 := Lib.hid hob11
                      have HA11 := Lib.hid honly11
                      have HC11 : Hid (∀ W, Below w11.heap.size w11 W → W.cell? ⟨lb, 1, none⟩ = some (.string ZA) ∧ W.cell? ⟨lb, 2, none⟩ = some (.string ZB) ∧ W.cell? ⟨lb, 3, none⟩ = some (.slice G gr.length e)) := Lib.hid (fun W hW => by
                        obtain ⟨a1, a2, a3⟩ := HC9.out _ (ext_trans (Below.refl _ _) hb10.out)
                        have f : ∀ {j v}, w10.cell? ⟨lb, j, none⟩ = some v → W.cell? ⟨lb, j, none⟩ = some v := fun h => cell_only (cell_only h HA11.out Hn9.out) (Only.of_ext (S := fun _ => False) hW) (fun h => h)
                        exact ⟨f a1, f a2, f a3⟩)
                      have Hn11 : Hid (¬ inA A11 lb) := Lib.hid (hne11 lb (by have := (ext_trans (Below.refl _ _) hb10.out).size; have := Hl9.out; omega) Hn9.out)
                      clear hown11 honly11 hob11 hne11
                      refine hK.out _ _ ?_ (fun hHeld => ?_)
                      · try dsimp only
                        exact ⟨(HC11.out _ (Below.refl _ _)).1, (HC11.out _ (Below.refl _ _)).2.1⟩
                      clear hK K
                      refine wpAnyH_take (i := 11) (v := ?_) (take_list rfl) (by kernel_rfl) (by kernel_rfl) (by kernel_rfl) (fun _ _ _ h => h) (Or.inl ⟨by rfl, ?_⟩) (by assumption) ?_
                      rotate_left
                      · intro w hSw
                        try dsimp only at hSw
                        first | (go_simp; done) | (go_simp; with_reducible rfl)
                      try simp only [Act.put, List.setIfInBounds_toArray, List.set_cons_zero, List.set_cons_succ]
                      refine wpAnyH_done (by kernel_rfl) ?_ _
                      have b3 := (HC11.out w11 (Below.refl _ _)).2.2
                      go_wp2_with fail
                      refine (HNg.out _).mono ?_
                      rintro e12 w12 ⟨A12, c12, rfl, hr12, hb12⟩
                      clear b3
                      have b4 := (HC11.out w12 hb12.out).2.2
                      go_wp2_with (at_builtin
                                   refine wpList_app _ rfl (.tmp 110) (.tmp 114) _ rfl _ _ 1 Try.underlying48 info_u8 rfl A11 (es.length + Yc.length + T1.length + T2.length) c11 ((es ++ Yc ++ T1 ++ T2).map bv) rfl (by simp only [List.length_map, List.length_append]) (HO11.out.ext hb12.out).own A12 (Yg).length _ ((Yg).map bv) rfl (by rw [List.length_map]) hr12.out (bvs_one _) hq7 hq8 ?_
                                   intro A13 c13 w13 hown13 honly13
                                   obtain ⟨hob13, -⟩ := HO11.out.app hb12.out hown13 honly13
                                   have HO13 := Lib.hid hob13
                                   have b5 := cell_only b4 honly13 Hn11.out
                                   have HNs13 := Lib.hid (HNs.out w13 hob13.bel)
                                   clear hown13 honly13 hob13 b4)
                      refine HNs13.out.mono ?_
                      rintro e14 w14 ⟨A14, c14, rfl, hr14, hb14⟩
                      clear b5
                      go_wp2_with (at_builtin
                                   refine wpList_app _ rfl (.tmp 116) (.tmp 119) _ rfl _ _ 1 Try.underlying48 info_u8 rfl A13 (es.length + Yc.length + T1.length + T2.length + Yg.length) c13 ((es ++ Yc ++ T1 ++ T2 ++ Yg).map bv) rfl (by simp only [List.length_map, List.length_append]) (HO13.out.ext hb14.out).own A14 (Yn).length _ ((Yn).map bv) rfl (by rw [List.length_map]) hr14.out (bvs_one _) hq9 hq10 ?_
                                   intro A15 c15 w15 hown15 honly15
                                   obtain ⟨hob15, -⟩ := HO13.out.app hb14.out hown15 honly15
                                   have HO15 := Lib.hid hob15
                                   clear hown15 honly15 hob15)
                      go_roundw
                      case rel => exact ⟨q + 1, c15, A15, es ++ Yc ++ T1 ++ T2 ++ Yg ++ Yn, by omega, by go_num, by simp only [List.length_append], HY, HO15⟩
                      case measure => simp [intOf]; omega
                    exact AllReadyH.nil
                  exact AllReadyH.nil
                exact AllReadyH.nil
              exact AllReadyH.nil
            exact AllReadyH.nil
          refine AllReadyH.cons (take_list rfl) (fun K hK => ?_) ?_
          · skip
            obtain ⟨cc2, wc2, hcv, hcc, hrc, hbc, hzc⟩ := str_row (w6.drew) kb
            rw [show Value.string ⟨kb.toArray⟩ = strV kb from rfl, HZB.out] at hcv
            go_simp
            have Hrc2 := Lib.hid hrc
            have Hbc2 := Lib.hid hbc
            clear hcv hcc hrc hbc hzc
            refine hK.out _ _ ?_ (fun hHeld => ?_)
            · try dsimp only
              exact ⟨(HC6.out _ (ext_trans (by repeat (first | exact Below.refl _ _ | apply ext_drew | apply ext_drewN | apply ext_alloc) : Below w6.heap.size w6 w6.drew) Hbc2.out)).1, (HC6.out _ (ext_trans (by repeat (first | exact Below.refl _ _ | apply ext_drew | apply ext_drewN | apply ext_alloc) : Below w6.heap.size w6 w6.drew) Hbc2.out)).2.1⟩
            clear hK K
            refine wpAnyH_ready (rs := [3]) (by kernel_rfl) (by simp) ?_
            refine AllReadyH.cons (take_list rfl) (fun K hK => ?_) ?_
            · skip
              obtain ⟨cc1, wc1, hcv, hcc, hrc, hbc, hzc⟩ := str_row (wc2) ka
              rw [show Value.string ⟨ka.toArray⟩ = strV ka from rfl, HZA.out] at hcv
              go_simp
              have Hrc1 := Lib.hid hrc
              have Hbc1 := Lib.hid hbc
              clear hcv hcc hrc hbc hzc
              refine hK.out _ _ ?_ (fun hHeld => ?_)
              · try dsimp only
                exact ⟨(HC6.out _ (ext_trans (ext_trans (by repeat (first | exact Below.refl _ _ | apply ext_drew | apply ext_drewN | apply ext_alloc) : Below w6.heap.size w6 w6.drew) Hbc2.out) Hbc1.out)).1, (HC6.out _ (ext_trans (ext_trans (by repeat (first | exact Below.refl _ _ | apply ext_drew | apply ext_drewN | apply ext_alloc) : Below w6.heap.size w6 w6.drew) Hbc2.out) Hbc1.out)).2.1⟩
              clear hK K
              refine wpAnyH_ready (rs := [4]) (by kernel_rfl) (by simp) ?_
              refine AllReadyH.cons (take_list rfl) (fun K hK => ?_) ?_
              · skip
                go_simp
                refine (HBa.out _ _ _ Hrc1.out).mono ?_
                rintro e8 w8 ⟨A8, c8, rfl, hr8, hb8⟩
                dsimp only
                refine hK.out _ _ ?_ (fun hHeld => ?_)
                · try dsimp only
                  exact ⟨(HC6.out _ (ext_trans (ext_trans (ext_trans (by repeat (first | exact Below.refl _ _ | apply ext_drew | apply ext_drewN | apply ext_alloc) : Below w6.heap.size w6 w6.drew) Hbc2.out) Hbc1.out) hb8.out)).1, (HC6.out _ (ext_trans (ext_trans (ext_trans (by repeat (first | exact Below.refl _ _ | apply ext_drew | apply ext_drewN | apply ext_alloc) : Below w6.heap.size w6 w6.drew) Hbc2.out) Hbc1.out) hb8.out)).2.1⟩
                clear hK K
                refine wpAnyH_ready (rs := [5]) (by kernel_rfl) (by simp) ?_
                refine AllReadyH.cons (take_list rfl) (fun K hK => ?_) ?_
                · skip
                  refine step_app15 rfl (.tmp 99) (.tmp 103) _ rfl _ _ 1 Try.underlying48 info_u8 rfl A6 (es.length + Yc.length) c6 ((es ++ Yc).map bv) rfl (by simp only [List.length_map, List.length_append]) (HO7.out.ext (ext_trans (ext_trans (ext_trans (by repeat (first | exact Below.refl _ _ | apply ext_drew | apply ext_drewN | apply ext_alloc) : Below w6.heap.size w6 w6.drew) Hbc2.out) Hbc1.out) hb8.out)).own A8 T1.length c8 (T1.map bv) rfl (by rw [List.length_map]) hr8.out (bvs_one _) hq3 hq4 ?_
                  intro A9 c9 w9 hown9 honly9
                  obtain ⟨hob9, hne9⟩ := HO7.out.app (ext_trans (ext_trans (ext_trans (by repeat (first | exact Below.refl _ _ | apply ext_drew | apply ext_drewN | apply ext_alloc) : Below w6.heap.size w6 w6.drew) Hbc2.out) Hbc1.out) hb8.out) hown9 honly9
                  have HO9 := Lib.hid hob9
                  have Hne9 := Lib.hid hne9
                  have HA9 := Lib.hid honly9
                  have HC9 : Hid (∀ W, Below w9.heap.size w9 W → W.cell? ⟨lb, 1, none⟩ = some (.string ZA) ∧ W.cell? ⟨lb, 2, none⟩ = some (.string ZB) ∧ W.cell? ⟨lb, 3, none⟩ = some (.slice G gr.length e)) := Lib.hid (fun W hW => by
                    obtain ⟨a1, a2, a3⟩ := HC6.out _ (ext_trans (ext_trans (ext_trans (by repeat (first | exact Below.refl _ _ | apply ext_drew | apply ext_drewN | apply ext_alloc) : Below w6.heap.size w6 w6.drew) Hbc2.out) Hbc1.out) hb8.out)
                    have f : ∀ {j v}, (w8).cell? ⟨lb, j, none⟩ = some v → W.cell? ⟨lb, j, none⟩ = some v := fun h => cell_only (cell_only h HA9.out Hn6.out) (Only.of_ext (S := fun _ => False) hW) (fun h => h)
                    exact ⟨f a1, f a2, f a3⟩)
                  have Hn9 : Hid (¬ inA A9 lb) := Lib.hid (Hne9.out lb (by have := (ext_trans (ext_trans (ext_trans (by repeat (first | exact Below.refl _ _ | apply ext_drew | apply ext_drewN | apply ext_alloc) : Below w6.heap.size w6 w6.drew) Hbc2.out) Hbc1.out) hb8.out).size; have := Hl6.out; omega) Hn6.out)
                  have Hl9 : Hid (lb < w9.heap.size) := Lib.hid (by have := (ext_trans (ext_trans (ext_trans (by repeat (first | exact Below.refl _ _ | apply ext_drew | apply ext_drewN | apply ext_alloc) : Below w6.heap.size w6 w6.drew) Hbc2.out) Hbc1.out) hb8.out).size; have := Hl6.out; have := HA9.out.size; omega)
                  have Hrd9 : Hid (Rd w9 (some ⟨(w6.drew).heap.size, 0, none⟩) (kb.map bv)) := Lib.hid (Rd.only ((Hrc2.out.ext Hbc1.out).ext hb8.out) HA9.out (fun ad e _ hq => by injection e with e; subst e; obtain ⟨ad2, e2, hb2⟩ := hq; have h1 := own_lt HO7.out.own e2; have h2 := (by repeat (first | exact Below.refl _ _ | apply ext_drew | apply ext_drewN | apply ext_alloc) : Below w6.heap.size w6 w6.drew).size; have h3 : ad2.block = (w6.drew).heap.size := hb2; omega))
                  clear hown9 honly9 hob9 hne9
                  refine hK.out _ _ ?_ (fun hHeld => ?_)
                  · try dsimp only
                    exact ⟨(HC9.out _ (Below.refl _ _)).1, (HC9.out _ (Below.refl _ _)).2.1⟩
                  clear hK K
                  refine wpAnyH_ready (rs := [9]) (by kernel_rfl) (by simp) ?_
                  refine AllReadyH.cons (take_list rfl) (fun K hK => ?_) ?_
                  · skip
                    go_simp
                    refine (HBb.out _ _ _ Hrd9.out).mono ?_
                    rintro e10 w10 ⟨A10, c10, rfl, hr10, hb10⟩
                    dsimp only
                    refine hK.out _ _ ?_ (fun hHeld => ?_)
                    · try dsimp only
                      exact ⟨(HC9.out _ (ext_trans (Below.refl _ _) hb10.out)).1, (HC9.out _ (ext_trans (Below.refl _ _) hb10.out)).2.1⟩
                    clear hK K
                    refine wpAnyH_ready (rs := [10]) (by kernel_rfl) (by simp) ?_
                    refine AllReadyH.cons (take_list rfl) (fun K hK => ?_) ?_
                    · skip
                      refine step_app15 rfl (.tmp 104) (.tmp 108) _ rfl _ _ 1 Try.underlying48 info_u8 rfl A9 (es.length + Yc.length + T1.length) c9 ((es ++ Yc ++ T1).map bv) rfl (by simp only [List.length_map, List.length_append]) (HO9.out.ext (ext_trans (Below.refl _ _) hb10.out)).own A10 T2.length c10 (T2.map bv) rfl (by rw [List.length_map]) hr10.out (bvs_one _) hq5 hq6 ?_
                      intro A11 c11 w11 hown11 honly11
                      obtain ⟨hob11, hne11⟩ := HO9.out.app (ext_trans (Below.refl _ _) hb10.out) hown11 honly11
                      have HO11 := Lib.hid hob11
                      have HA11 := Lib.hid honly11
                      have HC11 : Hid (∀ W, Below w11.heap.size w11 W → W.cell? ⟨lb, 1, none⟩ = some (.string ZA) ∧ W.cell? ⟨lb, 2, none⟩ = some (.string ZB) ∧ W.cell? ⟨lb, 3, none⟩ = some (.slice G gr.length e)) := Lib.hid (fun W hW => by
                        obtain ⟨a1, a2, a3⟩ := HC9.out _ (ext_trans (Below.refl _ _) hb10.out)
                        have f : ∀ {j v}, w10.cell? ⟨lb, j, none⟩ = some v → W.cell? ⟨lb, j, none⟩ = some v := fun h => cell_only (cell_only h HA11.out Hn9.out) (Only.of_ext (S := fun _ => False) hW) (fun h => h)
                        exact ⟨f a1, f a2, f a3⟩)
                      have Hn11 : Hid (¬ inA A11 lb) := Lib.hid (hne11 lb (by have := (ext_trans (Below.refl _ _) hb10.out).size; have := Hl9.out; omega) Hn9.out)
                      clear hown11 honly11 hob11 hne11
                      refine hK.out _ _ ?_ (fun hHeld => ?_)
                      · try dsimp only
                        exact ⟨(HC11.out _ (Below.refl _ _)).1, (HC11.out _ (Below.refl _ _)).2.1⟩
                      clear hK K
                      refine wpAnyH_take (i := 11) (v := ?_) (take_list rfl) (by kernel_rfl) (by kernel_rfl) (by kernel_rfl) (fun _ _ _ h => h) (Or.inl ⟨by rfl, ?_⟩) (by assumption) ?_
                      rotate_left
                      · intro w hSw
                        try dsimp only at hSw
                        first | (go_simp; done) | (go_simp; with_reducible rfl)
                      try simp only [Act.put, List.setIfInBounds_toArray, List.set_cons_zero, List.set_cons_succ]
                      refine wpAnyH_done (by kernel_rfl) ?_ _
                      have b3 := (HC11.out w11 (Below.refl _ _)).2.2
                      go_wp2_with fail
                      refine (HNg.out _).mono ?_
                      rintro e12 w12 ⟨A12, c12, rfl, hr12, hb12⟩
                      clear b3
                      have b4 := (HC11.out w12 hb12.out).2.2
                      go_wp2_with (at_builtin
                                   refine wpList_app _ rfl (.tmp 110) (.tmp 114) _ rfl _ _ 1 Try.underlying48 info_u8 rfl A11 (es.length + Yc.length + T1.length + T2.length) c11 ((es ++ Yc ++ T1 ++ T2).map bv) rfl (by simp only [List.length_map, List.length_append]) (HO11.out.ext hb12.out).own A12 (Yg).length _ ((Yg).map bv) rfl (by rw [List.length_map]) hr12.out (bvs_one _) hq7 hq8 ?_
                                   intro A13 c13 w13 hown13 honly13
                                   obtain ⟨hob13, -⟩ := HO11.out.app hb12.out hown13 honly13
                                   have HO13 := Lib.hid hob13
                                   have b5 := cell_only b4 honly13 Hn11.out
                                   have HNs13 := Lib.hid (HNs.out w13 hob13.bel)
                                   clear hown13 honly13 hob13 b4)
                      refine HNs13.out.mono ?_
                      rintro e14 w14 ⟨A14, c14, rfl, hr14, hb14⟩
                      clear b5
                      go_wp2_with (at_builtin
                                   refine wpList_app _ rfl (.tmp 116) (.tmp 119) _ rfl _ _ 1 Try.underlying48 info_u8 rfl A13 (es.length + Yc.length + T1.length + T2.length + Yg.length) c13 ((es ++ Yc ++ T1 ++ T2 ++ Yg).map bv) rfl (by simp only [List.length_map, List.length_append]) (HO13.out.ext hb14.out).own A14 (Yn).length _ ((Yn).map bv) rfl (by rw [List.length_map]) hr14.out (bvs_one _) hq9 hq10 ?_
                                   intro A15 c15 w15 hown15 honly15
                                   obtain ⟨hob15, -⟩ := HO13.out.app hb14.out hown15 honly15
                                   have HO15 := Lib.hid hob15
                                   clear hown15 honly15 hob15)
                      go_roundw
                      case rel => exact ⟨q + 1, c15, A15, es ++ Yc ++ T1 ++ T2 ++ Yg ++ Yn, by omega, by go_num, by simp only [List.length_append], HY, HO15⟩
                      case measure => simp [intOf]; omega
                    exact AllReadyH.nil
                  exact AllReadyH.nil
                exact AllReadyH.nil
              exact AllReadyH.nil
            exact AllReadyH.nil
          exact AllReadyH.nil
        · obtain rfl : q = t.lv.length := by omega
          have hfin : es = treeB t := by rw [Hes.out]; exact lvTo_all t
          have Hfin := Lib.hid hfin
          clear hfin
          go_wp2
          go_ret
          rw [← Hfin.out]
          exact ⟨Ab, cb, rfl, HO6.out.rd, HO6.out.bel⟩
end
end Go.Proofs.Ytdghbdiapkelnaa
