/-
  Texts of this claim, joined (part 4): contracts and lemmas that the last text goes by. No statement of the seat is proved here.
-/
import Derived.Test.YtlddmjhpemihgaaDoorAll3
import Derived.Test.YtlddmjhpemihgaaDoorAll1
set_option linter.unusedVariables false
set_option linter.unusedSimpArgs false
/-
  Contracts of the program's appendKid, appendRe. No statement of the seat is proved here.
-/
namespace Go.Proofs.YtlddmjhpemihgaaDoor
open Go Go.RowKit
set_option maxRecDepth 100000
set_option maxHeartbeats 1000000 in
theorem akid_of (T : List Nat) (k' : Int) (q0 q1 q2 q3 : Nat) (A' : Option Addr) (ks' : List Ex) (c' : Nat) (lo' hi' : Int) (gb : Bool) (w : World) (A : Option Addr) (n c : Nat) (xs : List Value)
    (h : RowO w 5 1 A n c xs) (hn : n + T.length ≤ 10000000000)
    (hre : ∀ (W : World) (A1 : Option Addr) (n1 c1 : Nat) (zs : List Value), AppT w A W A1 n1 c1 zs → n1 ≤ n + 1 → Calls Tryd.prog 45 #[.slice A1 n1 c1, .agg #[.int .i64 k', .int .u64 (q0 : Int), .int .u64 (q1 : Int), .int .u64 (q2 : Int), .int .u64 (q3 : Int), .slice A' ks'.length c', .int .i64 lo', .int .i64 hi']] W (Appd W A1 n1 zs T)) :
    Calls Tryd.prog 51 #[.slice A n c, .agg #[.int .i64 k', .int .u64 (q0 : Int), .int .u64 (q1 : Int), .int .u64 (q2 : Int), .int .u64 (q3 : Int), .slice A' ks'.length c', .int .i64 lo', .int .i64 hi'], .bool gb] w (Appd w A n xs (if gb = true then 40 :: (T ++ [41]) else T)) := by
  have hB := Blk.new w 27 #[.int .i64 k', .int .u64 (q0 : Int), .int .u64 (q1 : Int), .int .u64 (q2 : Int), .int .u64 (q3 : Int), .slice A' ks'.length c', .int .i64 lo', .int .i64 hi']
  have T0 := AppT.refl h
  have hlt : ∀ k, inA A k → k < w.heap.size := fun k hk => h.lt hk
  have Hlt := Lib.hid hlt
  have HB := Lib.hid hB
  have Hre := Lib.hid hre
  clear hre hB h hlt
  cases gb with
  | false =>
    rw [if_neg (by simp)]
    have y0 := HB.out.cell 0
    have y1 := HB.out.cell 1
    have y2 := HB.out.cell 2
    have y3 := HB.out.cell 3
    have y4 := HB.out.cell 4
    have y5 := HB.out.cell 5
    have y6 := HB.out.cell 6
    have y7 := HB.out.cell 7
    go_enter Tryd.func51, Tryd.ntmps51
    go_wp2_with fail
    refine (Hre.out _ A n c xs (T0.ext ((Below.refl _ _).alloc (Nat.le_refl _) _)) (by omega)).mono ?_
    rintro e w2 ⟨A2, c2, rfl, hT2⟩
    have T2 := (T0.ext ((Below.refl _ _).alloc (Nat.le_refl _) _)).trans hT2
    clear hT2
    go_wp2
    go_ret
    exact ⟨A2, c2, rfl, T2⟩
  | true =>
    rw [if_pos rfl]
    obtain ⟨q, hq⟩ : ∃ q, T.length = q := ⟨_, rfl⟩
    rw [hq] at hn
    have Hq := Lib.hid hq
    clear hq
    go_enter Tryd.func51, Tryd.ntmps51
    go_wp2_with (refine wpList_appO _ rfl (.tmp 12) (.tmp 13) _ rfl _ _ 1 1 Tryd.underlying46 info_u8 rfl A n c xs rfl (T0.row.ext (by repeat (first | exact Below.refl _ _ | apply ext_alloc))) (some ⟨_, 0, none⟩) 1 1 [nb 40] rfl rfl (Rd.lit_at _ _ _ (by first | rfl | simp)) (by intro u hu; simp at hu; subst hu; rfl) (by intro h; cases h) (by unfold maxLen; omega) (by omega) ?_; intro A1 c1 w1 hr1 ho1 hA1; have T1 := T0.step (by repeat (first | exact Below.refl _ _ | apply ext_alloc)) hr1 ho1 hA1; have HB1 := (HB.out.ext (by repeat (first | exact Below.refl _ _ | apply ext_alloc))).only ho1 (fun hk => absurd (Hlt.out _ hk) (Nat.lt_irrefl _)); have y0 := HB1.cell 0; have y1 := HB1.cell 1; have y2 := HB1.cell 2; have y3 := HB1.cell 3; have y4 := HB1.cell 4; have y5 := HB1.cell 5; have y6 := HB1.cell 6; have y7 := HB1.cell 7; clear hr1 ho1 hA1)
    refine (Hre.out _ A1 (n + 1) c1 _ T1 (by omega)).mono ?_
    rintro e w2 ⟨A2, c2, rfl, hT2⟩
    have T2 := T1.trans hT2
    rw [Hq.out] at T2 ⊢
    clear hT2
    go_wp2_with (refine wpList_appO _ rfl (.tmp 18) (.tmp 19) _ rfl _ _ 1 1 Tryd.underlying46 info_u8 rfl A2 (n + 1 + q) c2 _ rfl (T2.row.ext (by repeat (first | exact Below.refl _ _ | apply ext_alloc))) (some ⟨_, 0, none⟩) 1 1 [nb 41] rfl rfl (Rd.lit_at _ _ _ (by first | rfl | simp)) (by intro u hu; simp at hu; subst hu; rfl) (by intro h; cases h) (by unfold maxLen; omega) (by omega) ?_; intro A3 c3 w3 hr3 ho3 hA3; have T3 := T2.step (by repeat (first | exact Below.refl _ _ | apply ext_alloc)) hr3 ho3 hA3; clear hr3 ho3 hA3)
    go_ret
    exact Appd.mk_ T3 (by simp [Hq.out]; omega) (by simp)

theorem akid_U (U T : List Nat) (k' : Int) (q0 q1 q2 q3 : Nat) (A' : Option Addr) (ks' : List Ex) (c' : Nat) (lo' hi' : Int) (gb : Bool) (w : World) (A : Option Addr) (n c : Nat) (xs : List Value)
    (hU : (if gb = true then 40 :: (T ++ [41]) else T) = U) (h : RowO w 5 1 A n c xs) (hn : n + T.length ≤ 10000000000)
    (hre : ∀ (W : World) (A1 : Option Addr) (n1 c1 : Nat) (zs : List Value), AppT w A W A1 n1 c1 zs → n1 ≤ n + 1 → Calls Tryd.prog 45 #[.slice A1 n1 c1, .agg #[.int .i64 k', .int .u64 (q0 : Int), .int .u64 (q1 : Int), .int .u64 (q2 : Int), .int .u64 (q3 : Int), .slice A' ks'.length c', .int .i64 lo', .int .i64 hi']] W (Appd W A1 n1 zs T)) :
    Calls Tryd.prog 51 #[.slice A n c, .agg #[.int .i64 k', .int .u64 (q0 : Int), .int .u64 (q1 : Int), .int .u64 (q2 : Int), .int .u64 (q3 : Int), .slice A' ks'.length c', .int .i64 lo', .int .i64 hi'], .bool gb] w (Appd w A n xs U) := by
  rw [← hU]
  exact akid_of T k' q0 q1 q2 q3 A' ks' c' lo' hi' gb w A n c xs h hn hre

/-- what is asked of an expression of which appendRe is known -/
def Appends (S : Nat → Prop) (w0 : World) (t : Ex) : Prop := ∀ (cs : List Value) (w : World) (A : Option Addr) (n c : Nat) (xs : List Value) (deep : Nat), ReR S w t cs → NewO w0 w 5 1 A n c xs → oneE deep t = true → n + 2420 * nodesE t ≤ 5000000000 →
    Calls Tryd.prog 45 #[.slice A n c, reV cs] w (Appd w A n xs (textE t))

set_option maxHeartbeats 8000000 in
theorem are_any (S : Nat → Prop) (w0 : World) (ht : Tab w0) (hS : ∀ b, S b → b < w0.heap.size) (t : Ex) : Appends S w0 t := by
  refine ex_induct (p := Appends S w0) (fun k s ks lo hi ih cs w A n c xs deep h hN hone hn => ?_) t
  rw [reR_iff] at h
  obtain ⟨⟨hk, hs, hlo, hhi⟩, B, d, rfl, h1, h2, h3⟩ := h
  obtain ⟨o1, o2, o3⟩ := one_kids hone
  have hlen := textE_len (.mk k s ks lo hi)
  have hno : nodesE (.mk k s ks lo hi) = 1 + nodesL ks := by simp [nodesE]
  rw [hno] at hn hlen
  have hln := length_nodesL ks
  have hli : (ks.length : Int) ≤ 5000000 := by omega
  unfold maxLen at h2
  have hT : textE (.mk k s ks lo hi) = if k = 1 then setT s else if k = 4 then textR lo hi ks else textL k true ks := by simp [textE]
  rw [hT] at hlen ⊢
  have hsep : ∀ b, S b → ¬ inA A b := fun b hb hk => by have := hS b hb; have := hN.2.2 b hk; omega
  have hrow := hN.row
  have HSet := Lib.hid fun (A1 : Option Addr) (n1 c1 : Nat) (zs : List Value) (W : World) (hW : NewO w0 W 5 1 A1 n1 c1 zs) (hb : n1 ≤ 10000000000) => aset_any s hs w0 ht A1 n1 c1 zs W hW hb
  have hkid : ∀ j (hj : j < ks.length), ∀ (wr : World) (Aw : Option Addr) (m cw : Nat) (ys : List Value) (cs : List Value), AppT w A wr Aw m cw ys → ReR S wr ks[j] cs →
      ∀ (W : World) (A1 : Option Addr) (n1 c1 : Nat) (zs : List Value), AppT w A W A1 n1 c1 zs → n1 + 2420 * nodesE ks[j] ≤ 5000000000 → Calls Tryd.prog 45 #[.slice A1 n1 c1, reV cs] W (Appd W A1 n1 zs (textE ks[j])) := fun j hj wr Aw m cw ys cs hT hr W A1 n1 c1 zs hT2 hb => by
    have hNr := AppT.new_ hN hT
    have hNW := AppT.new_ hN hT2
    exact ih _ (List.getElem_mem hj) cs W A1 n1 c1 zs (deep + 1) (ReR.keep (fun b hb _ => (hNW.bel.block b (hS b hb)).trans (hNr.bel.block b (hS b hb)).symm) (fun _ h _ => h) _ hr) hNW (o1 _ (List.getElem_mem hj)) hb
  have Hkid := Lib.hid hkid
  have Hsep := Lib.hid hsep
  have H3 := Lib.hid h3
  have HN := Lib.hid hN
  obtain ⟨p0, p1, p2, p3, rfl⟩ := four_words hs
  have hB := Blk.new w 27 #[.int .i64 k, .int .u64 (p0 : Int), .int .u64 (p1 : Int), .int .u64 (p2 : Int), .int .u64 (p3 : Int), .slice B ks.length d, .int .i64 lo, .int .i64 hi]
  have T0 := (AppT.refl hrow).ext ((Below.refl _ _).alloc (Nat.le_refl _) (Obj.cells #[.int .i64 k, .int .u64 (p0 : Int), .int .u64 (p1 : Int), .int .u64 (p2 : Int), .int .u64 (p3 : Int), .slice B ks.length d, .int .i64 lo, .int .i64 hi] 27))
  have HlA := Lib.hid fun k hk => hrow.lt (k := k) hk
  have Hone := Lib.hid hone
  have O2 := Lib.hid o2
  have O3 := Lib.hid o3
  obtain ⟨w1, hw1⟩ : ∃ w1, w1 = w.alloc (Obj.cells #[.int .i64 k, .int .u64 (p0 : Int), .int .u64 (p1 : Int), .int .u64 (p2 : Int), .int .u64 (p3 : Int), .slice B ks.length d, .int .i64 lo, .int .i64 hi] 27) := ⟨_, rfl⟩
  rw [← hw1] at hB T0
  have HB := Lib.hid hB
  have HT0 := Lib.hid T0
  have Hw1 := Lib.hid hw1
  clear ih h3 hno hone o1 o2 o3 hkid hsep hN hB T0 hrow hT hlo hhi hs ht hk hw1
  have y0 := HB.out.cell 0
  have y1 := HB.out.cell 1
  have y2 := HB.out.cell 2
  have y3 := HB.out.cell 3
  have y4 := HB.out.cell 4
  have y5 := HB.out.cell 5
  have y6 := HB.out.cell 6
  have y7 := HB.out.cell 7
  show Calls Tryd.prog 45 #[.slice A n c, .agg #[.int .i64 k, .int .u64 (p0 : Int), .int .u64 (p1 : Int), .int .u64 (p2 : Int), .int .u64 (p3 : Int), .slice B ks.length d, .int .i64 lo, .int .i64 hi]] w _
  rcases (show k = 0 ∨ k = 1 ∨ k = 2 ∨ k = 3 ∨ k = 4 from O3.out) with rfl | rfl | rfl | rfl | rfl
  · have hks : ks = [] := by have := Hone.out; simp [oneE] at this; exact this.2
    subst hks
    rw [if_neg (by omega), if_neg (by omega)] at hlen ⊢
    rw [Hw1.out] at HT0 HB
    clear y0 y1 y2 y3 y4 y5 y6 y7
    go_enter Tryd.func45, Tryd.ntmps45
    go_wp2
    go_ret
    exact Appd.mk_ HT0.out rfl (by simp [textL])
  · rw [if_pos rfl] at hlen ⊢
    rw [Hw1.out] at y0 y1 y2 y3 y4 HT0
    go_enter Tryd.func45, Tryd.ntmps45
    go_wp2_with fail
    refine (HSet.out A n c xs _ (AppT.new_ HN.out HT0.out) (by omega)).mono ?_
    rintro e w2 ⟨A2, c2, rfl, hT2⟩
    have T2 := HT0.out.trans hT2
    clear hT2 y0 y1 y2 y3 y4
    go_wp2
    go_ret
    exact ⟨A2, c2, rfl, T2⟩
  · rw [if_neg (by omega), if_neg (by omega)] at hlen ⊢
    have hnl : ∀ j, (textL 2 true (ks.take j)).length ≤ 2420 * nodesL (ks.take j) := fun j => textL_len 2 _ true (fun x _ => textE_len x)
    have Hnl := Lib.hid hnl
    rw [Hw1.out] at y0 y5
    clear hnl y1 y2 y3 y4 y6 y7
    go_enter Tryd.func45, Tryd.ntmps45
    go_wp2
    rw [← Hw1.out]
    rw [← Hw1.out] at y0 y5
    go_loopw [0, 23] (fun bv i wr => ∃ (j q : Nat) (Aw : Option Addr) (cw : Nat), j ≤ ks.length ∧ i = .int .i64 (j : Int) ∧ bv = .slice Aw (n + q) cw ∧ Hid (q = (textL 2 true (ks.take j)).length) ∧ Hid (AppT w A wr Aw (n + q) cw (xs ++ (textL 2 true (ks.take j)).map nb))) (fun _ i _ => ks.length - (intOf i).toNat)
    case atStart => exact ⟨0, 0, A, c, Nat.zero_le _, rfl, rfl, Lib.hid (by simp [textL]), Lib.hid (by simpa [textL] using HT0.out)⟩
    case round =>
      clear y0 y5
      obtain ⟨j, q, Aw, cw, hj, rfl, rfl, hq, hT⟩ := hrel
      have hqb : q ≤ 2420 * nodesL (ks.take j) := by rw [hq.out]; exact Hnl.out j
      by_cases hlt : j < ks.length
      · have hji : (j : Int) < (ks.length : Int) := by omega
        have hsum := nodesL_take ks j hlt
        have hle := nodesL_take_le ks (j + 1)
        have hqt := nodesL_take_le ks j
        have hkl := textE_len ks[j]
        have hstep := textL_take 2 ks j hlt
        have hKw := H3.out.only (hT.out.only) (fun b hb => Hsep.out b hb)
        obtain ⟨g', o, k', q0, q1, q2, q3, ks', A', c', lo', hi', rfl, hx, hr, x0, x1, x2, x3, x4, x5, x6, x7, hsg⟩ := hKw.kidX hlt
        have hxk : ks[j].kind = k' := by rw [hx]; rfl
        rw [hxk] at hstep
        have hcall := Hkid.out j hlt wr Aw (n + q) cw _ _ hT.out hr
        have Hcall := Lib.hid hcall
        have Hstep := Lib.hid hstep
        clear hcall hstep hr hKw hx hxk
        obtain ⟨gb, hgb⟩ : ∃ gb, inB 2 k' = gb := ⟨_, rfl⟩
        have Hgb := Lib.hid hgb
        clear hgb
        obtain ⟨U, hU⟩ : ∃ U, (if gb = true then 40 :: (textE ks[j] ++ [41]) else textE ks[j]) = U := ⟨_, rfl⟩
        have HU := Lib.hid hU
        have hUl : U.length ≤ (textE ks[j]).length + 2 := by rw [← hU]; split <;> simp
        have hstep := Hstep.out
        rw [Hgb.out, hU] at hstep
        clear Hstep hU
        have Hstep := Lib.hid hstep
        clear hstep
        rcases (show k' = 2 ∨ k' = 3 ∨ k' = 0 ∨ (k' ≠ 2 ∧ k' ≠ 3 ∧ k' ≠ 0) by omega) with hk' | hk' | hk' | ⟨hk2, hk3, hk0⟩
        case inr.inr.inr =>
          have e2 : (k' == 2) = false := by simpa using hk2
          have e3 : (k' == 3) = false := by simpa using hk3
          have e0 : (k' == 0) = false := by simpa using hk0
          obtain rfl : gb = false := by rw [← Hgb.out]; simp [inB, hk2, hk3, hk0]
          clear hk2 hk3 hk0
          go_wp2_with fail
          refine (akid_U U (textE ks[j]) _ q0 q1 q2 q3 A' ks' c' lo' hi' false _ Aw (n + q) cw _ HU.out (hT.out.row.ext (by repeat (first | exact Below.refl _ _ | apply ext_alloc))) (by omega) (fun W A1 n1 c1 zs hT2 hn1 => Hcall.out W A1 n1 c1 zs ((hT.out.ext (by repeat (first | exact Below.refl _ _ | apply ext_alloc))).trans hT2) (by omega))).mono ?_
          rintro e w5 ⟨A5, c5, rfl, hT5⟩
          have T5 := (hT.out.ext ((Below.refl _ _).alloc (Nat.le_refl _) _)).trans hT5
          have HT5 := Lib.hid T5
          clear hT5 T5
          go_wp2
          go_roundw
          case rel => exact ⟨j + 1, q + U.length, _, _, by omega, by go_num, by congr 1; omega, Lib.hid (by rw [Hstep.out]; simp [← hq.out]), Lib.hid (by rw [Hstep.out]; exact HT5.out.cast (by omega) (by simp))⟩
          case measure => simp [intOf]; omega
        all_goals
          subst hk'
          obtain rfl : gb = true := by rw [← Hgb.out]; simp [inB]
          go_wp2_with fail
          refine (akid_U U (textE ks[j]) _ q0 q1 q2 q3 A' ks' c' lo' hi' true _ Aw (n + q) cw _ HU.out (hT.out.row.ext (by repeat (first | exact Below.refl _ _ | apply ext_alloc))) (by omega) (fun W A1 n1 c1 zs hT2 hn1 => Hcall.out W A1 n1 c1 zs ((hT.out.ext (by repeat (first | exact Below.refl _ _ | apply ext_alloc))).trans hT2) (by omega))).mono ?_
          rintro e w5 ⟨A5, c5, rfl, hT5⟩
          have T5 := (hT.out.ext ((Below.refl _ _).alloc (Nat.le_refl _) _)).trans hT5
          have HT5 := Lib.hid T5
          clear hT5 T5
          go_wp2
          go_roundw
          case rel => exact ⟨j + 1, q + U.length, _, _, by omega, by go_num, by congr 1; omega, Lib.hid (by rw [Hstep.out]; simp [← hq.out]), Lib.hid (by rw [Hstep.out]; exact HT5.out.cast (by omega) (by simp))⟩
          case measure => simp [intOf]; omega

      · obtain rfl : j = ks.length := by omega
        rw [List.take_length] at hT hq
        go_wp2
        go_ret
        exact Appd.mk_ hT.out (by rw [hq.out]) rfl
  · rw [if_neg (by omega), if_neg (by omega)] at hlen ⊢
    have hnl : ∀ j, (textL 3 true (ks.take j)).length ≤ 2420 * nodesL (ks.take j) := fun j => textL_len 3 _ true (fun x _ => textE_len x)
    have Hnl := Lib.hid hnl
    rw [Hw1.out] at y0 y5
    clear hnl y1 y2 y3 y4 y6 y7
    go_enter Tryd.func45, Tryd.ntmps45
    go_wp2
    rw [← Hw1.out]
    rw [← Hw1.out] at y0 y5
    go_loopw [0, 49] (fun bv i wr => ∃ (j q : Nat) (Aw : Option Addr) (cw : Nat), j ≤ ks.length ∧ i = .int .i64 (j : Int) ∧ bv = .slice Aw (n + q) cw ∧ Hid (q = (textL 3 true (ks.take j)).length) ∧ Hid (AppT w A wr Aw (n + q) cw (xs ++ (textL 3 true (ks.take j)).map nb))) (fun _ i _ => ks.length - (intOf i).toNat)
    case atStart => exact ⟨0, 0, A, c, Nat.zero_le _, rfl, rfl, Lib.hid (by simp [textL]), Lib.hid (by simpa [textL] using HT0.out)⟩
    case round =>
      clear y0 y5
      obtain ⟨j, q, Aw, cw, hj, rfl, rfl, hq, hT⟩ := hrel
      have hqb : q ≤ 2420 * nodesL (ks.take j) := by rw [hq.out]; exact Hnl.out j
      by_cases hlt : j < ks.length
      · have hji : (j : Int) < (ks.length : Int) := by omega
        have hsum := nodesL_take ks j hlt
        have hle := nodesL_take_le ks (j + 1)
        have hqt := nodesL_take_le ks j
        have hkl := textE_len ks[j]
        have hstep := textL_take 3 ks j hlt
        have hKw := H3.out.only (hT.out.only) (fun b hb => Hsep.out b hb)
        obtain ⟨g', o, k', q0, q1, q2, q3, ks', A', c', lo', hi', rfl, hx, hr, x0, x1, x2, x3, x4, x5, x6, x7, hsg⟩ := hKw.kidX hlt
        have hxk : ks[j].kind = k' := by rw [hx]; rfl
        rw [hxk] at hstep
        have hcall := Hkid.out j hlt wr Aw (n + q) cw _ _ hT.out hr
        have Hcall := Lib.hid hcall
        have Hstep := Lib.hid hstep
        clear hcall hstep hr hKw hx hxk
        obtain ⟨gb, hgb⟩ : ∃ gb, inB 3 k' = gb := ⟨_, rfl⟩
        have Hgb := Lib.hid hgb
        have hgv : (k' == 3) = gb := by rw [← hgb, Bool.eq_iff_iff]; simp [inB]
        clear hgb
        obtain ⟨U, hU⟩ : ∃ U, (if gb = true then 40 :: (textE ks[j] ++ [41]) else textE ks[j]) = U := ⟨_, rfl⟩
        have HU := Lib.hid hU
        have hUl : U.length ≤ (textE ks[j]).length + 2 := by rw [← hU]; split <;> simp
        have hstep := Hstep.out
        rw [Hgb.out, hU] at hstep
        clear Hstep hU
        have Hstep := Lib.hid hstep
        clear hstep
        rcases Nat.eq_zero_or_pos j with hj0 | hj0
        · have hjd : decide ((0 : Int) < (j : Int)) = false := by simp; omega
          have hjd2 : (j : Int) ≤ 0 := by omega
          have hst := Hstep.out
          rw [if_neg (by omega)] at hst
          have Hj0 := Lib.hid hj0
          clear hj0
          go_wp2_with fail
          refine (akid_U U (textE ks[j]) _ q0 q1 q2 q3 A' ks' c' lo' hi' gb _ Aw (n + q) cw _ HU.out (hT.out.row.ext (by repeat (first | exact Below.refl _ _ | apply ext_alloc))) (by omega) (fun W A1 n1 c1 zs hT2 hn1 => Hcall.out W A1 n1 c1 zs ((hT.out.ext (by repeat (first | exact Below.refl _ _ | apply ext_alloc))).trans hT2) (by omega))).mono ?_
          rintro e w5 ⟨A5, c5, rfl, hT5⟩
          have T5 := (hT.out.ext ((Below.refl _ _).alloc (Nat.le_refl _) _)).trans hT5
          have HT5 := Lib.hid T5
          have Hst := Lib.hid hst
          clear hT5 T5 hst
          go_wp2
          go_roundw
          case rel => exact ⟨j + 1, q + U.length, _, _, by omega, by go_num, by congr 1; omega, Lib.hid (by rw [Hst.out]; simp [← hq.out]), Lib.hid (by rw [Hst.out]; exact HT5.out.cast (by omega) (by simp))⟩
          case measure => simp [intOf]; omega
        · have hjd2 : (0 : Int) < (j : Int) := by omega
          have hst := Hstep.out
          rw [if_pos ⟨rfl, hj0⟩] at hst
          have Hst := Lib.hid hst
          have TT := hT.out
          have HK := Lib.hid (Blk.new wr 27 #[.int .i64 k', .int .u64 (q0 : Int), .int .u64 (q1 : Int), .int .u64 (q2 : Int), .int .u64 (q3 : Int), .slice A' ks'.length c', .int .i64 lo', .int .i64 hi'])
          clear hst
          go_wp2_with (refine wpList_appO _ rfl (.tmp 56) (.tmp 57) _ rfl _ _ 1 1 Tryd.underlying46 info_u8 rfl Aw (n + q) cw _ rfl (TT.row.ext (by repeat (first | exact Below.refl _ _ | apply ext_alloc))) (some ⟨_, 0, none⟩) 1 1 [nb 124] rfl rfl (Rd.lit_at _ _ _ (by first | rfl | simp)) (by intro u hu; simp at hu; subst hu; rfl) (by intro h; cases h) (by unfold maxLen; omega) (by omega) ?_; intro A4 c4 w4 hr4 ho4 hA4; have T4 := TT.step (by repeat (first | exact Below.refl _ _ | apply ext_alloc)) hr4 ho4 hA4; have HK4 := (HK.out.ext (by repeat (first | exact Below.refl _ _ | apply ext_alloc))).only ho4 (fun hk => absurd (hT.out.row.lt hk) (Nat.lt_irrefl _)); have z0 := HK4.cell 0; have z1 := HK4.cell 1; have z2 := HK4.cell 2; have z3 := HK4.cell 3; have z4 := HK4.cell 4; have z5 := HK4.cell 5; have z6 := HK4.cell 6; have z7 := HK4.cell 7; clear HK4; clear hr4 ho4 hA4)
          refine (akid_U U (textE ks[j]) _ q0 q1 q2 q3 A' ks' c' lo' hi' gb _ A4 (n + q + 1) c4 _ HU.out T4.row (by omega) (fun W A1 n1 c1 zs hT2 hn1 => Hcall.out W A1 n1 c1 zs (T4.trans hT2) (by omega))).mono ?_
          rintro e w5 ⟨A5, c5, rfl, hT5⟩
          have T5 := T4.trans hT5
          have HT5 := Lib.hid T5
          clear hT5 T5 T4 z0 z1 z2 z3 z4 z5 z6 z7
          go_wp2
          go_roundw
          case rel => exact ⟨j + 1, q + 1 + U.length, _, _, by omega, by go_num, by congr 1; omega, Lib.hid (by rw [Hst.out]; simp [← hq.out]; omega), Lib.hid (by rw [Hst.out]; exact HT5.out.cast (by omega) (by simp))⟩
          case measure => simp [intOf]; omega

      · obtain rfl : j = ks.length := by omega
        rw [List.take_length] at hT hq
        go_wp2
        go_ret
        exact Appd.mk_ hT.out (by rw [hq.out]) rfl
  · rw [if_neg (by omega), if_pos rfl] at hlen ⊢
    obtain ⟨hl1, hrep⟩ := O2.out rfl
    obtain ⟨x, rfl⟩ := List.length_eq_one_iff.1 hl1
    obtain ⟨g', o, k', q0, q1, q2, q3, ks', A', c', lo', hi', rfl, hx, hr, x0, x1, x2, x3, x4, x5, x6, x7, hsg⟩ := (H3.out.only HT0.out.only (fun b hb => Hsep.out b hb)).kidX (k := 0) (by simp)
    rw [Nat.zero_mul, Nat.add_zero] at x0 x1 x2 x3 x4 x5 x6 x7
    simp only [List.getElem_cons_zero] at hx hr
    have hxk : x.kind = k' := by rw [hx]; rfl
    have hRr : textR lo hi [x] = (if k' = 1 then textE x else 40 :: (textE x ++ [41])) ++ timesT lo hi := by simp [textR, hxk]
    have hkl := textE_len x
    have hkn : nodesL [x] = nodesE x := by simp [nodesL]
    rw [hkn] at hn
    have hcall := Hkid.out 0 (by simp) w1 A n c _ _ HT0.out hr
    simp only [List.getElem_cons_zero] at hcall
    have Hcall := Lib.hid hcall
    have htl := timesT_len lo hi
    obtain ⟨gb, hgb⟩ : ∃ gb, (k' != 1) = gb := ⟨_, rfl⟩
    have hTx : (if k' = 1 then textE x else 40 :: (textE x ++ [41])) = (if gb = true then 40 :: (textE x ++ [41]) else textE x) := by
      rw [← hgb]
      by_cases h : k' = 1 <;> simp [h]
    rw [hRr, hTx]
    obtain ⟨U, hU⟩ : ∃ U, (if gb = true then 40 :: (textE x ++ [41]) else textE x) = U := ⟨_, rfl⟩
    rw [hU]
    have hUl : U.length ≤ (textE x).length + 2 := by rw [← hU]; split <;> simp
    have HU := Lib.hid hU
    have HB1 := Lib.hid (HB.out.alloc (Obj.cells #[.int .i64 k', .int .u64 (q0 : Int), .int .u64 (q1 : Int), .int .u64 (q2 : Int), .int .u64 (q3 : Int), .slice A' ks'.length c', .int .i64 lo', .int .i64 hi'] 27))
    have HB2 := Lib.hid (Blk.new w1 27 #[.int .i64 k', .int .u64 (q0 : Int), .int .u64 (q1 : Int), .int .u64 (q2 : Int), .int .u64 (q3 : Int), .slice A' ks'.length c', .int .i64 lo', .int .i64 hi'])
    have hw1 : w1 = w.alloc (Obj.cells #[.int .i64 4, .int .u64 (p0 : Int), .int .u64 (p1 : Int), .int .u64 (p2 : Int), .int .u64 (p3 : Int), .slice (some ⟨g', o, none⟩) 1 d, .int .i64 lo, .int .i64 hi] 27) := Hw1.out
    have Hw2 := Lib.hid hw1
    rw [hw1] at y0 y5 x0 x1 x2 x3 x4 x5 x6 x7
    clear hw1
    show Calls Tryd.prog 45 #[.slice A n c, .agg #[.int .i64 4, .int .u64 (p0 : Int), .int .u64 (p1 : Int), .int .u64 (p2 : Int), .int .u64 (p3 : Int), .slice (some ⟨g', o, none⟩) 1 d, .int .i64 lo, .int .i64 hi]] w _
    clear hcall hr hx hxk hRr hTx hU hsg y1 y2 y3 y4 y6 y7
    go_enter Tryd.func45, Tryd.ntmps45
    go_wp2_with fail
    rw [← Hw2.out]
    refine (akid_U U (textE x) k' q0 q1 q2 q3 A' ks' c' lo' hi' gb _ A n c _ HU.out (HT0.out.row.ext (by repeat (first | exact Below.refl _ _ | apply ext_alloc))) (by omega) (fun W A1 n1 c1 zs hT2 hn1 => Hcall.out W A1 n1 c1 zs ((HT0.out.ext (by repeat (first | exact Below.refl _ _ | apply ext_alloc))).trans hT2) (by omega))).mono ?_
    rintro e w5 ⟨A5, c5, rfl, hT5⟩
    have HB5 := HB1.out.only hT5.only (fun hk => by have := HlA.out _ hk; have h9 := HB.out.lt; have := (Below.refl w.heap.size w).size; omega)
    have T5 := (HT0.out.ext ((Below.refl _ _).alloc (Nat.le_refl _) _)).trans hT5
    have d6 := HB5.cell 6
    have d7 := HB5.cell 7
    clear hT5 HB5 y0 y5 x0 x1 x2 x3 x4 x5 x6 x7
    obtain ⟨u, hu⟩ : ∃ u, U.length = u := ⟨_, rfl⟩
    rw [hu] at T5 hUl ⊢
    have Hu := Lib.hid hu
    clear hu
    go_wp2_with fail
    refine (atimes_any lo hi hrep A5 (n + u) _ _ w5 T5.row (by omega)).mono ?_
    rintro e w6 ⟨A6, c6, rfl, hT6⟩
    have T6 := T5.trans hT6
    clear hT6 d6 d7
    go_wp2
    go_ret
    exact Appd.mk_ T6 (by rw [List.length_append, Hu.out]; omega) (by simp)
end Go.Proofs.YtlddmjhpemihgaaDoor

/-
  Contracts of the program's textOf, Is, Print. No statement of the seat is proved here.
-/
namespace Go.Proofs.YtlddmjhpemihgaaDoor
open Go Go.RowKit
set_option maxRecDepth 100000
theorem rowsT_lt {l : List (Nat × Nat)} (h : ∀ p ∈ l, p.1 < 256 ∧ p.2 < 256) : ∀ b ∈ rowsT l, b < 256 := by
  intro b hb
  obtain ⟨p, hp, hb⟩ := List.mem_flatMap.1 hb
  have hh := h p hp
  unfold rowT at hb
  rcases List.mem_append.1 hb with hb | hb
  · exact signB_lt hh.1 b hb
  · split at hb
    · rcases List.mem_cons.1 hb with rfl | hb
      · omega
      · exact signB_lt hh.2 b hb
    · cases hb
theorem setT_lt (s : List Nat) : ∀ b ∈ setT s, b < 256 := by
  intro b hb
  unfold setT at hb
  split at hb
  · rename_i h1
    obtain ⟨c, hc⟩ := List.length_eq_one_iff.1 h1
    rw [hc] at hb
    exact signB_lt (listB_lt (ws := s) (by rw [hc]; simp)) b hb
  · split at hb
    · simp at hb; omega
    · simp only [List.mem_cons, List.mem_append, List.not_mem_nil, or_false] at hb
      rcases hb with rfl | hb | rfl
      · omega
      · exact rowsT_lt (rowsB_lt (fun b hb => listB_lt hb)) b hb
      · omega
theorem timesT_lt {lo hi : Int} (h : repB lo hi = true) : ∀ b ∈ timesT lo hi, b < 256 := by
  rw [rep_iff] at h
  have h1 := twoB_lt (n := lo.toNat) (by omega)
  have h2 := twoB_lt (n := hi.toNat) (by omega)
  intro b hb
  unfold timesT at hb
  repeat' split at hb
  all_goals simp only [List.mem_cons, List.mem_append, List.not_mem_nil, or_false] at hb
  · omega
  · omega
  · omega
  · rcases hb with rfl | hb | rfl
    · omega
    · exact h1 b hb
    · omega
  · rcases hb with rfl | hb | rfl | rfl
    · omega
    · exact h1 b hb
    · omega
    · omega
  · rcases hb with rfl | hb | rfl | hb | rfl
    · omega
    · exact h1 b hb
    · omega
    · exact h2 b hb
    · omega
theorem textL_lt (k : Int) (l : List Ex) : ∀ f, (∀ x ∈ l, ∀ b ∈ textE x, b < 256) → ∀ b ∈ textL k f l, b < 256 := by
  induction l with
  | nil => intro f _ b hb; simp [textL] at hb
  | cons x r ih =>
    intro f h b hb
    simp only [textL, List.mem_append] at hb
    rcases hb with (hb | hb) | hb
    · split at hb
      · simp at hb; omega
      · cases hb
    · split at hb
      · simp only [List.mem_cons, List.mem_append, List.not_mem_nil, or_false] at hb
        rcases hb with rfl | hb | rfl
        · omega
        · exact h x (by simp) b hb
        · omega
      · exact h x (by simp) b hb
    · exact ih false (fun y hy => h y (by simp [hy])) b hb
theorem textE_lt {t : Ex} : ∀ {deep : Nat}, oneE deep t = true → ∀ b ∈ textE t, b < 256 := by
  refine ex_induct (p := fun t => ∀ {deep : Nat}, oneE deep t = true → ∀ b ∈ textE t, b < 256) (fun k s ks lo hi ih deep h b hb => ?_) t
  obtain ⟨o1, o2, o3⟩ := one_kids h
  have hx : ∀ x ∈ ks, ∀ b ∈ textE x, b < 256 := fun x hx => ih x hx (o1 x hx)
  simp only [textE] at hb
  split at hb
  · exact setT_lt s b hb
  · split at hb
    · rename_i h4
      obtain ⟨hl, hr⟩ := o2 h4
      obtain ⟨x, rfl⟩ := List.length_eq_one_iff.1 hl
      simp only [textR, List.mem_append] at hb
      rcases hb with hb | hb
      · split at hb
        · exact hx x (by simp) b hb
        · simp only [List.mem_cons, List.mem_append, List.not_mem_nil, or_false] at hb
          rcases hb with rfl | hb | rfl
          · omega
          · exact hx x (by simp) b hb
          · omega
      · exact timesT_lt hr b hb
    · exact textL_lt k ks true hx b hb

set_option maxHeartbeats 4000000 in
theorem textof_any (S : Nat → Prop) (t : Ex) (cs : List Value) (w : World) (ht : Tab w) (h : ReR S w t cs) :
    Calls Tryd.prog 39 #[reV cs] w fun e w' => e = .returned (.tuple #[.string (bsN (printE t)), .bool (isE t)]) ∧ Below w.heap.size w w' := by
  have hh : ReR (fun b => b < w.heap.size) w t cs := h.mono (fun _ _ h => h)
  obtain ⟨k, p0, p1, p2, p3, ks, A, c, lo, hi, htt, rfl, h1, h2, -, -, -, -, -⟩ := hh.fields
  clear htt h
  unfold maxLen at h2
  have hB := (Blk.new w 27 #[.int .i64 k, .int .u64 (p0 : Int), .int .u64 (p1 : Int), .int .u64 (p2 : Int), .int .u64 (p3 : Int), .slice A ks.length c, .int .i64 lo, .int .i64 hi]).alloc (Obj.cells #[.int .i64 0] 76)
  have hG := Blk.new (w.alloc (Obj.cells #[.int .i64 k, .int .u64 (p0 : Int), .int .u64 (p1 : Int), .int .u64 (p2 : Int), .int .u64 (p3 : Int), .slice A ks.length c, .int .i64 lo, .int .i64 hi] 27)) 76 #[.int .i64 0]
  rw [World.size_alloc] at hG
  have hb2 := ext2 w (Obj.cells #[.int .i64 k, .int .u64 (p0 : Int), .int .u64 (p1 : Int), .int .u64 (p2 : Int), .int .u64 (p3 : Int), .slice A ks.length c, .int .i64 lo, .int .i64 hi] 27) (Obj.cells #[.int .i64 0] 76)
  obtain ⟨w1, hw1⟩ : ∃ w1, w1 = (w.alloc (Obj.cells #[.int .i64 k, .int .u64 (p0 : Int), .int .u64 (p1 : Int), .int .u64 (p2 : Int), .int .u64 (p3 : Int), .slice A ks.length c, .int .i64 lo, .int .i64 hi] 27)).alloc (Obj.cells #[.int .i64 0] 76) := ⟨_, rfl⟩
  rw [← hw1] at hB hG hb2
  have hwe := weigh_any (fun b => b < w.heap.size) (w.heap.size + 1) (fun b hb => by omega) t _ w1 1 0 0 (hh.ext hb2) hG (by omega) (by omega) (by omega)
  have hpr : printE t = if isE t then textE t else [] := rfl
  have hise := isE_weigh t
  obtain ⟨res, hres⟩ : ∃ res, weighE 1 0 0 t = res := ⟨_, rfl⟩
  rw [hres] at hwe hise
  have hsmall : ∀ p, res = some p → p.1 ≤ 134217728 ∧ oneE 1 t = true ∧ nodesE t ≤ 128 := fun p hp => by
    rw [hp] at hres
    have h3 := weighE_small (v := p.1) (m := p.2) (by omega) (by omega) hres
    rw [weighE_eq t 1 0 0 (by omega) (by omega)] at hres
    split at hres
    case isTrue hc => exact ⟨by have : (p.2 - 0) * 1048576 ≤ 128 * 1048576 := Nat.mul_le_mul_right _ (by omega); omega, hc.1, by have := hc.2.2; omega⟩
    case isFalse => cases hres
  have happ := fun (cs : List Value) (W : World) (hW : ReR (fun b => b < w.heap.size) W t cs) (hb : Below w.heap.size w W) (h1' : oneE 1 t = true) (hn : nodesE t ≤ 128) =>
    are_any (fun b => b < w.heap.size) w ht (fun b hb => hb) t cs W none 0 0 [] 1 hW ⟨RowO.none_ _ _ _, hb, fun k hk => absurd hk (inA_none k)⟩ h1' (by omega)
  have hlen := textE_len t
  obtain ⟨I, hI⟩ : ∃ I, isE t = I := ⟨_, rfl⟩
  obtain ⟨P, hP⟩ : ∃ P, printE t = P := ⟨_, rfl⟩
  rw [hI] at hise hpr ⊢
  rw [hP] at hpr ⊢
  have Hise := Lib.hid hise
  have Hpr := Lib.hid hpr
  have Hwe := Lib.hid hwe
  have Hsmall := Lib.hid hsmall
  have Happ := Lib.hid happ
  have HB := Lib.hid hB
  have Hh := Lib.hid (hh.ext hb2)
  have Hb2 := Lib.hid hb2
  have Hw1 := Lib.hid hw1
  clear hise hpr hwe hsmall happ hB hG hb2 hI hP hres hh ht hw1
  show Calls Tryd.prog 39 #[.agg #[.int .i64 k, .int .u64 (p0 : Int), .int .u64 (p1 : Int), .int .u64 (p2 : Int), .int .u64 (p3 : Int), .slice A ks.length c, .int .i64 lo, .int .i64 hi]] w _
  have c0 := HB.out.cell 0
  have c1 := HB.out.cell 1
  have c2 := HB.out.cell 2
  have c3 := HB.out.cell 3
  have c4 := HB.out.cell 4
  have c5 := HB.out.cell 5
  have c6 := HB.out.cell 6
  have c7 := HB.out.cell 7
  rw [Hw1.out] at c0 c1 c2 c3 c4 c5 c6 c7
  go_enter Tryd.func39, Tryd.ntmps39
  go_wp2_with fail
  clear c0 c1 c2 c3 c4 c5 c6 c7
  rw [← Hw1.out]
  refine Hwe.out.mono ?_
  rintro e w3 ⟨he, ho3, -⟩
  have HB3 := Lib.hid (HB.out.only ho3 (by omega))
  have Hh3 := Lib.hid (Hh.out.only ho3 (fun b hb => by omega))
  have hb3 : Below w.heap.size w w3 := Hb2.out.trans (ho3.below (fun i hi => by omega) (by have := Hb2.out.size; omega))
  have Hb3 := Lib.hid hb3
  clear ho3 hb3 Hwe HB Hh
  cases res with
  | none =>
    have he' : e = .returned (.tuple #[.int .i64 0, .bool false]) := he
    subst he'
    obtain rfl : I = false := Hise.out
    obtain rfl : P = [] := by rw [Hpr.out]; rfl
    clear he
    go_wp2
    go_ret2
    exact ⟨rfl, Hb3.out⟩
  | some p =>
    obtain ⟨v, m⟩ := p
    have he' : e = .returned (.tuple #[.int .i64 (v : Int), .bool true]) := he
    subst he'
    obtain ⟨hv, hone, hnodes⟩ := Hsmall.out _ rfl
    simp only at hv
    have hIe : I = (decide (v ≤ 1024) && decide ((textE t).length ≤ 1024)) := Hise.out
    clear he Hise Hsmall
    have hvi : (v : Int) ≤ 134217728 := by omega
    rcases Nat.lt_or_ge 1024 v with hv2 | hv2
    · have hvi2 : (1024 : Int) < (v : Int) := by omega
      obtain rfl : I = false := by rw [hIe, show decide (v ≤ 1024) = false by simp; omega]; rfl
      obtain rfl : P = [] := by rw [Hpr.out]; rfl
      clear hIe
      go_wp2
      go_ret2
      exact ⟨rfl, Hb3.out⟩
    · have hvi2 : (v : Int) ≤ 1024 := by omega
      have hIe2 : I = decide ((textE t).length ≤ 1024) := by rw [hIe, show decide (v ≤ 1024) = true by simp; omega]; rfl
      clear hIe
      have c0 := HB3.out.cell 0
      have c1 := HB3.out.cell 1
      have c2 := HB3.out.cell 2
      have c3 := HB3.out.cell 3
      have c4 := HB3.out.cell 4
      have c5 := HB3.out.cell 5
      have c6 := HB3.out.cell 6
      have c7 := HB3.out.cell 7
      have Hone := Lib.hid hone
      have HIe2 := Lib.hid hIe2
      obtain ⟨q, hq⟩ : ∃ q, (textE t).length = q := ⟨_, rfl⟩
      rw [hq] at hlen
      have Hq := Lib.hid hq
      clear hone hIe2 hq
      go_wp2_with fail
      refine (Happ.out _ w3 Hh3.out Hb3.out Hone.out hnodes).mono ?_
      rintro e w4 ⟨A4, c4', rfl, hT4⟩
      have hrd : Rd w4 A4 ((textE t).map nb) := by have := hT4.row.rd; simpa using this
      have hb4 : Below w.heap.size w w4 := Hb3.out.trans (hT4.only.below (fun i hi => absurd hi (inA_none i)) Hb3.out.size)
      have Hb4 := Lib.hid hb4
      have hlt256 : ∀ b ∈ textE t, b < 256 := textE_lt Hone.out
      have kc := conv_nb w4 A4 q c4' (textE t) Hq.out.symm hlt256 hrd
      have Hkc := Lib.hid kc
      rw [Nat.zero_add, Hq.out]
      clear hT4 hb4 hrd kc hlt256 c0 c1 c2 c3 c4 c5 c6 c7
      have hqi : (q : Int) ≤ 309760 := by omega
      rcases Nat.lt_or_ge 1024 q with hq2 | hq2
      · have hqi2 : (1024 : Int) < (q : Int) := by omega
        obtain rfl : I = false := by rw [HIe2.out, Hq.out]; simp; omega
        obtain rfl : P = [] := by rw [Hpr.out]; rfl
        go_wp2
        go_ret2
        exact ⟨rfl, Hb4.out⟩
      · have hqi2 : (q : Int) ≤ 1024 := by omega
        obtain rfl : I = true := by rw [HIe2.out, Hq.out]; simp; omega
        obtain rfl : P = textE t := by rw [Hpr.out]; rfl
        have kc := Hkc.out
        obtain ⟨Z, hZ⟩ : ∃ Z, bsN (textE t) = Z := ⟨_, rfl⟩
        rw [hZ] at kc
        have HZ := Lib.hid hZ
        clear hZ
        go_wp2
        go_ret2
        exact ⟨by rw [HZ.out]; rfl, Hb4.out⟩

set_option maxHeartbeats 1000000 in
theorem pis_any (S : Nat → Prop) (t : Ex) (cs : List Value) (w : World) (ht : Tab w) (h : ReR S w t cs) :
    Calls Tryd.prog 31 #[reV cs] w fun e w' => e = .returned (.bool (isE t)) ∧ Below w.heap.size w w' := by
  obtain ⟨k, p0, p1, p2, p3, ks, A, c, lo, hi, htt, rfl, h1, h2, -, -, -, -, -⟩ := h.fields
  unfold maxLen at h2
  have hba : Below w.heap.size w (w.alloc (Obj.cells #[.int .i64 k, .int .u64 (p0 : Int), .int .u64 (p1 : Int), .int .u64 (p2 : Int), .int .u64 (p3 : Int), .slice A ks.length c, .int .i64 lo, .int .i64 hi] 27)) := (Below.refl _ _).alloc (Nat.le_refl _) _
  have ht' := textof_any S t _ _ (ht.ext hba) (h.ext hba)
  generalize bsN (printE t) = Z at ht'
  generalize isE t = I at ht' ⊢
  have Ht := Lib.hid ht'
  have Hba := Lib.hid hba
  clear ht' h htt ht hba
  show Calls Tryd.prog 31 #[.agg #[.int .i64 k, .int .u64 (p0 : Int), .int .u64 (p1 : Int), .int .u64 (p2 : Int), .int .u64 (p3 : Int), .slice A ks.length c, .int .i64 lo, .int .i64 hi]] w _
  go_enter Tryd.func31, Tryd.ntmps31
  go_wp2_with fail
  refine Ht.out.mono ?_
  rintro e w2 ⟨rfl, hb2⟩
  go_wp2
  go_ret
  exact ⟨rfl, ext_trans Hba.out hb2⟩
end Go.Proofs.YtlddmjhpemihgaaDoor
