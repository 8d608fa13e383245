/-
  Texts of this claim, joined (part 5): contracts and lemmas that the last text goes by. No statement of the seat is proved here.
-/
import Derived.Test.YtmggajpecgnjkaaDoorAll4
import Derived.Test.YtmggajpecgnjkaaDoorAll1
import Derived.Test.YtmggajpecgnjkaaDoorAll2
set_option linter.unusedVariables false
set_option linter.unusedSimpArgs false
/-
  Contracts of the program's appendKid, appendRe. No statement of the seat is proved here.
-/
namespace Go.Proofs.YtmggajpecgnjkaaDoor
open Go Go.RowKit
set_option maxRecDepth 100000

set_option maxHeartbeats 1000000 in
theorem akid_of (T : List Nat) (k' : Int) (q0 q1 q2 q3 : Nat) (A' : Option Addr) (ks' : List Ex) (c' : Nat) (lo' hi' : Int) (gb : Bool) (w : World) (A : Option Addr) (n c : Nat) (xs : List Value)
    (h : RowO w 5 1 A n c xs) (hn : n + T.length ≤ 10000000000)
    (hre : ∀ (W : World) (A1 : Option Addr) (n1 c1 : Nat) (zs : List Value), AppT w A W A1 n1 c1 zs → n1 ≤ n + 1 → Calls Tryd.prog 66 #[.slice A1 n1 c1, .agg #[.int .i64 k', .int .u64 (q0 : Int), .int .u64 (q1 : Int), .int .u64 (q2 : Int), .int .u64 (q3 : Int), .slice A' ks'.length c', .int .i64 lo', .int .i64 hi']] W (Appd W A1 n1 zs T)) :
    Calls Tryd.prog 82 #[.slice A n c, .agg #[.int .i64 k', .int .u64 (q0 : Int), .int .u64 (q1 : Int), .int .u64 (q2 : Int), .int .u64 (q3 : Int), .slice A' ks'.length c', .int .i64 lo', .int .i64 hi'], .bool gb] w (Appd w A n xs (if gb = true then 40 :: (T ++ [41]) else T)) := by
  have hB := Blk.new w 27 #[.int .i64 k', .int .u64 (q0 : Int), .int .u64 (q1 : Int), .int .u64 (q2 : Int), .int .u64 (q3 : Int), .slice A' ks'.length c', .int .i64 lo', .int .i64 hi']
  have T0 := AppT.refl h
  have hlt : ∀ k, inA A k → k < w.heap.size := fun k hk => h.lt hk
  have Hlt := Lib.hid hlt
  have HB := Lib.hid hB
  have Hre := Lib.hid hre
  clear hre hB h hlt
  cases gb with
  | false =>
    rw [if_neg (by simp)]
    have y0 := HB.out.cell 0
    have y1 := HB.out.cell 1
    have y2 := HB.out.cell 2
    have y3 := HB.out.cell 3
    have y4 := HB.out.cell 4
    have y5 := HB.out.cell 5
    have y6 := HB.out.cell 6
    have y7 := HB.out.cell 7
    go_enter Tryd.func82, Tryd.ntmps82
    go_wp2_with fail
    refine (Hre.out _ A n c xs (T0.ext ((Below.refl _ _).alloc (Nat.le_refl _) _)) (by omega)).mono ?_
    rintro e w2 ⟨A2, c2, rfl, hT2⟩
    have T2 := (T0.ext ((Below.refl _ _).alloc (Nat.le_refl _) _)).trans hT2
    clear hT2
    go_wp2
    go_ret
    exact ⟨A2, c2, rfl, T2⟩
  | true =>
    rw [if_pos rfl]
    obtain ⟨q, hq⟩ : ∃ q, T.length = q := ⟨_, rfl⟩
    rw [hq] at hn
    have Hq := Lib.hid hq
    clear hq
    go_enter Tryd.func82, Tryd.ntmps82
    go_wp2_with (refine wpList_appO _ rfl (.tmp 12) (.tmp 13) _ rfl _ _ 1 1 Tryd.underlying44 info_u8 rfl A n c xs rfl (T0.row.ext (by repeat (first | exact Below.refl _ _ | apply ext_alloc))) (some ⟨_, 0, none⟩) 1 1 [nb 40] rfl rfl (Rd.lit_at _ _ _ (by first | rfl | simp)) (by intro u hu; simp at hu; subst hu; rfl) (by intro h; cases h) (by unfold maxLen; omega) (by omega) ?_; intro A1 c1 w1 hr1 ho1 hA1; have T1 := T0.step (by repeat (first | exact Below.refl _ _ | apply ext_alloc)) hr1 ho1 hA1; have HB1 := (HB.out.ext (by repeat (first | exact Below.refl _ _ | apply ext_alloc))).only ho1 (fun hk => absurd (Hlt.out _ hk) (Nat.lt_irrefl _)); have y0 := HB1.cell 0; have y1 := HB1.cell 1; have y2 := HB1.cell 2; have y3 := HB1.cell 3; have y4 := HB1.cell 4; have y5 := HB1.cell 5; have y6 := HB1.cell 6; have y7 := HB1.cell 7; clear hr1 ho1 hA1)
    refine (Hre.out _ A1 (n + 1) c1 _ T1 (by omega)).mono ?_
    rintro e w2 ⟨A2, c2, rfl, hT2⟩
    have T2 := T1.trans hT2
    rw [Hq.out] at T2 ⊢
    clear hT2
    go_wp2_with (refine wpList_appO _ rfl (.tmp 18) (.tmp 19) _ rfl _ _ 1 1 Tryd.underlying44 info_u8 rfl A2 (n + 1 + q) c2 _ rfl (T2.row.ext (by repeat (first | exact Below.refl _ _ | apply ext_alloc))) (some ⟨_, 0, none⟩) 1 1 [nb 41] rfl rfl (Rd.lit_at _ _ _ (by first | rfl | simp)) (by intro u hu; simp at hu; subst hu; rfl) (by intro h; cases h) (by unfold maxLen; omega) (by omega) ?_; intro A3 c3 w3 hr3 ho3 hA3; have T3 := T2.step (by repeat (first | exact Below.refl _ _ | apply ext_alloc)) hr3 ho3 hA3; clear hr3 ho3 hA3)
    go_ret
    exact Appd.mk_ T3 (by simp [Hq.out]; omega) (by simp)

theorem akid_U (U T : List Nat) (k' : Int) (q0 q1 q2 q3 : Nat) (A' : Option Addr) (ks' : List Ex) (c' : Nat) (lo' hi' : Int) (gb : Bool) (w : World) (A : Option Addr) (n c : Nat) (xs : List Value)
    (hU : (if gb = true then 40 :: (T ++ [41]) else T) = U) (h : RowO w 5 1 A n c xs) (hn : n + T.length ≤ 10000000000)
    (hre : ∀ (W : World) (A1 : Option Addr) (n1 c1 : Nat) (zs : List Value), AppT w A W A1 n1 c1 zs → n1 ≤ n + 1 → Calls Tryd.prog 66 #[.slice A1 n1 c1, .agg #[.int .i64 k', .int .u64 (q0 : Int), .int .u64 (q1 : Int), .int .u64 (q2 : Int), .int .u64 (q3 : Int), .slice A' ks'.length c', .int .i64 lo', .int .i64 hi']] W (Appd W A1 n1 zs T)) :
    Calls Tryd.prog 82 #[.slice A n c, .agg #[.int .i64 k', .int .u64 (q0 : Int), .int .u64 (q1 : Int), .int .u64 (q2 : Int), .int .u64 (q3 : Int), .slice A' ks'.length c', .int .i64 lo', .int .i64 hi'], .bool gb] w (Appd w A n xs U) := by
  rw [← hU]
  exact akid_of T k' q0 q1 q2 q3 A' ks' c' lo' hi' gb w A n c xs h hn hre

/-- what is asked of an expression of which appendRe is known -/
def Appends (S : Nat → Prop) (w0 : World) (t : Ex) : Prop := ∀ (cs : List Value) (w : World) (A : Option Addr) (n c : Nat) (xs : List Value) (deep : Nat), ReR S w t cs → NewO w0 w 5 1 A n c xs → oneE deep t = true → n + 2420 * nodesE t ≤ 5000000000 →
    Calls Tryd.prog 66 #[.slice A n c, reV cs] w (Appd w A n xs (textE t))

set_option maxHeartbeats 8000000 in
theorem are_any (S : Nat → Prop) (w0 : World) (ht : Tab w0) (hS : ∀ b, S b → b < w0.heap.size) (t : Ex) : Appends S w0 t := by
  refine ex_induct (p := Appends S w0) (fun k s ks lo hi ih cs w A n c xs deep h hN hone hn => ?_) t
  rw [reR_iff] at h
  obtain ⟨⟨hk, hs, hlo, hhi⟩, B, d, rfl, h1, h2, h3⟩ := h
  obtain ⟨o1, o2, o3⟩ := one_kids hone
  have hlen := textE_len (.mk k s ks lo hi)
  have hno : nodesE (.mk k s ks lo hi) = 1 + nodesL ks := by simp [nodesE]
  rw [hno] at hn hlen
  have hln := length_nodesL ks
  have hli : (ks.length : Int) ≤ 5000000 := by omega
  unfold maxLen at h2
  have hT : textE (.mk k s ks lo hi) = if k = 1 then setT s else if k = 4 then textR lo hi ks else textL k true ks := by simp [textE]
  rw [hT] at hlen ⊢
  have hsep : ∀ b, S b → ¬ inA A b := fun b hb hk => by have := hS b hb; have := hN.2.2 b hk; omega
  have hrow := hN.row
  have HSet := Lib.hid fun (A1 : Option Addr) (n1 c1 : Nat) (zs : List Value) (W : World) (hW : NewO w0 W 5 1 A1 n1 c1 zs) (hb : n1 ≤ 10000000000) => aset_any s hs w0 ht A1 n1 c1 zs W hW hb
  have hkid : ∀ j (hj : j < ks.length), ∀ (wr : World) (Aw : Option Addr) (m cw : Nat) (ys : List Value) (cs : List Value), AppT w A wr Aw m cw ys → ReR S wr ks[j] cs →
      ∀ (W : World) (A1 : Option Addr) (n1 c1 : Nat) (zs : List Value), AppT w A W A1 n1 c1 zs → n1 + 2420 * nodesE ks[j] ≤ 5000000000 → Calls Tryd.prog 66 #[.slice A1 n1 c1, reV cs] W (Appd W A1 n1 zs (textE ks[j])) := fun j hj wr Aw m cw ys cs hT hr W A1 n1 c1 zs hT2 hb => by
    have hNr := AppT.new_ hN hT
    have hNW := AppT.new_ hN hT2
    exact ih _ (List.getElem_mem hj) cs W A1 n1 c1 zs (deep + 1) (ReR.keep (fun b hb _ => (hNW.bel.block b (hS b hb)).trans (hNr.bel.block b (hS b hb)).symm) (fun _ h _ => h) _ hr) hNW (o1 _ (List.getElem_mem hj)) hb
  have Hkid := Lib.hid hkid
  have Hsep := Lib.hid hsep
  have H3 := Lib.hid h3
  have HN := Lib.hid hN
  obtain ⟨p0, p1, p2, p3, rfl⟩ := four_words hs
  have hB := Blk.new w 27 #[.int .i64 k, .int .u64 (p0 : Int), .int .u64 (p1 : Int), .int .u64 (p2 : Int), .int .u64 (p3 : Int), .slice B ks.length d, .int .i64 lo, .int .i64 hi]
  have T0 := (AppT.refl hrow).ext ((Below.refl _ _).alloc (Nat.le_refl _) (Obj.cells #[.int .i64 k, .int .u64 (p0 : Int), .int .u64 (p1 : Int), .int .u64 (p2 : Int), .int .u64 (p3 : Int), .slice B ks.length d, .int .i64 lo, .int .i64 hi] 27))
  have HlA := Lib.hid fun k hk => hrow.lt (k := k) hk
  have Hone := Lib.hid hone
  have O2 := Lib.hid o2
  have O3 := Lib.hid o3
  obtain ⟨w1, hw1⟩ : ∃ w1, w1 = w.alloc (Obj.cells #[.int .i64 k, .int .u64 (p0 : Int), .int .u64 (p1 : Int), .int .u64 (p2 : Int), .int .u64 (p3 : Int), .slice B ks.length d, .int .i64 lo, .int .i64 hi] 27) := ⟨_, rfl⟩
  rw [← hw1] at hB T0
  have HB := Lib.hid hB
  have HT0 := Lib.hid T0
  have Hw1 := Lib.hid hw1
  clear ih h3 hno hone o1 o2 o3 hkid hsep hN hB T0 hrow hT hlo hhi hs ht hk hw1
  have y0 := HB.out.cell 0
  have y1 := HB.out.cell 1
  have y2 := HB.out.cell 2
  have y3 := HB.out.cell 3
  have y4 := HB.out.cell 4
  have y5 := HB.out.cell 5
  have y6 := HB.out.cell 6
  have y7 := HB.out.cell 7
  show Calls Tryd.prog 66 #[.slice A n c, .agg #[.int .i64 k, .int .u64 (p0 : Int), .int .u64 (p1 : Int), .int .u64 (p2 : Int), .int .u64 (p3 : Int), .slice B ks.length d, .int .i64 lo, .int .i64 hi]] w _
  rcases (show k = 0 ∨ k = 1 ∨ k = 2 ∨ k = 3 ∨ k = 4 from O3.out) with rfl | rfl | rfl | rfl | rfl
  · have hks : ks = [] := by have := Hone.out; simp [oneE] at this; exact this.2
    subst hks
    rw [if_neg (by omega), if_neg (by omega)] at hlen ⊢
    rw [Hw1.out] at HT0 HB
    clear y0 y1 y2 y3 y4 y5 y6 y7
    go_enter Tryd.func66, Tryd.ntmps66
    go_wp2
    go_ret
    exact Appd.mk_ HT0.out rfl (by simp [textL])
  · rw [if_pos rfl] at hlen ⊢
    rw [Hw1.out] at y0 y1 y2 y3 y4 HT0
    go_enter Tryd.func66, Tryd.ntmps66
    go_wp2_with fail
    refine (HSet.out A n c xs _ (AppT.new_ HN.out HT0.out) (by omega)).mono ?_
    rintro e w2 ⟨A2, c2, rfl, hT2⟩
    have T2 := HT0.out.trans hT2
    clear hT2 y0 y1 y2 y3 y4
    go_wp2
    go_ret
    exact ⟨A2, c2, rfl, T2⟩
  · rw [if_neg (by omega), if_neg (by omega)] at hlen ⊢
    have hnl : ∀ j, (textL 2 true (ks.take j)).length ≤ 2420 * nodesL (ks.take j) := fun j => textL_len 2 _ true (fun x _ => textE_len x)
    have Hnl := Lib.hid hnl
    rw [Hw1.out] at y0 y5
    clear hnl y1 y2 y3 y4 y6 y7
    go_enter Tryd.func66, Tryd.ntmps66
    go_wp2
    rw [← Hw1.out]
    rw [← Hw1.out] at y0 y5
    go_loopw [0, 23] (fun bv i wr => ∃ (j q : Nat) (Aw : Option Addr) (cw : Nat), j ≤ ks.length ∧ i = .int .i64 (j : Int) ∧ bv = .slice Aw (n + q) cw ∧ Hid (q = (textL 2 true (ks.take j)).length) ∧ Hid (AppT w A wr Aw (n + q) cw (xs ++ (textL 2 true (ks.take j)).map nb))) (fun _ i _ => ks.length - (intOf i).toNat)
    case atStart => exact ⟨0, 0, A, c, Nat.zero_le _, rfl, rfl, Lib.hid (by simp [textL]), Lib.hid (by simpa [textL] using HT0.out)⟩
    case round =>
      clear y0 y5
      obtain ⟨j, q, Aw, cw, hj, rfl, rfl, hq, hT⟩ := hrel
      have hqb : q ≤ 2420 * nodesL (ks.take j) := by rw [hq.out]; exact Hnl.out j
      by_cases hlt : j < ks.length
      · have hji : (j : Int) < (ks.length : Int) := by omega
        have hsum := nodesL_take ks j hlt
        have hle := nodesL_take_le ks (j + 1)
        have hqt := nodesL_take_le ks j
        have hkl := textE_len ks[j]
        have hstep := textL_take 2 ks j hlt
        have hKw := H3.out.only (hT.out.only) (fun b hb => Hsep.out b hb)
        obtain ⟨g', o, k', q0, q1, q2, q3, ks', A', c', lo', hi', rfl, hx, hr, x0, x1, x2, x3, x4, x5, x6, x7, hsg⟩ := hKw.kidX hlt
        have hxk : ks[j].kind = k' := by rw [hx]; rfl
        rw [hxk] at hstep
        have hcall := Hkid.out j hlt wr Aw (n + q) cw _ _ hT.out hr
        have Hcall := Lib.hid hcall
        have Hstep := Lib.hid hstep
        clear hcall hstep hr hKw hx hxk
        obtain ⟨gb, hgb⟩ : ∃ gb, inB 2 k' = gb := ⟨_, rfl⟩
        have Hgb := Lib.hid hgb
        clear hgb
        obtain ⟨U, hU⟩ : ∃ U, (if gb = true then 40 :: (textE ks[j] ++ [41]) else textE ks[j]) = U := ⟨_, rfl⟩
        have HU := Lib.hid hU
        have hUl : U.length ≤ (textE ks[j]).length + 2 := by rw [← hU]; split <;> simp
        have hstep := Hstep.out
        rw [Hgb.out, hU] at hstep
        clear Hstep hU
        have Hstep := Lib.hid hstep
        clear hstep
        rcases (show k' = 2 ∨ k' = 3 ∨ k' = 0 ∨ (k' ≠ 2 ∧ k' ≠ 3 ∧ k' ≠ 0) by omega) with hk' | hk' | hk' | ⟨hk2, hk3, hk0⟩
        case inr.inr.inr =>
          have e2 : (k' == 2) = false := by simpa using hk2
          have e3 : (k' == 3) = false := by simpa using hk3
          have e0 : (k' == 0) = false := by simpa using hk0
          obtain rfl : gb = false := by rw [← Hgb.out]; simp [inB, hk2, hk3, hk0]
          clear hk2 hk3 hk0
          go_wp2_with fail
          refine (akid_U U (textE ks[j]) _ q0 q1 q2 q3 A' ks' c' lo' hi' false _ Aw (n + q) cw _ HU.out (hT.out.row.ext (by repeat (first | exact Below.refl _ _ | apply ext_alloc))) (by omega) (fun W A1 n1 c1 zs hT2 hn1 => Hcall.out W A1 n1 c1 zs ((hT.out.ext (by repeat (first | exact Below.refl _ _ | apply ext_alloc))).trans hT2) (by omega))).mono ?_
          rintro e w5 ⟨A5, c5, rfl, hT5⟩
          have T5 := (hT.out.ext ((Below.refl _ _).alloc (Nat.le_refl _) _)).trans hT5
          have HT5 := Lib.hid T5
          clear hT5 T5
          go_wp2
          go_roundw
          case rel => exact ⟨j + 1, q + U.length, _, _, by omega, by go_num, by congr 1; omega, Lib.hid (by rw [Hstep.out]; simp [← hq.out]), Lib.hid (by rw [Hstep.out]; exact HT5.out.cast (by omega) (by simp))⟩
          case measure => simp [intOf]; omega
        all_goals
          subst hk'
          obtain rfl : gb = true := by rw [← Hgb.out]; simp [inB]
          go_wp2_with fail
          refine (akid_U U (textE ks[j]) _ q0 q1 q2 q3 A' ks' c' lo' hi' true _ Aw (n + q) cw _ HU.out (hT.out.row.ext (by repeat (first | exact Below.refl _ _ | apply ext_alloc))) (by omega) (fun W A1 n1 c1 zs hT2 hn1 => Hcall.out W A1 n1 c1 zs ((hT.out.ext (by repeat (first | exact Below.refl _ _ | apply ext_alloc))).trans hT2) (by omega))).mono ?_
          rintro e w5 ⟨A5, c5, rfl, hT5⟩
          have T5 := (hT.out.ext ((Below.refl _ _).alloc (Nat.le_refl _) _)).trans hT5
          have HT5 := Lib.hid T5
          clear hT5 T5
          go_wp2
          go_roundw
          case rel => exact ⟨j + 1, q + U.length, _, _, by omega, by go_num, by congr 1; omega, Lib.hid (by rw [Hstep.out]; simp [← hq.out]), Lib.hid (by rw [Hstep.out]; exact HT5.out.cast (by omega) (by simp))⟩
          case measure => simp [intOf]; omega

      · obtain rfl : j = ks.length := by omega
        rw [List.take_length] at hT hq
        go_wp2
        go_ret
        exact Appd.mk_ hT.out (by rw [hq.out]) rfl
  · rw [if_neg (by omega), if_neg (by omega)] at hlen ⊢
    have hnl : ∀ j, (textL 3 true (ks.take j)).length ≤ 2420 * nodesL (ks.take j) := fun j => textL_len 3 _ true (fun x _ => textE_len x)
    have Hnl := Lib.hid hnl
    rw [Hw1.out] at y0 y5
    clear hnl y1 y2 y3 y4 y6 y7
    go_enter Tryd.func66, Tryd.ntmps66
    go_wp2
    rw [← Hw1.out]
    rw [← Hw1.out] at y0 y5
    go_loopw [0, 49] (fun bv i wr => ∃ (j q : Nat) (Aw : Option Addr) (cw : Nat), j ≤ ks.length ∧ i = .int .i64 (j : Int) ∧ bv = .slice Aw (n + q) cw ∧ Hid (q = (textL 3 true (ks.take j)).length) ∧ Hid (AppT w A wr Aw (n + q) cw (xs ++ (textL 3 true (ks.take j)).map nb))) (fun _ i _ => ks.length - (intOf i).toNat)
    case atStart => exact ⟨0, 0, A, c, Nat.zero_le _, rfl, rfl, Lib.hid (by simp [textL]), Lib.hid (by simpa [textL] using HT0.out)⟩
    case round =>
      clear y0 y5
      obtain ⟨j, q, Aw, cw, hj, rfl, rfl, hq, hT⟩ := hrel
      have hqb : q ≤ 2420 * nodesL (ks.take j) := by rw [hq.out]; exact Hnl.out j
      by_cases hlt : j < ks.length
      · have hji : (j : Int) < (ks.length : Int) := by omega
        have hsum := nodesL_take ks j hlt
        have hle := nodesL_take_le ks (j + 1)
        have hqt := nodesL_take_le ks j
        have hkl := textE_len ks[j]
        have hstep := textL_take 3 ks j hlt
        have hKw := H3.out.only (hT.out.only) (fun b hb => Hsep.out b hb)
        obtain ⟨g', o, k', q0, q1, q2, q3, ks', A', c', lo', hi', rfl, hx, hr, x0, x1, x2, x3, x4, x5, x6, x7, hsg⟩ := hKw.kidX hlt
        have hxk : ks[j].kind = k' := by rw [hx]; rfl
        rw [hxk] at hstep
        have hcall := Hkid.out j hlt wr Aw (n + q) cw _ _ hT.out hr
        have Hcall := Lib.hid hcall
        have Hstep := Lib.hid hstep
        clear hcall hstep hr hKw hx hxk
        obtain ⟨gb, hgb⟩ : ∃ gb, inB 3 k' = gb := ⟨_, rfl⟩
        have Hgb := Lib.hid hgb
        have hgv : (k' == 3) = gb := by rw [← hgb, Bool.eq_iff_iff]; simp [inB]
        clear hgb
        obtain ⟨U, hU⟩ : ∃ U, (if gb = true then 40 :: (textE ks[j] ++ [41]) else textE ks[j]) = U := ⟨_, rfl⟩
        have HU := Lib.hid hU
        have hUl : U.length ≤ (textE ks[j]).length + 2 := by rw [← hU]; split <;> simp
        have hstep := Hstep.out
        rw [Hgb.out, hU] at hstep
        clear Hstep hU
        have Hstep := Lib.hid hstep
        clear hstep
        rcases Nat.eq_zero_or_pos j with hj0 | hj0
        · have hjd : decide ((0 : Int) < (j : Int)) = false := by simp; omega
          have hjd2 : (j : Int) ≤ 0 := by omega
          have hst := Hstep.out
          rw [if_neg (by omega)] at hst
          have Hj0 := Lib.hid hj0
          clear hj0
          go_wp2_with fail
          refine (akid_U U (textE ks[j]) _ q0 q1 q2 q3 A' ks' c' lo' hi' gb _ Aw (n + q) cw _ HU.out (hT.out.row.ext (by repeat (first | exact Below.refl _ _ | apply ext_alloc))) (by omega) (fun W A1 n1 c1 zs hT2 hn1 => Hcall.out W A1 n1 c1 zs ((hT.out.ext (by repeat (first | exact Below.refl _ _ | apply ext_alloc))).trans hT2) (by omega))).mono ?_
          rintro e w5 ⟨A5, c5, rfl, hT5⟩
          have T5 := (hT.out.ext ((Below.refl _ _).alloc (Nat.le_refl _) _)).trans hT5
          have HT5 := Lib.hid T5
          have Hst := Lib.hid hst
          clear hT5 T5 hst
          go_wp2
          go_roundw
          case rel => exact ⟨j + 1, q + U.length, _, _, by omega, by go_num, by congr 1; omega, Lib.hid (by rw [Hst.out]; simp [← hq.out]), Lib.hid (by rw [Hst.out]; exact HT5.out.cast (by omega) (by simp))⟩
          case measure => simp [intOf]; omega
        · have hjd2 : (0 : Int) < (j : Int) := by omega
          have hst := Hstep.out
          rw [if_pos ⟨rfl, hj0⟩] at hst
          have Hst := Lib.hid hst
          have TT := hT.out
          have HK := Lib.hid (Blk.new wr 27 #[.int .i64 k', .int .u64 (q0 : Int), .int .u64 (q1 : Int), .int .u64 (q2 : Int), .int .u64 (q3 : Int), .slice A' ks'.length c', .int .i64 lo', .int .i64 hi'])
          clear hst
          go_wp2_with (refine wpList_appO _ rfl (.tmp 56) (.tmp 57) _ rfl _ _ 1 1 Tryd.underlying44 info_u8 rfl Aw (n + q) cw _ rfl (TT.row.ext (by repeat (first | exact Below.refl _ _ | apply ext_alloc))) (some ⟨_, 0, none⟩) 1 1 [nb 124] rfl rfl (Rd.lit_at _ _ _ (by first | rfl | simp)) (by intro u hu; simp at hu; subst hu; rfl) (by intro h; cases h) (by unfold maxLen; omega) (by omega) ?_; intro A4 c4 w4 hr4 ho4 hA4; have T4 := TT.step (by repeat (first | exact Below.refl _ _ | apply ext_alloc)) hr4 ho4 hA4; have HK4 := (HK.out.ext (by repeat (first | exact Below.refl _ _ | apply ext_alloc))).only ho4 (fun hk => absurd (hT.out.row.lt hk) (Nat.lt_irrefl _)); have z0 := HK4.cell 0; have z1 := HK4.cell 1; have z2 := HK4.cell 2; have z3 := HK4.cell 3; have z4 := HK4.cell 4; have z5 := HK4.cell 5; have z6 := HK4.cell 6; have z7 := HK4.cell 7; clear HK4; clear hr4 ho4 hA4)
          refine (akid_U U (textE ks[j]) _ q0 q1 q2 q3 A' ks' c' lo' hi' gb _ A4 (n + q + 1) c4 _ HU.out T4.row (by omega) (fun W A1 n1 c1 zs hT2 hn1 => Hcall.out W A1 n1 c1 zs (T4.trans hT2) (by omega))).mono ?_
          rintro e w5 ⟨A5, c5, rfl, hT5⟩
          have T5 := T4.trans hT5
          have HT5 := Lib.hid T5
          clear hT5 T5 T4 z0 z1 z2 z3 z4 z5 z6 z7
          go_wp2
          go_roundw
          case rel => exact ⟨j + 1, q + 1 + U.length, _, _, by omega, by go_num, by congr 1; omega, Lib.hid (by rw [Hst.out]; simp [← hq.out]; omega), Lib.hid (by rw [Hst.out]; exact HT5.out.cast (by omega) (by simp))⟩
          case measure => simp [intOf]; omega

      · obtain rfl : j = ks.length := by omega
        rw [List.take_length] at hT hq
        go_wp2
        go_ret
        exact Appd.mk_ hT.out (by rw [hq.out]) rfl
  · rw [if_neg (by omega), if_pos rfl] at hlen ⊢
    obtain ⟨hl1, hrep⟩ := O2.out rfl
    obtain ⟨x, rfl⟩ := List.length_eq_one_iff.1 hl1
    obtain ⟨g', o, k', q0, q1, q2, q3, ks', A', c', lo', hi', rfl, hx, hr, x0, x1, x2, x3, x4, x5, x6, x7, hsg⟩ := (H3.out.only HT0.out.only (fun b hb => Hsep.out b hb)).kidX (k := 0) (by simp)
    rw [Nat.zero_mul, Nat.add_zero] at x0 x1 x2 x3 x4 x5 x6 x7
    simp only [List.getElem_cons_zero] at hx hr
    have hxk : x.kind = k' := by rw [hx]; rfl
    have hRr : textR lo hi [x] = (if k' = 1 then textE x else 40 :: (textE x ++ [41])) ++ timesT lo hi := by simp [textR, hxk]
    have hkl := textE_len x
    have hkn : nodesL [x] = nodesE x := by simp [nodesL]
    rw [hkn] at hn
    have hcall := Hkid.out 0 (by simp) w1 A n c _ _ HT0.out hr
    simp only [List.getElem_cons_zero] at hcall
    have Hcall := Lib.hid hcall
    have htl := timesT_len lo hi
    obtain ⟨gb, hgb⟩ : ∃ gb, (k' != 1) = gb := ⟨_, rfl⟩
    have hTx : (if k' = 1 then textE x else 40 :: (textE x ++ [41])) = (if gb = true then 40 :: (textE x ++ [41]) else textE x) := by
      rw [← hgb]
      by_cases h : k' = 1 <;> simp [h]
    rw [hRr, hTx]
    obtain ⟨U, hU⟩ : ∃ U, (if gb = true then 40 :: (textE x ++ [41]) else textE x) = U := ⟨_, rfl⟩
    rw [hU]
    have hUl : U.length ≤ (textE x).length + 2 := by rw [← hU]; split <;> simp
    have HU := Lib.hid hU
    have HB1 := Lib.hid (HB.out.alloc (Obj.cells #[.int .i64 k', .int .u64 (q0 : Int), .int .u64 (q1 : Int), .int .u64 (q2 : Int), .int .u64 (q3 : Int), .slice A' ks'.length c', .int .i64 lo', .int .i64 hi'] 27))
    have HB2 := Lib.hid (Blk.new w1 27 #[.int .i64 k', .int .u64 (q0 : Int), .int .u64 (q1 : Int), .int .u64 (q2 : Int), .int .u64 (q3 : Int), .slice A' ks'.length c', .int .i64 lo', .int .i64 hi'])
    have hw1 : w1 = w.alloc (Obj.cells #[.int .i64 4, .int .u64 (p0 : Int), .int .u64 (p1 : Int), .int .u64 (p2 : Int), .int .u64 (p3 : Int), .slice (some ⟨g', o, none⟩) 1 d, .int .i64 lo, .int .i64 hi] 27) := Hw1.out
    have Hw2 := Lib.hid hw1
    rw [hw1] at y0 y5 x0 x1 x2 x3 x4 x5 x6 x7
    clear hw1
    show Calls Tryd.prog 66 #[.slice A n c, .agg #[.int .i64 4, .int .u64 (p0 : Int), .int .u64 (p1 : Int), .int .u64 (p2 : Int), .int .u64 (p3 : Int), .slice (some ⟨g', o, none⟩) 1 d, .int .i64 lo, .int .i64 hi]] w _
    clear hcall hr hx hxk hRr hTx hU hsg y1 y2 y3 y4 y6 y7
    go_enter Tryd.func66, Tryd.ntmps66
    go_wp2_with fail
    rw [← Hw2.out]
    refine (akid_U U (textE x) k' q0 q1 q2 q3 A' ks' c' lo' hi' gb _ A n c _ HU.out (HT0.out.row.ext (by repeat (first | exact Below.refl _ _ | apply ext_alloc))) (by omega) (fun W A1 n1 c1 zs hT2 hn1 => Hcall.out W A1 n1 c1 zs ((HT0.out.ext (by repeat (first | exact Below.refl _ _ | apply ext_alloc))).trans hT2) (by omega))).mono ?_
    rintro e w5 ⟨A5, c5, rfl, hT5⟩
    have HB5 := HB1.out.only hT5.only (fun hk => by have := HlA.out _ hk; have h9 := HB.out.lt; have := (Below.refl w.heap.size w).size; omega)
    have T5 := (HT0.out.ext ((Below.refl _ _).alloc (Nat.le_refl _) _)).trans hT5
    have d6 := HB5.cell 6
    have d7 := HB5.cell 7
    clear hT5 HB5 y0 y5 x0 x1 x2 x3 x4 x5 x6 x7
    obtain ⟨u, hu⟩ : ∃ u, U.length = u := ⟨_, rfl⟩
    rw [hu] at T5 hUl ⊢
    have Hu := Lib.hid hu
    clear hu
    go_wp2_with fail
    refine (atimes_any lo hi hrep A5 (n + u) _ _ w5 T5.row (by omega)).mono ?_
    rintro e w6 ⟨A6, c6, rfl, hT6⟩
    have T6 := T5.trans hT6
    clear hT6 d6 d7
    go_wp2
    go_ret
    exact Appd.mk_ T6 (by rw [List.length_append, Hu.out]; omega) (by simp)
end Go.Proofs.YtmggajpecgnjkaaDoor

/-
  Contracts of the program's textOf, Is, Print. No statement of the seat is proved here.
-/
namespace Go.Proofs.YtmggajpecgnjkaaDoor
open Go Go.RowKit
set_option maxRecDepth 100000

theorem printE_if (t : Ex) : printE t = if isE t then textE t else [] := rfl
theorem isE_one {t : Ex} (h : isE t = true) : oneE 1 t = true ∧ nodesE t ≤ 128 := by
  simp only [isE, Bool.and_eq_true, decide_eq_true_eq] at h
  exact ⟨h.1.1.1.1, h.1.1.1.2⟩

/-! ### all that is printed is bytes -/
theorem rowsT_lt {l : List (Nat × Nat)} (h : ∀ p ∈ l, p.1 < 256 ∧ p.2 < 256) : ∀ b ∈ rowsT l, b < 256 := by
  intro b hb
  obtain ⟨p, hp, hb⟩ := List.mem_flatMap.1 hb
  have hh := h p hp
  unfold rowT at hb
  rcases List.mem_append.1 hb with hb | hb
  · exact signB_lt hh.1 b hb
  · split at hb
    · rcases List.mem_cons.1 hb with rfl | hb
      · omega
      · exact signB_lt hh.2 b hb
    · cases hb
theorem setT_lt (s : List Nat) : ∀ b ∈ setT s, b < 256 := by
  intro b hb
  unfold setT at hb
  split at hb
  · rename_i h1
    obtain ⟨c, hc⟩ := List.length_eq_one_iff.1 h1
    rw [hc] at hb
    exact signB_lt (listB_lt (ws := s) (by rw [hc]; simp)) b hb
  · split at hb
    · simp at hb; omega
    · simp only [List.mem_cons, List.mem_append, List.not_mem_nil, or_false] at hb
      rcases hb with rfl | hb | rfl
      · omega
      · exact rowsT_lt (rowsB_lt (fun b hb => listB_lt hb)) b hb
      · omega
theorem timesT_lt {lo hi : Int} (h : repB lo hi = true) : ∀ b ∈ timesT lo hi, b < 256 := by
  rw [rep_iff] at h
  have h1 := twoB_lt (n := lo.toNat) (by omega)
  have h2 := twoB_lt (n := hi.toNat) (by omega)
  intro b hb
  unfold timesT at hb
  repeat' split at hb
  all_goals simp only [List.mem_cons, List.mem_append, List.not_mem_nil, or_false] at hb
  · omega
  · omega
  · omega
  · rcases hb with rfl | hb | rfl
    · omega
    · exact h1 b hb
    · omega
  · rcases hb with rfl | hb | rfl | rfl
    · omega
    · exact h1 b hb
    · omega
    · omega
  · rcases hb with rfl | hb | rfl | hb | rfl
    · omega
    · exact h1 b hb
    · omega
    · exact h2 b hb
    · omega
theorem textL_lt (k : Int) (l : List Ex) : ∀ f, (∀ x ∈ l, ∀ b ∈ textE x, b < 256) → ∀ b ∈ textL k f l, b < 256 := by
  induction l with
  | nil => intro f _ b hb; simp [textL] at hb
  | cons x r ih =>
    intro f h b hb
    simp only [textL, List.mem_append] at hb
    rcases hb with (hb | hb) | hb
    · split at hb
      · simp at hb; omega
      · cases hb
    · split at hb
      · simp only [List.mem_cons, List.mem_append, List.not_mem_nil, or_false] at hb
        rcases hb with rfl | hb | rfl
        · omega
        · exact h x (by simp) b hb
        · omega
      · exact h x (by simp) b hb
    · exact ih false (fun y hy => h y (by simp [hy])) b hb
theorem textE_lt {t : Ex} : ∀ {deep : Nat}, oneE deep t = true → ∀ b ∈ textE t, b < 256 := by
  refine ex_induct (p := fun t => ∀ {deep : Nat}, oneE deep t = true → ∀ b ∈ textE t, b < 256) (fun k s ks lo hi ih deep h b hb => ?_) t
  obtain ⟨o1, o2, o3⟩ := one_kids h
  have hx : ∀ x ∈ ks, ∀ b ∈ textE x, b < 256 := fun x hx => ih x hx (o1 x hx)
  simp only [textE] at hb
  split at hb
  · exact setT_lt s b hb
  · split at hb
    · rename_i h4
      obtain ⟨hl, hr⟩ := o2 h4
      obtain ⟨x, rfl⟩ := List.length_eq_one_iff.1 hl
      simp only [textR, List.mem_append] at hb
      rcases hb with hb | hb
      · split at hb
        · exact hx x (by simp) b hb
        · simp only [List.mem_cons, List.mem_append, List.not_mem_nil, or_false] at hb
          rcases hb with rfl | hb | rfl
          · omega
          · exact hx x (by simp) b hb
          · omega
      · exact timesT_lt hr b hb
    · exact textL_lt k ks true hx b hb

set_option maxHeartbeats 4000000 in
theorem textof_any (S : Nat → Prop) (t : Ex) (cs : List Value) (w : World) (ht : Tab w) (h : ReR S w t cs) :
    Calls Tryd.prog 44 #[reV cs] w fun e w' => e = .returned (.tuple #[.string (bsN (printE t)), .bool (isE t)]) ∧ Below w.heap.size w w' := by
  have hh : ReR (fun b => b < w.heap.size) w t cs := h.mono (fun _ _ h => h)
  obtain ⟨k, p0, p1, p2, p3, ks, A, c, lo, hi, htt, rfl, h1, h2, -, -, -, -, -⟩ := hh.fields
  clear htt h
  unfold maxLen at h2
  have hB := (Blk.new w 27 #[.int .i64 k, .int .u64 (p0 : Int), .int .u64 (p1 : Int), .int .u64 (p2 : Int), .int .u64 (p3 : Int), .slice A ks.length c, .int .i64 lo, .int .i64 hi]).alloc (Obj.cells #[.int .i64 0] 84)
  have hG := Blk.new (w.alloc (Obj.cells #[.int .i64 k, .int .u64 (p0 : Int), .int .u64 (p1 : Int), .int .u64 (p2 : Int), .int .u64 (p3 : Int), .slice A ks.length c, .int .i64 lo, .int .i64 hi] 27)) 84 #[.int .i64 0]
  rw [World.size_alloc] at hG
  have hb2 := ext2 w (Obj.cells #[.int .i64 k, .int .u64 (p0 : Int), .int .u64 (p1 : Int), .int .u64 (p2 : Int), .int .u64 (p3 : Int), .slice A ks.length c, .int .i64 lo, .int .i64 hi] 27) (Obj.cells #[.int .i64 0] 84)
  obtain ⟨w1, hw1⟩ : ∃ w1, w1 = (w.alloc (Obj.cells #[.int .i64 k, .int .u64 (p0 : Int), .int .u64 (p1 : Int), .int .u64 (p2 : Int), .int .u64 (p3 : Int), .slice A ks.length c, .int .i64 lo, .int .i64 hi] 27)).alloc (Obj.cells #[.int .i64 0] 84) := ⟨_, rfl⟩
  rw [← hw1] at hB hG hb2
  have hwe := weigh_any (fun b => b < w.heap.size) (w.heap.size + 1) (fun b hb => by omega) t _ w1 1 0 0 (hh.ext hb2) hG (by omega) (by omega) (by omega)
  have hpr : printE t = if isE t then textE t else [] := rfl
  have hise := isE_weigh t
  obtain ⟨res, hres⟩ : ∃ res, weighE 1 0 0 t = res := ⟨_, rfl⟩
  rw [hres] at hwe hise
  have hsmall : ∀ p, res = some p → p.1 ≤ 134217728 ∧ oneE 1 t = true ∧ nodesE t ≤ 128 := fun p hp => by
    rw [hp] at hres
    have h3 := weighE_small (v := p.1) (m := p.2) (by omega) (by omega) hres
    rw [weighE_eq t 1 0 0 (by omega) (by omega)] at hres
    split at hres
    case isTrue hc => exact ⟨by have : (p.2 - 0) * 1048576 ≤ 128 * 1048576 := Nat.mul_le_mul_right _ (by omega); omega, hc.1, by have := hc.2.2; omega⟩
    case isFalse => cases hres
  have happ := fun (cs : List Value) (W : World) (hW : ReR (fun b => b < w.heap.size) W t cs) (hb : Below w.heap.size w W) (h1' : oneE 1 t = true) (hn : nodesE t ≤ 128) =>
    are_any (fun b => b < w.heap.size) w ht (fun b hb => hb) t cs W none 0 0 [] 1 hW ⟨RowO.none_ _ _ _, hb, fun k hk => absurd hk (inA_none k)⟩ h1' (by omega)
  have hlen := textE_len t
  obtain ⟨I, hI⟩ : ∃ I, isE t = I := ⟨_, rfl⟩
  obtain ⟨P, hP⟩ : ∃ P, printE t = P := ⟨_, rfl⟩
  rw [hI] at hise hpr ⊢
  rw [hP] at hpr ⊢
  have Hise := Lib.hid hise
  have Hpr := Lib.hid hpr
  have Hwe := Lib.hid hwe
  have Hsmall := Lib.hid hsmall
  have Happ := Lib.hid happ
  have HB := Lib.hid hB
  have Hh := Lib.hid (hh.ext hb2)
  have Hb2 := Lib.hid hb2
  have Hw1 := Lib.hid hw1
  clear hise hpr hwe hsmall happ hB hG hb2 hI hP hres hh ht hw1
  show Calls Tryd.prog 44 #[.agg #[.int .i64 k, .int .u64 (p0 : Int), .int .u64 (p1 : Int), .int .u64 (p2 : Int), .int .u64 (p3 : Int), .slice A ks.length c, .int .i64 lo, .int .i64 hi]] w _
  have c0 := HB.out.cell 0
  have c1 := HB.out.cell 1
  have c2 := HB.out.cell 2
  have c3 := HB.out.cell 3
  have c4 := HB.out.cell 4
  have c5 := HB.out.cell 5
  have c6 := HB.out.cell 6
  have c7 := HB.out.cell 7
  rw [Hw1.out] at c0 c1 c2 c3 c4 c5 c6 c7
  go_enter Tryd.func44, Tryd.ntmps44
  go_wp2_with fail
  clear c0 c1 c2 c3 c4 c5 c6 c7
  rw [← Hw1.out]
  refine Hwe.out.mono ?_
  rintro e w3 ⟨he, ho3, -⟩
  have HB3 := Lib.hid (HB.out.only ho3 (by omega))
  have Hh3 := Lib.hid (Hh.out.only ho3 (fun b hb => by omega))
  have hb3 : Below w.heap.size w w3 := Hb2.out.trans (ho3.below (fun i hi => by omega) (by have := Hb2.out.size; omega))
  have Hb3 := Lib.hid hb3
  clear ho3 hb3 Hwe HB Hh
  cases res with
  | none =>
    have he' : e = .returned (.tuple #[.int .i64 0, .bool false]) := he
    subst he'
    obtain rfl : I = false := Hise.out
    obtain rfl : P = [] := by rw [Hpr.out]; rfl
    clear he
    go_wp2
    go_ret2
    exact ⟨rfl, Hb3.out⟩
  | some p =>
    obtain ⟨v, m⟩ := p
    have he' : e = .returned (.tuple #[.int .i64 (v : Int), .bool true]) := he
    subst he'
    obtain ⟨hv, hone, hnodes⟩ := Hsmall.out _ rfl
    simp only at hv
    have hIe : I = (decide (v ≤ 1024) && decide ((textE t).length ≤ 1024)) := Hise.out
    clear he Hise Hsmall
    have hvi : (v : Int) ≤ 134217728 := by omega
    rcases Nat.lt_or_ge 1024 v with hv2 | hv2
    · have hvi2 : (1024 : Int) < (v : Int) := by omega
      obtain rfl : I = false := by rw [hIe, show decide (v ≤ 1024) = false by simp; omega]; rfl
      obtain rfl : P = [] := by rw [Hpr.out]; rfl
      clear hIe
      go_wp2
      go_ret2
      exact ⟨rfl, Hb3.out⟩
    · have hvi2 : (v : Int) ≤ 1024 := by omega
      have hIe2 : I = decide ((textE t).length ≤ 1024) := by rw [hIe, show decide (v ≤ 1024) = true by simp; omega]; rfl
      clear hIe
      have c0 := HB3.out.cell 0
      have c1 := HB3.out.cell 1
      have c2 := HB3.out.cell 2
      have c3 := HB3.out.cell 3
      have c4 := HB3.out.cell 4
      have c5 := HB3.out.cell 5
      have c6 := HB3.out.cell 6
      have c7 := HB3.out.cell 7
      have Hone := Lib.hid hone
      have HIe2 := Lib.hid hIe2
      obtain ⟨q, hq⟩ : ∃ q, (textE t).length = q := ⟨_, rfl⟩
      rw [hq] at hlen
      have Hq := Lib.hid hq
      clear hone hIe2 hq
      go_wp2_with fail
      refine (Happ.out _ w3 Hh3.out Hb3.out Hone.out hnodes).mono ?_
      rintro e w4 ⟨A4, c4', rfl, hT4⟩
      have hrd : Rd w4 A4 ((textE t).map nb) := by have := hT4.row.rd; simpa using this
      have hb4 : Below w.heap.size w w4 := Hb3.out.trans (hT4.only.below (fun i hi => absurd hi (inA_none i)) Hb3.out.size)
      have Hb4 := Lib.hid hb4
      have hlt256 : ∀ b ∈ textE t, b < 256 := textE_lt Hone.out
      have kc := conv_nb w4 A4 q c4' (textE t) Hq.out.symm hlt256 hrd
      have Hkc := Lib.hid kc
      rw [Nat.zero_add, Hq.out]
      clear hT4 hb4 hrd kc hlt256 c0 c1 c2 c3 c4 c5 c6 c7
      have hqi : (q : Int) ≤ 309760 := by omega
      rcases Nat.lt_or_ge 1024 q with hq2 | hq2
      · have hqi2 : (1024 : Int) < (q : Int) := by omega
        obtain rfl : I = false := by rw [HIe2.out, Hq.out]; simp; omega
        obtain rfl : P = [] := by rw [Hpr.out]; rfl
        go_wp2
        go_ret2
        exact ⟨rfl, Hb4.out⟩
      · have hqi2 : (q : Int) ≤ 1024 := by omega
        obtain rfl : I = true := by rw [HIe2.out, Hq.out]; simp; omega
        obtain rfl : P = textE t := by rw [Hpr.out]; rfl
        have kc := Hkc.out
        obtain ⟨Z, hZ⟩ : ∃ Z, bsN (textE t) = Z := ⟨_, rfl⟩
        rw [hZ] at kc
        have HZ := Lib.hid hZ
        clear hZ
        go_wp2
        go_ret2
        exact ⟨by rw [HZ.out]; rfl, Hb4.out⟩

set_option maxHeartbeats 1000000 in
theorem pis_any (S : Nat → Prop) (t : Ex) (cs : List Value) (w : World) (ht : Tab w) (h : ReR S w t cs) :
    Calls Tryd.prog 23 #[reV cs] w fun e w' => e = .returned (.bool (isE t)) ∧ Below w.heap.size w w' := by
  obtain ⟨k, p0, p1, p2, p3, ks, A, c, lo, hi, htt, rfl, h1, h2, -, -, -, -, -⟩ := h.fields
  unfold maxLen at h2
  have hba : Below w.heap.size w (w.alloc (Obj.cells #[.int .i64 k, .int .u64 (p0 : Int), .int .u64 (p1 : Int), .int .u64 (p2 : Int), .int .u64 (p3 : Int), .slice A ks.length c, .int .i64 lo, .int .i64 hi] 27)) := (Below.refl _ _).alloc (Nat.le_refl _) _
  have ht' := textof_any S t _ _ (ht.ext hba) (h.ext hba)
  generalize bsN (printE t) = Z at ht'
  generalize isE t = I at ht' ⊢
  have Ht := Lib.hid ht'
  have Hba := Lib.hid hba
  clear ht' h htt ht hba
  show Calls Tryd.prog 23 #[.agg #[.int .i64 k, .int .u64 (p0 : Int), .int .u64 (p1 : Int), .int .u64 (p2 : Int), .int .u64 (p3 : Int), .slice A ks.length c, .int .i64 lo, .int .i64 hi]] w _
  go_enter Tryd.func23, Tryd.ntmps23
  go_wp2_with fail
  refine Ht.out.mono ?_
  rintro e w2 ⟨rfl, hb2⟩
  go_wp2
  go_ret
  exact ⟨rfl, ext_trans Hba.out hb2⟩
set_option maxHeartbeats 1000000 in
theorem pprint_any (S : Nat → Prop) (t : Ex) (cs : List Value) (w : World) (ht : Tab w) (h : ReR S w t cs) :
    Calls Tryd.prog 21 #[reV cs] w fun e w' => e = .returned (.string (bsN (printE t))) ∧ Below w.heap.size w w' := by
  obtain ⟨k, p0, p1, p2, p3, ks, A, c, lo, hi, htt, rfl, h1, h2, -, -, -, -, -⟩ := h.fields
  unfold maxLen at h2
  have hba : Below w.heap.size w (w.alloc (Obj.cells #[.int .i64 k, .int .u64 (p0 : Int), .int .u64 (p1 : Int), .int .u64 (p2 : Int), .int .u64 (p3 : Int), .slice A ks.length c, .int .i64 lo, .int .i64 hi] 27)) := (Below.refl _ _).alloc (Nat.le_refl _) _
  have ht' := textof_any S t _ _ (ht.ext hba) (h.ext hba)
  generalize bsN (printE t) = Z at ht' ⊢
  generalize isE t = I at ht'
  have Ht := Lib.hid ht'
  have Hba := Lib.hid hba
  clear ht' h htt ht hba
  show Calls Tryd.prog 21 #[.agg #[.int .i64 k, .int .u64 (p0 : Int), .int .u64 (p1 : Int), .int .u64 (p2 : Int), .int .u64 (p3 : Int), .slice A ks.length c, .int .i64 lo, .int .i64 hi]] w _
  go_enter Tryd.func21, Tryd.ntmps21
  go_wp2_with fail
  refine Ht.out.mono ?_
  rintro e w2 ⟨rfl, hb2⟩
  go_wp2
  go_ret
  exact ⟨rfl, ext_trans Hba.out hb2⟩
end Go.Proofs.YtmggajpecgnjkaaDoor

/-
  Contract of the reference's Same. No statement of the seat is proved here.
-/
namespace Go.Proofs.YtmggajpecgnjkaaDoor
open Go Go.RowKit
set_option maxRecDepth 100000


theorem sameL_eq (a b : List Ex) : sameL a b = true ↔ a = b := sameL_iff a (fun x _ y => sameE_iff x y) b
set_option maxRecDepth 100000 in
set_option maxHeartbeats 4000000 in
theorem rsame_any (S T : Nat → Prop) (a : Ex) : ∀ (b : Ex) (cs ds : List Value) (w : World), ReR S w a cs → ReR T w b ds → nodesE a ≤ 1000000 →
    Calls Tryd.prog 18 #[reV cs, reV ds] w fun e w' => e = .returned (.bool (sameE a b)) ∧ Below w.heap.size w w' := by
  refine ex_induct (p := fun a => ∀ (b : Ex) (cs ds : List Value) (w : World), ReR S w a cs → ReR T w b ds → nodesE a ≤ 1000000 → Calls Tryd.prog 18 #[reV cs, reV ds] w fun e w' => e = .returned (.bool (sameE a b)) ∧ Below w.heap.size w w') (fun k sa ks lo hi ih b cs ds w ha hb hn => ?_) a
  obtain ⟨kx, p0, p1, p2, p3, ksx, A, c, lox, hix, e1, rfl, h1, h2, -, -, -, hs, h3⟩ := ha.fields
  obtain ⟨rfl, rfl, rfl, rfl, rfl⟩ := Ex.mk.inj e1
  obtain ⟨k', q0, q1, q2, q3, ks', A', c', lo', hi', rfl, rfl, h1', h2', -, -, -, hs', h3'⟩ := hb.fields
  have hln := length_nodesL ks
  have hno : nodesE (.mk k [p0, p1, p2, p3] ks lo hi) = 1 + nodesL ks := by simp [nodesE]
  rw [hno] at hn
  have hli : (ks.length : Int) ≤ 1000000 := by omega
  unfold maxLen at h2 h2'
  obtain ⟨r, hr⟩ : ∃ r, sameE (.mk k [p0, p1, p2, p3] ks lo hi) (.mk k' [q0, q1, q2, q3] ks' lo' hi') = r := ⟨_, rfl⟩
  rw [hr]
  have hr2 : r = true ↔ k = k' ∧ [p0, p1, p2, p3] = [q0, q1, q2, q3] ∧ lo = lo' ∧ hi = hi' ∧ ks = ks' := by
    rw [← hr, sameE_iff, Ex.mk.injEq]
    constructor
    · rintro ⟨h1, h2, h5, h3, h4⟩; exact ⟨h1, h2, h3, h4, h5⟩
    · rintro ⟨h1, h2, h3, h4, h5⟩; exact ⟨h1, h2, h5, h3, h4⟩
  have Hr := Lib.hid hr2
  have Hih := Lib.hid ih
  have H3 := Lib.hid h3
  have H3' := Lib.hid h3'
  have hz := fun W => eq_sets hs hs' W
  obtain ⟨zb, hzb⟩ : ∃ b, decide ([p0, p1, p2, p3] = [q0, q1, q2, q3]) = b := ⟨_, rfl⟩
  rw [hzb] at hz
  have hz' : ∀ W, (Op.equalIn 10000 24 (.agg #[.int .u64 (p0 : Int), .int .u64 (p1 : Int), .int .u64 (p2 : Int), .int .u64 (p3 : Int)]) (.agg #[.int .u64 (q0 : Int), .int .u64 (q1 : Int), .int .u64 (q2 : Int), .int .u64 (q3 : Int)])).run Tryd.prog W = .ok zb W := hz
  have Hzb := Lib.hid hzb
  clear ih h3 h3' hr2 hr hz hzb hno ha hb hs hs' e1
  have hB1 := (Blk.new w 27 #[.int .i64 k, .int .u64 (p0 : Int), .int .u64 (p1 : Int), .int .u64 (p2 : Int), .int .u64 (p3 : Int), .slice A ks.length c, .int .i64 lo, .int .i64 hi]).alloc (Obj.cells #[.int .i64 k', .int .u64 (q0 : Int), .int .u64 (q1 : Int), .int .u64 (q2 : Int), .int .u64 (q3 : Int), .slice A' ks'.length c', .int .i64 lo', .int .i64 hi'] 27)
  have hB2 := Blk.new (w.alloc (Obj.cells #[.int .i64 k, .int .u64 (p0 : Int), .int .u64 (p1 : Int), .int .u64 (p2 : Int), .int .u64 (p3 : Int), .slice A ks.length c, .int .i64 lo, .int .i64 hi] 27)) 27 #[.int .i64 k', .int .u64 (q0 : Int), .int .u64 (q1 : Int), .int .u64 (q2 : Int), .int .u64 (q3 : Int), .slice A' ks'.length c', .int .i64 lo', .int .i64 hi']
  rw [World.size_alloc] at hB2
  show Calls Tryd.prog 18 #[.agg #[.int .i64 k, .int .u64 (p0 : Int), .int .u64 (p1 : Int), .int .u64 (p2 : Int), .int .u64 (p3 : Int), .slice A ks.length c, .int .i64 lo, .int .i64 hi], .agg #[.int .i64 k', .int .u64 (q0 : Int), .int .u64 (q1 : Int), .int .u64 (q2 : Int), .int .u64 (q3 : Int), .slice A' ks'.length c', .int .i64 lo', .int .i64 hi']] w _
  by_cases hk : k = k'
  case neg =>
    have Hf : Hid (false = r) := Lib.hid (by rw [Eq.comm, ← Bool.not_eq_true, Hr.out]; exact fun h => hk h.1)
    have b1 : (k != k') = true := by simpa using hk
    clear hB1 hB2 hk
    go_enter Tryd.func18, Tryd.ntmps18
    go_wp2
    all_goals
      go_ret
      exact ⟨ret_bool Hf.out, ext2 w _ _⟩

  subst hk
  cases zb with
  | false =>
    have Hf : Hid (false = r) := Lib.hid (by rw [Eq.comm, ← Bool.not_eq_true, Hr.out]; exact fun h => of_decide_eq_false Hzb.out h.2.1)
    clear hB1 hB2
    go_enter Tryd.func18, Tryd.ntmps18
    go_wp2
    all_goals
      go_ret
      exact ⟨ret_bool Hf.out, ext2 w _ _⟩

  | true =>
  by_cases hl : lo = lo'
  case neg =>
    have Hf : Hid (false = r) := Lib.hid (by rw [Eq.comm, ← Bool.not_eq_true, Hr.out]; exact fun h => hl h.2.2.1)
    have b1 : (lo != lo') = true := by simpa using hl
    clear hB1 hB2 hl
    go_enter Tryd.func18, Tryd.ntmps18
    go_wp2
    all_goals
      go_ret
      exact ⟨ret_bool Hf.out, ext2 w _ _⟩

  subst hl
  by_cases hh : hi = hi'
  case neg =>
    have Hf : Hid (false = r) := Lib.hid (by rw [Eq.comm, ← Bool.not_eq_true, Hr.out]; exact fun h => hh h.2.2.2.1)
    have b1 : (hi != hi') = true := by simpa using hh
    clear hB1 hB2 hh
    go_enter Tryd.func18, Tryd.ntmps18
    go_wp2
    all_goals
      go_ret
      exact ⟨ret_bool Hf.out, ext2 w _ _⟩

  subst hh
  by_cases hkl : ks.length = ks'.length
  case neg =>
    have Hf : Hid (false = r) := Lib.hid (by rw [Eq.comm, ← Bool.not_eq_true, Hr.out]; exact fun h => hkl (by rw [h.2.2.2.2]))
    have b1 : ((ks.length : Int) != (ks'.length : Int)) = true := by rw [bne_iff_ne]; omega
    clear hB1 hB2 hkl
    go_enter Tryd.func18, Tryd.ntmps18
    go_wp2
    all_goals
      go_ret
      exact ⟨ret_bool Hf.out, ext2 w _ _⟩

  have HrL : Hid (r = true ↔ ks = ks') := Lib.hid (by
    rw [Hr.out]
    exact ⟨fun h => h.2.2.2.2, fun h => ⟨rfl, of_decide_eq_true Hzb.out, rfl, rfl, h⟩⟩)
  have b1 : ((ks.length : Int) != (ks'.length : Int)) = false := by rw [bne_eq_false_iff_eq]; omega
  have Hkl := Lib.hid hkl
  have hli' : (ks'.length : Int) ≤ 1000000 := by omega
  clear hkl Hr Hzb
  go_enter Tryd.func18, Tryd.ntmps18
  go_wp2
  go_loopw [5] (fun i wr => ∃ j : Nat, j ≤ ks.length ∧ i = .int .i64 (j : Int) ∧ Hid (ks.take j = ks'.take j) ∧ Blk wr w.heap.size 27 #[.int .i64 k, .int .u64 (p0 : Int), .int .u64 (p1 : Int), .int .u64 (p2 : Int), .int .u64 (p3 : Int), .slice A ks.length c, .int .i64 lo, .int .i64 hi] ∧ Blk wr (w.heap.size + 1) 27 #[.int .i64 k, .int .u64 (q0 : Int), .int .u64 (q1 : Int), .int .u64 (q2 : Int), .int .u64 (q3 : Int), .slice A' ks'.length c', .int .i64 lo, .int .i64 hi] ∧ Below w.heap.size w wr) (fun i _ => ks.length - (intOf i).toNat)
  case atStart => exact ⟨0, Nat.zero_le _, rfl, Lib.hid rfl, hB1, hB2, ext2 w _ _⟩
  case round =>
    obtain ⟨j, hj, rfl, hall, kB1, kB2, hb⟩ := hrel
    have c5 := kB1.cell 5
    by_cases hlt : j < ks.length
    · have hji : (j : Int) < (ks.length : Int) := by omega
      have hlt' : j < ks'.length := by have := Hkl.out; omega
      have hji' : (j : Int) < (ks'.length : Int) := by omega
      obtain ⟨g, o, u0, u1, u2, u3, u4, u5, u6, u7, rfl, hr, x0, x1, x2, x3, x4, x5, x6, x7, -⟩ := (H3.out.ext hb).kid hlt
      obtain ⟨g', o', v0, v1, v2, v3, v4, v5, v6, v7, rfl, hr', y0, y1, y2, y3, y4, y5, y6, y7, -⟩ := (H3'.out.ext hb).kid hlt'
      have hmem := nodesL_mem (List.getElem_mem hlt)
      obtain ⟨q, hq⟩ : ∃ q, sameE ks[j] ks'[j] = q := ⟨_, rfl⟩
      have hcall : ∀ W, Below wr.heap.size wr W → Calls Tryd.prog 18 #[.agg #[u0, u1, u2, u3, u4, u5, u6, u7], .agg #[v0, v1, v2, v3, v4, v5, v6, v7]] W fun e w' => e = .returned (.bool q) ∧ Below W.heap.size W w' := fun W hW => by
        have := Hih.out _ (List.getElem_mem hlt) _ _ _ W (hr.ext hW) (hr'.ext hW) (by omega)
        rw [hq] at this
        exact this
      have Hc := Lib.hid hcall
      have KB1 := Lib.hid kB1
      have KB2 := Lib.hid kB2
      have Hq := Lib.hid hq
      have HS : Hid (∀ W, Below wr.heap.size wr W → W.cell? ⟨w.heap.size, 5, none⟩ = some (.slice (some ⟨g, o, none⟩) ks.length c) ∧ W.cell? ⟨w.heap.size + 1, 5, none⟩ = some (.slice (some ⟨g', o', none⟩) ks'.length c') ∧ W.cell? ⟨g, o + j * 8, none⟩ = some u0 ∧ W.cell? ⟨g, o + j * 8 + 1, none⟩ = some u1 ∧ W.cell? ⟨g, o + j * 8 + 2, none⟩ = some u2 ∧ W.cell? ⟨g, o + j * 8 + 3, none⟩ = some u3 ∧ W.cell? ⟨g, o + j * 8 + 4, none⟩ = some u4 ∧ W.cell? ⟨g, o + j * 8 + 5, none⟩ = some u5 ∧ W.cell? ⟨g, o + j * 8 + 6, none⟩ = some u6 ∧ W.cell? ⟨g, o + j * 8 + 7, none⟩ = some u7 ∧ W.cell? ⟨g', o' + j * 8, none⟩ = some v0 ∧ W.cell? ⟨g', o' + j * 8 + 1, none⟩ = some v1 ∧ W.cell? ⟨g', o' + j * 8 + 2, none⟩ = some v2 ∧ W.cell? ⟨g', o' + j * 8 + 3, none⟩ = some v3 ∧ W.cell? ⟨g', o' + j * 8 + 4, none⟩ = some v4 ∧ W.cell? ⟨g', o' + j * 8 + 5, none⟩ = some v5 ∧ W.cell? ⟨g', o' + j * 8 + 6, none⟩ = some v6 ∧ W.cell? ⟨g', o' + j * 8 + 7, none⟩ = some v7) := Lib.hid fun W hW =>
        have f := fun (ad : Addr) (v : Value) (h : wr.cell? ad = some v) => (World.cell?_of_block (a := ad) (hW.block _ (World.block_lt_of_cell? wr ad h))).trans h
        ⟨f _ _ (kB1.cell 5), f _ _ (kB2.cell 5), f _ _ x0, f _ _ x1, f _ _ x2, f _ _ x3, f _ _ x4, f _ _ x5, f _ _ x6, f _ _ x7, f _ _ y0, f _ _ y1, f _ _ y2, f _ _ y3, f _ _ y4, f _ _ y5, f _ _ y6, f _ _ y7⟩
      clear hcall kB1 kB2 hr hr' hq x0 x1 x2 x3 x4 x5 x6 x7 y0 y1 y2 y3 y4 y5 y6 y7
      cases q with
      | true =>
        go_wp2
        go_region_held3 (fun w' => w'.cell? ⟨w.heap.size, 5, none⟩ = some (.slice (some ⟨g, o, none⟩) ks.length c) ∧ w'.cell? ⟨w.heap.size + 1, 5, none⟩ = some (.slice (some ⟨g', o', none⟩) ks'.length c') ∧ w'.cell? ⟨g, o + j * 8, none⟩ = some u0 ∧ w'.cell? ⟨g, o + j * 8 + 1, none⟩ = some u1 ∧ w'.cell? ⟨g, o + j * 8 + 2, none⟩ = some u2 ∧ w'.cell? ⟨g, o + j * 8 + 3, none⟩ = some u3 ∧ w'.cell? ⟨g, o + j * 8 + 4, none⟩ = some u4 ∧ w'.cell? ⟨g, o + j * 8 + 5, none⟩ = some u5 ∧ w'.cell? ⟨g, o + j * 8 + 6, none⟩ = some u6 ∧ w'.cell? ⟨g, o + j * 8 + 7, none⟩ = some u7 ∧ w'.cell? ⟨g', o' + j * 8, none⟩ = some v0 ∧ w'.cell? ⟨g', o' + j * 8 + 1, none⟩ = some v1 ∧ w'.cell? ⟨g', o' + j * 8 + 2, none⟩ = some v2 ∧ w'.cell? ⟨g', o' + j * 8 + 3, none⟩ = some v3 ∧ w'.cell? ⟨g', o' + j * 8 + 4, none⟩ = some v4 ∧ w'.cell? ⟨g', o' + j * 8 + 5, none⟩ = some v5 ∧ w'.cell? ⟨g', o' + j * 8 + 6, none⟩ = some v6 ∧ w'.cell? ⟨g', o' + j * 8 + 7, none⟩ = some v7)
          (first | exact HS.out _ (by repeat (first | exact hbx | apply ext_drew | exact Below.refl _ _)))
          (first | (go_at_call 18; ((with_reducible refine (Hc.out _ ?_).mono ?_)); (repeat (first | apply ext_drew | exact Below.refl _ _)); rintro e w5 ⟨rfl, hbx'⟩; have hbx : Below wr.heap.size wr w5 := ext_trans (by repeat (first | apply ext_drew | exact Below.refl _ _)) hbx'))
        go_wp2
        go_roundw
        case rel => exact ⟨j + 1, by omega, by go_num, Lib.hid (by rw [List.take_succ_eq_append_getElem hlt, List.take_succ_eq_append_getElem hlt', hall.out, (sameE_iff _ _).1 Hq.out]), KB1.out.ext hbx, KB2.out.ext hbx, ext_trans hb hbx⟩
        case measure => simp [intOf]; omega
      | false =>
        have Hf : Hid (false = r) := Lib.hid (by
          rw [Eq.comm, ← Bool.not_eq_true, HrL.out]
          rintro rfl
          have := (sameE_iff ks[j] ks[j]).2 rfl
          rw [Hq.out] at this
          cases this)
        go_wp2
        go_region_held3 (fun w' => w'.cell? ⟨w.heap.size, 5, none⟩ = some (.slice (some ⟨g, o, none⟩) ks.length c) ∧ w'.cell? ⟨w.heap.size + 1, 5, none⟩ = some (.slice (some ⟨g', o', none⟩) ks'.length c') ∧ w'.cell? ⟨g, o + j * 8, none⟩ = some u0 ∧ w'.cell? ⟨g, o + j * 8 + 1, none⟩ = some u1 ∧ w'.cell? ⟨g, o + j * 8 + 2, none⟩ = some u2 ∧ w'.cell? ⟨g, o + j * 8 + 3, none⟩ = some u3 ∧ w'.cell? ⟨g, o + j * 8 + 4, none⟩ = some u4 ∧ w'.cell? ⟨g, o + j * 8 + 5, none⟩ = some u5 ∧ w'.cell? ⟨g, o + j * 8 + 6, none⟩ = some u6 ∧ w'.cell? ⟨g, o + j * 8 + 7, none⟩ = some u7 ∧ w'.cell? ⟨g', o' + j * 8, none⟩ = some v0 ∧ w'.cell? ⟨g', o' + j * 8 + 1, none⟩ = some v1 ∧ w'.cell? ⟨g', o' + j * 8 + 2, none⟩ = some v2 ∧ w'.cell? ⟨g', o' + j * 8 + 3, none⟩ = some v3 ∧ w'.cell? ⟨g', o' + j * 8 + 4, none⟩ = some v4 ∧ w'.cell? ⟨g', o' + j * 8 + 5, none⟩ = some v5 ∧ w'.cell? ⟨g', o' + j * 8 + 6, none⟩ = some v6 ∧ w'.cell? ⟨g', o' + j * 8 + 7, none⟩ = some v7)
          (first | exact HS.out _ (by repeat (first | exact hbx | apply ext_drew | exact Below.refl _ _)))
          (first | (go_at_call 18; ((with_reducible refine (Hc.out _ ?_).mono ?_)); (repeat (first | apply ext_drew | exact Below.refl _ _)); rintro e w5 ⟨rfl, hbx'⟩; have hbx : Below wr.heap.size wr w5 := ext_trans (by repeat (first | apply ext_drew | exact Below.refl _ _)) hbx'))
        go_wp2
        go_ret
        exact ⟨ret_bool Hf.out, ext_trans hb hbx⟩
    · obtain rfl : j = ks.length := by omega
      have Hf : Hid (true = r) := Lib.hid (by
        rw [Eq.comm, HrL.out]
        have := hall.out
        rwa [List.take_length, Hkl.out, List.take_length] at this)
      go_wp2
      go_ret
      exact ⟨ret_bool Hf.out, hb⟩
end Go.Proofs.YtmggajpecgnjkaaDoor

/-
  Contracts of the program's Text, copies, Seq, Alt. No statement of the seat is proved here.
-/
namespace Go.Proofs.YtmggajpecgnjkaaDoor
open Go Go.RowKit
set_option maxRecDepth 100000

/-! ### a row that is filled from the left -/
def zeroRe : Array Value := #[.int .i64 0, .int .u64 0, .int .u64 0, .int .u64 0, .int .u64 0, .slice none 0 0, .int .i64 0, .int .i64 0]
theorem make_res (W : World) (n : Nat) (h : n ≤ 1000000) : (Instr.makeSlice 25 (.int .i64 (n : Int)) (.int .i64 (n : Int))).run Tryd.prog W =
    .ok (.slice (some ⟨W.heap.size, 0, none⟩) n n) (W.alloc (.cells (madeCells zeroRe (n * 8)) 27)) := by
  obtain ⟨i, hi, hz, hsz, hby⟩ := info_parts info_re
  have hr := run_make (P := Tryd.prog) W 25 27 i _ Tryd.underlying25 hi hz .i64 .i64 (n : Int) (n : Int) (by omega) (by omega) (by rw [hby]; omega) (by omega)
  simp only [Int.toNat_natCast, hsz] at hr
  exact hr
/-- block 'g' holds these expressions, and room for more: 'n' in all; the rows below them lie in blocks of 'S', and not in 'g' -/
def FillE (S : Nat → Prop) (w : World) (g n : Nat) (l : List Ex) : Prop :=
  ∃ cs, Blk w g 27 cs ∧ cs.size = n * 8 ∧ ∀ k (h : k < l.length), ∃ ds : List Value, (∀ j u, ds[j]? = some u → cs[k * 8 + j]? = some u) ∧ ReR (fun b => S b ∧ b ≠ g) w l[k] ds
section
variable {S T : Nat → Prop} {w w' : World} {g n : Nat} {l : List Ex}
theorem FillE.start (S : Nat → Prop) (w : World) (n : Nat) : FillE S (w.alloc (.cells (madeCells zeroRe (n * 8)) 27)) w.heap.size n [] :=
  ⟨_, Blk.new _ _ _, by simp [madeCells], fun k h => absurd h (by simp)⟩
theorem FillE.lt (h : FillE S w g n l) : g < w.heap.size := by obtain ⟨cs, h1, _⟩ := h; exact h1.lt
theorem FillE.ext (h : FillE S w g n l) (hb : Below w.heap.size w w') : FillE S w' g n l := by
  obtain ⟨cs, h1, h2, h3⟩ := h
  exact ⟨cs, h1.ext hb, h2, fun k hk => by obtain ⟨ds, h4, h5⟩ := h3 k hk; exact ⟨ds, h4, h5.ext hb⟩⟩
theorem FillE.only (h : FillE S w g n l) (ho : Only T w w') (h1 : ¬ T g) (h2 : ∀ b, S b → ¬ T b) : FillE S w' g n l := by
  obtain ⟨cs, h3, h4, h5⟩ := h
  exact ⟨cs, h3.only ho h1, h4, fun k hk => by obtain ⟨ds, h6, h7⟩ := h5 k hk; exact ⟨ds, h6, h7.only ho fun b hb => h2 b hb.1⟩⟩
theorem FillE.kids (h : FillE S w g n l) (ht : ∀ b, S b ∨ b = g → b < w.heap.size → T b) : Kids T w (some ⟨g, 0, none⟩) l := by
  obtain ⟨cs, h1, h2, h3⟩ := h
  intro k hk
  obtain ⟨ds, h4, h5⟩ := h3 k hk
  exact ⟨g, 0, ds, rfl, ht g (.inr rfl) h1.lt, fun j u hu => by rw [Nat.zero_add, h1.cell]; exact h4 j u hu, h5.mono fun b hb hl => ht b (.inl hb.1) hl⟩
theorem FillE.put {x : Ex} {ds : List Value} (h : FillE S w g n l) (hl : l.length < n) (hx : ReR (fun b => S b ∧ b ≠ g) w x ds) : FillE S (w.setCells g (l.length * 8) ds) g n (l ++ [x]) := by
  obtain ⟨cs, h1, h2, h3⟩ := h
  have h8 := hx.size
  obtain ⟨cs', k1, k2, k3, k4⟩ := Blk.setCells ds (l.length * 8) h1 (by rw [h8, h2]; omega)
  have ho : Only (fun b => b = g) w (w.setCells g (l.length * 8) ds) := (Only.refl (fun k => k = g) w).setCells (.inl rfl) ds _
  refine ⟨cs', k1, k2.trans h2, fun k hk => ?_⟩
  rw [List.length_append, List.length_singleton] at hk
  by_cases hkl : k < l.length
  · obtain ⟨es, h4, h5⟩ := h3 k hkl
    have h9 := h5.size
    refine ⟨es, fun j u hu => ?_, ?_⟩
    · have hj : j < 8 := by have := (List.getElem?_eq_some_iff.1 hu).1; omega
      rw [k4 _ (.inl (by omega))]
      exact h4 j u hu
    · rw [List.getElem_append_left hkl]
      exact h5.only ho fun b hb e => hb.2 e
  · obtain rfl : k = l.length := by omega
    refine ⟨ds, k3, ?_⟩
    rw [List.getElem_append_right (Nat.le_refl _)]
    simp only [Nat.sub_self, List.getElem_cons_zero]
    exact hx.only ho fun b hb e => hb.2 e
end
theorem wpList_store_fill {ops : Array Oper} {rest : List Oper} {op : Oper} {a : Act} {w : World} {Q : Exit → Act → World → Prop} (hgd : op.guard = none) (x y : Operand) (ho : op.op = .store 27 x y)
    (g o : Nat) (hx : a.eval x = .pointer (some ⟨g, o, none⟩)) {ds : Array Value} (hy : a.eval y = .agg ds) (h1 : ds.all (·.oneCell') = true)
    {S : Nat → Prop} {n : Nat} {l : List Ex} {e : Ex} (hF : FillE S w g n l) (hoo : o = l.length * 8) (hl : l.length < n) (he : ReR (fun b => S b ∧ b ≠ g) w e ds.toList)
    (h : ∀ w', FillE S w' g n (l ++ [e]) → Only (fun k => k = g) w w' → wpList Tryd.prog ops Q rest (a.put op.dst undef) w') : wpList Tryd.prog ops Q (op :: rest) a w := by
  have h8 : ds.size = 8 := by have := he.size; simpa using this
  subst hoo
  refine wpList_store_mid hgd 27 x y ho g _ ds hx hy ?_ (size_re h8) h1 (h _ (hF.put hl he) ((Only.refl (fun k => k = g) w).setCells (.inl rfl) ds.toList _))
  obtain ⟨cs, h2, h3, _⟩ := hF
  exact h2.there _ _ (by rw [h3, h8]; omega)
theorem arr_one {cs : List Value} (h : ∀ u ∈ cs, u.oneCell' = true) : cs.toArray.all (·.oneCell') = true := by
  rw [List.all_toArray, List.all_eq_true]; exact h

set_option maxHeartbeats 2000000 in
theorem ptext_any (s : ByteArray) (w : World) (hs : s.size ≤ 1000000) :
    Calls Tryd.prog 26 #[.string s] w fun e w' => ∃ cs, e = .returned (reV cs) ∧ ReR (fun g => w.heap.size ≤ g) w' (textX (natsOf s)) cs ∧ Below w.heap.size w w' := by
  have hsi : (s.size : Int) ≤ 1000000 := by omega
  have hln := natsOf_len s
  have hmk := fun W => make_res W s.size hs
  have hF0 : FillE (fun g => w.heap.size < g) ((w.alloc (Obj.cells #[.int .i64 0, .int .u64 0, .int .u64 0, .int .u64 0, .int .u64 0, .slice none 0 0, .int .i64 0, .int .i64 0] 27)).alloc (.cells (madeCells zeroRe (s.size * 8)) 27)) (w.heap.size + 1) s.size [] := by
    have := FillE.start (fun g => w.heap.size < g) (w.alloc (Obj.cells #[.int .i64 0, .int .u64 0, .int .u64 0, .int .u64 0, .int .u64 0, .slice none 0 0, .int .i64 0, .int .i64 0] 27)) s.size
    rwa [World.size_alloc] at this
  have hB0 : Blk ((w.alloc (Obj.cells #[.int .i64 0, .int .u64 0, .int .u64 0, .int .u64 0, .int .u64 0, .slice none 0 0, .int .i64 0, .int .i64 0] 27)).alloc (.cells (madeCells zeroRe (s.size * 8)) 27)) w.heap.size 27 #[.int .i64 0, .int .u64 0, .int .u64 0, .int .u64 0, .int .u64 0, .slice none 0 0, .int .i64 0, .int .i64 0] := (Blk.new _ _ _).alloc _
  have HF0 := Lib.hid hF0
  have HB0 := Lib.hid hB0
  obtain ⟨O1, hO1⟩ : ∃ O1, O1 = Obj.cells (madeCells zeroRe (s.size * 8)) 27 := ⟨_, rfl⟩
  rw [← hO1] at HF0 HB0
  have hmk' : ∀ W : World, (Instr.makeSlice 25 (.int .i64 (s.size : Int)) (.int .i64 (s.size : Int))).run Tryd.prog W = .ok (.slice (some ⟨W.heap.size, 0, none⟩) s.size s.size) (W.alloc O1) := by rw [hO1]; exact hmk
  have hb0 := ext2 w (Obj.cells #[.int .i64 0, .int .u64 0, .int .u64 0, .int .u64 0, .int .u64 0, .slice none 0 0, .int .i64 0, .int .i64 0] 27) O1
  have Hb0 := Lib.hid hb0
  clear hmk hF0 hB0 hb0 hO1
  go_enter Tryd.func26, Tryd.ntmps26
  go_wp2
  go_loopw [10] (fun i wr => ∃ k : Nat, k ≤ s.size ∧ i = .int .i64 (k : Int) ∧ Hid (FillE (fun g => w.heap.size < g) wr (w.heap.size + 1) s.size (((natsOf s).take k).map byteE)) ∧ Hid (Blk wr w.heap.size 27 #[.int .i64 0, .int .u64 0, .int .u64 0, .int .u64 0, .int .u64 0, .slice none 0 0, .int .i64 0, .int .i64 0]) ∧ Hid (Below w.heap.size w wr)) (fun i _ => s.size - (intOf i).toNat)
  case atStart => exact ⟨0, Nat.zero_le _, rfl, HF0, HB0, Hb0⟩
  case round =>
    clear HF0 HB0 Hb0
    obtain ⟨k, hk, rfl, hF, hB, hb⟩ := hrel
    by_cases hlt : k < s.size
    · have hki : (k : Int) < (s.size : Int) := by omega
      have hkl : k < (natsOf s).length := by omega
      have hbk := natsOf_at s k hlt
      have hb256 : (s[k]'hlt).toNat < 256 := (s[k]'hlt).toNat_lt
      have htk : ((natsOf s).take (k + 1)).map byteE = ((natsOf s).take k).map byteE ++ [byteE (s[k]'hlt).toNat] := by
        rw [List.take_succ_eq_append_getElem hkl, List.map_append, hbk]; rfl
      have Htk := Lib.hid htk
      have hlen : (((natsOf s).take k).map byteE).length = k := by simp; omega
      have Hlen := Lib.hid hlen
      obtain ⟨b, hbe⟩ : ∃ b, (s[k]'hlt).toNat = b := ⟨_, rfl⟩
      rw [hbe] at hb256 Htk
      have hbi : ((s[k]'hlt).toNat : Int) = (b : Int) := by rw [hbe]
      have HOf : Hid (Calls Tryd.prog 52 #[.slice (some ⟨wr.heap.size, 0, none⟩) 1 1] (wr.alloc (Obj.cells #[.int .u8 (b : Int)] 5)) fun e w' => e = .returned (setV (ofB [b])) ∧ Below (wr.alloc (Obj.cells #[.int .u8 (b : Int)] 5)).heap.size (wr.alloc (Obj.cells #[.int .u8 (b : Int)] 5)) w') :=
        Lib.hid (of_any _ 1 1 [b] _ rfl (by simpa using hb256) (by simp) (Rd.lit wr #[.int .u8 (b : Int)] 5))
      have HCl := Lib.hid (fun W => ofset_any (ofB [b]) (ofB_ok _) W)
      have Hba : Hid (Below wr.heap.size wr (wr.alloc (Obj.cells #[.int .u8 (b : Int)] 5))) := Lib.hid ((Below.refl _ _).alloc (Nat.le_refl _) _)
      clear htk hbk hbe hkl hlen
      go_wp2_with fail
      refine HOf.out.mono ?_
      rintro e w2 ⟨rfl, hb2⟩
      go_wp2_with fail
      refine (HCl.out _).mono ?_
      rintro e w3 ⟨cs, rfl, hcs, hb3⟩
      have h8 := (hcs (fun _ => True) w3).size
      obtain ⟨u0, u1, u2, u3, u4, u5, u6, u7, rfl⟩ := eight_cells h8
      have Hcs := Lib.hid hcs
      have Hb13 := Lib.hid (ext_trans (ext_trans Hba.out hb2) hb3)
      have hone := arr_one (hcs (fun _ => True) w3).one
      have HF3 := Lib.hid (hF.out.ext Hb13.out)
      clear hcs h8 hb2 hb3
      unfold reV
      go_wp2_with (have hh := hone; clear hone; refine wpList_store_fill rfl _ _ rfl (w.heap.size + 1) (k * 8) rfl rfl hh HF3.out (by rw [Hlen.out]) (by rw [Hlen.out]; exact hlt) (Hcs.out _ _) ?_; intro w4 hF4 ho4)
      have HF4 : Hid (FillE (fun g => w.heap.size < g) w4 (w.heap.size + 1) s.size (((natsOf s).take (k + 1)).map byteE)) := Lib.hid (by rw [Htk.out]; exact hF4)
      have HB4 := Lib.hid ((hB.out.ext Hb13.out).only ho4 (by omega))
      have Hb4 := Lib.hid ((ext_trans hb.out Hb13.out).trans (ho4.below (fun g hg => by omega) (by have := (ext_trans hb.out Hb13.out).size; omega)))
      clear hF4 ho4
      go_wp2
      go_roundw
      case rel => exact ⟨k + 1, by omega, by go_num, HF4, HB4, Hb4⟩
      case measure => simp [intOf]; omega
    · obtain rfl : k = s.size := by omega
      have hF' := hF.out
      rw [List.take_of_length_le (by omega)] at hF'
      have HS : Hid (Calls Tryd.prog 53 #[.int .i64 2, .slice (some ⟨w.heap.size + 1, 0, none⟩) s.size s.size] wr fun e w' => ∃ cs, e = .returned (reV cs) ∧ ReR (fun g => w.heap.size < g) w' (textX (natsOf s)) cs ∧ Below wr.heap.size wr w') := Lib.hid (by
        have := ofkids_any 2 (by unfold isInt; omega) (fun g => w.heap.size < g) (some ⟨w.heap.size + 1, 0, none⟩) s.size s.size ((natsOf s).map byteE) wr (by simp [hln]) (by simp [hln]) (by unfold maxLen; omega) (hF'.kids fun b hb _ => by rcases hb with h | h; exact h; omega)
        rwa [kidsE_seq] at this)
      clear hF'
      go_wp2_with fail
      refine HS.out.mono ?_
      rintro e w2 ⟨cs, rfl, hcs, hb2⟩
      have h8 := hcs.size
      obtain ⟨u0, u1, u2, u3, u4, u5, u6, u7, rfl⟩ := eight_cells h8
      have Hcs := Lib.hid hcs
      have HB2 := hB.out.ext hb2
      have hone := arr_one hcs.one
      clear hcs h8
      unfold reV
      go_wp2_with (refine wpList_store_re rfl _ _ rfl w.heap.size rfl rfl rfl rfl hone HB2 ?_; intro w3 hB3 ho3)
      refine bodyPost_ret (results_re rfl _ _ w.heap.size _ _ rfl hB3 rfl) rfl ⟨[u0, u1, u2, u3, u4, u5, u6, u7], rfl, ?_, ?_⟩
      · exact ReR.mono (Hcs.out.only ho3 fun g hg h => by omega) fun g hg _ => Nat.le_of_lt hg
      · exact (ext_trans hb.out hb2).trans (ho3.below (fun i hi => by omega) (by have := (ext_trans hb.out hb2).size; omega))

set_option maxHeartbeats 4000000 in
theorem copies_of (t : Ex) : ∀ (S : Nat → Prop) (A : Option Addr) (c : Nat) (w : World), t.kids.length ≤ c → c ≤ maxLen → Kids S w A t.kids → nodesL t.kids ≤ 1000000 →
    Calls Tryd.prog 55 #[.slice A t.kids.length c] w fun e w' => ∃ A' c', e = .returned (.slice A' t.kids.length c') ∧ t.kids.length ≤ c' ∧ c' ≤ maxLen ∧ Kids (fun g => w.heap.size ≤ g) w' A' t.kids ∧ Below w.heap.size w w' := by
  refine ex_induct (p := fun t => ∀ (S : Nat → Prop) (A : Option Addr) (c : Nat) (w : World), t.kids.length ≤ c → c ≤ maxLen → Kids S w A t.kids → nodesL t.kids ≤ 1000000 →
    Calls Tryd.prog 55 #[.slice A t.kids.length c] w fun e w' => ∃ A' c', e = .returned (.slice A' t.kids.length c') ∧ t.kids.length ≤ c' ∧ c' ≤ maxLen ∧ Kids (fun g => w.heap.size ≤ g) w' A' t.kids ∧ Below w.heap.size w w') (fun k0 s0 ks lo0 hi0 ih S A c w h1 h2 h3 hn => ?_) t
  simp only [Ex.kids] at h1 h3 hn ⊢
  have hln := length_nodesL ks
  have hli : (ks.length : Int) ≤ 1000000 := by omega
  have h2' := h2
  unfold maxLen at h2'
  rcases Nat.eq_zero_or_pos ks.length with h0 | h0
  · obtain rfl : ks = [] := List.eq_nil_of_length_eq_zero h0
    clear h3
    go_enter Tryd.func55, Tryd.ntmps55
    go_wp2
    go_ret
    exact ⟨none, 0, rfl, Nat.le_refl _, Nat.zero_le _, fun k hk => absurd hk (by simp), Below.refl _ _⟩
  have h0i : ((ks.length : Int) == 0) = false := by rw [beq_eq_false_iff_ne]; omega
  have hmk := fun W => make_res W ks.length (by omega)
  have HF0 := Lib.hid (FillE.start (fun g => w.heap.size ≤ g) w ks.length)
  obtain ⟨O1, hO1⟩ : ∃ O1, O1 = Obj.cells (madeCells zeroRe (ks.length * 8)) 27 := ⟨_, rfl⟩
  rw [← hO1] at HF0
  have hmk' : ∀ W : World, (Instr.makeSlice 25 (.int .i64 (ks.length : Int)) (.int .i64 (ks.length : Int))).run Tryd.prog W = .ok (.slice (some ⟨W.heap.size, 0, none⟩) ks.length ks.length) (W.alloc O1) := by rw [hO1]; exact hmk
  have Hb0 : Hid (Below w.heap.size w (w.alloc O1)) := Lib.hid ((Below.refl _ _).alloc (Nat.le_refl _) _)
  have H3 := Lib.hid h3
  have Hih := Lib.hid ih
  have Hn := Lib.hid hn
  clear hmk hO1 h3 ih hn
  go_enter Tryd.func55, Tryd.ntmps55
  go_wp2
  go_loopw [14] (fun i wr => ∃ k : Nat, k ≤ ks.length ∧ i = .int .i64 (k : Int) ∧ Hid (FillE (fun g => w.heap.size ≤ g) wr w.heap.size ks.length (ks.take k)) ∧ Hid (Below w.heap.size w wr)) (fun i _ => ks.length - (intOf i).toNat)
  case atStart => exact ⟨0, Nat.zero_le _, rfl, HF0, Hb0⟩
  case round =>
    clear HF0 Hb0
    obtain ⟨k, hk, rfl, hF, hb⟩ := hrel
    by_cases hlt : k < ks.length
    · have hki : (k : Int) < (ks.length : Int) := by omega
      have Hts : Hid (ks.take (k + 1) = ks.take k ++ [ks[k]]) := Lib.hid (List.take_succ_eq_append_getElem hlt)
      have Hlen : Hid ((ks.take k).length = k) := Lib.hid (by simp; omega)
      obtain ⟨g, o, k', q0, q1, q2, q3, ks', A', c', lo', hi', rfl, hx, hr, x0, x1, x2, x3, x4, x5, x6, x7, -⟩ := (H3.out.ext hb.out).kidX hlt
      have hr2 := hr
      rw [hx, reR_iff] at hr2
      obtain ⟨hok, A2, c2, e2, k1, k2, k3⟩ := hr2
      simp only [reCells, List.cons.injEq, and_true, true_and] at e2
      have e3 := e2.2.2.2.2
      simp only [Value.slice.injEq, true_and] at e3
      obtain ⟨rfl, rfl⟩ := e3
      have hnk : nodesL ks' ≤ 1000000 := by
        have := nodesL_mem (List.getElem_mem hlt)
        rw [hx] at this
        have h9 := Hn.out
        simp only [nodesE] at this
        omega
      obtain ⟨B5, hB5⟩ : ∃ B5, B5 = Obj.cells #[.int .i64 k', .int .u64 (q0 : Int), .int .u64 (q1 : Int), .int .u64 (q2 : Int), .int .u64 (q3 : Int), .slice A' ks'.length c', .int .i64 lo', .int .i64 hi'] 27 := ⟨_, rfl⟩
      have hmem := List.getElem_mem hlt
      have HCo : Hid (Calls Tryd.prog 55 #[.slice A' ks'.length c'] (wr.alloc (Obj.cells #[.int .i64 k', .int .u64 (q0 : Int), .int .u64 (q1 : Int), .int .u64 (q2 : Int), .int .u64 (q3 : Int), .slice A' ks'.length c', .int .i64 lo', .int .i64 hi'] 27)) fun e w' => ∃ A2 c2, e = .returned (.slice A2 ks'.length c2) ∧ ks'.length ≤ c2 ∧ c2 ≤ maxLen ∧ Kids (fun g => wr.heap.size + 1 ≤ g) w' A2 ks' ∧ Below (wr.heap.size + 1) (wr.alloc (Obj.cells #[.int .i64 k', .int .u64 (q0 : Int), .int .u64 (q1 : Int), .int .u64 (q2 : Int), .int .u64 (q3 : Int), .slice A' ks'.length c', .int .i64 lo', .int .i64 hi'] 27)) w') := Lib.hid (by
        have := Hih.out _ hmem S A' c' (wr.alloc (Obj.cells #[.int .i64 k', .int .u64 (q0 : Int), .int .u64 (q1 : Int), .int .u64 (q2 : Int), .int .u64 (q3 : Int), .slice A' ks'.length c', .int .i64 lo', .int .i64 hi'] 27)) (by rw [hx]; exact k1) k2 (by rw [hx]; exact k3.ext ((Below.refl _ _).alloc (Nat.le_refl _) _)) (by rw [hx]; exact hnk)
        rw [hx] at this
        simpa only [World.size_alloc, Ex.kids] using this)
      have HB1 : Hid (Blk (wr.alloc (Obj.cells #[.int .i64 k', .int .u64 (q0 : Int), .int .u64 (q1 : Int), .int .u64 (q2 : Int), .int .u64 (q3 : Int), .slice A' ks'.length c', .int .i64 lo', .int .i64 hi'] 27)) wr.heap.size 27 #[.int .i64 k', .int .u64 (q0 : Int), .int .u64 (q1 : Int), .int .u64 (q2 : Int), .int .u64 (q3 : Int), .slice A' ks'.length c', .int .i64 lo', .int .i64 hi']) := Lib.hid (Blk.new _ _ _)
      have Hok := Lib.hid hok
      have Hx := Lib.hid hx
      have hFlt := hF.out.lt
      clear hr hx hok e2 k1 k2 k3 hnk hmem hB5
      go_wp2_with fail
      refine HCo.out.mono ?_
      rintro e w3 ⟨A3, c3, rfl, hl3, hm3, hk3, hb3⟩
      have hB3 := HB1.out.ext (by rw [World.size_alloc]; exact hb3)
      have hS3 : wr.heap.size + 1 ≤ w3.heap.size := by have := hb3.size; simpa using this
      have c0 := hB3.cell 0
      have c1 := hB3.cell 1
      have c2 := hB3.cell 2
      have c3' := hB3.cell 3
      have c4 := hB3.cell 4
      have c5 := hB3.cell 5
      have c6 := hB3.cell 6
      have c7 := hB3.cell 7
      have f5 := hB3.free 5
      have Hb3 : Hid (Below wr.heap.size wr w3) := Lib.hid (((Below.refl wr.heap.size wr).alloc (Nat.le_refl _) _).trans (hb3.mono (by omega)))
      have hB4 := hB3.put 5 (.slice A3 ks'.length c3)
      have ho4 : Only (fun b => b = wr.heap.size) w3 (w3.setCell ⟨wr.heap.size, 5, none⟩ (.slice A3 ks'.length c3)) := (Only.refl (fun b => b = wr.heap.size) w3).setCell (p := ⟨wr.heap.size, 5, none⟩) (.inl rfl) _
      have HF4 : Hid (FillE (fun g => w.heap.size ≤ g) (w3.setCell ⟨wr.heap.size, 5, none⟩ (.slice A3 ks'.length c3)) w.heap.size ks.length (ks.take k)) := Lib.hid (by
        obtain ⟨cs, f1, f2, f3⟩ := hF.out
        refine ⟨cs, (f1.ext Hb3.out).only ho4 (by omega), f2, fun j hj => ?_⟩
        obtain ⟨ds, f4, f5⟩ := f3 j hj
        refine ⟨ds, f4, ReR.keep (fun b hb' hl => ?_) (fun b hb' _ => hb') _ f5⟩
        exact (ho4.block b (by omega) (by omega)).trans (Hb3.out.block b hl))
      have HR4 : Hid (ReR (fun b => w.heap.size ≤ b ∧ b ≠ w.heap.size) (w3.setCell ⟨wr.heap.size, 5, none⟩ (.slice A3 ks'.length c3)) ks[k] [.int .i64 k', .int .u64 (q0 : Int), .int .u64 (q1 : Int), .int .u64 (q2 : Int), .int .u64 (q3 : Int), .slice A3 ks'.length c3, .int .i64 lo', .int .i64 hi']) := Lib.hid (by
        rw [Hx.out, reR_iff]
        refine ⟨Hok.out, A3, c3, rfl, hl3, hm3, fun i hi => ?_⟩
        obtain ⟨g2, o2, cs2, e2, s2, d2, r2⟩ := hk3 i hi
        refine ⟨g2, o2, cs2, e2, by omega, fun j u hu => ?_, (r2.only ho4 (fun b hb' e => by omega)).mono fun b hb' _ => by omega⟩
        exact cell_only (d2 j u hu) ho4 (by show ¬ g2 = wr.heap.size; omega))
      have Hb4 : Hid (Below w.heap.size w (w3.setCell ⟨wr.heap.size, 5, none⟩ (.slice A3 ks'.length c3))) := Lib.hid ((ext_trans hb.out Hb3.out).setCell (p := ⟨wr.heap.size, 5, none⟩) (by have := hb.out.size; exact this) _)
      have hone : (#[.int .i64 k', .int .u64 (q0 : Int), .int .u64 (q1 : Int), .int .u64 (q2 : Int), .int .u64 (q3 : Int), .slice A3 ks'.length c3, .int .i64 lo', .int .i64 hi'] : Array Value).all (·.oneCell') = true := by simp [Value.oneCell']
      have Ho4 := Lib.hid ho4
      clear hB3 hB4 ho4 hk3 hb3 x0 x1 x2 x3 x4 x5 x6 x7
      go_wp2_with (have hh := hone; clear hone; refine wpList_store_fill rfl _ _ rfl w.heap.size (k * 8) rfl rfl hh HF4.out (by rw [Hlen.out]) (by rw [Hlen.out]; exact hlt) HR4.out ?_; intro w5 hF5 ho5)
      have HF5 : Hid (FillE (fun g => w.heap.size ≤ g) w5 w.heap.size ks.length (ks.take (k + 1))) := Lib.hid (by rw [Hts.out]; exact hF5)
      have Hb5 := Lib.hid (Hb4.out.trans (ho5.below (fun g hg => by omega) (by have := Hb4.out.size; omega)))
      clear hF5 ho5 c0 c1 c2 c3' c4 c5 c6 c7 f5
      go_wp2
      go_roundw
      case rel => exact ⟨k + 1, by omega, by go_num, HF5, Hb5⟩
      case measure => simp [intOf]; omega
    · obtain rfl : k = ks.length := by omega
      have hF' := hF.out
      rw [List.take_length] at hF'
      have HK := Lib.hid (hF'.kids (T := fun g => w.heap.size ≤ g) fun b hb' _ => by rcases hb' with h | h; exact h; omega)
      clear hF'
      go_wp2
      go_ret
      exact ⟨_, _, rfl, Nat.le_refl _, by unfold maxLen; omega, HK.out, hb.out⟩
theorem copies_any (S : Nat → Prop) (A : Option Addr) (n c : Nat) (l : List Ex) (w : World) (hn : n = l.length) (h1 : l.length ≤ c) (h2 : c ≤ maxLen) (h : Kids S w A l) (hN : nodesL l ≤ 1000000) :
    Calls Tryd.prog 55 #[.slice A n c] w fun e w' => ∃ A' c', e = .returned (.slice A' n c') ∧ n ≤ c' ∧ c' ≤ maxLen ∧ Kids (fun g => w.heap.size ≤ g) w' A' l ∧ Below w.heap.size w w' := by
  subst hn
  exact copies_of (.mk 0 [] l 0 0) S A c w h1 h2 h hN

set_option maxHeartbeats 1000000 in
theorem pseq_any (S : Nat → Prop) (A : Option Addr) (n c : Nat) (l : List Ex) (w : World) (hn : n = l.length) (h1 : l.length ≤ c) (h2 : c ≤ maxLen) (h : Kids S w A l) (hN : nodesL l ≤ 1000000) :
    Calls Tryd.prog 28 #[.slice A n c] w fun e w' => ∃ cs, e = .returned (reV cs) ∧ ReR (fun g => w.heap.size ≤ g) w' (seqE l) cs ∧ Below w.heap.size w w' := by
  have HC := Lib.hid (copies_any S A n c l (w.alloc (Obj.cells #[.int .i64 0, .int .u64 0, .int .u64 0, .int .u64 0, .int .u64 0, .slice none 0 0, .int .i64 0, .int .i64 0] 27)) hn h1 h2 (h.ext ((Below.refl _ _).alloc (Nat.le_refl _) _)) hN)
  have HB := Lib.hid (Blk.new w 27 #[.int .i64 0, .int .u64 0, .int .u64 0, .int .u64 0, .int .u64 0, .slice none 0 0, .int .i64 0, .int .i64 0])
  have Hb : Hid (Below w.heap.size w (w.alloc (Obj.cells #[.int .i64 0, .int .u64 0, .int .u64 0, .int .u64 0, .int .u64 0, .slice none 0 0, .int .i64 0, .int .i64 0] 27))) := Lib.hid ((Below.refl _ _).alloc (Nat.le_refl _) _)
  subst hn
  clear h
  go_enter Tryd.func28, Tryd.ntmps28
  go_wp2_with fail
  refine HC.out.mono ?_
  rintro e w2 ⟨A2, c2, rfl, hl2, hm2, hk2, hb2⟩
  have hk3 : Kids (fun g => w.heap.size < g) w2 A2 l := fun i hi => by
    obtain ⟨g2, o2, cs2, e2, s2, d2, r2⟩ := hk2 i hi
    simp only [World.size_alloc] at s2 r2
    exact ⟨g2, o2, cs2, e2, by omega, d2, r2.mono fun b hb' _ => by omega⟩
  have hkind : isInt (2 : Int) := by unfold isInt; omega
  have hK3 := ofkids_any 2 hkind (fun g => w.heap.size < g) A2 l.length c2 l w2 rfl hl2 hm2 hk3
  have HK := Lib.hid hK3
  have HB2 := Lib.hid (HB.out.ext hb2)
  have Hb2 := Lib.hid (ext_trans Hb.out hb2)
  clear hl2 hm2 hk2 hb2 hk3 hK3 hkind
  go_wp2_with fail
  refine HK.out.mono ?_
  rintro e w3 ⟨cs, rfl, hcs, hb3⟩
  rw [kidsE_seq] at hcs
  have h8 := hcs.size
  obtain ⟨u0, u1, u2, u3, u4, u5, u6, u7, rfl⟩ := eight_cells h8
  have Hcs := Lib.hid hcs
  have HB3 := HB2.out.ext hb3
  have hone := arr_one hcs.one
  clear hcs h8
  unfold reV
  go_wp2_with (refine wpList_store_re rfl _ _ rfl w.heap.size rfl rfl rfl rfl hone HB3 ?_; intro w4 hB4 ho4)
  refine bodyPost_ret (results_re rfl _ _ w.heap.size _ _ rfl hB4 rfl) rfl ⟨[u0, u1, u2, u3, u4, u5, u6, u7], rfl, ?_, ?_⟩
  · exact ReR.mono (Hcs.out.only ho4 fun g hg h => by omega) fun g hg _ => Nat.le_of_lt hg
  · exact (ext_trans Hb2.out hb3).trans (ho4.below (fun i hi => by omega) (by have := (ext_trans Hb2.out hb3).size; omega))

set_option maxHeartbeats 1000000 in
theorem palt_any (S : Nat → Prop) (A : Option Addr) (n c : Nat) (l : List Ex) (w : World) (hn : n = l.length) (h1 : l.length ≤ c) (h2 : c ≤ maxLen) (h : Kids S w A l) (hN : nodesL l ≤ 1000000) :
    Calls Tryd.prog 30 #[.slice A n c] w fun e w' => ∃ cs, e = .returned (reV cs) ∧ ReR (fun g => w.heap.size ≤ g) w' (altE l) cs ∧ Below w.heap.size w w' := by
  have HC := Lib.hid (copies_any S A n c l (w.alloc (Obj.cells #[.int .i64 0, .int .u64 0, .int .u64 0, .int .u64 0, .int .u64 0, .slice none 0 0, .int .i64 0, .int .i64 0] 27)) hn h1 h2 (h.ext ((Below.refl _ _).alloc (Nat.le_refl _) _)) hN)
  have HB := Lib.hid (Blk.new w 27 #[.int .i64 0, .int .u64 0, .int .u64 0, .int .u64 0, .int .u64 0, .slice none 0 0, .int .i64 0, .int .i64 0])
  have Hb : Hid (Below w.heap.size w (w.alloc (Obj.cells #[.int .i64 0, .int .u64 0, .int .u64 0, .int .u64 0, .int .u64 0, .slice none 0 0, .int .i64 0, .int .i64 0] 27))) := Lib.hid ((Below.refl _ _).alloc (Nat.le_refl _) _)
  subst hn
  clear h
  go_enter Tryd.func30, Tryd.ntmps30
  go_wp2_with fail
  refine HC.out.mono ?_
  rintro e w2 ⟨A2, c2, rfl, hl2, hm2, hk2, hb2⟩
  have hk3 : Kids (fun g => w.heap.size < g) w2 A2 l := fun i hi => by
    obtain ⟨g2, o2, cs2, e2, s2, d2, r2⟩ := hk2 i hi
    simp only [World.size_alloc] at s2 r2
    exact ⟨g2, o2, cs2, e2, by omega, d2, r2.mono fun b hb' _ => by omega⟩
  have hkind : isInt (3 : Int) := by unfold isInt; omega
  have hK3 := ofkids_any 3 hkind (fun g => w.heap.size < g) A2 l.length c2 l w2 rfl hl2 hm2 hk3
  have HK := Lib.hid hK3
  have HB2 := Lib.hid (HB.out.ext hb2)
  have Hb2 := Lib.hid (ext_trans Hb.out hb2)
  clear hl2 hm2 hk2 hb2 hk3 hK3 hkind
  go_wp2_with fail
  refine HK.out.mono ?_
  rintro e w3 ⟨cs, rfl, hcs, hb3⟩
  rw [kidsE_alt] at hcs
  have h8 := hcs.size
  obtain ⟨u0, u1, u2, u3, u4, u5, u6, u7, rfl⟩ := eight_cells h8
  have Hcs := Lib.hid hcs
  have HB3 := HB2.out.ext hb3
  have hone := arr_one hcs.one
  clear hcs h8
  unfold reV
  go_wp2_with (refine wpList_store_re rfl _ _ rfl w.heap.size rfl rfl rfl rfl hone HB3 ?_; intro w4 hB4 ho4)
  refine bodyPost_ret (results_re rfl _ _ w.heap.size _ _ rfl hB4 rfl) rfl ⟨[u0, u1, u2, u3, u4, u5, u6, u7], rfl, ?_, ?_⟩
  · exact ReR.mono (Hcs.out.only ho4 fun g hg h => by omega) fun g hg _ => Nat.le_of_lt hg
  · exact (ext_trans Hb2.out hb3).trans (ho4.below (fun i hi => by omega) (by have := (ext_trans Hb2.out hb3).size; omega))
end Go.Proofs.YtmggajpecgnjkaaDoor

/-
  Contracts of the program's Same, and of slices.EqualFunc over it. No statement of the seat is proved here.
-/
namespace Go.Proofs.YtmggajpecgnjkaaDoor
open Go Go.RowKit
set_option maxRecDepth 100000

set_option maxHeartbeats 2000000 in
theorem equalfunc_any (S T : Nat → Prop) (ks ks' : List Ex) (ih : ∀ x ∈ ks, ∀ (y : Ex) (cs ds : List Value) (W : World), ReR S W x cs → ReR T W y ds → Calls Tryd.prog 25 #[reV cs, reV ds] W fun e w' => e = .returned (.bool (sameE x y)) ∧ Below W.heap.size W w')
    (hn : ks.length ≤ 1000000) (A A' : Option Addr) (c c' : Nat) (w : World) (h3 : Kids S w A ks) (h3' : Kids T w A' ks') (hl' : ks'.length ≤ c') (hm' : c' ≤ maxLen) (hl : ks.length ≤ c) (hm : c ≤ maxLen) (r : Bool) (hr : r = true ↔ ks = ks') :
    Calls Tryd.prog 50 #[.slice A ks.length c, .slice A' ks'.length c', .func (.func 25) #[] #[]] w fun e w' => e = .returned (.bool r) ∧ Below w.heap.size w w' := by
  have HrL := Lib.hid hr
  have Hih := Lib.hid ih
  have H3 := Lib.hid h3
  have H3' := Lib.hid h3'
  have hli : (ks.length : Int) ≤ 1000000 := by omega
  unfold maxLen at hm hm'
  clear hr ih h3 h3'
  by_cases hkl : ks.length = ks'.length
  case neg =>
    have Hf : Hid (false = r) := Lib.hid (by rw [Eq.comm, ← Bool.not_eq_true, HrL.out]; exact fun h => hkl (by rw [h]))
    have b1 : ((ks.length : Int) != (ks'.length : Int)) = true := by rw [bne_iff_ne]; omega
    clear hkl
    go_enter Tryd.func50, Tryd.ntmps50
    go_wp2
    go_ret
    exact ⟨ret_bool Hf.out, Below.refl _ _⟩
  have b1 : ((ks.length : Int) != (ks'.length : Int)) = false := by rw [bne_eq_false_iff_eq]; omega
  have Hkl := Lib.hid hkl
  have hli' : (ks'.length : Int) ≤ 1000000 := by omega
  clear hkl
  go_enter Tryd.func50, Tryd.ntmps50
  go_wp2
  go_loopw [17] (fun i wr => ∃ j : Nat, j ≤ ks.length ∧ i = .int .i64 (j : Int) ∧ Hid (ks.take j = ks'.take j) ∧ Hid (Below w.heap.size w wr)) (fun i _ => ks.length - (intOf i).toNat)
  case atStart => exact ⟨0, Nat.zero_le _, rfl, Lib.hid rfl, Lib.hid (Below.refl _ _)⟩
  case round =>
    obtain ⟨j, hj, rfl, hall, hb⟩ := hrel
    by_cases hlt : j < ks.length
    · have hlt' : j < ks'.length := by rw [← Hkl.out]; exact hlt
      have hji : (j : Int) < (ks.length : Int) := by omega
      have hji' : (j : Int) < (ks'.length : Int) := by omega
      obtain ⟨g, o, u0, u1, u2, u3, u4, u5, u6, u7, rfl, hr, x0, x1, x2, x3, x4, x5, x6, x7, -⟩ := (H3.out.ext hb.out).kid hlt
      obtain ⟨g', o', v0, v1, v2, v3, v4, v5, v6, v7, rfl, hr', y0, y1, y2, y3, y4, y5, y6, y7, -⟩ := (H3'.out.ext hb.out).kid hlt'
      obtain ⟨q, hq⟩ : ∃ q, sameE ks[j] ks'[j] = q := ⟨_, rfl⟩
      have Hc : Hid (∀ W, Below wr.heap.size wr W → Calls Tryd.prog 25 #[.agg #[u0, u1, u2, u3, u4, u5, u6, u7], .agg #[v0, v1, v2, v3, v4, v5, v6, v7]] W fun e w' => e = .returned (.bool q) ∧ Below W.heap.size W w') := Lib.hid fun W hW => by
        have := Hih.out _ (List.getElem_mem hlt) _ _ _ W (hr.ext hW) (hr'.ext hW)
        rw [hq] at this
        exact this
      have HY : Hid (∀ W, Below wr.heap.size wr W → W.cell? ⟨g', o' + j * 8, none⟩ = some v0 ∧ W.cell? ⟨g', o' + j * 8 + 1, none⟩ = some v1 ∧ W.cell? ⟨g', o' + j * 8 + 2, none⟩ = some v2 ∧ W.cell? ⟨g', o' + j * 8 + 3, none⟩ = some v3 ∧ W.cell? ⟨g', o' + j * 8 + 4, none⟩ = some v4 ∧ W.cell? ⟨g', o' + j * 8 + 5, none⟩ = some v5 ∧ W.cell? ⟨g', o' + j * 8 + 6, none⟩ = some v6 ∧ W.cell? ⟨g', o' + j * 8 + 7, none⟩ = some v7) := Lib.hid fun W hW =>
        have f := fun (ad : Addr) (v : Value) (h : wr.cell? ad = some v) => (World.cell?_of_block (a := ad) (hW.block _ (World.block_lt_of_cell? wr ad h))).trans h
        ⟨f _ _ y0, f _ _ y1, f _ _ y2, f _ _ y3, f _ _ y4, f _ _ y5, f _ _ y6, f _ _ y7⟩
      have hone1 : (#[u0, u1, u2, u3, u4, u5, u6, u7] : Array Value).all (·.oneCell') = true := arr_one hr.one
      have hone2 : (#[v0, v1, v2, v3, v4, v5, v6, v7] : Array Value).all (·.oneCell') = true := arr_one hr'.one
      have Hq := Lib.hid hq
      clear hr hr' hq y0 y1 y2 y3 y4 y5 y6 y7
      go_wp2_with (first
        | (have hh := hone1; clear hone1; refine wpList_store_re rfl _ _ rfl wr.heap.size rfl rfl rfl rfl hh (Blk.new _ _ _) ?_; intro w4 hB4 ho4; have hb4 : Below wr.heap.size wr w4 := ((Below.refl _ _).alloc (Nat.le_refl _) _).trans (ho4.below (fun i hi => Nat.le_of_eq hi.symm) (by simp)); obtain ⟨y0, y1, y2, y3, y4, y5, y6, y7⟩ := HY.out w4 hb4)
        | (have hh := hone2; clear hone2; refine wpList_store_re rfl _ _ rfl w4.heap.size rfl rfl rfl rfl hh (Blk.new _ _ _) ?_; intro w5 hB5 ho5; have hb5 : Below w4.heap.size w4 w5 := ((Below.refl _ _).alloc (Nat.le_refl _) _).trans (ho5.below (fun i hi => Nat.le_of_eq hi.symm) (by simp)); have hB45 := (hB4.alloc (Obj.cells #[.int .i64 0, .int .u64 0, .int .u64 0, .int .u64 0, .int .u64 0, .slice none 0 0, .int .i64 0, .int .i64 0] 27)).only ho5 (by have := hB4.lt; omega); have c0 := hB45.cell 0; have c1 := hB45.cell 1; have c2 := hB45.cell 2; have c3 := hB45.cell 3; have c4 := hB45.cell 4; have c5 := hB45.cell 5; have c6 := hB45.cell 6; have c7 := hB45.cell 7; have d0 := hB5.cell 0; have d1 := hB5.cell 1; have d2 := hB5.cell 2; have d3 := hB5.cell 3; have d4 := hB5.cell 4; have d5 := hB5.cell 5; have d6 := hB5.cell 6; have d7 := hB5.cell 7))
      have Hb5 := Lib.hid (ext_trans hb4 hb5)
      clear c0 c1 c2 c3 c4 c5 c6 c7 d0 d1 d2 d3 d4 d5 d6 d7 x0 x1 x2 x3 x4 x5 x6 x7 y0 y1 y2 y3 y4 y5 y6 y7 hB4 ho4 hB5 ho5 hb4 hb5 hB45
      refine (Hc.out _ Hb5.out).mono ?_
      rintro e w6 ⟨rfl, hb6⟩
      have Hb6 := Lib.hid (ext_trans (ext_trans hb.out Hb5.out) hb6)
      clear hb6
      cases q with
      | true =>
        go_wp2
        go_roundw
        case rel => exact ⟨j + 1, by omega, by go_num, Lib.hid (by rw [List.take_succ_eq_append_getElem hlt, List.take_succ_eq_append_getElem hlt', hall.out, (sameE_iff _ _).1 Hq.out]), Hb6⟩
        case measure => simp [intOf]; omega
      | false =>
        have Hf : Hid (false = r) := Lib.hid (by
          rw [Eq.comm, ← Bool.not_eq_true, HrL.out]
          rintro rfl
          have := (sameE_iff ks[j] ks[j]).2 rfl
          rw [Hq.out] at this
          cases this)
        go_wp2
        go_ret
        exact ⟨ret_bool Hf.out, Hb6.out⟩
    · obtain rfl : j = ks.length := by omega
      have Hf : Hid (true = r) := Lib.hid (by
        rw [Eq.comm, HrL.out]
        have := hall.out
        rwa [List.take_length, Hkl.out, List.take_length] at this)
      go_wp2
      go_ret
      exact ⟨ret_bool Hf.out, hb.out⟩

set_option maxHeartbeats 4000000 in
theorem psame_any (S T : Nat → Prop) (a : Ex) : ∀ (b : Ex) (cs ds : List Value) (w : World), ReR S w a cs → ReR T w b ds → nodesE a ≤ 1000000 →
    Calls Tryd.prog 25 #[reV cs, reV ds] w fun e w' => e = .returned (.bool (sameE a b)) ∧ Below w.heap.size w w' := by
  refine ex_induct (p := fun a => ∀ (b : Ex) (cs ds : List Value) (w : World), ReR S w a cs → ReR T w b ds → nodesE a ≤ 1000000 → Calls Tryd.prog 25 #[reV cs, reV ds] w fun e w' => e = .returned (.bool (sameE a b)) ∧ Below w.heap.size w w') (fun k sa ks lo hi ih b cs ds w ha hb hn => ?_) a
  obtain ⟨kx, p0, p1, p2, p3, ksx, A, c, lox, hix, e1, rfl, h1, h2, -, -, -, hs, h3⟩ := ha.fields
  obtain ⟨rfl, rfl, rfl, rfl, rfl⟩ := Ex.mk.inj e1
  obtain ⟨k', q0, q1, q2, q3, ks', A', c', lo', hi', rfl, rfl, h1', h2', -, -, -, hs', h3'⟩ := hb.fields
  have hln := length_nodesL ks
  have hno : nodesE (.mk k [p0, p1, p2, p3] ks lo hi) = 1 + nodesL ks := by simp [nodesE]
  rw [hno] at hn
  obtain ⟨r, hr⟩ : ∃ r, sameE (.mk k [p0, p1, p2, p3] ks lo hi) (.mk k' [q0, q1, q2, q3] ks' lo' hi') = r := ⟨_, rfl⟩
  rw [hr]
  have hr2 : r = true ↔ k = k' ∧ [p0, p1, p2, p3] = [q0, q1, q2, q3] ∧ lo = lo' ∧ hi = hi' ∧ ks = ks' := by
    rw [← hr, sameE_iff, Ex.mk.injEq]
    constructor
    · rintro ⟨h1, h2, h5, h3, h4⟩; exact ⟨h1, h2, h3, h4, h5⟩
    · rintro ⟨h1, h2, h3, h4, h5⟩; exact ⟨h1, h2, h5, h3, h4⟩
  have Hr := Lib.hid hr2
  have hz := fun W => eq_sets hs hs' W
  obtain ⟨zb, hzb⟩ : ∃ b, decide ([p0, p1, p2, p3] = [q0, q1, q2, q3]) = b := ⟨_, rfl⟩
  rw [hzb] at hz
  have hz' : ∀ W, (Op.equalIn 10000 24 (.agg #[.int .u64 (p0 : Int), .int .u64 (p1 : Int), .int .u64 (p2 : Int), .int .u64 (p3 : Int)]) (.agg #[.int .u64 (q0 : Int), .int .u64 (q1 : Int), .int .u64 (q2 : Int), .int .u64 (q3 : Int)])).run Tryd.prog W = .ok zb W := hz
  have Hzb := Lib.hid hzb
  have HE : Hid (∀ W, Below w.heap.size w W → (k = k' ∧ zb = true ∧ lo = lo' ∧ hi = hi') → Calls Tryd.prog 50 #[.slice A ks.length c, .slice A' ks'.length c', .func (.func 25) #[] #[]] W fun e w' => e = .returned (.bool r) ∧ Below W.heap.size W w') := Lib.hid fun W hW hh => by
    refine equalfunc_any S T ks ks' (fun x hx y cs ds W' hx' hy' => ih x hx y cs ds W' hx' hy' ?_) (by omega) A A' c c' W (h3.ext hW) (h3'.ext hW) h1' h2' h1 h2 r ?_
    · have := nodesL_mem hx; omega
    · rw [hr2]
      exact ⟨fun h => h.2.2.2.2, fun h => ⟨hh.1, of_decide_eq_true (by rw [hzb]; exact hh.2.1), hh.2.2.1, hh.2.2.2, h⟩⟩
  unfold maxLen at h2 h2'
  clear ih h3 h3' hr2 hr hz hzb hno ha hb hs hs' e1 hn hln
  have hB1 := (Blk.new w 27 #[.int .i64 k, .int .u64 (p0 : Int), .int .u64 (p1 : Int), .int .u64 (p2 : Int), .int .u64 (p3 : Int), .slice A ks.length c, .int .i64 lo, .int .i64 hi]).alloc (Obj.cells #[.int .i64 k', .int .u64 (q0 : Int), .int .u64 (q1 : Int), .int .u64 (q2 : Int), .int .u64 (q3 : Int), .slice A' ks'.length c', .int .i64 lo', .int .i64 hi'] 27)
  have hB2 := Blk.new (w.alloc (Obj.cells #[.int .i64 k, .int .u64 (p0 : Int), .int .u64 (p1 : Int), .int .u64 (p2 : Int), .int .u64 (p3 : Int), .slice A ks.length c, .int .i64 lo, .int .i64 hi] 27)) 27 #[.int .i64 k', .int .u64 (q0 : Int), .int .u64 (q1 : Int), .int .u64 (q2 : Int), .int .u64 (q3 : Int), .slice A' ks'.length c', .int .i64 lo', .int .i64 hi']
  rw [World.size_alloc] at hB2
  show Calls Tryd.prog 25 #[.agg #[.int .i64 k, .int .u64 (p0 : Int), .int .u64 (p1 : Int), .int .u64 (p2 : Int), .int .u64 (p3 : Int), .slice A ks.length c, .int .i64 lo, .int .i64 hi], .agg #[.int .i64 k', .int .u64 (q0 : Int), .int .u64 (q1 : Int), .int .u64 (q2 : Int), .int .u64 (q3 : Int), .slice A' ks'.length c', .int .i64 lo', .int .i64 hi']] w _
  by_cases hk : k = k'
  case neg =>
    have Hf : Hid (false = r) := Lib.hid (by rw [Eq.comm, ← Bool.not_eq_true, Hr.out]; exact fun h => hk h.1)
    have b1 : (k == k') = false := by simpa using hk
    clear hk
    clear hB1 hB2
    go_enter Tryd.func25, Tryd.ntmps25
    go_wp2_with fail
    go_ret
    exact ⟨ret_bool Hf.out, ext2 w _ _⟩
  subst hk
  cases zb with
  | false =>
    have Hf : Hid (false = r) := Lib.hid (by rw [Eq.comm, ← Bool.not_eq_true, Hr.out]; exact fun h => of_decide_eq_false Hzb.out h.2.1)
    clear hB1 hB2
    go_enter Tryd.func25, Tryd.ntmps25
    go_wp2_with fail
    go_ret
    exact ⟨ret_bool Hf.out, ext2 w _ _⟩
  | true =>
  by_cases hl : lo = lo'
  case neg =>
    have Hf : Hid (false = r) := Lib.hid (by rw [Eq.comm, ← Bool.not_eq_true, Hr.out]; exact fun h => hl h.2.2.1)
    have b1 : (lo == lo') = false := by simpa using hl
    clear hl
    clear hB1 hB2
    go_enter Tryd.func25, Tryd.ntmps25
    go_wp2_with fail
    go_ret
    exact ⟨ret_bool Hf.out, ext2 w _ _⟩
  subst hl
  by_cases hh : hi = hi'
  case neg =>
    have Hf : Hid (false = r) := Lib.hid (by rw [Eq.comm, ← Bool.not_eq_true, Hr.out]; exact fun h => hh h.2.2.2.1)
    have b1 : (hi == hi') = false := by simpa using hh
    clear hh
    clear hB1 hB2
    go_enter Tryd.func25, Tryd.ntmps25
    go_wp2_with fail
    go_ret
    exact ⟨ret_bool Hf.out, ext2 w _ _⟩
  subst hh
  clear hB1 hB2
  go_enter Tryd.func25, Tryd.ntmps25
  go_wp2_with fail
  refine (HE.out _ (ext2 w _ _) (by simp)).mono ?_
  rintro e w3 ⟨rfl, hb3⟩
  go_wp2
  go_ret
  exact ⟨rfl, ext_trans (ext2 w _ _) hb3⟩
end Go.Proofs.YtmggajpecgnjkaaDoor
