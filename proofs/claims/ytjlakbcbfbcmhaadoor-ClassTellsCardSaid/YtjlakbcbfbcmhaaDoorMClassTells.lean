/-
  Statement ClassTells: of any bytes the set, and of any set its bytes and rows of neighbours.
-/
import Derived.Test.YtjlakbcbfbcmhaaDoorAll1
set_option linter.unusedVariables false
set_option linter.unusedSimpArgs false
namespace Go.Proofs.YtjlakbcbfbcmhaaDoor
open Go Go.ChangeShapes Go.WideShapes Go.ChangeAt Go.RowKit
namespace ClassTells

theorem toU8 {l : List Nat} (hl : ∀ b ∈ l, b < 256) : l.map nb = (l.map Nat.toUInt8).map bv := by
  rw [List.map_map]
  refine List.map_congr_left fun b hb => ?_
  have := hl b hb
  simp only [Function.comp, nb, bv, Nat.toUInt8, UInt8.toNat_ofNat', Value.int.injEq, true_and]
  congr 1
  omega
theorem cellR_of {w : World} {A : Option Addr} {l : List (Nat × Nat)} (h : Rd w A (cellsR l)) (hf : Flat A) {k : Nat} (hk : k < l.length) :
    ∃ g o, A = some ⟨g, o, none⟩ ∧ w.cell? ⟨g, o + k * 2, none⟩ = some (.int .u8 (l[k].1 : Int)) ∧ w.cell? ⟨g, o + k * 2 + 1, none⟩ = some (.int .u8 (l[k].2 : Int)) := by
  obtain ⟨h1, h2⟩ := cellsR_at l k hk
  obtain ⟨ad, e, c1⟩ := h _ _ h1
  obtain ⟨ad', e', c2⟩ := h _ _ h2
  rw [e] at e'; injection e' with e'; subst e'
  obtain ⟨g, o, rfl⟩ := hf ad e
  rw [Addr.add_mid] at c1 c2
  rw [← Nat.add_assoc] at c2
  exact ⟨g, o, e, c1, c2⟩
theorem conv_nb (A : Option Addr) (c : Nat) (l : List Nat) (hl : ∀ b ∈ l, b < 256) : ∃ Z, ∀ (w : World) (A : Option Addr) (c : Nat), Rd w A (l.map nb) → (convert 22 9 (.slice A l.length c)).run Tryd.prog w = .ok (.string Z) w := by
  refine ⟨⟨(l.map Nat.toUInt8).toArray⟩, fun w A c hr => ?_⟩
  rw [toU8 hl] at hr
  exact conv_bytes w A l.length c (l.map Nat.toUInt8) (by simp) hr

set_option maxHeartbeats 4000000 in
theorem tells (A : Option Addr) (n c : Nat) (l : List Nat) (ws : List Nat) (hs : SetOk ws) (lo hi : Nat) (hlo : lo < 256) (hhi : hi < 256) (w : World) (ht : Tab w) (hn : n = l.length) (hm : n ≤ maxLen) (hl : ∀ b ∈ l, b < 256) (hr : Rd w A (l.map nb)) :
    Calls Tryd.prog 3 #[.slice A n c, setV ws, .int .u8 (lo : Int), .int .u8 (hi : Int)] w fun e w' => e = .returned (.bool true) ∧ Below w.heap.size w w' := by
  subst hn
  have hmi : (l.length : Int) ≤ 9223372036854775807 := by unfold maxLen at hm; omega
  obtain ⟨p0, p1, p2, p3, rfl⟩ := four_words hs
  obtain ⟨w1, hw1⟩ : ∃ w1, w1 = w.alloc (Obj.cells #[.int .u64 (p0 : Int), .int .u64 (p1 : Int), .int .u64 (p2 : Int), .int .u64 (p3 : Int)] 25) := ⟨_, rfl⟩
  have hb01 : Below w.heap.size w w1 := by rw [hw1]; exact (Below.refl _ _).alloc (Nat.le_refl _) _
  have hB := Blk.new w 25 #[.int .u64 (p0 : Int), .int .u64 (p1 : Int), .int .u64 (p2 : Int), .int .u64 (p3 : Int)]
  rw [← hw1] at hB
  have Hw1 := Lib.hid hw1
  show Calls Tryd.prog 3 #[.slice A l.length c, .agg #[.int .u64 (p0 : Int), .int .u64 (p1 : Int), .int .u64 (p2 : Int), .int .u64 (p3 : Int)], .int .u8 (lo : Int), .int .u8 (hi : Int)] w _
  clear hw1
  by_cases hlen : 500 < l.length
  · have hli : (500 : Int) < (l.length : Int) := by omega
    go_enter Tryd.func3, Tryd.ntmps3
    go_wp2
    go_ret
    exact ⟨rfl, by rw [← Hw1.out]; exact hb01⟩
  have hli : ¬ (500 : Int) < (l.length : Int) := by omega
  have ht1 := ht.ext hb01
  have hc : ∀ W, Below w1.heap.size w1 W → W.cell? ⟨w.heap.size, 0, none⟩ = some (.int .u64 (p0 : Int)) ∧ W.cell? ⟨w.heap.size, 1, none⟩ = some (.int .u64 (p1 : Int)) ∧ W.cell? ⟨w.heap.size, 2, none⟩ = some (.int .u64 (p2 : Int)) ∧ W.cell? ⟨w.heap.size, 3, none⟩ = some (.int .u64 (p3 : Int)) := fun W hW =>
    ⟨(hB.ext hW).cell 0, (hB.ext hW).cell 1, (hB.ext hW).cell 2, (hB.ext hW).cell 3⟩
  have hL : ∀ W, Below w1.heap.size w1 W → Calls Tryd.prog 6 #[.agg #[.int .u64 (p0 : Int), .int .u64 (p1 : Int), .int .u64 (p2 : Int), .int .u64 (p3 : Int)]] W fun e w' => ∃ A' c', e = .returned (.slice A' (listB [p0, p1, p2, p3]).length c') ∧ Rd w' A' ((listB [p0, p1, p2, p3]).map nb) ∧ Below w1.heap.size w1 w' ∧ ∀ B xs, Rd W B xs → Rd w' B xs := fun W hW =>
    (list_any _ hs W (ht1.ext hW)).mono fun e w' ⟨A', c', e1, h1⟩ => ⟨A', c', e1, h1.rd, ext_trans hW h1.bel, fun B xs hx => hx.ext h1.bel⟩
  have hRL : ∀ W, Below w1.heap.size w1 W → Calls Tryd.prog 7 #[.agg #[.int .u64 (p0 : Int), .int .u64 (p1 : Int), .int .u64 (p2 : Int), .int .u64 (p3 : Int)]] W fun e w' => ∃ A' c', e = .returned (.slice A' (listB [p0, p1, p2, p3]).length c') ∧ Rd w' A' ((listB [p0, p1, p2, p3]).map nb) ∧ Below w1.heap.size w1 w' ∧ ∀ B xs, Rd W B xs → Rd w' B xs := fun W hW =>
    (rlist_any _ hs W).mono fun e w' ⟨A', c', e1, h1⟩ => ⟨A', c', e1, h1.rd, ext_trans hW h1.bel, fun B xs hx => hx.ext h1.bel⟩
  have hR : ∀ W, Below w1.heap.size w1 W → Calls Tryd.prog 8 #[.agg #[.int .u64 (p0 : Int), .int .u64 (p1 : Int), .int .u64 (p2 : Int), .int .u64 (p3 : Int)]] W fun e w' => ∃ A' c', e = .returned (.slice A' (rowsB (listB [p0, p1, p2, p3])).length c') ∧ Rd w' A' (cellsR (rowsB (listB [p0, p1, p2, p3]))) ∧ Flat A' ∧ Below w1.heap.size w1 w' ∧ ∀ B xs, Rd W B xs → Rd w' B xs := fun W hW =>
    (ranges_any _ hs W (ht1.ext hW)).mono fun e w' ⟨A', c', e1, h1⟩ => ⟨A', c', e1, h1.rd, h1.row.flat, ext_trans hW h1.bel, fun B xs hx => hx.ext h1.bel⟩
  have hRR : ∀ W, Below w1.heap.size w1 W → Calls Tryd.prog 9 #[.agg #[.int .u64 (p0 : Int), .int .u64 (p1 : Int), .int .u64 (p2 : Int), .int .u64 (p3 : Int)]] W fun e w' => ∃ A' c', e = .returned (.slice A' (rowsB (listB [p0, p1, p2, p3])).length c') ∧ Rd w' A' (cellsR (rowsB (listB [p0, p1, p2, p3]))) ∧ Flat A' ∧ Below w1.heap.size w1 w' ∧ ∀ B xs, Rd W B xs → Rd w' B xs := fun W hW =>
    (rranges_any _ hs W).mono fun e w' ⟨A', c', e1, h1⟩ => ⟨A', c', e1, h1.rd, h1.row.flat, ext_trans hW h1.bel, fun B xs hx => hx.ext h1.bel⟩
  have hCn : ∀ W, Below w1.heap.size w1 W → Calls Tryd.prog 10 #[.agg #[.int .u64 (p0 : Int), .int .u64 (p1 : Int), .int .u64 (p2 : Int), .int .u64 (p3 : Int)]] W fun e w' => e = .returned (.int .i64 ((listB [p0, p1, p2, p3]).length : Int)) ∧ Below w1.heap.size w1 w' ∧ ∀ B xs, Rd W B xs → Rd w' B xs := fun W hW =>
    (count_any _ hs W).mono fun e w' ⟨e1, h1⟩ => ⟨e1, ext_trans hW h1, fun B xs hx => hx.ext h1⟩
  have hH : ∀ W, Below w1.heap.size w1 W → Calls Tryd.prog 15 #[.agg #[.int .u64 (p0 : Int), .int .u64 (p1 : Int), .int .u64 (p2 : Int), .int .u64 (p3 : Int)], .int .u8 (lo : Int)] W fun e w' => e = .returned (.bool (hasB [p0, p1, p2, p3] lo)) ∧ Below w1.heap.size w1 w' := fun W hW =>
    (has_any _ hs lo hlo W).mono fun e w' ⟨e1, h1⟩ => ⟨e1, ext_trans hW h1⟩
  have hRH : ∀ W, Below w1.heap.size w1 W → Calls Tryd.prog 16 #[.agg #[.int .u64 (p0 : Int), .int .u64 (p1 : Int), .int .u64 (p2 : Int), .int .u64 (p3 : Int)], .int .u8 (lo : Int)] W fun e w' => e = .returned (.bool (hasB [p0, p1, p2, p3] lo)) ∧ Below w1.heap.size w1 w' := fun W hW =>
    (rhas_any _ hs lo hlo W).mono fun e w' ⟨e1, h1⟩ => ⟨e1, ext_trans hW h1⟩
  have hl1 : l.length ≤ 1000000 := by omega
  have hO : ∀ W, Below w1.heap.size w1 W → Calls Tryd.prog 11 #[.slice A l.length c] W fun e w' => e = .returned (.agg (cellsU (ofB l))) ∧ Below w1.heap.size w1 w' := fun W hW =>
    (of_any A l.length c l W rfl hl hl1 ((hr.ext hb01).ext hW)).mono fun e w' ⟨e1, h1⟩ => ⟨e1, ext_trans hW h1⟩
  have hRO : ∀ W, Below w1.heap.size w1 W → Calls Tryd.prog 12 #[.slice A l.length c] W fun e w' => e = .returned (.agg (cellsU (ofB l))) ∧ Below w1.heap.size w1 w' := fun W hW =>
    (rof_any A l.length c l W rfl hl hl1 ((hr.ext hb01).ext hW)).mono fun e w' ⟨e1, h1⟩ => ⟨e1, ext_trans hW h1⟩
  have hG : ∀ W, Below w1.heap.size w1 W → Calls Tryd.prog 13 #[.int .u8 (lo : Int), .int .u8 (hi : Int)] W fun e w' => e = .returned (.agg (cellsU (ofB (rangeB lo hi)))) ∧ Below w1.heap.size w1 w' := fun W hW =>
    (range_any lo hi W hlo hhi).mono fun e w' ⟨e1, h1⟩ => ⟨e1, ext_trans hW h1⟩
  have hRG : ∀ W, Below w1.heap.size w1 W → Calls Tryd.prog 14 #[.int .u8 (lo : Int), .int .u8 (hi : Int)] W fun e w' => e = .returned (.agg (cellsU (ofB (rangeB lo hi)))) ∧ Below w1.heap.size w1 w' := fun W hW =>
    (rrange_any lo hi W hlo hhi).mono fun e w' ⟨e1, h1⟩ => ⟨e1, ext_trans hW h1⟩
  have hK : ∀ W, Below w1.heap.size w1 W → Calls Tryd.prog 17 #[] W fun e w' => e = .returned (.bool true) ∧ Below w1.heap.size w1 w' := fun W hW =>
    (known_any W (ht1.ext hW)).mono fun e w' ⟨e1, h1⟩ => ⟨e1, ext_trans hW h1⟩
  have hLlt : ∀ b ∈ listB [p0, p1, p2, p3], b < 256 := fun b hb => listB_lt hb
  have hLl := listB_len [p0, p1, p2, p3]
  have hRl := rowsB_len hLlt
  obtain ⟨Z, hZ⟩ := conv_nb none 0 _ hLlt
  have he1 := eq_set (ofB_ok l)
  have he2 := eq_set (ofB_ok (rangeB lo hi))
  obtain ⟨R, hRe⟩ : ∃ R, rowsB (listB [p0, p1, p2, p3]) = R := ⟨_, rfl⟩
  obtain ⟨L, hLe⟩ : ∃ L, listB [p0, p1, p2, p3] = L := ⟨_, rfl⟩
  rw [hRe] at hR hRR hRl
  rw [hLe] at hL hRL hCn hLl hRl hZ
  clear hLlt hRe hLe
  generalize hasB [p0, p1, p2, p3] lo = hb at hH hRH
  generalize ofB l = u1 at hO hRO he1
  generalize ofB (rangeB lo hi) = u2 at hG hRG he2
  have Hc := Lib.hid hc
  have HL := Lib.hid hL
  have HRL := Lib.hid hRL
  have HR := Lib.hid hR
  have HRR := Lib.hid hRR
  have HCn := Lib.hid hCn
  have HH := Lib.hid hH
  have HRH := Lib.hid hRH
  have HO := Lib.hid hO
  have HRO := Lib.hid hRO
  have HG := Lib.hid hG
  have HRG := Lib.hid hRG
  have HK := Lib.hid hK
  have HZ := Lib.hid hZ
  have hcw := hc w1 (Below.refl _ _)
  obtain ⟨c0, c1, c2, c3⟩ := hcw
  clear hc hL hRL hR hRR hCn hH hRH hO hRO hG hRG hK hZ ht ht1 hB hr hs hl
  go_enter Tryd.func3, Tryd.ntmps3
  go_wp2
  rw [← Hw1.out]
  go_cut [9, 10] (fun a b wx => ∃ A1 c1 A2 c2, a = .slice A1 L.length c1 ∧ b = .slice A2 L.length c2 ∧ Rd wx A1 (L.map nb) ∧ Rd wx A2 (L.map nb) ∧ Below w1.heap.size w1 wx)
  case first =>
    go_region_held3 (fun w' => w'.cell? ⟨w.heap.size, 0, none⟩ = some (.int .u64 (p0 : Int)) ∧ w'.cell? ⟨w.heap.size, 1, none⟩ = some (.int .u64 (p1 : Int)) ∧ w'.cell? ⟨w.heap.size, 2, none⟩ = some (.int .u64 (p2 : Int)) ∧ w'.cell? ⟨w.heap.size, 3, none⟩ = some (.int .u64 (p3 : Int)))
      (first | exact Hc.out _ (by repeat (first | exact hbL | exact hbR | apply ext_drew | exact Below.refl _ _)))
      (first
      | (go_at_call 6; ((with_reducible refine (HL.out _ ?_).mono ?_)); (repeat (first | exact hbR | apply ext_drew | exact Below.refl _ _)); rintro e w2 ⟨A1, c1, rfl, hr1, hbL, hk1⟩)
      | (go_at_call 7; ((with_reducible refine (HRL.out _ ?_).mono ?_)); (repeat (first | exact hbL | apply ext_drew | exact Below.refl _ _)); rintro e w3 ⟨A2, c2, rfl, hr2, hbR, hk2⟩))
    all_goals
      go_wp2
      go_meet
      case rel => first | exact ⟨A1, c1, A2, c2, rfl, rfl, hk2 _ _ hr1, hr2, hbR⟩ | exact ⟨A1, c1, A2, c2, rfl, rfl, hr1, hk1 _ _ hr2, hbL⟩
  case rest =>
    obtain ⟨A1, c1, A2, c2, rfl, rfl, hr1, hr2, hb1⟩ := hcut
    obtain ⟨v1, hv1⟩ : ∃ v1, v1 = wc := ⟨_, rfl⟩
    subst hv1
    obtain ⟨c0, c1', c2', c3⟩ := Hc.out v1 hb1
    go_wp2
    go_cut [11, 12] (fun a b wx => ∃ A3 c3 A4 c4, a = .slice A3 R.length c3 ∧ b = .slice A4 R.length c4 ∧ Rd wx A1 (L.map nb) ∧ Rd wx A2 (L.map nb) ∧ Rd wx A3 (cellsR R) ∧ Flat A3 ∧ Rd wx A4 (cellsR R) ∧ Flat A4 ∧ Below w1.heap.size w1 wx)
    case first =>
      go_region_held3 (fun w' => w'.cell? ⟨w.heap.size, 0, none⟩ = some (.int .u64 (p0 : Int)) ∧ w'.cell? ⟨w.heap.size, 1, none⟩ = some (.int .u64 (p1 : Int)) ∧ w'.cell? ⟨w.heap.size, 2, none⟩ = some (.int .u64 (p2 : Int)) ∧ w'.cell? ⟨w.heap.size, 3, none⟩ = some (.int .u64 (p3 : Int)))
        (first | exact Hc.out _ (by repeat (first | exact hb1 | exact hbL | exact hbR | apply ext_drew | exact Below.refl _ _)))
        (first
        | (go_at_call 8; ((with_reducible refine (HR.out _ ?_).mono ?_)); (repeat (first | exact hb1 | exact hbR | apply ext_drew | exact Below.refl _ _)); rintro e w2 ⟨A3, c3, rfl, hr3, hf3, hbL, hk1⟩)
        | (go_at_call 9; ((with_reducible refine (HRR.out _ ?_).mono ?_)); (repeat (first | exact hb1 | exact hbL | apply ext_drew | exact Below.refl _ _)); rintro e w3 ⟨A4, c4, rfl, hr4, hf4, hbR, hk2⟩))
      all_goals
        go_wp2
        go_meet
        case rel => first | exact ⟨A3, c3, A4, c4, rfl, rfl, hk2 _ _ (hk1 _ _ hr1), hk2 _ _ (hk1 _ _ hr2), hk2 _ _ hr3, hf3, hr4, hf4, hbR⟩ | exact ⟨A3, c3, A4, c4, rfl, rfl, hk1 _ _ (hk2 _ _ hr1), hk1 _ _ (hk2 _ _ hr2), hr3, hf3, hk1 _ _ hr4, hf4, hbL⟩
    case rest =>
      obtain ⟨A3, c3', A4, c4', rfl, rfl, hr1', hr2', hr3, hf3, hr4, hf4, hb2⟩ := hcut
      obtain ⟨v2, hv2⟩ : ∃ v2, v2 = wc := ⟨_, rfl⟩
      subst hv2
      clear c0 c1' c2' c3
      obtain ⟨c0, c1', c2', c3⟩ := Hc.out v2 hb2
      have z1 := HZ.out v2 A1 c1 hr1'
      have z2 := HZ.out v2 A2 c2 hr2'
      clear hr1 hr2
      have hLi : (L.length : Int) ≤ 256 := by omega
      have hRi : (R.length : Int) ≤ 256 := by omega
      go_wp2_with fail
      refine (HCn.out _ hb2).mono ?_
      rintro e v3 ⟨rfl, hb3, hk3⟩
      have hr3' := hk3 _ _ hr3
      have hr4' := hk3 _ _ hr4
      clear z1 z2 hr1' hr2' hr3 hr4 hk3 c0 c1' c2' c3 hb2
      go_wp2
      go_loopw [13] (fun i wr => ∃ k : Nat, k ≤ R.length ∧ i = .int .i64 (k : Int) ∧ Rd wr A3 (cellsR R) ∧ Rd wr A4 (cellsR R) ∧ Below w1.heap.size w1 wr) (fun i _ => R.length - (intOf i).toNat)
      case atStart => exact ⟨0, Nat.zero_le _, rfl, hr3', hr4', hb3⟩
      case round =>
        obtain ⟨k, hk, rfl, hr3, hr4, hb⟩ := hrel
        by_cases hlt : k < R.length
        · obtain ⟨g3, o3, rfl, x1, x2⟩ := cellR_of hr3 hf3 hlt
          obtain ⟨g4, o4, rfl, y1, y2⟩ := cellR_of hr4 hf4 hlt
          have hki : (k : Int) < (R.length : Int) := by omega
          have heq := eq_two (R[k].1 : Int) (R[k].2 : Int)
          generalize (R[k].1 : Int) = va at x1 y1 heq
          generalize (R[k].2 : Int) = vb at x2 y2 heq
          go_wp2
          go_region
          go_wp2
          go_roundw
          case rel => exact ⟨k + 1, by omega, by go_num, hr3, hr4, ext_drew hb⟩
          case measure => simp [intOf]; omega
        · obtain rfl : k = R.length := by omega
          obtain ⟨v4, hv4⟩ : ∃ v4, v4 = wr := ⟨_, rfl⟩
          subst hv4
          obtain ⟨c0, c1', c2', c3⟩ := Hc.out v4 hb
          go_wp2
          go_region_held3 (fun w' => w'.cell? ⟨w.heap.size, 0, none⟩ = some (.int .u64 (p0 : Int)) ∧ w'.cell? ⟨w.heap.size, 1, none⟩ = some (.int .u64 (p1 : Int)) ∧ w'.cell? ⟨w.heap.size, 2, none⟩ = some (.int .u64 (p2 : Int)) ∧ w'.cell? ⟨w.heap.size, 3, none⟩ = some (.int .u64 (p3 : Int)))
            (first | exact Hc.out _ (by repeat (first | exact h7 | exact h6 | exact h5 | exact h4 | exact h3 | exact h2 | exact h1 | exact hb | apply ext_drew)))
            (first
            | (go_at_call 11; ((with_reducible refine (HO.out _ ?_).mono ?_)); (repeat (first | exact h7 | exact h6 | exact h5 | exact h4 | exact h3 | exact h2 | exact hb | apply ext_drew)); rintro e x1 ⟨rfl, h1⟩)
            | (go_at_call 12; ((with_reducible refine (HRO.out _ ?_).mono ?_)); (repeat (first | exact h7 | exact h6 | exact h5 | exact h4 | exact h3 | exact h1 | exact hb | apply ext_drew)); rintro e x2 ⟨rfl, h2⟩)
            | (go_at_call 13; ((with_reducible refine (HG.out _ ?_).mono ?_)); (repeat (first | exact h7 | exact h6 | exact h5 | exact h4 | exact h2 | exact h1 | exact hb | apply ext_drew)); rintro e x3 ⟨rfl, h3⟩)
            | (go_at_call 14; ((with_reducible refine (HRG.out _ ?_).mono ?_)); (repeat (first | exact h7 | exact h6 | exact h5 | exact h3 | exact h2 | exact h1 | exact hb | apply ext_drew)); rintro e x4 ⟨rfl, h4⟩)
            | (go_at_call 15; ((with_reducible refine (HH.out _ ?_).mono ?_)); (repeat (first | exact h7 | exact h6 | exact h4 | exact h3 | exact h2 | exact h1 | exact hb | apply ext_drew)); rintro e x5 ⟨rfl, h5⟩)
            | (go_at_call 16; ((with_reducible refine (HRH.out _ ?_).mono ?_)); (repeat (first | exact h7 | exact h5 | exact h4 | exact h3 | exact h2 | exact h1 | exact hb | apply ext_drew)); rintro e x6 ⟨rfl, h6⟩)
            | (go_at_call 17; ((with_reducible refine (HK.out _ ?_).mono ?_)); (repeat (first | exact h6 | exact h5 | exact h4 | exact h3 | exact h2 | exact h1 | exact hb | apply ext_drew)); rintro e x7 ⟨rfl, h7⟩))
          all_goals
            go_wp2
            go_ret
            exact ⟨rfl, ext_trans hb01 (by repeat (first | exact h7 | apply ext_drew))⟩

theorem tells_args (A : Option Addr) (n c : Nat) (xs : List UInt8) (ws : List Nat) (hs : SetOk ws) (v2 v3 : Int) (i2 : 0 ≤ v2 ∧ v2 ≤ 255) (i3 : 0 ≤ v3 ∧ v3 ≤ 255) (w : World) (ht : Tab w) (hn : n = xs.length) (hc : xs.length ≤ c) (hm : c ≤ maxLen) (hr : Rd w A (xs.map bv)) :
    Calls Tryd.prog 3 #[.slice A n c, setV ws, .int .u8 v2, .int .u8 v3] w fun e w' => e = .returned (.bool true) ∧ Below w.heap.size w w' := by
  obtain ⟨lo, rfl⟩ : ∃ lo : Nat, v2 = (lo : Int) := ⟨v2.toNat, by omega⟩
  obtain ⟨hi, rfl⟩ : ∃ hi : Nat, v3 = (hi : Int) := ⟨v3.toNat, by omega⟩
  refine tells A n c (xs.map (·.toNat)) ws hs lo hi (by omega) (by omega) w ht (by rw [List.length_map]; exact hn) (by omega) (fun b hb => ?_) (by rw [← nb_bytes]; exact hr)
  obtain ⟨u, _, rfl⟩ := List.mem_map.1 hb
  exact u.toNat_lt

set_option maxRecDepth 100000 in
theorem contract (H : Type) (enc : TypeId × Value → H) (W : World) (base : Nat) (args : Array Value) (ds gs : List (DataW H)) (before : List MemPlace)
    (hval : ∀ (j : Nat) t v, Tryd.f3.params[j]? = some t → args[j]? = some v → Value.okWide Tryd.prog W .any base t v)
    (hW : DataW.Whole enc Tryd.prog Tryd.f3.params.toList Rows.classTellsSpec.vars false W args.toList ds gs before) (hL : laidMetH Tryd.prog Rows.classTellsRow.laid W) :
    Calls Tryd.prog 3 args W fun e W' => ∃ v, e = .returned v ∧ Rows.classTellsSpec.post enc Tryd.prog Tryd.f3 false true false false W args v W' := by
  have ht : Tab W := tab_of_laid hL
  have hW' := hW
  obtain ⟨p, q, hA0, hV, rfl, hfz, hnd⟩ := hW
  have hA : DataW.TrodAll enc Tryd.prog W 0 (fun _ => true) true Tryd.f3.params.toList args.toList ds p := hA0
  rw [Tryd.params3] at hA hval
  obtain ⟨x0, x1, x2, x3, d0, d1, d2, d3, p0, p1, p2, p3, rfl, rfl, rfl, h0, h1, h2, h3⟩ := trodAll_four hA
  obtain ⟨A0, n0, c0, xs0, rfl, hn0, hc0, hm0, hr0⟩ := arg_bytes (hval 0 _ x0 rfl rfl) h0
  obtain ⟨ws1, hs1, rfl⟩ := arg_set (hval 1 _ x1 rfl rfl) h1
  obtain ⟨v2, rfl, rfl, rfl, wv2⟩ := open_int Tryd.underlying5 (hval 2 _ x2 rfl rfl) h2
  have i2 := u8_of_wf wv2
  obtain ⟨v3, rfl, rfl, rfl, wv3⟩ := open_int Tryd.underlying5 (hval 3 _ x3 rfl rfl) h3
  have i3 := u8_of_wf wv3
  have walk : Calls Tryd.prog 3 #[.slice A0 n0 c0, setV ws1, .int .u8 v2, .int .u8 v3] W fun e w' => e = .returned (.bool true) ∧ Below W.heap.size W w' := tells_args A0 n0 c0 xs0 ws1 hs1 v2 v3 i2 i3 W ht hn0 hc0 hm0 hr0
  refine walk.mono fun e W' ⟨he, hb⟩ => ?_
  subst he
  exact ⟨_, rfl, law_post rfl rfl (by kernel_rfl) ⟨rfl, rfl, rfl⟩ hW' hb⟩

theorem laid_met (os : Os) : laidMet Tryd.prog Rows.classTellsRow.laid ((laidWorld os).forCall (fun _ _ => 0) ⟨#[], #[.slice none 0 0, .agg #[.int .u64 0, .int .u64 0, .int .u64 0, .int .u64 0], .int .u8 0, .int .u8 0], []⟩).memory :=
  laidMet_of_run' 8 (by kernel_rfl) (by kernel_rfl)
theorem reads (os : Os) {H : Type} (enc : TypeId × Value → H) : ∃ places, DataW.whole enc Tryd.prog ((laidWorld os).forCall (fun _ _ => 0) ⟨#[], #[.slice none 0 0, .agg #[.int .u64 0, .int .u64 0, .int .u64 0, .int .u64 0], .int .u8 0, .int .u8 0], []⟩).memory Tryd.f3.params.toList Rows.classTellsSpec.vars false #[Value.slice none 0 0, .agg #[.int .u64 0, .int .u64 0, .int .u64 0, .int .u64 0], .int .u8 0, .int .u8 0].toList 8 = some ([.nil, .agg [.lit (.int .u64 0), .lit (.int .u64 0), .lit (.int .u64 0), .lit (.int .u64 0)], .lit (.int .u8 0), .lit (.int .u8 0)], [], places) :=
  ⟨[], by kernel_rfl⟩

set_option maxRecDepth 100000 in
theorem lifted (os : Os) (started : os.Started) (H : Type) (enc : TypeId × Value → H) (F : Stop.Interp) :
    ReturnsInHanded {} Tryd.checked os 3 .any ((OpenSpec.ofChange Rows.classTellsSpec).preRow enc Tryd.prog Tryd.f3 Rows.classTellsRow.domain false Rows.classTellsRow.laid) (((OpenSpec.ofChange Rows.classTellsSpec).at F).post enc Tryd.prog Tryd.f3 false true false false) := by
  obtain ⟨places, hx⟩ := reads os enc
  refine returnsInHanded_of_row (C := Tryd.checked) (s := OpenSpec.ofChange Rows.classTellsSpec) own started (by kernel_rfl) Tryd.func3
    (witness_row_at (enc := enc) (C := Tryd.checked) false (laidWorld os) #[.slice none 0 0, .agg #[.int .u64 0, .int .u64 0, .int .u64 0, .int .u64 0], .int .u8 0, .int .u8 0] rfl (by kernel_rfl) (by kernel_rfl) (by kernel_rfl)
      (OpenSpec.preRow_of_cond 8 hx (by kernel_rfl) (fun k hk => by cases hk) (by kernel_rfl) (laid_met os))) ?_
  intro W base args ds gs before hval hW _ _ _ hL _ _
  exact contract H enc W base args ds gs before hval hW hL

theorem said : Rows.ClassTellsSaid :=
  OpenClaim.holds_of_cond 3 Tryd.f3 rfl rfl rfl rfl rfl rfl rfl ⟨rfl, rfl, rfl, rfl, rfl⟩ rfl rfl rfl rfl rfl (by kernel_rfl) Tryd.func3 (by kernel_rfl)
    (of_decide_eq_true (by kernel_rfl)) (by unfold Func.isWrapper; first | (rw [if_pos (by decide +kernel)]; kernel_rfl) | (rw [if_neg (by decide +kernel)]; exact ⟨rfl, rfl⟩))
    (fun os started H enc _ F => by rw [OpenClaim.pre_eq_preRow]; exact lifted os started H enc F)

theorem plain (f : FuncId) (fn : Func) (hf : Tryd.pinned.checked.prog.funcNamed "winnower/winnowerlaw5.ClassTells" = some f) (hfn : Tryd.pinned.checked.prog.funcs[f]? = some fn) :
    false = Tryd.pinned.checked.prog.looks [] ∧ ∀ (j : Nat) t, fn.params[j]? = some t → Tryd.pinned.checked.prog.wantsStandIn t = false := by
  obtain rfl : f = 3 := Option.some.inj ((show Tryd.prog.funcNamed "winnower/winnowerlaw5.ClassTells" = some 3 by kernel_rfl).symm.trans hf) |>.symm
  obtain rfl : fn = Tryd.f3 := (Option.some.inj (Tryd.func3.symm.trans hfn)).symm
  refine ⟨by kernel_rfl, fun j t ht => ?_⟩
  have hall : Tryd.f3.params.all (fun t => !Tryd.prog.wantsStandIn t) = true := by kernel_rfl
  have h1 := Array.all_eq_true'.1 hall t (Array.mem_of_getElem? ht)
  have h2 : Tryd.prog.wantsStandIn t = false := by simpa using h1
  exact h2

/-- THE CARD -/
theorem classTells_card : Rows.ClassTellsCardSaid :=
  Claim7.holds_tied_plain_at .later [] _ _ _ _ said (fun _ h => by cases h) (by kernel_rfl) (fun _ h => by cases h) classTells_row_tie rfl ⟨rfl, rfl⟩ (by kernel_rfl) rfl plain (by kernel_rfl)
end Go.Proofs.YtjlakbcbfbcmhaaDoor.ClassTells
