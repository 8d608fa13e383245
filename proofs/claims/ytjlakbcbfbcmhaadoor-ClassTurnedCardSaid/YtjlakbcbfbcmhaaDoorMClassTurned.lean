/-
  Statement ClassTurned: what is in none is what is not in any; a set of its bytes, and of its rows, is it.
-/
import Derived.Test.YtjlakbcbfbcmhaaDoorAll1
set_option linter.unusedVariables false
set_option linter.unusedSimpArgs false
namespace Go.Proofs.YtjlakbcbfbcmhaaDoor
open Go Go.ChangeShapes Go.WideShapes Go.ChangeAt Go.RowKit
namespace ClassTurned

theorem cellR_of {w : World} {A : Option Addr} {l : List (Nat × Nat)} (h : Rd w A (cellsR l)) (hf : Flat A) {k : Nat} (hk : k < l.length) :
    ∃ g o, A = some ⟨g, o, none⟩ ∧ w.cell? ⟨g, o + k * 2, none⟩ = some (.int .u8 (l[k].1 : Int)) ∧ w.cell? ⟨g, o + k * 2 + 1, none⟩ = some (.int .u8 (l[k].2 : Int)) := by
  obtain ⟨h1, h2⟩ := cellsR_at l k hk
  obtain ⟨ad, e, c1⟩ := h _ _ h1
  obtain ⟨ad', e', c2⟩ := h _ _ h2
  rw [e] at e'; injection e' with e'; subst e'
  obtain ⟨g, o, rfl⟩ := hf ad e
  rw [Addr.add_mid] at c1 c2
  rw [← Nat.add_assoc] at c2
  exact ⟨g, o, e, c1, c2⟩
theorem sets_two {W : World} {g : Nat} {t : TypeId} {a0 a1 a2 a3 b0 b1 b2 b3 : Nat} {fr : Nat × Nat} (ha : SetOk [a0, a1, a2, a3]) (hb : SetOk [b0, b1, b2, b3])
    (h : W.heap[g]? = some (.cells #[.int .u64 (a0 : Int), .int .u64 (a1 : Int), .int .u64 (a2 : Int), .int .u64 (a3 : Int), .int .u64 (b0 : Int), .int .u64 (b1 : Int), .int .u64 (b2 : Int), .int .u64 (b3 : Int)] t fr)) :
    SetsR W (some ⟨g, 0, none⟩) [[a0, a1, a2, a3], [b0, b1, b2, b3]] :=
  ⟨fun _ ad e => by injection e with e; exact ⟨g, 0, e.symm⟩, Rd.blk h, by simp [ha, hb]⟩

theorem four_not {a0 a1 a2 a3 : Nat} (h : SetOk [a0, a1, a2, a3]) : ∃ q0 q1 q2 q3, notB [a0, a1, a2, a3] = [q0, q1, q2, q3] ∧ SetOk [q0, q1, q2, q3] ∧ notB [q0, q1, q2, q3] = [a0, a1, a2, a3] :=
  ⟨_, _, _, _, rfl, not_ok h, not_not_ h⟩

set_option maxHeartbeats 4000000 in
theorem turned (wsa wsb : List Nat) (hsa : SetOk wsa) (hsb : SetOk wsb) (w : World) (ht : Tab w) :
    Calls Tryd.prog 5 #[setV wsa, setV wsb] w fun e w' => e = .returned (.bool true) ∧ Below w.heap.size w w' := by
  obtain ⟨p0, p1, p2, p3, rfl⟩ := four_words hsa
  obtain ⟨q0, q1, q2, q3, rfl⟩ := four_words hsb
  obtain ⟨m0, m1, m2, m3, hma, hoka, hna⟩ := four_not hsa
  obtain ⟨n0, n1, n2, n3, hmb, hokb, hnb⟩ := four_not hsb
  obtain ⟨w1, hw1⟩ : ∃ w1, w1 = (w.alloc (Obj.cells #[.int .u64 (p0 : Int), .int .u64 (p1 : Int), .int .u64 (p2 : Int), .int .u64 (p3 : Int)] 25)).alloc (Obj.cells #[.int .u64 (q0 : Int), .int .u64 (q1 : Int), .int .u64 (q2 : Int), .int .u64 (q3 : Int)] 25) := ⟨_, rfl⟩
  have hb01 : Below w.heap.size w w1 := by rw [hw1]; exact ext2 w _ _
  have hB := (Blk.new w 25 #[.int .u64 (p0 : Int), .int .u64 (p1 : Int), .int .u64 (p2 : Int), .int .u64 (p3 : Int)]).alloc (Obj.cells #[.int .u64 (q0 : Int), .int .u64 (q1 : Int), .int .u64 (q2 : Int), .int .u64 (q3 : Int)] 25)
  have hB2 := Blk.new (w.alloc (Obj.cells #[.int .u64 (p0 : Int), .int .u64 (p1 : Int), .int .u64 (p2 : Int), .int .u64 (p3 : Int)] 25)) 25 #[.int .u64 (q0 : Int), .int .u64 (q1 : Int), .int .u64 (q2 : Int), .int .u64 (q3 : Int)]
  rw [World.size_alloc] at hB2
  rw [← hw1] at hB hB2
  have Hw1 := Lib.hid hw1
  clear hw1
  show Calls Tryd.prog 5 #[.agg #[.int .u64 (p0 : Int), .int .u64 (p1 : Int), .int .u64 (p2 : Int), .int .u64 (p3 : Int)], .agg #[.int .u64 (q0 : Int), .int .u64 (q1 : Int), .int .u64 (q2 : Int), .int .u64 (q3 : Int)]] w _
  have ht1 := ht.ext hb01
  have hc : ∀ W, Below w1.heap.size w1 W → (W.cell? ⟨w.heap.size, 0, none⟩ = some (.int .u64 (p0 : Int)) ∧ W.cell? ⟨w.heap.size, 1, none⟩ = some (.int .u64 (p1 : Int)) ∧ W.cell? ⟨w.heap.size, 2, none⟩ = some (.int .u64 (p2 : Int)) ∧ W.cell? ⟨w.heap.size, 3, none⟩ = some (.int .u64 (p3 : Int))) ∧
      W.cell? ⟨w.heap.size + 1, 0, none⟩ = some (.int .u64 (q0 : Int)) ∧ W.cell? ⟨w.heap.size + 1, 1, none⟩ = some (.int .u64 (q1 : Int)) ∧ W.cell? ⟨w.heap.size + 1, 2, none⟩ = some (.int .u64 (q2 : Int)) ∧ W.cell? ⟨w.heap.size + 1, 3, none⟩ = some (.int .u64 (q3 : Int)) := fun W hW =>
    ⟨⟨(hB.ext hW).cell 0, (hB.ext hW).cell 1, (hB.ext hW).cell 2, (hB.ext hW).cell 3⟩, (hB2.ext hW).cell 0, (hB2.ext hW).cell 1, (hB2.ext hW).cell 2, (hB2.ext hW).cell 3⟩
  have hR : ∀ W, Below w1.heap.size w1 W → Calls Tryd.prog 8 #[.agg #[.int .u64 (p0 : Int), .int .u64 (p1 : Int), .int .u64 (p2 : Int), .int .u64 (p3 : Int)]] W fun e w' => ∃ A' c', e = .returned (.slice A' (rowsB (listB [p0, p1, p2, p3])).length c') ∧ Rd w' A' (cellsR (rowsB (listB [p0, p1, p2, p3]))) ∧ Flat A' ∧ Below W.heap.size W w' := fun W hW =>
    (ranges_any _ hsa W (ht1.ext hW)).mono fun e w' ⟨A', c', e1, h1⟩ => ⟨A', c', e1, h1.rd, h1.row.flat, h1.bel⟩
  have hJ : ∀ W g t fr, Below w1.heap.size w1 W → W.heap[g]? = some (.cells #[.int .u64 (p0 : Int), .int .u64 (p1 : Int), .int .u64 (p2 : Int), .int .u64 (p3 : Int), .int .u64 (q0 : Int), .int .u64 (q1 : Int), .int .u64 (q2 : Int), .int .u64 (q3 : Int)] t fr) →
      Calls Tryd.prog 19 #[.slice (some ⟨g, 0, none⟩) 2 2] W fun e w' => e = .returned (.agg (cellsU (joinB [[p0, p1, p2, p3], [q0, q1, q2, q3]]))) ∧ Below W.heap.size W w' := fun W g t fr hW hg =>
    (join_any (some ⟨g, 0, none⟩) 2 2 [[p0, p1, p2, p3], [q0, q1, q2, q3]] W rfl (by simp) (sets_two hsa hsb hg)).mono fun e w' ⟨e1, h1⟩ => ⟨e1, h1⟩
  have hM : ∀ W g t fr, Below w1.heap.size w1 W → W.heap[g]? = some (.cells #[.int .u64 (m0 : Int), .int .u64 (m1 : Int), .int .u64 (m2 : Int), .int .u64 (m3 : Int), .int .u64 (n0 : Int), .int .u64 (n1 : Int), .int .u64 (n2 : Int), .int .u64 (n3 : Int)] t fr) →
      Calls Tryd.prog 21 #[.slice (some ⟨g, 0, none⟩) 2 2] W fun e w' => e = .returned (.agg (cellsU (meetB [[m0, m1, m2, m3], [n0, n1, n2, n3]]))) ∧ Below W.heap.size W w' := fun W g t fr hW hg =>
    (meet_any (some ⟨g, 0, none⟩) 2 2 [[m0, m1, m2, m3], [n0, n1, n2, n3]] W rfl (by simp) (sets_two hoka hokb hg)).mono fun e w' ⟨e1, h1⟩ => ⟨e1, h1⟩
  have hJok : SetOk (joinB [[p0, p1, p2, p3], [q0, q1, q2, q3]]) := join_ok (by simp [hsa, hsb])
  have hdm : notB (joinB [[p0, p1, p2, p3], [q0, q1, q2, q3]]) = meetB [[m0, m1, m2, m3], [n0, n1, n2, n3]] := by rw [demorgan hsa hsb, hma, hmb]
  have hNJ : ∀ W, Below w1.heap.size w1 W → Calls Tryd.prog 18 #[.agg (cellsU (joinB [[p0, p1, p2, p3], [q0, q1, q2, q3]]))] W fun e w' => e = .returned (.agg (cellsU (meetB [[m0, m1, m2, m3], [n0, n1, n2, n3]]))) ∧ Below W.heap.size W w' := fun W hW =>
    (not_any _ hJok W).mono fun e w' ⟨e1, h1⟩ => ⟨by rw [e1, hdm]; rfl, h1⟩
  have hMok : SetOk (meetB [[m0, m1, m2, m3], [n0, n1, n2, n3]]) := meet_ok (by simp [hoka, hokb])
  have he1 := eq_set hMok
  have hNa : ∀ W, Below w1.heap.size w1 W → Calls Tryd.prog 18 #[.agg #[.int .u64 (p0 : Int), .int .u64 (p1 : Int), .int .u64 (p2 : Int), .int .u64 (p3 : Int)]] W fun e w' => e = .returned (.agg #[.int .u64 (m0 : Int), .int .u64 (m1 : Int), .int .u64 (m2 : Int), .int .u64 (m3 : Int)]) ∧ Below W.heap.size W w' := fun W hW =>
    (not_any _ hsa W).mono fun e w' ⟨e1, h1⟩ => ⟨by rw [e1, hma]; rfl, h1⟩
  have hNb : ∀ W, Below w1.heap.size w1 W → Calls Tryd.prog 18 #[.agg #[.int .u64 (q0 : Int), .int .u64 (q1 : Int), .int .u64 (q2 : Int), .int .u64 (q3 : Int)]] W fun e w' => e = .returned (.agg #[.int .u64 (n0 : Int), .int .u64 (n1 : Int), .int .u64 (n2 : Int), .int .u64 (n3 : Int)]) ∧ Below W.heap.size W w' := fun W hW =>
    (not_any _ hsb W).mono fun e w' ⟨e1, h1⟩ => ⟨by rw [e1, hmb]; rfl, h1⟩
  have hNm : ∀ W, Below w1.heap.size w1 W → Calls Tryd.prog 18 #[.agg #[.int .u64 (m0 : Int), .int .u64 (m1 : Int), .int .u64 (m2 : Int), .int .u64 (m3 : Int)]] W fun e w' => e = .returned (.agg #[.int .u64 (p0 : Int), .int .u64 (p1 : Int), .int .u64 (p2 : Int), .int .u64 (p3 : Int)]) ∧ Below W.heap.size W w' := fun W hW =>
    (not_any _ hoka W).mono fun e w' ⟨e1, h1⟩ => ⟨by rw [e1, hna]; rfl, h1⟩
  have he2 : ∀ W, (Op.equalIn 10000 25 (.agg #[.int .u64 (p0 : Int), .int .u64 (p1 : Int), .int .u64 (p2 : Int), .int .u64 (p3 : Int)]) (.agg #[.int .u64 (p0 : Int), .int .u64 (p1 : Int), .int .u64 (p2 : Int), .int .u64 (p3 : Int)])).run Tryd.prog W = .ok true W := fun W => eq_set hsa W
  have hLlt : ∀ b ∈ listB [p0, p1, p2, p3], b < 256 := fun b hb => listB_lt hb
  have hLl := listB_len [p0, p1, p2, p3]
  have hL : ∀ W, Below w1.heap.size w1 W → Calls Tryd.prog 6 #[.agg #[.int .u64 (p0 : Int), .int .u64 (p1 : Int), .int .u64 (p2 : Int), .int .u64 (p3 : Int)]] W fun e w' => ∃ A' c', e = .returned (.slice A' (listB [p0, p1, p2, p3]).length c') ∧ Rd w' A' ((listB [p0, p1, p2, p3]).map nb) ∧ Below W.heap.size W w' ∧ ∀ B xs, Rd W B xs → Rd w' B xs := fun W hW =>
    (list_any _ hsa W (ht1.ext hW)).mono fun e w' ⟨A', c', e1, h1⟩ => ⟨A', c', e1, h1.rd, h1.bel, fun B xs hx => hx.ext h1.bel⟩
  have hO : ∀ W A c, Below w1.heap.size w1 W → Rd W A ((listB [p0, p1, p2, p3]).map nb) → Calls Tryd.prog 11 #[.slice A (listB [p0, p1, p2, p3]).length c] W fun e w' => e = .returned (.agg #[.int .u64 (p0 : Int), .int .u64 (p1 : Int), .int .u64 (p2 : Int), .int .u64 (p3 : Int)]) ∧ Below W.heap.size W w' := fun W A c hW hr =>
    (of_any A _ c _ W rfl hLlt (by omega) hr).mono fun e w' ⟨e1, h1⟩ => ⟨by rw [e1, of_list hsa]; rfl, h1⟩
  have hCa : ∀ W, Below w1.heap.size w1 W → Calls Tryd.prog 10 #[.agg #[.int .u64 (p0 : Int), .int .u64 (p1 : Int), .int .u64 (p2 : Int), .int .u64 (p3 : Int)]] W fun e w' => e = .returned (.int .i64 ((listB [p0, p1, p2, p3]).length : Int)) ∧ Below W.heap.size W w' := fun W hW =>
    (count_any _ hsa W).mono fun e w' ⟨e1, h1⟩ => ⟨e1, h1⟩
  have hCm : ∀ W, Below w1.heap.size w1 W → Calls Tryd.prog 10 #[.agg #[.int .u64 (m0 : Int), .int .u64 (m1 : Int), .int .u64 (m2 : Int), .int .u64 (m3 : Int)]] W fun e w' => e = .returned (.int .i64 ((listB [m0, m1, m2, m3]).length : Int)) ∧ Below W.heap.size W w' := fun W hW =>
    (count_any _ hoka W).mono fun e w' ⟨e1, h1⟩ => ⟨e1, h1⟩
  have hcnt := not_count hsa
  rw [hma] at hcnt
  have hK : ∀ W, Below w1.heap.size w1 W → Calls Tryd.prog 17 #[] W fun e w' => e = .returned (.bool true) ∧ Below W.heap.size W w' := fun W hW =>
    (known_any W (ht1.ext hW)).mono fun e w' ⟨e1, h1⟩ => ⟨e1, h1⟩
  have hG : ∀ W (lo hi : Nat), lo < 256 → hi < 256 → Below w1.heap.size w1 W → Calls Tryd.prog 13 #[.int .u8 (lo : Int), .int .u8 (hi : Int)] W fun e w' => e = .returned (.agg (cellsU (ofB (rangeB lo hi)))) ∧ Below W.heap.size W w' := fun W lo hi hlo hhi hW =>
    range_any lo hi W hlo hhi
  have hjr := join_rows hsa
  have hRl := rowsB_len hLlt
  have hRlt := rowsB_lt hLlt
  obtain ⟨R, hRe⟩ : ∃ R, rowsB (listB [p0, p1, p2, p3]) = R := ⟨_, rfl⟩
  rw [hRe] at hR hRl hjr hRlt
  clear hRe
  generalize listB [p0, p1, p2, p3] = L at hL hO hCa hcnt hLl hRl
  generalize listB [m0, m1, m2, m3] = LM at hCm hcnt
  generalize joinB [[p0, p1, p2, p3], [q0, q1, q2, q3]] = uj at hJ hNJ
  generalize meetB [[m0, m1, m2, m3], [n0, n1, n2, n3]] = um at hM hNJ he1
  have hJr : ∀ W A c, Below w1.heap.size w1 W → SetsR W A (R.map fun p => ofB (rangeB p.1 p.2)) → Calls Tryd.prog 19 #[.slice A R.length c] W fun e w' => e = .returned (.agg #[.int .u64 (p0 : Int), .int .u64 (p1 : Int), .int .u64 (p2 : Int), .int .u64 (p3 : Int)]) ∧ Below W.heap.size W w' := fun W A c hW hr =>
    (join_any A _ c _ W (by simp) (by simp; omega) hr).mono fun e w' ⟨e1, h1⟩ => ⟨by rw [e1, hjr]; rfl, h1⟩
  have hci : (L.length : Int) + (LM.length : Int) = 256 := by omega
  have hRi : (R.length : Int) ≤ 256 := by omega
  have hR256 : R.length ≤ 256 := by omega
  have Hc := Lib.hid hc
  have HR := Lib.hid hR
  have HJ := Lib.hid hJ
  have HM := Lib.hid hM
  have HNJ := Lib.hid hNJ
  have HNa := Lib.hid hNa
  have HNb := Lib.hid hNb
  have HNm := Lib.hid hNm
  have HL := Lib.hid hL
  have HO := Lib.hid hO
  have HCa := Lib.hid hCa
  have HCm := Lib.hid hCm
  have HK := Lib.hid hK
  have HG := Lib.hid hG
  have HJr := Lib.hid hJr
  have HRlt := Lib.hid hRlt
  obtain ⟨⟨c0, c1, c2, c3⟩, d0, d1, d2, d3⟩ := hc w1 (Below.refl _ _)
  clear hc hR hJ hM hNJ hNa hNb hNm hL hO hCa hCm hK hG hJr hRlt hjr hcnt hma hmb hoka hokb hna hnb hdm hJok hMok hLlt hLl hRl ht ht1 hB hB2 hsa hsb
  go_enter Tryd.func5, Tryd.ntmps5
  go_wp2_with fail
  rw [← Hw1.out]
  refine (HR.out _ (Below.refl _ _)).mono ?_
  rintro e w2 ⟨A1, e1, rfl, hr1, hf1, hb1⟩
  clear c0 c1 c2 c3 d0 d1 d2 d3
  go_wp2
  go_loopw [5, 7] (fun s i wr => ∃ (k : Nat) (A : Option Addr) (c : Nat), k ≤ R.length ∧ i = .int .i64 (k : Int) ∧ s = .slice A k c ∧ NewO w2 wr 25 4 A k c (cellsS ((R.take k).map fun p => ofB (rangeB p.1 p.2)))) (fun _ i _ => R.length - (intOf i).toNat)
  case atStart => exact ⟨0, none, 0, Nat.zero_le _, rfl, rfl, NewO.start _ _ _⟩
  case round =>
    obtain ⟨k, A, c, hk, rfl, rfl, hN⟩ := hrel
    by_cases hlt : k < R.length
    · have hki : (k : Int) < (R.length : Int) := by omega
      have hkb : k ≤ 256 := by omega
      obtain ⟨g, o, rfl, x1, x2⟩ := cellR_of (hr1.ext hN.bel) hf1 hlt
      have hgl : g < w2.heap.size := by
        obtain ⟨ad', e', h2⟩ := hr1 _ _ (cellsR_at R k hlt).1
        injection e' with e'
        subst e'
        have h3 := World.block_lt_of_cell? _ _ h2
        rwa [block_add] at h3
      have hne : ¬ inA A g := fun hin => by
        have h1 := hN.2.2 _ hin
        omega
      have hlohi := HRlt.out R[k] (List.getElem_mem hlt)
      have hts : (R.take (k + 1)).map (fun p => ofB (rangeB p.1 p.2)) = (R.take k).map (fun p => ofB (rangeB p.1 p.2)) ++ [ofB (rangeB R[k].1 R[k].2)] := by rw [take_snoc R k hlt, List.map_append]; rfl
      obtain ⟨lo, hlo⟩ : ∃ lo, R[k].1 = lo := ⟨_, rfl⟩
      obtain ⟨hi, hhi⟩ : ∃ hi, R[k].2 = hi := ⟨_, rfl⟩
      rw [hlo] at x1 hlohi hts
      rw [hhi] at x2 hlohi hts
      obtain ⟨u0, u1, u2, u3, hu⟩ := four_words (ofB_ok (rangeB lo hi))
      have hGk : ∀ W, Below wr.heap.size wr W → Calls Tryd.prog 13 #[.int .u8 (lo : Int), .int .u8 (hi : Int)] W fun e w' => e = .returned (.agg #[.int .u64 (u0 : Int), .int .u64 (u1 : Int), .int .u64 (u2 : Int), .int .u64 (u3 : Int)]) ∧ Below wr.heap.size wr w' := fun W hW =>
        (HG.out W lo hi hlohi.1 hlohi.2 ((ext_trans hb1 hN.bel).trans (hW.mono (ext_trans hb1 hN.bel).size))).mono fun e w' ⟨e1, h1⟩ => ⟨by rw [e1, hu]; rfl, ext_trans hW h1⟩
      rw [hu] at hts
      have hxs : cellsS ((R.take (k + 1)).map fun p => ofB (rangeB p.1 p.2)) = cellsS ((R.take k).map fun p => ofB (rangeB p.1 p.2)) ++ [.int .u64 (u0 : Int), .int .u64 (u1 : Int), .int .u64 (u2 : Int), .int .u64 (u3 : Int)] := by rw [hts, cellsS_append]; rfl
      obtain ⟨xs, hxe⟩ : ∃ xs, cellsS ((R.take k).map fun p => ofB (rangeB p.1 p.2)) = xs := ⟨_, rfl⟩
      rw [hxe] at hN hxs
      have hm1 : k + 1 ≤ maxLen := by unfold maxLen; omega
      have hm2 : (k + 1) * 32 ≤ 140737488355328 := by omega
      have Hrow : Hid (∀ W, Below wr.heap.size wr W → RowO W 25 4 A k c xs) := Lib.hid fun W hW => hN.row.ext hW
      have Hq : Hid (∀ W, Below wr.heap.size wr W → W.cell? ⟨g, o + k * 2, none⟩ = some (.int .u8 (lo : Int)) ∧ W.cell? ⟨g, o + k * 2 + 1, none⟩ = some (.int .u8 (hi : Int))) := Lib.hid fun W hW =>
        ⟨(World.cell?_of_block (hW.block _ (World.block_lt_of_cell? wr _ x1))).trans x1, (World.cell?_of_block (hW.block _ (World.block_lt_of_cell? wr _ x2))).trans x2⟩
      have Hm1 := Lib.hid hm1
      have Hm2 := Lib.hid hm2
      have HN := Lib.hid hN
      have Hxs := Lib.hid hxs
      have HGk := Lib.hid hGk
      have Hne := Lib.hid hne
      clear hm1 hm2 hN hxs hGk hne hxe hu hts hlo hhi hlohi
      go_wp2
      go_region_held3 (fun w' => w'.cell? ⟨g, o + k * 2, none⟩ = some (.int .u8 (lo : Int)) ∧ w'.cell? ⟨g, o + k * 2 + 1, none⟩ = some (.int .u8 (hi : Int)))
        (first | exact ⟨x1, x2⟩ | exact hq3 | exact Hq.out _ (by repeat (first | exact hb | apply ext_alloc | apply ext_drew | exact Below.refl _ _)))
        (first
        | (go_at_call 13; ((with_reducible refine (HGk.out _ ?_).mono ?_)); (repeat (first | apply ext_alloc | apply ext_drew | exact Below.refl _ _)); rintro e v3 ⟨rfl, hb⟩)
        | (refine step_appO _ rfl (.tmp 16) (.tmp 28) _ rfl _ _ 4 32 Tryd.underlying37 info_set rfl A k c xs rfl (Hrow.out _ (by repeat (first | exact hb | apply ext_alloc | apply ext_drew | exact Below.refl _ _))) (some ⟨_, 0, none⟩) 1 1 [.int .u64 (u0 : Int), .int .u64 (u1 : Int), .int .u64 (u2 : Int), .int .u64 (u3 : Int)] rfl rfl (Rd.lit_at _ #[.int .u64 (u0 : Int), .int .u64 (u1 : Int), .int .u64 (u2 : Int), .int .u64 (u3 : Int)] _ (by first | rfl | simp)) (by intro u hu; simp at hu; rcases hu with rfl | rfl | rfl | rfl <;> rfl) (by intro h; cases h) Hm1.out Hm2.out ?_; intro A3 c3 w3 hrow3 honly3 hA3; have hq3 := And.intro (cell_only (Hq.out _ (by repeat (first | exact hb | apply ext_alloc | apply ext_drew | exact Below.refl _ _))).1 honly3 Hne.out) (cell_only (Hq.out _ (by repeat (first | exact hb | apply ext_alloc | apply ext_drew | exact Below.refl _ _))).2 honly3 Hne.out)))
      have hN3 := HN.out.grow (by repeat (first | exact hb | apply ext_alloc | apply ext_drew | exact Below.refl _ _)) hrow3 honly3 hA3
      go_wp2
      go_roundw
      case rel => exact ⟨k + 1, A3, c3, by omega, by go_num, rfl, by rw [Hxs.out]; exact hN3⟩
      case measure => simp [intOf]; omega
    · obtain rfl : k = R.length := by omega
      rw [List.take_length] at hN
      have hb2 := ext_trans hb1 hN.bel
      have hS : SetsR wr A (R.map fun p => ofB (rangeB p.1 p.2)) := ⟨fun _ => hN.row.flat, hN.rd, fun x hx => by obtain ⟨p, _, rfl⟩ := List.mem_map.1 hx; exact ofB_ok _⟩
      have HS : Hid (∀ W, Below wr.heap.size wr W → SetsR W A (R.map fun p => ofB (rangeB p.1 p.2))) := Lib.hid fun W hW => hS.ext hW
      have hb : Below wr.heap.size wr wr := Below.refl _ _
      obtain ⟨⟨c0, c1, c2, c3⟩, d0, d1, d2, d3⟩ := Hc.out wr hb2
      clear hN hS
      go_wp2
      go_region_held3 (fun w' => (w'.cell? ⟨w.heap.size, 0, none⟩ = some (.int .u64 (p0 : Int)) ∧ w'.cell? ⟨w.heap.size, 1, none⟩ = some (.int .u64 (p1 : Int)) ∧ w'.cell? ⟨w.heap.size, 2, none⟩ = some (.int .u64 (p2 : Int)) ∧ w'.cell? ⟨w.heap.size, 3, none⟩ = some (.int .u64 (p3 : Int))) ∧
          w'.cell? ⟨w.heap.size + 1, 0, none⟩ = some (.int .u64 (q0 : Int)) ∧ w'.cell? ⟨w.heap.size + 1, 1, none⟩ = some (.int .u64 (q1 : Int)) ∧ w'.cell? ⟨w.heap.size + 1, 2, none⟩ = some (.int .u64 (q2 : Int)) ∧ w'.cell? ⟨w.heap.size + 1, 3, none⟩ = some (.int .u64 (q3 : Int)))
        (first | exact Hc.out _ (ext_trans hb2 (by repeat (first | exact hb | apply ext_alloc | apply ext_drew))))
        (first
        | (go_at_call 18; (first | (with_reducible refine (HNJ.out _ (ext_trans hb2 ?_)).mono ?_) | (with_reducible refine (HNa.out _ (ext_trans hb2 ?_)).mono ?_) | (with_reducible refine (HNb.out _ (ext_trans hb2 ?_)).mono ?_) | (with_reducible refine (HNm.out _ (ext_trans hb2 ?_)).mono ?_)); (repeat (first | exact hb | apply ext_alloc | apply ext_drew)); rintro e x ⟨rfl, hbx⟩; have hb : Below wr.heap.size wr x := ext_trans (by repeat (first | exact hb | apply ext_alloc | apply ext_drew)) hbx)
        | (go_at_call 19; go_must ((first | ((with_reducible refine (HJ.out _ _ 25 (0, 0) (ext_trans hb2 ?_) ?_).mono ?_); (repeat (first | exact hb | apply ext_alloc | apply ext_drew)); (exact heap_alloc_new _ _)) | ((with_reducible refine (HJr.out _ _ _ (ext_trans hb2 ?_) (HS.out _ ?_)).mono ?_); (repeat (first | exact hb | apply ext_alloc | apply ext_drew))))); rintro e x ⟨rfl, hbx⟩; have hb : Below wr.heap.size wr x := ext_trans (by repeat (first | exact hb | apply ext_alloc | apply ext_drew)) hbx)
        | (go_at_call 21; ((with_reducible refine (HM.out _ _ 25 (0, 0) (ext_trans hb2 ?_) ?_).mono ?_)); (repeat (first | exact hb | apply ext_alloc | apply ext_drew)); (exact heap_alloc_new _ _); rintro e x ⟨rfl, hbx⟩; have hb : Below wr.heap.size wr x := ext_trans (by repeat (first | exact hb | apply ext_alloc | apply ext_drew)) hbx)
        | (go_at_call 6; ((with_reducible refine (HL.out _ (ext_trans hb2 ?_)).mono ?_)); (repeat (first | exact hb | apply ext_alloc | apply ext_drew)); rintro e x ⟨A5, e5, rfl, hr5, hbx, hk5⟩; have hb : Below wr.heap.size wr x := ext_trans (by repeat (first | exact hb | apply ext_alloc | apply ext_drew)) hbx)
        | (go_at_call 11; ((with_reducible refine (HO.out _ _ _ (ext_trans hb2 ?_) ?_).mono ?_)); (repeat (first | exact hb | apply ext_alloc | apply ext_drew)); (exact hr5); rintro e x ⟨rfl, hbx⟩; have hb : Below wr.heap.size wr x := ext_trans (by repeat (first | exact hb | apply ext_alloc | apply ext_drew)) hbx)
        | (go_at_call 10; (first | (with_reducible refine (HCa.out _ (ext_trans hb2 ?_)).mono ?_) | (with_reducible refine (HCm.out _ (ext_trans hb2 ?_)).mono ?_)); (repeat (first | exact hb | apply ext_alloc | apply ext_drew)); rintro e x ⟨rfl, hbx⟩; have hb : Below wr.heap.size wr x := ext_trans (by repeat (first | exact hb | apply ext_alloc | apply ext_drew)) hbx)
        | (go_at_call 17; ((with_reducible refine (HK.out _ (ext_trans hb2 ?_)).mono ?_)); (repeat (first | exact hb | apply ext_alloc | apply ext_drew)); rintro e x ⟨rfl, hbx⟩; have hb : Below wr.heap.size wr x := ext_trans (by repeat (first | exact hb | apply ext_alloc | apply ext_drew)) hbx))
      all_goals
        go_wp2
        go_ret
        exact ⟨rfl, ext_trans hb01 (ext_trans hb2 (by repeat (first | exact hb | apply ext_drew)))⟩

set_option maxRecDepth 100000 in
theorem contract (H : Type) (enc : TypeId × Value → H) (W : World) (base : Nat) (args : Array Value) (ds gs : List (DataW H)) (before : List MemPlace)
    (hval : ∀ (j : Nat) t v, Tryd.f5.params[j]? = some t → args[j]? = some v → Value.okWide Tryd.prog W .any base t v)
    (hW : DataW.Whole enc Tryd.prog Tryd.f5.params.toList Rows.classTurnedSpec.vars false W args.toList ds gs before) (hL : laidMetH Tryd.prog Rows.classTurnedRow.laid W) :
    Calls Tryd.prog 5 args W fun e W' => ∃ v, e = .returned v ∧ Rows.classTurnedSpec.post enc Tryd.prog Tryd.f5 false true false false W args v W' := by
  have ht : Tab W := tab_of_laid hL
  have hW' := hW
  obtain ⟨p, q, hA0, hV, rfl, hfz, hnd⟩ := hW
  have hA : DataW.TrodAll enc Tryd.prog W 0 (fun _ => true) true Tryd.f5.params.toList args.toList ds p := hA0
  rw [Tryd.params5] at hA hval
  obtain ⟨x0, x1, d0, d1, p0, p1, rfl, rfl, rfl, h0, h1⟩ := trodAll_two hA
  obtain ⟨ws0, hs0, rfl⟩ := arg_set (hval 0 _ x0 rfl rfl) h0
  obtain ⟨ws1, hs1, rfl⟩ := arg_set (hval 1 _ x1 rfl rfl) h1
  have walk : Calls Tryd.prog 5 #[setV ws0, setV ws1] W fun e w' => e = .returned (.bool true) ∧ Below W.heap.size W w' := turned ws0 ws1 hs0 hs1 W ht
  refine walk.mono fun e W' ⟨he, hb⟩ => ?_
  subst he
  exact ⟨_, rfl, law_post rfl rfl (by kernel_rfl) ⟨rfl, rfl, rfl⟩ hW' hb⟩

theorem laid_met (os : Os) : laidMet Tryd.prog Rows.classTurnedRow.laid ((laidWorld os).forCall (fun _ _ => 0) ⟨#[], #[.agg #[.int .u64 0, .int .u64 0, .int .u64 0, .int .u64 0], .agg #[.int .u64 0, .int .u64 0, .int .u64 0, .int .u64 0]], []⟩).memory :=
  laidMet_of_run' 8 (by kernel_rfl) (by kernel_rfl)
theorem reads (os : Os) {H : Type} (enc : TypeId × Value → H) : ∃ places, DataW.whole enc Tryd.prog ((laidWorld os).forCall (fun _ _ => 0) ⟨#[], #[.agg #[.int .u64 0, .int .u64 0, .int .u64 0, .int .u64 0], .agg #[.int .u64 0, .int .u64 0, .int .u64 0, .int .u64 0]], []⟩).memory Tryd.f5.params.toList Rows.classTurnedSpec.vars false #[Value.agg #[.int .u64 0, .int .u64 0, .int .u64 0, .int .u64 0], .agg #[.int .u64 0, .int .u64 0, .int .u64 0, .int .u64 0]].toList 8 = some ([.agg [.lit (.int .u64 0), .lit (.int .u64 0), .lit (.int .u64 0), .lit (.int .u64 0)], .agg [.lit (.int .u64 0), .lit (.int .u64 0), .lit (.int .u64 0), .lit (.int .u64 0)]], [], places) :=
  ⟨[], by kernel_rfl⟩

set_option maxRecDepth 100000 in
theorem lifted (os : Os) (started : os.Started) (H : Type) (enc : TypeId × Value → H) (F : Stop.Interp) :
    ReturnsInHanded {} Tryd.checked os 5 .any ((OpenSpec.ofChange Rows.classTurnedSpec).preRow enc Tryd.prog Tryd.f5 Rows.classTurnedRow.domain false Rows.classTurnedRow.laid) (((OpenSpec.ofChange Rows.classTurnedSpec).at F).post enc Tryd.prog Tryd.f5 false true false false) := by
  obtain ⟨places, hx⟩ := reads os enc
  refine returnsInHanded_of_row (C := Tryd.checked) (s := OpenSpec.ofChange Rows.classTurnedSpec) own started (by kernel_rfl) Tryd.func5
    (witness_row_at (enc := enc) (C := Tryd.checked) false (laidWorld os) #[.agg #[.int .u64 0, .int .u64 0, .int .u64 0, .int .u64 0], .agg #[.int .u64 0, .int .u64 0, .int .u64 0, .int .u64 0]] rfl (by kernel_rfl) (by kernel_rfl) (by kernel_rfl)
      (OpenSpec.preRow_of_cond 8 hx (by kernel_rfl) (fun k hk => by cases hk) (by kernel_rfl) (laid_met os))) ?_
  intro W base args ds gs before hval hW _ _ _ hL _ _
  exact contract H enc W base args ds gs before hval hW hL

theorem said : Rows.ClassTurnedSaid :=
  OpenClaim.holds_of_cond 5 Tryd.f5 rfl rfl rfl rfl rfl rfl rfl ⟨rfl, rfl, rfl, rfl, rfl⟩ rfl rfl rfl rfl rfl (by kernel_rfl) Tryd.func5 (by kernel_rfl)
    (of_decide_eq_true (by kernel_rfl)) (by unfold Func.isWrapper; first | (rw [if_pos (by decide +kernel)]; kernel_rfl) | (rw [if_neg (by decide +kernel)]; exact ⟨rfl, rfl⟩))
    (fun os started H enc _ F => by rw [OpenClaim.pre_eq_preRow]; exact lifted os started H enc F)

theorem plain (f : FuncId) (fn : Func) (hf : Tryd.pinned.checked.prog.funcNamed "winnower/winnowerlaw5.ClassTurned" = some f) (hfn : Tryd.pinned.checked.prog.funcs[f]? = some fn) :
    false = Tryd.pinned.checked.prog.looks [] ∧ ∀ (j : Nat) t, fn.params[j]? = some t → Tryd.pinned.checked.prog.wantsStandIn t = false := by
  obtain rfl : f = 5 := Option.some.inj ((show Tryd.prog.funcNamed "winnower/winnowerlaw5.ClassTurned" = some 5 by kernel_rfl).symm.trans hf) |>.symm
  obtain rfl : fn = Tryd.f5 := (Option.some.inj (Tryd.func5.symm.trans hfn)).symm
  refine ⟨by kernel_rfl, fun j t ht => ?_⟩
  have hall : Tryd.f5.params.all (fun t => !Tryd.prog.wantsStandIn t) = true := by kernel_rfl
  have h1 := Array.all_eq_true'.1 hall t (Array.mem_of_getElem? ht)
  have h2 : Tryd.prog.wantsStandIn t = false := by simpa using h1
  exact h2

/-- THE CARD -/
theorem classTurned_card : Rows.ClassTurnedCardSaid :=
  Claim7.holds_tied_plain_at .later [] _ _ _ _ said (fun _ h => by cases h) (by kernel_rfl) (fun _ h => by cases h) classTurned_row_tie rfl ⟨rfl, rfl⟩ (by kernel_rfl) rfl plain (by kernel_rfl)
end Go.Proofs.YtjlakbcbfbcmhaaDoor.ClassTurned
