/-
  Texts of this claim, joined (part 10): contracts and lemmas that the last text goes by. No statement of the seat is proved here.
-/
import Derived.Test.YtgknlegomoaoeaaDoorAll9
set_option linter.unusedVariables false
set_option linter.unusedSimpArgs false
/-
  GlushSizes, its walk: one behind the other, either, so many copies, any number. No statement of the seat is proved here (GlushSizes closes it).
-/
namespace Go.Proofs.YtgknlegomoaoeaaDoor
open Go Go.ChangeShapes Go.WideShapes Go.ChangeAt Go.RowKit
set_option maxRecDepth 100000

/-! ### how many places -/
def capK (n : Nat) : Nat := if n ≤ 1000 then n else 1000
structure WantOk (cnt V : Nat) : Prop where
  cap : capK cnt = capK V
  iff : cnt ≤ 64 ↔ V ≤ 64
  eq : cnt ≤ 64 → cnt = V
theorem want_add (a b : Nat) : WantOk (a + b) (rsz a + rsz b) := by
  refine ⟨?_, ?_, ?_⟩ <;> unfold rsz <;> (try unfold capK) <;> (repeat' split) <;> omega
theorem want_one (a : Nat) : WantOk a (rsz a) := by
  refine ⟨?_, ?_, ?_⟩ <;> unfold rsz <;> (try unfold capK) <;> (repeat' split) <;> omega
theorem want_mul (a n : Nat) (hn : 1 ≤ n) : WantOk (a * n) (n * rsz a) := by
  by_cases h : a ≤ 1000
  · rw [show rsz a = a by unfold rsz; rw [if_pos h], Nat.mul_comm n a]
    exact ⟨rfl, Iff.rfl, fun _ => rfl⟩
  · rw [show rsz a = 1000 by unfold rsz; rw [if_neg h]]
    have h1 : a * 1 ≤ a * n := Nat.mul_le_mul_left _ hn
    have h2 : 1 * 1000 ≤ n * 1000 := Nat.mul_le_mul_right _ hn
    refine ⟨?_, ?_, ?_⟩ <;> (try unfold capK) <;> (repeat' split) <;> omega
def exSeq (x y : Ex) : Ex := .mk 2 zeroB [x, y] 0 0
def exAlt (x y : Ex) : Ex := .mk 3 zeroB [x, y] 0 0
def exRep (x : Ex) (n : Int) : Ex := .mk 4 zeroB [x] n n
def exStar (x : Ex) : Ex := .mk 4 zeroB [x] 0 (-1)
theorem cnt_rep (x : Ex) (n : Nat) (hn : 1 ≤ n) : cntE (exRep x (n : Int)) = cntE x * n := by
  have ht : timesW (n : Int) (n : Int) = n := by unfold timesW; omega
  simp [exRep, cntE, cntL, ht]
theorem cnt_star (x : Ex) : cntE (exStar x) = cntE x := by
  have ht : timesW 0 (-1) = 1 := rfl
  simp [exStar, cntE, cntL, ht]
theorem cnt_seq (x y : Ex) : cntE (exSeq x y) = cntE x + cntE y := by simp [exSeq, cntE, cntL]
theorem cnt_alt (x y : Ex) : cntE (exAlt x y) = cntE x + cntE y := by simp [exAlt, cntE, cntL]
def rows4 (x y : Ex) (n : Nat) : List Ex := [exSeq x y, exAlt x y, exRep x (n : Int), exStar x]
def wants4 (x y : Ex) (n : Nat) : List Nat := [rsz (cntE x) + rsz (cntE y), rsz (cntE x) + rsz (cntE y), n * rsz (cntE x), rsz (cntE x)]
theorem want4 (x y : Ex) (n : Nat) (hn : 1 ≤ n) : ∀ i (h : i < 4), WantOk (cntE ((rows4 x y n)[i]'(by exact h))) ((wants4 x y n)[i]'(by exact h))
  | 0, _ => by show WantOk (cntE (exSeq x y)) _; rw [cnt_seq]; exact want_add _ _
  | 1, _ => by show WantOk (cntE (exAlt x y)) _; rw [cnt_alt]; exact want_add _ _
  | 2, _ => by show WantOk (cntE (exRep x (n : Int))) _; rw [cnt_rep _ _ hn]; exact want_mul _ _ hn
  | 3, _ => by show WantOk (cntE (exStar x)) _; rw [cnt_star]; exact want_one _
theorem nodes4 (x y : Ex) (n : Nat) (hx : nodesE x ≤ 1000) (hy : nodesE y ≤ 1000) : ∀ i (h : i < 4), nodesE ((rows4 x y n)[i]'(by exact h)) ≤ 1000000
  | 0, _ => by show nodesE (exSeq x y) ≤ _; simp [exSeq, nodesE, nodesL]; omega
  | 1, _ => by show nodesE (exAlt x y) ≤ _; simp [exAlt, nodesE, nodesL]; omega
  | 2, _ => by show nodesE (exRep x (n : Int)) ≤ _; simp [exRep, nodesE, nodesL]; omega
  | 3, _ => by show nodesE (exStar x) ≤ _; simp [exStar, nodesE, nodesL]; omega
theorem ret_boolg {a b : Bool} (h : a = b) : Ending.returned (.bool a) = Ending.returned (.bool b) := by rw [h]

set_option maxHeartbeats 16000000 in
theorem sizes8_any (x y : Ex) (cs ds : List Value) (n : Int) (w : World) (ht : Tab w) (hra : ReR (fun _ => True) w x cs) (hrb : ReR (fun _ => True) w y ds) (hn : isInt n) :
    Calls Tryd.prog 5 #[reV cs, reV ds, .int .i64 n] w fun e w' => e = .returned (.bool true) ∧ Below w.heap.size w w' := by
  obtain ⟨k, p0, p1, p2, p3, ks, A, c, lo, hi, -, rfl, h1, h2, -, -, -, -, -⟩ := hra.fields
  obtain ⟨k', q0, q1, q2, q3, ks', A', c', lo', hi', -, rfl, h1', h2', -, -, -, -, -⟩ := hrb.fields
  unfold maxLen at h2 h2'
  obtain ⟨w1, hw1⟩ : ∃ w1, w1 = (w.alloc (.cells #[.int .i64 k, .int .u64 (p0 : Int), .int .u64 (p1 : Int), .int .u64 (p2 : Int), .int .u64 (p3 : Int), .slice A ks.length c, .int .i64 lo, .int .i64 hi] 27)).alloc (.cells #[.int .i64 k', .int .u64 (q0 : Int), .int .u64 (q1 : Int), .int .u64 (q2 : Int), .int .u64 (q3 : Int), .slice A' ks'.length c', .int .i64 lo', .int .i64 hi'] 27) := ⟨_, rfl⟩
  have hb1 : Below w.heap.size w w1 := by rw [hw1]; exact ext2 w _ _
  have hX1 : Blk w1 w.heap.size 27 #[.int .i64 k, .int .u64 (p0 : Int), .int .u64 (p1 : Int), .int .u64 (p2 : Int), .int .u64 (p3 : Int), .slice A ks.length c, .int .i64 lo, .int .i64 hi] := by rw [hw1]; exact (Blk.new w _ _).alloc _
  have hY1 : Blk w1 (w.heap.size + 1) 27 #[.int .i64 k', .int .u64 (q0 : Int), .int .u64 (q1 : Int), .int .u64 (q2 : Int), .int .u64 (q3 : Int), .slice A' ks'.length c', .int .i64 lo', .int .i64 hi'] := by
    have := Blk.new (w.alloc (.cells #[.int .i64 k, .int .u64 (p0 : Int), .int .u64 (p1 : Int), .int .u64 (p2 : Int), .int .u64 (p3 : Int), .slice A ks.length c, .int .i64 lo, .int .i64 hi] 27)) 27 #[.int .i64 k', .int .u64 (q0 : Int), .int .u64 (q1 : Int), .int .u64 (q2 : Int), .int .u64 (q3 : Int), .slice A' ks'.length c', .int .i64 lo', .int .i64 hi']
    rw [World.size_alloc] at this
    rw [hw1]; exact this
  have Hb1 := Lib.hid hb1
  have HX1 := Lib.hid hX1
  have HY1 := Lib.hid hY1
  have HA1 := Lib.hid (hra.ext hb1)
  have HB1 := Lib.hid (hrb.ext hb1)
  have Ht := Lib.hid (ht.ext hb1)
  have Hw1 := Lib.hid hw1
  have Hn := Lib.hid hn
  have HHa := Lib.hid (heavy8_any _ x _ w1 HA1.out)
  have HHb : Hid (∀ W, Below w1.heap.size w1 W → Calls Tryd.prog 11 #[.agg #[.int .i64 k', .int .u64 (q0 : Int), .int .u64 (q1 : Int), .int .u64 (q2 : Int), .int .u64 (q3 : Int), .slice A' ks'.length c', .int .i64 lo', .int .i64 hi']] W fun e w' => e = .returned (.bool (heavyE y)) ∧ Below W.heap.size W w') := Lib.hid fun W hW => heavy8_any _ y _ W (HB1.out.ext hW)
  have hna : heavyE x = false → nodesE x ≤ 150 := heavyE_nodes
  have hnb : heavyE y = false → nodesE y ≤ 150 := heavyE_nodes
  obtain ⟨ta, hta⟩ : ∃ t, heavyE x = t := ⟨_, rfl⟩
  obtain ⟨tb, htb⟩ : ∃ t, heavyE y = t := ⟨_, rfl⟩
  rw [hta] at HHa hna
  rw [htb] at HHb hnb
  have Hna := Lib.hid hna
  have Hnb := Lib.hid hnb
  have HSS1 : Hid (∀ W, Below w1.heap.size w1 W → Blk W w.heap.size 27 #[.int .i64 k, .int .u64 (p0 : Int), .int .u64 (p1 : Int), .int .u64 (p2 : Int), .int .u64 (p3 : Int), .slice A ks.length c, .int .i64 lo, .int .i64 hi] ∧ Blk W (w.heap.size + 1) 27 #[.int .i64 k', .int .u64 (q0 : Int), .int .u64 (q1 : Int), .int .u64 (q2 : Int), .int .u64 (q3 : Int), .slice A' ks'.length c', .int .i64 lo', .int .i64 hi']) := Lib.hid fun W hW => ⟨HX1.out.ext hW, HY1.out.ext hW⟩
  clear hb1 hX1 hY1 ht hra hrb hna hnb hta htb hn
  show Calls Tryd.prog 5 #[.agg #[.int .i64 k, .int .u64 (p0 : Int), .int .u64 (p1 : Int), .int .u64 (p2 : Int), .int .u64 (p3 : Int), .slice A ks.length c, .int .i64 lo, .int .i64 hi], .agg #[.int .i64 k', .int .u64 (q0 : Int), .int .u64 (q1 : Int), .int .u64 (q2 : Int), .int .u64 (q3 : Int), .slice A' ks'.length c', .int .i64 lo', .int .i64 hi'], .int .i64 n] w _
  unfold reV at HHa
  go_enter Tryd.func5, Tryd.ntmps5
  go_wp2_with fail
  rw [← hw1]
  clear hw1
  refine HHa.out.mono ?_
  rintro e w2 ⟨rfl, hb⟩
  have Hb2 := Lib.hid hb
  clear hb HHa
  have hZ := HSS1.out _ Hb2.out
  have hzA := hZ.1
  have hzB := hZ.2
  have z0 := hzA.cell 0
  have z1 := hzA.cell 1
  have z2 := hzA.cell 2
  have z3 := hzA.cell 3
  have z4 := hzA.cell 4
  have z5 := hzA.cell 5
  have z6 := hzA.cell 6
  have z7 := hzA.cell 7
  have y0 := hzB.cell 0
  have y1 := hzB.cell 1
  have y2 := hzB.cell 2
  have y3 := hzB.cell 3
  have y4 := hzB.cell 4
  have y5 := hzB.cell 5
  have y6 := hzB.cell 6
  have y7 := hzB.cell 7
  clear hZ hzA hzB
  cases ta with
  | true =>
    go_wp2
    go_ret
    exact ⟨rfl, ext_trans Hb1.out Hb2.out⟩
  | false =>
  have hnx : nodesE x ≤ 150 := Hna.out rfl
  go_wp2_with fail
  refine (HHb.out _ Hb2.out).mono ?_
  rintro e w3 ⟨rfl, hb⟩
  have Hb3 := Lib.hid (ext_trans Hb2.out hb)
  clear hb HHb
  clear z0 z1 z2 z3 z4 z5 z6 z7 y0 y1 y2 y3 y4 y5 y6 y7
  have hZ := HSS1.out _ Hb3.out
  have hzA := hZ.1
  have hzB := hZ.2
  have z0 := hzA.cell 0
  have z1 := hzA.cell 1
  have z2 := hzA.cell 2
  have z3 := hzA.cell 3
  have z4 := hzA.cell 4
  have z5 := hzA.cell 5
  have z6 := hzA.cell 6
  have z7 := hzA.cell 7
  have y0 := hzB.cell 0
  have y1 := hzB.cell 1
  have y2 := hzB.cell 2
  have y3 := hzB.cell 3
  have y4 := hzB.cell 4
  have y5 := hzB.cell 5
  have y6 := hzB.cell 6
  have y7 := hzB.cell 7
  clear hZ hzA hzB
  cases tb with
  | true =>
    go_wp2
    go_ret
    exact ⟨rfl, ext_trans Hb1.out Hb3.out⟩
  | false =>
  have hny : nodesE y ≤ 150 := Hnb.out rfl
  have HIa := Lib.hid (ris_any _ x _ w3 (HA1.out.ext Hb3.out) (by omega))
  unfold reV at HIa
  obtain ⟨ia, hia⟩ : ∃ t, isE x = t := ⟨_, rfl⟩
  rw [hia] at HIa
  have Hia := Lib.hid hia
  clear hia
  go_wp2_with fail
  refine HIa.out.mono ?_
  rintro e w4 ⟨rfl, hb⟩
  have Hb4 := Lib.hid (ext_trans Hb3.out hb)
  clear hb HIa
  clear z0 z1 z2 z3 z4 z5 z6 z7 y0 y1 y2 y3 y4 y5 y6 y7
  have hZ := HSS1.out _ Hb4.out
  have hzA := hZ.1
  have hzB := hZ.2
  have z0 := hzA.cell 0
  have z1 := hzA.cell 1
  have z2 := hzA.cell 2
  have z3 := hzA.cell 3
  have z4 := hzA.cell 4
  have z5 := hzA.cell 5
  have z6 := hzA.cell 6
  have z7 := hzA.cell 7
  have y0 := hzB.cell 0
  have y1 := hzB.cell 1
  have y2 := hzB.cell 2
  have y3 := hzB.cell 3
  have y4 := hzB.cell 4
  have y5 := hzB.cell 5
  have y6 := hzB.cell 6
  have y7 := hzB.cell 7
  clear hZ hzA hzB
  cases ia with
  | false =>
    go_wp2
    go_ret
    exact ⟨rfl, ext_trans Hb1.out Hb4.out⟩
  | true =>
  have HIb := Lib.hid (ris_any _ y _ w4 (HB1.out.ext Hb4.out) (by omega))
  unfold reV at HIb
  obtain ⟨ib, hib⟩ : ∃ t, isE y = t := ⟨_, rfl⟩
  rw [hib] at HIb
  have Hib := Lib.hid hib
  clear hib
  go_wp2_with fail
  refine HIb.out.mono ?_
  rintro e w5 ⟨rfl, hb⟩
  have Hb5 := Lib.hid (ext_trans Hb4.out hb)
  clear hb HIb
  clear z0 z1 z2 z3 z4 z5 z6 z7 y0 y1 y2 y3 y4 y5 y6 y7
  cases ib with
  | false =>
    go_wp2
    go_ret
    exact ⟨rfl, ext_trans Hb1.out Hb5.out⟩
  | true =>
  by_cases hn1 : n < 1
  case pos =>
    go_wp2
    go_ret
    exact ⟨rfl, ext_trans Hb1.out Hb5.out⟩
  by_cases hn8 : 8 < n
  case pos =>
    go_wp2
    go_ret
    exact ⟨rfl, ext_trans Hb1.out Hb5.out⟩
  obtain ⟨N, rfl⟩ : ∃ N : Nat, n = (N : Int) := ⟨n.toNat, by omega⟩
  have hN1 : 1 ≤ N := by omega
  have hN8 : N ≤ 8 := by omega
  have HSX : Hid (∀ W, Below w5.heap.size w5 W → Calls Tryd.prog 17 #[.agg #[.int .i64 k, .int .u64 (p0 : Int), .int .u64 (p1 : Int), .int .u64 (p2 : Int), .int .u64 (p3 : Int), .slice A ks.length c, .int .i64 lo, .int .i64 hi]] W fun e w' => e = .returned (.int .i64 (rsz (cntE x) : Int)) ∧ Below W.heap.size W w') := Lib.hid fun W hW => rgsize_any _ x 1 _ W (isE_one Hia.out).1 (HA1.out.ext (ext_trans Hb5.out hW))
  have HSY : Hid (∀ W, Below w5.heap.size w5 W → Calls Tryd.prog 17 #[.agg #[.int .i64 k', .int .u64 (q0 : Int), .int .u64 (q1 : Int), .int .u64 (q2 : Int), .int .u64 (q3 : Int), .slice A' ks'.length c', .int .i64 lo', .int .i64 hi']] W fun e w' => e = .returned (.int .i64 (rsz (cntE y) : Int)) ∧ Below W.heap.size W w') := Lib.hid fun W hW => rgsize_any _ y 1 _ W (isE_one Hib.out).1 (HB1.out.ext (ext_trans Hb5.out hW))
  have hrx := rsz_le (cntE x)
  have hry := rsz_le (cntE y)
  have HW4 := Lib.hid (want4 x y N hN1)
  have hwd : wants4 x y N = [rsz (cntE x) + rsz (cntE y), rsz (cntE x) + rsz (cntE y), N * rsz (cntE x), rsz (cntE x)] := rfl
  obtain ⟨X, hX⟩ : ∃ X, rsz (cntE x) = X := ⟨_, rfl⟩
  obtain ⟨Y, hY⟩ : ∃ Y, rsz (cntE y) = Y := ⟨_, rfl⟩
  rw [hX] at HSX hrx hwd
  rw [hY] at HSY hry hwd
  obtain ⟨Z, hZ⟩ : ∃ Z, N * X = Z := ⟨_, rfl⟩
  rw [hZ] at hwd
  have hZb : Z ≤ 8000 := by rw [← hZ]; exact Nat.le_trans (Nat.mul_le_mul hN8 hrx) (by omega)
  have hZi : (N : Int) * (X : Int) = (Z : Int) := by rw [← hZ]; simp
  have hwz : IntKind.i64.wrap ((N : Int) * (X : Int)) = (Z : Int) := by rw [hZi, IntKind.wrap_i64]; omega
  have hwxy : IntKind.i64.wrap ((X : Int) + (Y : Int)) = ((X + Y : Nat) : Int) := by rw [IntKind.wrap_i64]; omega
  have Hwd := Lib.hid hwd
  have HSS5 : Hid (∀ W, Below w5.heap.size w5 W → (W.cell? ⟨w.heap.size, 0, none⟩ = some (.int .i64 k) ∧ W.cell? ⟨w.heap.size, 1, none⟩ = some (.int .u64 (p0 : Int)) ∧ W.cell? ⟨w.heap.size, 2, none⟩ = some (.int .u64 (p1 : Int)) ∧ W.cell? ⟨w.heap.size, 3, none⟩ = some (.int .u64 (p2 : Int)) ∧ W.cell? ⟨w.heap.size, 4, none⟩ = some (.int .u64 (p3 : Int)) ∧ W.cell? ⟨w.heap.size, 5, none⟩ = some (.slice A ks.length c) ∧ W.cell? ⟨w.heap.size, 6, none⟩ = some (.int .i64 lo) ∧ W.cell? ⟨w.heap.size, 7, none⟩ = some (.int .i64 hi) ∧ W.cell? ⟨w.heap.size + 1, 0, none⟩ = some (.int .i64 k') ∧ W.cell? ⟨w.heap.size + 1, 1, none⟩ = some (.int .u64 (q0 : Int)) ∧ W.cell? ⟨w.heap.size + 1, 2, none⟩ = some (.int .u64 (q1 : Int)) ∧ W.cell? ⟨w.heap.size + 1, 3, none⟩ = some (.int .u64 (q2 : Int)) ∧ W.cell? ⟨w.heap.size + 1, 4, none⟩ = some (.int .u64 (q3 : Int)) ∧ W.cell? ⟨w.heap.size + 1, 5, none⟩ = some (.slice A' ks'.length c') ∧ W.cell? ⟨w.heap.size + 1, 6, none⟩ = some (.int .i64 lo') ∧ W.cell? ⟨w.heap.size + 1, 7, none⟩ = some (.int .i64 hi'))) := Lib.hid fun W hW => by
    have hZ := HSS1.out W (ext_trans Hb5.out hW)
    exact ⟨hZ.1.cell 0, hZ.1.cell 1, hZ.1.cell 2, hZ.1.cell 3, hZ.1.cell 4, hZ.1.cell 5, hZ.1.cell 6, hZ.1.cell 7, hZ.2.cell 0, hZ.2.cell 1, hZ.2.cell 2, hZ.2.cell 3, hZ.2.cell 4, hZ.2.cell 5, hZ.2.cell 6, hZ.2.cell 7⟩
  clear hwd hX hY hZ hZi
  have hbx : Below w5.heap.size w5 w5 := Below.refl _ _
  go_wp2
  refine wp_region_held_drew (S := fun W => W.cell? ⟨w.heap.size, 0, none⟩ = some (.int .i64 k) ∧ W.cell? ⟨w.heap.size, 1, none⟩ = some (.int .u64 (p0 : Int)) ∧ W.cell? ⟨w.heap.size, 2, none⟩ = some (.int .u64 (p1 : Int)) ∧ W.cell? ⟨w.heap.size, 3, none⟩ = some (.int .u64 (p2 : Int)) ∧ W.cell? ⟨w.heap.size, 4, none⟩ = some (.int .u64 (p3 : Int)) ∧ W.cell? ⟨w.heap.size, 5, none⟩ = some (.slice A ks.length c) ∧ W.cell? ⟨w.heap.size, 6, none⟩ = some (.int .i64 lo) ∧ W.cell? ⟨w.heap.size, 7, none⟩ = some (.int .i64 hi) ∧ W.cell? ⟨w.heap.size + 1, 0, none⟩ = some (.int .i64 k') ∧ W.cell? ⟨w.heap.size + 1, 1, none⟩ = some (.int .u64 (q0 : Int)) ∧ W.cell? ⟨w.heap.size + 1, 2, none⟩ = some (.int .u64 (q1 : Int)) ∧ W.cell? ⟨w.heap.size + 1, 3, none⟩ = some (.int .u64 (q2 : Int)) ∧ W.cell? ⟨w.heap.size + 1, 4, none⟩ = some (.int .u64 (q3 : Int)) ∧ W.cell? ⟨w.heap.size + 1, 5, none⟩ = some (.slice A' ks'.length c') ∧ W.cell? ⟨w.heap.size + 1, 6, none⟩ = some (.int .i64 lo') ∧ W.cell? ⟨w.heap.size + 1, 7, none⟩ = some (.int .i64 hi')) (by kernel_rfl) ?_ (fun hHeld => ?_)
  · exact HSS5.out _ (by repeat (first | exact hbx | apply ext_alloc | apply ext_drew | apply ext_drewN | exact Below.refl _ _))
  refine wpAnyH_take (i := 0) (v := ?_) (take_list rfl) (by kernel_rfl) (by kernel_rfl) (by kernel_rfl) (fun _ _ _ h => h) (Or.inl ⟨by rfl, ?_⟩) (by assumption) ?_
  rotate_left
  · intro w hSw
    try dsimp only at hSw
    first | (go_simp; done) | (go_simp; with_reducible rfl)
  try simp only [Act.put, List.setIfInBounds_toArray, List.set_cons_zero, List.set_cons_succ]
  refine wpAnyH_take (i := 2) (v := ?_) (take_list rfl) (by kernel_rfl) (by kernel_rfl) (by kernel_rfl) (fun _ _ _ h => h) (Or.inl ⟨by rfl, ?_⟩) (by assumption) ?_
  rotate_left
  · intro w hSw
    try dsimp only at hSw
    first | (go_simp; done) | (go_simp; with_reducible rfl)
  try simp only [Act.put, List.setIfInBounds_toArray, List.set_cons_zero, List.set_cons_succ]
  refine wpAnyH_ready (rs := [1]) (by kernel_rfl) (by simp) ?_
  refine AllReadyH.cons (take_list rfl) (fun K hK => ?_) ?_
  · skip
    go_simp
    refine (HSX.out _ (by repeat (first | exact hbx | apply ext_alloc | apply ext_drew | apply ext_drewN | exact Below.refl _ _))).mono ?_
    rintro e x1 ⟨rfl, hbx'⟩
    dsimp only
    have hbx : Below w5.heap.size w5 x1 := ext_trans (by repeat (first | exact hbx | apply ext_alloc | apply ext_drew | apply ext_drewN | exact Below.refl _ _)) hbx'
    refine hK.out _ _ ?_ (fun hHeld => ?_)
    · try dsimp only
      exact HSS5.out _ (by repeat (first | exact hbx | apply ext_alloc | apply ext_drew | apply ext_drewN | exact Below.refl _ _))
    clear hK K
    refine wpAnyH_ready (rs := [3]) (by kernel_rfl) (by simp) ?_
    refine AllReadyH.cons (take_list rfl) (fun K hK => ?_) ?_
    · skip
      go_simp
      refine (HSY.out _ (by repeat (first | exact hbx | apply ext_alloc | apply ext_drew | apply ext_drewN | exact Below.refl _ _))).mono ?_
      rintro e x2 ⟨rfl, hbx'⟩
      dsimp only
      have hbx : Below w5.heap.size w5 x2 := ext_trans (by repeat (first | exact hbx | apply ext_alloc | apply ext_drew | apply ext_drewN | exact Below.refl _ _)) hbx'
      refine hK.out _ _ ?_ (fun hHeld => ?_)
      · try dsimp only
        exact HSS5.out _ (by repeat (first | exact hbx | apply ext_alloc | apply ext_drew | apply ext_drewN | exact Below.refl _ _))
      clear hK K
      refine wpAnyH_take (i := 4) (v := ?_) (take_list rfl) (by kernel_rfl) (by kernel_rfl) (by kernel_rfl) (fun _ _ _ h => h) (Or.inl ⟨by rfl, ?_⟩) (by assumption) ?_
      rotate_left
      · intro w hSw
        try dsimp only at hSw
        first | (go_simp; done) | (go_simp; with_reducible rfl)
      try simp only [Act.put, List.setIfInBounds_toArray, List.set_cons_zero, List.set_cons_succ]
      refine wpAnyH_take (i := 5) (v := ?_) (take_list rfl) (by kernel_rfl) (by kernel_rfl) (by kernel_rfl) (fun _ _ _ h => h) (Or.inl ⟨by rfl, ?_⟩) (by assumption) ?_
      rotate_left
      · intro w hSw
        try dsimp only at hSw
        first | (go_simp; done) | (go_simp; with_reducible rfl)
      try simp only [Act.put, List.setIfInBounds_toArray, List.set_cons_zero, List.set_cons_succ]
      refine wpAnyH_done (by kernel_rfl) ?_ _
      have Hbx := Lib.hid (ext_trans Hb5.out hbx)
      have hZ := HSS1.out x2 Hbx.out
      have hzA := hZ.1
      have hzB := hZ.2
      have z0 := hzA.cell 0
      have z1 := hzA.cell 1
      have z2 := hzA.cell 2
      have z3 := hzA.cell 3
      have z4 := hzA.cell 4
      have z5 := hzA.cell 5
      have z6 := hzA.cell 6
      have z7 := hzA.cell 7
      have y0 := hzB.cell 0
      have y1 := hzB.cell 1
      have y2 := hzB.cell 2
      have y3 := hzB.cell 3
      have y4 := hzB.cell 4
      have y5 := hzB.cell 5
      have y6 := hzB.cell 6
      have y7 := hzB.cell 7
      have hlA : w.heap.size < x2.heap.size := World.block_lt_of_cell? x2 _ z0
      have hlB : w.heap.size + 1 < x2.heap.size := World.block_lt_of_cell? x2 _ y0
      have hna1 : ¬ w.heap.size = x2.heap.size + 1 := by omega
      have hlt1 : w.heap.size < x2.heap.size + 1 := by omega
      have hna2 : ¬ w.heap.size = x2.heap.size + 2 := by omega
      have hlt2 : w.heap.size < x2.heap.size + 2 := by omega
      have hna3 : ¬ w.heap.size = x2.heap.size + 3 := by omega
      have hlt3 : w.heap.size < x2.heap.size + 3 := by omega
      have hna4 : ¬ w.heap.size = x2.heap.size + 4 := by omega
      have hlt4 : w.heap.size < x2.heap.size + 4 := by omega
      have hna5 : ¬ w.heap.size = x2.heap.size + 5 := by omega
      have hlt5 : w.heap.size < x2.heap.size + 5 := by omega
      have hna0 : ¬ w.heap.size = x2.heap.size := by omega
      have hnb0 : ¬ w.heap.size + 1 = x2.heap.size := by omega
      clear hZ hzA hzB hbx HSS5 HSX HSY
      obtain ⟨V1, hV1⟩ : ∃ V, V = x2.alloc (.cells #[.int .i64 k, .int .u64 (p0 : Int), .int .u64 (p1 : Int), .int .u64 (p2 : Int), .int .u64 (p3 : Int), .slice A ks.length c, .int .i64 lo, .int .i64 hi, .int .i64 k', .int .u64 (q0 : Int), .int .u64 (q1 : Int), .int .u64 (q2 : Int), .int .u64 (q3 : Int), .slice A' ks'.length c', .int .i64 lo', .int .i64 hi'] 27) := ⟨_, rfl⟩
      obtain ⟨V2, hV2⟩ : ∃ V, V = V1.alloc (.cells #[.int .i64 k, .int .u64 (p0 : Int), .int .u64 (p1 : Int), .int .u64 (p2 : Int), .int .u64 (p3 : Int), .slice A ks.length c, .int .i64 lo, .int .i64 hi, .int .i64 k', .int .u64 (q0 : Int), .int .u64 (q1 : Int), .int .u64 (q2 : Int), .int .u64 (q3 : Int), .slice A' ks'.length c', .int .i64 lo', .int .i64 hi'] 27) := ⟨_, rfl⟩
      obtain ⟨V3, hV3⟩ : ∃ V, V = V2.alloc (.cells #[.int .i64 k, .int .u64 (p0 : Int), .int .u64 (p1 : Int), .int .u64 (p2 : Int), .int .u64 (p3 : Int), .slice A ks.length c, .int .i64 lo, .int .i64 hi] 27) := ⟨_, rfl⟩
      obtain ⟨V4, hV4⟩ : ∃ V, V = V3.alloc (.cells #[.int .i64 k, .int .u64 (p0 : Int), .int .u64 (p1 : Int), .int .u64 (p2 : Int), .int .u64 (p3 : Int), .slice A ks.length c, .int .i64 lo, .int .i64 hi] 27) := ⟨_, rfl⟩
      obtain ⟨V5, hV5⟩ : ∃ V, V = V4.alloc (.cells #[.int .i64 2, .int .u64 0, .int .u64 0, .int .u64 0, .int .u64 0, .slice (some ⟨x2.heap.size, 0, none⟩) 2 2, .int .i64 0, .int .i64 0, .int .i64 3, .int .u64 0, .int .u64 0, .int .u64 0, .int .u64 0, .slice (some ⟨x2.heap.size + 1, 0, none⟩) 2 2, .int .i64 0, .int .i64 0, .int .i64 4, .int .u64 0, .int .u64 0, .int .u64 0, .int .u64 0, .slice (some ⟨x2.heap.size + 1 + 1, 0, none⟩) 1 1, .int .i64 (N : Int), .int .i64 (N : Int), .int .i64 4, .int .u64 0, .int .u64 0, .int .u64 0, .int .u64 0, .slice (some ⟨x2.heap.size + 1 + 1 + 1, 0, none⟩) 1 1, .int .i64 0, .int .i64 (-1)] 27) := ⟨_, rfl⟩
      obtain ⟨V6, hV6⟩ : ∃ V, V = V5.alloc (.cells #[.int .i64 ((X : Int) + (Y : Int)), .int .i64 ((X : Int) + (Y : Int)), .int .i64 (Z : Int), .int .i64 (X : Int)] 3) := ⟨_, rfl⟩
      have hsz1 : V1.heap.size = x2.heap.size + 1 := by rw [hV1, World.size_alloc]
      have hsz2 : V2.heap.size = x2.heap.size + 1 + 1 := by rw [hV2, World.size_alloc, hsz1]
      have hsz3 : V3.heap.size = x2.heap.size + 1 + 1 + 1 := by rw [hV3, World.size_alloc, hsz2]
      have hsz4 : V4.heap.size = x2.heap.size + 1 + 1 + 1 + 1 := by rw [hV4, World.size_alloc, hsz3]
      have hsz5 : V5.heap.size = x2.heap.size + 1 + 1 + 1 + 1 + 1 := by rw [hV5, World.size_alloc, hsz4]
      have hb01 : Below x2.heap.size x2 V1 := by rw [hV1]; exact ext_alloc (Below.refl _ _) _
      have hb12 : Below V1.heap.size V1 V2 := by rw [hV2]; exact ext_alloc (Below.refl _ _) _
      have hb23 : Below V2.heap.size V2 V3 := by rw [hV3]; exact ext_alloc (Below.refl _ _) _
      have hb34 : Below V3.heap.size V3 V4 := by rw [hV4]; exact ext_alloc (Below.refl _ _) _
      have hb45 : Below V4.heap.size V4 V5 := by rw [hV5]; exact ext_alloc (Below.refl _ _) _
      have hb56 : Below V5.heap.size V5 V6 := by rw [hV6]; exact ext_alloc (Below.refl _ _) _
      have hb24 := ext_trans hb23 hb34
      have hb14 := ext_trans hb12 hb24
      have hb04 := ext_trans hb01 hb14
      have hb06 := ext_trans hb04 (ext_trans hb45 hb56)
      have hRx : ∀ W, Below x2.heap.size x2 W → ReR (fun _ => True) W x [.int .i64 k, .int .u64 (p0 : Int), .int .u64 (p1 : Int), .int .u64 (p2 : Int), .int .u64 (p3 : Int), .slice A ks.length c, .int .i64 lo, .int .i64 hi] := fun W hW => HA1.out.ext (ext_trans Hbx.out hW)
      have hRy : ∀ W, Below x2.heap.size x2 W → ReR (fun _ => True) W y [.int .i64 k', .int .u64 (q0 : Int), .int .u64 (q1 : Int), .int .u64 (q2 : Int), .int .u64 (q3 : Int), .slice A' ks'.length c', .int .i64 lo', .int .i64 hi'] := fun W hW => HB1.out.ext (ext_trans Hbx.out hW)
      have hK0 : Kids (fun _ => True) V4 (some ⟨x2.heap.size, 0, none⟩) [x, y] := by
        have hB : Blk V1 (x2.heap.size) 27 #[.int .i64 k, .int .u64 (p0 : Int), .int .u64 (p1 : Int), .int .u64 (p2 : Int), .int .u64 (p3 : Int), .slice A ks.length c, .int .i64 lo, .int .i64 hi, .int .i64 k', .int .u64 (q0 : Int), .int .u64 (q1 : Int), .int .u64 (q2 : Int), .int .u64 (q3 : Int), .slice A' ks'.length c', .int .i64 lo', .int .i64 hi'] := by rw [hV1]; exact Blk.new _ _ _
        exact (kids_lit [(x, [.int .i64 k, .int .u64 (p0 : Int), .int .u64 (p1 : Int), .int .u64 (p2 : Int), .int .u64 (p3 : Int), .slice A ks.length c, .int .i64 lo, .int .i64 hi]), (y, [.int .i64 k', .int .u64 (q0 : Int), .int .u64 (q1 : Int), .int .u64 (q2 : Int), .int .u64 (q3 : Int), .slice A' ks'.length c', .int .i64 lo', .int .i64 hi'])] (by intro p hp; simp at hp; rcases hp with rfl | rfl; exact hRx _ hb01; exact hRy _ hb01) hB).ext hb14
      have hK1 : Kids (fun _ => True) V4 (some ⟨x2.heap.size + 1, 0, none⟩) [x, y] := by
        have hB : Blk V2 (x2.heap.size + 1) 27 #[.int .i64 k, .int .u64 (p0 : Int), .int .u64 (p1 : Int), .int .u64 (p2 : Int), .int .u64 (p3 : Int), .slice A ks.length c, .int .i64 lo, .int .i64 hi, .int .i64 k', .int .u64 (q0 : Int), .int .u64 (q1 : Int), .int .u64 (q2 : Int), .int .u64 (q3 : Int), .slice A' ks'.length c', .int .i64 lo', .int .i64 hi'] := by rw [hV2, ← hsz1]; exact Blk.new _ _ _
        exact (kids_lit [(x, [.int .i64 k, .int .u64 (p0 : Int), .int .u64 (p1 : Int), .int .u64 (p2 : Int), .int .u64 (p3 : Int), .slice A ks.length c, .int .i64 lo, .int .i64 hi]), (y, [.int .i64 k', .int .u64 (q0 : Int), .int .u64 (q1 : Int), .int .u64 (q2 : Int), .int .u64 (q3 : Int), .slice A' ks'.length c', .int .i64 lo', .int .i64 hi'])] (by intro p hp; simp at hp; rcases hp with rfl | rfl; exact hRx _ (ext_trans hb01 hb12); exact hRy _ (ext_trans hb01 hb12)) hB).ext hb24
      have hK2 : Kids (fun _ => True) V4 (some ⟨x2.heap.size + 1 + 1, 0, none⟩) [x] := by
        have hB : Blk V3 (x2.heap.size + 1 + 1) 27 #[.int .i64 k, .int .u64 (p0 : Int), .int .u64 (p1 : Int), .int .u64 (p2 : Int), .int .u64 (p3 : Int), .slice A ks.length c, .int .i64 lo, .int .i64 hi] := by rw [hV3, ← hsz2]; exact Blk.new _ _ _
        exact (kids_lit [(x, [.int .i64 k, .int .u64 (p0 : Int), .int .u64 (p1 : Int), .int .u64 (p2 : Int), .int .u64 (p3 : Int), .slice A ks.length c, .int .i64 lo, .int .i64 hi])] (by intro p hp; simp at hp; subst hp; exact hRx _ (ext_trans hb01 (ext_trans hb12 hb23))) hB).ext hb34
      have hK3 : Kids (fun _ => True) V4 (some ⟨x2.heap.size + 1 + 1 + 1, 0, none⟩) [x] := by
        have hB : Blk V4 (x2.heap.size + 1 + 1 + 1) 27 #[.int .i64 k, .int .u64 (p0 : Int), .int .u64 (p1 : Int), .int .u64 (p2 : Int), .int .u64 (p3 : Int), .slice A ks.length c, .int .i64 lo, .int .i64 hi] := by rw [hV4, ← hsz3]; exact Blk.new _ _ _
        exact kids_lit [(x, [.int .i64 k, .int .u64 (p0 : Int), .int .u64 (p1 : Int), .int .u64 (p2 : Int), .int .u64 (p3 : Int), .slice A ks.length c, .int .i64 lo, .int .i64 hi])] (by intro p hp; simp at hp; subst hp; exact hRx _ hb04) hB
      have hE0 : ReR (fun _ => True) V4 (exSeq x y) [.int .i64 2, .int .u64 0, .int .u64 0, .int .u64 0, .int .u64 0, .slice (some ⟨x2.heap.size, 0, none⟩) 2 2, .int .i64 0, .int .i64 0] := by
        unfold exSeq; rw [reR_iff]
        exact ⟨⟨by unfold isInt; omega, zero_ok, by unfold isInt; omega, by unfold isInt; omega⟩, _, 2, rfl, Nat.le_refl _, by simp [maxLen], hK0⟩
      have hE1 : ReR (fun _ => True) V4 (exAlt x y) [.int .i64 3, .int .u64 0, .int .u64 0, .int .u64 0, .int .u64 0, .slice (some ⟨x2.heap.size + 1, 0, none⟩) 2 2, .int .i64 0, .int .i64 0] := by
        unfold exAlt; rw [reR_iff]
        exact ⟨⟨by unfold isInt; omega, zero_ok, by unfold isInt; omega, by unfold isInt; omega⟩, _, 2, rfl, Nat.le_refl _, by simp [maxLen], hK1⟩
      have hE2 : ReR (fun _ => True) V4 (exRep x (N : Int)) [.int .i64 4, .int .u64 0, .int .u64 0, .int .u64 0, .int .u64 0, .slice (some ⟨x2.heap.size + 1 + 1, 0, none⟩) 1 1, .int .i64 (N : Int), .int .i64 (N : Int)] := by
        unfold exRep; rw [reR_iff]
        exact ⟨⟨by unfold isInt; omega, zero_ok, by unfold isInt; omega, by unfold isInt; omega⟩, _, 1, rfl, Nat.le_refl _, by simp [maxLen], hK2⟩
      have hE3 : ReR (fun _ => True) V4 (exStar x) [.int .i64 4, .int .u64 0, .int .u64 0, .int .u64 0, .int .u64 0, .slice (some ⟨x2.heap.size + 1 + 1 + 1, 0, none⟩) 1 1, .int .i64 0, .int .i64 (-1)] := by
        unfold exStar; rw [reR_iff]
        exact ⟨⟨by unfold isInt; omega, zero_ok, by unfold isInt; omega, by unfold isInt; omega⟩, _, 1, rfl, Nat.le_refl _, by simp [maxLen], hK3⟩
      have hKL : Kids (fun _ => True) V6 (some ⟨x2.heap.size + 1 + 1 + 1 + 1, 0, none⟩) (rows4 x y N) := by
        have hB : Blk V5 (x2.heap.size + 1 + 1 + 1 + 1) 27 #[.int .i64 2, .int .u64 0, .int .u64 0, .int .u64 0, .int .u64 0, .slice (some ⟨x2.heap.size, 0, none⟩) 2 2, .int .i64 0, .int .i64 0, .int .i64 3, .int .u64 0, .int .u64 0, .int .u64 0, .int .u64 0, .slice (some ⟨x2.heap.size + 1, 0, none⟩) 2 2, .int .i64 0, .int .i64 0, .int .i64 4, .int .u64 0, .int .u64 0, .int .u64 0, .int .u64 0, .slice (some ⟨x2.heap.size + 1 + 1, 0, none⟩) 1 1, .int .i64 (N : Int), .int .i64 (N : Int), .int .i64 4, .int .u64 0, .int .u64 0, .int .u64 0, .int .u64 0, .slice (some ⟨x2.heap.size + 1 + 1 + 1, 0, none⟩) 1 1, .int .i64 0, .int .i64 (-1)] := by rw [hV5, ← hsz4]; exact Blk.new _ _ _
        exact (kids_lit [(exSeq x y, [.int .i64 2, .int .u64 0, .int .u64 0, .int .u64 0, .int .u64 0, .slice (some ⟨x2.heap.size, 0, none⟩) 2 2, .int .i64 0, .int .i64 0]), (exAlt x y, [.int .i64 3, .int .u64 0, .int .u64 0, .int .u64 0, .int .u64 0, .slice (some ⟨x2.heap.size + 1, 0, none⟩) 2 2, .int .i64 0, .int .i64 0]), (exRep x (N : Int), [.int .i64 4, .int .u64 0, .int .u64 0, .int .u64 0, .int .u64 0, .slice (some ⟨x2.heap.size + 1 + 1, 0, none⟩) 1 1, .int .i64 (N : Int), .int .i64 (N : Int)]), (exStar x, [.int .i64 4, .int .u64 0, .int .u64 0, .int .u64 0, .int .u64 0, .slice (some ⟨x2.heap.size + 1 + 1 + 1, 0, none⟩) 1 1, .int .i64 0, .int .i64 (-1)])] (by intro p hp; simp at hp; rcases hp with rfl | rfl | rfl | rfl; exact hE0.ext hb45; exact hE1.ext hb45; exact hE2.ext hb45; exact hE3.ext hb45) hB).ext hb56
      have hBV : Blk V6 (x2.heap.size + 1 + 1 + 1 + 1 + 1) 3 #[.int .i64 ((X : Int) + (Y : Int)), .int .i64 ((X : Int) + (Y : Int)), .int .i64 (Z : Int), .int .i64 (X : Int)] := by rw [hV6, ← hsz5]; exact Blk.new _ _ _
      have hwant : ∀ i (h : i < 4), ∃ V : Nat, (wants4 x y N)[i]'(by exact h) = V ∧ V ≤ 8000 ∧ V6.cell? ⟨x2.heap.size + 1 + 1 + 1 + 1 + 1, i, none⟩ = some (.int .i64 (V : Int)) := fun i h => by
        have hwd := Hwd.out
        match i, h with
        | 0, _ => exact ⟨X + Y, by simp only [hwd]; rfl, by omega, (hBV.cell 0).trans (by simp)⟩
        | 1, _ => exact ⟨X + Y, by simp only [hwd]; rfl, by omega, (hBV.cell 1).trans (by simp)⟩
        | 2, _ => exact ⟨Z, by simp only [hwd]; rfl, by omega, (hBV.cell 2).trans (by simp)⟩
        | 3, _ => exact ⟨X, by simp only [hwd]; rfl, by omega, (hBV.cell 3).trans (by simp)⟩
      have HKL := Lib.hid hKL
      have Hwant := Lib.hid hwant
      have Hb6 := Lib.hid (ext_trans Hbx.out hb06)
      clear hKL hwant hBV hE0 hE1 hE2 hE3 hK0 hK1 hK2 hK3 hRx hRy hb01 hb12 hb23 hb34 hb45 hb56 hb24 hb14 hb04 hb06 hsz1 hsz2 hsz3 hsz4 hsz5
      go_wp2
      rw [← hV1, ← hV2, ← hV3, ← hV4, ← hV5, ← hV6]
      clear hV1 hV2 hV3 hV4 hV5 hV6 z0 z1 z2 z3 z4 z5 z6 z7 y0 y1 y2 y3 y4 y5 y6 y7 hna0 hna1 hna2 hna3 hna4 hna5 hlt1 hlt2 hlt3 hlt4 hlt5 hnb0 hlA hlB HSS1 HX1 HY1
      go_loopw [11] (fun v wr => ∃ i : Nat, i ≤ 4 ∧ v = .int .i64 (i : Int) ∧ Hid (Below V6.heap.size V6 wr)) (fun v _ => 4 - (intOf v).toNat)
      case atStart => exact ⟨0, by omega, rfl, Lib.hid (Below.refl _ _)⟩
      case round =>
        obtain ⟨i, hi, rfl, Hb⟩ := hrel
        by_cases hlt : i < 4
        · have hii : (i : Int) < 4 := by omega
          have hlen : (rows4 x y N).length = 4 := rfl
          obtain ⟨g', o, k8, s0, s1, s2, s3, ks8, A8, c8, lo8, hi8, eA, -, hr, x0, x1, x2', x3, x4, x5, x6, x7, -⟩ := (HKL.out.ext Hb.out).kidX (k := i) (by rw [hlen]; exact hlt)
          injection eA with eA
          injection eA with eA1 eA2 _
          subst eA1 eA2
          simp only [Nat.zero_add] at x0 x1 x2' x3 x4 x5 x6 x7
          obtain ⟨V, hVe, hVb, hVc⟩ := Hwant.out i hlt
          have hwok := HW4.out i hlt
          have hnod := nodes4 x y N (by omega) (by omega) i hlt
          rw [hVe] at hwok
          obtain ⟨t, ht⟩ : ∃ t, (rows4 x y N)[i]'(by rw [hlen]; exact hlt) = t := ⟨_, rfl⟩
          have ht2 : (rows4 x y N)[i]'(by exact hlt) = t := ht
          rw [ht2] at hwok hnod
          rw [ht] at hr
          have u0 : wr.cell? ⟨x2.heap.size + 1 + 1 + 1 + 1 + 1, i, none⟩ = some (.int .i64 (V : Int)) := (World.cell?_of_block (a := ⟨x2.heap.size + 1 + 1 + 1 + 1 + 1, i, none⟩) (Hb.out.block _ (World.block_lt_of_cell? V6 _ hVc))).trans hVc
          have hlg : x2.heap.size + 1 + 1 + 1 + 1 < wr.heap.size := World.block_lt_of_cell? wr _ x0
          have hlg2 : x2.heap.size + 1 + 1 + 1 + 1 + 1 < wr.heap.size := World.block_lt_of_cell? wr _ u0
          have HSK : Hid (∀ W, Below wr.heap.size wr W → (W.cell? ⟨x2.heap.size + 1 + 1 + 1 + 1, i * 8, none⟩ = some (.int .i64 k8) ∧ W.cell? ⟨x2.heap.size + 1 + 1 + 1 + 1, i * 8 + 1, none⟩ = some (.int .u64 (s0 : Int)) ∧ W.cell? ⟨x2.heap.size + 1 + 1 + 1 + 1, i * 8 + 2, none⟩ = some (.int .u64 (s1 : Int)) ∧ W.cell? ⟨x2.heap.size + 1 + 1 + 1 + 1, i * 8 + 3, none⟩ = some (.int .u64 (s2 : Int)) ∧ W.cell? ⟨x2.heap.size + 1 + 1 + 1 + 1, i * 8 + 4, none⟩ = some (.int .u64 (s3 : Int)) ∧ W.cell? ⟨x2.heap.size + 1 + 1 + 1 + 1, i * 8 + 5, none⟩ = some (.slice A8 ks8.length c8) ∧ W.cell? ⟨x2.heap.size + 1 + 1 + 1 + 1, i * 8 + 6, none⟩ = some (.int .i64 lo8) ∧ W.cell? ⟨x2.heap.size + 1 + 1 + 1 + 1, i * 8 + 7, none⟩ = some (.int .i64 hi8) ∧ W.cell? ⟨x2.heap.size + 1 + 1 + 1 + 1 + 1, i, none⟩ = some (.int .i64 (V : Int)))) := Lib.hid fun W hW => by
            have hk : ∀ j, W.cell? ⟨x2.heap.size + 1 + 1 + 1 + 1, j, none⟩ = wr.cell? ⟨x2.heap.size + 1 + 1 + 1 + 1, j, none⟩ := fun j => World.cell?_of_block (a := ⟨x2.heap.size + 1 + 1 + 1 + 1, j, none⟩) (hW.block _ hlg)
            exact ⟨(hk _).trans x0, (hk _).trans x1, (hk _).trans x2', (hk _).trans x3, (hk _).trans x4, (hk _).trans x5, (hk _).trans x6, (hk _).trans x7, (World.cell?_of_block (a := ⟨x2.heap.size + 1 + 1 + 1 + 1 + 1, i, none⟩) (hW.block _ hlg2)).trans u0⟩
          have Hr := Lib.hid hr
          have HI := Lib.hid (ris_any _ t _ wr hr hnod)
          have HT := Lib.hid (fun W (hW : Below wr.heap.size wr W) => Ht.out.ext (ext_trans Hb6.out (ext_trans Hb.out hW)))
          unfold reV at HI
          obtain ⟨I, hI⟩ : ∃ I, isE t = I := ⟨_, rfl⟩
          rw [hI] at HI
          have HIe := Lib.hid hI
          have Hwok := Lib.hid hwok
          clear hI hwok hr hVe hVc ht ht2 hnod
          have hib : (i : Int) ≤ 4 := by omega
          cases I with
          | false =>
            go_wp2_with fail
            refine HI.out.mono ?_
            rintro e wa ⟨rfl, hba⟩
            have Hba := Lib.hid (ext_trans Hb.out hba)
            clear hba
            go_wp2
            go_roundw
            case rel => exact ⟨i + 1, by omega, by go_num, Hba⟩
            case measure => simp [intOf]; omega
          | true =>
            go_wp2_with fail
            refine HI.out.mono ?_
            rintro e wa ⟨rfl, hba⟩
            have Hba := Lib.hid hba
            obtain ⟨v0, v1, v2, v3, v4, v5, v6, v7, v8⟩ := HSK.out wa hba
            have HO := Lib.hid (of_any (fun _ => True) t _ wa (HT.out wa hba) (Hr.out.ext hba))
            unfold reV at HO
            clear hba HI x0 x1 x2' x3 x4 x5 x6 x7 u0
            go_wp2_with fail
            refine HO.out.mono ?_
            rintro e wb ⟨hbb, -, h64, hok⟩
            have Hbb := Lib.hid (ext_trans Hba.out hbb)
            clear v0 v1 v2 v3 v4 v5 v6 v7 v8 hbb HO
            have HG : Hid (∀ W, Below wr.heap.size wr W → Calls Tryd.prog 16 #[.agg #[.int .i64 k8, .int .u64 (s0 : Int), .int .u64 (s1 : Int), .int .u64 (s2 : Int), .int .u64 (s3 : Int), .slice A8 ks8.length c8, .int .i64 lo8, .int .i64 hi8]] W fun e w' => e = .returned (.int .i64 (capK V : Int)) ∧ Below W.heap.size W w') := Lib.hid fun W hW => by
              have h := gsize_any (fun _ => True) t _ W (HT.out W hW) (Hr.out.ext hW)
              have hs : sizeG t = capK V := by rw [← Hwok.out.cap]; unfold sizeG capK; rw [HIe.out]; rfl
              rw [hs] at h
              exact h
            have hcap : ((V : Int) < 1000 ∧ capK V = V) ∨ (¬ (V : Int) < 1000 ∧ capK V = 1000) := by
              by_cases hv : V < 1000
              · exact .inl ⟨by omega, by unfold capK; rw [if_pos (by omega)]⟩
              · exact .inr ⟨by omega, by unfold capK; split <;> omega⟩
            obtain ⟨D, hD⟩ : ∃ D, capK V = D := ⟨_, rfl⟩
            rw [hD] at HG hcap
            clear hD
            by_cases hsm : cntE t ≤ 64
            · obtain ⟨Ar, cr, Dr, dr, rfl, hL⟩ := hok HIe.out hsm
              have hlen2 : (layG t ⟨[], []⟩).2.sets.length = V := by
                have := (gfn_lay t 1 (isE_one HIe.out).1 (reR_sets t _ Hr.out) ⟨[], []⟩ ⟨rfl, by simp, by simp⟩ (by simp; omega)).len
                rw [this, ← Hwok.out.eq hsm]; simp
              have hv64 : V ≤ 64 := Hwok.out.iff.1 hsm
              have hv64i : (V : Int) ≤ 64 := by omega
              rw [hlen2]
              obtain ⟨nl, hnl⟩ : ∃ nl, (layG t ⟨[], []⟩).1.null = nl := ⟨_, rfl⟩
              obtain ⟨fi, hfi⟩ : ∃ fi, (layG t ⟨[], []⟩).1.first = fi := ⟨_, rfl⟩
              obtain ⟨la, hla⟩ : ∃ la, (layG t ⟨[], []⟩).1.last = la := ⟨_, rfl⟩
              rw [hnl, hfi, hla]
              clear hL hlen2 hnl hfi hla hok h64
              obtain ⟨wc, hwc⟩ : ∃ W, W = wb.alloc (.cells #[.bool nl, .int .u64 (fi : Int), .int .u64 (la : Int), .slice Ar V cr, .slice Dr V dr] 32) := ⟨_, rfl⟩
              have hbc : Below wb.heap.size wb wc := by rw [hwc]; exact ext_alloc (Below.refl _ _) _
              have hBC : Blk wc wb.heap.size 32 #[.bool nl, .int .u64 (fi : Int), .int .u64 (la : Int), .slice Ar V cr, .slice Dr V dr] := by rw [hwc]; exact Blk.new _ _ _
              have HBC := Lib.hid hBC
              have Hbc := Lib.hid (ext_trans Hbb.out hbc)
              have HSG : Hid (∀ W, Below wc.heap.size wc W → ((W.cell? ⟨x2.heap.size + 1 + 1 + 1 + 1, i * 8, none⟩ = some (.int .i64 k8) ∧ W.cell? ⟨x2.heap.size + 1 + 1 + 1 + 1, i * 8 + 1, none⟩ = some (.int .u64 (s0 : Int)) ∧ W.cell? ⟨x2.heap.size + 1 + 1 + 1 + 1, i * 8 + 2, none⟩ = some (.int .u64 (s1 : Int)) ∧ W.cell? ⟨x2.heap.size + 1 + 1 + 1 + 1, i * 8 + 3, none⟩ = some (.int .u64 (s2 : Int)) ∧ W.cell? ⟨x2.heap.size + 1 + 1 + 1 + 1, i * 8 + 4, none⟩ = some (.int .u64 (s3 : Int)) ∧ W.cell? ⟨x2.heap.size + 1 + 1 + 1 + 1, i * 8 + 5, none⟩ = some (.slice A8 ks8.length c8) ∧ W.cell? ⟨x2.heap.size + 1 + 1 + 1 + 1, i * 8 + 6, none⟩ = some (.int .i64 lo8) ∧ W.cell? ⟨x2.heap.size + 1 + 1 + 1 + 1, i * 8 + 7, none⟩ = some (.int .i64 hi8) ∧ W.cell? ⟨x2.heap.size + 1 + 1 + 1 + 1 + 1, i, none⟩ = some (.int .i64 (V : Int))) ∧ W.cell? ⟨wb.heap.size, 3, none⟩ = some (.slice Ar V cr))) := Lib.hid fun W hW => ⟨HSK.out W (ext_trans Hbc.out hW), (HBC.out.ext hW).cell 3⟩
              have hbx : Below wc.heap.size wc wc := Below.refl _ _
              clear hbc hBC
              rcases hcap with ⟨hc1, hD2⟩ | ⟨hc1, hD2⟩
              · rw [hD2] at HG
                clear hD2
                go_wp2
                rw [← hwc]
                clear hwc
                refine wp_region_held_drew (S := fun W => (W.cell? ⟨x2.heap.size + 1 + 1 + 1 + 1, i * 8, none⟩ = some (.int .i64 k8) ∧ W.cell? ⟨x2.heap.size + 1 + 1 + 1 + 1, i * 8 + 1, none⟩ = some (.int .u64 (s0 : Int)) ∧ W.cell? ⟨x2.heap.size + 1 + 1 + 1 + 1, i * 8 + 2, none⟩ = some (.int .u64 (s1 : Int)) ∧ W.cell? ⟨x2.heap.size + 1 + 1 + 1 + 1, i * 8 + 3, none⟩ = some (.int .u64 (s2 : Int)) ∧ W.cell? ⟨x2.heap.size + 1 + 1 + 1 + 1, i * 8 + 4, none⟩ = some (.int .u64 (s3 : Int)) ∧ W.cell? ⟨x2.heap.size + 1 + 1 + 1 + 1, i * 8 + 5, none⟩ = some (.slice A8 ks8.length c8) ∧ W.cell? ⟨x2.heap.size + 1 + 1 + 1 + 1, i * 8 + 6, none⟩ = some (.int .i64 lo8) ∧ W.cell? ⟨x2.heap.size + 1 + 1 + 1 + 1, i * 8 + 7, none⟩ = some (.int .i64 hi8) ∧ W.cell? ⟨x2.heap.size + 1 + 1 + 1 + 1 + 1, i, none⟩ = some (.int .i64 (V : Int))) ∧ W.cell? ⟨wb.heap.size, 3, none⟩ = some (.slice Ar V cr)) (by kernel_rfl) ?_ (fun hHeld => ?_)
                · exact HSG.out _ (by repeat (first | exact hbx | apply ext_alloc | apply ext_drew | apply ext_drewN | exact Below.refl _ _))
                refine wpAnyH_take (i := 0) (v := ?_) (take_list rfl) (by kernel_rfl) (by kernel_rfl) (by kernel_rfl) (fun _ _ _ h => h) (Or.inl ⟨by rfl, ?_⟩) (by assumption) ?_
                rotate_left
                · intro w hSw
                  try dsimp only at hSw
                  first | (go_simp; done) | (go_simp; with_reducible rfl)
                try simp only [Act.put, List.setIfInBounds_toArray, List.set_cons_zero, List.set_cons_succ]
                refine wpAnyH_take (i := 1) (v := ?_) (take_list rfl) (by kernel_rfl) (by kernel_rfl) (by kernel_rfl) (fun _ _ _ h => h) (Or.inl ⟨by rfl, ?_⟩) (by assumption) ?_
                rotate_left
                · intro w hSw
                  try dsimp only at hSw
                  first | (go_simp; done) | (go_simp; with_reducible rfl)
                try simp only [Act.put, List.setIfInBounds_toArray, List.set_cons_zero, List.set_cons_succ]
                refine wpAnyH_take (i := 2) (v := ?_) (take_list rfl) (by kernel_rfl) (by kernel_rfl) (by kernel_rfl) (fun _ _ _ h => h) (Or.inl ⟨by rfl, ?_⟩) (by assumption) ?_
                rotate_left
                · intro w hSw
                  try dsimp only at hSw
                  first | (go_simp; done) | (go_simp; with_reducible rfl)
                try simp only [Act.put, List.setIfInBounds_toArray, List.set_cons_zero, List.set_cons_succ]
                refine wpAnyH_take (i := 3) (v := ?_) (take_list rfl) (by kernel_rfl) (by kernel_rfl) (by kernel_rfl) (fun _ _ _ h => h) (Or.inl ⟨by rfl, ?_⟩) (by assumption) ?_
                rotate_left
                · intro w hSw
                  try dsimp only at hSw
                  first | (go_simp; done) | (go_simp; with_reducible rfl)
                try simp only [Act.put, List.setIfInBounds_toArray, List.set_cons_zero, List.set_cons_succ]
                refine wpAnyH_take (i := 5) (v := ?_) (take_list rfl) (by kernel_rfl) (by kernel_rfl) (by kernel_rfl) (fun _ _ _ h => h) (Or.inl ⟨by rfl, ?_⟩) (by assumption) ?_
                rotate_left
                · intro w hSw
                  try dsimp only at hSw
                  first | (go_simp; done) | (go_simp; with_reducible rfl)
                try simp only [Act.put, List.setIfInBounds_toArray, List.set_cons_zero, List.set_cons_succ]
                refine wpAnyH_take (i := 6) (v := ?_) (take_list rfl) (by kernel_rfl) (by kernel_rfl) (by kernel_rfl) (fun _ _ _ h => h) (Or.inl ⟨by rfl, ?_⟩) (by assumption) ?_
                rotate_left
                · intro w hSw
                  try dsimp only at hSw
                  first | (go_simp; done) | (go_simp; with_reducible rfl)
                try simp only [Act.put, List.setIfInBounds_toArray, List.set_cons_zero, List.set_cons_succ]
                refine wpAnyH_take (i := 7) (v := ?_) (take_list rfl) (by kernel_rfl) (by kernel_rfl) (by kernel_rfl) (fun _ _ _ h => h) (Or.inl ⟨by rfl, ?_⟩) (by assumption) ?_
                rotate_left
                · intro w hSw
                  try dsimp only at hSw
                  first | (go_simp; done) | (go_simp; with_reducible rfl)
                try simp only [Act.put, List.setIfInBounds_toArray, List.set_cons_zero, List.set_cons_succ]
                refine wpAnyH_take (i := 8) (v := ?_) (take_list rfl) (by kernel_rfl) (by kernel_rfl) (by kernel_rfl) (fun _ _ _ h => h) (Or.inl ⟨by rfl, ?_⟩) (by assumption) ?_
                rotate_left
                · intro w hSw
                  try dsimp only at hSw
                  first | (go_simp; done) | (go_simp; with_reducible rfl)
                try simp only [Act.put, List.setIfInBounds_toArray, List.set_cons_zero, List.set_cons_succ]
                refine wpAnyH_take (i := 9) (v := ?_) (take_list rfl) (by kernel_rfl) (by kernel_rfl) (by kernel_rfl) (fun _ _ _ h => h) (Or.inl ⟨by rfl, ?_⟩) (by assumption) ?_
                rotate_left
                · intro w hSw
                  try dsimp only at hSw
                  first | (go_simp; done) | (go_simp; with_reducible rfl)
                try simp only [Act.put, List.setIfInBounds_toArray, List.set_cons_zero, List.set_cons_succ]
                refine wpAnyH_ready (rs := [4]) (by kernel_rfl) (by simp) ?_
                refine AllReadyH.cons (take_list rfl) (fun K hK => ?_) ?_
                · skip
                  go_simp
                  refine (HG.out _ (ext_trans Hbc.out (by repeat (first | exact hbx | apply ext_alloc | apply ext_drew | apply ext_drewN | exact Below.refl _ _)))).mono ?_
                  rintro e xa ⟨rfl, hbx'⟩
                  dsimp only
                  have hbx : Below wc.heap.size wc xa := ext_trans (by repeat (first | exact hbx | apply ext_alloc | apply ext_drew | apply ext_drewN | exact Below.refl _ _)) hbx'
                  refine hK.out _ _ ?_ (fun hHeld => ?_)
                  · try dsimp only
                    exact HSG.out _ (by repeat (first | exact hbx | apply ext_alloc | apply ext_drew | apply ext_drewN | exact Below.refl _ _))
                  clear hK K
                  refine wpAnyH_take (i := 10) (v := ?_) (take_list rfl) (by kernel_rfl) (by kernel_rfl) (by kernel_rfl) (fun _ _ _ h => h) (Or.inl ⟨by rfl, ?_⟩) (by assumption) ?_
                  rotate_left
                  · intro w hSw
                    try dsimp only at hSw
                    first | (go_simp; done) | (go_simp; with_reducible rfl)
                  try simp only [Act.put, List.setIfInBounds_toArray, List.set_cons_zero, List.set_cons_succ]
                  refine wpAnyH_take (i := 11) (v := ?_) (take_list rfl) (by kernel_rfl) (by kernel_rfl) (by kernel_rfl) (fun _ _ _ h => h) (Or.inl ⟨by rfl, ?_⟩) (by assumption) ?_
                  rotate_left
                  · intro w hSw
                    try dsimp only at hSw
                    first | (go_simp; done) | (go_simp; with_reducible rfl)
                  try simp only [Act.put, List.setIfInBounds_toArray, List.set_cons_zero, List.set_cons_succ]
                  refine wpAnyH_take (i := 12) (v := ?_) (take_list rfl) (by kernel_rfl) (by kernel_rfl) (by kernel_rfl) (fun _ _ _ h => h) (Or.inl ⟨by rfl, ?_⟩) (by assumption) ?_
                  rotate_left
                  · intro w hSw
                    try dsimp only at hSw
                    first | (go_simp; done) | (go_simp; with_reducible rfl)
                  try simp only [Act.put, List.setIfInBounds_toArray, List.set_cons_zero, List.set_cons_succ]
                  refine wpAnyH_take (i := 13) (v := ?_) (take_list rfl) (by kernel_rfl) (by kernel_rfl) (by kernel_rfl) (fun _ _ _ h => h) (Or.inl ⟨by rfl, ?_⟩) (by assumption) ?_
                  rotate_left
                  · intro w hSw
                    try dsimp only at hSw
                    first | (go_simp; done) | (go_simp; with_reducible rfl)
                  try simp only [Act.put, List.setIfInBounds_toArray, List.set_cons_zero, List.set_cons_succ]
                  refine wpAnyH_take (i := 14) (v := ?_) (take_list rfl) (by kernel_rfl) (by kernel_rfl) (by kernel_rfl) (fun _ _ _ h => h) (Or.inl ⟨by rfl, ?_⟩) (by assumption) ?_
                  rotate_left
                  · intro w hSw
                    try dsimp only at hSw
                    first | (go_simp; done) | (go_simp; with_reducible rfl)
                  try simp only [Act.put, List.setIfInBounds_toArray, List.set_cons_zero, List.set_cons_succ]
                  refine wpAnyH_take (i := 15) (v := ?_) (take_list rfl) (by kernel_rfl) (by kernel_rfl) (by kernel_rfl) (fun _ _ _ h => h) (Or.inl ⟨by rfl, ?_⟩) (by assumption) ?_
                  rotate_left
                  · intro w hSw
                    try dsimp only at hSw
                    first | (go_simp; done) | (go_simp; with_reducible rfl)
                  try simp only [Act.put, List.setIfInBounds_toArray, List.set_cons_zero, List.set_cons_succ]
                  refine wpAnyH_take (i := 16) (v := ?_) (take_list rfl) (by kernel_rfl) (by kernel_rfl) (by kernel_rfl) (fun _ _ _ h => h) (Or.inl ⟨by rfl, ?_⟩) (by assumption) ?_
                  rotate_left
                  · intro w hSw
                    try dsimp only at hSw
                    first | (go_simp; done) | (go_simp; with_reducible rfl)
                  try simp only [Act.put, List.setIfInBounds_toArray, List.set_cons_zero, List.set_cons_succ]
                  refine wpAnyH_take (i := 17) (v := ?_) (take_list rfl) (by kernel_rfl) (by kernel_rfl) (by kernel_rfl) (fun _ _ _ h => h) (Or.inl ⟨by rfl, ?_⟩) (by assumption) ?_
                  rotate_left
                  · intro w hSw
                    try dsimp only at hSw
                    first | (go_simp; done) | (go_simp; with_reducible rfl)
                  try simp only [Act.put, List.setIfInBounds_toArray, List.set_cons_zero, List.set_cons_succ]
                  refine wpAnyH_take (i := 18) (v := ?_) (take_list rfl) (by kernel_rfl) (by kernel_rfl) (by kernel_rfl) (fun _ _ _ h => h) (Or.inl ⟨by rfl, ?_⟩) (by assumption) ?_
                  rotate_left
                  · intro w hSw
                    try dsimp only at hSw
                    first | (go_simp; done) | (go_simp; with_reducible rfl)
                  try simp only [Act.put, List.setIfInBounds_toArray, List.set_cons_zero, List.set_cons_succ]
                  refine wpAnyH_take (i := 19) (v := ?_) (take_list rfl) (by kernel_rfl) (by kernel_rfl) (by kernel_rfl) (fun _ _ _ h => h) (Or.inl ⟨by rfl, ?_⟩) (by assumption) ?_
                  rotate_left
                  · intro w hSw
                    try dsimp only at hSw
                    first | (go_simp; done) | (go_simp; with_reducible rfl)
                  try simp only [Act.put, List.setIfInBounds_toArray, List.set_cons_zero, List.set_cons_succ]
                  refine wpAnyH_take (i := 20) (v := ?_) (take_list rfl) (by kernel_rfl) (by kernel_rfl) (by kernel_rfl) (fun _ _ _ h => h) (Or.inl ⟨by rfl, ?_⟩) (by assumption) ?_
                  rotate_left
                  · intro w hSw
                    try dsimp only at hSw
                    first | (go_simp; done) | (go_simp; with_reducible rfl)
                  try simp only [Act.put, List.setIfInBounds_toArray, List.set_cons_zero, List.set_cons_succ]
                  refine wpAnyH_take (i := 21) (v := ?_) (take_list rfl) (by kernel_rfl) (by kernel_rfl) (by kernel_rfl) (fun _ _ _ h => h) (Or.inl ⟨by rfl, ?_⟩) (by assumption) ?_
                  rotate_left
                  · intro w hSw
                    try dsimp only at hSw
                    first | (go_simp; done) | (go_simp; with_reducible rfl)
                  try simp only [Act.put, List.setIfInBounds_toArray, List.set_cons_zero, List.set_cons_succ]
                  refine wpAnyH_take (i := 22) (v := ?_) (take_list rfl) (by kernel_rfl) (by kernel_rfl) (by kernel_rfl) (fun _ _ _ h => h) (Or.inl ⟨by rfl, ?_⟩) (by assumption) ?_
                  rotate_left
                  · intro w hSw
                    try dsimp only at hSw
                    first | (go_simp; done) | (go_simp; with_reducible rfl)
                  try simp only [Act.put, List.setIfInBounds_toArray, List.set_cons_zero, List.set_cons_succ]
                  refine wpAnyH_take (i := 23) (v := ?_) (take_list rfl) (by kernel_rfl) (by kernel_rfl) (by kernel_rfl) (fun _ _ _ h => h) (Or.inl ⟨by rfl, ?_⟩) (by assumption) ?_
                  rotate_left
                  · intro w hSw
                    try dsimp only at hSw
                    first | (go_simp; done) | (go_simp; with_reducible rfl)
                  try simp only [Act.put, List.setIfInBounds_toArray, List.set_cons_zero, List.set_cons_succ]
                  refine wpAnyH_take (i := 24) (v := ?_) (take_list rfl) (by kernel_rfl) (by kernel_rfl) (by kernel_rfl) (fun _ _ _ h => h) (Or.inl ⟨by rfl, ?_⟩) (by assumption) ?_
                  rotate_left
                  · intro w hSw
                    try dsimp only at hSw
                    first | (go_simp; done) | (go_simp; with_reducible rfl)
                  try simp only [Act.put, List.setIfInBounds_toArray, List.set_cons_zero, List.set_cons_succ]
                  refine wpAnyH_take (i := 25) (v := ?_) (take_list rfl) (by kernel_rfl) (by kernel_rfl) (by kernel_rfl) (fun _ _ _ h => h) (Or.inl ⟨by rfl, ?_⟩) (by assumption) ?_
                  rotate_left
                  · intro w hSw
                    try dsimp only at hSw
                    first | (go_simp; done) | (go_simp; with_reducible rfl)
                  try simp only [Act.put, List.setIfInBounds_toArray, List.set_cons_zero, List.set_cons_succ]
                  refine wpAnyH_take (i := 26) (v := ?_) (take_list rfl) (by kernel_rfl) (by kernel_rfl) (by kernel_rfl) (fun _ _ _ h => h) (Or.inl ⟨by rfl, ?_⟩) (by assumption) ?_
                  rotate_left
                  · intro w hSw
                    try dsimp only at hSw
                    first | (go_simp; done) | (go_simp; with_reducible rfl)
                  try simp only [Act.put, List.setIfInBounds_toArray, List.set_cons_zero, List.set_cons_succ]
                  refine wpAnyH_take (i := 27) (v := ?_) (take_list rfl) (by kernel_rfl) (by kernel_rfl) (by kernel_rfl) (fun _ _ _ h => h) (Or.inl ⟨by rfl, ?_⟩) (by assumption) ?_
                  rotate_left
                  · intro w hSw
                    try dsimp only at hSw
                    first | (go_simp; done) | (go_simp; with_reducible rfl)
                  try simp only [Act.put, List.setIfInBounds_toArray, List.set_cons_zero, List.set_cons_succ]
                  refine wpAnyH_take (i := 28) (v := ?_) (take_list rfl) (by kernel_rfl) (by kernel_rfl) (by kernel_rfl) (fun _ _ _ h => h) (Or.inl ⟨by rfl, ?_⟩) (by assumption) ?_
                  rotate_left
                  · intro w hSw
                    try dsimp only at hSw
                    first | (go_simp; done) | (go_simp; with_reducible rfl)
                  try simp only [Act.put, List.setIfInBounds_toArray, List.set_cons_zero, List.set_cons_succ]
                  refine wpAnyH_take (i := 29) (v := ?_) (take_list rfl) (by kernel_rfl) (by kernel_rfl) (by kernel_rfl) (fun _ _ _ h => h) (Or.inl ⟨by rfl, ?_⟩) (by assumption) ?_
                  rotate_left
                  · intro w hSw
                    try dsimp only at hSw
                    first | (go_simp; done) | (go_simp; with_reducible rfl)
                  try simp only [Act.put, List.setIfInBounds_toArray, List.set_cons_zero, List.set_cons_succ]
                  refine wpAnyH_take (i := 30) (v := ?_) (take_list rfl) (by kernel_rfl) (by kernel_rfl) (by kernel_rfl) (fun _ _ _ h => h) (Or.inl ⟨by rfl, ?_⟩) (by assumption) ?_
                  rotate_left
                  · intro w hSw
                    try dsimp only at hSw
                    first | (go_simp; done) | (go_simp; with_reducible rfl)
                  try simp only [Act.put, List.setIfInBounds_toArray, List.set_cons_zero, List.set_cons_succ]
                  refine wpAnyH_take (i := 31) (v := ?_) (take_list rfl) (by kernel_rfl) (by kernel_rfl) (by kernel_rfl) (fun _ _ _ h => h) (Or.inl ⟨by rfl, ?_⟩) (by assumption) ?_
                  rotate_left
                  · intro w hSw
                    try dsimp only at hSw
                    first | (go_simp; done) | (go_simp; with_reducible rfl)
                  try simp only [Act.put, List.setIfInBounds_toArray, List.set_cons_zero, List.set_cons_succ]
                  refine wpAnyH_take (i := 32) (v := ?_) (take_list rfl) (by kernel_rfl) (by kernel_rfl) (by kernel_rfl) (fun _ _ _ h => h) (Or.inl ⟨by rfl, ?_⟩) (by assumption) ?_
                  rotate_left
                  · intro w hSw
                    try dsimp only at hSw
                    first | (go_simp; done) | (go_simp; with_reducible rfl)
                  try simp only [Act.put, List.setIfInBounds_toArray, List.set_cons_zero, List.set_cons_succ]
                  refine wpAnyH_take (i := 33) (v := ?_) (take_list rfl) (by kernel_rfl) (by kernel_rfl) (by kernel_rfl) (fun _ _ _ h => h) (Or.inl ⟨by rfl, ?_⟩) (by assumption) ?_
                  rotate_left
                  · intro w hSw
                    try dsimp only at hSw
                    first | (go_simp; done) | (go_simp; with_reducible rfl)
                  try simp only [Act.put, List.setIfInBounds_toArray, List.set_cons_zero, List.set_cons_succ]
                  refine wpAnyH_take (i := 34) (v := ?_) (take_list rfl) (by kernel_rfl) (by kernel_rfl) (by kernel_rfl) (fun _ _ _ h => h) (Or.inl ⟨by rfl, ?_⟩) (by assumption) ?_
                  rotate_left
                  · intro w hSw
                    try dsimp only at hSw
                    first | (go_simp; done) | (go_simp; with_reducible rfl)
                  try simp only [Act.put, List.setIfInBounds_toArray, List.set_cons_zero, List.set_cons_succ]
                  refine wpAnyH_done (by kernel_rfl) ?_ _
                  go_wp2
                  go_roundw
                  case rel => exact ⟨i + 1, by omega, by go_num, Lib.hid (ext_trans Hb.out (ext_trans Hbc.out (by repeat (first | exact hbx | apply ext_alloc | apply ext_drew | apply ext_drewN | exact Below.refl _ _))))⟩
                  case measure => simp [intOf]; omega
                exact AllReadyH.nil
              · exact absurd (show (V : Int) < 1000 by omega) hc1
            · have he := h64 HIe.out (by omega)
              subst he
              have hv64 : ¬ V ≤ 64 := fun h => hsm (Hwok.out.iff.2 h)
              have hv64i : ¬ (V : Int) ≤ 64 := by omega
              have hv64j : (64 : Int) < (V : Int) := by omega
              have hv64d : decide ((V : Int) ≤ 64) = false := decide_eq_false hv64i
              clear hok h64
              obtain ⟨wc, hwc⟩ : ∃ W, W = wb.alloc (.cells #[.bool false, .int .u64 0, .int .u64 0, .slice none 0 0, .slice none 0 0] 32) := ⟨_, rfl⟩
              have hbc : Below wb.heap.size wb wc := by rw [hwc]; exact ext_alloc (Below.refl _ _) _
              have Hbc := Lib.hid (ext_trans Hbb.out hbc)
              have HSG : Hid (∀ W, Below wc.heap.size wc W → (W.cell? ⟨x2.heap.size + 1 + 1 + 1 + 1, i * 8, none⟩ = some (.int .i64 k8) ∧ W.cell? ⟨x2.heap.size + 1 + 1 + 1 + 1, i * 8 + 1, none⟩ = some (.int .u64 (s0 : Int)) ∧ W.cell? ⟨x2.heap.size + 1 + 1 + 1 + 1, i * 8 + 2, none⟩ = some (.int .u64 (s1 : Int)) ∧ W.cell? ⟨x2.heap.size + 1 + 1 + 1 + 1, i * 8 + 3, none⟩ = some (.int .u64 (s2 : Int)) ∧ W.cell? ⟨x2.heap.size + 1 + 1 + 1 + 1, i * 8 + 4, none⟩ = some (.int .u64 (s3 : Int)) ∧ W.cell? ⟨x2.heap.size + 1 + 1 + 1 + 1, i * 8 + 5, none⟩ = some (.slice A8 ks8.length c8) ∧ W.cell? ⟨x2.heap.size + 1 + 1 + 1 + 1, i * 8 + 6, none⟩ = some (.int .i64 lo8) ∧ W.cell? ⟨x2.heap.size + 1 + 1 + 1 + 1, i * 8 + 7, none⟩ = some (.int .i64 hi8) ∧ W.cell? ⟨x2.heap.size + 1 + 1 + 1 + 1 + 1, i, none⟩ = some (.int .i64 (V : Int)))) := Lib.hid fun W hW => HSK.out W (ext_trans Hbc.out hW)
              have hbx : Below wc.heap.size wc wc := Below.refl _ _
              clear hbc
              have hcap : (((V : Int) < 1000 ∧ (if (V : Int) < 1000 then (V : Int) else 1000) = (V : Int)) ∧ D = V) ∨ (((1000 : Int) ≤ (V : Int) ∧ (if (V : Int) < 1000 then (V : Int) else 1000) = 1000) ∧ D = 1000) := hcap.elim (fun h => .inl ⟨⟨h.1, if_pos h.1⟩, h.2⟩) (fun h => .inr ⟨⟨by omega, if_neg h.1⟩, h.2⟩)
              rcases hcap with ⟨⟨hc1, hif⟩, hD2⟩ | ⟨⟨hc1, hif⟩, hD2⟩
              all_goals
                rw [hD2] at HG
                clear hD2
                go_wp2
                rw [← hwc]
                clear hwc
                refine wp_region_held_drew (S := fun W => W.cell? ⟨x2.heap.size + 1 + 1 + 1 + 1, i * 8, none⟩ = some (.int .i64 k8) ∧ W.cell? ⟨x2.heap.size + 1 + 1 + 1 + 1, i * 8 + 1, none⟩ = some (.int .u64 (s0 : Int)) ∧ W.cell? ⟨x2.heap.size + 1 + 1 + 1 + 1, i * 8 + 2, none⟩ = some (.int .u64 (s1 : Int)) ∧ W.cell? ⟨x2.heap.size + 1 + 1 + 1 + 1, i * 8 + 3, none⟩ = some (.int .u64 (s2 : Int)) ∧ W.cell? ⟨x2.heap.size + 1 + 1 + 1 + 1, i * 8 + 4, none⟩ = some (.int .u64 (s3 : Int)) ∧ W.cell? ⟨x2.heap.size + 1 + 1 + 1 + 1, i * 8 + 5, none⟩ = some (.slice A8 ks8.length c8) ∧ W.cell? ⟨x2.heap.size + 1 + 1 + 1 + 1, i * 8 + 6, none⟩ = some (.int .i64 lo8) ∧ W.cell? ⟨x2.heap.size + 1 + 1 + 1 + 1, i * 8 + 7, none⟩ = some (.int .i64 hi8) ∧ W.cell? ⟨x2.heap.size + 1 + 1 + 1 + 1 + 1, i, none⟩ = some (.int .i64 (V : Int))) (by kernel_rfl) ?_ (fun hHeld => ?_)
                · exact HSG.out _ (by repeat (first | exact hbx | apply ext_alloc | apply ext_drew | apply ext_drewN | exact Below.refl _ _))
                refine wpAnyH_take (i := 0) (v := ?_) (take_list rfl) (by kernel_rfl) (by kernel_rfl) (by kernel_rfl) (fun _ _ _ h => h) (Or.inl ⟨by rfl, ?_⟩) (by assumption) ?_
                rotate_left
                · intro w hSw
                  try dsimp only at hSw
                  first | (go_simp; done) | (go_simp; with_reducible rfl)
                try simp only [Act.put, List.setIfInBounds_toArray, List.set_cons_zero, List.set_cons_succ]
                refine wpAnyH_take (i := 1) (v := ?_) (take_list rfl) (by kernel_rfl) (by kernel_rfl) (by kernel_rfl) (fun _ _ _ h => h) (Or.inl ⟨by rfl, ?_⟩) (by assumption) ?_
                rotate_left
                · intro w hSw
                  try dsimp only at hSw
                  first | (go_simp; done) | (go_simp; with_reducible rfl)
                try simp only [Act.put, List.setIfInBounds_toArray, List.set_cons_zero, List.set_cons_succ]
                refine wpAnyH_take (i := 2) (v := ?_) (take_list rfl) (by kernel_rfl) (by kernel_rfl) (by kernel_rfl) (fun _ _ _ h => h) (Or.inl ⟨by rfl, ?_⟩) (by assumption) ?_
                rotate_left
                · intro w hSw
                  try dsimp only at hSw
                  first | (go_simp; done) | (go_simp; with_reducible rfl)
                try simp only [Act.put, List.setIfInBounds_toArray, List.set_cons_zero, List.set_cons_succ]
                refine wpAnyH_take (i := 3) (v := ?_) (take_list rfl) (by kernel_rfl) (by kernel_rfl) (by kernel_rfl) (fun _ _ _ h => h) (Or.inl ⟨by rfl, ?_⟩) (by assumption) ?_
                rotate_left
                · intro w hSw
                  try dsimp only at hSw
                  first | (go_simp; done) | (go_simp; with_reducible rfl)
                try simp only [Act.put, List.setIfInBounds_toArray, List.set_cons_zero, List.set_cons_succ]
                refine wpAnyH_take (i := 5) (v := ?_) (take_list rfl) (by kernel_rfl) (by kernel_rfl) (by kernel_rfl) (fun _ _ _ h => h) (Or.inl ⟨by rfl, ?_⟩) (by assumption) ?_
                rotate_left
                · intro w hSw
                  try dsimp only at hSw
                  first | (go_simp; done) | (go_simp; with_reducible rfl)
                try simp only [Act.put, List.setIfInBounds_toArray, List.set_cons_zero, List.set_cons_succ]
                refine wpAnyH_take (i := 6) (v := ?_) (take_list rfl) (by kernel_rfl) (by kernel_rfl) (by kernel_rfl) (fun _ _ _ h => h) (Or.inl ⟨by rfl, ?_⟩) (by assumption) ?_
                rotate_left
                · intro w hSw
                  try dsimp only at hSw
                  first | (go_simp; done) | (go_simp; with_reducible rfl)
                try simp only [Act.put, List.setIfInBounds_toArray, List.set_cons_zero, List.set_cons_succ]
                refine wpAnyH_take (i := 7) (v := ?_) (take_list rfl) (by kernel_rfl) (by kernel_rfl) (by kernel_rfl) (fun _ _ _ h => h) (Or.inl ⟨by rfl, ?_⟩) (by assumption) ?_
                rotate_left
                · intro w hSw
                  try dsimp only at hSw
                  first | (go_simp; done) | (go_simp; with_reducible rfl)
                try simp only [Act.put, List.setIfInBounds_toArray, List.set_cons_zero, List.set_cons_succ]
                refine wpAnyH_take (i := 8) (v := ?_) (take_list rfl) (by kernel_rfl) (by kernel_rfl) (by kernel_rfl) (fun _ _ _ h => h) (Or.inl ⟨by rfl, ?_⟩) (by assumption) ?_
                rotate_left
                · intro w hSw
                  try dsimp only at hSw
                  first | (go_simp; done) | (go_simp; with_reducible rfl)
                try simp only [Act.put, List.setIfInBounds_toArray, List.set_cons_zero, List.set_cons_succ]
                refine wpAnyH_take (i := 9) (v := ?_) (take_list rfl) (by kernel_rfl) (by kernel_rfl) (by kernel_rfl) (fun _ _ _ h => h) (Or.inl ⟨by rfl, ?_⟩) (by assumption) ?_
                rotate_left
                · intro w hSw
                  try dsimp only at hSw
                  first | (go_simp; done) | (go_simp; with_reducible rfl)
                try simp only [Act.put, List.setIfInBounds_toArray, List.set_cons_zero, List.set_cons_succ]
                refine wpAnyH_ready (rs := [4]) (by kernel_rfl) (by simp) ?_
                refine AllReadyH.cons (take_list rfl) (fun K hK => ?_) ?_
                · skip
                  go_simp
                  refine (HG.out _ (ext_trans Hbc.out (by repeat (first | exact hbx | apply ext_alloc | apply ext_drew | apply ext_drewN | exact Below.refl _ _)))).mono ?_
                  rintro e xa ⟨rfl, hbx'⟩
                  dsimp only
                  have hbx : Below wc.heap.size wc xa := ext_trans (by repeat (first | exact hbx | apply ext_alloc | apply ext_drew | apply ext_drewN | exact Below.refl _ _)) hbx'
                  refine hK.out _ _ ?_ (fun hHeld => ?_)
                  · try dsimp only
                    exact HSG.out _ (by repeat (first | exact hbx | apply ext_alloc | apply ext_drew | apply ext_drewN | exact Below.refl _ _))
                  clear hK K
                  refine wpAnyH_take (i := 10) (v := ?_) (take_list rfl) (by kernel_rfl) (by kernel_rfl) (by kernel_rfl) (fun _ _ _ h => h) (Or.inl ⟨by rfl, ?_⟩) (by assumption) ?_
                  rotate_left
                  · intro w hSw
                    try dsimp only at hSw
                    first | (go_simp; done) | (go_simp; with_reducible rfl)
                  try simp only [Act.put, List.setIfInBounds_toArray, List.set_cons_zero, List.set_cons_succ]
                  refine wpAnyH_take (i := 11) (v := ?_) (take_list rfl) (by kernel_rfl) (by kernel_rfl) (by kernel_rfl) (fun _ _ _ h => h) (Or.inl ⟨by rfl, ?_⟩) (by assumption) ?_
                  rotate_left
                  · intro w hSw
                    try dsimp only at hSw
                    first | (go_simp; done) | (go_simp; with_reducible rfl)
                  try simp only [Act.put, List.setIfInBounds_toArray, List.set_cons_zero, List.set_cons_succ]
                  refine wpAnyH_take (i := 12) (v := ?_) (take_list rfl) (by kernel_rfl) (by kernel_rfl) (by kernel_rfl) (fun _ _ _ h => h) (Or.inl ⟨by rfl, ?_⟩) (by assumption) ?_
                  rotate_left
                  · intro w hSw
                    try dsimp only at hSw
                    first | (go_simp; done) | (go_simp; with_reducible rfl)
                  try simp only [Act.put, List.setIfInBounds_toArray, List.set_cons_zero, List.set_cons_succ]
                  refine wpAnyH_take (i := 13) (v := ?_) (take_list rfl) (by kernel_rfl) (by kernel_rfl) (by kernel_rfl) (fun _ _ _ h => h) (Or.inl ⟨by rfl, ?_⟩) (by assumption) ?_
                  rotate_left
                  · intro w hSw
                    try dsimp only at hSw
                    first | (go_simp; done) | (go_simp; with_reducible rfl)
                  try simp only [Act.put, List.setIfInBounds_toArray, List.set_cons_zero, List.set_cons_succ]
                  refine wpAnyH_take (i := 14) (v := ?_) (take_list rfl) (by kernel_rfl) (by kernel_rfl) (by kernel_rfl) (fun _ _ _ h => h) (Or.inl ⟨by rfl, ?_⟩) (by assumption) ?_
                  rotate_left
                  · intro w hSw
                    try dsimp only at hSw
                    first | (go_simp; done) | (go_simp; with_reducible rfl)
                  try simp only [Act.put, List.setIfInBounds_toArray, List.set_cons_zero, List.set_cons_succ]
                  refine wpAnyH_take (i := 15) (v := ?_) (take_list rfl) (by kernel_rfl) (by kernel_rfl) (by kernel_rfl) (fun _ _ _ h => h) (Or.inl ⟨by rfl, ?_⟩) (by assumption) ?_
                  rotate_left
                  · intro w hSw
                    try dsimp only at hSw
                    first | (go_simp; done) | (go_simp; with_reducible rfl)
                  try simp only [Act.put, List.setIfInBounds_toArray, List.set_cons_zero, List.set_cons_succ]
                  refine wpAnyH_take (i := 16) (v := ?_) (take_list rfl) (by kernel_rfl) (by kernel_rfl) (by kernel_rfl) (fun _ _ _ h => h) (Or.inl ⟨by rfl, ?_⟩) (by assumption) ?_
                  rotate_left
                  · intro w hSw
                    try dsimp only at hSw
                    first | (go_simp; done) | (go_simp; with_reducible rfl)
                  try simp only [Act.put, List.setIfInBounds_toArray, List.set_cons_zero, List.set_cons_succ]
                  refine wpAnyH_take (i := 17) (v := ?_) (take_list rfl) (by kernel_rfl) (by kernel_rfl) (by kernel_rfl) (fun _ _ _ h => h) (Or.inl ⟨by rfl, ?_⟩) (by assumption) ?_
                  rotate_left
                  · intro w hSw
                    try dsimp only at hSw
                    first | (go_simp; done) | (go_simp; with_reducible rfl)
                  try simp only [Act.put, List.setIfInBounds_toArray, List.set_cons_zero, List.set_cons_succ]
                  refine wpAnyH_take (i := 18) (v := ?_) (take_list rfl) (by kernel_rfl) (by kernel_rfl) (by kernel_rfl) (fun _ _ _ h => h) (Or.inl ⟨by rfl, ?_⟩) (by assumption) ?_
                  rotate_left
                  · intro w hSw
                    try dsimp only at hSw
                    first | (go_simp; done) | (go_simp; with_reducible rfl)
                  try simp only [Act.put, List.setIfInBounds_toArray, List.set_cons_zero, List.set_cons_succ]
                  refine wpAnyH_take (i := 19) (v := ?_) (take_list rfl) (by kernel_rfl) (by kernel_rfl) (by kernel_rfl) (fun _ _ _ h => h) (Or.inl ⟨by rfl, ?_⟩) (by assumption) ?_
                  rotate_left
                  · intro w hSw
                    try dsimp only at hSw
                    first | (go_simp; done) | (go_simp; with_reducible rfl)
                  try simp only [Act.put, List.setIfInBounds_toArray, List.set_cons_zero, List.set_cons_succ]
                  refine wpAnyH_take (i := 20) (v := ?_) (take_list rfl) (by kernel_rfl) (by kernel_rfl) (by kernel_rfl) (fun _ _ _ h => h) (Or.inl ⟨by rfl, ?_⟩) (by assumption) ?_
                  rotate_left
                  · intro w hSw
                    try dsimp only at hSw
                    first | (go_simp; done) | (go_simp; with_reducible rfl)
                  try simp only [Act.put, List.setIfInBounds_toArray, List.set_cons_zero, List.set_cons_succ]
                  refine wpAnyH_take (i := 21) (v := ?_) (take_list rfl) (by kernel_rfl) (by kernel_rfl) (by kernel_rfl) (fun _ _ _ h => h) (Or.inl ⟨by rfl, ?_⟩) (by assumption) ?_
                  rotate_left
                  · intro w hSw
                    try dsimp only at hSw
                    first | (go_simp; done) | (go_simp; with_reducible rfl)
                  try simp only [Act.put, List.setIfInBounds_toArray, List.set_cons_zero, List.set_cons_succ]
                  refine wpAnyH_take (i := 22) (v := ?_) (take_list rfl) (by kernel_rfl) (by kernel_rfl) (by kernel_rfl) (fun _ _ _ h => h) (Or.inl ⟨by rfl, ?_⟩) (by assumption) ?_
                  rotate_left
                  · intro w hSw
                    try dsimp only at hSw
                    first | (go_simp; done) | (go_simp; with_reducible rfl)
                  try simp only [Act.put, List.setIfInBounds_toArray, List.set_cons_zero, List.set_cons_succ]
                  refine wpAnyH_take (i := 23) (v := ?_) (take_list rfl) (by kernel_rfl) (by kernel_rfl) (by kernel_rfl) (fun _ _ _ h => h) (Or.inl ⟨by rfl, ?_⟩) (by assumption) ?_
                  rotate_left
                  · intro w hSw
                    try dsimp only at hSw
                    first | (go_simp; done) | (go_simp; with_reducible rfl)
                  try simp only [Act.put, List.setIfInBounds_toArray, List.set_cons_zero, List.set_cons_succ]
                  refine wpAnyH_take (i := 24) (v := ?_) (take_list rfl) (by kernel_rfl) (by kernel_rfl) (by kernel_rfl) (fun _ _ _ h => h) (Or.inl ⟨by rfl, ?_⟩) (by assumption) ?_
                  rotate_left
                  · intro w hSw
                    try dsimp only at hSw
                    first | (go_simp; done) | (go_simp; with_reducible rfl)
                  try simp only [Act.put, List.setIfInBounds_toArray, List.set_cons_zero, List.set_cons_succ]
                  refine wpAnyH_take (i := 25) (v := undef) (take_list rfl) (by kernel_rfl) (by kernel_rfl) (by kernel_rfl) (fun _ _ _ h => h) (Or.inr ⟨by rfl, rfl⟩) (by assumption) ?_
                  try simp only [Act.put, List.setIfInBounds_toArray, List.set_cons_zero, List.set_cons_succ]
                  refine wpAnyH_take (i := 26) (v := undef) (take_list rfl) (by kernel_rfl) (by kernel_rfl) (by kernel_rfl) (fun _ _ _ h => h) (Or.inr ⟨by rfl, rfl⟩) (by assumption) ?_
                  try simp only [Act.put, List.setIfInBounds_toArray, List.set_cons_zero, List.set_cons_succ]
                  refine wpAnyH_take (i := 27) (v := undef) (take_list rfl) (by kernel_rfl) (by kernel_rfl) (by kernel_rfl) (fun _ _ _ h => h) (Or.inr ⟨by rfl, rfl⟩) (by assumption) ?_
                  try simp only [Act.put, List.setIfInBounds_toArray, List.set_cons_zero, List.set_cons_succ]
                  refine wpAnyH_take (i := 28) (v := undef) (take_list rfl) (by kernel_rfl) (by kernel_rfl) (by kernel_rfl) (fun _ _ _ h => h) (Or.inr ⟨by rfl, rfl⟩) (by assumption) ?_
                  try simp only [Act.put, List.setIfInBounds_toArray, List.set_cons_zero, List.set_cons_succ]
                  refine wpAnyH_take (i := 29) (v := undef) (take_list rfl) (by kernel_rfl) (by kernel_rfl) (by kernel_rfl) (fun _ _ _ h => h) (Or.inr ⟨by rfl, rfl⟩) (by assumption) ?_
                  try simp only [Act.put, List.setIfInBounds_toArray, List.set_cons_zero, List.set_cons_succ]
                  refine wpAnyH_take (i := 30) (v := undef) (take_list rfl) (by kernel_rfl) (by kernel_rfl) (by kernel_rfl) (fun _ _ _ h => h) (Or.inr ⟨by rfl, rfl⟩) (by assumption) ?_
                  try simp only [Act.put, List.setIfInBounds_toArray, List.set_cons_zero, List.set_cons_succ]
                  refine wpAnyH_take (i := 31) (v := undef) (take_list rfl) (by kernel_rfl) (by kernel_rfl) (by kernel_rfl) (fun _ _ _ h => h) (Or.inr ⟨by rfl, rfl⟩) (by assumption) ?_
                  try simp only [Act.put, List.setIfInBounds_toArray, List.set_cons_zero, List.set_cons_succ]
                  refine wpAnyH_take (i := 32) (v := undef) (take_list rfl) (by kernel_rfl) (by kernel_rfl) (by kernel_rfl) (fun _ _ _ h => h) (Or.inr ⟨by rfl, rfl⟩) (by assumption) ?_
                  try simp only [Act.put, List.setIfInBounds_toArray, List.set_cons_zero, List.set_cons_succ]
                  refine wpAnyH_take (i := 33) (v := ?_) (take_list rfl) (by kernel_rfl) (by kernel_rfl) (by kernel_rfl) (fun _ _ _ h => h) (Or.inl ⟨by rfl, ?_⟩) (by assumption) ?_
                  rotate_left
                  · intro w hSw
                    try dsimp only at hSw
                    first | (go_simp; done) | (go_simp; with_reducible rfl)
                  try simp only [Act.put, List.setIfInBounds_toArray, List.set_cons_zero, List.set_cons_succ]
                  refine wpAnyH_take (i := 34) (v := ?_) (take_list rfl) (by kernel_rfl) (by kernel_rfl) (by kernel_rfl) (fun _ _ _ h => h) (Or.inl ⟨by rfl, ?_⟩) (by assumption) ?_
                  rotate_left
                  · intro w hSw
                    try dsimp only at hSw
                    first | (go_simp; done) | (go_simp; with_reducible rfl)
                  try simp only [Act.put, List.setIfInBounds_toArray, List.set_cons_zero, List.set_cons_succ]
                  refine wpAnyH_done (by kernel_rfl) ?_ _
                  go_wp2
                  go_roundw
                  case rel => exact ⟨i + 1, by omega, by go_num, Lib.hid (ext_trans Hb.out (ext_trans Hbc.out (by repeat (first | exact hbx | apply ext_alloc | apply ext_drew | apply ext_drewN | exact Below.refl _ _))))⟩
                  case measure => simp [intOf]; omega
                exact AllReadyH.nil
        · obtain rfl : i = 4 := by omega
          have HK := Lib.hid (known8_any wr (Ht.out.ext (ext_trans Hb6.out Hb.out)))
          go_wp2_with fail
          refine HK.out.mono ?_
          rintro e wa ⟨rfl, hba⟩
          go_wp2
          go_ret
          exact ⟨rfl, ext_trans Hb1.out (ext_trans Hb6.out (ext_trans Hb.out hba))⟩
    exact AllReadyH.nil
  exact AllReadyH.nil
end Go.Proofs.YtgknlegomoaoeaaDoor
