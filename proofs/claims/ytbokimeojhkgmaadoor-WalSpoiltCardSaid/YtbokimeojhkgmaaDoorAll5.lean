/-
  Texts of this claim, joined (part 5): contracts and lemmas that the last text goes by. No statement of the seat is proved here.
-/
import Derived.Test.YtbokimeojhkgmaaDoorAll4
set_option linter.unusedVariables false
set_option linter.unusedSimpArgs false
/-
  WalSpoilt's walk. No statement of the seat is proved in the part ahead of its closing.
-/
namespace Go.Proofs.YtbokimeojhkgmaaDoor
open Go Go.RowKit
set_option maxRecDepth 100000

theorem mask20 (v : Int) : ∃ m : Nat, bits .and .i64 v 1048575 = (m : Int) ∧ m ≤ 1048575 := by
  have hx : (BitVec.ofInt 64 v &&& BitVec.ofInt 64 1048575).toNat ≤ 1048575 := by
    rw [BitVec.toNat_and]
    exact Nat.le_trans Nat.and_le_right (by decide)
  have h : bits .and .i64 v 1048575 = ((BitVec.ofInt 64 v &&& BitVec.ofInt 64 1048575).toNat : Int) := by
    show IntKind.i64.wrap ((BitVec.ofInt 64 v &&& BitVec.ofInt 64 1048575).toNat : Int) = _
    rw [IntKind.wrap_i64]; omega
  exact ⟨_, h, hx⟩
/-- a byte of a row of the call's own is turned -/
theorem new_put {w w' : World} {A : Option Addr} {c : Nat} {bs : List UInt8} (h : New w w' A c bs) {k : Nat} (hk : k < bs.length) :
    ∃ g, A = some ⟨g, 0, none⟩ ∧ w.heap.size ≤ g ∧ w'.cell? ⟨g, k, none⟩ = some (bv bs[k]) ∧ w'.frozen? ⟨g, k, none⟩ = false ∧ ∀ v : UInt8, Rd (w'.setCell ⟨g, k, none⟩ (bv v)) (some ⟨g, 0, none⟩) ((bs.set k v).map bv) := by
  have hrd := h.rd
  rcases h.1.2 with ⟨_, h0⟩ | ⟨g, cap, cur, h1, _, hb, hc, _, hs, htk⟩
  · exfalso
    have h2 : bs = [] := by simpa using h0
    rw [h2] at hk
    simp at hk
  · injection h1 with a1 a2 a3
    subst a1
    have hblk : Blk w' g 5 cur := hb
    have hat : ∀ j u, (bs.map bv)[j]? = some u → cur[j]? = some u := fun j u hu => by
      obtain ⟨ad, e, hcell⟩ := hrd j u hu
      injection e with e
      subst e
      rw [Addr.add_mid, Nat.zero_add, hblk.cell] at hcell
      exact hcell
    have hk1 : (bs.map bv)[k]? = some (bv bs[k]) := by simp [hk]
    have hkc : k < cur.size := by
      have := hat k _ hk1
      exact (Array.getElem?_eq_some_iff.1 this).1
    refine ⟨g, rfl, (h.2 _ rfl).1, by rw [hblk.cell]; exact hat k _ hk1, hblk.free _, fun v j u hu => ⟨_, rfl, ?_⟩⟩
    rw [Addr.add_mid, Nat.zero_add, (hblk.put k (bv v)).cell]
    rw [List.getElem?_map, List.getElem?_set] at hu
    by_cases hj : k = j
    · subst hj
      rw [if_pos rfl, if_pos hk] at hu
      simp [hkc] at hu ⊢
      exact hu
    · rw [if_neg hj, ← List.getElem?_map] at hu
      rw [Array.getElem?_setIfInBounds, if_neg hj]
      exact hat j u hu
theorem xor_turns (x : UInt8) (y : Int) (h0 : 0 ≤ y) (h1 : y ≤ 255) (hy : y ≠ 0) : ∃ z : UInt8, bits .xor .u8 (x.toNat : Int) y = (z.toNat : Int) ∧ x ≠ z := by
  obtain ⟨n, rfl⟩ : ∃ n : Nat, y = n := ⟨y.toNat, by omega⟩
  have hx := x.toNat_lt
  have hxor := u8_xor_nat x.toNat n (by omega) (by omega)
  have hlt : x.toNat ^^^ n < 256 := Nat.xor_lt_two_pow (n := 8) (by omega) (by omega)
  have hne : x.toNat ^^^ n ≠ x.toNat := fun e => by
    have e3 : x.toNat ^^^ n = x.toNat ^^^ 0 := by rw [e, Nat.xor_zero]
    have := xor_right_cancel e3
    omega
  generalize x.toNat ^^^ n = q at *
  have e2 : q.toUInt8.toNat = q := by simp [Nat.toUInt8, UInt8.toNat_ofNat']; omega
  refine ⟨q.toUInt8, by rw [hxor, e2], fun he => hne ?_⟩
  have e := congrArg UInt8.toNat he
  rw [e2] at e
  exact e.symm
namespace WalSpoilt
set_option maxHeartbeats 4000000 in
theorem spoilt_any (b : Bt) (B : Option Addr) (c : Nat) (at_ y : Int) (hy : 0 ≤ y ∧ y ≤ 255) (w : World) (ht : Tab w) (h : isInt b.first ∧ b.lines.length ≤ c ∧ c ≤ maxLen ∧ (B = none → c = 0) ∧ Rd w B (b.lines.map strV)) (hz : ∀ n ∈ lensB b, n ≤ 140737488355328) :
    Calls Tryd.prog 8 #[btV b B c, .int .i64 at_, .int .u8 y] w fun e w' => e = .returned (.bool true) ∧ Below w.heap.size w w' := by
  obtain ⟨w1, hw1⟩ : ∃ w1, w1 = w.alloc (.cells #[.int .i64 b.first, .slice B b.lines.length c] 24) := ⟨_, rfl⟩
  have hb1 : Below w.heap.size w w1 := by rw [hw1]; exact (Below.refl _ _).alloc (Nat.le_refl _) _
  have hB1 : Blk w1 w.heap.size 24 #[.int .i64 b.first, .slice B b.lines.length c] := by rw [hw1]; exact Blk.new _ _ _
  obtain ⟨w2, hw2⟩ : ∃ w2, w2 = w1.alloc (.cells #[.int .i64 b.first, .slice B b.lines.length c] 24) := ⟨_, rfl⟩
  have hb2 : Below w.heap.size w w2 := by rw [hw2]; exact ext_alloc hb1 _
  have hB2 : Blk w2 w.heap.size 24 #[.int .i64 b.first, .slice B b.lines.length c] := by rw [hw2]; exact hB1.alloc _
  have hN2 : Blk w2 w1.heap.size 24 #[.int .i64 b.first, .slice B b.lines.length c] := by rw [hw2]; exact Blk.new _ _ _
  have h2 : isInt b.first ∧ b.lines.length ≤ c ∧ c ≤ maxLen ∧ (B = none → c = 0) ∧ Rd w2 B (b.lines.map strV) := ⟨h.1, h.2.1, h.2.2.1, h.2.2.2.1, h.2.2.2.2.ext hb2⟩
  have HL := Lib.hid (long1b_any h2 hz hN2)
  have hs1 : w1.heap.size = w.heap.size + 1 := by rw [hw1, World.size_alloc]
  rw [hs1] at HL
  have HI := Lib.hid (BtIn.of h hz)
  have HB2 := Lib.hid hB2
  have Hb2 := Lib.hid hb2
  have Hw1 := Lib.hid hw1
  have Hw2 := Lib.hid hw2
  have Ht := Lib.hid ht
  have HS := Lib.hid (is20_any b B c w2 (HI.out.ext hb2))
  have h0 := hB1.cell 0
  have h1 := hB1.cell 1
  have k0 := hB2.cell 0
  have k1 := hB2.cell 1
  simp only [List.getElem?_toArray, List.getElem?_cons_zero, List.getElem?_cons_succ] at h0 h1 k0 k1
  rw [hw1] at h0 h1
  unfold btV at HS ⊢
  generalize decide (9000 < cntL b.lines) = v at *
  clear h h2 hz hb1 hb2 hB1 hB2 hN2 hw1 hw2 ht hs1
  go_enter Tryd.func8, Tryd.ntmps8
  go_wp2_with fail
  rw [← Hw1.out, ← Hw2.out]
  refine HL.out.mono ?_
  rintro e w' ⟨rfl, rfl⟩
  clear h0 h1 HL
  cases v with
  | true =>
    go_wp2
    go_ret
    exact ⟨rfl, Hb2.out⟩
  | false =>
    go_wp2_with fail
    refine HS.out.mono ?_
    rintro e w3 ⟨rfl, hb3⟩
    have HB3 := Lib.hid (HB2.out.ext hb3)
    have Hb3 := Lib.hid (ext_trans Hb2.out hb3)
    clear hb3 k0 k1 HS
    cases hi : isB b with
    | false =>
      clear hi
      go_wp2
      go_ret
      exact ⟨rfl, Hb3.out⟩
    | true =>
      have HL := Lib.hid (encB_len hi)
      have HE := Lib.hid (encode_any b B c w3 (Ht.out.ext Hb3.out) (HI.out.ext Hb3.out))
      rw [show encR b = (encB b, 0) by unfold encR; rw [hi]; rfl] at HE
      have Hcut := Lib.hid (fun k hk => cut_none hi (k := k) hk)
      have Hspo := Lib.hid (fun j hj c hc => spoilt_none hi (j := j) hj (c := c) hc)
      have Hpos : Hid (0 < (encB b).length) := Lib.hid (by unfold encB; rw [sealB_length]; omega)
      by_cases hy0 : y = 0
      · subst hy0
        clear hi
        go_wp2
        go_ret
        exact ⟨rfl, Hb3.out⟩
      have hyb : (y == 0) = false := beq_eq_false_iff_ne.2 hy0
      have Hy0 := Lib.hid hy0
      simp only at HE
      unfold btV at HE
      clear hi hy0
      have h0 := HB3.out.cell 0
      have h1 := HB3.out.cell 1
      simp only [List.getElem?_toArray, List.getElem?_cons_zero, List.getElem?_cons_succ] at h0 h1
      obtain ⟨m, hm, hm2⟩ := mask20 at_
      generalize encB b = p at *
      have hpos := Hpos.out
      have hlen := HL.out
      obtain ⟨K, hK⟩ : ∃ K, m % p.length = K := ⟨_, rfl⟩
      have hKl : K < p.length := by rw [← hK]; exact Nat.mod_lt _ hpos
      have hKi : (m : Int) % (p.length : Int) = (K : Int) := by rw [← hK]; rfl
      have hKt : (m : Int).tmod (p.length : Int) = (K : Int) := by rw [← hKi]; exact Int.tmod_eq_emod_of_nonneg (by omega)
      have hl0 : ((p.length : Int) == 0) = false := beq_eq_false_iff_ne.2 (by omega)
      have hl1 : (0 : Int) < (p.length : Int) := by omega
      have hl2 : (p.length : Int) ≤ 20000 := by omega
      have hm3 : (m : Int) ≤ 1048575 := by omega
      have HKl := Lib.hid hKl
      clear hK hKl hm2
      go_wp2_with fail
      refine HE.out.mono ?_
      rintro e w4 ⟨A4, c4, rfl, hn4, hb4⟩
      have Hn4 := Lib.hid hn4
      have Hb4 := Lib.hid (ext_trans Hb3.out hb4)
      have hKc : (K : Int) ≤ (c4 : Int) := by have := hn4.cap; simp at this; have := HKl.out; omega
      have hKp : (K : Int) < (p.length : Int) := by have := HKl.out; omega
      have HD1 := Lib.hid (decode_any (p.take K) A4 c4 w4 (Ht.out.ext Hb4.out) (by rw [List.map_take]; exact hn4.rd.take K) (by rw [List.length_take]; omega) (by rw [List.length_take]; omega))
      rw [Hcut.out K HKl.out, show (p.take K).length = K by rw [List.length_take]; have := HKl.out; omega] at HD1
      simp only at HD1
      unfold btV at HD1
      clear h0 h1 hn4 hb4 HE hpos hlen
      go_wp2_with fail
      refine HD1.out.mono ?_
      rintro e w5 ⟨B5, c5, rfl, hin5, hb5⟩
      have hX := (Below.refl w5.heap.size w5).alloc (Nat.le_refl _) (.cells #[.int .i64 0, .slice B5 0 c5] 24)
      have hn5 := (Hn4.out.ext hb5).ext hX
      obtain ⟨g, hg, hgw, hcell, hfr, hput⟩ := new_put hn5 HKl.out
      subst hg
      obtain ⟨z, hz1, hz2⟩ := xor_turns p[K] y hy.1 hy.2 Hy0.out
      have Hz2 := Lib.hid (Hspo.out K HKl.out z hz2)
      have Hb6 := Lib.hid (ext_trans (ext_trans Hb4.out hb5) hX)
      have Hb7 : Hid (Below w.heap.size w ((w5.alloc (.cells #[.int .i64 0, .slice B5 0 c5] 24)).setCell ⟨g, K, none⟩ (bv z))) := Lib.hid (below_set Hb6.out (Nat.le_trans Hb3.out.size hgw) _)
      have HD2 := Lib.hid (decode_any (p.set K z) (some ⟨g, 0, none⟩) c4 _ (Ht.out.ext Hb7.out) (hput z) (by have := hn5.cap; simpa using this) (by rw [List.length_set]; have := HL.out; omega))
      rw [Hz2.out, List.length_set] at HD2
      simp only at HD2
      unfold btV bv at HD2
      unfold bv at hcell Hb7
      clear hput hz2 hgw hn5 hb5 hin5 hX Hz2
      generalize p[K] = x at *
      go_wp2_with fail
      refine HD2.out.mono ?_
      rintro e w8 ⟨B8, c8, rfl, hin8, hb8⟩
      have hX := Blk.new w8 24 #[.int .i64 0, .slice B8 0 c8]
      have a1 := hX.cell 1
      simp only [List.getElem?_toArray, List.getElem?_cons_zero, List.getElem?_cons_succ] at a1
      have Hb9 : Hid (Below w.heap.size w (w8.alloc (.cells #[.int .i64 0, .slice B8 0 c8] 24))) := Lib.hid (ext_alloc (ext_trans Hb7.out hb8) _)
      clear hX hin8 hb8
      go_wp2_with fail
      refine (known20_any _).mono ?_
      rintro e w10 ⟨rfl, hb⟩
      have Hb10 := Lib.hid (ext_trans Hb9.out hb)
      clear hb
      go_wp2
      go_ret
      exact ⟨rfl, Hb10.out⟩
end WalSpoilt
end Go.Proofs.YtbokimeojhkgmaaDoor
