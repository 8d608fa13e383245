/-
  Texts of this claim, joined (part 3): contracts and lemmas that the last text goes by. No statement of the seat is proved here.
-/
import Derived.Test.YtpjgkacekelkdaaDoorAll2
import Derived.Test.YtpjgkacekelkdaaDoorAll1
import Derived.Test.YtpjgkacekelkdaaDoorAll0
import Derived.Shelf.Bits.Mul64
import Derived.Ground.Names2Prog
import Derived.Test.YtpjgkacekelkdaaDoorProg
import Derived.Lib.SlicesCompact
import Derived.Shelf.Sort.Plain
import Derived.Shelf.Slices.In.SortNone
import Derived.Shelf.Spec.SearchS
import Derived.Shelf.Slices.CompactS
import Derived.Ground.NamesProg
import Derived.Laws.IdiomStrings
set_option linter.unusedVariables false
set_option linter.unusedSimpArgs false
/-
  DERIVED: THE SHELF's CONTRACTS AT THIS DUMP, IN PLAIN WORDS (tools/lay-plain.mjs out of 'YtpjgkacekelkdaaDoorShelfP0.lean', which tools/lay-shelf.mjs wrote): THE SAME DECLARATIONS UNDER THE SAME NAMES: 'import', 'namespace', 'open', 'def', 'theorem' AND NOTHING ELSE: no command of the shelf's: FOR A HAND-IN. Each laying: the table of numbers ('.._ren') and one theorem, a field a fact of the dump's own or the kernel's comparison; each contract: ONE APPLICATION.
-/
namespace Go.Proofs
open Go.Shelf
def Tryd.layMul_ren : Go.Shelf.Ren := ⟨fun | 212 => 82 | 263 => 94 | 264 => 95 | n => n, fun | 46 => 87 | 51 => 84 | 146 => 136 | 53 => 135 | 148 => 138 | n => n, fun | n => n⟩
theorem Tryd.layMul : Go.Proofs.Lays.n212 Tryd.prog Tryd.layMul_ren := {
  mixed := by kernel_rfl
  f212 := Tryd.func82.trans (congrArg some (by kernel_rfl))
  f263 := Tryd.func94.trans (congrArg some (by kernel_rfl))
  f264 := Tryd.func95.trans (congrArg some (by kernel_rfl))
  t46 := Tryd.underlying87
  a46 := Tryd.isAgg87
  z46 := Tryd.sizeOf87
  v46 := Tryd.zeroValue87
  t51 := Tryd.underlying84
  a51 := Tryd.isAgg84
  z51 := Tryd.sizeOf84
  v51 := Tryd.zeroValue84
  t53 := Tryd.underlying135
  a53 := Tryd.isAgg135
  z53 := Tryd.sizeOf135
  v53 := Tryd.zeroValue135
  t146 := Tryd.underlying136
  a146 := Tryd.isAgg136
  z146 := Tryd.sizeOf136
  v146 := Tryd.zeroValue136
  t148 := Tryd.underlying138
  a148 := Tryd.isAgg138
  z148 := Tryd.sizeOf138
  v148 := Tryd.zeroValue138 }
end Go.Proofs

/-
  Nums at two places; a number many times (program). No statement of the seat is proved here.
-/
namespace Go.Proofs.YtpjgkacekelkdaaDoor
open Go Go.RowKit
set_option maxRecDepth 100000

set_option maxHeartbeats 4000000 in
theorem rnums_two (fp : Nat → Prop) (g ga gl : Nat) (n c : Nat) (x y : Int) (bs : List UInt8) (w : World) (h : Rdr w fp g bs false) (hb : bs.length ≤ 1099511627776) (hn : n = 2)
    (hl : Blk w gl 117 #[.pointer (some ⟨ga, 0, none⟩), .pointer (some ⟨ga, 1, none⟩)]) (ha : Blk w ga 115 #[.int .i64 x, .int .i64 y]) (hfa : ¬ fp ga) (hfl : ¬ fp gl) :
    Calls Tryd.prog 74 #[.pointer (some ⟨g, 0, none⟩), .slice (some ⟨gl, 0, none⟩) n c] w fun e w' => e = .returned (.tuple #[]) ∧ Rdr w' fp g (stTwo bs).2.1 (stTwo bs).2.2 ∧
      Blk w' ga 115 #[.int .i64 ((stTwo bs).1.1 : Int), .int .i64 ((stTwo bs).1.2 : Int)] ∧ Only (fun k => k = g ∨ k = ga) w w' := by
  subst hn
  have hg := h.1
  have hag : ga ≠ g := fun e => hfa (e ▸ hg)
  have hlg : gl ≠ g := fun e => hfl (e ▸ hg)
  have hla : gl ≠ ga := fun e => by
    subst e; unfold Blk at hl ha; rw [hl] at ha; injection ha with ha; injection ha with _ ht; exact absurd ht (by decide)
  have l0 := hl.cell 0
  simp only [List.getElem?_toArray, List.getElem?_cons_zero] at l0
  have b1 := stNum_len bs false
  have E2 : stTwo bs = (((stNum bs false).1, (stNum (stNum bs false).2.1 (stNum bs false).2.2).1), (stNum (stNum bs false).2.1 (stNum bs false).2.2).2) := rfl
  rw [E2]
  clear E2
  go_enter Tryd.func74, Tryd.ntmps74
  go_wp2
  refine wp_loop_rounds 3 ?_
  rw [rounds_succ]
  go_wp2_with fail
  refine (rnum_st fp g bs false _ h hb).mono ?_
  rintro e w1 ⟨rfl, h1, o1⟩
  have ha1 := ha.only o1 hag
  have a1 := ha1.cell 0
  have af1 := ha1.free 0
  simp only [List.getElem?_toArray, List.getElem?_cons_zero] at a1
  have hl1 := hl.only o1 hlg
  go_wp2
  have ho1 : Only (fun k => k = g ∨ k = ga) w (w1.setCell ⟨ga, 0, none⟩ (.int .i64 ((stNum bs false).1 : Int))) := (o1.mono (fun i _ hi => .inl hi)).setCell (p := ⟨ga, 0, none⟩) (.inl (.inr rfl)) _
  have h1' : Rdr (w1.setCell ⟨ga, 0, none⟩ (.int .i64 ((stNum bs false).1 : Int))) fp g (stNum bs false).2.1 (stNum bs false).2.2 := h1.only ((Only.refl (fun k => k = ga) w1).setCell (p := ⟨ga, 0, none⟩) (.inl rfl) _) (fun k hk e => hfa (e ▸ hk))
  have ha2 : Blk (w1.setCell ⟨ga, 0, none⟩ (.int .i64 ((stNum bs false).1 : Int))) ga 115 #[.int .i64 ((stNum bs false).1 : Int), .int .i64 y] := ha1.put 0 _
  have hl2 := hl1.far (p := ⟨ga, 0, none⟩) hla (.int .i64 ((stNum bs false).1 : Int))
  clear h1 ha1 hl1 a1 af1 o1 l0
  generalize w1.setCell ⟨ga, 0, none⟩ (.int .i64 ((stNum bs false).1 : Int)) = w2 at *
  have l1 := hl2.cell 1
  simp only [List.getElem?_toArray, List.getElem?_cons_zero, List.getElem?_cons_succ] at l1
  rw [rounds_succ]
  go_wp2_with fail
  refine (rnum_st fp g _ _ _ h1' (by omega)).mono ?_
  rintro e w3 ⟨rfl, h3, o3⟩
  have ho3 := ho1.trans o3 (fun i _ hi => .inl hi)
  have ha3 := ha2.only o3 hag
  have a3 := ha3.cell 1
  have af3 := ha3.free 1
  simp only [List.getElem?_toArray, List.getElem?_cons_zero, List.getElem?_cons_succ] at a3
  clear l1 h1' ho1 ha2 hl2 o3
  go_wp2
  rw [rounds_succ]
  go_wp2
  go_end0
  refine ⟨rfl, h3.only ((Only.refl (fun k => k = ga) w3).setCell (p := ⟨ga, 1, none⟩) (.inl rfl) _) (fun k hk e => hfa (e ▸ hk)), ha3.put 1 _, ho3.setCell (p := ⟨ga, 1, none⟩) (.inl (.inr rfl)) _⟩

/-! ### a number many times -/
theorem make_ints (W : World) (t : Nat) (h : t ≤ 1000000) : (Instr.makeSlice 49 (.int .i64 (t : Int)) (.int .i64 (t : Int))).run Tryd.prog W =
    .ok (.slice (some ⟨W.heap.size, 0, none⟩) t t) (W.alloc (.cells (madeCells #[.int .i64 0] (t * 1)) 3)) := by
  obtain ⟨i, hi, hz, hsz, hby⟩ := info_parts info_int
  have hr := run_make (P := Tryd.prog) W 49 3 i _ Tryd.underlying49 hi hz .i64 .i64 ((t : Nat) : Int) t (by omega) (by omega) (by rw [hby]; omega) (by omega)
  simp only [Int.toNat_natCast, hsz] at hr
  exact hr
def repR (n k : Nat) (x : Int) : List Value := List.replicate k (iv x) ++ List.replicate (n - k) (iv 0)
theorem repR_len (n k : Nat) (x : Int) (h : k ≤ n) : (repR n k x).length = n := by simp [repR]; omega
theorem repR_all (n : Nat) (x : Int) : repR n n x = List.replicate n (iv x) := by simp [repR]
theorem repR_spl (n k m : Nat) (x : Int) (h : k + m ≤ n) : spl (repR n k x) k (List.replicate m (iv x)) = repR n (k + m) x := by
  unfold spl repR
  rw [List.length_replicate, List.take_left' (by simp), List.drop_append, List.length_replicate, List.drop_of_length_le (by simp), List.nil_append, List.drop_replicate, ← List.append_assoc, List.replicate_append_replicate]
  congr 2
  omega
theorem repR_at (n k j : Nat) (x : Int) (h : j < k) : (repR n k x)[j]? = some (iv x) := by
  unfold repR
  rw [List.getElem?_append_left (by simpa using h), List.getElem?_replicate, if_pos h]
theorem slice_if {n k G : Nat} (h : ¬ n = k) : Value.slice (if n = k then some ⟨G, 0, none⟩ else some ⟨G, k, none⟩) (n - k) (n - k) = .slice (some ⟨G, k, none⟩) (n - k) (n - k) := by rw [if_neg h]
theorem size_int : (Tryd.prog.info? 3).map (·.size) = some 1 := by kernel_rfl
theorem rep_one (m : Nat) (x : Int) : ∀ v ∈ List.replicate m (iv x), v.oneCell' = true := by
  intro v hv
  rw [List.eq_of_mem_replicate hv]
  rfl
theorem row_made (W : World) (n : Nat) (x : Int) (h : n ≤ 1000000) : RowO (W.alloc (.cells (madeCells #[.int .i64 0] n) 3)) 3 1 (some ⟨W.heap.size, 0, none⟩) n n (repR n 0 x) := by
  have e : (madeCells #[.int .i64 0] n).toList = repR n 0 x := by
    refine List.ext_getElem (by simp [madeCells, repR]) fun j h1 h2 => ?_
    simp [madeCells, repR, iv, Nat.mod_one]
  rw [← e]
  exact RowO.lit W 3 1 n _ (by simp [madeCells]) (by unfold maxLen; omega) rfl

set_option maxHeartbeats 4000000 in
theorem repeat_any (x : Int) (ad : Addr) (c n : Nat) (w : World) (hx : w.cell? ad = some (.int .i64 x)) (hn : n ≤ 1000000) :
    Calls Tryd.prog 75 #[.slice (some ad) 1 c, .int .i64 (n : Int)] w fun e w' => ∃ G c', e = .returned (.slice (some ⟨G, 0, none⟩) n c') ∧ RowO w' 3 1 (some ⟨G, 0, none⟩) n c' (List.replicate n (iv x)) ∧ w.heap.size ≤ G ∧ Below w.heap.size w w' := by
  have hni : (n : Int) ≤ 1000000 := by omega
  have HM := Lib.hid (Any.bits_Mul Tryd.layMul 1 n (by omega) (by omega) w)
  have e1 : 1 * n / 18446744073709551616 = 0 := by omega
  have e2 : 1 * n % 18446744073709551616 = n := by omega
  rw [e1, e2] at HM
  have hmk := fun W => make_ints W n hn
  have hwr : IntKind.u64.wrap (n : Int) = (n : Int) := by rw [IntKind.wrap_u64]; omega
  have hwi : IntKind.i64.wrap (n : Int) = (n : Int) := IntWalk.i64_in _ (by omega)
  have Hx := Lib.hid hx
  clear e1 e2 hx
  go_enter Tryd.func75, Tryd.ntmps75
  go_wp2_with fail
  refine HM.out.mono ?_
  rintro e w' ⟨rfl, hw⟩
  have hw := hw.symm
  subst hw
  have HR1 : Hid (RowO (w.alloc (.cells (madeCells #[.int .i64 0] n) 3)) 3 1 (some ⟨w.heap.size, 0, none⟩) n n (repR n 0 x)) := Lib.hid (row_made w n x hn)
  have HX1 : Hid ((w.alloc (.cells (madeCells #[.int .i64 0] n) 3)).cell? ad = some (.int .i64 x)) := Lib.hid (cell_only Hx.out (Only.of_ext (S := fun _ => False) ((Below.refl _ _).alloc (Nat.le_refl _) _)) (fun h => h))
  have HB1 : Hid (Below w.heap.size w (w.alloc (.cells (madeCells #[.int .i64 0] n) 3))) := Lib.hid ((Below.refl _ _).alloc (Nat.le_refl _) _)
  have Hsr : Hid (∀ j v, (List.replicate (min 1 n) (iv x))[j]? = some v → (w.alloc (.cells (madeCells #[.int .i64 0] n) 3)).cell? (ad.add j) = some v) := Lib.hid (fun j v hv => by
    have hj := (List.getElem?_eq_some_iff.1 hv).1
    rw [List.length_replicate] at hj
    obtain rfl : j = 0 := by omega
    rw [List.getElem?_replicate, if_pos hj] at hv
    injection hv with hv
    rw [← hv]
    have hz : ad.add 0 = ad := by simp [Addr.add]
    rw [hz]
    exact HX1.out)
  go_wp2_with (first
               | (refine wpList_copyO rfl (.tmp 31) (.tmp 32) _ _ rfl 3 1 Tryd.underlying49 size_int w.heap.size 0 n n _ HR1.out 0 0 n n rfl rfl ad 1 c (min 1 n) (List.replicate (min 1 n) (iv x)) rfl rfl (by simp) Hsr.out (by omega) (rep_one _ _) ?_
                  intro w2 hr2 ho2)
               | fail)
  rw [Nat.zero_mul, repR_spl n 0 _ x (by omega)] at hr2
  obtain ⟨W1, hW1⟩ : ∃ W1, W1 = w.alloc (.cells (madeCells #[.int .i64 0] n) 3) := ⟨_, rfl⟩
  obtain ⟨G, hG⟩ : ∃ G, w.heap.size = G := ⟨_, rfl⟩
  rw [← hW1] at ho2 HB1
  rw [hG] at hr2 ho2 ⊢
  have HG := Lib.hid hG
  clear hW1 hG HR1 HX1 Hsr
  have HR2 := Lib.hid hr2
  have HO2 := Lib.hid ho2
  clear hr2 ho2 hmk
  go_loopw [8] (fun i wr => ∃ (k : Nat), k ≤ n ∧ (n = 0 ∨ 1 ≤ k) ∧ i = .int .i64 (k : Int) ∧ RowO wr 3 1 (some ⟨G, 0, none⟩) n n (repR n k x) ∧ Only (fun k => k = G) W1 wr) (fun i _ => n - (intOf i).toNat)
  case atStart => exact ⟨0 + min 1 n, by omega, by omega, by simp [goInt], HR2.out, HO2.out⟩
  case round =>
    obtain ⟨k, hk, hk1, rfl, hr, ho⟩ := hrel
    have HR := Lib.hid hr
    have HO := Lib.hid ho
    by_cases hlt : k < n
    · have hki : (k : Int) < (n : Int) := by omega
      have hk0 : 0 < k := by omega
      have Hsrc : Hid (∀ (W : World), RowO W 3 1 (some ⟨G, 0, none⟩) n n (repR n k x) → ∀ j v, (List.replicate (min k (n - k)) (iv x))[j]? = some v → W.cell? ((⟨G, 0, none⟩ : Addr).add j) = some v) := Lib.hid (fun W hW j v hv => by
        have hj := (List.getElem?_eq_some_iff.1 hv).1
        rw [List.length_replicate] at hj
        rw [List.getElem?_replicate, if_pos hj] at hv
        obtain ⟨ad', e, hc⟩ := hW.rd j _ (repR_at n k j x (by omega))
        injection e with e
        subst e
        rw [hc, hv])
      clear hr ho
      go_wp2
      refine wp_region_held_drew (S := fun _ => True) (by kernel_rfl) ?_ (fun hHeld => ?_)
      · all_goals trivial
      refine wpAnyH_take (i := 0) (v := ?_) (take_list rfl) (by kernel_rfl) (by kernel_rfl) (by kernel_rfl) (fun _ _ _ h => h) (Or.inl ⟨by rfl, ?_⟩) (by assumption) ?_
      rotate_left
      · intro w hSw
        try dsimp only at hSw
        first | (go_simp; done) | (go_simp; with_reducible rfl)
      try simp only [Act.put, List.setIfInBounds_toArray, List.set_cons_zero, List.set_cons_succ]
      refine wpAnyH_take (i := 1) (v := ?_) (take_list rfl) (by kernel_rfl) (by kernel_rfl) (by kernel_rfl) (fun _ _ _ h => h) (Or.inl ⟨by rfl, ?_⟩) (by assumption) ?_
      rotate_left
      · intro w hSw
        try dsimp only at hSw
        first | (go_simp; done) | (go_simp; with_reducible rfl)
      try simp only [Act.put, List.setIfInBounds_toArray, List.set_cons_zero, List.set_cons_succ]
      refine wpAnyH_take (i := 2) (v := ?_) (take_list rfl) (by kernel_rfl) (by kernel_rfl) (by kernel_rfl) (fun _ _ _ h => h) (Or.inl ⟨by rfl, ?_⟩) (by assumption) ?_
      rotate_left
      · intro w hSw
        try dsimp only at hSw
        first | (go_simp; done) | (go_simp; with_reducible rfl)
      try simp only [Act.put, List.setIfInBounds_toArray, List.set_cons_zero, List.set_cons_succ]
      refine wpAnyH_take (i := 3) (v := ?_) (take_list rfl) (by kernel_rfl) (by kernel_rfl) (by kernel_rfl) (fun _ _ _ h => h) (Or.inl ⟨by rfl, ?_⟩) (by assumption) ?_
      rotate_left
      · intro w hSw
        try dsimp only at hSw
        first | (go_simp; done) | (go_simp; with_reducible rfl)
      try simp only [Act.put, List.setIfInBounds_toArray, List.set_cons_zero, List.set_cons_succ]
      refine wpAnyH_take (i := 4) (v := ?_) (take_list rfl) (by kernel_rfl) (by kernel_rfl) (by kernel_rfl) (fun _ _ _ h => h) (Or.inl ⟨by rfl, ?_⟩) (by assumption) ?_
      rotate_left
      · intro w hSw
        try dsimp only at hSw
        first | (go_simp; done) | (go_simp; with_reducible rfl)
      try simp only [Act.put, List.setIfInBounds_toArray, List.set_cons_zero, List.set_cons_succ]
      refine wpAnyH_take (i := 5) (v := ?_) (take_list rfl) (by kernel_rfl) (by kernel_rfl) (by kernel_rfl) (fun _ _ _ h => h) (Or.inl ⟨by rfl, ?_⟩) (by assumption) ?_
      rotate_left
      · intro w hSw
        try dsimp only at hSw
        first | (go_simp; done) | (go_simp; with_reducible rfl)
      try simp only [Act.put, List.setIfInBounds_toArray, List.set_cons_zero, List.set_cons_succ]
      refine wpAnyH_take (i := 6) (v := ?_) (take_list rfl) (by kernel_rfl) (by kernel_rfl) (by kernel_rfl) (fun _ _ _ h => h) (Or.inl ⟨by rfl, ?_⟩) (by assumption) ?_
      rotate_left
      · intro w hSw
        try dsimp only at hSw
        first | (go_simp; done) | (go_simp; with_reducible rfl)
      try simp only [Act.put, List.setIfInBounds_toArray, List.set_cons_zero, List.set_cons_succ]
      refine wpAnyH_ready (rs := [7]) (by kernel_rfl) (by simp) ?_
      refine AllReadyH.cons (take_list rfl) (fun K hK => ?_) ?_
      · skip
        refine step_copyO rfl (.tmp 41) (.tmp 44) _ _ rfl 3 1 Tryd.underlying49 size_int G 0 n n _ HR.out.drew k k (n - k) (n - k) (by omega) (slice_if (by omega)) ⟨G, 0, none⟩ k _ (min k (n - k)) (List.replicate (min k (n - k)) (iv x)) rfl rfl (by simp) ?_ (by omega) (rep_one _ _) ?_
        · exact Hsrc.out _ HR.out.drew
        intro w2 hr2 ho2
        refine hK.out _ _ ?_ (fun hHeld => ?_)
        · try dsimp only
          all_goals trivial
        clear hK K
        refine wpAnyH_take (i := 8) (v := ?_) (take_list rfl) (by kernel_rfl) (by kernel_rfl) (by kernel_rfl) (fun _ _ _ h => h) (Or.inl ⟨by rfl, ?_⟩) (by assumption) ?_
        rotate_left
        · intro w hSw
          try dsimp only at hSw
          first | (go_simp; done) | (go_simp; with_reducible rfl)
        try simp only [Act.put, List.setIfInBounds_toArray, List.set_cons_zero, List.set_cons_succ]
        refine wpAnyH_take (i := 9) (v := ?_) (take_list rfl) (by kernel_rfl) (by kernel_rfl) (by kernel_rfl) (fun _ _ _ h => h) (Or.inl ⟨by rfl, ?_⟩) (by assumption) ?_
        rotate_left
        · intro w hSw
          try dsimp only at hSw
          first | (go_simp; done) | (go_simp; with_reducible rfl)
        try simp only [Act.put, List.setIfInBounds_toArray, List.set_cons_zero, List.set_cons_succ]
        refine wpAnyH_done (by kernel_rfl) ?_ _
        rw [Nat.mul_one, repR_spl n k _ x (by omega)] at hr2
        have hwm : IntKind.i64.wrap ((k : Int) + ((min k (n - k) : Nat) : Int)) = ((k + min k (n - k) : Nat) : Int) := by rw [← Int.natCast_add]; exact IntWalk.i64_in _ (by omega)
        have HR2 := Lib.hid hr2
        have HO2 := Lib.hid (HO.out.drew.trans ho2 (fun i _ h => h))
        clear hr2 ho2
        simp only [goInt]
        rw [hwm]
        go_wp2
        go_roundw
        case rel => exact ⟨k + min k (n - k), by omega, by omega, by go_num, HR2.out, HO2.out⟩
        case measure => simp [intOf]; omega
      exact AllReadyH.nil
    · obtain rfl : k = n := by omega
      rw [repR_all] at hr
      clear HR HO
      go_wp2
      go_ret
      exact ⟨G, k, rfl, hr, by have := HG.out; omega, HB1.out.trans (ho.below (fun i hi => by have := HG.out; omega) HB1.out.size)⟩
end Go.Proofs.YtpjgkacekelkdaaDoor

/-
  Numbers of runs; Decode (program). No statement of the seat is proved here.
-/
namespace Go.Proofs.YtpjgkacekelkdaaDoor
open Go Go.RowKit
set_option maxRecDepth 100000

/-- what the loop still takes, with what it has -/
structure Spg (total : List (Nat × Nat)) (L m : Nat) (rs : List (Nat × Nat)) (rest : List UInt8) (bad : Bool) : Prop where
  all : rs ++ (takeQ m rest bad).1 = total
  le : m ≤ 4611686018427387904
  short : rest.length ≤ L
theorem stTwo_len (bs : List UInt8) : (stTwo bs).2.1.length ≤ bs.length := Nat.le_trans (stNum_len (stNum bs false).2.1 (stNum bs false).2.2) (stNum_len bs false)
theorem Spg.step {total : List (Nat × Nat)} {L m : Nat} {rs : List (Nat × Nat)} {rest : List UInt8} (h : Spg total L (m + 1) rs rest false) : Spg total L m (rs ++ [(stTwo rest).1]) (stTwo rest).2.1 (stTwo rest).2.2 := by
  refine ⟨?_, by have := h.le; omega, Nat.le_trans (stTwo_len rest) h.short⟩
  rw [← h.all, takeQ_succ, List.append_assoc]; rfl
theorem Spg.end_ {total : List (Nat × Nat)} {L m : Nat} {rs : List (Nat × Nat)} {rest : List UInt8} {bad : Bool} (h : Spg total L m rs rest bad) (he : m = 0 ∨ bad = true) : rs = total := by
  have h1 := h.all
  rcases he with rfl | rfl
  · rw [takeQ_zero] at h1
    rw [← h1]; exact (List.append_nil _).symm
  · rw [takeQ_bad] at h1
    rw [← h1]; exact (List.append_nil _).symm
theorem pblk_at (w : World) (t : TypeId) (cs : Array Value) {g : Nat} (hg : g = w.heap.size) : Blk (w.alloc (.cells cs t)) g t cs := by subst hg; exact Blk.new w t cs
theorem stTwo_le (bs : List UInt8) : (stTwo bs).1.1 ≤ 4611686018427387904 ∧ (stTwo bs).1.2 ≤ 4611686018427387904 := ⟨stNum_le _ _, stNum_le _ _⟩

set_option maxHeartbeats 8000000 in
theorem spread_any (fp : Nat → Prop) (g : Nat) (bs : List UInt8) (bad : Bool) (w : World) (h : Rdr w fp g bs bad) (hb : bs.length ≤ 1099511627776) :
    Calls Tryd.prog 54 #[.pointer (some ⟨g, 0, none⟩)] w fun e w' => ∃ A' c', e = .returned (.slice A' (spreadB bs bad).length c') ∧ Fr w w' A' c' (spreadB bs bad) ∧ Only (fun k => k = g) w w' := by
  have HT : Hid (spreadB bs bad = spreadP (takeQ (stNum bs bad).1 (stNum bs bad).2.1 (stNum bs bad).2.2).1) := Lib.hid rfl
  generalize spreadB bs bad = T at *
  have hgl : g < w.heap.size := by
    obtain ⟨_, _, _, _, hb, _⟩ := h
    exact hb.lt
  have Hgl := Lib.hid hgl
  obtain ⟨f2, H, Hf2⟩ : ∃ f2 : Nat → Prop, Hid (Rdr w f2 g bs bad) ∧ Hid (∀ k, f2 k → k < w.heap.size) := ⟨fun k => fp k ∧ k < w.heap.size, Lib.hid (h.mono fun _ a b => ⟨a, b⟩), Lib.hid fun _ h => h.2⟩
  have hle := stNum_le bs bad
  have hsl := stNum_len bs bad
  clear h hgl
  go_enter Tryd.func54, Tryd.ntmps54
  go_wp2_with fail
  refine (rnum_st f2 g bs bad w H.out hb).mono ?_
  rintro e w1 ⟨rfl, hr1, ho1⟩
  generalize stNum bs bad = q at *
  obtain ⟨n, bs1, bad1⟩ := q
  simp only at HT hr1 hle hsl ⊢
  have Hr1 := Lib.hid hr1
  have Ho1 := Lib.hid ho1
  have Hle := Lib.hid hle
  have Hbl : Hid (bs1.length ≤ 1099511627776) := Lib.hid (by omega)
  clear hr1 ho1 hsl hb hle
  go_wp2
  go_loopw [3, 4] (fun s i wr => ∃ (m : Nat) (rs : List (Nat × Nat)) (rest : List UInt8) (bd : Bool) (A1 : Option Addr) (c1 : Nat), i = .int .i64 (m : Int) ∧ s = .slice A1 (spreadP rs).length c1 ∧ Hid (Spg (takeQ n bs1 bad1).1 bs1.length m rs rest bd) ∧ Rdr wr f2 g rest bd ∧ Fr w wr A1 c1 (spreadP rs) ∧ Only (fun k => k = g) w wr) (fun _ i _ => (intOf i).toNat)
  case atStart => exact ⟨n, [], bs1, bad1, none, 0, rfl, rfl, Lib.hid ⟨rfl, Hle.out, Nat.le_refl _⟩, Hr1.out, Fr.start _ _, Ho1.out⟩
  case round =>
    obtain ⟨m, rs, rest, bd, A1, c1, rfl, rfl, Hrd, hr, hS, ho⟩ := hrel
    have Hr := Lib.hid hr
    have HS := Lib.hid hS
    have Ho := Lib.hid ho
    clear hr hS ho
    have HEX : Hid ((m = 0 ∨ bd = true) → spreadP rs = T) := Lib.hid (fun he => by rw [HT.out, Hrd.out.end_ he])
    by_cases hm : m = 0
    · subst hm
      have HC := Lib.hid (HEX.out (.inl rfl))
      clear HEX
      go_wp2
      go_ret
      have e := HC.out
      have hS := HS.out
      rw [e] at hS
      exact ⟨A1, c1, by rw [← e]; rfl, hS, Ho.out⟩
    have hmi : (0 : Int) < (m : Int) := by omega
    have hmd : decide ((0 : Int) < (m : Int)) = true := decide_eq_true hmi
    have hmn : decide (0 < m) = true := decide_eq_true (by omega)
    cases bd with
    | true =>
      have HC := Lib.hid (HEX.out (.inr rfl))
      clear HEX hm
      go_wp2_with fail
      refine (rgood _ g rest true wr Hr.out).mono ?_
      rintro e w' ⟨rfl, rfl⟩
      go_wp2
      go_ret
      have e := HC.out
      have hS := HS.out
      rw [e] at hS
      exact ⟨A1, c1, by rw [← e]; rfl, hS, Ho.out⟩
    | false =>
      clear HEX
      obtain ⟨k, hk⟩ : ∃ k, m = k + 1 := ⟨m - 1, by omega⟩
      have hk1 : IntKind.i64.wrap ((m : Int) - 1) = (k : Int) := by rw [show (m : Int) - 1 = (k : Int) by omega]; exact IntWalk.i64_in _ (by have := Hrd.out.le; omega)
      have HRs := Lib.hid (Spg.step (by rw [← hk]; exact Hrd.out))
      have hrl : rest.length ≤ 1099511627776 := by have := Hrd.out.short; have := Hbl.out; omega
      have hsn := spread_snoc rs (stTwo rest).1
      have hsl := spread_len rs
      obtain ⟨hx1, hx2⟩ := stTwo_le rest
      have HNU := Lib.hid (fun (Y gl : Nat) (W : World) (hW : Rdr W f2 g rest false) (a) (b) (c1) (c2) => rnums_two f2 g Y gl 2 2 0 0 rest W hW hrl rfl a b c1 c2)
      generalize stTwo rest = q at *
      obtain ⟨⟨cc, x⟩, rest', bd'⟩ := q
      simp only at HRs HNU hsn hx1 hx2
      have Hk := Lib.hid hk
      have Hx2 := Lib.hid hx2
      obtain ⟨D, hD⟩ : ∃ D, 32769 - (spreadP rs).length = D := ⟨_, rfl⟩
      rw [hD] at hsn
      have hDw : IntKind.i64.wrap (32769 - ((spreadP rs).length : Int)) = (D : Int) := by rw [show 32769 - ((spreadP rs).length : Int) = (D : Int) by omega]; exact IntWalk.i64_in _ (by omega)
      have hDi : 32769 - ((spreadP rs).length : Int) = (D : Int) := by omega
      have HD := Lib.hid hD
      have Hsl := Lib.hid hsl
      have Hsn := Lib.hid hsn
      clear hk hm hx2 hD hsl hsn
      go_wp2_with fail
      refine (rgood _ g rest false wr Hr.out).mono ?_
      rintro e w' ⟨rfl, rfl⟩
      obtain ⟨Y, hY⟩ : ∃ Y, wr.heap.size = Y := ⟨_, rfl⟩
      go_wp2_with fail
      have HY := Lib.hid hY
      refine (HNU.out Y (Y + 1) _ ((Hr.out.ext (ext_alloc (Below.refl _ _) _)).ext (ext_alloc (Below.refl _ _) _)) (pblk_at _ _ _ (by rw [World.size_alloc]; have := HY.out; omega)) ((pblk_at wr _ _ HY.out.symm).alloc _) (fun h => by have := Hf2.out _ h; have := Ho.out.size; omega) (fun h => by have := Hf2.out _ h; have := Ho.out.size; omega)).mono ?_
      rintro e x1 ⟨rfl, hr5, hB5, ho5⟩
      have HB5 := hB5
      have q0 := hB5.cell 0
      have q1 := hB5.cell 1
      simp only [List.getElem?_toArray, List.getElem?_cons_zero, List.getElem?_cons_succ] at q0 q1
      have Hr5 := Lib.hid hr5
      have Ho5 : Hid (Only (fun k => k = g) w x1) := Lib.hid (((Ho.out.alloc _).alloc _).trans ho5 (fun i hi h => by
        rcases h with h | h
        · exact h
        · have := Ho.out.size; have := HY.out; omega))
      have Hrow : Hid (RowO x1 3 1 A1 (spreadP rs).length c1 ((spreadP rs).map iv)) := Lib.hid (((HS.out.row.alloc _).alloc _).only ho5 (fun k hk e => by
        have h1 := HS.out.new k hk
        have h2 := HS.out.row.lt hk
        have := Hgl.out
        have := HY.out
        omega))
      have q2 : (x1.alloc (.cells #[.int .i64 (x : Int)] 3)).cell? ⟨Y, 0, none⟩ = some (.int .i64 (cc : Int)) := by
        have := (hB5.alloc (.cells #[.int .i64 (x : Int)] 3)).cell 0
        simpa only [List.getElem?_toArray, List.getElem?_cons_zero] using this
      have cell_lit : (x1.alloc (.cells #[.int .i64 (x : Int)] 3)).cell? ⟨x1.heap.size, 0, none⟩ = some (.int .i64 (x : Int)) := by
        simp
      have hcase : cc ≤ D ∨ D < cc := by omega
      clear hr5 ho5 hB5 HB5 hY
      rcases hcase with hq | hq
      · have hni : (cc : Int) ≤ (D : Int) := by omega
        have hmin : min cc D = cc := by omega
        have HN : Hid (spreadP (rs ++ [(cc, x)]) = spreadP rs ++ List.replicate cc (x : Int)) := Lib.hid (by rw [Hsn.out, hmin])
        have hNl : cc ≤ 1000000 := by have := HD.out; have := Hsl.out; omega
        have hap : (spreadP rs).length + cc ≤ 32769 := by have := HD.out; have := Hsl.out; omega
        have hk2 : (spreadP rs).length + cc ≤ maxLen := by unfold maxLen; omega
        have hk3 : ((spreadP rs).length + cc) * 8 ≤ 140737488355328 := by omega
        have Hap := Lib.hid hap
        have HRE := Lib.hid (repeat_any (x : Int) ⟨x1.heap.size, 0, none⟩ 1 cc (x1.alloc (.cells #[.int .i64 (x : Int)] 3)) (by rw [cell_lit]) hNl)
        clear hmin hap
        go_wp2_with fail
        refine HRE.out.mono ?_
        rintro e x3 ⟨G, c3, rfl, hr3, hG3, hb3⟩
        have Hr3 := Lib.hid hr3
        have HL3 : Hid (Below x1.heap.size x1 x3) := Lib.hid (((Below.refl _ _).alloc (Nat.le_refl _) _).trans (hb3.mono (by rw [World.size_alloc]; omega)))
        have hrow : RowO x3 3 1 A1 (spreadP rs).length c1 ((spreadP rs).map iv) := Hrow.out.ext HL3.out
        have Hrow3 := Lib.hid hrow
        clear hr3 hG3 hb3 hrow
        go_wp2_with (at_builtin
                     refine wpList_appO _ rfl (.tmp 21) (.tmp 31) _ rfl 3 _ 1 8 Tryd.underlying49 info_int rfl A1 _ c1 _ rfl Hrow3.out (some ⟨G, 0, none⟩) cc c3 (List.replicate cc (iv (x : Int))) rfl (by simp) Hr3.out.rd (rep_one _ _) (by intro h; cases h) hk2 hk3 ?_
                     intro A3 c4 w3 hrow3 honly3 hA3
                     have hx1 : w.heap.size ≤ x3.heap.size := by have := Ho5.out.size; have := HL3.out.size; omega
                     have hF3 : Fr w w3 A3 c4 (spreadP (rs ++ [(cc, x)])) := by
                       rw [HN.out]
                       exact HS.out.grow (S := fun _ => True) hx1 (by rw [List.length_replicate, List.map_replicate]; exact hrow3) hA3
                     have hO3 := HS.out.only (Ho5.out.trans (Only.of_ext (S := fun _ => False) HL3.out) (fun _ _ h => h.elim)) honly3
                     have hR3 : Rdr w3 f2 g rest' bd' := (Hr5.out.ext HL3.out).only honly3 (fun k hk hi => by have := HS.out.new k hi; have := Hf2.out k hk; omega)
                     have HF3 := Lib.hid hF3
                     have HO3 := Lib.hid hO3
                     have HR3 := Lib.hid hR3
                     clear hrow3 honly3 hA3 hx1 hF3 hO3 hR3)
        go_roundw
        case rel => exact ⟨k, rs ++ [(cc, x)], rest', bd', A3, c4, rfl, by rw [HN.out, List.length_append, List.length_replicate], HRs, HR3.out, HF3.out, HO3.out⟩
        case measure => simp [intOf]; have := Hk.out; omega
      · have hni : (D : Int) < (cc : Int) := by omega
        have hmin : min cc D = D := by omega
        have HN : Hid (spreadP (rs ++ [(cc, x)]) = spreadP rs ++ List.replicate D (x : Int)) := Lib.hid (by rw [Hsn.out, hmin])
        have hNl : D ≤ 1000000 := by have := HD.out; have := Hsl.out; omega
        have hap : (spreadP rs).length + D ≤ 32769 := by have := HD.out; have := Hsl.out; omega
        have hk2 : (spreadP rs).length + D ≤ maxLen := by unfold maxLen; omega
        have hk3 : ((spreadP rs).length + D) * 8 ≤ 140737488355328 := by omega
        have Hap := Lib.hid hap
        have HRE := Lib.hid (repeat_any (x : Int) ⟨x1.heap.size, 0, none⟩ 1 D (x1.alloc (.cells #[.int .i64 (x : Int)] 3)) (by rw [cell_lit]) hNl)
        clear hmin hap
        go_wp2_with fail
        refine HRE.out.mono ?_
        rintro e x3 ⟨G, c3, rfl, hr3, hG3, hb3⟩
        have Hr3 := Lib.hid hr3
        have HL3 : Hid (Below x1.heap.size x1 x3) := Lib.hid (((Below.refl _ _).alloc (Nat.le_refl _) _).trans (hb3.mono (by rw [World.size_alloc]; omega)))
        have hrow : RowO x3 3 1 A1 (spreadP rs).length c1 ((spreadP rs).map iv) := Hrow.out.ext HL3.out
        have Hrow3 := Lib.hid hrow
        clear hr3 hG3 hb3 hrow
        go_wp2_with (at_builtin
                     refine wpList_appO _ rfl (.tmp 21) (.tmp 31) _ rfl 3 _ 1 8 Tryd.underlying49 info_int rfl A1 _ c1 _ rfl Hrow3.out (some ⟨G, 0, none⟩) D c3 (List.replicate D (iv (x : Int))) rfl (by simp) Hr3.out.rd (rep_one _ _) (by intro h; cases h) hk2 hk3 ?_
                     intro A3 c4 w3 hrow3 honly3 hA3
                     have hx1 : w.heap.size ≤ x3.heap.size := by have := Ho5.out.size; have := HL3.out.size; omega
                     have hF3 : Fr w w3 A3 c4 (spreadP (rs ++ [(cc, x)])) := by
                       rw [HN.out]
                       exact HS.out.grow (S := fun _ => True) hx1 (by rw [List.length_replicate, List.map_replicate]; exact hrow3) hA3
                     have hO3 := HS.out.only (Ho5.out.trans (Only.of_ext (S := fun _ => False) HL3.out) (fun _ _ h => h.elim)) honly3
                     have hR3 : Rdr w3 f2 g rest' bd' := (Hr5.out.ext HL3.out).only honly3 (fun k hk hi => by have := HS.out.new k hi; have := Hf2.out k hk; omega)
                     have HF3 := Lib.hid hF3
                     have HO3 := Lib.hid hO3
                     have HR3 := Lib.hid hR3
                     clear hrow3 honly3 hA3 hx1 hF3 hO3 hR3)
        go_roundw
        case rel => exact ⟨k, rs ++ [(cc, x)], rest', bd', A3, c4, rfl, by rw [HN.out, List.length_append, List.length_replicate], HRs, HR3.out, HF3.out, HO3.out⟩
        case measure => simp [intOf]; have := Hk.out; omega
end Go.Proofs.YtpjgkacekelkdaaDoor

/-
  Decode (program). No statement of the seat is proved here.
-/
namespace Go.Proofs.YtpjgkacekelkdaaDoor
open Go Go.RowKit
set_option maxRecDepth 100000

/-- Decode's answer -/
noncomputable def decR (p : List UInt8) : List Int × Int := match decP p with | some l => (l, 0) | none => ([], 2)
theorem decR_chk {p : List UInt8} {w : Nat} (hw : (stNum p false).1 = w) (h2 : w ≤ 2) : decR p = chkP (encP w) p (rdP w (stNum p false).2.1 (stNum p false).2.2) := by
  subst hw
  unfold decR chkP
  rw [dec_rd h2]
  split
  · rename_i l h
    split at h
    · rename_i hx
      injection h with h
      rw [if_pos hx, h]
    · cases h
  · rename_i h
    split at h
    · cases h
    · rename_i hx
      rw [if_neg hx]
theorem decR_way {p : List UInt8} (h : 2 < (stNum p false).1) : decR p = ([], 2) := by unfold decR; rw [dec_way h]
theorem takenP_ok (b : List UInt8) (bad : Bool) : (∀ v ∈ takenP b bad, 0 ≤ v ∧ v ≤ 4611686018427387904) ∧ (takenP b bad).length ≤ 32769 := by
  have hall : ∀ (k : Nat) (bs : List UInt8) (bd : Bool), (∀ v ∈ (takeN k bs bd).1, v ≤ 4611686018427387904) ∧ (takeN k bs bd).1.length ≤ k := by
    intro k
    induction k with
    | zero => intro bs bd; simp [takeN]
    | succ k ih =>
      intro bs bd
      cases bd with
      | true => rw [takeN_bad]; simp
      | false =>
        rw [takeN_succ]
        obtain ⟨h1, h2⟩ := ih (stNum bs false).2.1 (stNum bs false).2.2
        refine ⟨fun v hv => ?_, by simp; exact h2⟩
        rcases List.mem_cons.1 hv with rfl | hv
        · exact stNum_le _ _
        · exact h1 v hv
  obtain ⟨h1, h2⟩ := hall (min (stNum b bad).1 32769) (stNum b bad).2.1 (stNum b bad).2.2
  refine ⟨fun v hv => ?_, ?_⟩
  · obtain ⟨x, hx, rfl⟩ := List.mem_map.1 hv
    have := h1 x hx
    omega
  · unfold takenP
    rw [List.length_map]
    omega

set_option maxHeartbeats 4000000 in
theorem decode_any (p : List UInt8) (A : Option Addr) (ca : Nat) (w : World) (hA : Rd w A (p.map bv)) (hc : p.length ≤ ca) (hp : p.length ≤ 1099511627776) :
    Calls Tryd.prog 24 #[.slice A p.length ca] w fun e w' => ∃ B' c', e = .returned (.tuple #[.slice B' (decR p).1.length c', .int .i64 (decR p).2]) ∧ Rd w' B' ((decR p).1.map iv) ∧ Below w.heap.size w w' := by
  have HA := Lib.hid hA
  have HC : Hid (∀ n, (stNum p false).1 = n → n ≤ 2 → decR p = chkP (encP n) p (rdP n (stNum p false).2.1 (stNum p false).2.2)) := Lib.hid (fun n h h2 => decR_chk h h2)
  have HW : Hid (2 < (stNum p false).1 → decR p = ([], 2)) := Lib.hid decR_way
  have hsl := stNum_len p false
  generalize decR p = R at *
  clear hA
  go_enter Tryd.func24, Tryd.ntmps24
  go_wp2_with fail
  refine (newreader A p.length ca p w rfl hc HA.out hp).mono ?_
  rintro e w2 ⟨g, rfl, hr2, hb2⟩
  have Hr2 := Lib.hid hr2
  have Hb2 := Lib.hid hb2
  clear hr2 hb2
  go_wp2_with fail
  refine (rnum_st _ g p false w2 Hr2.out hp).mono ?_
  rintro e w3 ⟨rfl, hr3, ho3⟩
  have Hgl : Hid (w.heap.size ≤ g ∧ g < w2.heap.size) := Lib.hid Hr2.out.1
  have Hb3 : Hid (Below w.heap.size w w3) := Lib.hid (Hb2.out.trans (ho3.below (fun i hi => by have := Hgl.out; omega) Hb2.out.size))
  generalize stNum p false = q at *
  obtain ⟨n, bs, bd⟩ := q
  simp only at HC HW hr3 hsl ⊢
  have Hr3 := Lib.hid hr3
  have hbl : bs.length ≤ 1099511627776 := by omega
  have HTk := Lib.hid (taken_any _ g bs bd w3 hr3 hbl)
  have HSp := Lib.hid (spread_any _ g bs bd w3 hr3 hbl)
  have HTo := Lib.hid (takenP_ok bs bd)
  clear hr3 ho3 hsl
  rcases Nat.lt_or_ge 2 n with h2 | h2
  · have d0 : ((n : Int) == 0) = false := by simp; omega
    have d1 : ((n : Int) == 1) = false := by simp; omega
    have d2 : ((n : Int) == 2) = false := by simp; omega
    have e0 : ¬ ((n : Int) = 0) := by omega
    have e1 : ¬ ((n : Int) = 1) := by omega
    have e2 : ¬ ((n : Int) = 2) := by omega
    have HR := Lib.hid (HW.out h2)
    clear HC HW HTk HSp HTo h2
    go_wp2
    go_ret2
    rw [HR.out]
    exact ⟨none, 0, rfl, Rd.nil _ _, Hb3.out⟩
  · obtain rfl | rfl | rfl : n = 0 ∨ n = 1 ∨ n = 2 := by omega
    · have HR : Hid (R = chkP plainP p (takenP bs bd)) := Lib.hid (HC.out 0 rfl (by omega))
      generalize takenP bs bd = T at *
      clear HC HW HSp HTo h2
      go_wp2_with fail
      refine HTk.out.mono ?_
      rintro e w4 ⟨A4, c4, rfl, hF4, ho4⟩
      have Hb4 : Hid (Below w.heap.size w w4) := Lib.hid (Hb3.out.trans (ho4.below (fun i hi => by have := Hgl.out; omega) Hb3.out.size))
      have HU := Lib.hid (unless_plain p A ca A4 c4 T w4 (HA.out.ext Hb4.out) hF4.rd)
      rw [← HR.out] at HU
      clear hF4 ho4 HTk
      go_wp2_with fail
      refine HU.out.mono ?_
      rintro e w5 ⟨B5, c5, rfl, hn5, hb5⟩
      have Hn5 := Lib.hid hn5
      have Hb5 := Lib.hid (ext_trans Hb4.out hb5)
      clear hn5 hb5
      go_wp2
      go_ret2
      exact ⟨B5, c5, rfl, Hn5.out, Hb5.out⟩
    · have HR : Hid (R = chkP deltaP p (addedP (takenP bs bd))) := Lib.hid (HC.out 1 rfl (by omega))
      have hal : (addedP (takenP bs bd)).length = (takenP bs bd).length := addedTo_len _ _
      generalize takenP bs bd = T at *
      clear HC HW HSp h2
      go_wp2_with fail
      refine HTk.out.mono ?_
      rintro e w4 ⟨A4, c4, rfl, hF4, ho4⟩
      have Hb4 : Hid (Below w.heap.size w w4) := Lib.hid (Hb3.out.trans (ho4.below (fun i hi => by have := Hgl.out; omega) Hb3.out.size))
      have HAd := Lib.hid (added_any w3 A4 c4 T w4 hF4 HTo.out.1 (by have := HTo.out.2; omega))
      have HN4 := Lib.hid hF4.new
      clear hF4 ho4 HTk
      go_wp2_with fail
      refine HAd.out.mono ?_
      rintro e w5 ⟨rfl, hF5, ho5⟩
      have Hb5 : Hid (Below w.heap.size w w5) := Lib.hid (Hb4.out.trans (ho5.below (fun i hi => by have := HN4.out i hi; have := Hb3.out.size; omega) Hb4.out.size))
      have HU := Lib.hid (unless_delta p A ca A4 c4 (addedP T) w5 (HA.out.ext Hb5.out) hF5.rd)
      rw [← HR.out, hal] at HU
      clear hF5 ho5 HAd hal
      go_wp2_with fail
      refine HU.out.mono ?_
      rintro e w6 ⟨B5, c5, rfl, hn5, hb5⟩
      have Hn5 := Lib.hid hn5
      have Hb6 := Lib.hid (ext_trans Hb5.out hb5)
      clear hn5 hb5
      go_wp2
      go_ret2
      exact ⟨B5, c5, rfl, Hn5.out, Hb6.out⟩
    · have HR : Hid (R = chkP runsB p (spreadB bs bd)) := Lib.hid (HC.out 2 rfl (by omega))
      generalize spreadB bs bd = T at *
      clear HC HW HTk HTo h2
      go_wp2_with fail
      refine HSp.out.mono ?_
      rintro e w4 ⟨A4, c4, rfl, hF4, ho4⟩
      have Hb4 : Hid (Below w.heap.size w w4) := Lib.hid (Hb3.out.trans (ho4.below (fun i hi => by have := Hgl.out; omega) Hb3.out.size))
      have HU := Lib.hid (unless_runs p A ca A4 c4 T w4 (HA.out.ext Hb4.out) hF4.rd)
      rw [← HR.out] at HU
      clear hF4 ho4 HSp
      go_wp2_with fail
      refine HU.out.mono ?_
      rintro e w5 ⟨B5, c5, rfl, hn5, hb5⟩
      have Hn5 := Lib.hid hn5
      have Hb5 := Lib.hid (ext_trans Hb4.out hb5)
      clear hn5 hb5
      go_wp2
      go_ret2
      exact ⟨B5, c5, rfl, Hn5.out, Hb5.out⟩
end Go.Proofs.YtpjgkacekelkdaaDoor

/-
  Lengths: as many alike numbers as one likes, numbers that rise by little; reading back in every way. No statement of the seat is proved here.
-/
namespace Go.Proofs.YtpjgkacekelkdaaDoor
open Go Go.RowKit
set_option maxRecDepth 100000

theorem getD_rep (v : Int) {n k : Nat} (h : k < n) : (List.replicate n v).getD k 0 = v := by
  rw [List.getD_eq_getElem?_getD, List.getElem?_replicate, if_pos h]
  rfl
theorem runsTo_rep (v : Int) (n : Nat) : ∀ k, k + 1 ≤ n → runsTo (List.replicate n v) (k + 1) = [(k + 1, v)]
  | 0, h => by
    rw [runsTo_new _ _ (.inl rfl), getD_rep v (by omega)]
    rfl
  | k + 1, h => by
    have e := runsTo_rep v n k (by omega)
    rw [runsTo, if_neg (by rw [Nat.add_sub_cancel, getD_rep v (by omega), getD_rep v (by omega)]; simp), e]
    rfl
theorem dig_three (x : Nat) (h : x ≤ 32768) : (dig (clamp (x : Int))).length ≤ 3 :=
  dig_len 3 _ (by rw [clamp_of_nat (by omega)]; have : (128 : Nat) ^ 3 = 2097152 := rfl; omega) (by omega)
theorem dig_six {v : Int} (h0 : 0 ≤ v) (h1 : v ≤ 2199023255552) : (dig (clamp v)).length ≤ 6 :=
  dig_len 6 _ (by have := clamp_le' h0 (by omega); have : (128 : Nat) ^ 6 = 4398046511104 := rfl; omega) (by omega)
theorem dig_small1 {v : Int} (h0 : 0 ≤ v) (h1 : v ≤ 127) : (dig (clamp v)).length ≤ 1 :=
  dig_len 1 _ (by have := clamp_le' h0 (by omega); have : (128 : Nat) ^ 1 = 128 := rfl; omega) (by omega)
theorem runs_rep_len (v : Int) (n : Nat) (hn : n ≤ 32768) (h0 : 0 ≤ v) (h1 : v ≤ 1099511627776) : (runsB (List.replicate n v)).length ≤ 12 := by
  have c2 : (dig (clamp 2)).length ≤ 1 := dig_small1 (by omega) (by omega)
  have c0 : (dig (clamp 0)).length ≤ 1 := dig_small1 (by omega) (by omega)
  have c1 : (dig (clamp 1)).length ≤ 1 := dig_small1 (by omega) (by omega)
  have cv : (dig (clamp v)).length ≤ 6 := dig_six h0 (by omega)
  unfold runsB runsP
  rw [List.length_replicate]
  rcases n with _ | n
  · have e : runsTo (List.replicate 0 v) 0 = [] := rfl
    rw [e]
    have e2 : numsB [2, (([] : List (Nat × Int)).length : Int)] ++ pairsB [] = dig (clamp 2) ++ dig (clamp 0) := by simp [pairsB, numsB_cons, numsB_nil]
    rw [e2, List.length_append]
    omega
  · rw [runsTo_rep v (n + 1) n (Nat.le_refl _)]
    have e2 : numsB [2, (([(n + 1, v)] : List (Nat × Int)).length : Int)] ++ pairsB [(n + 1, v)] = dig (clamp 2) ++ (dig (clamp 1) ++ (dig (clamp ((n + 1 : Nat) : Int)) ++ dig (clamp v))) := by
      simp [pairsB, numsB_cons, numsB_nil]
    have c3 := dig_three (n + 1) hn
    rw [e2, List.length_append, List.length_append, List.length_append]
    omega
theorem best_rep_len (v : Int) (n : Nat) (hn : n ≤ 32768) (h0 : 0 ≤ v) (h1 : v ≤ 1099511627776) : (bestP (List.replicate n v)).length ≤ 12 :=
  Nat.le_trans (best_le _ 2 (Nat.le_refl _)) (runs_rep_len v n hn h0 h1)
theorem may_rep (v : Int) (n : Nat) (hn : n ≤ 32768) (h0 : 0 ≤ v) (h1 : v ≤ 1099511627776) : mayP (List.replicate n v) = true :=
  (mayP_iff _).2 ⟨by rw [List.length_replicate]; exact hn, fun x hx => by rw [List.eq_of_mem_replicate hx]; exact ⟨h0, h1⟩⟩

/-! ### rising -/
def low5 (x : Int) : Int := bits .and .i64 x 31
theorem low5_ok (x : Int) : 0 ≤ low5 x ∧ low5 x ≤ 31 := by
  have hx : (BitVec.ofInt 64 x &&& BitVec.ofInt 64 31).toNat ≤ 31 := by
    rw [BitVec.toNat_and]
    exact Nat.le_trans Nat.and_le_right (by decide)
  have h : low5 x = ((BitVec.ofInt 64 x &&& BitVec.ofInt 64 31).toNat : Int) := by
    show IntKind.i64.wrap ((BitVec.ofInt 64 x &&& BitVec.ofInt 64 31).toNat : Int) = _
    rw [IntKind.wrap_i64]; omega
  omega
/-- the number that stands at a place -/
def riseK (f : Int) (xs : List Int) : Nat → Int
  | 0 => f
  | k + 1 => riseK f xs k + low5 (xs.getD k 0)
def riseTo (f : Int) (xs : List Int) (k : Nat) : List Int := (List.range (k + 1)).map (riseK f xs)
theorem riseTo_len (f : Int) (xs : List Int) (k : Nat) : (riseTo f xs k).length = k + 1 := by simp [riseTo]
theorem riseTo_zero (f : Int) (xs : List Int) : riseTo f xs 0 = [f] := rfl
theorem riseTo_succ (f : Int) (xs : List Int) (k : Nat) : riseTo f xs (k + 1) = riseTo f xs k ++ [riseK f xs k + low5 (xs.getD k 0)] := by
  unfold riseTo
  rw [List.range_succ, List.map_append]
  rfl
theorem riseTo_get (f : Int) (xs : List Int) (k j : Nat) (h : j < k + 1) : (riseTo f xs k)[j]? = some (riseK f xs j) := by simp [riseTo, h]
theorem riseK_ok {f : Int} (xs : List Int) (h0 : 0 ≤ f) : ∀ k : Nat, 0 ≤ riseK f xs k ∧ riseK f xs k ≤ f + 31 * (k : Int)
  | 0 => ⟨h0, by simp [riseK]⟩
  | k + 1 => by
    have := riseK_ok xs h0 k
    have h := low5_ok (xs.getD k 0)
    rw [riseK]
    omega
theorem may_rise {f : Int} (xs : List Int) {k : Nat} (h0 : 0 ≤ f) (h1 : f ≤ 549755813888) (hk : k ≤ 300) : mayP (riseTo f xs k) = true := by
  refine (mayP_iff _).2 ⟨by rw [riseTo_len]; omega, fun x hx => ?_⟩
  unfold riseTo at hx
  obtain ⟨j, hj, rfl⟩ := List.mem_map.1 hx
  have := riseK_ok xs h0 j
  have := List.mem_range.1 hj
  omega
theorem rise_deltas {f : Int} (xs : List Int) {n : Nat} (h0 : 0 ≤ f) (h1 : f ≤ 549755813888) : ∀ k, k ≤ n + 1 → (numsB (deltasTo (riseTo f xs n) k)).length ≤ 5 + k
  | 0, _ => by simp [deltasTo, numsB_nil]
  | k + 1, hk => by
    have ih := rise_deltas (n := n) xs h0 h1 k (by omega)
    rw [deltasTo_succ, numsB_append, List.length_append, numsB_one]
    have hg : (riseTo f xs n).getD k 0 = riseK f xs k := by rw [List.getD_eq_getElem?_getD, riseTo_get _ _ _ _ hk]; rfl
    rcases k with _ | k
    · have e : foldP ((riseTo f xs n).getD 0 0 - prevP (riseTo f xs n) 0) = 2 * f := by
        rw [hg]
        unfold prevP foldP
        rw [if_pos rfl, if_neg (by simp [riseK]; omega)]
        simp [riseK]
      rw [e]
      have := dig_six (v := 2 * f) (by omega) (by omega)
      have h00 : (numsB (deltasTo (riseTo f xs n) 0)).length = 0 := by simp [deltasTo, numsB_nil]
      omega
    · have hp : prevP (riseTo f xs n) (k + 1) = riseK f xs k := by
        unfold prevP
        rw [if_neg (by omega), Nat.add_sub_cancel, List.getD_eq_getElem?_getD, riseTo_get _ _ _ _ (by omega)]
        rfl
      have hl := low5_ok (xs.getD k 0)
      have e : foldP ((riseTo f xs n).getD (k + 1) 0 - prevP (riseTo f xs n) (k + 1)) = 2 * low5 (xs.getD k 0) := by
        rw [hg, hp, riseK]
        unfold foldP
        rw [if_neg (by omega)]
        omega
      rw [e]
      have := dig_small1 (v := 2 * low5 (xs.getD k 0)) (by omega) (by omega)
      omega
theorem best_rise_len {f : Int} (xs : List Int) {n : Nat} (h0 : 0 ≤ f) (h1 : f ≤ 549755813888) (hn : n ≤ 300) : (bestP (riseTo f xs n)).length ≤ 10 + (riseTo f xs n).length := by
  refine Nat.le_trans (best_le _ 1 (by omega)) ?_
  show (deltaP _).length ≤ _
  unfold deltaP deltasP
  rw [riseTo_len]
  have := rise_deltas (n := n) xs h0 h1 (n + 1) (Nat.le_refl _)
  have c1 : (dig (clamp 1)).length ≤ 1 := dig_small1 (by omega) (by omega)
  have c2 := dig_three (n + 1) (by omega)
  have e : numsB [1, ((n + 1 : Nat) : Int)] = dig (clamp 1) ++ dig (clamp ((n + 1 : Nat) : Int)) := by simp [numsB_cons, numsB_nil]
  rw [e, List.length_append, List.length_append]
  omega

/-! ### read back -/
theorem decR_some {p : List UInt8} {l : List Int} (h : decP p = some l) : decR p = (l, 0) := by unfold decR; rw [h]
theorem encP_len {w : Nat} {l : List Int} (hw : w ≤ 2) (h : mayP l = true) (hl : l.length ≤ 100000) : (encP w l).length ≤ 2000000 := by
  have h3 := numsB_len9 l
  match w, hw with
  | 0, _ =>
    show (plainP l).length ≤ _
    unfold plainP
    have h1 := numsB_len9 [0, (l.length : Int)]
    rw [List.length_append]
    simp only [List.length_cons, List.length_nil] at h1
    omega
  | 1, _ =>
    show (deltaP l).length ≤ _
    unfold deltaP
    have h1 := numsB_len9 [1, (l.length : Int)]
    have h2 := numsB_len9 (deltasP l)
    have h4 : (deltasP l).length = l.length := deltasTo_len _ _
    rw [List.length_append]
    simp only [List.length_cons, List.length_nil] at h1
    omega
  | 2, _ =>
    show (runsB l).length ≤ _
    unfold runsB
    have h1 := numsB_len9 [2, ((runsP l).length : Int)]
    have h2 : (runsP l).length ≤ l.length := runsTo_len _ _
    have h5 : ∀ rs : List (Nat × Int), (pairsB rs).length ≤ 18 * rs.length := by
      intro rs
      induction rs with
      | nil => simp [pairsB]
      | cons r rs ih =>
        have h6 := numsB_len9 [(r.1 : Int), r.2]
        have e : pairsB (r :: rs) = numsB [(r.1 : Int), r.2] ++ pairsB rs := by simp [pairsB]
        rw [e, List.length_append, List.length_cons]
        simp only [List.length_cons, List.length_nil] at h6
        omega
    have h7 := h5 (runsP l)
    rw [List.length_append]
    simp only [List.length_cons, List.length_nil] at h1
    omega
theorem best_len {l : List Int} (h : mayP l = true) (hl : l.length ≤ 100000) : (bestP l).length ≤ 2000000 := Nat.le_trans (best_le l 0 (by omega)) (encP_len (by omega) h hl)
theorem ansP_of {l : List Int} (h : mayP l = true) (b : List UInt8) : ansP l b = (b, 0) := by unfold ansP; rw [if_pos h]
theorem ansP_no {l : List Int} (h : mayP l = false) (b : List UInt8) : ansP l b = ([], 1) := by unfold ansP; rw [h]; rfl
/-- a row that is one of the four ways -/
def WayP (l : List Int) (b : List UInt8) : Prop := decR b = (l, 0) ∧ (bestP l).length ≤ b.length ∧ b.length ≤ 2000000
theorem wayP_enc {w : Nat} {l : List Int} (hw : w ≤ 2) (h : mayP l = true) (hl : l.length ≤ 100000) : WayP l (encP w l) := ⟨decR_some (dec_enc hw h), best_le l w hw, encP_len hw h hl⟩
theorem wayP_best {l : List Int} (h : mayP l = true) (hl : l.length ≤ 100000) : WayP l (bestP l) := ⟨decR_some (dec_best h), Nat.le_refl _, best_len h hl⟩
end Go.Proofs.YtpjgkacekelkdaaDoor

/-
  What a way answers, what is read back: as the later layers use it. No statement of the seat is proved here.
-/
namespace Go.Proofs.YtpjgkacekelkdaaDoor
open Go Go.RowKit
set_option maxRecDepth 100000

/-- what a way answers -/
def WayC (f : FuncId) (A : Option Addr) (n c : Nat) (b : List UInt8) (W : World) : Prop :=
  Calls Tryd.prog f #[.slice A n c] W fun e w' => ∃ A' c', e = .returned (.tuple #[.slice A' b.length c', .int .i64 0]) ∧ Rd w' A' (b.map bv) ∧ b.length ≤ c' ∧ Below W.heap.size W w'
theorem way_of {f : FuncId} {A : Option Addr} {n c : Nat} {l : List Int} {W : World} {b : List UInt8} (hm : mayP l = true)
    (h : Calls Tryd.prog f #[.slice A n c] W fun e w' => ∃ A' c', e = .returned (.tuple #[.slice A' (ansP l b).1.length c', .int .i64 (ansP l b).2]) ∧ New W w' A' c' (ansP l b).1 ∧ Below W.heap.size W w') : WayC f A n c b W := by
  rw [ansP_of hm] at h
  exact h.mono fun e w' ⟨A', c', he, hn, hb⟩ => ⟨A', c', he, hn.rd, by have := Own.cap hn; simpa using this, hb⟩
/-- what is read back -/
theorem read_back {l : List Int} {b : List UInt8} (h : decR b = (l, 0)) (hb : b.length ≤ 2000000) (A : Option Addr) (c : Nat) (W : World) (hA : Rd W A (b.map bv)) (hc : b.length ≤ c) :
    Calls Tryd.prog 24 #[.slice A b.length c] W fun e w' => ∃ B' c', e = .returned (.tuple #[.slice B' l.length c', .int .i64 0]) ∧ Rd w' B' (l.map iv) ∧ Below W.heap.size W w' := by
  have H := decode_any b A c W hA hc (by omega)
  rw [h] at H
  exact H
end Go.Proofs.YtpjgkacekelkdaaDoor

/-
  Rows of texts that rise; where a text stands in them; texts as bytes, and read back: mathematics. No statement of the seat is proved here.
-/
namespace Go.Proofs.YtpjgkacekelkdaaDoor
open Go Go.RowKit
set_option maxRecDepth 100000

/-! ### rising rows -/
def RisesT (l : List (List UInt8)) : Prop := l.Pairwise fun a b => a < b
/-- rising, maybe with equals -/
def CalmT (l : List (List UInt8)) : Prop := l.Pairwise fun a b => ¬ b < a
theorem RisesT.calm {l : List (List UInt8)} (h : RisesT l) : CalmT l := List.Pairwise.imp (fun hab => lt_asy hab) h
theorem RisesT.nodup {l : List (List UInt8)} (h : RisesT l) : l.Nodup := List.Pairwise.imp (fun hab => lt_ne hab) h
theorem risesT_unique {l m : List (List UInt8)} (h : RisesT l) (k : RisesT m) (hm : ∀ x, x ∈ l ↔ x ∈ m) : l = m :=
  List.Perm.eq_of_pairwise (le := fun a b : List UInt8 => a < b) (fun a b _ _ h1 h2 => absurd h2 (lt_asy h1)) h k ((List.perm_ext_iff_of_nodup h.nodup k.nodup).2 hm)
theorem not_lt_tr {a b c : List UInt8} (h : ¬ b < a) (k : ¬ c < b) : ¬ c < a := fun x => by
  rcases not_lt_of h with rfl | h
  · exact k x
  · exact k (lt_tr x h)
/-- how many of them are less -/
def placeT (w : List (List UInt8)) (s : List UInt8) : Nat := w.countP fun t => decide (t < s)
theorem placeT_le (w : List (List UInt8)) (s : List UInt8) : placeT w s ≤ w.length := List.countP_le_length
theorem placeT_cons_lt {a s : List UInt8} (h : a < s) (r : List (List UInt8)) : placeT (a :: r) s = placeT r s + 1 := List.countP_cons_of_pos (by simpa using h)
theorem placeT_cons_ge {a s : List UInt8} {r : List (List UInt8)} (h : ¬ a < s) (hr : ∀ b ∈ r, ¬ b < a) : placeT (a :: r) s = 0 := by
  unfold placeT
  rw [List.countP_eq_zero]
  intro b hb
  simp only [decide_eq_true_eq]
  rcases List.mem_cons.1 hb with rfl | hb
  · exact h
  · exact fun hlt => by
      rcases not_lt_of (hr b hb) with rfl | h2
      · exact h hlt
      · exact h (lt_tr h2 hlt)
theorem placeT_spec : ∀ {w : List (List UInt8)} {s : List UInt8}, CalmT w → (∀ t (ht : t < w.length), t < placeT w s → w[t] < s) ∧ (∀ t (ht : t < w.length), placeT w s ≤ t → ¬ w[t] < s)
  | [], s, _ => ⟨fun t ht => absurd ht (by simp), fun t ht => absurd ht (by simp)⟩
  | a :: r, s, h => by
    unfold CalmT at h
    rw [List.pairwise_cons] at h
    obtain ⟨h1, h2⟩ := placeT_spec (s := s) (show CalmT r from h.2)
    by_cases ha : a < s
    · rw [placeT_cons_lt ha]
      refine ⟨fun t ht hp => ?_, fun t ht hp => ?_⟩
      · rcases t with _ | t
        · exact ha
        · exact h1 t (by simpa using ht) (by omega)
      · rcases t with _ | t
        · omega
        · exact h2 t (by simpa using ht) (by omega)
    · rw [placeT_cons_ge ha h.1]
      refine ⟨fun t ht hp => by omega, fun t ht _ => ?_⟩
      rcases t with _ | t
      · exact ha
      · have hm : r[t]'(by simpa using ht) ∈ r := List.getElem_mem _
        show ¬ r[t]'(by simpa using ht) < s
        exact fun hlt => by
          rcases not_lt_of (h.1 _ hm) with e | h3
          · rw [e] at hlt; exact ha hlt
          · exact ha (lt_tr h3 hlt)
theorem placeT_of {w : List (List UInt8)} {s : List UInt8} (h : CalmT w) {k : Nat} (hk : k ≤ w.length) (h1 : ∀ t (ht : t < w.length), t < k → w[t] < s) (h2 : ∀ t (ht : t < w.length), k ≤ t → ¬ w[t] < s) : k = placeT w s := by
  obtain ⟨g1, g2⟩ := placeT_spec (s := s) h
  have hle := placeT_le w s
  rcases Nat.lt_trichotomy k (placeT w s) with hl | hl | hl
  · exact absurd (g1 k (by omega) hl) (h2 k (by omega) (Nat.le_refl _))
  · exact hl
  · exact absurd (h1 (placeT w s) (by omega) hl) (g2 _ (by omega) (Nat.le_refl _))
theorem placeT_mem {w : List (List UInt8)} {s : List UInt8} (h : RisesT w) : (∃ hk : placeT w s < w.length, w[placeT w s] = s) ↔ s ∈ w := by
  obtain ⟨g1, g2⟩ := placeT_spec (s := s) h.calm
  constructor
  · rintro ⟨hk, e⟩
    rw [← e]
    exact List.getElem_mem _
  · intro hs
    obtain ⟨t, ht, rfl⟩ := List.mem_iff_getElem.1 hs
    have hge : placeT w w[t] ≤ t := by
      rcases Nat.lt_or_ge t (placeT w w[t]) with hl | hl
      · exact absurd (g1 t ht hl) (lt_irr _)
      · exact hl
    rcases Nat.eq_or_lt_of_le hge with e | hl
    · exact ⟨by omega, by simp only [e]⟩
    · have hp := List.pairwise_iff_getElem.1 h (placeT w w[t]) t (by omega) ht hl
      exact absurd hp (g2 _ (by omega) (Nat.le_refl _))
/-- a text more, if it is not there -/
def insT (out : List (List UInt8)) (s : List UInt8) : List (List UInt8) := if s ∈ out then out else out.take (placeT out s) ++ s :: out.drop (placeT out s)
theorem insT_mem (out : List (List UInt8)) (s x : List UInt8) : x ∈ insT out s ↔ x ∈ out ∨ x = s := by
  unfold insT
  split
  · rename_i h
    exact ⟨.inl, fun hx => hx.elim id (fun e => e ▸ h)⟩
  · have e : x ∈ out ↔ x ∈ out.take (placeT out s) ∨ x ∈ out.drop (placeT out s) := by
      conv => lhs; rw [← List.take_append_drop (placeT out s) out]
      exact List.mem_append
    rw [List.mem_append, List.mem_cons, e]
    constructor
    · rintro (h | rfl | h)
      · exact .inl (.inl h)
      · exact .inr rfl
      · exact .inl (.inr h)
    · rintro ((h | h) | rfl)
      · exact .inl h
      · exact .inr (.inr h)
      · exact .inr (.inl rfl)
theorem insT_rises {out : List (List UInt8)} (h : RisesT out) (s : List UInt8) : RisesT (insT out s) := by
  unfold insT
  split
  · exact h
  · rename_i hs
    obtain ⟨g1, g2⟩ := placeT_spec (s := s) h.calm
    have ht : ∀ a ∈ out.take (placeT out s), a < s := fun a ha => by
      obtain ⟨i, hi, rfl⟩ := List.mem_iff_getElem.1 ha
      rw [List.getElem_take]
      rw [List.length_take] at hi
      exact g1 i (by omega) (by omega)
    have hd : ∀ b ∈ out.drop (placeT out s), s < b := fun b hb => by
      have hm : b ∈ out := List.mem_of_mem_drop hb
      obtain ⟨i, hi, rfl⟩ := List.mem_iff_getElem.1 hb
      rw [List.length_drop] at hi
      have hn : ¬ (out.drop (placeT out s))[i]'(by rw [List.length_drop]; exact hi) < s := by
        rw [List.getElem_drop]
        exact g2 _ (by omega) (by omega)
      rcases not_lt_of hn with e | e
      · rw [e] at hm; exact absurd hm hs
      · exact e
    unfold RisesT
    rw [List.pairwise_append, List.pairwise_cons]
    exact ⟨List.Pairwise.sublist (List.take_sublist _ _) h, ⟨hd, List.Pairwise.sublist (List.drop_sublist _ _) h⟩, fun a ha b hb => by
      rcases List.mem_cons.1 hb with rfl | hb
      · exact ht a ha
      · exact lt_tr (ht a ha) (hd b hb)⟩
theorem insT_len (out : List (List UInt8)) (s : List UInt8) : (insT out s).length ≤ out.length + 1 := by
  unfold insT
  split
  · omega
  · have := placeT_le out s
    simp
    omega
/-! ### each text once -/
def wordsTo (l : List (List UInt8)) : Nat → List (List UInt8)
  | 0 => []
  | k + 1 => insT (wordsTo l k) (l.getD k [])
def wordsT (l : List (List UInt8)) : List (List UInt8) := wordsTo l l.length
theorem wordsTo_rises (l : List (List UInt8)) : ∀ k, RisesT (wordsTo l k)
  | 0 => List.Pairwise.nil
  | k + 1 => insT_rises (wordsTo_rises l k) _
theorem wordsTo_len (l : List (List UInt8)) : ∀ k, (wordsTo l k).length ≤ k
  | 0 => Nat.le_refl _
  | k + 1 => Nat.le_trans (insT_len _ _) (by have := wordsTo_len l k; omega)
theorem wordsTo_mem (l : List (List UInt8)) (x : List UInt8) : ∀ k, k ≤ l.length → (x ∈ wordsTo l k ↔ x ∈ l.take k)
  | 0, _ => by simp [wordsTo]
  | k + 1, hk => by
    rw [wordsTo, insT_mem, wordsTo_mem l x k (by omega), List.take_succ_eq_append_getElem (by omega), List.mem_append, List.mem_singleton]
    rw [List.getD_eq_getElem?_getD, List.getElem?_eq_getElem (by omega)]
    rfl
theorem wordsT_rises (l : List (List UInt8)) : RisesT (wordsT l) := wordsTo_rises l _
theorem wordsT_len (l : List (List UInt8)) : (wordsT l).length ≤ l.length := wordsTo_len l _
theorem wordsT_mem {l : List (List UInt8)} {x : List UInt8} : x ∈ wordsT l ↔ x ∈ l := by
  unfold wordsT
  rw [wordsTo_mem l x l.length (Nat.le_refl _), List.take_length]
theorem wordsT_of {l m : List (List UInt8)} (h : RisesT m) (hm : ∀ x, x ∈ m ↔ x ∈ l) : m = wordsT l := risesT_unique h (wordsT_rises l) fun x => (hm x).trans wordsT_mem.symm
theorem wordsT_again (l : List (List UInt8)) : wordsT (wordsT l) = wordsT l := (wordsT_of (wordsT_rises l) fun _ => Iff.rfl).symm
theorem compact_up (ts : List (List UInt8)) (h : CalmT ts) : ∀ m, m ≤ ts.length → RisesT (Lib.compactUpTo ts.toArray m) ∧ ∀ x, x ∈ Lib.compactUpTo ts.toArray m ↔ x ∈ ts.take m
  | 0, _ => ⟨List.Pairwise.nil, fun x => by simp [Lib.compactUpTo]⟩
  | m + 1, hm => by
    obtain ⟨ih1, ih2⟩ := compact_up ts h m (by omega)
    have hg : ∀ j, j < ts.length → ts.toArray[j]! = ts.getD j [] := fun j hj => by
      rw [getElem!_pos ts.toArray j (by simpa using hj), List.getD_eq_getElem?_getD, List.getElem?_eq_getElem hj]
      simp
    have hgd : ∀ j (hj : j < ts.length), ts.getD j [] = ts[j] := fun j hj => by rw [List.getD_eq_getElem?_getD, List.getElem?_eq_getElem hj]; rfl
    have htk : ts.take (m + 1) = ts.take m ++ [ts[m]] := List.take_succ_eq_append_getElem (by omega)
    rw [Lib.compactUpTo_succ, hg m (by omega), hgd m (by omega), htk]
    by_cases hk : m = 0 ∨ ts.toArray[m]! ≠ ts.toArray[m - 1]!
    · have e : Lib.keeps ts.toArray m = true := by simp only [Lib.keeps, decide_eq_true_eq]; exact hk
      rw [e, if_pos rfl]
      refine ⟨?_, fun x => by rw [List.mem_append, List.mem_append, ih2 x]⟩
      unfold RisesT
      rw [List.pairwise_append]
      refine ⟨ih1, List.pairwise_singleton _ _, fun a ha b hb => ?_⟩
      rw [List.mem_singleton] at hb
      subst hb
      have ha2 := (ih2 a).1 ha
      obtain ⟨j, hj, rfl⟩ := List.mem_iff_getElem.1 ha2
      rw [List.length_take] at hj
      rw [List.getElem_take]
      rcases hk with rfl | hk
      · omega
      · rw [hg m (by omega), hg (m - 1) (by omega), hgd m (by omega), hgd (m - 1) (by omega)] at hk
        have h1 : ¬ ts[m]'(by omega) < ts[m - 1]'(by omega) := by
          rcases Nat.eq_zero_or_pos m with rfl | hp
          · omega
          · exact List.pairwise_iff_getElem.1 h (m - 1) m (by omega) (by omega) (by omega)
        have h2 : ts[m - 1]'(by omega) < ts[m]'(by omega) := by
          rcases not_lt_of h1 with h3 | h3
          · exact absurd h3 hk
          · exact h3
        rcases Nat.eq_or_lt_of_le (show j ≤ m - 1 by omega) with rfl | hlt
        · exact h2
        · have h3 := List.pairwise_iff_getElem.1 h j (m - 1) (by omega) (by omega) hlt
          rcases not_lt_of h3 with h4 | h4
          · rw [← h4]; exact h2
          · exact lt_tr h4 h2
    · have e : Lib.keeps ts.toArray m = false := by simp only [Lib.keeps, decide_eq_false_iff_not]; exact hk
      rw [e]
      refine ⟨by simpa using ih1, fun x => ?_⟩
      have h0 : m ≠ 0 := fun h0 => hk (.inl h0)
      have h1 : ts.toArray[m]! = ts.toArray[m - 1]! := Classical.not_not.1 fun h1 => hk (.inr h1)
      rw [hg m (by omega), hg (m - 1) (by omega), hgd m (by omega), hgd (m - 1) (by omega)] at h1
      have h2 : ts[m]'(by omega) ∈ ts.take m := by
        rw [h1]
        refine List.mem_iff_getElem.2 ⟨m - 1, by rw [List.length_take]; omega, by rw [List.getElem_take]⟩
      simp only [Bool.false_eq_true, if_false, List.append_nil]
      rw [ih2 x, List.mem_append, List.mem_singleton]
      exact ⟨.inl, fun hx => hx.elim id (fun e => e ▸ h2)⟩
theorem compact_words {ts l : List (List UInt8)} (h : CalmT ts) (hm : ∀ x, x ∈ ts ↔ x ∈ l) : Lib.compact ts = wordsT l := by
  obtain ⟨h1, h2⟩ := compact_up ts h ts.length (Nat.le_refl _)
  refine wordsT_of h1 fun x => ?_
  have := h2 x
  rw [List.take_length] at this
  exact this.trans (hm x)

/-! ### texts as bytes -/
def longT (s : List UInt8) : Bool := decide (4096 < s.length)
def mayD (l : List (List UInt8)) : Bool := decide (l.length ≤ 32768) && !(l.any longT)
theorem mayD_iff (l : List (List UInt8)) : mayD l = true ↔ l.length ≤ 32768 ∧ ∀ s ∈ l, s.length ≤ 4096 := by
  unfold mayD
  rw [Bool.and_eq_true, decide_eq_true_eq, Bool.not_eq_true', List.any_eq_false]
  exact and_congr Iff.rfl ⟨fun h s hs => by have := h s hs; simp [longT] at this; exact this, fun h s hs => by have := h s hs; simp [longT]; exact this⟩
def placesT (l : List (List UInt8)) : List Int := l.map fun s => (placeT (wordsT l) s : Int)
theorem placesT_len (l : List (List UInt8)) : (placesT l).length = l.length := by simp [placesT]
theorem places_may {l : List (List UInt8)} (h : l.length ≤ 32768) : mayP (placesT l) = true := by
  refine (mayP_iff _).2 ⟨by rw [placesT_len]; exact h, fun v hv => ?_⟩
  obtain ⟨s, _, rfl⟩ := List.mem_map.1 hv
  have h1 := placeT_le (wordsT l) s
  have h2 := wordsT_len l
  omega
def encD (l : List (List UInt8)) : List UInt8 := numsB [((wordsT l).length : Int)] ++ (rowsB (wordsT l) ++ rowsB [bestP (placesT l)])
/-- an Encode's answer -/
def ansD (l : List (List UInt8)) : List UInt8 × Int := if mayD l = true then (encD l, 0) else ([], 1)

/-! ### read back -/
def cntD (p : List UInt8) : Nat := (stNum p false).1
def wrdD (k : Nat) (p : List UInt8) : List (List UInt8) × List UInt8 × Bool := takeR k (stNum p false).2.1 (stNum p false).2.2
def plcD (k : Nat) (p : List UInt8) : List UInt8 × List UInt8 × Bool := stBytes (wrdD k p).2.1 (wrdD k p).2.2
def inD (W : List (List UInt8)) (v : Int) : Bool := decide (v < (W.length : Int))
def pickD (W : List (List UInt8)) (pl : List Int) : Option (List (List UInt8)) := if pl.all (inD W) = true then some (pl.map fun v => W.getD v.toNat []) else none
noncomputable def gotD (k : Nat) (p : List UInt8) : Option (List (List UInt8)) := if (decR (plcD k p).1).2 = 0 then pickD (wrdD k p).1 (decR (plcD k p).1).1 else none
theorem decR_nil : decR [] = ([], 2) := by
  have h : decP [] = none := by
    refine dec_none fun l w ha => ?_
    obtain ⟨hw, _, he⟩ := ha
    rw [enc_eq l hw] at he
    have := List.append_eq_nil_iff.1 he
    exact dig_pos' _ this.1
  unfold decR
  rw [h]
theorem decR_ok {b : List UInt8} (h : (decR b).2 = 0) : mayP (decR b).1 = true := by
  unfold decR at h ⊢
  cases hd : decP b with
  | none => rw [hd] at h; exact absurd h (by decide)
  | some l => exact dec_may hd
theorem decR_no {b : List UInt8} (h : (decR b).2 ≠ 0) : decR b = ([], 2) := by
  unfold decR at h ⊢
  cases hd : decP b with
  | none => rfl
  | some l => rw [hd] at h; exact absurd rfl h
theorem decR_len (b : List UInt8) : (decR b).1.length ≤ 32768 := by
  by_cases h : (decR b).2 = 0
  · exact ((mayP_iff _).1 (decR_ok h)).1
  · rw [decR_no h]; simp
theorem rowsB_app (a b : List (List UInt8)) : rowsB (a ++ b) = rowsB a ++ rowsB b := by unfold rowsB; rw [List.flatMap_append]
theorem rowsB_sing (s : List UInt8) : rowsB [s] = dig s.length ++ s := by simp [rowsB]
theorem pick_places (l : List (List UInt8)) : pickD (wordsT l) (placesT l) = some l := by
  have hin : ∀ s ∈ l, ∃ hk : placeT (wordsT l) s < (wordsT l).length, (wordsT l)[placeT (wordsT l) s] = s := fun s hs => (placeT_mem (wordsT_rises l)).2 (wordsT_mem.2 hs)
  unfold pickD
  rw [if_pos]
  · congr 1
    unfold placesT
    rw [List.map_map]
    conv => rhs; rw [← List.map_id l]
    refine List.map_congr_left fun s hs => ?_
    obtain ⟨hk, e⟩ := hin s hs
    show (wordsT l).getD ((placeT (wordsT l) s : Int)).toNat [] = s
    rw [Int.toNat_natCast, List.getD_eq_getElem?_getD, List.getElem?_eq_getElem hk]
    exact e
  · rw [List.all_eq_true]
    intro v hv
    obtain ⟨s, hs, rfl⟩ := List.mem_map.1 hv
    obtain ⟨hk, _⟩ := hin s hs
    simp only [inD, decide_eq_true_eq]
    omega
theorem enc_read {l : List (List UInt8)} (h : mayD l = true) : cntD (encD l) = (wordsT l).length ∧ gotD (wordsT l).length (encD l) = some l ∧ (plcD (wordsT l).length (encD l)).2.2 = false := by
  obtain ⟨h1, h2⟩ := (mayD_iff l).1 h
  have hw := wordsT_len l
  have e1 : stNum (encD l) false = ((wordsT l).length, rowsB (wordsT l) ++ rowsB [bestP (placesT l)], false) := by
    unfold encD
    rw [numsB_one, clamp_of_nat (by omega), stNum_dig _ _ (by omega)]
  have e2 : wrdD (wordsT l).length (encD l) = (wordsT l, rowsB [bestP (placesT l)], false) := by
    unfold wrdD
    rw [e1]
    exact takeR_rows _ _ fun s hs => by have := h2 s (wordsT_mem.1 hs); omega
  have hb := best_len (places_may h1) (by rw [placesT_len]; omega)
  have e3 : plcD (wordsT l).length (encD l) = (bestP (placesT l), [], false) := by
    unfold plcD
    rw [e2, rowsB_sing]
    have := stBytes_row (bestP (placesT l)) [] (by omega)
    rw [List.append_nil] at this
    exact this
  refine ⟨by unfold cntD; rw [e1], ?_, by rw [e3]⟩
  unfold gotD
  rw [e3, e2, decR_some (dec_best (places_may h1))]
  exact pick_places l
/-- what is read, if it is laid as just these bytes -/
def chkD (p : List UInt8) (o : Option (List (List UInt8))) : List (List UInt8) × Int := match o with
  | some l => if mayD l = true ∧ encD l = p then (l, 0) else ([], 2)
  | none => ([], 2)
open Classical in
noncomputable def decD (p : List UInt8) : List (List UInt8) × Int := if h : ∃ l, mayD l = true ∧ encD l = p then (Classical.choose h, 0) else ([], 2)
theorem enc_got {l : List (List UInt8)} (h : mayD l = true) {k : Nat} (hk : k = cntD (encD l) ∨ k = min (cntD (encD l)) 32769) : gotD k (encD l) = some l ∧ (plcD k (encD l)).2.2 = false := by
  obtain ⟨h1, h2, h3⟩ := enc_read h
  have hw := wordsT_len l
  have h4 := ((mayD_iff l).1 h).1
  have e : k = (wordsT l).length := by
    rcases hk with rfl | rfl
    · exact h1
    · rw [h1]; omega
  rw [e]
  exact ⟨h2, h3⟩
theorem dec_got (p : List UInt8) {k : Nat} (hk : k = cntD p ∨ k = min (cntD p) 32769) : decD p = chkD p (gotD k p) := by
  unfold decD
  split
  · rename_i h
    obtain ⟨h1, h2⟩ := Classical.choose_spec h
    rw [← h2] at hk
    have h3 := (enc_got h1 hk).1
    rw [h2] at h3
    rw [h3]
    unfold chkD
    simp only
    rw [if_pos ⟨h1, h2⟩]
  · rename_i h
    unfold chkD
    split
    · rename_i l _
      rw [if_neg (fun hx => h ⟨l, hx⟩)]
    · rfl
theorem dec_flag (p : List UInt8) {k : Nat} (hk : k = cntD p ∨ k = min (cntD p) 32769) (hb : (plcD k p).2.2 = true) : decD p = ([], 2) := by
  unfold decD
  rw [dif_neg]
  rintro ⟨l, h1, rfl⟩
  rw [(enc_got h1 hk).2] at hb
  cases hb
theorem dec_encD {l : List (List UInt8)} (h : mayD l = true) : decD (encD l) = (l, 0) := by
  rw [dec_got (encD l) (.inl rfl), (enc_got h (.inl rfl)).1]
  unfold chkD
  exact if_pos ⟨h, rfl⟩
theorem decD_may {p : List UInt8} : mayD (decD p).1 = true := by
  unfold decD
  split
  · rename_i h
    exact (Classical.choose_spec h).1
  · exact (mayD_iff _).2 ⟨by simp, by simp⟩

/-! ### one text, many times -/
theorem words_rep (s : List UInt8) (n : Nat) (h : 0 < n) : wordsT (List.replicate n s) = [s] := by
  refine (wordsT_of (List.pairwise_singleton _ _) fun x => ?_).symm
  rw [List.mem_singleton, List.mem_replicate]
  exact ⟨fun e => ⟨by omega, e⟩, fun e => e.2⟩
theorem places_rep (s : List UInt8) (n : Nat) (h : 0 < n) : placesT (List.replicate n s) = List.replicate n 0 := by
  unfold placesT
  rw [words_rep s n h, List.map_replicate]
  congr 1
  have : placeT [s] s = 0 := placeT_cons_ge (lt_irr s) (by simp)
  rw [this]
  rfl
theorem dig_two (x : Nat) (h : x ≤ 16383) : (dig (clamp (x : Int))).length ≤ 2 :=
  dig_len 2 _ (by rw [clamp_of_nat (by omega)]; have : (128 : Nat) ^ 2 = 16384 := rfl; omega) (by omega)
theorem many_len (s : List UInt8) (n : Nat) (hs : s.length ≤ 500) (h : 0 < n) (hn : n ≤ 2000) : (encD (List.replicate n s)).length ≤ s.length + 12 := by
  unfold encD
  rw [places_rep s n h, words_rep s n h, List.length_append, List.length_append, rowsB_sing, rowsB_sing, List.length_append, List.length_append]
  have c1 : (numsB [(([s] : List (List UInt8)).length : Int)]).length ≤ 1 := by
    rw [numsB_one]
    exact dig_small1 (by simp) (by simp)
  have c2 : (dig s.length).length ≤ 2 := by have := dig_two s.length (by omega); rwa [clamp_of_nat (by omega)] at this
  have c3 : (bestP (List.replicate n 0)).length ≤ 5 := by
    refine Nat.le_trans (best_le _ 2 (Nat.le_refl _)) ?_
    show (runsB _).length ≤ 5
    have c2 : (dig (clamp 2)).length ≤ 1 := dig_small1 (by omega) (by omega)
    have c1 : (dig (clamp 1)).length ≤ 1 := dig_small1 (by omega) (by omega)
    have c0 : (dig (clamp 0)).length ≤ 1 := dig_small1 (by omega) (by omega)
    unfold runsB runsP
    rw [List.length_replicate]
    obtain ⟨m, rfl⟩ : ∃ m, n = m + 1 := ⟨n - 1, by omega⟩
    rw [runsTo_rep 0 (m + 1) m (Nat.le_refl _)]
    have e2 : numsB [2, (([(m + 1, (0 : Int))] : List (Nat × Int)).length : Int)] ++ pairsB [(m + 1, (0 : Int))] = dig (clamp 2) ++ (dig (clamp 1) ++ (dig (clamp ((m + 1 : Nat) : Int)) ++ dig (clamp 0))) := by
      simp [pairsB, numsB_cons, numsB_nil]
    have c3 := dig_two (m + 1) (by omega)
    rw [e2, List.length_append, List.length_append, List.length_append]
    omega
  have c4 : (dig (bestP (List.replicate n 0)).length).length ≤ 1 := dig_len 1 _ (by have : (128 : Nat) ^ 1 = 128 := rfl; omega) (by omega)
  omega
end Go.Proofs.YtpjgkacekelkdaaDoor

/-
  DERIVED: THE SHELF's CONTRACTS AT THIS DUMP, IN PLAIN WORDS (tools/lay-plain.mjs out of 'YtpjgkacekelkdaaDoorShelfD0.lean', which tools/lay-shelf.mjs wrote): THE SAME DECLARATIONS UNDER THE SAME NAMES: 'import', 'namespace', 'open', 'def', 'theorem' AND NOTHING ELSE: no command of the shelf's: FOR A HAND-IN. Each laying: the table of numbers ('.._ren') and one theorem, a field a fact of the dump's own or the kernel's comparison; each contract: ONE APPLICATION.
-/
namespace Go.Proofs
open Go.Shelf
def Tryd.laySort_ren : Go.Shelf.Ren := ⟨fun | 190 => 68 | 125 => 79 | 258 => 78 | 128 => 91 | 129 => 92 | 302 => 83 | 303 => 84 | 304 => 85 | 305 => 86 | 306 => 87 | 307 => 88 | 308 => 80 | 309 => 89 | 310 => 90 | 333 => 96 | 329 => 97 | 330 => 98 | 334 => 99 | 335 => 100 | 336 => 93 | 344 => 101 | n => n, fun | 31 => 45 | 9 => 9 | 3 => 3 | 46 => 87 | 0 => 0 | 51 => 84 | 53 => 135 | 4 => 4 | 183 => 128 | 182 => 127 | 131 => 108 | 5 => 5 | 218 => 140 | 222 => 117 | 228 => 145 | 229 => 90 | n => n, fun | n => n⟩
theorem Tryd.laySort : Go.Proofs.Lays.n190 Tryd.prog Tryd.laySort_ren := {
  mixed := by kernel_rfl
  f125 := Tryd.func79.trans (congrArg some (by kernel_rfl))
  f128 := Tryd.func91.trans (congrArg some (by kernel_rfl))
  f129 := Tryd.func92.trans (congrArg some (by kernel_rfl))
  f190 := Tryd.func68.trans (congrArg some (by kernel_rfl))
  f258 := Tryd.func78.trans (congrArg some (by kernel_rfl))
  f302 := Tryd.func83.trans (congrArg some (by kernel_rfl))
  f303 := Tryd.func84.trans (congrArg some (by kernel_rfl))
  f304 := Tryd.func85.trans (congrArg some (by kernel_rfl))
  f305 := Tryd.func86.trans (congrArg some (by kernel_rfl))
  f306 := Tryd.func87.trans (congrArg some (by kernel_rfl))
  f307 := Tryd.func88.trans (congrArg some (by kernel_rfl))
  f308 := Tryd.func80.trans (congrArg some (by kernel_rfl))
  f309 := Tryd.func89.trans (congrArg some (by kernel_rfl))
  f310 := Tryd.func90.trans (congrArg some (by kernel_rfl))
  f329 := Tryd.func97.trans (congrArg some (by kernel_rfl))
  f330 := Tryd.func98.trans (congrArg some (by kernel_rfl))
  f333 := Tryd.func96.trans (congrArg some (by kernel_rfl))
  f334 := Tryd.func99.trans (congrArg some (by kernel_rfl))
  f335 := Tryd.func100.trans (congrArg some (by kernel_rfl))
  f336 := Tryd.func93.trans (congrArg some (by kernel_rfl))
  f344 := Tryd.func101.trans (congrArg some (by kernel_rfl))
  t0 := Tryd.underlying0
  a0 := Tryd.isAgg0
  z0 := Tryd.sizeOf0
  v0 := Tryd.zeroValue0
  t3 := Tryd.underlying3
  a3 := Tryd.isAgg3
  z3 := Tryd.sizeOf3
  v3 := Tryd.zeroValue3
  t4 := Tryd.underlying4
  a4 := Tryd.isAgg4
  z4 := Tryd.sizeOf4
  v4 := Tryd.zeroValue4
  t5 := Tryd.underlying5
  a5 := Tryd.isAgg5
  z5 := Tryd.sizeOf5
  v5 := Tryd.zeroValue5
  t9 := Tryd.underlying9
  a9 := Tryd.isAgg9
  z9 := Tryd.sizeOf9
  v9 := Tryd.zeroValue9
  t31 := Tryd.underlying45
  a31 := Tryd.isAgg45
  z31 := Tryd.sizeOf45
  v31 := Tryd.zeroValue45
  t46 := Tryd.underlying87
  a46 := Tryd.isAgg87
  z46 := Tryd.sizeOf87
  v46 := Tryd.zeroValue87
  t51 := Tryd.underlying84
  a51 := Tryd.isAgg84
  z51 := Tryd.sizeOf84
  v51 := Tryd.zeroValue84
  t53 := Tryd.underlying135
  a53 := Tryd.isAgg135
  z53 := Tryd.sizeOf135
  v53 := Tryd.zeroValue135
  t131 := Tryd.underlying108
  a131 := Tryd.isAgg108
  z131 := Tryd.sizeOf108
  v131 := Tryd.zeroValue108
  t182 := Tryd.underlying127
  a182 := Tryd.isAgg127
  z182 := Tryd.sizeOf127
  v182 := Tryd.zeroValue127
  t183 := Tryd.underlying128
  a183 := Tryd.isAgg128
  z183 := Tryd.sizeOf128
  v183 := Tryd.zeroValue128
  t218 := Tryd.underlying140
  a218 := Tryd.isAgg140
  z218 := Tryd.sizeOf140
  v218 := Tryd.zeroValue140
  t222 := Tryd.underlying117
  a222 := Tryd.isAgg117
  z222 := Tryd.sizeOf117
  v222 := Tryd.zeroValue117
  t228 := Tryd.underlying145
  a228 := Tryd.isAgg145
  z228 := Tryd.sizeOf145
  v228 := Tryd.zeroValue145
  t229 := Tryd.underlying90
  a229 := Tryd.isAgg90
  z229 := Tryd.sizeOf90
  v229 := Tryd.zeroValue90 }
def Tryd.laySearch_ren : Go.Shelf.Ren := ⟨fun | 26 => 70 | 33 => 80 | 34 => 81 | 38 => 93 | n => n, fun | 24 => 45 | 9 => 9 | 3 => 3 | 4 => 4 | 40 => 87 | 0 => 0 | n => n, fun | n => n⟩
theorem Tryd.laySearch : Go.Proofs.Lays2.n26 Tryd.prog Tryd.laySearch_ren := {
  mixed := by kernel_rfl
  f26 := Tryd.func70.trans (congrArg some (by kernel_rfl))
  f33 := Tryd.func80.trans (congrArg some (by kernel_rfl))
  f34 := Tryd.func81.trans (congrArg some (by kernel_rfl))
  f38 := Tryd.func93.trans (congrArg some (by kernel_rfl))
  t0 := Tryd.underlying0
  a0 := Tryd.isAgg0
  z0 := Tryd.sizeOf0
  v0 := Tryd.zeroValue0
  t3 := Tryd.underlying3
  a3 := Tryd.isAgg3
  z3 := Tryd.sizeOf3
  v3 := Tryd.zeroValue3
  t4 := Tryd.underlying4
  a4 := Tryd.isAgg4
  z4 := Tryd.sizeOf4
  v4 := Tryd.zeroValue4
  t9 := Tryd.underlying9
  a9 := Tryd.isAgg9
  z9 := Tryd.sizeOf9
  v9 := Tryd.zeroValue9
  t24 := Tryd.underlying45
  a24 := Tryd.isAgg45
  z24 := Tryd.sizeOf45
  v24 := Tryd.zeroValue45
  t40 := Tryd.underlying87
  a40 := Tryd.isAgg87
  z40 := Tryd.sizeOf87
  v40 := Tryd.zeroValue87 }
def Tryd.layCompact_ren : Go.Shelf.Ren := ⟨fun | 194 => 69 | n => n, fun | 31 => 45 | 9 => 9 | 3 => 3 | 4 => 4 | 0 => 0 | n => n, fun | n => n⟩
theorem Tryd.layCompact : Go.Proofs.Lays.n194 Tryd.prog Tryd.layCompact_ren := {
  mixed := by kernel_rfl
  f194 := Tryd.func69.trans (congrArg some (by kernel_rfl))
  t0 := Tryd.underlying0
  a0 := Tryd.isAgg0
  z0 := Tryd.sizeOf0
  v0 := Tryd.zeroValue0
  t3 := Tryd.underlying3
  a3 := Tryd.isAgg3
  z3 := Tryd.sizeOf3
  v3 := Tryd.zeroValue3
  t4 := Tryd.underlying4
  a4 := Tryd.isAgg4
  z4 := Tryd.sizeOf4
  v4 := Tryd.zeroValue4
  t9 := Tryd.underlying9
  a9 := Tryd.isAgg9
  z9 := Tryd.sizeOf9
  v9 := Tryd.zeroValue9
  t31 := Tryd.underlying45
  a31 := Tryd.isAgg45
  z31 := Tryd.sizeOf45
  v31 := Tryd.zeroValue45 }
end Go.Proofs

/-
  Texts, cloned, sorted, each once (program's Words): the library's contracts in these words. No statement of the seat is proved here.
-/
namespace Go.Proofs.YtpjgkacekelkdaaDoor
open Go Go.RowKit Go.Sort Go.Lib

set_option maxRecDepth 100000 in
theorem clone_strs {w : World} (A : Option Addr) (m c : Nat) (xs : List Value) (hl : xs.length = m) (hr : Rd w A xs) (h0 : A = none → m = 0 ∧ c = 0) (h1 : ∀ u ∈ xs, u.oneCell' = true) (hm : m ≤ 1000000) :
    Calls Tryd.prog 58 #[.slice A m c] w fun e w' => ∃ A' c', e = .returned (.slice A' m c') ∧ NewO w w' 9 1 A' m c' xs := by
  have he := Lib.run_eql_slice_nil (P := Tryd.prog) w 45 9 A m c 0 0 Tryd.underlying45
  rcases A with _ | ad
  · obtain ⟨rfl, rfl⟩ := h0 rfl
    have hnil : xs = [] := List.eq_nil_of_length_eq_zero hl
    subst hnil
    go_enter Tryd.func58, Tryd.ntmps58
    go_wp2
    go_ret
    exact ⟨none, 0, rfl, NewO.start _ _ _⟩
  · have hm1 : 0 + m ≤ maxLen := by unfold maxLen; omega
    have hm2 : (0 + m) * 16 ≤ 140737488355328 := by omega
    have hempty : NewO w (w.alloc (.cells #[] 9)) 9 1 (some ⟨w.heap.size, 0, none⟩) 0 0 [] := ⟨RowO.lit w 9 1 0 #[] rfl (Nat.zero_le _) rfl, ext_alloc (Below.refl _ _) _, fun k hk => by rw [inA_some] at hk; omega⟩
    have hrd := hr.alloc (.cells #[] 9)
    go_enter Tryd.func58, Tryd.ntmps58
    go_wp2_with (at_builtin
                 refine wpList_appO _ rfl (.tmp 5) (.tmp 6) _ rfl _ _ 1 16 Tryd.underlying45 info_str rfl (some ⟨w.heap.size, 0, none⟩) 0 0 [] rfl hempty.row (some ad) m c xs rfl (by rw [hl, Nat.mul_one]) hrd h1 ?_ hm1 hm2 ?_
                 · intro h; cases h
                 intro A2 c2 w2 hrow2 honly2 hA2)
    go_ret
    rw [List.nil_append] at hrow2
    rw [Nat.zero_add] at hrow2
    exact ⟨A2, c2, by first | rfl | simp, hempty.grow (Below.refl _ _) hrow2 honly2 hA2⟩

section
variable {w : World} {g off m c : Nat} {ss : List (List UInt8)}
theorem holds_strs (h : RowO w 9 1 (some ⟨g, off, none⟩) m c (ss.map strV)) : Holds encStr w g off ss.toArray := by
  intro j hj
  have hj' : j < ss.length := by simpa using hj
  refine ⟨?_, h.free _⟩
  obtain ⟨ad, e, hc⟩ := h.rd j _ (List.getElem?_eq_getElem (by simpa using hj'))
  injection e with e
  subst e
  rw [Addr.add_mid] at hc
  rw [hc]
  simp [hj']
  rfl
theorem sorted_strs (h : RowO w 9 1 (some ⟨g, off, none⟩) m c (ss.map strV)) (ts : List (List UInt8)) (hd : ts.length = ss.length) (n : Nat) (os : Array Obj) :
    RowO (grow (putRow encStr (Sort.ahead w n) g off ts.toArray) os) 9 1 (some ⟨g, off, none⟩) m c (ts.map strV) ∧ Only (inA (some ⟨g, off, none⟩)) w (grow (putRow encStr (Sort.ahead w n) g off ts.toArray) os) := by
  have h1 := h.1
  rcases h.2 with ⟨h2, _⟩ | ⟨g', off', cs, h2, h3, h4, hb, h6, h7⟩
  · cases h2
  · injection h2 with h2
    injection h2 with h2 h2' _
    subst h2 h2'
    have hg : g < w.heap.size := hb.lt
    have hb' := hb
    unfold Blk at hb'
    refine ⟨⟨by rw [List.length_map, hd]; rw [List.length_map] at h1; exact h1, .inr ⟨g, off, putCells encStr off ts.toArray cs, rfl, h3, h4, ?_, by simp [putCells]; omega, fun j u hu => ?_⟩⟩, ?_⟩
    · unfold Blk
      rw [heap_grow_old _ _ (by simpa using hg)]
      simp [putRow, mapBlock, Sort.ahead, Array.getElem?_modify, hb', onCells]
    · have hj : j < ts.length := by have := (List.getElem?_eq_some_iff.1 hu).1; simpa using this
      rw [List.length_map] at h1
      have hjs : off + j < cs.size := by omega
      unfold putCells
      rw [Array.getElem?_mapIdx, Array.getElem?_eq_getElem hjs]
      have hj2 : j < ts.toArray.size := by simpa using hj
      simp only [Option.map_some, List.size_toArray]
      rw [if_pos ⟨by omega, by omega⟩, show off + j - off = j by omega, getElem!_pos _ j hj2]
      rw [← hu, List.getElem?_map, List.getElem?_eq_getElem hj]
      simp
      rfl
    · refine ⟨rfl, rfl, rfl, by simp [grow, putRow, mapBlock, Sort.ahead], fun k hk hn => ?_⟩
      rw [inA_some] at hn
      rw [heap_grow_old _ _ (by simpa [putRow, mapBlock, Sort.ahead] using hk)]
      simp [putRow, mapBlock, Sort.ahead, Array.getElem?_modify, hn]
end
theorem sortstrs_any {w : World} {A : Option Addr} {c : Nat} {ss : List (List UInt8)} (h : RowO w 9 1 A ss.length c (ss.map strV)) (hl : ss.length ≤ 1000000) :
    Calls Tryd.prog 68 #[.slice A ss.length c] w fun e w' => e = .returned (.tuple #[]) ∧ ∃ ts : List (List UInt8), ts.Perm ss ∧ ts.Pairwise (fun a b => ¬ b < a) ∧ RowO w' 9 1 A ss.length c (ts.map strV) ∧ Only (inA A) w w' := by
  cases A with
  | none =>
    have h0 : ss = [] := by
      rcases h.2 with ⟨_, h1, _⟩ | ⟨_, _, _, h1, _⟩
      · exact List.eq_nil_of_length_eq_zero h1
      · cases h1
    subst h0
    have hs := Go.Proofs.Any.slices_Sort_string_none Tryd.laySort none c w
    change Calls Tryd.prog 68 _ _ _ at hs
    refine hs.mono ?_
    rintro e w' ⟨rfl, rfl⟩
    exact ⟨rfl, [], List.Perm.refl _, List.Pairwise.nil, h, Only.refl _ _⟩
  | some ad =>
    obtain ⟨g, off, e⟩ := h.flat ad rfl
    subst e
    have hs := Go.Proofs.Any.slices_Sort_string Tryd.laySort g off c ss w (holds_strs h) (h.lt ((inA_some g off g none).2 rfl)) (by omega)
    change Calls Tryd.prog 68 _ _ _ at hs
    refine hs.mono ?_
    rintro e w' ⟨rfl, n, os, rfl⟩
    have hperm := List.mergeSort_perm ss (fun x y => decide (x ≤ y))
    obtain ⟨h1, h2⟩ := sorted_strs h (ss.mergeSort fun x y => decide (x ≤ y)) hperm.length_eq n os
    refine ⟨rfl, _, hperm, ?_, h1, h2⟩
    have hsrt := List.pairwise_mergeSort (le := fun x y : List UInt8 => decide (x ≤ y)) (fun a b c h1 h2 => by
      simp only [decide_eq_true_eq] at *
      exact List.le_trans h1 h2) (fun a b => by
      simp only [Bool.or_eq_true, decide_eq_true_eq]
      exact List.le_total a b) ss
    refine hsrt.imp fun {a b} hab => ?_
    simp only [decide_eq_true_eq] at hab
    exact fun hlt => hab hlt

theorem holds_compact {w : World} {g off m c : Nat} {ss : List (List UInt8)} (h : RowO w 9 1 (some ⟨g, off, none⟩) m c (ss.map strV)) (n : Nat) (ts : List (List UInt8)) (ht : ts.length = ss.length) :
    RowO (putRow encStr (Sort.ahead w n) g off ts.toArray) 9 1 (some ⟨g, off, none⟩) m c (ts.map strV) ∧ Only (inA (some ⟨g, off, none⟩)) w (putRow encStr (Sort.ahead w n) g off ts.toArray) := by
  have hx := sorted_strs h ts ht n #[]
  have e : ∀ X : World, grow X #[] = X := fun X => by cases X; simp [grow]
  rw [e] at hx
  exact hx
theorem compact_le (zs : List (List UInt8)) : (Lib.compact zs).length ≤ zs.length := by
  unfold Lib.compact Lib.compactUpTo
  rw [List.length_map]
  exact Nat.le_trans (List.length_filter_le _ _) (by simp)
theorem compact_any {w : World} {A : Option Addr} {c : Nat} {ss : List (List UInt8)} (h : RowO w 9 1 A ss.length c (ss.map strV)) (hl : ss.length ≤ 1000000) :
    Calls Tryd.prog 69 #[.slice A ss.length c] w fun e w' => e = .returned (.slice A (Lib.compact ss).length c) ∧ RowO w' 9 1 A (Lib.compact ss).length c ((Lib.compact ss).map strV) ∧ Only (inA A) w w' := by
  by_cases h0 : ss = []
  · subst h0
    have hs := Go.Proofs.Any.slices_Compact_string_empty Tryd.layCompact A c w
    change Calls Tryd.prog 69 _ _ _ at hs
    refine hs.mono ?_
    rintro e w' ⟨rfl, rfl⟩
    exact ⟨rfl, h, Only.refl _ _⟩
  · cases A with
    | none =>
      rcases h.2 with ⟨_, h1, _⟩ | ⟨_, _, _, h1, _⟩
      · exact absurd (List.eq_nil_of_length_eq_zero h1) h0
      · cases h1
    | some ad =>
      obtain ⟨g, off, e⟩ := h.flat ad rfl
      subst e
      have hs := Go.Proofs.Any.slices_Compact_string Tryd.layCompact g off c ss w (holds_strs h) (by omega) h.le
      change Calls Tryd.prog 69 _ _ _ at hs
      refine hs.mono ?_
      rintro e w' ⟨rfl, n, rfl⟩
      have hle := compact_le ss
      obtain ⟨h1, h2⟩ := holds_compact h n (Lib.compact ss ++ List.replicate (ss.length - (Lib.compact ss).length) []) (by simp; omega)
      refine ⟨rfl, h1.sub hle (by rw [List.length_map, Nat.mul_one]) (fun j u hu => ?_), h2⟩
      rw [List.map_append, List.getElem?_append_left (List.getElem?_eq_some_iff.1 hu).1]
      exact hu
set_option maxRecDepth 100000 in
set_option maxHeartbeats 2000000 in
theorem words_any {w : World} (A : Option Addr) (c : Nat) (l : List (List UInt8)) (hA : Rd w A (l.map strV)) (h0 : A = none → c = 0) (hl : l.length ≤ 1000000) :
    Calls Tryd.prog 38 #[.slice A l.length c] w fun e w' => ∃ A' c', e = .returned (.slice A' (wordsT l).length c') ∧ NewO w w' 9 1 A' (wordsT l).length c' ((wordsT l).map strV) := by
  have hnil0 : A = none → l.length = 0 := fun e => by
    rcases l with _ | ⟨a, r⟩
    · rfl
    · obtain ⟨ad, e2, _⟩ := hA 0 _ rfl
      rw [e] at e2
      cases e2
  have hnil : A = none → l.length = 0 ∧ c = 0 := fun e => ⟨hnil0 e, h0 e⟩
  have HC := Lib.hid (clone_strs A l.length c (l.map strV) (by simp) hA hnil (strVs_one _) hl)
  have HW : Hid (∀ ts : List (List UInt8), ts.Perm l → ts.Pairwise (fun a b => ¬ b < a) → Lib.compact ts = wordsT l) := Lib.hid (fun ts hp hs => compact_words hs fun x => hp.mem_iff)
  generalize wordsT l = R at *
  have Hl := Lib.hid hl
  clear hA h0 hnil hnil0 hl
  go_enter Tryd.func38, Tryd.ntmps38
  go_wp2_with fail
  refine HC.out.mono ?_
  rintro e w1 ⟨A1, c1, rfl, hN1⟩
  have HS := Lib.hid (sortstrs_any hN1.row Hl.out)
  have HN1 := Lib.hid hN1
  clear hN1 HC
  go_wp2_with fail
  refine HS.out.mono ?_
  rintro e w2 ⟨rfl, ts, hp, hs, hr2, ho2⟩
  have hle := hp.length_eq
  rw [← hle] at hr2
  have HK := Lib.hid (compact_any hr2 (by rw [hle]; exact Hl.out))
  rw [hle, HW.out ts hp hs] at HK
  have HN2 : Hid (Below w.heap.size w w2) := Lib.hid (HN1.out.bel.trans (ho2.below (fun i hi => HN1.out.2.2 i hi) HN1.out.bel.size))
  clear hp hs hr2 ho2 hle HS HW
  go_wp2_with fail
  refine HK.out.mono ?_
  rintro e w3 ⟨rfl, hr3, ho3⟩
  have HN3 : Hid (NewO w w3 9 1 A1 R.length c1 (R.map strV)) := Lib.hid ⟨hr3, HN2.out.trans (ho3.below (fun i hi => HN1.out.2.2 i hi) HN2.out.size), HN1.out.2.2⟩
  clear hr3 ho3 HK
  go_wp2
  go_ret
  exact ⟨A1, c1, rfl, HN3.out⟩
end Go.Proofs.YtpjgkacekelkdaaDoor

/-
  Is any text too long; a text sought in a rising row; the places of texts (program). No statement of the seat is proved here.
-/
namespace Go.Proofs.YtpjgkacekelkdaaDoor
open Go Go.RowKit
set_option maxRecDepth 100000

theorem longD_any (s : List UInt8) (w : World) (hs : s.length ≤ maxLen) : Calls Tryd.prog 36 #[strV s] w fun e w' => e = .returned (.bool (longT s)) ∧ w = w' := by
  unfold maxLen at hs
  unfold strV
  have hsz : (⟨s.toArray⟩ : ByteArray).size = s.length := rfl
  obtain ⟨Z, hZ⟩ : ∃ Z : ByteArray, (⟨s.toArray⟩ : ByteArray) = Z := ⟨_, rfl⟩
  rw [hZ] at hsz ⊢
  have hd : Hid (longT s = decide ((4096 : Int) < (Z.size : Int))) := Lib.hid (by unfold longT; rw [hsz]; rw [decide_eq_decide]; omega)
  clear hZ hsz
  go_enter Tryd.func36, Tryd.ntmps36
  go_wp2
  go_ret
  exact ⟨by rw [hd.out]; rfl, rfl⟩
/-- where the first is -/
def idxD (l : List (List UInt8)) : Int := match l.findIdx? longT with | some k => (k : Int) | none => -1
theorem idxD_none {l : List (List UInt8)} (h : ∀ s ∈ l, longT s = false) : idxD l = -1 := by
  unfold idxD
  rw [List.findIdx?_eq_none_iff.2 h]
theorem idxD_some {l : List (List UInt8)} {k : Nat} (hk : k < l.length) (h1 : longT l[k] = true) (h2 : ∀ j (hj : j < k), longT (l[j]'(by omega)) = false) : idxD l = (k : Int) := by
  unfold idxD
  rw [List.findIdx?_eq_some_iff_getElem.2 ⟨hk, h1, fun j hj => by simp [h2 j hj]⟩]
theorem idxD_any (l : List (List UInt8)) : decide ((0 : Int) ≤ idxD l) = l.any longT := by
  unfold idxD
  cases h : l.findIdx? longT with
  | none =>
    rw [List.findIdx?_eq_none_iff] at h
    have : l.any longT = false := by rw [List.any_eq_false]; intro x hx; simp [h x hx]
    rw [this]; rfl
  | some k =>
    rw [List.findIdx?_eq_some_iff_getElem] at h
    obtain ⟨hk, h1, _⟩ := h
    have : l.any longT = true := List.any_eq_true.2 ⟨l[k], List.getElem_mem hk, h1⟩
    rw [this]
    exact decide_eq_true (by simp)

set_option maxHeartbeats 2000000 in
theorem indexD_any (A : Option Addr) (c : Nat) (l : List (List UInt8)) (w : World) (hA : Rd w A (l.map strV)) (hl : l.length ≤ 1000000) (hs : ∀ s ∈ l, s.length ≤ maxLen) :
    Calls Tryd.prog 67 #[.slice A l.length c, .func (.func 36) #[] #[]] w fun e w' => e = .returned (.int .i64 (idxD l)) ∧ w = w' := by
  have hli : (l.length : Int) ≤ 1000000 := by omega
  go_enter Tryd.func67, Tryd.ntmps67
  go_wp2
  go_loop [8] (fun i => ∃ k : Nat, k ≤ l.length ∧ i = .int .i64 (k : Int) ∧ ∀ j (hj : j < l.length), j < k → longT l[j] = false) (fun i => l.length - (intOf i).toNat)
  case atStart => exact ⟨0, Nat.zero_le _, rfl, fun j _ h => absurd h (by omega)⟩
  case round =>
    obtain ⟨k, hk, rfl, hno⟩ := hrel
    have Hno := Lib.hid hno
    by_cases hlt : k < l.length
    · have hki : (k : Int) < (l.length : Int) := by omega
      obtain ⟨ad, rfl, hcell⟩ := rd_str hA hlt
      have HL := Lib.hid (longD_any l[k] w (hs _ (List.getElem_mem hlt)))
      unfold strV at hcell HL
      obtain ⟨Z, hZ⟩ : ∃ Z : ByteArray, (⟨l[k].toArray⟩ : ByteArray) = Z := ⟨_, rfl⟩
      rw [hZ] at hcell HL
      have HI : Hid (longT l[k] = true → idxD l = (k : Int)) := Lib.hid (fun h => idxD_some hlt h (fun j hj => hno j (by omega) hj))
      have HF : Hid (longT l[k] = false → ∀ j (hj : j < l.length), j < k + 1 → longT l[j] = false) := Lib.hid (fun h j hj hj2 => by
        rcases Nat.lt_succ_iff_lt_or_eq.1 hj2 with h3 | rfl
        · exact hno j hj h3
        · exact h)
      clear hZ hno
      generalize longT l[k] = v at *
      go_wp2_with fail
      refine HL.out.mono ?_
      rintro e w' ⟨rfl, rfl⟩
      cases v with
      | true =>
        have Hi := Lib.hid (HI.out rfl)
        go_wp2
        go_ret
        exact ⟨by rw [Hi.out]; rfl, rfl⟩
      | false =>
        have Hf := Lib.hid (HF.out rfl)
        clear HF HI
        go_wp2
        go_round
        case rel => exact ⟨k + 1, by omega, by go_num, Hf.out⟩
        case measure => simp [intOf]; omega
    · obtain rfl : k = l.length := by omega
      have hi : idxD l = -1 := idxD_none (fun s hs => by
        obtain ⟨j, hj, rfl⟩ := List.mem_iff_getElem.1 hs
        exact hno j hj hj)
      have Hi := Lib.hid hi
      clear hno hi
      go_wp2
      go_ret
      exact ⟨by rw [Hi.out]; rfl, rfl⟩
theorem containsD_any (A : Option Addr) (c : Nat) (l : List (List UInt8)) (w : World) (hA : Rd w A (l.map strV)) (hl : l.length ≤ 1000000) (hs : ∀ s ∈ l, s.length ≤ maxLen) :
    Calls Tryd.prog 37 #[.slice A l.length c, .func (.func 36) #[] #[]] w fun e w' => e = .returned (.bool (l.any longT)) ∧ w = w' := by
  have HI := Lib.hid (indexD_any A c l w hA hl hs)
  have Hd := Lib.hid (idxD_any l)
  generalize idxD l = v at *
  go_enter Tryd.func37, Tryd.ntmps37
  go_wp2_with fail
  refine HI.out.mono ?_
  rintro e w' ⟨rfl, rfl⟩
  go_wp2
  go_ret
  exact ⟨by rw [← Hd.out]; rfl, rfl⟩


theorem flat_of_cellD {w : World} {a : Addr} {u : Value} (h : w.cell? (a.add 0) = some u) : ∃ g o, a = ⟨g, o, none⟩ := spot_none h
theorem search_place {w : World} (A : Option Addr) (c : Nat) (ns : List (List UInt8)) (x : List UInt8) (hr : Rd w A (ns.map strV)) (hs : CalmT ns) (hn : ns.length ≤ 1000000) :
    Calls Tryd.prog 70 #[.slice A ns.length c, strV x] w fun e w' => ∃ v : Bool, e = .returned (.tuple #[.int .i64 (placeT ns x : Int), .bool v]) ∧ ∃ q, w' = w.drewN q := by
  by_cases hne : ns = []
  · subst hne
    have h := Go.Proofs.Any2.slices_BinarySearch_string_empty Tryd.laySearch A c ⟨x.toArray⟩ w
    change Calls Tryd.prog 70 _ _ _ at h
    refine h.mono ?_
    rintro e w' ⟨rfl, rfl⟩
    exact ⟨false, rfl, 0, rfl⟩
  · have hpos : 0 < ns.length := List.length_pos_iff.2 hne
    obtain ⟨ad, rfl, hc0⟩ := rd_str hr hpos
    obtain ⟨g, o, rfl⟩ := flat_of_cellD hc0
    obtain ⟨Sx, hSx⟩ : ∃ Sx : Nat → ByteArray, Sx = fun j => ⟨(ns.getD j x).toArray⟩ := ⟨_, rfl⟩
    have hcell : ∀ j, j < ns.length → w.cell? ⟨g, o + j, none⟩ = some (.string (Sx j)) := fun j hj => by
      obtain ⟨ad', e', hc⟩ := rd_str hr hj
      injection e' with e'
      subst e'
      rw [Addr.add_mid] at hc
      rw [hc, hSx]
      simp only
      rw [List.getD_eq_getElem?_getD, List.getElem?_eq_getElem hj]; rfl
    have h := Go.Proofs.Any2.slices_BinarySearch_string Tryd.laySearch g o ns.length c Sx ⟨x.toArray⟩ w (by omega) hcell
    change Calls Tryd.prog 70 _ _ _ at h
    refine h.mono ?_
    rintro e w' ⟨rfl, q, rfl⟩
    have hless : ∀ t, Op.bytesLess (Sx t).toList (⟨x.toArray⟩ : ByteArray).toList = decide (ns.getD t x < x) := fun t => by
      rw [hSx, Go.Proofs.bytesLess_eq, ByteArray.toList_mk, ByteArray.toList_mk]
    obtain ⟨g1, g2⟩ := placeT_spec (s := x) hs
    have hle := placeT_le ns x
    have hgd : ∀ t (ht : t < ns.length), ns.getD t x = ns[t] := fun t ht => by rw [List.getD_eq_getElem?_getD, List.getElem?_eq_getElem ht]; rfl
    have hgo : Lib.bsGo (fun t => Op.bytesLess (Sx t).toList (⟨x.toArray⟩ : ByteArray).toList) ns.length 0 ns.length = placeT ns x :=
      Lib.bsGo_spec _ (placeT ns x) (fun t ht => by
        rw [hless]
        have htl : t < ns.length := by omega
        exact decide_eq_true (by rw [hgd t htl]; exact g1 t htl ht)) (fun t ht => by
        rw [hless]
        refine decide_eq_false ?_
        by_cases htl : t < ns.length
        · rw [hgd t htl]; exact g2 t htl ht
        · rw [List.getD_eq_getElem?_getD, List.getElem?_eq_none (by omega)]
          exact lt_irr _) _ _ _ (by omega) (Nat.zero_le _) hle
    rw [hgo]
    exact ⟨_, rfl, q, rfl⟩

/-! ### places -/
def plcR (W l : List (List UInt8)) (k : Nat) : List Value := ((l.take k).map fun s => iv (placeT W s : Int)) ++ List.replicate (l.length - k) (iv 0)
theorem plcR_len (W l : List (List UInt8)) (k : Nat) (h : k ≤ l.length) : (plcR W l k).length = l.length := by unfold plcR; simp; omega
theorem plcR_set (W l : List (List UInt8)) (k : Nat) (h : k < l.length) : (plcR W l k).set k (iv (placeT W l[k] : Int)) = plcR W l (k + 1) := by
  unfold plcR
  have e : l.length - k = (l.length - (k + 1)) + 1 := by omega
  have e2 : ((l.take k).map fun s => iv (placeT W s : Int)).length = k := by simp; omega
  rw [List.set_append, if_neg (by omega), e2, Nat.sub_self, e, List.replicate_succ, List.set_cons_zero, List.take_succ_eq_append_getElem h, List.map_append, List.append_assoc]
  rfl
theorem plcR_all (W l : List (List UInt8)) : plcR W l l.length = (l.map fun s => (placeT W s : Int)).map iv := by
  unfold plcR
  rw [List.take_length, Nat.sub_self, List.replicate_zero, List.append_nil, List.map_map]
  rfl
theorem plcR_zero (W l : List (List UInt8)) : plcR W l 0 = repR l.length 0 0 := by simp [plcR, repR]

set_option maxHeartbeats 4000000 in
theorem placesOf_any (A : Option Addr) (c : Nat) (l : List (List UInt8)) (B : Option Addr) (d : Nat) (W : List (List UInt8)) (w : World) (hA : Rd w A (l.map strV)) (hB : Rd w B (W.map strV)) (hs : CalmT W) (hl : l.length ≤ 32768) (hW : W.length ≤ 1000000) :
    Calls Tryd.prog 39 #[.slice A l.length c, .slice B W.length d] w fun e w' => ∃ G, e = .returned (.slice (some ⟨G, 0, none⟩) l.length l.length) ∧ Rd w' (some ⟨G, 0, none⟩) ((l.map fun s => (placeT W s : Int)).map iv) ∧ Below w.heap.size w w' := by
  have hli : (l.length : Int) ≤ 32768 := by omega
  have HA := Lib.hid hA
  have HB := Lib.hid hB
  have HS := Lib.hid (fun (x : List UInt8) (V : World) (hV : Rd V B (W.map strV)) => search_place B d W x hV hs hW)
  have HE := Lib.hid (plcR_all W l)
  have HLn := Lib.hid (plcR_len W l)
  have HSt := Lib.hid (plcR_set W l)
  have hmk := fun V => make_ints V l.length (by omega)
  rw [Nat.mul_one] at hmk
  have HR : Hid (RowO (w.alloc (.cells (madeCells #[.int .i64 0] l.length) 3)) 3 1 (some ⟨w.heap.size, 0, none⟩) l.length l.length (plcR W l 0)) := Lib.hid (by rw [plcR_zero]; exact row_made w l.length 0 (by omega))
  have Hb1 : Hid (Below w.heap.size w (w.alloc (.cells (madeCells #[.int .i64 0] l.length) 3))) := Lib.hid (ext_alloc (Below.refl _ _) _)
  obtain ⟨G, hG⟩ : ∃ G, w.heap.size = G := ⟨_, rfl⟩
  have HG := Lib.hid hG
  rw [hG] at HR
  obtain ⟨W1, hW1⟩ : ∃ W1, W1 = w.alloc (.cells (madeCells #[.int .i64 0] l.length) 3) := ⟨_, rfl⟩
  have hmk2 : (Instr.makeSlice 49 (.int .i64 (l.length : Int)) (.int .i64 (l.length : Int))).run Tryd.prog w = .ok (.slice (some ⟨G, 0, none⟩) l.length l.length) W1 := by rw [hW1, ← hG]; exact hmk w
  rw [← hW1] at HR Hb1
  clear hW1 hmk hG hA hB hs
  go_enter Tryd.func39, Tryd.ntmps39
  go_wp2
  go_loopw [13] (fun i wr => ∃ (k : Nat), k ≤ l.length ∧ i = .int .i64 (k : Int) ∧ Hid (RowO wr 3 1 (some ⟨G, 0, none⟩) l.length l.length (plcR W l k)) ∧ Hid (Below w.heap.size w wr)) (fun i _ => l.length - (intOf i).toNat)
  case atStart => exact ⟨0, Nat.zero_le _, rfl, HR, Hb1⟩
  case round =>
    obtain ⟨k, hk, rfl, HRr, Hbr⟩ := hrel
    by_cases hlt : k < l.length
    · have hki : (k : Int) < (l.length : Int) := by omega
      obtain ⟨ad, e, hcell⟩ := HRr.out.rd.at_ (k := k) (by rw [HLn.out k hk]; exact hlt)
      injection e with e
      subst e
      rw [Addr.add_mid] at hcell
      have hfr := HRr.out.free (0 + k)
      obtain ⟨ad2, hA2, hcell2⟩ := rd_str (HA.out.ext Hbr.out) hlt
      subst hA2
      have HSx := Lib.hid (HS.out l[k] wr (HB.out.ext Hbr.out))
      have HP : Hid (∀ q, RowO ((wr.drewN q).setCell ⟨G, 0 + k, none⟩ (iv (placeT W l[k] : Int))) 3 1 (some ⟨G, 0, none⟩) l.length l.length (plcR W l (k + 1)) ∧ Below w.heap.size w ((wr.drewN q).setCell ⟨G, 0 + k, none⟩ (iv (placeT W l[k] : Int)))) := Lib.hid (fun q => ⟨by
        have h := (HRr.out.drewN q).set k (by rw [HLn.out k hk]; exact hlt) (iv (placeT W l[k] : Int))
        rw [HSt.out k hlt] at h
        exact h, (ext_drewN Hbr.out q).setCell (p := ⟨G, 0 + k, none⟩) (Nat.le_of_eq HG.out) _⟩)
      unfold iv at HP
      obtain ⟨y, hy⟩ : ∃ y, (plcR W l k)[k]'(by rw [HLn.out k hk]; exact hlt) = y := ⟨_, rfl⟩
      rw [hy] at hcell
      rw [Nat.zero_add] at hcell hfr HP
      generalize placeT W l[k] = pl at *
      unfold strV at hcell2 HSx
      obtain ⟨Z, hZ⟩ : ∃ Z : ByteArray, (⟨l[k].toArray⟩ : ByteArray) = Z := ⟨_, rfl⟩
      rw [hZ] at hcell2 HSx
      clear hy hZ
      go_wp2_with fail
      refine HSx.out.mono ?_
      rintro e w' ⟨v, rfl, q, rfl⟩
      have hcell3 : (wr.drewN q).cell? ⟨G, k, none⟩ = some y := hcell
      have hfr3 : (wr.drewN q).frozen? ⟨G, k, none⟩ = false := hfr
      have Hp := Lib.hid (HP.out q)
      clear hcell hfr HP
      go_wp2
      go_roundw
      case rel => exact ⟨k + 1, by omega, by go_num, Lib.hid Hp.out.1, Lib.hid Hp.out.2⟩
      case measure => simp [intOf]; omega
    · obtain rfl : k = l.length := by omega
      have HRd : Hid (Rd wr (some ⟨G, 0, none⟩) ((l.map fun s => (placeT W s : Int)).map iv)) := Lib.hid (by rw [← HE.out]; exact HRr.out.rd)
      go_wp2
      go_ret
      exact ⟨G, rfl, HRd.out, Hbr.out⟩
end Go.Proofs.YtpjgkacekelkdaaDoor

/-
  Encode (program). No statement of the seat is proved here.
-/
namespace Go.Proofs.YtpjgkacekelkdaaDoor
open Go Go.RowKit
set_option maxRecDepth 100000

theorem rowsTo_lenD (l : List (List UInt8)) (h : ∀ s ∈ l, s.length ≤ 4096) : ∀ k, (rowsTo l k).length ≤ 4105 * k
  | 0 => by simp [rowsTo, rowsB]
  | k + 1 => by
    have ih := rowsTo_lenD l h k
    by_cases hk : k < l.length
    · rw [rowsTo_succ l k hk, List.length_append, List.length_append]
      have h1 := h _ (List.getElem_mem hk)
      have h2 : (dig l[k].length).length ≤ 9 := dig_len 9 _ (by have : (128 : Nat) ^ 9 = 9223372036854775808 := rfl; omega) (by omega)
      omega
    · have e : rowsTo l (k + 1) = rowsTo l k := by
        unfold rowsTo
        rw [List.take_of_length_le (by omega), List.take_of_length_le (by omega)]
      rw [e]
      omega
theorem rowsB_lenD (s : List UInt8) (h : s.length ≤ 2000000) : (rowsB [s]).length ≤ 2000009 := by
  rw [rowsB_sing, List.length_append]
  have h2 : (dig s.length).length ≤ 9 := dig_len 9 _ (by have : (128 : Nat) ^ 9 = 9223372036854775808 := rfl; omega) (by omega)
  omega
/-- how long it can be -/
theorem encD_len {l : List (List UInt8)} (h : mayD l = true) : (encD l).length ≤ 200000000 := by
  obtain ⟨h1, h2⟩ := (mayD_iff l).1 h
  have hw := wordsT_len l
  have hL := rowsTo_lenD (wordsT l) (fun s hs => h2 s (wordsT_mem.1 hs)) (wordsT l).length
  rw [rowsTo_all] at hL
  have hb := rowsB_lenD (bestP (placesT l)) (best_len (places_may h1) (by rw [placesT_len]; omega))
  have hn := dig_nine ((wordsT l).length : Int)
  unfold encD
  rw [List.length_append, List.length_append]
  omega
theorem mayD_len {l : List (List UInt8)} (h : ¬ l.length ≤ 32768) : mayD l = false := by unfold mayD; rw [decide_eq_false h]; rfl

set_option maxHeartbeats 8000000 in
theorem encodeD_any (A : Option Addr) (c : Nat) (l : List (List UInt8)) (w : World) (hA : Rd w A (l.map strV)) (h0 : A = none → c = 0) (hl : l.length ≤ 1000000) (hs : ∀ s ∈ l, s.length ≤ maxLen) :
    Calls Tryd.prog 18 #[.slice A l.length c] w fun e w' => ∃ A' c', e = .returned (.tuple #[.slice A' (ansD l).1.length c', .int .i64 (ansD l).2]) ∧ New w w' A' c' (ansD l).1 ∧ Below w.heap.size w w' := by
  by_cases h1 : l.length ≤ 32768
  case neg =>
    have h1i : (32768 : Int) < (l.length : Int) := by omega
    have HR : Hid (ansD l = ([], 1)) := Lib.hid (by unfold ansD; rw [mayD_len h1]; rfl)
    clear hA hs h0
    go_enter Tryd.func18, Tryd.ntmps18
    go_wp2
    go_ret2
    rw [HR.out]
    exact ⟨none, 0, rfl, Own.none_ _ _ _, Below.refl _ _⟩
  have h1i : ¬ (32768 : Int) < (l.length : Int) := by omega
  have HC := Lib.hid (containsD_any A c l w hA hl hs)
  cases hm : l.any longT with
  | true =>
    have HR : Hid (ansD l = ([], 1)) := Lib.hid (by unfold ansD mayD; rw [hm]; simp)
    rw [hm] at HC
    clear hA hs h0 hm
    go_enter Tryd.func18, Tryd.ntmps18
    go_wp2_with fail
    refine HC.out.mono ?_
    rintro e w1 ⟨rfl, rfl⟩
    go_wp2
    go_ret2
    rw [HR.out]
    exact ⟨none, 0, rfl, Own.none_ _ _ _, Below.refl _ _⟩
  | false =>
    have hmy : mayD l = true := by unfold mayD; rw [hm, decide_eq_true h1]; rfl
    have h4 := ((mayD_iff l).1 hmy).2
    have HR : Hid (ansD l = (encD l, 0)) := Lib.hid (by unfold ansD; rw [if_pos hmy])
    have HWd := Lib.hid (words_any A c l hA h0 hl)
    have HWl := Lib.hid (wordsT_len l)
    have H4 : Hid (∀ s ∈ wordsT l, s.length ≤ 4096) := Lib.hid (fun s hs => h4 s (wordsT_mem.1 hs))
    have HPl : Hid (∀ (B : Option Addr) (d : Nat) (W : World), Below w.heap.size w W → Rd W B ((wordsT l).map strV) → Calls Tryd.prog 39 #[.slice A l.length c, .slice B (wordsT l).length d] W fun e w' => ∃ G, e = .returned (.slice (some ⟨G, 0, none⟩) l.length l.length) ∧ Rd w' (some ⟨G, 0, none⟩) ((placesT l).map iv) ∧ Below W.heap.size W w') := Lib.hid (fun B d W hb hB => placesOf_any A c l B d (wordsT l) W (hA.ext hb) hB (wordsT_rises l).calm h1 (by have := wordsT_len l; omega))
    have HBs : Hid (∀ (G : Nat) (W : World), Rd W (some ⟨G, 0, none⟩) ((placesT l).map iv) → WayC 17 (some ⟨G, 0, none⟩) l.length l.length (bestP (placesT l)) W) := Lib.hid (fun G W hW => by
      have h := way_of (places_may h1) (bBest_any (some ⟨G, 0, none⟩) l.length (placesT l) W hW)
      rw [placesT_len] at h
      exact h)
    have HE : Hid (encD l = numsB [((wordsT l).length : Int)] ++ (rowsTo (wordsT l) (wordsT l).length ++ rowsB [bestP (placesT l)])) := Lib.hid (by rw [rowsTo_all]; rfl)
    have HBl : Hid ((bestP (placesT l)).length ≤ 2000000) := Lib.hid (best_len (places_may h1) (by rw [placesT_len]; omega))
    rw [hm] at HC
    unfold WayC at HBs
    generalize placesT l = PL at *
    generalize wordsT l = Wd at *
    generalize bestP PL = b at *
    have HL := Lib.hid (rowsTo_lenD Wd H4.out)
    have HN1 : Hid ((numsB [(Wd.length : Int)]).length ≤ 9) := Lib.hid (dig_nine _)
    have Hli : Hid ((Wd.length : Int) ≤ 32768) := Lib.hid (by have := HWl.out; omega)
    clear hA hs h0 hm hmy h4
    go_enter Tryd.func18, Tryd.ntmps18
    go_wp2_with fail
    refine HC.out.mono ?_
    rintro e w1 ⟨rfl, rfl⟩
    clear HC
    go_wp2_with fail
    refine HWd.out.mono ?_
    rintro e w1 ⟨A1, c1, rfl, hN⟩
    have HX := Lib.hid (HPl.out A1 c1 w1 hN.bel hN.rd)
    have Hb1 := Lib.hid hN.bel
    have Hr1 := Lib.hid hN.rd
    clear hN HPl HWd
    go_wp2_with fail
    refine HX.out.mono ?_
    rintro e w2 ⟨G, rfl, hr2, hb2⟩
    have HY := Lib.hid (HBs.out G w2 hr2)
    have Hb2 := Lib.hid (ext_trans Hb1.out hb2)
    have Hr2 := Lib.hid (Hr1.out.ext hb2)
    clear hr2 hb2 HX HBs
    go_wp2_with fail
    refine HY.out.mono ?_
    rintro e w3 ⟨A3, c3, rfl, hr3, hc3, hb3⟩
    have Hb3 := Lib.hid (ext_trans Hb2.out hb3)
    have Hr3 := Lib.hid (Hr2.out.ext hb3)
    have Hp3 := Lib.hid hr3
    have Hc3 := Lib.hid hc3
    clear hr3 hb3 hc3 HY Hr2 Hr1
    obtain ⟨W4, hW4⟩ : ∃ W4, W4 = w3.alloc (.cells #[.slice none 0 0] 56) := ⟨_, rfl⟩
    have HWr : Hid (Wr W4 (fun k => k = w3.heap.size) w3.heap.size []) := Lib.hid (by rw [hW4]; exact Wr.new w3 _ rfl)
    have HZ4 : Hid (W4.heap.size = w3.heap.size + 1) := Lib.hid (by rw [hW4, World.size_alloc])
    have Hb4 : Hid (Below w3.heap.size w3 W4) := Lib.hid (by rw [hW4]; exact ext_alloc (Below.refl _ _) _)
    have HW4 := Lib.hid hW4
    have hwi : isInt (Wd.length : Int) := ⟨by omega, by have := Hli.out; omega⟩
    have Hwi := Lib.hid hwi
    obtain ⟨g, hg⟩ : ∃ g, w3.heap.size = g := ⟨_, rfl⟩
    clear hW4 hwi
    go_wp2_with fail
    rw [← HW4.out]
    rw [hg] at HWr HZ4
    have Hg := Lib.hid hg
    clear hg
    refine (nums_any (fun k => k = g) g (some ⟨g + 1, 0, none⟩) 1 1 [(Wd.length : Int)] [] _ (HWr.out.alloc _) rfl (RdF.lit W4 #[.int .i64 (Wd.length : Int)] _ HZ4.out.symm (by omega)) (by
      intro v hv
      simp only [List.mem_cons, List.not_mem_nil, or_false] at hv
      subst hv
      exact Hwi.out) (by simp)).mono ?_
    rintro e w5 ⟨rfl, hr5, ho5⟩
    obtain ⟨Nb, hN⟩ : ∃ N, numsB [(Wd.length : Int)] = N := ⟨_, rfl⟩
    rw [hN] at hr5 HE HN1
    rw [List.nil_append] at hr5
    have hO5 : Only (fun k => k = g) W4 w5 := ((Only.refl _ _).alloc _).trans ho5 (fun _ _ h => h)
    have HR5 : Hid (Wr w5 (More (fun k => k = g) W4 w5) g (Nb.map bv)) := Lib.hid (wr_more (by simp) hr5)
    have HO5 := Lib.hid hO5
    have HK : Hid (∀ W, Only (fun k => k = g) W4 W → Below w3.heap.size w3 W) := Lib.hid (fun W ho => Hb4.out.trans (ho.below (fun i hi => by have := Hg.out; omega) Hb4.out.size))
    clear hN hr5 ho5 hO5
    have hli2 : (Wd.length : Int) ≤ 32768 := Hli.out
    go_wp2
    go_loopw [37] (fun i wr => ∃ k : Nat, k ≤ Wd.length ∧ i = .int .i64 (k : Int) ∧ Wr wr (More (fun k => k = g) W4 wr) g ((Nb ++ rowsTo Wd k).map bv) ∧ Only (fun k => k = g) W4 wr) (fun i _ => Wd.length - (intOf i).toNat)
    case atStart => exact ⟨0, Nat.zero_le _, rfl, by simpa [rowsTo, rowsB] using HR5.out, HO5.out⟩
    case round =>
      obtain ⟨k, hk, rfl, hr, ho⟩ := hrel
      have Hr := Lib.hid hr
      have Ho := Lib.hid ho
      have hll := HL.out k
      have hnl := HN1.out
      have hwl2 := HWl.out
      by_cases hlt : k < Wd.length
      · have hki : (k : Int) < (Wd.length : Int) := by omega
        obtain ⟨ad, hB, hcell⟩ := rd_str (Hr3.out.ext (HK.out wr ho)) hlt
        subst hB
        have Hsn : Hid (Nb ++ rowsTo Wd (k + 1) = (Nb ++ rowsTo Wd k) ++ rowsB [Wd[k]]) := Lib.hid (by rw [rowsTo_succ Wd k hlt, rowsB_sing]; simp)
        have Hll : Hid ((rowsB [Wd[k]]).length ≤ 2000009) := Lib.hid (rowsB_lenD _ (by have := H4.out _ (List.getElem_mem hlt); omega))
        have Hpre : Hid (Nb.length + (rowsTo Wd k).length ≤ 200000000) := Lib.hid (by omega)
        generalize Wd[k] = s at *
        obtain ⟨cc, wc, hcv, hcc, hrc, hbc, hzc⟩ := str_row wr s
        unfold strV at hcell
        have Hrc := Lib.hid hrc
        have Hbc := Lib.hid hbc
        have Hzc := Lib.hid hzc
        have Hcc := Lib.hid hcc
        clear hr ho hrc hbc hzc hll hnl hcc hwl2
        go_wp2_with fail
        refine (bytes_any (More (fun k => k = g) W4 wr) g _ 1 1 [s] ((Nb ++ rowsTo Wd k).map bv) _ ((Hr.out.ext Hbc.out).alloc _) rfl (RowsF.one ⟨Hrc.out, fun ad e _ hm => ?_⟩ Hcc.out _ rfl (fun hm => ?_)) (by simp only [List.length_map, List.length_append]; have := Hpre.out; have := Hll.out; omega) (by simp)).mono ?_
        · injection e with e
          subst e
          rcases hm with hm | hm
          · have h1 := Ho.out.size; have h2 := HZ4.out; simp at hm; omega
          · have := hm.2; simp at this
        · rcases hm with hm | hm
          · have h1 := Ho.out.size; have h2 := HZ4.out; have h3 := Hzc.out; omega
          · have := hm.2; have h3 := Hzc.out; omega
        rintro e w6 ⟨rfl, hr6, ho6⟩
        have hOb : Only (fun k => k = g) W4 (wc.alloc (.cells #[.slice (some ⟨wr.heap.size, 0, none⟩) s.length cc] 29)) := (Ho.out.trans (Only.of_ext Hbc.out) (fun _ _ h => h)).alloc _
        have hR6 : Wr w6 (More (fun k => k = g) W4 w6) g ((Nb ++ rowsTo Wd (k + 1)).map bv) := by
          rw [Hsn.out, List.map_append]
          exact Wr.join Ho.out.size (by rw [World.size_alloc, Hzc.out]; omega) ho6.size hr6
        have hO6 := hOb.join ho6
        have HR6 := Lib.hid hR6
        have HO6 := Lib.hid hO6
        clear hr6 ho6 hOb hR6 hO6
        go_wp2
        go_roundw
        case rel => exact ⟨k + 1, by omega, by go_num, HR6.out, HO6.out⟩
        case measure => simp [intOf]; omega
      · obtain rfl : k = Wd.length := by omega
        have Hpre : Hid (Nb.length + (rowsTo Wd Wd.length).length ≤ 200000000) := Lib.hid (by omega)
        have Hbl : Hid ((rowsB [b]).length ≤ 2000009) := Lib.hid (rowsB_lenD _ HBl.out)
        have Hpb : Hid (RdF (More (fun k => k = g) W4 wr) wr A3 (b.map bv)) := Lib.hid ⟨Hp3.out.ext (HK.out wr ho), fun ad e hne hm => by
          have hlt : ad.block < w3.heap.size := by
            rcases hb : b.map bv with _ | ⟨x, r⟩
            · exact absurd hb hne
            · obtain ⟨ad', e', hc⟩ := Hp3.out 0 x (by rw [hb]; rfl)
              rw [e] at e'
              injection e' with e'
              subst e'
              have := World.block_lt_of_cell? w3 _ hc
              rw [block_add] at this
              exact this
          have h1 := Hg.out
          have h2 := HZ4.out
          rcases hm with hm | hm
          · omega
          · have := hm.1; omega⟩
        have hsz := Ho.out.size
        have hz4 := HZ4.out
        have Hgw : Hid (¬ More (fun k => k = g) W4 wr wr.heap.size) := Lib.hid (fun hm => by
          rcases hm with hm | hm
          · omega
          · have := hm.2; omega)
        clear hr ho hll hnl hwl2 hsz hz4
        go_wp2_with fail
        refine (bytes_any (More (fun k => k = g) W4 wr) g _ 1 1 [b] ((Nb ++ rowsTo Wd Wd.length).map bv) _ (Hr.out.alloc _) rfl (RowsF.one Hpb.out Hc3.out _ rfl Hgw.out) (by simp only [List.length_map, List.length_append]; have := Hpre.out; have := Hbl.out; omega) (by simp)).mono ?_
        rintro e w6 ⟨rfl, hr6, ho6⟩
        have hR6 : Wr w6 (More (fun k => k = g) W4 w6) g (((Nb ++ rowsTo Wd Wd.length) ++ rowsB [b]).map bv) := by
          rw [List.map_append]
          exact Wr.join Ho.out.size (by rw [World.size_alloc]; omega) ho6.size hr6
        have hO6 := (Ho.out.alloc (.cells #[.slice A3 b.length c3] 29)).join ho6
        have HF := Lib.hid (out_any _ g ((Nb ++ rowsTo Wd Wd.length) ++ rowsB [b]) w6 hR6 (by rw [List.length_append, List.length_append]; have := Hpre.out; have := Hbl.out; omega))
        rw [List.append_assoc, ← HE.out] at HF
        have Hbw := Lib.hid (ext_trans Hb3.out (HK.out w6 hO6))
        clear hr6 ho6 hR6 hO6
        go_wp2_with fail
        refine HF.out.mono ?_
        rintro e w7 ⟨A7, c7, rfl, hn7, hb7⟩
        have Hn7 := Lib.hid (hn7.back Hbw.out.size)
        have Hb7 := Lib.hid (ext_trans Hbw.out hb7)
        clear hn7 hb7
        go_wp2
        go_ret2
        rw [HR.out]
        exact ⟨A7, c7, rfl, Hn7.out, Hb7.out⟩
end Go.Proofs.YtpjgkacekelkdaaDoor
