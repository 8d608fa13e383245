/-
  Texts of this claim, joined (part 3): contracts and lemmas that the last text goes by. No statement of the seat is proved here.
-/
import Derived.Test.YthceajadgjnnmaaAll2
import Derived.Test.YthceajadgjnnmaaAll0
import Derived.Shelf.Bits.Mul64
import Derived.Ground.Names2Prog
import Derived.Test.YthceajadgjnnmaaProg
import Derived.Deep.RegionHeld3
set_option linter.unusedVariables false
set_option linter.unusedSimpArgs false
/-
  DERIVED: THE SHELF's CONTRACTS AT THIS DUMP, IN PLAIN WORDS (tools/lay-plain.mjs out of 'YthceajadgjnnmaaShelfP0.lean', which tools/lay-shelf.mjs wrote): THE SAME DECLARATIONS UNDER THE SAME NAMES: 'import', 'namespace', 'open', 'def', 'theorem' AND NOTHING ELSE: no command of the shelf's: FOR A HAND-IN. Each laying: the table of numbers ('.._ren') and one theorem, a field a fact of the dump's own or the kernel's comparison; each contract: ONE APPLICATION.
-/
namespace Go.Proofs
open Go.Shelf
def Try.layMul_ren : Go.Shelf.Ren := ⟨fun | 212 => 90 | 263 => 104 | 264 => 105 | n => n, fun | 46 => 87 | 51 => 124 | 146 => 126 | 53 => 86 | 148 => 128 | n => n, fun | n => n⟩
theorem Try.layMul : Go.Proofs.Lays.n212 Try.prog Try.layMul_ren := {
  mixed := by kernel_rfl
  f212 := Try.func90.trans (congrArg some (by kernel_rfl))
  f263 := Try.func104.trans (congrArg some (by kernel_rfl))
  f264 := Try.func105.trans (congrArg some (by kernel_rfl))
  t46 := Try.underlying87
  a46 := Try.isAgg87
  z46 := Try.sizeOf87
  v46 := Try.zeroValue87
  t51 := Try.underlying124
  a51 := Try.isAgg124
  z51 := Try.sizeOf124
  v51 := Try.zeroValue124
  t53 := Try.underlying86
  a53 := Try.isAgg86
  z53 := Try.sizeOf86
  v53 := Try.zeroValue86
  t146 := Try.underlying126
  a146 := Try.isAgg126
  z146 := Try.sizeOf126
  v146 := Try.zeroValue126
  t148 := Try.underlying128
  a148 := Try.isAgg128
  z148 := Try.sizeOf128
  v148 := Try.zeroValue128 }
end Go.Proofs

/-
  Nums at two places; a number many times (program). No statement of the seat is proved here.
-/
namespace Go.Proofs.Ythceajadgjnnmaa
open Go Go.RowKit
set_option maxRecDepth 100000

set_option maxHeartbeats 4000000 in
theorem rnums_two (fp : Nat → Prop) (g ga gl : Nat) (n c : Nat) (x y : Int) (bs : List UInt8) (w : World) (h : Rdr w fp g bs false) (hb : bs.length ≤ 1099511627776) (hn : n = 2)
    (hl : Blk w gl 101 #[.pointer (some ⟨ga, 0, none⟩), .pointer (some ⟨ga, 1, none⟩)]) (ha : Blk w ga 91 #[.int .i64 x, .int .i64 y]) (hfa : ¬ fp ga) (hfl : ¬ fp gl) :
    Calls Try.prog 77 #[.pointer (some ⟨g, 0, none⟩), .slice (some ⟨gl, 0, none⟩) n c] w fun e w' => e = .returned (.tuple #[]) ∧ Rdr w' fp g (stTwo bs).2.1 (stTwo bs).2.2 ∧
      Blk w' ga 91 #[.int .i64 ((stTwo bs).1.1 : Int), .int .i64 ((stTwo bs).1.2 : Int)] ∧ Only (fun k => k = g ∨ k = ga) w w' := by
  subst hn
  have hg := h.1
  have hag : ga ≠ g := fun e => hfa (e ▸ hg)
  have hlg : gl ≠ g := fun e => hfl (e ▸ hg)
  have hla : gl ≠ ga := fun e => by
    subst e; unfold Blk at hl ha; rw [hl] at ha; injection ha with ha; injection ha with _ ht; exact absurd ht (by decide)
  have l0 := hl.cell 0
  simp only [List.getElem?_toArray, List.getElem?_cons_zero] at l0
  have b1 := stNum_len bs false
  have E2 : stTwo bs = (((stNum bs false).1, (stNum (stNum bs false).2.1 (stNum bs false).2.2).1), (stNum (stNum bs false).2.1 (stNum bs false).2.2).2) := rfl
  rw [E2]
  clear E2
  go_enter Try.func77, Try.ntmps77
  go_wp2
  refine wp_loop_rounds 3 ?_
  rw [rounds_succ]
  go_wp2_with fail
  refine (rnum_st fp g bs false _ h hb).mono ?_
  rintro e w1 ⟨rfl, h1, o1⟩
  have ha1 := ha.only o1 hag
  have a1 := ha1.cell 0
  have af1 := ha1.free 0
  simp only [List.getElem?_toArray, List.getElem?_cons_zero] at a1
  have hl1 := hl.only o1 hlg
  go_wp2
  have ho1 : Only (fun k => k = g ∨ k = ga) w (w1.setCell ⟨ga, 0, none⟩ (.int .i64 ((stNum bs false).1 : Int))) := (o1.mono (fun i _ hi => .inl hi)).setCell (p := ⟨ga, 0, none⟩) (.inl (.inr rfl)) _
  have h1' : Rdr (w1.setCell ⟨ga, 0, none⟩ (.int .i64 ((stNum bs false).1 : Int))) fp g (stNum bs false).2.1 (stNum bs false).2.2 := h1.only ((Only.refl (fun k => k = ga) w1).setCell (p := ⟨ga, 0, none⟩) (.inl rfl) _) (fun k hk e => hfa (e ▸ hk))
  have ha2 : Blk (w1.setCell ⟨ga, 0, none⟩ (.int .i64 ((stNum bs false).1 : Int))) ga 91 #[.int .i64 ((stNum bs false).1 : Int), .int .i64 y] := ha1.put 0 _
  have hl2 := hl1.far (p := ⟨ga, 0, none⟩) hla (.int .i64 ((stNum bs false).1 : Int))
  clear h1 ha1 hl1 a1 af1 o1 l0
  generalize w1.setCell ⟨ga, 0, none⟩ (.int .i64 ((stNum bs false).1 : Int)) = w2 at *
  have l1 := hl2.cell 1
  simp only [List.getElem?_toArray, List.getElem?_cons_zero, List.getElem?_cons_succ] at l1
  rw [rounds_succ]
  go_wp2_with fail
  refine (rnum_st fp g _ _ _ h1' (by omega)).mono ?_
  rintro e w3 ⟨rfl, h3, o3⟩
  have ho3 := ho1.trans o3 (fun i _ hi => .inl hi)
  have ha3 := ha2.only o3 hag
  have a3 := ha3.cell 1
  have af3 := ha3.free 1
  simp only [List.getElem?_toArray, List.getElem?_cons_zero, List.getElem?_cons_succ] at a3
  clear l1 h1' ho1 ha2 hl2 o3
  go_wp2
  rw [rounds_succ]
  go_wp2
  go_end0
  refine ⟨rfl, h3.only ((Only.refl (fun k => k = ga) w3).setCell (p := ⟨ga, 1, none⟩) (.inl rfl) _) (fun k hk e => hfa (e ▸ hk)), ha3.put 1 _, ho3.setCell (p := ⟨ga, 1, none⟩) (.inl (.inr rfl)) _⟩

/-! ### a number many times -/
theorem make_ints (W : World) (t : Nat) (h : t ≤ 1000000) : (Instr.makeSlice 22 (.int .i64 (t : Int)) (.int .i64 (t : Int))).run Try.prog W =
    .ok (.slice (some ⟨W.heap.size, 0, none⟩) t t) (W.alloc (.cells (madeCells #[.int .i64 0] (t * 1)) 3)) := by
  obtain ⟨i, hi, hz, hsz, hby⟩ := info_parts info_int
  have hr := run_make (P := Try.prog) W 22 3 i _ Try.underlying22 hi hz .i64 .i64 ((t : Nat) : Int) t (by omega) (by omega) (by rw [hby]; omega) (by omega)
  simp only [Int.toNat_natCast, hsz] at hr
  exact hr
def repR (n k : Nat) (x : Int) : List Value := List.replicate k (iv x) ++ List.replicate (n - k) (iv 0)
theorem repR_len (n k : Nat) (x : Int) (h : k ≤ n) : (repR n k x).length = n := by simp [repR]; omega
theorem repR_all (n : Nat) (x : Int) : repR n n x = List.replicate n (iv x) := by simp [repR]
theorem repR_spl (n k m : Nat) (x : Int) (h : k + m ≤ n) : spl (repR n k x) k (List.replicate m (iv x)) = repR n (k + m) x := by
  unfold spl repR
  rw [List.length_replicate, List.take_left' (by simp), List.drop_append, List.length_replicate, List.drop_of_length_le (by simp), List.nil_append, List.drop_replicate, ← List.append_assoc, List.replicate_append_replicate]
  congr 2
  omega
theorem repR_at (n k j : Nat) (x : Int) (h : j < k) : (repR n k x)[j]? = some (iv x) := by
  unfold repR
  rw [List.getElem?_append_left (by simpa using h), List.getElem?_replicate, if_pos h]
theorem slice_if {n k G : Nat} (h : ¬ n = k) : Value.slice (if n = k then some ⟨G, 0, none⟩ else some ⟨G, k, none⟩) (n - k) (n - k) = .slice (some ⟨G, k, none⟩) (n - k) (n - k) := by rw [if_neg h]
theorem size_int : (Try.prog.info? 3).map (·.size) = some 1 := by kernel_rfl
theorem rep_one (m : Nat) (x : Int) : ∀ v ∈ List.replicate m (iv x), v.oneCell' = true := by
  intro v hv
  rw [List.eq_of_mem_replicate hv]
  rfl
theorem row_made (W : World) (n : Nat) (x : Int) (h : n ≤ 1000000) : RowO (W.alloc (.cells (madeCells #[.int .i64 0] n) 3)) 3 1 (some ⟨W.heap.size, 0, none⟩) n n (repR n 0 x) := by
  have e : (madeCells #[.int .i64 0] n).toList = repR n 0 x := by
    refine List.ext_getElem (by simp [madeCells, repR]) fun j h1 h2 => ?_
    simp [madeCells, repR, iv, Nat.mod_one]
  rw [← e]
  exact RowO.lit W 3 1 n _ (by simp [madeCells]) (by unfold maxLen; omega) rfl

set_option maxHeartbeats 4000000 in
theorem repeat_any (x : Int) (ad : Addr) (c n : Nat) (w : World) (hx : w.cell? ad = some (.int .i64 x)) (hn : n ≤ 1000000) :
    Calls Try.prog 78 #[.slice (some ad) 1 c, .int .i64 (n : Int)] w fun e w' => ∃ G c', e = .returned (.slice (some ⟨G, 0, none⟩) n c') ∧ RowO w' 3 1 (some ⟨G, 0, none⟩) n c' (List.replicate n (iv x)) ∧ w.heap.size ≤ G ∧ Below w.heap.size w w' := by
  have hni : (n : Int) ≤ 1000000 := by omega
  have HM := Lib.hid (Any.bits_Mul Try.layMul 1 n (by omega) (by omega) w)
  have e1 : 1 * n / 18446744073709551616 = 0 := by omega
  have e2 : 1 * n % 18446744073709551616 = n := by omega
  rw [e1, e2] at HM
  have hmk := fun W => make_ints W n hn
  have hwr : IntKind.u64.wrap (n : Int) = (n : Int) := by rw [IntKind.wrap_u64]; omega
  have hwi : IntKind.i64.wrap (n : Int) = (n : Int) := IntWalk.i64_in _ (by omega)
  have Hx := Lib.hid hx
  clear e1 e2 hx
  go_enter Try.func78, Try.ntmps78
  go_wp2_with fail
  refine HM.out.mono ?_
  rintro e w' ⟨rfl, hw⟩
  have hw := hw.symm
  subst hw
  have HR1 : Hid (RowO (w.alloc (.cells (madeCells #[.int .i64 0] n) 3)) 3 1 (some ⟨w.heap.size, 0, none⟩) n n (repR n 0 x)) := Lib.hid (row_made w n x hn)
  have HX1 : Hid ((w.alloc (.cells (madeCells #[.int .i64 0] n) 3)).cell? ad = some (.int .i64 x)) := Lib.hid (cell_only Hx.out (Only.of_ext (S := fun _ => False) ((Below.refl _ _).alloc (Nat.le_refl _) _)) (fun h => h))
  have HB1 : Hid (Below w.heap.size w (w.alloc (.cells (madeCells #[.int .i64 0] n) 3))) := Lib.hid ((Below.refl _ _).alloc (Nat.le_refl _) _)
  have Hsr : Hid (∀ j v, (List.replicate (min 1 n) (iv x))[j]? = some v → (w.alloc (.cells (madeCells #[.int .i64 0] n) 3)).cell? (ad.add j) = some v) := Lib.hid (fun j v hv => by
    have hj := (List.getElem?_eq_some_iff.1 hv).1
    rw [List.length_replicate] at hj
    obtain rfl : j = 0 := by omega
    rw [List.getElem?_replicate, if_pos hj] at hv
    injection hv with hv
    rw [← hv]
    have hz : ad.add 0 = ad := by simp [Addr.add]
    rw [hz]
    exact HX1.out)
  go_wp2_with (first
               | (refine wpList_copyO rfl (.tmp 31) (.tmp 32) _ _ rfl 3 1 Try.underlying22 size_int w.heap.size 0 n n _ HR1.out 0 0 n n rfl rfl ad 1 c (min 1 n) (List.replicate (min 1 n) (iv x)) rfl rfl (by simp) Hsr.out (by omega) (rep_one _ _) ?_
                  intro w2 hr2 ho2)
               | fail)
  rw [Nat.zero_mul, repR_spl n 0 _ x (by omega)] at hr2
  obtain ⟨W1, hW1⟩ : ∃ W1, W1 = w.alloc (.cells (madeCells #[.int .i64 0] n) 3) := ⟨_, rfl⟩
  obtain ⟨G, hG⟩ : ∃ G, w.heap.size = G := ⟨_, rfl⟩
  rw [← hW1] at ho2 HB1
  rw [hG] at hr2 ho2 ⊢
  have HG := Lib.hid hG
  clear hW1 hG HR1 HX1 Hsr
  have HR2 := Lib.hid hr2
  have HO2 := Lib.hid ho2
  clear hr2 ho2 hmk
  go_loopw [8] (fun i wr => ∃ (k : Nat), k ≤ n ∧ (n = 0 ∨ 1 ≤ k) ∧ i = .int .i64 (k : Int) ∧ RowO wr 3 1 (some ⟨G, 0, none⟩) n n (repR n k x) ∧ Only (fun k => k = G) W1 wr) (fun i _ => n - (intOf i).toNat)
  case atStart => exact ⟨0 + min 1 n, by omega, by omega, by simp [goInt], HR2.out, HO2.out⟩
  case round =>
    obtain ⟨k, hk, hk1, rfl, hr, ho⟩ := hrel
    have HR := Lib.hid hr
    have HO := Lib.hid ho
    by_cases hlt : k < n
    · have hki : (k : Int) < (n : Int) := by omega
      have hk0 : 0 < k := by omega
      have Hsrc : Hid (∀ (W : World), RowO W 3 1 (some ⟨G, 0, none⟩) n n (repR n k x) → ∀ j v, (List.replicate (min k (n - k)) (iv x))[j]? = some v → W.cell? ((⟨G, 0, none⟩ : Addr).add j) = some v) := Lib.hid (fun W hW j v hv => by
        have hj := (List.getElem?_eq_some_iff.1 hv).1
        rw [List.length_replicate] at hj
        rw [List.getElem?_replicate, if_pos hj] at hv
        obtain ⟨ad', e, hc⟩ := hW.rd j _ (repR_at n k j x (by omega))
        injection e with e
        subst e
        rw [hc, hv])
      clear hr ho
      go_wp2
      refine wp_region_held_drew (S := fun _ => True) (by kernel_rfl) ?_ (fun hHeld => ?_)
      · all_goals trivial
      refine wpAnyH_take (i := 0) (v := ?_) (take_list rfl) (by kernel_rfl) (by kernel_rfl) (by kernel_rfl) (fun _ _ _ h => h) (Or.inl ⟨by rfl, ?_⟩) (by assumption) ?_
      rotate_left
      · intro w hSw
        try dsimp only at hSw
        first | (go_simp; done) | (go_simp; with_reducible rfl)
      try simp only [Act.put, List.setIfInBounds_toArray, List.set_cons_zero, List.set_cons_succ]
      refine wpAnyH_take (i := 1) (v := ?_) (take_list rfl) (by kernel_rfl) (by kernel_rfl) (by kernel_rfl) (fun _ _ _ h => h) (Or.inl ⟨by rfl, ?_⟩) (by assumption) ?_
      rotate_left
      · intro w hSw
        try dsimp only at hSw
        first | (go_simp; done) | (go_simp; with_reducible rfl)
      try simp only [Act.put, List.setIfInBounds_toArray, List.set_cons_zero, List.set_cons_succ]
      refine wpAnyH_take (i := 2) (v := ?_) (take_list rfl) (by kernel_rfl) (by kernel_rfl) (by kernel_rfl) (fun _ _ _ h => h) (Or.inl ⟨by rfl, ?_⟩) (by assumption) ?_
      rotate_left
      · intro w hSw
        try dsimp only at hSw
        first | (go_simp; done) | (go_simp; with_reducible rfl)
      try simp only [Act.put, List.setIfInBounds_toArray, List.set_cons_zero, List.set_cons_succ]
      refine wpAnyH_take (i := 3) (v := ?_) (take_list rfl) (by kernel_rfl) (by kernel_rfl) (by kernel_rfl) (fun _ _ _ h => h) (Or.inl ⟨by rfl, ?_⟩) (by assumption) ?_
      rotate_left
      · intro w hSw
        try dsimp only at hSw
        first | (go_simp; done) | (go_simp; with_reducible rfl)
      try simp only [Act.put, List.setIfInBounds_toArray, List.set_cons_zero, List.set_cons_succ]
      refine wpAnyH_take (i := 4) (v := ?_) (take_list rfl) (by kernel_rfl) (by kernel_rfl) (by kernel_rfl) (fun _ _ _ h => h) (Or.inl ⟨by rfl, ?_⟩) (by assumption) ?_
      rotate_left
      · intro w hSw
        try dsimp only at hSw
        first | (go_simp; done) | (go_simp; with_reducible rfl)
      try simp only [Act.put, List.setIfInBounds_toArray, List.set_cons_zero, List.set_cons_succ]
      refine wpAnyH_take (i := 5) (v := ?_) (take_list rfl) (by kernel_rfl) (by kernel_rfl) (by kernel_rfl) (fun _ _ _ h => h) (Or.inl ⟨by rfl, ?_⟩) (by assumption) ?_
      rotate_left
      · intro w hSw
        try dsimp only at hSw
        first | (go_simp; done) | (go_simp; with_reducible rfl)
      try simp only [Act.put, List.setIfInBounds_toArray, List.set_cons_zero, List.set_cons_succ]
      refine wpAnyH_take (i := 6) (v := ?_) (take_list rfl) (by kernel_rfl) (by kernel_rfl) (by kernel_rfl) (fun _ _ _ h => h) (Or.inl ⟨by rfl, ?_⟩) (by assumption) ?_
      rotate_left
      · intro w hSw
        try dsimp only at hSw
        first | (go_simp; done) | (go_simp; with_reducible rfl)
      try simp only [Act.put, List.setIfInBounds_toArray, List.set_cons_zero, List.set_cons_succ]
      refine wpAnyH_ready (rs := [7]) (by kernel_rfl) (by simp) ?_
      refine AllReadyH.cons (take_list rfl) (fun K hK => ?_) ?_
      · skip
        refine step_copyO rfl (.tmp 41) (.tmp 44) _ _ rfl 3 1 Try.underlying22 size_int G 0 n n _ HR.out.drew k k (n - k) (n - k) (by omega) (slice_if (by omega)) ⟨G, 0, none⟩ k _ (min k (n - k)) (List.replicate (min k (n - k)) (iv x)) rfl rfl (by simp) ?_ (by omega) (rep_one _ _) ?_
        · exact Hsrc.out _ HR.out.drew
        intro w2 hr2 ho2
        refine hK.out _ _ ?_ (fun hHeld => ?_)
        · try dsimp only
          all_goals trivial
        clear hK K
        refine wpAnyH_take (i := 8) (v := ?_) (take_list rfl) (by kernel_rfl) (by kernel_rfl) (by kernel_rfl) (fun _ _ _ h => h) (Or.inl ⟨by rfl, ?_⟩) (by assumption) ?_
        rotate_left
        · intro w hSw
          try dsimp only at hSw
          first | (go_simp; done) | (go_simp; with_reducible rfl)
        try simp only [Act.put, List.setIfInBounds_toArray, List.set_cons_zero, List.set_cons_succ]
        refine wpAnyH_take (i := 9) (v := ?_) (take_list rfl) (by kernel_rfl) (by kernel_rfl) (by kernel_rfl) (fun _ _ _ h => h) (Or.inl ⟨by rfl, ?_⟩) (by assumption) ?_
        rotate_left
        · intro w hSw
          try dsimp only at hSw
          first | (go_simp; done) | (go_simp; with_reducible rfl)
        try simp only [Act.put, List.setIfInBounds_toArray, List.set_cons_zero, List.set_cons_succ]
        refine wpAnyH_done (by kernel_rfl) ?_ _
        rw [Nat.mul_one, repR_spl n k _ x (by omega)] at hr2
        have hwm : IntKind.i64.wrap ((k : Int) + ((min k (n - k) : Nat) : Int)) = ((k + min k (n - k) : Nat) : Int) := by rw [← Int.natCast_add]; exact IntWalk.i64_in _ (by omega)
        have HR2 := Lib.hid hr2
        have HO2 := Lib.hid (HO.out.drew.trans ho2 (fun i _ h => h))
        clear hr2 ho2
        simp only [goInt]
        rw [hwm]
        go_wp2
        go_roundw
        case rel => exact ⟨k + min k (n - k), by omega, by omega, by go_num, HR2.out, HO2.out⟩
        case measure => simp [intOf]; omega
      exact AllReadyH.nil
    · obtain rfl : k = n := by omega
      rw [repR_all] at hr
      clear HR HO
      go_wp2
      go_ret
      exact ⟨G, k, rfl, hr, by have := HG.out; omega, HB1.out.trans (ho.below (fun i hi => by have := HG.out; omega) HB1.out.size)⟩
end Go.Proofs.Ythceajadgjnnmaa

/-
  Numbers of runs; Decode (program). No statement of the seat is proved here.
-/
namespace Go.Proofs.Ythceajadgjnnmaa
open Go Go.RowKit
set_option maxRecDepth 100000

/-- what the loop still takes, with what it has -/
structure Spg (total : List (Nat × Nat)) (L m : Nat) (rs : List (Nat × Nat)) (rest : List UInt8) (bad : Bool) : Prop where
  all : rs ++ (takeQ m rest bad).1 = total
  le : m ≤ 4611686018427387904
  short : rest.length ≤ L
theorem stTwo_len (bs : List UInt8) : (stTwo bs).2.1.length ≤ bs.length := Nat.le_trans (stNum_len (stNum bs false).2.1 (stNum bs false).2.2) (stNum_len bs false)
theorem Spg.step {total : List (Nat × Nat)} {L m : Nat} {rs : List (Nat × Nat)} {rest : List UInt8} (h : Spg total L (m + 1) rs rest false) : Spg total L m (rs ++ [(stTwo rest).1]) (stTwo rest).2.1 (stTwo rest).2.2 := by
  refine ⟨?_, by have := h.le; omega, Nat.le_trans (stTwo_len rest) h.short⟩
  rw [← h.all, takeQ_succ, List.append_assoc]; rfl
theorem Spg.end_ {total : List (Nat × Nat)} {L m : Nat} {rs : List (Nat × Nat)} {rest : List UInt8} {bad : Bool} (h : Spg total L m rs rest bad) (he : m = 0 ∨ bad = true) : rs = total := by
  have h1 := h.all
  rcases he with rfl | rfl
  · rw [takeQ_zero] at h1
    rw [← h1]; exact (List.append_nil _).symm
  · rw [takeQ_bad] at h1
    rw [← h1]; exact (List.append_nil _).symm
theorem pblk_at (w : World) (t : TypeId) (cs : Array Value) {g : Nat} (hg : g = w.heap.size) : Blk (w.alloc (.cells cs t)) g t cs := by subst hg; exact Blk.new w t cs
theorem stTwo_le (bs : List UInt8) : (stTwo bs).1.1 ≤ 4611686018427387904 ∧ (stTwo bs).1.2 ≤ 4611686018427387904 := ⟨stNum_le _ _, stNum_le _ _⟩

set_option maxHeartbeats 8000000 in
theorem spread_any (fp : Nat → Prop) (g : Nat) (bs : List UInt8) (bad : Bool) (w : World) (h : Rdr w fp g bs bad) (hb : bs.length ≤ 1099511627776) :
    Calls Try.prog 47 #[.pointer (some ⟨g, 0, none⟩)] w fun e w' => ∃ A' c', e = .returned (.slice A' (spreadB bs bad).length c') ∧ Fr w w' A' c' (spreadB bs bad) ∧ Only (fun k => k = g) w w' := by
  have HT : Hid (spreadB bs bad = spreadP (takeQ (stNum bs bad).1 (stNum bs bad).2.1 (stNum bs bad).2.2).1) := Lib.hid rfl
  generalize spreadB bs bad = T at *
  have hgl : g < w.heap.size := by
    obtain ⟨_, _, _, _, hb, _⟩ := h
    exact hb.lt
  have Hgl := Lib.hid hgl
  obtain ⟨f2, H, Hf2⟩ : ∃ f2 : Nat → Prop, Hid (Rdr w f2 g bs bad) ∧ Hid (∀ k, f2 k → k < w.heap.size) := ⟨fun k => fp k ∧ k < w.heap.size, Lib.hid (h.mono fun _ a b => ⟨a, b⟩), Lib.hid fun _ h => h.2⟩
  have hle := stNum_le bs bad
  have hsl := stNum_len bs bad
  clear h hgl
  go_enter Try.func47, Try.ntmps47
  go_wp2_with fail
  refine (rnum_st f2 g bs bad w H.out hb).mono ?_
  rintro e w1 ⟨rfl, hr1, ho1⟩
  generalize stNum bs bad = q at *
  obtain ⟨n, bs1, bad1⟩ := q
  simp only at HT hr1 hle hsl ⊢
  have Hr1 := Lib.hid hr1
  have Ho1 := Lib.hid ho1
  have Hle := Lib.hid hle
  have Hbl : Hid (bs1.length ≤ 1099511627776) := Lib.hid (by omega)
  clear hr1 ho1 hsl hb hle
  go_wp2
  go_loopw [3, 4] (fun s i wr => ∃ (m : Nat) (rs : List (Nat × Nat)) (rest : List UInt8) (bd : Bool) (A1 : Option Addr) (c1 : Nat), i = .int .i64 (m : Int) ∧ s = .slice A1 (spreadP rs).length c1 ∧ Hid (Spg (takeQ n bs1 bad1).1 bs1.length m rs rest bd) ∧ Rdr wr f2 g rest bd ∧ Fr w wr A1 c1 (spreadP rs) ∧ Only (fun k => k = g) w wr) (fun _ i _ => (intOf i).toNat)
  case atStart => exact ⟨n, [], bs1, bad1, none, 0, rfl, rfl, Lib.hid ⟨rfl, Hle.out, Nat.le_refl _⟩, Hr1.out, Fr.start _ _, Ho1.out⟩
  case round =>
    obtain ⟨m, rs, rest, bd, A1, c1, rfl, rfl, Hrd, hr, hS, ho⟩ := hrel
    have Hr := Lib.hid hr
    have HS := Lib.hid hS
    have Ho := Lib.hid ho
    clear hr hS ho
    have HEX : Hid ((m = 0 ∨ bd = true) → spreadP rs = T) := Lib.hid (fun he => by rw [HT.out, Hrd.out.end_ he])
    by_cases hm : m = 0
    · subst hm
      have HC := Lib.hid (HEX.out (.inl rfl))
      clear HEX
      go_wp2
      go_ret
      have e := HC.out
      have hS := HS.out
      rw [e] at hS
      exact ⟨A1, c1, by rw [← e]; rfl, hS, Ho.out⟩
    have hmi : (0 : Int) < (m : Int) := by omega
    have hmd : decide ((0 : Int) < (m : Int)) = true := decide_eq_true hmi
    have hmn : decide (0 < m) = true := decide_eq_true (by omega)
    cases bd with
    | true =>
      have HC := Lib.hid (HEX.out (.inr rfl))
      clear HEX hm
      go_wp2_with fail
      refine (rgood _ g rest true wr Hr.out).mono ?_
      rintro e w' ⟨rfl, rfl⟩
      go_wp2
      go_ret
      have e := HC.out
      have hS := HS.out
      rw [e] at hS
      exact ⟨A1, c1, by rw [← e]; rfl, hS, Ho.out⟩
    | false =>
      clear HEX
      obtain ⟨k, hk⟩ : ∃ k, m = k + 1 := ⟨m - 1, by omega⟩
      have hk1 : IntKind.i64.wrap ((m : Int) - 1) = (k : Int) := by rw [show (m : Int) - 1 = (k : Int) by omega]; exact IntWalk.i64_in _ (by have := Hrd.out.le; omega)
      have HRs := Lib.hid (Spg.step (by rw [← hk]; exact Hrd.out))
      have hrl : rest.length ≤ 1099511627776 := by have := Hrd.out.short; have := Hbl.out; omega
      have hsn := spread_snoc rs (stTwo rest).1
      have hsl := spread_len rs
      obtain ⟨hx1, hx2⟩ := stTwo_le rest
      have HNU := Lib.hid (fun (Y gl : Nat) (W : World) (hW : Rdr W f2 g rest false) (a) (b) (c1) (c2) => rnums_two f2 g Y gl 2 2 0 0 rest W hW hrl rfl a b c1 c2)
      generalize stTwo rest = q at *
      obtain ⟨⟨cc, x⟩, rest', bd'⟩ := q
      simp only at HRs HNU hsn hx1 hx2
      have Hk := Lib.hid hk
      have Hx2 := Lib.hid hx2
      obtain ⟨D, hD⟩ : ∃ D, 32769 - (spreadP rs).length = D := ⟨_, rfl⟩
      rw [hD] at hsn
      have hDw : IntKind.i64.wrap (32769 - ((spreadP rs).length : Int)) = (D : Int) := by rw [show 32769 - ((spreadP rs).length : Int) = (D : Int) by omega]; exact IntWalk.i64_in _ (by omega)
      have hDi : 32769 - ((spreadP rs).length : Int) = (D : Int) := by omega
      have HD := Lib.hid hD
      have Hsl := Lib.hid hsl
      have Hsn := Lib.hid hsn
      clear hk hm hx2 hD hsl hsn
      go_wp2_with fail
      refine (rgood _ g rest false wr Hr.out).mono ?_
      rintro e w' ⟨rfl, rfl⟩
      obtain ⟨Y, hY⟩ : ∃ Y, wr.heap.size = Y := ⟨_, rfl⟩
      go_wp2_with fail
      have HY := Lib.hid hY
      refine (HNU.out Y (Y + 1) _ ((Hr.out.ext (ext_alloc (Below.refl _ _) _)).ext (ext_alloc (Below.refl _ _) _)) (pblk_at _ _ _ (by rw [World.size_alloc]; have := HY.out; omega)) ((pblk_at wr _ _ HY.out.symm).alloc _) (fun h => by have := Hf2.out _ h; have := Ho.out.size; omega) (fun h => by have := Hf2.out _ h; have := Ho.out.size; omega)).mono ?_
      rintro e x1 ⟨rfl, hr5, hB5, ho5⟩
      have HB5 := hB5
      have q0 := hB5.cell 0
      have q1 := hB5.cell 1
      simp only [List.getElem?_toArray, List.getElem?_cons_zero, List.getElem?_cons_succ] at q0 q1
      have Hr5 := Lib.hid hr5
      have Ho5 : Hid (Only (fun k => k = g) w x1) := Lib.hid (((Ho.out.alloc _).alloc _).trans ho5 (fun i hi h => by
        rcases h with h | h
        · exact h
        · have := Ho.out.size; have := HY.out; omega))
      have Hrow : Hid (RowO x1 3 1 A1 (spreadP rs).length c1 ((spreadP rs).map iv)) := Lib.hid (((HS.out.row.alloc _).alloc _).only ho5 (fun k hk e => by
        have h1 := HS.out.new k hk
        have h2 := HS.out.row.lt hk
        have := Hgl.out
        have := HY.out
        omega))
      have q2 : (x1.alloc (.cells #[.int .i64 (x : Int)] 3)).cell? ⟨Y, 0, none⟩ = some (.int .i64 (cc : Int)) := by
        have := (hB5.alloc (.cells #[.int .i64 (x : Int)] 3)).cell 0
        simpa only [List.getElem?_toArray, List.getElem?_cons_zero] using this
      have cell_lit : (x1.alloc (.cells #[.int .i64 (x : Int)] 3)).cell? ⟨x1.heap.size, 0, none⟩ = some (.int .i64 (x : Int)) := by
        simp
      have hcase : cc ≤ D ∨ D < cc := by omega
      clear hr5 ho5 hB5 HB5 hY
      rcases hcase with hq | hq
      · have hni : (cc : Int) ≤ (D : Int) := by omega
        have hmin : min cc D = cc := by omega
        have HN : Hid (spreadP (rs ++ [(cc, x)]) = spreadP rs ++ List.replicate cc (x : Int)) := Lib.hid (by rw [Hsn.out, hmin])
        have hNl : cc ≤ 1000000 := by have := HD.out; have := Hsl.out; omega
        have hap : (spreadP rs).length + cc ≤ 32769 := by have := HD.out; have := Hsl.out; omega
        have hk2 : (spreadP rs).length + cc ≤ maxLen := by unfold maxLen; omega
        have hk3 : ((spreadP rs).length + cc) * 8 ≤ 140737488355328 := by omega
        have Hap := Lib.hid hap
        have HRE := Lib.hid (repeat_any (x : Int) ⟨x1.heap.size, 0, none⟩ 1 cc (x1.alloc (.cells #[.int .i64 (x : Int)] 3)) (by rw [cell_lit]) hNl)
        clear hmin hap
        go_wp2_with fail
        refine HRE.out.mono ?_
        rintro e x3 ⟨G, c3, rfl, hr3, hG3, hb3⟩
        have Hr3 := Lib.hid hr3
        have HL3 : Hid (Below x1.heap.size x1 x3) := Lib.hid (((Below.refl _ _).alloc (Nat.le_refl _) _).trans (hb3.mono (by rw [World.size_alloc]; omega)))
        have hrow : RowO x3 3 1 A1 (spreadP rs).length c1 ((spreadP rs).map iv) := Hrow.out.ext HL3.out
        have Hrow3 := Lib.hid hrow
        clear hr3 hG3 hb3 hrow
        go_wp2_with (at_builtin
                     refine wpList_appO _ rfl (.tmp 21) (.tmp 31) _ rfl 3 _ 1 8 Try.underlying22 info_int rfl A1 _ c1 _ rfl Hrow3.out (some ⟨G, 0, none⟩) cc c3 (List.replicate cc (iv (x : Int))) rfl (by simp) Hr3.out.rd (rep_one _ _) (by intro h; cases h) hk2 hk3 ?_
                     intro A3 c4 w3 hrow3 honly3 hA3
                     have hx1 : w.heap.size ≤ x3.heap.size := by have := Ho5.out.size; have := HL3.out.size; omega
                     have hF3 : Fr w w3 A3 c4 (spreadP (rs ++ [(cc, x)])) := by
                       rw [HN.out]
                       exact HS.out.grow (S := fun _ => True) hx1 (by rw [List.length_replicate, List.map_replicate]; exact hrow3) hA3
                     have hO3 := HS.out.only (Ho5.out.trans (Only.of_ext (S := fun _ => False) HL3.out) (fun _ _ h => h.elim)) honly3
                     have hR3 : Rdr w3 f2 g rest' bd' := (Hr5.out.ext HL3.out).only honly3 (fun k hk hi => by have := HS.out.new k hi; have := Hf2.out k hk; omega)
                     have HF3 := Lib.hid hF3
                     have HO3 := Lib.hid hO3
                     have HR3 := Lib.hid hR3
                     clear hrow3 honly3 hA3 hx1 hF3 hO3 hR3)
        go_roundw
        case rel => exact ⟨k, rs ++ [(cc, x)], rest', bd', A3, c4, rfl, by rw [HN.out, List.length_append, List.length_replicate], HRs, HR3.out, HF3.out, HO3.out⟩
        case measure => simp [intOf]; have := Hk.out; omega
      · have hni : (D : Int) < (cc : Int) := by omega
        have hmin : min cc D = D := by omega
        have HN : Hid (spreadP (rs ++ [(cc, x)]) = spreadP rs ++ List.replicate D (x : Int)) := Lib.hid (by rw [Hsn.out, hmin])
        have hNl : D ≤ 1000000 := by have := HD.out; have := Hsl.out; omega
        have hap : (spreadP rs).length + D ≤ 32769 := by have := HD.out; have := Hsl.out; omega
        have hk2 : (spreadP rs).length + D ≤ maxLen := by unfold maxLen; omega
        have hk3 : ((spreadP rs).length + D) * 8 ≤ 140737488355328 := by omega
        have Hap := Lib.hid hap
        have HRE := Lib.hid (repeat_any (x : Int) ⟨x1.heap.size, 0, none⟩ 1 D (x1.alloc (.cells #[.int .i64 (x : Int)] 3)) (by rw [cell_lit]) hNl)
        clear hmin hap
        go_wp2_with fail
        refine HRE.out.mono ?_
        rintro e x3 ⟨G, c3, rfl, hr3, hG3, hb3⟩
        have Hr3 := Lib.hid hr3
        have HL3 : Hid (Below x1.heap.size x1 x3) := Lib.hid (((Below.refl _ _).alloc (Nat.le_refl _) _).trans (hb3.mono (by rw [World.size_alloc]; omega)))
        have hrow : RowO x3 3 1 A1 (spreadP rs).length c1 ((spreadP rs).map iv) := Hrow.out.ext HL3.out
        have Hrow3 := Lib.hid hrow
        clear hr3 hG3 hb3 hrow
        go_wp2_with (at_builtin
                     refine wpList_appO _ rfl (.tmp 21) (.tmp 31) _ rfl 3 _ 1 8 Try.underlying22 info_int rfl A1 _ c1 _ rfl Hrow3.out (some ⟨G, 0, none⟩) D c3 (List.replicate D (iv (x : Int))) rfl (by simp) Hr3.out.rd (rep_one _ _) (by intro h; cases h) hk2 hk3 ?_
                     intro A3 c4 w3 hrow3 honly3 hA3
                     have hx1 : w.heap.size ≤ x3.heap.size := by have := Ho5.out.size; have := HL3.out.size; omega
                     have hF3 : Fr w w3 A3 c4 (spreadP (rs ++ [(cc, x)])) := by
                       rw [HN.out]
                       exact HS.out.grow (S := fun _ => True) hx1 (by rw [List.length_replicate, List.map_replicate]; exact hrow3) hA3
                     have hO3 := HS.out.only (Ho5.out.trans (Only.of_ext (S := fun _ => False) HL3.out) (fun _ _ h => h.elim)) honly3
                     have hR3 : Rdr w3 f2 g rest' bd' := (Hr5.out.ext HL3.out).only honly3 (fun k hk hi => by have := HS.out.new k hi; have := Hf2.out k hk; omega)
                     have HF3 := Lib.hid hF3
                     have HO3 := Lib.hid hO3
                     have HR3 := Lib.hid hR3
                     clear hrow3 honly3 hA3 hx1 hF3 hO3 hR3)
        go_roundw
        case rel => exact ⟨k, rs ++ [(cc, x)], rest', bd', A3, c4, rfl, by rw [HN.out, List.length_append, List.length_replicate], HRs, HR3.out, HF3.out, HO3.out⟩
        case measure => simp [intOf]; have := Hk.out; omega
end Go.Proofs.Ythceajadgjnnmaa

/-
  Decode (program). No statement of the seat is proved here.
-/
namespace Go.Proofs.Ythceajadgjnnmaa
open Go Go.RowKit
set_option maxRecDepth 100000

/-- Decode's answer -/
noncomputable def decR (p : List UInt8) : List Int × Int := match decP p with | some l => (l, 0) | none => ([], 2)
theorem decR_chk {p : List UInt8} {w : Nat} (hw : (stNum p false).1 = w) (h2 : w ≤ 2) : decR p = chkP (encP w) p (rdP w (stNum p false).2.1 (stNum p false).2.2) := by
  subst hw
  unfold decR chkP
  rw [dec_rd h2]
  split
  · rename_i l h
    split at h
    · rename_i hx
      injection h with h
      rw [if_pos hx, h]
    · cases h
  · rename_i h
    split at h
    · cases h
    · rename_i hx
      rw [if_neg hx]
theorem decR_way {p : List UInt8} (h : 2 < (stNum p false).1) : decR p = ([], 2) := by unfold decR; rw [dec_way h]
theorem takenP_ok (b : List UInt8) (bad : Bool) : (∀ v ∈ takenP b bad, 0 ≤ v ∧ v ≤ 4611686018427387904) ∧ (takenP b bad).length ≤ 32769 := by
  have hall : ∀ (k : Nat) (bs : List UInt8) (bd : Bool), (∀ v ∈ (takeN k bs bd).1, v ≤ 4611686018427387904) ∧ (takeN k bs bd).1.length ≤ k := by
    intro k
    induction k with
    | zero => intro bs bd; simp [takeN]
    | succ k ih =>
      intro bs bd
      cases bd with
      | true => rw [takeN_bad]; simp
      | false =>
        rw [takeN_succ]
        obtain ⟨h1, h2⟩ := ih (stNum bs false).2.1 (stNum bs false).2.2
        refine ⟨fun v hv => ?_, by simp; exact h2⟩
        rcases List.mem_cons.1 hv with rfl | hv
        · exact stNum_le _ _
        · exact h1 v hv
  obtain ⟨h1, h2⟩ := hall (min (stNum b bad).1 32769) (stNum b bad).2.1 (stNum b bad).2.2
  refine ⟨fun v hv => ?_, ?_⟩
  · obtain ⟨x, hx, rfl⟩ := List.mem_map.1 hv
    have := h1 x hx
    omega
  · unfold takenP
    rw [List.length_map]
    omega

set_option maxHeartbeats 4000000 in
theorem decode_any (p : List UInt8) (A : Option Addr) (ca : Nat) (w : World) (hA : Rd w A (p.map bv)) (hc : p.length ≤ ca) (hp : p.length ≤ 1099511627776) :
    Calls Try.prog 22 #[.slice A p.length ca] w fun e w' => ∃ B' c', e = .returned (.tuple #[.slice B' (decR p).1.length c', .int .i64 (decR p).2]) ∧ Rd w' B' ((decR p).1.map iv) ∧ Below w.heap.size w w' := by
  have HA := Lib.hid hA
  have HC : Hid (∀ n, (stNum p false).1 = n → n ≤ 2 → decR p = chkP (encP n) p (rdP n (stNum p false).2.1 (stNum p false).2.2)) := Lib.hid (fun n h h2 => decR_chk h h2)
  have HW : Hid (2 < (stNum p false).1 → decR p = ([], 2)) := Lib.hid decR_way
  have hsl := stNum_len p false
  generalize decR p = R at *
  clear hA
  go_enter Try.func22, Try.ntmps22
  go_wp2_with fail
  refine (newreader A p.length ca p w rfl hc HA.out hp).mono ?_
  rintro e w2 ⟨g, rfl, hr2, hb2⟩
  have Hr2 := Lib.hid hr2
  have Hb2 := Lib.hid hb2
  clear hr2 hb2
  go_wp2_with fail
  refine (rnum_st _ g p false w2 Hr2.out hp).mono ?_
  rintro e w3 ⟨rfl, hr3, ho3⟩
  have Hgl : Hid (w.heap.size ≤ g ∧ g < w2.heap.size) := Lib.hid Hr2.out.1
  have Hb3 : Hid (Below w.heap.size w w3) := Lib.hid (Hb2.out.trans (ho3.below (fun i hi => by have := Hgl.out; omega) Hb2.out.size))
  generalize stNum p false = q at *
  obtain ⟨n, bs, bd⟩ := q
  simp only at HC HW hr3 hsl ⊢
  have Hr3 := Lib.hid hr3
  have hbl : bs.length ≤ 1099511627776 := by omega
  have HTk := Lib.hid (taken_any _ g bs bd w3 hr3 hbl)
  have HSp := Lib.hid (spread_any _ g bs bd w3 hr3 hbl)
  have HTo := Lib.hid (takenP_ok bs bd)
  clear hr3 ho3 hsl
  rcases Nat.lt_or_ge 2 n with h2 | h2
  · have d0 : ((n : Int) == 0) = false := by simp; omega
    have d1 : ((n : Int) == 1) = false := by simp; omega
    have d2 : ((n : Int) == 2) = false := by simp; omega
    have e0 : ¬ ((n : Int) = 0) := by omega
    have e1 : ¬ ((n : Int) = 1) := by omega
    have e2 : ¬ ((n : Int) = 2) := by omega
    have HR := Lib.hid (HW.out h2)
    clear HC HW HTk HSp HTo h2
    go_wp2
    go_ret2
    rw [HR.out]
    exact ⟨none, 0, rfl, Rd.nil _ _, Hb3.out⟩
  · obtain rfl | rfl | rfl : n = 0 ∨ n = 1 ∨ n = 2 := by omega
    · have HR : Hid (R = chkP plainP p (takenP bs bd)) := Lib.hid (HC.out 0 rfl (by omega))
      generalize takenP bs bd = T at *
      clear HC HW HSp HTo h2
      go_wp2_with fail
      refine HTk.out.mono ?_
      rintro e w4 ⟨A4, c4, rfl, hF4, ho4⟩
      have Hb4 : Hid (Below w.heap.size w w4) := Lib.hid (Hb3.out.trans (ho4.below (fun i hi => by have := Hgl.out; omega) Hb3.out.size))
      have HU := Lib.hid (unless_plain p A ca A4 c4 T w4 (HA.out.ext Hb4.out) hF4.rd)
      rw [← HR.out] at HU
      clear hF4 ho4 HTk
      go_wp2_with fail
      refine HU.out.mono ?_
      rintro e w5 ⟨B5, c5, rfl, hn5, hb5⟩
      have Hn5 := Lib.hid hn5
      have Hb5 := Lib.hid (ext_trans Hb4.out hb5)
      clear hn5 hb5
      go_wp2
      go_ret2
      exact ⟨B5, c5, rfl, Hn5.out, Hb5.out⟩
    · have HR : Hid (R = chkP deltaP p (addedP (takenP bs bd))) := Lib.hid (HC.out 1 rfl (by omega))
      have hal : (addedP (takenP bs bd)).length = (takenP bs bd).length := addedTo_len _ _
      generalize takenP bs bd = T at *
      clear HC HW HSp h2
      go_wp2_with fail
      refine HTk.out.mono ?_
      rintro e w4 ⟨A4, c4, rfl, hF4, ho4⟩
      have Hb4 : Hid (Below w.heap.size w w4) := Lib.hid (Hb3.out.trans (ho4.below (fun i hi => by have := Hgl.out; omega) Hb3.out.size))
      have HAd := Lib.hid (added_any w3 A4 c4 T w4 hF4 HTo.out.1 (by have := HTo.out.2; omega))
      have HN4 := Lib.hid hF4.new
      clear hF4 ho4 HTk
      go_wp2_with fail
      refine HAd.out.mono ?_
      rintro e w5 ⟨rfl, hF5, ho5⟩
      have Hb5 : Hid (Below w.heap.size w w5) := Lib.hid (Hb4.out.trans (ho5.below (fun i hi => by have := HN4.out i hi; have := Hb3.out.size; omega) Hb4.out.size))
      have HU := Lib.hid (unless_delta p A ca A4 c4 (addedP T) w5 (HA.out.ext Hb5.out) hF5.rd)
      rw [← HR.out, hal] at HU
      clear hF5 ho5 HAd hal
      go_wp2_with fail
      refine HU.out.mono ?_
      rintro e w6 ⟨B5, c5, rfl, hn5, hb5⟩
      have Hn5 := Lib.hid hn5
      have Hb6 := Lib.hid (ext_trans Hb5.out hb5)
      clear hn5 hb5
      go_wp2
      go_ret2
      exact ⟨B5, c5, rfl, Hn5.out, Hb6.out⟩
    · have HR : Hid (R = chkP runsB p (spreadB bs bd)) := Lib.hid (HC.out 2 rfl (by omega))
      generalize spreadB bs bd = T at *
      clear HC HW HTk HTo h2
      go_wp2_with fail
      refine HSp.out.mono ?_
      rintro e w4 ⟨A4, c4, rfl, hF4, ho4⟩
      have Hb4 : Hid (Below w.heap.size w w4) := Lib.hid (Hb3.out.trans (ho4.below (fun i hi => by have := Hgl.out; omega) Hb3.out.size))
      have HU := Lib.hid (unless_runs p A ca A4 c4 T w4 (HA.out.ext Hb4.out) hF4.rd)
      rw [← HR.out] at HU
      clear hF4 ho4 HSp
      go_wp2_with fail
      refine HU.out.mono ?_
      rintro e w5 ⟨B5, c5, rfl, hn5, hb5⟩
      have Hn5 := Lib.hid hn5
      have Hb5 := Lib.hid (ext_trans Hb4.out hb5)
      clear hn5 hb5
      go_wp2
      go_ret2
      exact ⟨B5, c5, rfl, Hn5.out, Hb5.out⟩
end Go.Proofs.Ythceajadgjnnmaa

/-
  May numbers be, each as it is, by the one ahead (reference). No statement of the seat is proved here.
-/
namespace Go.Proofs.Ythceajadgjnnmaa
open Go Go.RowKit
set_option maxRecDepth 100000

set_option maxHeartbeats 2000000 in
theorem rmay_any (A : Option Addr) (c : Nat) (l : List Int) (w : World) (hA : Rd w A (l.map iv)) (hl : l.length ≤ 1099511627776) :
    Calls Try.prog 36 #[.slice A l.length c] w fun e w' => e = .returned (.bool (mayP l)) ∧ w = w' := by
  have hli : (l.length : Int) ≤ 1099511627776 := by omega
  have hM : mayP l = (decide (l.length ≤ 32768) && l.all okP) := rfl
  have HM := Lib.hid hM
  have HA := Lib.hid hA
  generalize mayP l = M at *
  clear hM hA
  go_enter Try.func36, Try.ntmps36
  go_wp2
  go_loop [3] (fun i => ∃ k : Nat, k ≤ l.length ∧ i = .int .i64 (k : Int) ∧ ∀ j (hj : j < l.length), j < k → okP l[j] = true) (fun i => l.length - (intOf i).toNat)
  case atStart => exact ⟨0, Nat.zero_le _, rfl, fun j _ h => absurd h (by omega)⟩
  case round =>
    obtain ⟨k, hk, rfl, hno⟩ := hrel
    have Hno := Lib.hid hno
    by_cases hlt : k < l.length
    · have hki : (k : Int) < (l.length : Int) := by omega
      obtain ⟨ad, hB, hcell⟩ := rd_int HA.out hlt
      subst hB
      have HI : Hid (okP l[k] = false → M = false) := Lib.hid (fun h => by
        rw [HM.out, show l.all okP = false by rw [List.all_eq_false]; exact ⟨l[k], List.getElem_mem hlt, by simp [h]⟩]
        simp)
      have HF : Hid (okP l[k] = true → ∀ j (hj : j < l.length), j < k + 1 → okP l[j] = true) := Lib.hid (fun h j hj hj2 => by
        rcases Nat.lt_succ_iff_lt_or_eq.1 hj2 with h3 | rfl
        · exact hno j hj h3
        · exact h)
      have hok : okP l[k] = decide (0 ≤ l[k] ∧ l[k] ≤ 1099511627776) := rfl
      clear hno
      generalize l[k] = x at *
      by_cases h0 : x < 0
      · have d0 : decide (x < 0) = true := decide_eq_true h0
        have Hi := Lib.hid (HI.out (by rw [hok]; exact decide_eq_false (by omega)))
        clear HI HF hok
        go_wp2
        go_ret
        exact ⟨by rw [Hi.out]; rfl, rfl⟩
      · have d0 : decide (x < 0) = false := decide_eq_false h0
        by_cases h1 : 1099511627776 < x
        · have d1 : decide (1099511627776 < x) = true := decide_eq_true h1
          have Hi := Lib.hid (HI.out (by rw [hok]; exact decide_eq_false (by omega)))
          clear HI HF hok
          go_wp2
          go_ret
          exact ⟨by rw [Hi.out]; rfl, rfl⟩
        · have d1 : decide (1099511627776 < x) = false := decide_eq_false h1
          have Hf := Lib.hid (HF.out (by rw [hok]; exact decide_eq_true (by omega)))
          clear HI HF hok
          go_wp2
          go_round
          case rel => exact ⟨k + 1, by omega, by go_num, Hf.out⟩
          case measure => simp [intOf]; omega
    · obtain rfl : k = l.length := by omega
      have Hm : Hid (M = decide ((l.length : Int) ≤ 32768)) := Lib.hid (by
        rw [HM.out, show l.all okP = true by rw [List.all_eq_true]; intro x hx; obtain ⟨j, hj, rfl⟩ := List.mem_iff_getElem.1 hx; exact hno j hj hj]
        rw [Bool.and_true, decide_eq_decide]
        omega)
      clear hno
      go_wp2
      go_ret
      exact ⟨by rw [Hm.out]; rfl, rfl⟩

set_option maxHeartbeats 4000000 in
theorem rplain_any (A : Option Addr) (c : Nat) (l : List Int) (w : World) (hA : Rd w A (l.map iv)) (hl : l.length ≤ 1099511627776) :
    Calls Try.prog 14 #[.slice A l.length c] w fun e w' => ∃ A' c', e = .returned (.tuple #[.slice A' (ansP l (plainP l)).1.length c', .int .i64 (ansP l (plainP l)).2]) ∧ New w w' A' c' (ansP l (plainP l)).1 ∧ Below w.heap.size w w' := by
  have HM := Lib.hid (rmay_any A c l w hA hl)
  have HA := Lib.hid hA
  cases hm : mayP l with
  | false =>
    have HR : Hid (ansP l (plainP l) = ([], 1)) := Lib.hid (by unfold ansP; rw [hm]; rfl)
    rw [hm] at HM
    clear hm hA
    go_enter Try.func14, Try.ntmps14
    go_wp2_with fail
    refine HM.out.mono ?_
    rintro e w' ⟨rfl, rfl⟩
    go_wp2
    go_ret2
    rw [HR.out]
    exact ⟨none, 0, rfl, Own.none_ _ _ _, Below.refl _ _⟩
  | true =>
    obtain ⟨h1, h2⟩ := (mayP_iff l).1 hm
    have HR : Hid (ansP l (plainP l) = (plainP l, 0)) := Lib.hid (by unfold ansP; rw [hm]; rfl)
    have HP : Hid (plainP l = numsB [0, (l.length : Int)] ++ numsB l) := Lib.hid rfl
    have HN2 := Lib.hid (nums_two_len 0 (l.length : Int))
    have HNl := Lib.hid (numsB_len9 l)
    have H2 := Lib.hid h2
    obtain ⟨N, hN⟩ : ∃ N, numsB [0, (l.length : Int)] = N := ⟨_, rfl⟩
    obtain ⟨D, hD⟩ : ∃ D, numsB l = D := ⟨_, rfl⟩
    have HNN := Lib.hid hN
    have HDD := Lib.hid hD
    rw [hN] at HP HN2
    rw [hD] at HP HNl
    have hk1 : N.length + D.length ≤ maxLen := by unfold maxLen; have := HN2.out; have := HNl.out; omega
    have hk2 : (N.length + D.length) * 1 ≤ 140737488355328 := by have := HN2.out; have := HNl.out; omega
    rw [hm] at HM
    clear hm hA hN hD h2
    go_enter Try.func14, Try.ntmps14
    go_wp2_with fail
    refine HM.out.mono ?_
    rintro e w' ⟨rfl, rfl⟩
    go_wp2_with fail
    refine (refnums_any _ 2 2 [0, (l.length : Int)] N _ rfl HNN.out (Rd.lit w #[.int .i64 0, .int .i64 (l.length : Int)] _) (by
      intro v hv
      simp only [List.mem_cons, List.not_mem_nil, or_false] at hv
      rcases hv with rfl | rfl
      · exact ⟨by omega, by omega⟩
      · exact ⟨by omega, by omega⟩) (by simp)).mono ?_
    rintro e w3 ⟨A3, c3, rfl, hn3, hb3⟩
    have Hb3 : Hid (Below w.heap.size w w3) := Lib.hid (ext_trans (ext_alloc (Below.refl _ _) _) hb3)
    have Hn3 : Hid (New w w3 A3 c3 N) := Lib.hid (hn3.back (ext_alloc (Below.refl _ _) _).size)
    clear hn3 hb3
    go_wp2_with fail
    refine (refnums_any A l.length c l D w3 rfl HDD.out (HA.out.ext Hb3.out) (fun v hv => by have := H2.out v hv; exact ⟨by omega, by omega⟩) (by omega)).mono ?_
    rintro e w4 ⟨A4, c4, rfl, hn4, hb4⟩
    have Hb4 := Lib.hid hb4
    have Hn4 := Lib.hid hn4
    clear hn4 hb4
    go_wp2_with (at_builtin
                 refine wpList_app _ rfl (.tmp 10) (.tmp 12) _ rfl _ _ 1 Try.underlying23 info_u8 rfl A3 N.length c3 (N.map bv) rfl (by rw [List.length_map]) (Hn3.out.ext Hb4.out) A4 D.length c4 (D.map bv) rfl (by rw [List.length_map]) Hn4.out.rd (bvs_one _) hk1 hk2 ?_
                 intro A5 c5 w5 hown5 honly5)
    go_ret2
    obtain ⟨g1, g2⟩ := New.grow (ext_trans Hb3.out Hb4.out) hown5 honly5
    rw [HR.out]
    refine ⟨A5, c5, ?_, ?_, g2⟩
    · show _ = Ending.returned (.tuple #[.slice A5 (plainP l).length c5, .int .i64 0])
      rw [HP.out, List.length_append]
      rfl
    · show New w w5 A5 c5 (plainP l)
      rw [HP.out]
      exact g1

set_option maxHeartbeats 8000000 in
theorem rdelta_any (A : Option Addr) (c : Nat) (l : List Int) (w : World) (hA : Rd w A (l.map iv)) (hl : l.length ≤ 1099511627776) :
    Calls Try.prog 16 #[.slice A l.length c] w fun e w' => ∃ A' c', e = .returned (.tuple #[.slice A' (ansP l (deltaP l)).1.length c', .int .i64 (ansP l (deltaP l)).2]) ∧ New w w' A' c' (ansP l (deltaP l)).1 ∧ Below w.heap.size w w' := by
  have HM := Lib.hid (rmay_any A c l w hA hl)
  have HA := Lib.hid hA
  cases hm : mayP l with
  | false =>
    have HR : Hid (ansP l (deltaP l) = ([], 1)) := Lib.hid (by unfold ansP; rw [hm]; rfl)
    rw [hm] at HM
    clear hm hA
    go_enter Try.func16, Try.ntmps16
    go_wp2_with fail
    refine HM.out.mono ?_
    rintro e w' ⟨rfl, rfl⟩
    go_wp2
    go_ret2
    rw [HR.out]
    exact ⟨none, 0, rfl, Own.none_ _ _ _, Below.refl _ _⟩
  | true =>
    obtain ⟨h1, h2⟩ := (mayP_iff l).1 hm
    have hli : (l.length : Int) ≤ 32768 := by omega
    have HR : Hid (ansP l (deltaP l) = (deltaP l, 0)) := Lib.hid (by unfold ansP; rw [hm]; rfl)
    have HP : Hid (deltaP l = numsB [1, (l.length : Int)] ++ numsB (deltasTo l l.length)) := Lib.hid rfl
    have HN2 := Lib.hid (nums_two_len 1 (l.length : Int))
    have HNl : Hid (∀ k, (numsB (deltasTo l k)).length ≤ 9 * k) := Lib.hid (fun k => by
      have := numsB_len9 (deltasTo l k)
      rw [deltasTo_len] at this
      exact this)
    have H2 := Lib.hid h2
    have H1 := Lib.hid h1
    obtain ⟨N, hN⟩ : ∃ N, numsB [1, (l.length : Int)] = N := ⟨_, rfl⟩
    have HNN := Lib.hid hN
    rw [hN] at HP HN2
    rw [hm] at HM
    clear hm hA hN h2
    go_enter Try.func16, Try.ntmps16
    go_wp2_with fail
    refine HM.out.mono ?_
    rintro e w' ⟨rfl, rfl⟩
    go_wp2_with fail
    refine (refnums_any _ 2 2 [1, (l.length : Int)] N _ rfl HNN.out (Rd.lit w #[.int .i64 1, .int .i64 (l.length : Int)] _) (by
      intro v hv
      simp only [List.mem_cons, List.not_mem_nil, or_false] at hv
      rcases hv with rfl | rfl
      · exact ⟨by omega, by omega⟩
      · exact ⟨by omega, by omega⟩) (by simp)).mono ?_
    rintro e w3 ⟨A3, c3, rfl, hn3, hb3⟩
    have Hb3 : Hid (Below w.heap.size w w3) := Lib.hid (ext_trans (ext_alloc (Below.refl _ _) _) hb3)
    have Hn3 : Hid (New w w3 A3 c3 N) := Lib.hid (hn3.back (ext_alloc (Below.refl _ _) _).size)
    clear hn3 hb3
    go_wp2
    go_loopw [4, 5, 6] (fun s a i wr => ∃ (k : Nat) (ds : List UInt8) (A1 : Option Addr) (c1 : Nat), k ≤ l.length ∧ i = .int .i64 (k : Int) ∧ a = .int .i64 (prevP l k) ∧ s = .slice A1 ds.length c1 ∧ Hid (ds = N ++ numsB (deltasTo l k)) ∧ New w wr A1 c1 ds ∧ Below w.heap.size w wr) (fun _ _ i _ => l.length - (intOf i).toNat)
    case atStart => exact ⟨0, N, A3, c3, Nat.zero_le _, rfl, rfl, rfl, Lib.hid (by simp [deltasTo, numsB]), Hn3.out, Hb3.out⟩
    case round =>
      obtain ⟨k, ds, A1, c1, hk, rfl, rfl, rfl, Hds, hn, hb⟩ := hrel
      have Hn := Lib.hid hn
      have Hb := Lib.hid hb
      have hdl : ds.length ≤ 18 + 9 * k := by
        rw [Hds.out, List.length_append]
        have := HNl.out k
        have := HN2.out
        omega
      by_cases hlt : k < l.length
      · have hki : (k : Int) < (l.length : Int) := by omega
        obtain ⟨ad, hB, hcell⟩ := rd_int (HA.out.ext hb) hlt
        subst hB
        have hgd : l.getD k 0 = l[k] := by rw [List.getD_eq_getElem?_getD, List.getElem?_eq_getElem hlt]; rfl
        have Hpk : Hid (prevP l (k + 1) = l[k]) := Lib.hid (by unfold prevP; rw [if_neg (by omega), Nat.add_sub_cancel, hgd])
        have Hsn : Hid (N ++ numsB (deltasTo l (k + 1)) = (N ++ numsB (deltasTo l k)) ++ dig (clamp (foldP (l[k] - prevP l k)))) := Lib.hid (by rw [deltasTo_succ, hgd, numsB_append, List.append_assoc, numsB_one])
        have b1 := H2.out _ (List.getElem_mem hlt)
        have b2 := prevP_ok H2.out hlt
        have b3 := fold_ok H2.out hlt
        rw [hgd] at b3
        have hfo : foldP (l[k] - prevP l k) = if l[k] - prevP l k < 0 then -2 * (l[k] - prevP l k) - 1 else 2 * (l[k] - prevP l k) := rfl
        have hw1 : IntKind.i64.wrap (l[k] - prevP l k) = l[k] - prevP l k := IntWalk.i64_in _ (by omega)
        generalize foldP (l[k] - prevP l k) = F at *
        generalize prevP l k = p at *
        generalize hx : l[k] = x at *
        have Hx := Lib.hid hx
        clear hx
        have hY9 := dig_nine F
        rw [numsB_one] at hY9
        have HFN : Hid (∀ W : World, Calls Try.prog 39 #[.int .i64 F] W fun e w' => ∃ A' c', e = .returned (.slice A' (dig (clamp F)).length c') ∧ New W w' A' c' (dig (clamp F)) ∧ Below W.heap.size W w') := Lib.hid (fun W => refnum_any F W ⟨by omega, by omega⟩)
        obtain ⟨Y, hY⟩ : ∃ Y, dig (clamp F) = Y := ⟨_, rfl⟩
        rw [hY] at HFN Hsn hY9
        have hk1 : ds.length + Y.length ≤ maxLen := by unfold maxLen; omega
        have hk2 : (ds.length + Y.length) * 1 ≤ 140737488355328 := by omega
        clear hn hb hgd hY hY9 b3 hdl
        by_cases hneg : x - p < 0
        · have d0 : decide (0 ≤ x - p) = false := decide_eq_false (by omega)
          rw [if_pos hneg] at hfo
          have f1 : IntKind.i64.wrap (-2 * (x - p)) = -2 * (x - p) := IntWalk.i64_in _ (by omega)
          have f2 : IntKind.i64.wrap (-2 * (x - p) - 1) = F := by rw [hfo]; exact IntWalk.i64_in _ (by omega)
          have HC := Lib.hid (HFN.out wr)
          have hfo2 : -2 * (x - p) - 1 = F := hfo.symm
          clear HFN hfo
          go_wp2_with fail
          refine HC.out.mono ?_
          rintro e w4 ⟨A4, c4, rfl, hn4, hb4⟩
          have Hb4 := Lib.hid hb4
          have Hn4 := Lib.hid hn4
          clear hn4 hb4
          go_wp2_with (at_builtin
                       refine wpList_app _ rfl (.tmp 34) (.tmp 38) _ rfl _ _ 1 Try.underlying23 info_u8 rfl A1 ds.length c1 (ds.map bv) rfl (by rw [List.length_map]) (Hn.out.ext Hb4.out) A4 Y.length c4 (Y.map bv) rfl (by rw [List.length_map]) Hn4.out.rd (bvs_one _) hk1 hk2 ?_
                       intro A5 c5 w5 hown5 honly5
                       obtain ⟨g1, g2⟩ := New.grow (ext_trans Hb.out Hb4.out) hown5 honly5
                       obtain ⟨ad', hB', hcell'⟩ := rd_int (HA.out.ext g2) hlt
                       injection hB' with hB'
                       subst hB'
                       rw [Hx.out] at hcell'
                       have G1 := Lib.hid g1
                       have G2 := Lib.hid g2
                       clear hown5 honly5 g1 g2)
          go_roundw
          case rel => exact ⟨k + 1, ds ++ Y, A5, c5, by omega, by go_num, by rw [Hpk.out], by rw [List.length_append], Lib.hid (by rw [Hsn.out, Hds.out]), G1.out, G2.out⟩
          case measure => simp [intOf]; omega
        · have d0 : decide (0 ≤ x - p) = true := decide_eq_true (by omega)
          rw [if_neg hneg] at hfo
          have f1 : IntKind.i64.wrap (2 * (x - p)) = F := by rw [hfo]; exact IntWalk.i64_in _ (by omega)
          have HC := Lib.hid (HFN.out wr)
          have hfo2 : 2 * (x - p) = F := hfo.symm
          clear HFN hfo
          go_wp2_with fail
          refine HC.out.mono ?_
          rintro e w4 ⟨A4, c4, rfl, hn4, hb4⟩
          have Hb4 := Lib.hid hb4
          have Hn4 := Lib.hid hn4
          clear hn4 hb4
          go_wp2_with (at_builtin
                       refine wpList_app _ rfl (.tmp 29) (.tmp 32) _ rfl _ _ 1 Try.underlying23 info_u8 rfl A1 ds.length c1 (ds.map bv) rfl (by rw [List.length_map]) (Hn.out.ext Hb4.out) A4 Y.length c4 (Y.map bv) rfl (by rw [List.length_map]) Hn4.out.rd (bvs_one _) hk1 hk2 ?_
                       intro A5 c5 w5 hown5 honly5
                       obtain ⟨g1, g2⟩ := New.grow (ext_trans Hb.out Hb4.out) hown5 honly5
                       obtain ⟨ad', hB', hcell'⟩ := rd_int (HA.out.ext g2) hlt
                       injection hB' with hB'
                       subst hB'
                       rw [Hx.out] at hcell'
                       have G1 := Lib.hid g1
                       have G2 := Lib.hid g2
                       clear hown5 honly5 g1 g2)
          go_roundw
          case rel => exact ⟨k + 1, ds ++ Y, A5, c5, by omega, by go_num, by rw [Hpk.out], by rw [List.length_append], Lib.hid (by rw [Hsn.out, Hds.out]), G1.out, G2.out⟩
          case measure => simp [intOf]; omega
      · obtain rfl : k = l.length := by omega
        go_wp2
        go_ret2
        rw [HR.out]
        refine ⟨A1, c1, ?_, ?_, hb⟩
        · show _ = Ending.returned (.tuple #[.slice A1 (deltaP l).length c1, .int .i64 0])
          rw [HP.out, ← Hds.out]
          rfl
        · show New w wr A1 c1 (deltaP l)
          rw [HP.out, ← Hds.out]
          exact hn
end Go.Proofs.Ythceajadgjnnmaa

/-
  As runs; the shortest (reference). No statement of the seat is proved here.
-/
namespace Go.Proofs.Ythceajadgjnnmaa
open Go Go.RowKit
set_option maxRecDepth 100000

theorem below_drewN_ (w : World) (n : Nat) : Below w.heap.size w (w.drewN n) := ext_drewN (Below.refl _ _) n
theorem info_pair : (Try.prog.info? 57).map (fun i => (i.zero, i.size, i.bytes)) = some (some (.agg #[.int .i64 0, .int .i64 0]), 2, 16) := by kernel_rfl

set_option maxHeartbeats 8000000 in
theorem rruns_any (A : Option Addr) (c : Nat) (l : List Int) (w : World) (hA : Rd w A (l.map iv)) (hl : l.length ≤ 1099511627776) :
    Calls Try.prog 18 #[.slice A l.length c] w fun e w' => ∃ A' c', e = .returned (.tuple #[.slice A' (ansP l (runsB l)).1.length c', .int .i64 (ansP l (runsB l)).2]) ∧ New w w' A' c' (ansP l (runsB l)).1 ∧ Below w.heap.size w w' := by
  have HM := Lib.hid (rmay_any A c l w hA hl)
  have HA := Lib.hid hA
  cases hm : mayP l with
  | false =>
    have HR : Hid (ansP l (runsB l) = ([], 1)) := Lib.hid (by unfold ansP; rw [hm]; rfl)
    rw [hm] at HM
    clear hm hA
    go_enter Try.func18, Try.ntmps18
    go_wp2_with fail
    refine HM.out.mono ?_
    rintro e w' ⟨rfl, rfl⟩
    go_wp2
    go_ret2
    rw [HR.out]
    exact ⟨none, 0, rfl, Own.none_ _ _ _, Below.refl _ _⟩
  | true =>
    obtain ⟨h1, h2⟩ := (mayP_iff l).1 hm
    have hli : (l.length : Int) ≤ 32768 := by omega
    have HR : Hid (ansP l (runsB l) = (runsB l, 0)) := Lib.hid (by unfold ansP; rw [hm]; rfl)
    have H2 := Lib.hid h2
    have H1 := Lib.hid h1
    rw [hm] at HM
    clear hm hA h2
    go_enter Try.func18, Try.ntmps18
    go_wp2_with fail
    refine HM.out.mono ?_
    rintro e w' ⟨rfl, rfl⟩
    go_wp2
    go_loopw [4, 5] (fun s i wr => ∃ (k : Nat) (R : List (Nat × Int)) (B : Option Addr) (c : Nat), k ≤ l.length ∧ i = .int .i64 (k : Int) ∧ R = runsTo l k ∧ s = .slice B R.length c ∧ NewO w wr 57 2 B R.length c (cellsQ R)) (fun _ i _ => l.length - (intOf i).toNat)
    case atStart => exact ⟨0, [], none, 0, by omega, rfl, rfl, rfl, NewO.start _ _ _⟩
    case round =>
      obtain ⟨k, R, B, cR, hk, rfl, hR, rfl, hN⟩ := hrel
      by_cases hlt : k < l.length
      · have hki : (k : Int) < (l.length : Int) := by omega
        have hrl := runsTo_len l k
        rw [← hR] at hrl
        have hgd : l.getD k 0 = l[k] := by rw [List.getD_eq_getElem?_getD, List.getElem?_eq_getElem hlt]; rfl
        have hrd := HA.out.ext hN.bel
        obtain ⟨ad, hB, hcell⟩ := rd_int hrd hlt
        subst hB
        have hm1 : R.length + 1 ≤ maxLen := by unfold maxLen; omega
        have hm2 : (R.length + 1) * 16 ≤ 140737488355328 := by omega
        have HX : Hid (∀ W, Below wr.heap.size wr W → W.cell? (ad.add k) = some (.int .i64 l[k])) := Lib.hid (fun W hW => cell_only hcell (Only.of_ext (S := fun _ => False) hW) (fun h => h))
        by_cases hnew : k = 0 ∨ l.getD (k - 1) 0 ≠ l.getD k 0
        · have Hsn : Hid (runsTo l (k + 1) = R ++ [(1, l[k])]) := Lib.hid (by rw [runsTo_new l k hnew, hgd, hR])
          have HN := Lib.hid hN
          rcases Nat.eq_zero_or_pos k with hk0 | hk0
          · subst hk0
            have hd0 : decide ((0 : Int) < ((0 : Nat) : Int)) = false := rfl
            have hd1 : decide ((0 : Int) < 0) = false := rfl
            have hz : ad.add 0 = ad := by simp [Addr.add]
            rw [hz] at hcell HX
            generalize l[0] = x at *
            clear hR hnew hgd hrd hz
            go_wp2_with fail
            go_quiet (fail)
            have hcell := HX.out (wr.drewN nq) (below_drewN_ _ _)
            go_wp2_with (at_builtin
                         refine wpList_app_new rfl (.tmp 41) (.tmp 47) _ rfl 57 _ 2 16 Try.underlying56 info_pair rfl B _ cR _ HN.out (ext_alloc (below_drewN_ _ _) _) rfl ⟨(wr.drewN nq).heap.size, 0, none⟩ 1 [.int .i64 1, .int .i64 x] rfl rfl (Rd.lit _ #[.int .i64 1, .int .i64 x] _) ?_ hm1 hm2 ?_
                         · simp; exact ⟨rfl, rfl⟩
                         intro A3 c3 w3 hN3 hb3
                         have hN4 : NewO w w3 57 2 A3 (R.length + 1) c3 (cellsQ (R ++ [(1, x)])) := by rw [cellsQ_append]; exact hN3
                         have HN4 := Lib.hid hN4
                         clear hN3 hb3 hN4)
            go_roundw
            case rel => exact ⟨1, R ++ [(1, x)], A3, c3, by omega, by go_num, Hsn.out.symm, by simp, by rw [List.length_append]; exact HN4.out⟩
            case measure => simp [intOf]; omega
          · have hne : l.getD (k - 1) 0 ≠ l.getD k 0 := by
              rcases hnew with h | h
              · omega
              · exact h
            have hlt1 : k - 1 < l.length := by omega
            obtain ⟨ad', hB, hcell1⟩ := rd_int hrd hlt1
            injection hB with hB
            subst hB
            have hgd1 : l.getD (k - 1) 0 = l[k - 1] := by rw [List.getD_eq_getElem?_getD, List.getElem?_eq_getElem hlt1]; rfl
            rw [hgd, hgd1] at hne
            have hki1 : (k : Int) - 1 = ((k - 1 : Nat) : Int) := by omega
            have hk1i : ((k - 1 : Nat) : Int) < (l.length : Int) := by omega
            have hkz : decide ((0 : Int) < (k : Int)) = true := decide_eq_true (by omega)
            have hkz2 : (0 : Int) < (k : Int) := by omega
            generalize l[k - 1] = y at *
            generalize l[k] = x at *
            have hyx : (x == y) = false := by simpa using fun h => hne h.symm
            clear hR hnew hgd hrd hgd1
            go_wp2_with fail
            go_quiet (fail)
            have hcell := HX.out (wr.drewN nq) (below_drewN_ _ _)
            go_wp2_with (at_builtin
                         refine wpList_app_new rfl (.tmp 41) (.tmp 47) _ rfl 57 _ 2 16 Try.underlying56 info_pair rfl B _ cR _ HN.out (ext_alloc (below_drewN_ _ _) _) rfl ⟨(wr.drewN nq).heap.size, 0, none⟩ 1 [.int .i64 1, .int .i64 x] rfl rfl (Rd.lit _ #[.int .i64 1, .int .i64 x] _) ?_ hm1 hm2 ?_
                         · simp; exact ⟨rfl, rfl⟩
                         intro A3 c3 w3 hN3 hb3
                         have hN4 : NewO w w3 57 2 A3 (R.length + 1) c3 (cellsQ (R ++ [(1, x)])) := by rw [cellsQ_append]; exact hN3
                         have HN4 := Lib.hid hN4
                         clear hN3 hb3 hN4)
            go_roundw
            case rel => exact ⟨k + 1, R ++ [(1, x)], A3, c3, by omega, by go_num, Hsn.out.symm, by simp, by rw [List.length_append]; exact HN4.out⟩
            case measure => simp [intOf]; omega
        · have hk0 : 0 < k := by rcases Nat.eq_zero_or_pos k with h | h; exact absurd (.inl h) hnew; exact h
          have heq : l.getD (k - 1) 0 = l.getD k 0 := Classical.not_not.1 fun h => hnew (.inr h)
          have hlt1 : k - 1 < l.length := by omega
          obtain ⟨ad', hB, hcell1⟩ := rd_int hrd hlt1
          injection hB with hB
          subst hB
          have hgd1 : l.getD (k - 1) 0 = l[k - 1] := by rw [List.getD_eq_getElem?_getD, List.getElem?_eq_getElem hlt1]; rfl
          obtain ⟨rs, cc, e1, e2⟩ := runsTo_same l (k - 1) (by rw [show k - 1 + 1 = k by omega]; exact heq)
          rw [show k - 1 + 1 = k by omega] at e1 e2
          rw [show k - 1 + 2 = k + 1 by omega] at e2
          rw [hgd] at e1 e2
          rw [hgd, hgd1] at heq
          have hki1 : (k : Int) - 1 = ((k - 1 : Nat) : Int) := by omega
          have hk1i : ((k - 1 : Nat) : Int) < (l.length : Int) := by omega
          have hkz : decide ((0 : Int) < (k : Int)) = true := decide_eq_true (by omega)
          have hkz2 : (0 : Int) < (k : Int) := by omega
          rw [heq] at hcell1
          have hmem := (runsTo_mem l k (by omega) (cc, l[k]) (by rw [e1]; simp)).2.1
          generalize l[k - 1] = y at *
          generalize l[k] = x at *
          have hyx : (x == x) = true := by simp
          obtain rfl : R = rs ++ [(cc, x)] := hR.trans e1
          have HE2 := Lib.hid e2
          obtain ⟨g, o, hA3, q1, q2⟩ := hN.row.cellQ (k := rs.length) (by simp)
          subst hA3
          simp only [List.getElem_append_right (Nat.le_refl _), Nat.sub_self, List.getElem_cons_zero] at q1
          have hfr := hN.row.free (o + rs.length * 2)
          rw [List.length_append, List.length_singleton] at hN hrl ⊢
          have HN : Hid (∀ n : Nat, NewO w ((wr.drewN n).setCell ⟨g, o + rs.length * 2, none⟩ (.int .i64 ((cc : Int) + 1))) 57 2 (some ⟨g, o, none⟩) (rs ++ [(cc + 1, x)]).length cR (cellsQ (rs ++ [(cc + 1, x)]))) := Lib.hid (fun n => by
            have hd : NewO w (wr.drewN n) 57 2 (some ⟨g, o, none⟩) (rs.length + 1) cR (cellsQ (rs ++ [(cc, x)])) := hN.ext (below_drewN_ _ _)
            have h5 := hd.set (rs.length * 2) (by rw [cellsQ_length, List.length_append, List.length_singleton]; omega) (iv ((cc + 1 : Nat) : Int))
            rw [cellsQ_set] at h5
            rw [List.length_append]
            exact h5)
          have hlast : ((rs.length + 1 : Nat) : Int) - 1 = (rs.length : Int) := by omega
          have hcw : IntKind.i64.wrap ((cc : Int) + 1) = (((cc + 1 : Nat) : Int)) := by rw [show (cc : Int) + 1 = ((cc + 1 : Nat) : Int) by omega]; exact IntWalk.i64_in _ (by simp at hmem; omega)
          have hcc : (cc : Int) ≤ 32768 := by simp at hmem; omega
          have Hq1 := Lib.hid q1
          have Hfr := Lib.hid hfr
          clear hR hnew hgd hrd hgd1 q2 e1 e2 hm1 hm2 hN q1 hfr HX
          go_wp2_with fail
          go_quiet (fail)
          have q1b := Hq1.out
          have hfrb := Hfr.out
          have q1 : (wr.drewN nq).drew.cell? ⟨g, o + rs.length * 2, none⟩ = some (.int .i64 (cc : Int)) := Hq1.out
          have hfr : (wr.drewN nq).drew.frozen? ⟨g, o + rs.length * 2, none⟩ = false := Hfr.out
          go_wp2_with fail
          go_region
          go_wp2
          go_roundw
          case rel => exact ⟨k + 1, rs ++ [(cc + 1, x)], some ⟨g, o, none⟩, cR, by omega, by go_num, HE2.out.symm, by simp, HN.out _⟩
          case measure => simp [intOf]; omega
      · obtain rfl : k = l.length := by omega
        have hrl := runsTo_len l l.length
        rw [← hR] at hrl
        have HB := Lib.hid (runsTo_mem l l.length (Nat.le_refl _))
        have HP : Hid (runsB l = numsB [2, (R.length : Int)] ++ pairsTo R R.length) := Lib.hid (by rw [pairsTo_all, hR]; rfl)
        rw [← hR] at HB
        have HN2 := Lib.hid (nums_two_len 2 (R.length : Int))
        have HNl := Lib.hid (pairsTo_len R)
        have hri : (R.length : Int) ≤ 32768 := by omega
        have Hrl : Hid (R.length ≤ 32768) := Lib.hid (by omega)
        obtain ⟨N, hN⟩ : ∃ N, numsB [2, (R.length : Int)] = N := ⟨_, rfl⟩
        have HNN := Lib.hid hN
        rw [hN] at HP HN2
        rename_i hNw
        have Hrow := Lib.hid hNw.row
        have Hbw := Lib.hid hNw.bel
        clear hN hR hNw
        go_wp2_with fail
        refine (refnums_any _ 2 2 [2, (R.length : Int)] N _ rfl HNN.out (Rd.lit wr #[.int .i64 2, .int .i64 (R.length : Int)] _) (by
          intro v hv
          simp only [List.mem_cons, List.not_mem_nil, or_false] at hv
          rcases hv with rfl | rfl
          · exact ⟨by omega, by omega⟩
          · exact ⟨by omega, by omega⟩) (by simp)).mono ?_
        rintro e w3 ⟨A3, c3, rfl, hn3, hb3⟩
        have Hb3 : Hid (Below wr.heap.size wr w3) := Lib.hid (ext_trans (ext_alloc (Below.refl _ _) _) hb3)
        have Hn3 : Hid (New wr w3 A3 c3 N) := Lib.hid (hn3.back (ext_alloc (Below.refl _ _) _).size)
        clear hn3 hb3
        generalize wr = wa at *
        go_wp2
        go_loopw [6, 7] (fun s i x => ∃ (k : Nat) (ds : List UInt8) (A1 : Option Addr) (c1 : Nat), k ≤ R.length ∧ i = .int .i64 (k : Int) ∧ s = .slice A1 ds.length c1 ∧ Hid (ds = N ++ pairsTo R k) ∧ New wa x A1 c1 ds ∧ Below wa.heap.size wa x) (fun _ i _ => R.length - (intOf i).toNat)
        case atStart => exact ⟨0, N, A3, c3, Nat.zero_le _, rfl, rfl, Lib.hid (by simp [pairsTo, pairsB]), Hn3.out, Hb3.out⟩
        case round =>
          obtain ⟨k, ds, A1, c1, hk, rfl, rfl, Hds, hn, hb⟩ := hrel
          have Hn := Lib.hid hn
          have Hb := Lib.hid hb
          have hdl : ds.length ≤ 18 + 18 * k := by
            rw [Hds.out, List.length_append]
            have := HNl.out k
            have := HN2.out
            omega
          by_cases hlt : k < R.length
          · have hki : (k : Int) < (R.length : Int) := by omega
            obtain ⟨g, o, hB, c0, c1'⟩ := (Hrow.out.ext hb).cellQ hlt
            subst hB
            have Hsn : Hid (N ++ pairsTo R (k + 1) = (N ++ pairsTo R k) ++ numsB [(R[k].1 : Int), R[k].2]) := Lib.hid (by rw [pairsTo_succ R k hlt, List.append_assoc])
            have HS : Hid (∀ W, Below wa.heap.size wa W → W.cell? ⟨g, o + k * 2, none⟩ = some (.int .i64 (R[k].1 : Int)) ∧ W.cell? ⟨g, o + k * 2 + 1, none⟩ = some (.int .i64 R[k].2)) := Lib.hid (fun W hW => by
              obtain ⟨g', o', hB', r1, r2⟩ := (Hrow.out.ext hW).cellQ hlt
              injection hB' with hB'
              injection hB' with e1 e2 _
              subst e1 e2
              exact ⟨r1, r2⟩)
            obtain ⟨b1, b2, b3⟩ := HB.out _ (List.getElem_mem hlt)
            have b4 := H2.out _ b3
            have b5 : R[k].1 ≤ 32768 := by omega
            generalize R[k].1 = cc at *
            generalize R[k].2 = x at *
            obtain ⟨Y, hY⟩ : ∃ Y, numsB [(cc : Int), x] = Y := ⟨_, rfl⟩
            have hyl : Y.length ≤ 18 := by rw [← hY]; exact nums_two_len _ _
            rw [hY] at Hsn
            have HFN : Hid (∀ (W : World) (ad : Addr), Rd W (some ad) [.int .i64 (cc : Int), .int .i64 x] → Calls Try.prog 37 #[.slice (some ad) 2 2] W fun e w' => ∃ A' c', e = .returned (.slice A' Y.length c') ∧ New W w' A' c' Y ∧ Below W.heap.size W w') := Lib.hid (fun W ad hW =>
              refnums_any _ 2 2 [(cc : Int), x] Y _ rfl hY hW (by
                intro v hv
                simp only [List.mem_cons, List.not_mem_nil, or_false] at hv
                rcases hv with rfl | rfl
                · exact ⟨by omega, by omega⟩
                · exact ⟨by omega, by omega⟩) (by simp))
            have hk1 : ds.length + Y.length ≤ maxLen := by unfold maxLen; omega
            have hk2 : (ds.length + Y.length) * 1 ≤ 140737488355328 := by omega
            clear hn hb hY hdl hyl b1 b2 b3 b4 b5
            go_wp2_with fail
            refine wp_region_held_drew (S := fun W => W.cell? ⟨g, o + k * 2, none⟩ = some (.int .i64 (cc : Int)) ∧ W.cell? ⟨g, o + k * 2 + 1, none⟩ = some (.int .i64 x)) (by kernel_rfl) ?_ (fun hHeld => ?_)
            · exact HS.out _ (by first | exact g2 | exact ext_trans Hb.out HE.out | (repeat (first | exact Hb.out | apply ext_drew | apply ext_drewN | apply ext_alloc)))
            refine wpAnyH_take (i := 0) (v := ?_) (take_list rfl) (by kernel_rfl) (by kernel_rfl) (by kernel_rfl) (fun _ _ _ h => h) (Or.inl ⟨by rfl, ?_⟩) (by assumption) ?_
            rotate_left
            · intro w hSw
              try dsimp only at hSw
              first | (go_simp; done) | (go_simp; with_reducible rfl)
            try simp only [Act.put, List.setIfInBounds_toArray, List.set_cons_zero, List.set_cons_succ]
            refine wpAnyH_take (i := 1) (v := ?_) (take_list rfl) (by kernel_rfl) (by kernel_rfl) (by kernel_rfl) (fun _ _ _ h => h) (Or.inl ⟨by rfl, ?_⟩) (by assumption) ?_
            rotate_left
            · intro w hSw
              try dsimp only at hSw
              first | (go_simp; done) | (go_simp; with_reducible rfl)
            try simp only [Act.put, List.setIfInBounds_toArray, List.set_cons_zero, List.set_cons_succ]
            refine wpAnyH_take (i := 2) (v := ?_) (take_list rfl) (by kernel_rfl) (by kernel_rfl) (by kernel_rfl) (fun _ _ _ h => h) (Or.inl ⟨by rfl, ?_⟩) (by assumption) ?_
            rotate_left
            · intro w hSw
              try dsimp only at hSw
              first | (go_simp; done) | (go_simp; with_reducible rfl)
            try simp only [Act.put, List.setIfInBounds_toArray, List.set_cons_zero, List.set_cons_succ]
            refine wpAnyH_take (i := 3) (v := ?_) (take_list rfl) (by kernel_rfl) (by kernel_rfl) (by kernel_rfl) (fun _ _ _ h => h) (Or.inl ⟨by rfl, ?_⟩) (by assumption) ?_
            rotate_left
            · intro w hSw
              try dsimp only at hSw
              first | (go_simp; done) | (go_simp; with_reducible rfl)
            try simp only [Act.put, List.setIfInBounds_toArray, List.set_cons_zero, List.set_cons_succ]
            refine wpAnyH_take (i := 4) (v := ?_) (take_list rfl) (by kernel_rfl) (by kernel_rfl) (by kernel_rfl) (fun _ _ _ h => h) (Or.inl ⟨by rfl, ?_⟩) (by assumption) ?_
            rotate_left
            · intro w hSw
              try dsimp only at hSw
              first | (go_simp; done) | (go_simp; with_reducible rfl)
            try simp only [Act.put, List.setIfInBounds_toArray, List.set_cons_zero, List.set_cons_succ]
            refine wpAnyH_take (i := 5) (v := ?_) (take_list rfl) (by kernel_rfl) (by kernel_rfl) (by kernel_rfl) (fun _ _ _ h => h) (Or.inl ⟨by rfl, ?_⟩) (by assumption) ?_
            rotate_left
            · intro w hSw
              try dsimp only at hSw
              first | (go_simp; done) | (go_simp; with_reducible rfl)
            try simp only [Act.put, List.setIfInBounds_toArray, List.set_cons_zero, List.set_cons_succ]
            refine wpAnyH_take (i := 6) (v := ?_) (take_list rfl) (by kernel_rfl) (by kernel_rfl) (by kernel_rfl) (fun _ _ _ h => h) (Or.inl ⟨by rfl, ?_⟩) (by assumption) ?_
            rotate_left
            · intro w hSw
              try dsimp only at hSw
              first | (go_simp; done) | (go_simp; with_reducible rfl)
            try simp only [Act.put, List.setIfInBounds_toArray, List.set_cons_zero, List.set_cons_succ]
            refine wpAnyH_take (i := 7) (v := ?_) (take_list rfl) (by kernel_rfl) (by kernel_rfl) (by kernel_rfl) (fun _ _ _ h => h) (Or.inl ⟨by rfl, ?_⟩) (by assumption) ?_
            rotate_left
            · intro w hSw
              try dsimp only at hSw
              first | (go_simp; done) | (go_simp; with_reducible rfl)
            try simp only [Act.put, List.setIfInBounds_toArray, List.set_cons_zero, List.set_cons_succ]
            refine wpAnyH_take (i := 8) (v := ?_) (take_list rfl) (by kernel_rfl) (by kernel_rfl) (by kernel_rfl) (fun _ _ _ h => h) (Or.inl ⟨by rfl, ?_⟩) (by assumption) ?_
            rotate_left
            · intro w hSw
              try dsimp only at hSw
              first | (go_simp; done) | (go_simp; with_reducible rfl)
            try simp only [Act.put, List.setIfInBounds_toArray, List.set_cons_zero, List.set_cons_succ]
            refine wpAnyH_take (i := 9) (v := ?_) (take_list rfl) (by kernel_rfl) (by kernel_rfl) (by kernel_rfl) (fun _ _ _ h => h) (Or.inl ⟨by rfl, ?_⟩) (by assumption) ?_
            rotate_left
            · intro w hSw
              try dsimp only at hSw
              first | (go_simp; done) | (go_simp; with_reducible rfl)
            try simp only [Act.put, List.setIfInBounds_toArray, List.set_cons_zero, List.set_cons_succ]
            refine wpAnyH_take (i := 10) (v := ?_) (take_list rfl) (by kernel_rfl) (by kernel_rfl) (by kernel_rfl) (fun _ _ _ h => h) (Or.inl ⟨by rfl, ?_⟩) (by assumption) ?_
            rotate_left
            · intro w hSw
              try dsimp only at hSw
              first | (go_simp; done) | (go_simp; with_reducible rfl)
            try simp only [Act.put, List.setIfInBounds_toArray, List.set_cons_zero, List.set_cons_succ]
            refine wpAnyH_ready (rs := [11]) (by kernel_rfl) (by simp) ?_
            refine AllReadyH.cons (take_list rfl) (fun K hK => ?_) ?_
            · skip
              go_simp
              refine hK.out _ _ ?_ (fun hHeld => ?_)
              · try dsimp only
                exact HS.out _ (by first | exact g2 | exact ext_trans Hb.out HE.out | (repeat (first | exact Hb.out | apply ext_drew | apply ext_drewN | apply ext_alloc)))
              clear hK K
              refine wpAnyH_ready (rs := [12]) (by kernel_rfl) (by simp) ?_
              refine AllReadyH.cons (take_list rfl) (fun K hK => ?_) ?_
              · skip
                go_simp
                refine (HFN.out _ _ (Rd.lit wr #[.int .i64 (cc : Int), .int .i64 x] _).drew).mono ?_
                rintro e x1 ⟨A4, c4, rfl, hn4, hb4⟩
                dsimp only
                have HE : Hid (Below wr.heap.size wr x1) := Lib.hid (ext_trans (by repeat (first | exact Below.refl _ _ | apply ext_drew | apply ext_drewN | apply ext_alloc)) hb4)
                have Hn4 := Lib.hid hn4
                clear hn4 hb4
                refine hK.out _ _ ?_ (fun hHeld => ?_)
                · try dsimp only
                  exact HS.out _ (by first | exact g2 | exact ext_trans Hb.out HE.out | (repeat (first | exact Hb.out | apply ext_drew | apply ext_drewN | apply ext_alloc)))
                clear hK K
                refine wpAnyH_ready (rs := [13]) (by kernel_rfl) (by simp) ?_
                refine AllReadyH.cons (take_list rfl) (fun K hK => ?_) ?_
                · skip
                  refine step_appT rfl (.tmp 59) (.tmp 71) _ rfl 5 _ 1 Try.underlying23 info_u8 rfl A1 ds.length c1 (ds.map bv) rfl (by rw [List.length_map]) (Hn.out.ext HE.out) A4 Y.length c4 (Y.map bv) rfl (by rw [List.length_map]) Hn4.out.rd (bvs_one _) hk1 hk2 ?_
                  intro A5 c5 w5 hown5 honly5
                  obtain ⟨g1, g2⟩ := New.grow (ext_trans Hb.out HE.out) hown5 honly5
                  refine hK.out _ _ ?_ (fun hHeld => ?_)
                  · try dsimp only
                    exact HS.out _ (by first | exact g2 | exact ext_trans Hb.out HE.out | (repeat (first | exact Hb.out | apply ext_drew | apply ext_drewN | apply ext_alloc)))
                  clear hK K
                  refine wpAnyH_take (i := 14) (v := ?_) (take_list rfl) (by kernel_rfl) (by kernel_rfl) (by kernel_rfl) (fun _ _ _ h => h) (Or.inl ⟨by rfl, ?_⟩) (by assumption) ?_
                  rotate_left
                  · intro w hSw
                    try dsimp only at hSw
                    first | (go_simp; done) | (go_simp; with_reducible rfl)
                  try simp only [Act.put, List.setIfInBounds_toArray, List.set_cons_zero, List.set_cons_succ]
                  refine wpAnyH_done (by kernel_rfl) ?_ _
                  go_wp2
                  go_roundw
                  case rel => exact ⟨k + 1, ds ++ Y, A5, c5, by omega, by go_num, by rw [List.length_append], Lib.hid (by rw [Hsn.out, Hds.out]), g1, g2⟩
                  case measure => simp [intOf]; omega
                exact AllReadyH.nil
              exact AllReadyH.nil
            exact AllReadyH.nil
          · obtain rfl : k = R.length := by omega
            go_wp2
            go_ret2
            rw [HR.out]
            refine ⟨A1, c1, ?_, ?_, ext_trans Hbw.out hb⟩
            · show _ = Ending.returned (.tuple #[.slice A1 (runsB l).length c1, .int .i64 0])
              rw [HP.out, ← Hds.out]
              rfl
            · show New w wr A1 c1 (runsB l)
              rw [HP.out, ← Hds.out]
              exact hn.back Hbw.out.size
end Go.Proofs.Ythceajadgjnnmaa

/-
  The shortest (reference). No statement of the seat is proved here.
-/
namespace Go.Proofs.Ythceajadgjnnmaa
open Go Go.RowKit
set_option maxRecDepth 100000

set_option maxHeartbeats 8000000 in
theorem rbest_any (A : Option Addr) (c : Nat) (l : List Int) (w : World) (hA : Rd w A (l.map iv)) (hl : l.length ≤ 1099511627776) :
    Calls Try.prog 20 #[.slice A l.length c] w fun e w' => ∃ A' c', e = .returned (.tuple #[.slice A' (ansP l (bestP l)).1.length c', .int .i64 (ansP l (bestP l)).2]) ∧ New w w' A' c' (ansP l (bestP l)).1 ∧ Below w.heap.size w w' := by
  have H1 := Lib.hid (rplain_any A c l w hA hl)
  have H2 := Lib.hid (fun (W : World) (hb : Below w.heap.size w W) => rdelta_any A c l W (hA.ext hb) hl)
  have H3 := Lib.hid (fun (W : World) (hb : Below w.heap.size w W) => rruns_any A c l W (hA.ext hb) hl)
  have HP : Hid (bestP l = shortP (shortP (plainP l) (deltaP l)) (runsB l)) := Lib.hid rfl
  cases hm : mayP l with
  | false =>
    have e1 : ∀ b, ansP l b = ([], 1) := fun b => by unfold ansP; rw [hm]; rfl
    rw [e1] at H1 ⊢
    clear e1 hm hA H2 H3 HP
    go_enter Try.func20, Try.ntmps20
    go_wp2_with fail
    refine H1.out.mono ?_
    rintro e w1 ⟨A1, c1, rfl, hn1, hb1⟩
    have Hb1 := Lib.hid hb1
    clear hn1 hb1
    go_wp2
    go_ret2
    exact ⟨none, 0, rfl, Own.none_ _ _ _, Hb1.out⟩
  | true =>
    have e1 : ∀ b, ansP l b = (b, 0) := fun b => by unfold ansP; rw [hm]; rfl
    simp only [e1] at H1 H2 H3 ⊢
    generalize bestP l = P at *
    generalize plainP l = P1 at *
    generalize deltaP l = P2 at *
    generalize runsB l = P3 at *
    clear e1 hm hA
    have HF : ∀ (d1 : P2.length < P1.length ∨ ¬ P2.length < P1.length), True := fun _ => trivial
    clear HF
    by_cases h1 : P2.length < P1.length
    · have h1i : (P2.length : Int) < (P1.length : Int) := by omega
      by_cases h2 : P3.length < P2.length
      · have h2i : (P3.length : Int) < (P2.length : Int) := by omega
        have HE : Hid (P = P3) := Lib.hid (by rw [HP.out]; unfold shortP; rw [if_pos h1, if_pos h2])
        clear HP h1 h2
        go_enter Try.func20, Try.ntmps20
        go_wp2_with fail
        refine H1.out.mono ?_
        rintro e w1 ⟨A1, c1, rfl, hn1, hb1⟩
        have Hn1a := Lib.hid hn1
        have Hb1 := Lib.hid hb1
        clear hn1 hb1 H1
        go_wp2_with fail
        refine (H2.out w1 Hb1.out).mono ?_
        rintro e w2 ⟨A2, c2, rfl, hn2, hb2⟩
        have Hn1b := Lib.hid (Hn1a.out.ext hb2)
        have Hn2a := Lib.hid (hn2.back Hb1.out.size)
        have Hb2 := Lib.hid (ext_trans Hb1.out hb2)
        clear hn2 hb2 H2 Hn1a
        go_wp2_with fail
        refine (H3.out w2 Hb2.out).mono ?_
        rintro e w3 ⟨A3, c3, rfl, hn3, hb3⟩
        have Hn1 := Lib.hid (Hn1b.out.ext hb3)
        have Hn2 := Lib.hid (Hn2a.out.ext hb3)
        have Hn3 := Lib.hid (hn3.back Hb2.out.size)
        have Hb3 := Lib.hid (ext_trans Hb2.out hb3)
        clear hn3 hb3 H3 Hn2a Hn1b
        go_wp2
        go_ret2
        rw [HE.out]
        exact ⟨A3, c3, rfl, Hn3.out, Hb3.out⟩
      · have h2i : ¬ (P3.length : Int) < (P2.length : Int) := by omega
        have HE : Hid (P = P2) := Lib.hid (by rw [HP.out]; unfold shortP; rw [if_pos h1, if_neg h2])
        clear HP h1 h2
        go_enter Try.func20, Try.ntmps20
        go_wp2_with fail
        refine H1.out.mono ?_
        rintro e w1 ⟨A1, c1, rfl, hn1, hb1⟩
        have Hn1a := Lib.hid hn1
        have Hb1 := Lib.hid hb1
        clear hn1 hb1 H1
        go_wp2_with fail
        refine (H2.out w1 Hb1.out).mono ?_
        rintro e w2 ⟨A2, c2, rfl, hn2, hb2⟩
        have Hn1b := Lib.hid (Hn1a.out.ext hb2)
        have Hn2a := Lib.hid (hn2.back Hb1.out.size)
        have Hb2 := Lib.hid (ext_trans Hb1.out hb2)
        clear hn2 hb2 H2 Hn1a
        go_wp2_with fail
        refine (H3.out w2 Hb2.out).mono ?_
        rintro e w3 ⟨A3, c3, rfl, hn3, hb3⟩
        have Hn1 := Lib.hid (Hn1b.out.ext hb3)
        have Hn2 := Lib.hid (Hn2a.out.ext hb3)
        have Hn3 := Lib.hid (hn3.back Hb2.out.size)
        have Hb3 := Lib.hid (ext_trans Hb2.out hb3)
        clear hn3 hb3 H3 Hn2a Hn1b
        go_wp2
        go_ret2
        rw [HE.out]
        exact ⟨A2, c2, rfl, Hn2.out, Hb3.out⟩
    · have h1i : ¬ (P2.length : Int) < (P1.length : Int) := by omega
      by_cases h2 : P3.length < P1.length
      · have h2i : (P3.length : Int) < (P1.length : Int) := by omega
        have HE : Hid (P = P3) := Lib.hid (by rw [HP.out]; unfold shortP; rw [if_neg h1, if_pos h2])
        clear HP h1 h2
        go_enter Try.func20, Try.ntmps20
        go_wp2_with fail
        refine H1.out.mono ?_
        rintro e w1 ⟨A1, c1, rfl, hn1, hb1⟩
        have Hn1a := Lib.hid hn1
        have Hb1 := Lib.hid hb1
        clear hn1 hb1 H1
        go_wp2_with fail
        refine (H2.out w1 Hb1.out).mono ?_
        rintro e w2 ⟨A2, c2, rfl, hn2, hb2⟩
        have Hn1b := Lib.hid (Hn1a.out.ext hb2)
        have Hn2a := Lib.hid (hn2.back Hb1.out.size)
        have Hb2 := Lib.hid (ext_trans Hb1.out hb2)
        clear hn2 hb2 H2 Hn1a
        go_wp2_with fail
        refine (H3.out w2 Hb2.out).mono ?_
        rintro e w3 ⟨A3, c3, rfl, hn3, hb3⟩
        have Hn1 := Lib.hid (Hn1b.out.ext hb3)
        have Hn2 := Lib.hid (Hn2a.out.ext hb3)
        have Hn3 := Lib.hid (hn3.back Hb2.out.size)
        have Hb3 := Lib.hid (ext_trans Hb2.out hb3)
        clear hn3 hb3 H3 Hn2a Hn1b
        go_wp2
        go_ret2
        rw [HE.out]
        exact ⟨A3, c3, rfl, Hn3.out, Hb3.out⟩
      · have h2i : ¬ (P3.length : Int) < (P1.length : Int) := by omega
        have HE : Hid (P = P1) := Lib.hid (by rw [HP.out]; unfold shortP; rw [if_neg h1, if_neg h2])
        clear HP h1 h2
        go_enter Try.func20, Try.ntmps20
        go_wp2_with fail
        refine H1.out.mono ?_
        rintro e w1 ⟨A1, c1, rfl, hn1, hb1⟩
        have Hn1a := Lib.hid hn1
        have Hb1 := Lib.hid hb1
        clear hn1 hb1 H1
        go_wp2_with fail
        refine (H2.out w1 Hb1.out).mono ?_
        rintro e w2 ⟨A2, c2, rfl, hn2, hb2⟩
        have Hn1b := Lib.hid (Hn1a.out.ext hb2)
        have Hn2a := Lib.hid (hn2.back Hb1.out.size)
        have Hb2 := Lib.hid (ext_trans Hb1.out hb2)
        clear hn2 hb2 H2 Hn1a
        go_wp2_with fail
        refine (H3.out w2 Hb2.out).mono ?_
        rintro e w3 ⟨A3, c3, rfl, hn3, hb3⟩
        have Hn1 := Lib.hid (Hn1b.out.ext hb3)
        have Hn2 := Lib.hid (Hn2a.out.ext hb3)
        have Hn3 := Lib.hid (hn3.back Hb2.out.size)
        have Hb3 := Lib.hid (ext_trans Hb2.out hb3)
        clear hn3 hb3 H3 Hn2a Hn1b
        go_wp2
        go_ret2
        rw [HE.out]
        exact ⟨A1, c1, rfl, Hn1.out, Hb3.out⟩
end Go.Proofs.Ythceajadgjnnmaa

/-
  Sums of differences, numbers of runs (reference). No statement of the seat is proved here.
-/
namespace Go.Proofs.Ythceajadgjnnmaa
open Go Go.RowKit
set_option maxRecDepth 100000

theorem and_one (f : Nat) (hf : f ≤ 4611686018427387904) : bits .and .i64 (f : Int) 1 = ((f % 2 : Nat) : Int) := by
  show IntKind.i64.wrap ((BitVec.ofInt 64 (f : Int) &&& BitVec.ofInt 64 1).toNat : Int) = _
  have h2 : (BitVec.ofInt 64 (f : Int)).toNat = f := by rw [BitVec.toNat_ofInt]; omega
  have h3 : (BitVec.ofInt 64 1).toNat = 1 := rfl
  rw [BitVec.toNat_and, h2, h3, show (1 : Nat) = 2 ^ 1 - 1 from rfl, Nat.and_two_pow_sub_one_eq_mod, IntKind.wrap_i64]
  omega
/-- append of one number onto a row that was made anew -/
theorem ints_app (l : List Int) (x : Int) : l.map iv ++ [.int .i64 x] = (l ++ [x]).map iv := by simp [iv]

set_option maxHeartbeats 8000000 in
theorem rdeltas_any (A : Option Addr) (c : Nat) (l : List Int) (w : World) (hA : Rd w A (l.map iv)) (hv : ∀ v ∈ l, 0 ≤ v ∧ v ≤ 4611686018427387904) (hl : l.length ≤ 1099511627776) :
    Calls Try.prog 49 #[.slice A l.length c] w fun e w' => ∃ A' c', e = .returned (.slice A' (rdel l).length c') ∧ NewO w w' 3 1 A' (rdel l).length c' ((rdel l).map iv) := by
  have hli : (l.length : Int) ≤ 1099511627776 := by omega
  have HA := Lib.hid hA
  have HV := Lib.hid hv
  have HY : Hid ((∀ j, j < l.length → 0 ≤ addK l (j + 1) ∧ addK l (j + 1) ≤ 1099511627776) → rdel l = addedTo l l.length) := Lib.hid (fun h => by unfold rdel; rw [if_pos h]; rfl)
  have HN : Hid (∀ j, j < l.length → ¬ (0 ≤ addK l (j + 1) ∧ addK l (j + 1) ≤ 1099511627776) → rdel l = []) := Lib.hid (fun j hj hb => by unfold rdel; rw [if_neg (fun h => hb (h j hj))])
  generalize rdel l = R at *
  clear hA hv
  go_enter Try.func49, Try.ntmps49
  go_wp2
  go_loopw [3, 4, 5] (fun s a i wr => ∃ (k : Nat) (B : Option Addr) (cB : Nat), k ≤ l.length ∧ i = .int .i64 (k : Int) ∧ a = .int .i64 (addK l k) ∧ s = .slice B k cB ∧ NewO w wr 3 1 B k cB ((addedTo l k).map iv) ∧ Hid (∀ j, j < k → 0 ≤ addK l (j + 1) ∧ addK l (j + 1) ≤ 1099511627776)) (fun _ _ i _ => l.length - (intOf i).toNat)
  case atStart => exact ⟨0, none, 0, Nat.zero_le _, rfl, rfl, rfl, NewO.start _ _ _, Lib.hid (fun j hj => by omega)⟩
  case round =>
    obtain ⟨k, B, cB, hk, rfl, rfl, rfl, hN, Hall⟩ := hrel
    by_cases hlt : k < l.length
    · have hki : (k : Int) < (l.length : Int) := by omega
      obtain ⟨ad, hB, hcell⟩ := rd_int (HA.out.ext hN.bel) hlt
      subst hB
      have hgd : l.getD k 0 = l[k] := by rw [List.getD_eq_getElem?_getD, List.getElem?_eq_getElem hlt]; rfl
      have b1 := HV.out _ (List.getElem_mem hlt)
      have hlast : 0 ≤ addK l k ∧ addK l k ≤ 1099511627776 := by
        rcases k with _ | k
        · exact ⟨Int.le_refl _, by show (0 : Int) ≤ _; omega⟩
        · exact Hall.out k (by omega)
      have hnx : addK l (k + 1) = IntKind.i64.wrap (addK l k + unfP l[k]) := by rw [addK, hgd]
      have hun : unfP l[k] = if l[k] % 2 = 1 then -(l[k] / 2 + 1) else l[k] / 2 := rfl
      have Hsn := Lib.hid (addedTo_succ l k)
      have HBad := Lib.hid (HN.out k hlt)
      have HAl : Hid (0 ≤ addK l (k + 1) ∧ addK l (k + 1) ≤ 1099511627776 → ∀ j, j < k + 1 → 0 ≤ addK l (j + 1) ∧ addK l (j + 1) ≤ 1099511627776) := Lib.hid (fun h j hj => by
        rcases Nat.lt_succ_iff_lt_or_eq.1 hj with h3 | rfl
        · exact Hall.out j h3
        · exact h)
      have t2 : l[k].tdiv 2 = l[k] / 2 := Int.tdiv_eq_ediv_of_nonneg b1.1
      obtain ⟨X, hX⟩ := Int.eq_ofNat_of_zero_le b1.1
      have hand := and_one X (by omega)
      rw [← hX] at hand
      have hand2 : bits .and .i64 l[k] 1 = l[k] % 2 := by rw [hand]; omega
      have HNw := Lib.hid hN
      have hm1 : k + 1 ≤ maxLen := by unfold maxLen; omega
      have hm2 : (k + 1) * 8 ≤ 140737488355328 := by omega
      generalize hz : addK l (k + 1) = z at *
      have Hz := Lib.hid hz
      generalize addK l k = q at *
      generalize l[k] = x at *
      clear hN hgd hX hand hz
      by_cases hodd : x % 2 = 1
      · rw [if_pos hodd] at hun
        have hne : ¬ x % 2 = 0 := by omega
        have hbq : (bits .and .i64 x 1 == 0) = false := by rw [hand2]; simp; omega
        have hbq2 : ¬ (bits .and .i64 x 1 = 0) := by rw [hand2]; omega
        have f1 : IntKind.i64.wrap (q - x / 2) = q - x / 2 := IntWalk.i64_in _ (by omega)
        have f2 : IntKind.i64.wrap (q - x / 2 - 1) = q - x / 2 - 1 := IntWalk.i64_in _ (by omega)
        have hzz : z = q - x / 2 - 1 := by rw [hnx, hun, show q + -(x / 2 + 1) = q - x / 2 - 1 by omega]; exact f2
        clear hnx hun
        rw [hzz] at HBad HAl Hz Hsn
        by_cases hz0 : q - x / 2 - 1 < 0
        · have d0 : decide (q - x / 2 - 1 < 0) = true := decide_eq_true hz0
          have HR := Lib.hid (HBad.out (by omega))
          clear HBad HAl
          go_wp2
          go_ret
          rw [HR.out]
          exact ⟨none, 0, rfl, RowO.none_ _ _ _, HNw.out.bel, fun k hk => absurd hk (inA_none k)⟩
        · have d0 : decide (q - x / 2 - 1 < 0) = false := decide_eq_false hz0
          by_cases hz1 : 1099511627776 < q - x / 2 - 1
          · have d1 : decide (1099511627776 < q - x / 2 - 1) = true := decide_eq_true hz1
            have HR := Lib.hid (HBad.out (by omega))
            clear HBad HAl
            go_wp2
            go_ret
            rw [HR.out]
            exact ⟨none, 0, rfl, RowO.none_ _ _ _, HNw.out.bel, fun k hk => absurd hk (inA_none k)⟩
          · have d1 : decide (1099511627776 < q - x / 2 - 1) = false := decide_eq_false hz1
            have HAL := Lib.hid (HAl.out (by omega))
            clear HBad HAl
            go_wp2_with (at_builtin
                         refine wpList_app_new rfl (.tmp 39) (.tmp 41) _ rfl 3 _ 1 8 Try.underlying22 info_int rfl B k cB _ HNw.out (ext_alloc (Below.refl _ _) _) rfl ⟨wr.heap.size, 0, none⟩ 1 [.int .i64 (q - x / 2 - 1)] rfl rfl (Rd.lit _ #[.int .i64 (q - x / 2 - 1)] _) ?_ hm1 hm2 ?_
                         · simp; rfl
                         intro A3 c3 w3 hN3 hb3
                         have HN3 := Lib.hid hN3
                         clear hN3 hb3)
            go_roundw
            case rel => exact ⟨k + 1, A3, c3, by omega, by go_num, by rw [Hz.out], rfl, by rw [Hsn.out, ← ints_app]; exact HN3.out, HAL⟩
            case measure => simp [intOf]; omega
      · rw [if_neg hodd] at hun
        have hne : x % 2 = 0 := by omega
        have hbq : (bits .and .i64 x 1 == 0) = true := by rw [hand2]; simp; omega
        have hbq2 : bits .and .i64 x 1 = 0 := by rw [hand2]; omega
        have f1 : IntKind.i64.wrap (q + x / 2) = q + x / 2 := IntWalk.i64_in _ (by omega)
        have hzz : z = q + x / 2 := by rw [hnx, hun]; exact f1
        clear hnx hun
        rw [hzz] at HBad HAl Hz Hsn
        by_cases hz0 : q + x / 2 < 0
        · have d0 : decide (q + x / 2 < 0) = true := decide_eq_true hz0
          have HR := Lib.hid (HBad.out (by omega))
          clear HBad HAl
          go_wp2
          go_ret
          rw [HR.out]
          exact ⟨none, 0, rfl, RowO.none_ _ _ _, HNw.out.bel, fun k hk => absurd hk (inA_none k)⟩
        · have d0 : decide (q + x / 2 < 0) = false := decide_eq_false hz0
          by_cases hz1 : 1099511627776 < q + x / 2
          · have d1 : decide (1099511627776 < q + x / 2) = true := decide_eq_true hz1
            have HR := Lib.hid (HBad.out (by omega))
            clear HBad HAl
            go_wp2
            go_ret
            rw [HR.out]
            exact ⟨none, 0, rfl, RowO.none_ _ _ _, HNw.out.bel, fun k hk => absurd hk (inA_none k)⟩
          · have d1 : decide (1099511627776 < q + x / 2) = false := decide_eq_false hz1
            have HAL := Lib.hid (HAl.out (by omega))
            clear HBad HAl
            go_wp2_with (at_builtin
                         refine wpList_app_new rfl (.tmp 39) (.tmp 41) _ rfl 3 _ 1 8 Try.underlying22 info_int rfl B k cB _ HNw.out (ext_alloc (Below.refl _ _) _) rfl ⟨wr.heap.size, 0, none⟩ 1 [.int .i64 (q + x / 2)] rfl rfl (Rd.lit _ #[.int .i64 (q + x / 2)] _) ?_ hm1 hm2 ?_
                         · simp; rfl
                         intro A3 c3 w3 hN3 hb3
                         have HN3 := Lib.hid hN3
                         clear hN3 hb3)
            go_roundw
            case rel => exact ⟨k + 1, A3, c3, by omega, by go_num, by rw [Hz.out], rfl, by rw [Hsn.out, ← ints_app]; exact HN3.out, HAL⟩
            case measure => simp [intOf]; omega
    · obtain rfl : k = l.length := by omega
      have hR := HY.out Hall.out
      have Hlen := Lib.hid (addedTo_len l l.length)
      have HR := Lib.hid hR
      clear hR
      go_wp2
      go_ret
      rw [HR.out, Hlen.out]
      exact ⟨B, cB, rfl, hN⟩
end Go.Proofs.Ythceajadgjnnmaa

/-
  Numbers of runs (reference). No statement of the seat is proved here.
-/
namespace Go.Proofs.Ythceajadgjnnmaa
open Go Go.RowKit
set_option maxRecDepth 100000

def rrA (l : List Int) : List Int × Bool := match rrP l with | some o => (o, true) | none => ([], false)

set_option maxHeartbeats 8000000 in
theorem rrunsl_any (A : Option Addr) (c : Nat) (l : List Int) (w : World) (hA : Rd w A (l.map iv)) (hv : ∀ v ∈ l, 0 ≤ v ∧ v ≤ 4611686018427387904) (hl : l.length ≤ 1099511627776) :
    Calls Try.prog 50 #[.slice A l.length c] w fun e w' => ∃ A' c', e = .returned (.tuple #[.slice A' (rrA l).1.length c', .bool (rrA l).2]) ∧ NewO w w' 3 1 A' (rrA l).1.length c' ((rrA l).1.map iv) := by
  have hli : (l.length : Int) ≤ 1099511627776 := by omega
  have HA := Lib.hid hA
  have HV := Lib.hid hv
  have HY : Hid (∀ o, rrK l (l.length / 2) = some o → rrA l = (o, true)) := Lib.hid (fun o h => by unfold rrA rrP; rw [h])
  have HN : Hid (∀ k, k ≤ l.length / 2 → rrK l k = none → rrA l = ([], false)) := Lib.hid (fun k hk h => by
    obtain ⟨d, hd⟩ := Nat.exists_eq_add_of_le hk
    unfold rrA rrP
    rw [hd, rrK_none h d])
  generalize rrA l = R at *
  clear hA hv
  go_enter Try.func50, Try.ntmps50
  go_wp2
  go_loopw [4, 5] (fun s i wr => ∃ (k : Nat) (o : List Int) (B : Option Addr) (cB : Nat), k ≤ l.length / 2 ∧ i = .int .i64 (2 * (k : Int)) ∧ s = .slice B o.length cB ∧ NewO w wr 3 1 B o.length cB (o.map iv) ∧ Hid (rrK l k = some o) ∧ o.length ≤ 32768) (fun _ i _ => l.length - (intOf i).toNat)
  case atStart => exact ⟨0, [], none, 0, Nat.zero_le _, rfl, rfl, NewO.start _ _ _, Lib.hid rfl, by simp⟩
  case round =>
    obtain ⟨k, o, B, cB, hk, rfl, rfl, hN, Hk, hol⟩ := hrel
    by_cases hlt : 2 * k + 1 < l.length
    · have hki : 2 * (k : Int) + 1 < (l.length : Int) := by omega
      have hki0 : 2 * (k : Int) < (l.length : Int) := by omega
      have hlt0 : 2 * k < l.length := by omega
      have hkk : k + 1 ≤ l.length / 2 := by omega
      have hcast : ((2 * k : Nat) : Int) = 2 * (k : Int) := by omega
      have hcast1 : ((2 * k + 1 : Nat) : Int) = 2 * (k : Int) + 1 := by omega
      have hA0 := HA.out.ext hN.bel
      obtain ⟨ad, hB, hcell⟩ := rd_int hA0 hlt0
      subst hB
      have ht0 : (2 * (k : Int)).toNat = 2 * k := by omega
      have ht1 : (2 * (k : Int) + 1).toNat = 2 * k + 1 := by omega
      have hg0 : l.getD (2 * k) 0 = l[2 * k] := by rw [List.getD_eq_getElem?_getD, List.getElem?_eq_getElem hlt0]; rfl
      have hg1 : l.getD (2 * k + 1) 0 = l[2 * k + 1] := by rw [List.getD_eq_getElem?_getD, List.getElem?_eq_getElem hlt]; rfl
      have b1 := HV.out _ (List.getElem_mem hlt0)
      have hnx : rrK l (k + 1) = if 32768 < l[2 * k] ∨ 32768 < (o.length : Int) + l[2 * k] then none else some (o ++ List.replicate l[2 * k].toNat l[2 * k + 1]) := by
        rw [rrK, Hk.out]
        simp only [hg0, hg1]
      have HX : Hid (∀ W, Below w.heap.size w W → W.cell? (ad.add (2 * k)) = some (.int .i64 l[2 * k]) ∧ W.cell? ⟨ad.block, ad.off + (2 * k + 1), none⟩ = some (.int .i64 l[2 * k + 1])) := Lib.hid (fun W hW => by
        obtain ⟨a1, e1, c1⟩ := rd_int (HA.out.ext hW) hlt0
        injection e1 with e1
        subst e1
        obtain ⟨a2, e2, c2⟩ := rd_int (HA.out.ext hW) hlt
        injection e2 with e2
        subst e2
        have hz : ad.add (2 * k + 1) = ⟨ad.block, ad.off + (2 * k + 1), none⟩ := by simp [Addr.add]
        rw [hz] at c2
        exact ⟨c1, c2⟩)
      have HNw := Lib.hid hN
      have HBad := Lib.hid (HN.out (k + 1) hkk)
      generalize l[2 * k] = n at *
      generalize l[2 * k + 1] = v at *
      clear hg0 hg1 hA0 hN
      by_cases h1 : 32768 < n
      · have d1 : decide (32768 < n) = true := decide_eq_true h1
        rw [if_pos (.inl h1)] at hnx
        have HR := Lib.hid (HBad.out hnx)
        clear HBad hnx
        go_wp2
        go_ret2
        rw [HR.out]
        exact ⟨none, 0, rfl, RowO.none_ _ _ _, HNw.out.bel, fun k hk => absurd hk (inA_none k)⟩
      · have d1 : decide (32768 < n) = false := decide_eq_false h1
        have hsw : IntKind.i64.wrap ((o.length : Int) + n) = (o.length : Int) + n := IntWalk.i64_in _ (by omega)
        by_cases h2 : 32768 < (o.length : Int) + n
        · have d2 : decide (32768 < (o.length : Int) + n) = true := decide_eq_true h2
          rw [if_pos (.inr h2)] at hnx
          have HR := Lib.hid (HBad.out hnx)
          clear HBad hnx
          go_wp2
          go_ret2
          rw [HR.out]
          exact ⟨none, 0, rfl, RowO.none_ _ _ _, HNw.out.bel, fun k hk => absurd hk (inA_none k)⟩
        · have d2 : decide (32768 < (o.length : Int) + n) = false := decide_eq_false h2
          rw [if_neg (by omega)] at hnx
          have Hnx := Lib.hid hnx
          clear HBad hnx
          obtain ⟨m, hm⟩ := Int.eq_ofNat_of_zero_le b1.1
          have hm2 : n.toNat = m := by omega
          rw [hm2] at Hnx
          subst hm
          have hmo : o.length + m ≤ 32768 := by omega
          generalize wr = wa at *
          go_wp2
          go_loopw [4, 6] (fun s i wr => ∃ (j : Nat) (B : Option Addr) (cB : Nat), j ≤ m ∧ i = .int .i64 (j : Int) ∧ s = .slice B (o.length + j) cB ∧ NewO w wr 3 1 B (o.length + j) cB ((o ++ List.replicate j v).map iv)) (fun _ i _ => m - (intOf i).toNat)
          case atStart => exact ⟨0, B, cB, Nat.zero_le _, rfl, rfl, by simpa using HNw.out⟩
          case round =>
            obtain ⟨j, B, cB, hj, rfl, rfl, hN⟩ := hrel
            obtain ⟨hc0, hc1⟩ := HX.out _ hN.bel
            have HN2 := Lib.hid hN
            by_cases hjm : j < m
            · have hji : (j : Int) < (m : Int) := by omega
              have hm1 : o.length + j + 1 ≤ maxLen := by unfold maxLen; omega
              have hm2 : (o.length + j + 1) * 8 ≤ 140737488355328 := by omega
              clear hN
              go_wp2_with (at_builtin
                           refine wpList_app_new rfl (.tmp 37) (.tmp 43) _ rfl 3 _ 1 8 Try.underlying22 info_int rfl B (o.length + j) cB _ HN2.out (ext_alloc (Below.refl _ _) _) rfl ⟨wr.heap.size, 0, none⟩ 1 [.int .i64 v] rfl rfl (Rd.lit _ #[.int .i64 v] _) ?_ hm1 hm2 ?_
                           · simp; rfl
                           intro A3 c3 w3 hN3 hb3
                           have HN3 := Lib.hid hN3
                           clear hN3 hb3)
              go_roundw
              case rel => exact ⟨j + 1, A3, c3, by omega, by go_num, rfl, by rw [List.replicate_succ', ← List.append_assoc, ← ints_app]; exact HN3.out⟩
              case measure => simp [intOf]; omega
            · obtain rfl : j = m := by omega
              have hjj : decide ((j : Int) < (j : Int)) = false := by simp
              clear hN
              go_wp2
              go_roundw
              case rel => exact ⟨k + 1, o ++ List.replicate j v, B, cB, by omega, by go_num, by rw [List.length_append, List.length_replicate], by rw [List.length_append, List.length_replicate]; exact HN2.out, Lib.hid Hnx.out, by rw [List.length_append, List.length_replicate]; omega⟩
              case measure => simp [intOf]; omega
    · have hki : ¬ (2 * (k : Int) + 1 < (l.length : Int)) := by omega
      obtain rfl : k = l.length / 2 := by omega
      have HR := Lib.hid (HY.out o Hk.out)
      go_wp2
      go_ret2
      rw [HR.out]
      exact ⟨B, cB, rfl, hN⟩
end Go.Proofs.Ythceajadgjnnmaa
