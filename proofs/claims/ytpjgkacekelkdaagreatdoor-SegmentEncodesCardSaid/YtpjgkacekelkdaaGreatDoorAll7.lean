/-
  Texts of this claim, joined (part 7): contracts and lemmas that the last text goes by. No statement of the seat is proved here.
-/
import Derived.Test.YtpjgkacekelkdaaGreatDoorAll4
import Derived.Shelf.Bits.Mul64
import Derived.Ground.Names2Prog
import Derived.Test.YtpjgkacekelkdaaGreatDoorProg
set_option linter.unusedVariables false
set_option linter.unusedSimpArgs false
/-
  DERIVED: THE SHELF's CONTRACTS AT THIS DUMP, IN PLAIN WORDS (tools/lay-plain.mjs out of 'YtpjgkacekelkdaaGreatDoorShelfP0.lean', which tools/lay-shelf.mjs wrote): THE SAME DECLARATIONS UNDER THE SAME NAMES: 'import', 'namespace', 'open', 'def', 'theorem' AND NOTHING ELSE: no command of the shelf's: FOR A HAND-IN. Each laying: the table of numbers ('.._ren') and one theorem, a field a fact of the dump's own or the kernel's comparison; each contract: ONE APPLICATION.
-/
namespace Go.Proofs
open Go.Shelf
def Tryz.layMul_ren : Go.Shelf.Ren := ⟨fun | 212 => 103 | 263 => 115 | 264 => 116 | n => n, fun | 46 => 99 | 51 => 65 | 146 => 155 | 53 => 102 | 148 => 157 | n => n, fun | n => n⟩
theorem Tryz.layMul : Go.Proofs.Lays.n212 Tryz.prog Tryz.layMul_ren := {
  mixed := by kernel_rfl
  f212 := Tryz.func103.trans (congrArg some (by kernel_rfl))
  f263 := Tryz.func115.trans (congrArg some (by kernel_rfl))
  f264 := Tryz.func116.trans (congrArg some (by kernel_rfl))
  t46 := Tryz.underlying99
  a46 := Tryz.isAgg99
  z46 := Tryz.sizeOf99
  v46 := Tryz.zeroValue99
  t51 := Tryz.underlying65
  a51 := Tryz.isAgg65
  z51 := Tryz.sizeOf65
  v51 := Tryz.zeroValue65
  t53 := Tryz.underlying102
  a53 := Tryz.isAgg102
  z53 := Tryz.sizeOf102
  v53 := Tryz.zeroValue102
  t146 := Tryz.underlying155
  a146 := Tryz.isAgg155
  z146 := Tryz.sizeOf155
  v146 := Tryz.zeroValue155
  t148 := Tryz.underlying157
  a148 := Tryz.isAgg157
  z148 := Tryz.sizeOf157
  v148 := Tryz.zeroValue157 }
end Go.Proofs

/-
  Nums at two places; a number many times (program). No statement of the seat is proved here.
-/
namespace Go.Proofs.YtpjgkacekelkdaaGreatDoor
open Go Go.RowKit
set_option maxRecDepth 100000

set_option maxHeartbeats 4000000 in
theorem rnums_two (fp : Nat → Prop) (g ga gl : Nat) (n c : Nat) (x y : Int) (bs : List UInt8) (w : World) (h : Rdr w fp g bs false) (hb : bs.length ≤ 1099511627776) (hn : n = 2)
    (hl : Blk w gl 137 #[.pointer (some ⟨ga, 0, none⟩), .pointer (some ⟨ga, 1, none⟩)]) (ha : Blk w ga 135 #[.int .i64 x, .int .i64 y]) (hfa : ¬ fp ga) (hfl : ¬ fp gl) :
    Calls Tryz.prog 95 #[.pointer (some ⟨g, 0, none⟩), .slice (some ⟨gl, 0, none⟩) n c] w fun e w' => e = .returned (.tuple #[]) ∧ Rdr w' fp g (stTwo bs).2.1 (stTwo bs).2.2 ∧
      Blk w' ga 135 #[.int .i64 ((stTwo bs).1.1 : Int), .int .i64 ((stTwo bs).1.2 : Int)] ∧ Only (fun k => k = g ∨ k = ga) w w' := by
  subst hn
  have hg := h.1
  have hag : ga ≠ g := fun e => hfa (e ▸ hg)
  have hlg : gl ≠ g := fun e => hfl (e ▸ hg)
  have hla : gl ≠ ga := fun e => by
    subst e; unfold Blk at hl ha; rw [hl] at ha; injection ha with ha; injection ha with _ ht; exact absurd ht (by decide)
  have l0 := hl.cell 0
  simp only [List.getElem?_toArray, List.getElem?_cons_zero] at l0
  have b1 := stNum_len bs false
  have E2 : stTwo bs = (((stNum bs false).1, (stNum (stNum bs false).2.1 (stNum bs false).2.2).1), (stNum (stNum bs false).2.1 (stNum bs false).2.2).2) := rfl
  rw [E2]
  clear E2
  go_enter Tryz.func95, Tryz.ntmps95
  go_wp2
  refine wp_loop_rounds 3 ?_
  rw [rounds_succ]
  go_wp2_with fail
  refine (rnum_st fp g bs false _ h hb).mono ?_
  rintro e w1 ⟨rfl, h1, o1⟩
  have ha1 := ha.only o1 hag
  have a1 := ha1.cell 0
  have af1 := ha1.free 0
  simp only [List.getElem?_toArray, List.getElem?_cons_zero] at a1
  have hl1 := hl.only o1 hlg
  go_wp2
  have ho1 : Only (fun k => k = g ∨ k = ga) w (w1.setCell ⟨ga, 0, none⟩ (.int .i64 ((stNum bs false).1 : Int))) := (o1.mono (fun i _ hi => .inl hi)).setCell (p := ⟨ga, 0, none⟩) (.inl (.inr rfl)) _
  have h1' : Rdr (w1.setCell ⟨ga, 0, none⟩ (.int .i64 ((stNum bs false).1 : Int))) fp g (stNum bs false).2.1 (stNum bs false).2.2 := h1.only ((Only.refl (fun k => k = ga) w1).setCell (p := ⟨ga, 0, none⟩) (.inl rfl) _) (fun k hk e => hfa (e ▸ hk))
  have ha2 : Blk (w1.setCell ⟨ga, 0, none⟩ (.int .i64 ((stNum bs false).1 : Int))) ga 135 #[.int .i64 ((stNum bs false).1 : Int), .int .i64 y] := ha1.put 0 _
  have hl2 := hl1.far (p := ⟨ga, 0, none⟩) hla (.int .i64 ((stNum bs false).1 : Int))
  clear h1 ha1 hl1 a1 af1 o1 l0
  generalize w1.setCell ⟨ga, 0, none⟩ (.int .i64 ((stNum bs false).1 : Int)) = w2 at *
  have l1 := hl2.cell 1
  simp only [List.getElem?_toArray, List.getElem?_cons_zero, List.getElem?_cons_succ] at l1
  rw [rounds_succ]
  go_wp2_with fail
  refine (rnum_st fp g _ _ _ h1' (by omega)).mono ?_
  rintro e w3 ⟨rfl, h3, o3⟩
  have ho3 := ho1.trans o3 (fun i _ hi => .inl hi)
  have ha3 := ha2.only o3 hag
  have a3 := ha3.cell 1
  have af3 := ha3.free 1
  simp only [List.getElem?_toArray, List.getElem?_cons_zero, List.getElem?_cons_succ] at a3
  clear l1 h1' ho1 ha2 hl2 o3
  go_wp2
  rw [rounds_succ]
  go_wp2
  go_end0
  refine ⟨rfl, h3.only ((Only.refl (fun k => k = ga) w3).setCell (p := ⟨ga, 1, none⟩) (.inl rfl) _) (fun k hk e => hfa (e ▸ hk)), ha3.put 1 _, ho3.setCell (p := ⟨ga, 1, none⟩) (.inl (.inr rfl)) _⟩

/-! ### a number many times -/
theorem make_ints (W : World) (t : Nat) (h : t ≤ 1000000) : (Instr.makeSlice 48 (.int .i64 (t : Int)) (.int .i64 (t : Int))).run Tryz.prog W =
    .ok (.slice (some ⟨W.heap.size, 0, none⟩) t t) (W.alloc (.cells (madeCells #[.int .i64 0] (t * 1)) 3)) := by
  obtain ⟨i, hi, hz, hsz, hby⟩ := info_parts info_int
  have hr := run_make (P := Tryz.prog) W 48 3 i _ Tryz.underlying48 hi hz .i64 .i64 ((t : Nat) : Int) t (by omega) (by omega) (by rw [hby]; omega) (by omega)
  simp only [Int.toNat_natCast, hsz] at hr
  exact hr
def repR (n k : Nat) (x : Int) : List Value := List.replicate k (iv x) ++ List.replicate (n - k) (iv 0)
theorem repR_len (n k : Nat) (x : Int) (h : k ≤ n) : (repR n k x).length = n := by simp [repR]; omega
theorem repR_all (n : Nat) (x : Int) : repR n n x = List.replicate n (iv x) := by simp [repR]
theorem repR_spl (n k m : Nat) (x : Int) (h : k + m ≤ n) : spl (repR n k x) k (List.replicate m (iv x)) = repR n (k + m) x := by
  unfold spl repR
  rw [List.length_replicate, List.take_left' (by simp), List.drop_append, List.length_replicate, List.drop_of_length_le (by simp), List.nil_append, List.drop_replicate, ← List.append_assoc, List.replicate_append_replicate]
  congr 2
  omega
theorem repR_at (n k j : Nat) (x : Int) (h : j < k) : (repR n k x)[j]? = some (iv x) := by
  unfold repR
  rw [List.getElem?_append_left (by simpa using h), List.getElem?_replicate, if_pos h]
theorem slice_if {n k G : Nat} (h : ¬ n = k) : Value.slice (if n = k then some ⟨G, 0, none⟩ else some ⟨G, k, none⟩) (n - k) (n - k) = .slice (some ⟨G, k, none⟩) (n - k) (n - k) := by rw [if_neg h]
theorem size_int : (Tryz.prog.info? 3).map (·.size) = some 1 := by kernel_rfl
theorem rep_one (m : Nat) (x : Int) : ∀ v ∈ List.replicate m (iv x), v.oneCell' = true := by
  intro v hv
  rw [List.eq_of_mem_replicate hv]
  rfl
theorem row_made (W : World) (n : Nat) (x : Int) (h : n ≤ 1000000) : RowO (W.alloc (.cells (madeCells #[.int .i64 0] n) 3)) 3 1 (some ⟨W.heap.size, 0, none⟩) n n (repR n 0 x) := by
  have e : (madeCells #[.int .i64 0] n).toList = repR n 0 x := by
    refine List.ext_getElem (by simp [madeCells, repR]) fun j h1 h2 => ?_
    simp [madeCells, repR, iv, Nat.mod_one]
  rw [← e]
  exact RowO.lit W 3 1 n _ (by simp [madeCells]) (by unfold maxLen; omega) rfl

set_option maxHeartbeats 4000000 in
theorem repeat_any (x : Int) (ad : Addr) (c n : Nat) (w : World) (hx : w.cell? ad = some (.int .i64 x)) (hn : n ≤ 1000000) :
    Calls Tryz.prog 96 #[.slice (some ad) 1 c, .int .i64 (n : Int)] w fun e w' => ∃ G c', e = .returned (.slice (some ⟨G, 0, none⟩) n c') ∧ RowO w' 3 1 (some ⟨G, 0, none⟩) n c' (List.replicate n (iv x)) ∧ w.heap.size ≤ G ∧ Below w.heap.size w w' := by
  have hni : (n : Int) ≤ 1000000 := by omega
  have HM := Lib.hid (Any.bits_Mul Tryz.layMul 1 n (by omega) (by omega) w)
  have e1 : 1 * n / 18446744073709551616 = 0 := by omega
  have e2 : 1 * n % 18446744073709551616 = n := by omega
  rw [e1, e2] at HM
  have hmk := fun W => make_ints W n hn
  have hwr : IntKind.u64.wrap (n : Int) = (n : Int) := by rw [IntKind.wrap_u64]; omega
  have hwi : IntKind.i64.wrap (n : Int) = (n : Int) := IntWalk.i64_in _ (by omega)
  have Hx := Lib.hid hx
  clear e1 e2 hx
  go_enter Tryz.func96, Tryz.ntmps96
  go_wp2_with fail
  refine HM.out.mono ?_
  rintro e w' ⟨rfl, hw⟩
  have hw := hw.symm
  subst hw
  have HR1 : Hid (RowO (w.alloc (.cells (madeCells #[.int .i64 0] n) 3)) 3 1 (some ⟨w.heap.size, 0, none⟩) n n (repR n 0 x)) := Lib.hid (row_made w n x hn)
  have HX1 : Hid ((w.alloc (.cells (madeCells #[.int .i64 0] n) 3)).cell? ad = some (.int .i64 x)) := Lib.hid (cell_only Hx.out (Only.of_ext (S := fun _ => False) ((Below.refl _ _).alloc (Nat.le_refl _) _)) (fun h => h))
  have HB1 : Hid (Below w.heap.size w (w.alloc (.cells (madeCells #[.int .i64 0] n) 3))) := Lib.hid ((Below.refl _ _).alloc (Nat.le_refl _) _)
  have Hsr : Hid (∀ j v, (List.replicate (min 1 n) (iv x))[j]? = some v → (w.alloc (.cells (madeCells #[.int .i64 0] n) 3)).cell? (ad.add j) = some v) := Lib.hid (fun j v hv => by
    have hj := (List.getElem?_eq_some_iff.1 hv).1
    rw [List.length_replicate] at hj
    obtain rfl : j = 0 := by omega
    rw [List.getElem?_replicate, if_pos hj] at hv
    injection hv with hv
    rw [← hv]
    have hz : ad.add 0 = ad := by simp [Addr.add]
    rw [hz]
    exact HX1.out)
  go_wp2_with (first
               | (refine wpList_copyO rfl (.tmp 31) (.tmp 32) _ _ rfl 3 1 Tryz.underlying48 size_int w.heap.size 0 n n _ HR1.out 0 0 n n rfl rfl ad 1 c (min 1 n) (List.replicate (min 1 n) (iv x)) rfl rfl (by simp) Hsr.out (by omega) (rep_one _ _) ?_
                  intro w2 hr2 ho2)
               | fail)
  rw [Nat.zero_mul, repR_spl n 0 _ x (by omega)] at hr2
  obtain ⟨W1, hW1⟩ : ∃ W1, W1 = w.alloc (.cells (madeCells #[.int .i64 0] n) 3) := ⟨_, rfl⟩
  obtain ⟨G, hG⟩ : ∃ G, w.heap.size = G := ⟨_, rfl⟩
  rw [← hW1] at ho2 HB1
  rw [hG] at hr2 ho2 ⊢
  have HG := Lib.hid hG
  clear hW1 hG HR1 HX1 Hsr
  have HR2 := Lib.hid hr2
  have HO2 := Lib.hid ho2
  clear hr2 ho2 hmk
  go_loopw [8] (fun i wr => ∃ (k : Nat), k ≤ n ∧ (n = 0 ∨ 1 ≤ k) ∧ i = .int .i64 (k : Int) ∧ RowO wr 3 1 (some ⟨G, 0, none⟩) n n (repR n k x) ∧ Only (fun k => k = G) W1 wr) (fun i _ => n - (intOf i).toNat)
  case atStart => exact ⟨0 + min 1 n, by omega, by omega, by simp [goInt], HR2.out, HO2.out⟩
  case round =>
    obtain ⟨k, hk, hk1, rfl, hr, ho⟩ := hrel
    have HR := Lib.hid hr
    have HO := Lib.hid ho
    by_cases hlt : k < n
    · have hki : (k : Int) < (n : Int) := by omega
      have hk0 : 0 < k := by omega
      have Hsrc : Hid (∀ (W : World), RowO W 3 1 (some ⟨G, 0, none⟩) n n (repR n k x) → ∀ j v, (List.replicate (min k (n - k)) (iv x))[j]? = some v → W.cell? ((⟨G, 0, none⟩ : Addr).add j) = some v) := Lib.hid (fun W hW j v hv => by
        have hj := (List.getElem?_eq_some_iff.1 hv).1
        rw [List.length_replicate] at hj
        rw [List.getElem?_replicate, if_pos hj] at hv
        obtain ⟨ad', e, hc⟩ := hW.rd j _ (repR_at n k j x (by omega))
        injection e with e
        subst e
        rw [hc, hv])
      clear hr ho
      go_wp2
      refine wp_region_held_drew (S := fun _ => True) (by kernel_rfl) ?_ (fun hHeld => ?_)
      · all_goals trivial
      refine wpAnyH_take (i := 0) (v := ?_) (take_list rfl) (by kernel_rfl) (by kernel_rfl) (by kernel_rfl) (fun _ _ _ h => h) (Or.inl ⟨by rfl, ?_⟩) (by assumption) ?_
      rotate_left
      · intro w hSw
        try dsimp only at hSw
        first | (go_simp; done) | (go_simp; with_reducible rfl)
      try simp only [Act.put, List.setIfInBounds_toArray, List.set_cons_zero, List.set_cons_succ]
      refine wpAnyH_take (i := 1) (v := ?_) (take_list rfl) (by kernel_rfl) (by kernel_rfl) (by kernel_rfl) (fun _ _ _ h => h) (Or.inl ⟨by rfl, ?_⟩) (by assumption) ?_
      rotate_left
      · intro w hSw
        try dsimp only at hSw
        first | (go_simp; done) | (go_simp; with_reducible rfl)
      try simp only [Act.put, List.setIfInBounds_toArray, List.set_cons_zero, List.set_cons_succ]
      refine wpAnyH_take (i := 2) (v := ?_) (take_list rfl) (by kernel_rfl) (by kernel_rfl) (by kernel_rfl) (fun _ _ _ h => h) (Or.inl ⟨by rfl, ?_⟩) (by assumption) ?_
      rotate_left
      · intro w hSw
        try dsimp only at hSw
        first | (go_simp; done) | (go_simp; with_reducible rfl)
      try simp only [Act.put, List.setIfInBounds_toArray, List.set_cons_zero, List.set_cons_succ]
      refine wpAnyH_take (i := 3) (v := ?_) (take_list rfl) (by kernel_rfl) (by kernel_rfl) (by kernel_rfl) (fun _ _ _ h => h) (Or.inl ⟨by rfl, ?_⟩) (by assumption) ?_
      rotate_left
      · intro w hSw
        try dsimp only at hSw
        first | (go_simp; done) | (go_simp; with_reducible rfl)
      try simp only [Act.put, List.setIfInBounds_toArray, List.set_cons_zero, List.set_cons_succ]
      refine wpAnyH_take (i := 4) (v := ?_) (take_list rfl) (by kernel_rfl) (by kernel_rfl) (by kernel_rfl) (fun _ _ _ h => h) (Or.inl ⟨by rfl, ?_⟩) (by assumption) ?_
      rotate_left
      · intro w hSw
        try dsimp only at hSw
        first | (go_simp; done) | (go_simp; with_reducible rfl)
      try simp only [Act.put, List.setIfInBounds_toArray, List.set_cons_zero, List.set_cons_succ]
      refine wpAnyH_take (i := 5) (v := ?_) (take_list rfl) (by kernel_rfl) (by kernel_rfl) (by kernel_rfl) (fun _ _ _ h => h) (Or.inl ⟨by rfl, ?_⟩) (by assumption) ?_
      rotate_left
      · intro w hSw
        try dsimp only at hSw
        first | (go_simp; done) | (go_simp; with_reducible rfl)
      try simp only [Act.put, List.setIfInBounds_toArray, List.set_cons_zero, List.set_cons_succ]
      refine wpAnyH_take (i := 6) (v := ?_) (take_list rfl) (by kernel_rfl) (by kernel_rfl) (by kernel_rfl) (fun _ _ _ h => h) (Or.inl ⟨by rfl, ?_⟩) (by assumption) ?_
      rotate_left
      · intro w hSw
        try dsimp only at hSw
        first | (go_simp; done) | (go_simp; with_reducible rfl)
      try simp only [Act.put, List.setIfInBounds_toArray, List.set_cons_zero, List.set_cons_succ]
      refine wpAnyH_ready (rs := [7]) (by kernel_rfl) (by simp) ?_
      refine AllReadyH.cons (take_list rfl) (fun K hK => ?_) ?_
      · skip
        refine step_copyO rfl (.tmp 41) (.tmp 44) _ _ rfl 3 1 Tryz.underlying48 size_int G 0 n n _ HR.out.drew k k (n - k) (n - k) (by omega) (slice_if (by omega)) ⟨G, 0, none⟩ k _ (min k (n - k)) (List.replicate (min k (n - k)) (iv x)) rfl rfl (by simp) ?_ (by omega) (rep_one _ _) ?_
        · exact Hsrc.out _ HR.out.drew
        intro w2 hr2 ho2
        refine hK.out _ _ ?_ (fun hHeld => ?_)
        · try dsimp only
          all_goals trivial
        clear hK K
        refine wpAnyH_take (i := 8) (v := ?_) (take_list rfl) (by kernel_rfl) (by kernel_rfl) (by kernel_rfl) (fun _ _ _ h => h) (Or.inl ⟨by rfl, ?_⟩) (by assumption) ?_
        rotate_left
        · intro w hSw
          try dsimp only at hSw
          first | (go_simp; done) | (go_simp; with_reducible rfl)
        try simp only [Act.put, List.setIfInBounds_toArray, List.set_cons_zero, List.set_cons_succ]
        refine wpAnyH_take (i := 9) (v := ?_) (take_list rfl) (by kernel_rfl) (by kernel_rfl) (by kernel_rfl) (fun _ _ _ h => h) (Or.inl ⟨by rfl, ?_⟩) (by assumption) ?_
        rotate_left
        · intro w hSw
          try dsimp only at hSw
          first | (go_simp; done) | (go_simp; with_reducible rfl)
        try simp only [Act.put, List.setIfInBounds_toArray, List.set_cons_zero, List.set_cons_succ]
        refine wpAnyH_done (by kernel_rfl) ?_ _
        rw [Nat.mul_one, repR_spl n k _ x (by omega)] at hr2
        have hwm : IntKind.i64.wrap ((k : Int) + ((min k (n - k) : Nat) : Int)) = ((k + min k (n - k) : Nat) : Int) := by rw [← Int.natCast_add]; exact IntWalk.i64_in _ (by omega)
        have HR2 := Lib.hid hr2
        have HO2 := Lib.hid (HO.out.drew.trans ho2 (fun i _ h => h))
        clear hr2 ho2
        simp only [goInt]
        rw [hwm]
        go_wp2
        go_roundw
        case rel => exact ⟨k + min k (n - k), by omega, by omega, by go_num, HR2.out, HO2.out⟩
        case measure => simp [intOf]; omega
      exact AllReadyH.nil
    · obtain rfl : k = n := by omega
      rw [repR_all] at hr
      clear HR HO
      go_wp2
      go_ret
      exact ⟨G, k, rfl, hr, by have := HG.out; omega, HB1.out.trans (ho.below (fun i hi => by have := HG.out; omega) HB1.out.size)⟩
end Go.Proofs.YtpjgkacekelkdaaGreatDoor

/-
  Numbers of runs; Decode (program). No statement of the seat is proved here.
-/
namespace Go.Proofs.YtpjgkacekelkdaaGreatDoor
open Go Go.RowKit
set_option maxRecDepth 100000

/-- what the loop still takes, with what it has -/
structure Spg (total : List (Nat × Nat)) (L m : Nat) (rs : List (Nat × Nat)) (rest : List UInt8) (bad : Bool) : Prop where
  all : rs ++ (takeQ m rest bad).1 = total
  le : m ≤ 4611686018427387904
  short : rest.length ≤ L
theorem stTwo_len (bs : List UInt8) : (stTwo bs).2.1.length ≤ bs.length := Nat.le_trans (stNum_len (stNum bs false).2.1 (stNum bs false).2.2) (stNum_len bs false)
theorem Spg.step {total : List (Nat × Nat)} {L m : Nat} {rs : List (Nat × Nat)} {rest : List UInt8} (h : Spg total L (m + 1) rs rest false) : Spg total L m (rs ++ [(stTwo rest).1]) (stTwo rest).2.1 (stTwo rest).2.2 := by
  refine ⟨?_, by have := h.le; omega, Nat.le_trans (stTwo_len rest) h.short⟩
  rw [← h.all, takeQ_succ, List.append_assoc]; rfl
theorem Spg.end_ {total : List (Nat × Nat)} {L m : Nat} {rs : List (Nat × Nat)} {rest : List UInt8} {bad : Bool} (h : Spg total L m rs rest bad) (he : m = 0 ∨ bad = true) : rs = total := by
  have h1 := h.all
  rcases he with rfl | rfl
  · rw [takeQ_zero] at h1
    rw [← h1]; exact (List.append_nil _).symm
  · rw [takeQ_bad] at h1
    rw [← h1]; exact (List.append_nil _).symm
theorem pblk_at (w : World) (t : TypeId) (cs : Array Value) {g : Nat} (hg : g = w.heap.size) : Blk (w.alloc (.cells cs t)) g t cs := by subst hg; exact Blk.new w t cs
theorem stTwo_le (bs : List UInt8) : (stTwo bs).1.1 ≤ 4611686018427387904 ∧ (stTwo bs).1.2 ≤ 4611686018427387904 := ⟨stNum_le _ _, stNum_le _ _⟩

set_option maxHeartbeats 8000000 in
theorem spread_any (fp : Nat → Prop) (g : Nat) (bs : List UInt8) (bad : Bool) (w : World) (h : Rdr w fp g bs bad) (hb : bs.length ≤ 1099511627776) :
    Calls Tryz.prog 72 #[.pointer (some ⟨g, 0, none⟩)] w fun e w' => ∃ A' c', e = .returned (.slice A' (spreadB bs bad).length c') ∧ Fr w w' A' c' (spreadB bs bad) ∧ Only (fun k => k = g) w w' := by
  have HT : Hid (spreadB bs bad = spreadP (takeQ (stNum bs bad).1 (stNum bs bad).2.1 (stNum bs bad).2.2).1) := Lib.hid rfl
  generalize spreadB bs bad = T at *
  have hgl : g < w.heap.size := by
    obtain ⟨_, _, _, _, hb, _⟩ := h
    exact hb.lt
  have Hgl := Lib.hid hgl
  obtain ⟨f2, H, Hf2⟩ : ∃ f2 : Nat → Prop, Hid (Rdr w f2 g bs bad) ∧ Hid (∀ k, f2 k → k < w.heap.size) := ⟨fun k => fp k ∧ k < w.heap.size, Lib.hid (h.mono fun _ a b => ⟨a, b⟩), Lib.hid fun _ h => h.2⟩
  have hle := stNum_le bs bad
  have hsl := stNum_len bs bad
  clear h hgl
  go_enter Tryz.func72, Tryz.ntmps72
  go_wp2_with fail
  refine (rnum_st f2 g bs bad w H.out hb).mono ?_
  rintro e w1 ⟨rfl, hr1, ho1⟩
  generalize stNum bs bad = q at *
  obtain ⟨n, bs1, bad1⟩ := q
  simp only at HT hr1 hle hsl ⊢
  have Hr1 := Lib.hid hr1
  have Ho1 := Lib.hid ho1
  have Hle := Lib.hid hle
  have Hbl : Hid (bs1.length ≤ 1099511627776) := Lib.hid (by omega)
  clear hr1 ho1 hsl hb hle
  go_wp2
  go_loopw [3, 4] (fun s i wr => ∃ (m : Nat) (rs : List (Nat × Nat)) (rest : List UInt8) (bd : Bool) (A1 : Option Addr) (c1 : Nat), i = .int .i64 (m : Int) ∧ s = .slice A1 (spreadP rs).length c1 ∧ Hid (Spg (takeQ n bs1 bad1).1 bs1.length m rs rest bd) ∧ Rdr wr f2 g rest bd ∧ Fr w wr A1 c1 (spreadP rs) ∧ Only (fun k => k = g) w wr) (fun _ i _ => (intOf i).toNat)
  case atStart => exact ⟨n, [], bs1, bad1, none, 0, rfl, rfl, Lib.hid ⟨rfl, Hle.out, Nat.le_refl _⟩, Hr1.out, Fr.start _ _, Ho1.out⟩
  case round =>
    obtain ⟨m, rs, rest, bd, A1, c1, rfl, rfl, Hrd, hr, hS, ho⟩ := hrel
    have Hr := Lib.hid hr
    have HS := Lib.hid hS
    have Ho := Lib.hid ho
    clear hr hS ho
    have HEX : Hid ((m = 0 ∨ bd = true) → spreadP rs = T) := Lib.hid (fun he => by rw [HT.out, Hrd.out.end_ he])
    by_cases hm : m = 0
    · subst hm
      have HC := Lib.hid (HEX.out (.inl rfl))
      clear HEX
      go_wp2
      go_ret
      have e := HC.out
      have hS := HS.out
      rw [e] at hS
      exact ⟨A1, c1, by rw [← e]; rfl, hS, Ho.out⟩
    have hmi : (0 : Int) < (m : Int) := by omega
    have hmd : decide ((0 : Int) < (m : Int)) = true := decide_eq_true hmi
    have hmn : decide (0 < m) = true := decide_eq_true (by omega)
    cases bd with
    | true =>
      have HC := Lib.hid (HEX.out (.inr rfl))
      clear HEX hm
      go_wp2_with fail
      refine (rgood _ g rest true wr Hr.out).mono ?_
      rintro e w' ⟨rfl, rfl⟩
      go_wp2
      go_ret
      have e := HC.out
      have hS := HS.out
      rw [e] at hS
      exact ⟨A1, c1, by rw [← e]; rfl, hS, Ho.out⟩
    | false =>
      clear HEX
      obtain ⟨k, hk⟩ : ∃ k, m = k + 1 := ⟨m - 1, by omega⟩
      have hk1 : IntKind.i64.wrap ((m : Int) - 1) = (k : Int) := by rw [show (m : Int) - 1 = (k : Int) by omega]; exact IntWalk.i64_in _ (by have := Hrd.out.le; omega)
      have HRs := Lib.hid (Spg.step (by rw [← hk]; exact Hrd.out))
      have hrl : rest.length ≤ 1099511627776 := by have := Hrd.out.short; have := Hbl.out; omega
      have hsn := spread_snoc rs (stTwo rest).1
      have hsl := spread_len rs
      obtain ⟨hx1, hx2⟩ := stTwo_le rest
      have HNU := Lib.hid (fun (Y gl : Nat) (W : World) (hW : Rdr W f2 g rest false) (a) (b) (c1) (c2) => rnums_two f2 g Y gl 2 2 0 0 rest W hW hrl rfl a b c1 c2)
      generalize stTwo rest = q at *
      obtain ⟨⟨cc, x⟩, rest', bd'⟩ := q
      simp only at HRs HNU hsn hx1 hx2
      have Hk := Lib.hid hk
      have Hx2 := Lib.hid hx2
      obtain ⟨D, hD⟩ : ∃ D, 32769 - (spreadP rs).length = D := ⟨_, rfl⟩
      rw [hD] at hsn
      have hDw : IntKind.i64.wrap (32769 - ((spreadP rs).length : Int)) = (D : Int) := by rw [show 32769 - ((spreadP rs).length : Int) = (D : Int) by omega]; exact IntWalk.i64_in _ (by omega)
      have hDi : 32769 - ((spreadP rs).length : Int) = (D : Int) := by omega
      have HD := Lib.hid hD
      have Hsl := Lib.hid hsl
      have Hsn := Lib.hid hsn
      clear hk hm hx2 hD hsl hsn
      go_wp2_with fail
      refine (rgood _ g rest false wr Hr.out).mono ?_
      rintro e w' ⟨rfl, rfl⟩
      obtain ⟨Y, hY⟩ : ∃ Y, wr.heap.size = Y := ⟨_, rfl⟩
      go_wp2_with fail
      have HY := Lib.hid hY
      refine (HNU.out Y (Y + 1) _ ((Hr.out.ext (ext_alloc (Below.refl _ _) _)).ext (ext_alloc (Below.refl _ _) _)) (pblk_at _ _ _ (by rw [World.size_alloc]; have := HY.out; omega)) ((pblk_at wr _ _ HY.out.symm).alloc _) (fun h => by have := Hf2.out _ h; have := Ho.out.size; omega) (fun h => by have := Hf2.out _ h; have := Ho.out.size; omega)).mono ?_
      rintro e x1 ⟨rfl, hr5, hB5, ho5⟩
      have HB5 := hB5
      have q0 := hB5.cell 0
      have q1 := hB5.cell 1
      simp only [List.getElem?_toArray, List.getElem?_cons_zero, List.getElem?_cons_succ] at q0 q1
      have Hr5 := Lib.hid hr5
      have Ho5 : Hid (Only (fun k => k = g) w x1) := Lib.hid (((Ho.out.alloc _).alloc _).trans ho5 (fun i hi h => by
        rcases h with h | h
        · exact h
        · have := Ho.out.size; have := HY.out; omega))
      have Hrow : Hid (RowO x1 3 1 A1 (spreadP rs).length c1 ((spreadP rs).map iv)) := Lib.hid (((HS.out.row.alloc _).alloc _).only ho5 (fun k hk e => by
        have h1 := HS.out.new k hk
        have h2 := HS.out.row.lt hk
        have := Hgl.out
        have := HY.out
        omega))
      have q2 : (x1.alloc (.cells #[.int .i64 (x : Int)] 3)).cell? ⟨Y, 0, none⟩ = some (.int .i64 (cc : Int)) := by
        have := (hB5.alloc (.cells #[.int .i64 (x : Int)] 3)).cell 0
        simpa only [List.getElem?_toArray, List.getElem?_cons_zero] using this
      have cell_lit : (x1.alloc (.cells #[.int .i64 (x : Int)] 3)).cell? ⟨x1.heap.size, 0, none⟩ = some (.int .i64 (x : Int)) := by
        simp
      have hcase : cc ≤ D ∨ D < cc := by omega
      clear hr5 ho5 hB5 HB5 hY
      rcases hcase with hq | hq
      · have hni : (cc : Int) ≤ (D : Int) := by omega
        have hmin : min cc D = cc := by omega
        have HN : Hid (spreadP (rs ++ [(cc, x)]) = spreadP rs ++ List.replicate cc (x : Int)) := Lib.hid (by rw [Hsn.out, hmin])
        have hNl : cc ≤ 1000000 := by have := HD.out; have := Hsl.out; omega
        have hap : (spreadP rs).length + cc ≤ 32769 := by have := HD.out; have := Hsl.out; omega
        have hk2 : (spreadP rs).length + cc ≤ maxLen := by unfold maxLen; omega
        have hk3 : ((spreadP rs).length + cc) * 8 ≤ 140737488355328 := by omega
        have Hap := Lib.hid hap
        have HRE := Lib.hid (repeat_any (x : Int) ⟨x1.heap.size, 0, none⟩ 1 cc (x1.alloc (.cells #[.int .i64 (x : Int)] 3)) (by rw [cell_lit]) hNl)
        clear hmin hap
        go_wp2_with fail
        refine HRE.out.mono ?_
        rintro e x3 ⟨G, c3, rfl, hr3, hG3, hb3⟩
        have Hr3 := Lib.hid hr3
        have HL3 : Hid (Below x1.heap.size x1 x3) := Lib.hid (((Below.refl _ _).alloc (Nat.le_refl _) _).trans (hb3.mono (by rw [World.size_alloc]; omega)))
        have hrow : RowO x3 3 1 A1 (spreadP rs).length c1 ((spreadP rs).map iv) := Hrow.out.ext HL3.out
        have Hrow3 := Lib.hid hrow
        clear hr3 hG3 hb3 hrow
        go_wp2_with (at_builtin
                     refine wpList_appO _ rfl (.tmp 21) (.tmp 31) _ rfl 3 _ 1 8 Tryz.underlying48 info_int rfl A1 _ c1 _ rfl Hrow3.out (some ⟨G, 0, none⟩) cc c3 (List.replicate cc (iv (x : Int))) rfl (by simp) Hr3.out.rd (rep_one _ _) (by intro h; cases h) hk2 hk3 ?_
                     intro A3 c4 w3 hrow3 honly3 hA3
                     have hx1 : w.heap.size ≤ x3.heap.size := by have := Ho5.out.size; have := HL3.out.size; omega
                     have hF3 : Fr w w3 A3 c4 (spreadP (rs ++ [(cc, x)])) := by
                       rw [HN.out]
                       exact HS.out.grow (S := fun _ => True) hx1 (by rw [List.length_replicate, List.map_replicate]; exact hrow3) hA3
                     have hO3 := HS.out.only (Ho5.out.trans (Only.of_ext (S := fun _ => False) HL3.out) (fun _ _ h => h.elim)) honly3
                     have hR3 : Rdr w3 f2 g rest' bd' := (Hr5.out.ext HL3.out).only honly3 (fun k hk hi => by have := HS.out.new k hi; have := Hf2.out k hk; omega)
                     have HF3 := Lib.hid hF3
                     have HO3 := Lib.hid hO3
                     have HR3 := Lib.hid hR3
                     clear hrow3 honly3 hA3 hx1 hF3 hO3 hR3)
        go_roundw
        case rel => exact ⟨k, rs ++ [(cc, x)], rest', bd', A3, c4, rfl, by rw [HN.out, List.length_append, List.length_replicate], HRs, HR3.out, HF3.out, HO3.out⟩
        case measure => simp [intOf]; have := Hk.out; omega
      · have hni : (D : Int) < (cc : Int) := by omega
        have hmin : min cc D = D := by omega
        have HN : Hid (spreadP (rs ++ [(cc, x)]) = spreadP rs ++ List.replicate D (x : Int)) := Lib.hid (by rw [Hsn.out, hmin])
        have hNl : D ≤ 1000000 := by have := HD.out; have := Hsl.out; omega
        have hap : (spreadP rs).length + D ≤ 32769 := by have := HD.out; have := Hsl.out; omega
        have hk2 : (spreadP rs).length + D ≤ maxLen := by unfold maxLen; omega
        have hk3 : ((spreadP rs).length + D) * 8 ≤ 140737488355328 := by omega
        have Hap := Lib.hid hap
        have HRE := Lib.hid (repeat_any (x : Int) ⟨x1.heap.size, 0, none⟩ 1 D (x1.alloc (.cells #[.int .i64 (x : Int)] 3)) (by rw [cell_lit]) hNl)
        clear hmin hap
        go_wp2_with fail
        refine HRE.out.mono ?_
        rintro e x3 ⟨G, c3, rfl, hr3, hG3, hb3⟩
        have Hr3 := Lib.hid hr3
        have HL3 : Hid (Below x1.heap.size x1 x3) := Lib.hid (((Below.refl _ _).alloc (Nat.le_refl _) _).trans (hb3.mono (by rw [World.size_alloc]; omega)))
        have hrow : RowO x3 3 1 A1 (spreadP rs).length c1 ((spreadP rs).map iv) := Hrow.out.ext HL3.out
        have Hrow3 := Lib.hid hrow
        clear hr3 hG3 hb3 hrow
        go_wp2_with (at_builtin
                     refine wpList_appO _ rfl (.tmp 21) (.tmp 31) _ rfl 3 _ 1 8 Tryz.underlying48 info_int rfl A1 _ c1 _ rfl Hrow3.out (some ⟨G, 0, none⟩) D c3 (List.replicate D (iv (x : Int))) rfl (by simp) Hr3.out.rd (rep_one _ _) (by intro h; cases h) hk2 hk3 ?_
                     intro A3 c4 w3 hrow3 honly3 hA3
                     have hx1 : w.heap.size ≤ x3.heap.size := by have := Ho5.out.size; have := HL3.out.size; omega
                     have hF3 : Fr w w3 A3 c4 (spreadP (rs ++ [(cc, x)])) := by
                       rw [HN.out]
                       exact HS.out.grow (S := fun _ => True) hx1 (by rw [List.length_replicate, List.map_replicate]; exact hrow3) hA3
                     have hO3 := HS.out.only (Ho5.out.trans (Only.of_ext (S := fun _ => False) HL3.out) (fun _ _ h => h.elim)) honly3
                     have hR3 : Rdr w3 f2 g rest' bd' := (Hr5.out.ext HL3.out).only honly3 (fun k hk hi => by have := HS.out.new k hi; have := Hf2.out k hk; omega)
                     have HF3 := Lib.hid hF3
                     have HO3 := Lib.hid hO3
                     have HR3 := Lib.hid hR3
                     clear hrow3 honly3 hA3 hx1 hF3 hO3 hR3)
        go_roundw
        case rel => exact ⟨k, rs ++ [(cc, x)], rest', bd', A3, c4, rfl, by rw [HN.out, List.length_append, List.length_replicate], HRs, HR3.out, HF3.out, HO3.out⟩
        case measure => simp [intOf]; have := Hk.out; omega
end Go.Proofs.YtpjgkacekelkdaaGreatDoor

/-
  Decode (program). No statement of the seat is proved here.
-/
namespace Go.Proofs.YtpjgkacekelkdaaGreatDoor
open Go Go.RowKit
set_option maxRecDepth 100000

/-- Decode's answer -/
noncomputable def decR (p : List UInt8) : List Int × Int := match decP p with | some l => (l, 0) | none => ([], 2)
theorem decR_chk {p : List UInt8} {w : Nat} (hw : (stNum p false).1 = w) (h2 : w ≤ 2) : decR p = chkP (encP w) p (rdP w (stNum p false).2.1 (stNum p false).2.2) := by
  subst hw
  unfold decR chkP
  rw [dec_rd h2]
  split
  · rename_i l h
    split at h
    · rename_i hx
      injection h with h
      rw [if_pos hx, h]
    · cases h
  · rename_i h
    split at h
    · cases h
    · rename_i hx
      rw [if_neg hx]
theorem decR_way {p : List UInt8} (h : 2 < (stNum p false).1) : decR p = ([], 2) := by unfold decR; rw [dec_way h]
theorem takenP_ok (b : List UInt8) (bad : Bool) : (∀ v ∈ takenP b bad, 0 ≤ v ∧ v ≤ 4611686018427387904) ∧ (takenP b bad).length ≤ 32769 := by
  have hall : ∀ (k : Nat) (bs : List UInt8) (bd : Bool), (∀ v ∈ (takeN k bs bd).1, v ≤ 4611686018427387904) ∧ (takeN k bs bd).1.length ≤ k := by
    intro k
    induction k with
    | zero => intro bs bd; simp [takeN]
    | succ k ih =>
      intro bs bd
      cases bd with
      | true => rw [takeN_bad]; simp
      | false =>
        rw [takeN_succ]
        obtain ⟨h1, h2⟩ := ih (stNum bs false).2.1 (stNum bs false).2.2
        refine ⟨fun v hv => ?_, by simp; exact h2⟩
        rcases List.mem_cons.1 hv with rfl | hv
        · exact stNum_le _ _
        · exact h1 v hv
  obtain ⟨h1, h2⟩ := hall (min (stNum b bad).1 32769) (stNum b bad).2.1 (stNum b bad).2.2
  refine ⟨fun v hv => ?_, ?_⟩
  · obtain ⟨x, hx, rfl⟩ := List.mem_map.1 hv
    have := h1 x hx
    omega
  · unfold takenP
    rw [List.length_map]
    omega

set_option maxHeartbeats 4000000 in
theorem decode_any (p : List UInt8) (A : Option Addr) (ca : Nat) (w : World) (hA : Rd w A (p.map bv)) (hc : p.length ≤ ca) (hp : p.length ≤ 1099511627776) :
    Calls Tryz.prog 35 #[.slice A p.length ca] w fun e w' => ∃ B' c', e = .returned (.tuple #[.slice B' (decR p).1.length c', .int .i64 (decR p).2]) ∧ Rd w' B' ((decR p).1.map iv) ∧ Below w.heap.size w w' := by
  have HA := Lib.hid hA
  have HC : Hid (∀ n, (stNum p false).1 = n → n ≤ 2 → decR p = chkP (encP n) p (rdP n (stNum p false).2.1 (stNum p false).2.2)) := Lib.hid (fun n h h2 => decR_chk h h2)
  have HW : Hid (2 < (stNum p false).1 → decR p = ([], 2)) := Lib.hid decR_way
  have hsl := stNum_len p false
  generalize decR p = R at *
  clear hA
  go_enter Tryz.func35, Tryz.ntmps35
  go_wp2_with fail
  refine (newreader A p.length ca p w rfl hc HA.out hp).mono ?_
  rintro e w2 ⟨g, rfl, hr2, hb2⟩
  have Hr2 := Lib.hid hr2
  have Hb2 := Lib.hid hb2
  clear hr2 hb2
  go_wp2_with fail
  refine (rnum_st _ g p false w2 Hr2.out hp).mono ?_
  rintro e w3 ⟨rfl, hr3, ho3⟩
  have Hgl : Hid (w.heap.size ≤ g ∧ g < w2.heap.size) := Lib.hid Hr2.out.1
  have Hb3 : Hid (Below w.heap.size w w3) := Lib.hid (Hb2.out.trans (ho3.below (fun i hi => by have := Hgl.out; omega) Hb2.out.size))
  generalize stNum p false = q at *
  obtain ⟨n, bs, bd⟩ := q
  simp only at HC HW hr3 hsl ⊢
  have Hr3 := Lib.hid hr3
  have hbl : bs.length ≤ 1099511627776 := by omega
  have HTk := Lib.hid (taken_any _ g bs bd w3 hr3 hbl)
  have HSp := Lib.hid (spread_any _ g bs bd w3 hr3 hbl)
  have HTo := Lib.hid (takenP_ok bs bd)
  clear hr3 ho3 hsl
  rcases Nat.lt_or_ge 2 n with h2 | h2
  · have d0 : ((n : Int) == 0) = false := by simp; omega
    have d1 : ((n : Int) == 1) = false := by simp; omega
    have d2 : ((n : Int) == 2) = false := by simp; omega
    have e0 : ¬ ((n : Int) = 0) := by omega
    have e1 : ¬ ((n : Int) = 1) := by omega
    have e2 : ¬ ((n : Int) = 2) := by omega
    have HR := Lib.hid (HW.out h2)
    clear HC HW HTk HSp HTo h2
    go_wp2
    go_ret2
    rw [HR.out]
    exact ⟨none, 0, rfl, Rd.nil _ _, Hb3.out⟩
  · obtain rfl | rfl | rfl : n = 0 ∨ n = 1 ∨ n = 2 := by omega
    · have HR : Hid (R = chkP plainP p (takenP bs bd)) := Lib.hid (HC.out 0 rfl (by omega))
      generalize takenP bs bd = T at *
      clear HC HW HSp HTo h2
      go_wp2_with fail
      refine HTk.out.mono ?_
      rintro e w4 ⟨A4, c4, rfl, hF4, ho4⟩
      have Hb4 : Hid (Below w.heap.size w w4) := Lib.hid (Hb3.out.trans (ho4.below (fun i hi => by have := Hgl.out; omega) Hb3.out.size))
      have HU := Lib.hid (unless_plain p A ca A4 c4 T w4 (HA.out.ext Hb4.out) hF4.rd)
      rw [← HR.out] at HU
      clear hF4 ho4 HTk
      go_wp2_with fail
      refine HU.out.mono ?_
      rintro e w5 ⟨B5, c5, rfl, hn5, hb5⟩
      have Hn5 := Lib.hid hn5
      have Hb5 := Lib.hid (ext_trans Hb4.out hb5)
      clear hn5 hb5
      go_wp2
      go_ret2
      exact ⟨B5, c5, rfl, Hn5.out, Hb5.out⟩
    · have HR : Hid (R = chkP deltaP p (addedP (takenP bs bd))) := Lib.hid (HC.out 1 rfl (by omega))
      have hal : (addedP (takenP bs bd)).length = (takenP bs bd).length := addedTo_len _ _
      generalize takenP bs bd = T at *
      clear HC HW HSp h2
      go_wp2_with fail
      refine HTk.out.mono ?_
      rintro e w4 ⟨A4, c4, rfl, hF4, ho4⟩
      have Hb4 : Hid (Below w.heap.size w w4) := Lib.hid (Hb3.out.trans (ho4.below (fun i hi => by have := Hgl.out; omega) Hb3.out.size))
      have HAd := Lib.hid (added_any w3 A4 c4 T w4 hF4 HTo.out.1 (by have := HTo.out.2; omega))
      have HN4 := Lib.hid hF4.new
      clear hF4 ho4 HTk
      go_wp2_with fail
      refine HAd.out.mono ?_
      rintro e w5 ⟨rfl, hF5, ho5⟩
      have Hb5 : Hid (Below w.heap.size w w5) := Lib.hid (Hb4.out.trans (ho5.below (fun i hi => by have := HN4.out i hi; have := Hb3.out.size; omega) Hb4.out.size))
      have HU := Lib.hid (unless_delta p A ca A4 c4 (addedP T) w5 (HA.out.ext Hb5.out) hF5.rd)
      rw [← HR.out, hal] at HU
      clear hF5 ho5 HAd hal
      go_wp2_with fail
      refine HU.out.mono ?_
      rintro e w6 ⟨B5, c5, rfl, hn5, hb5⟩
      have Hn5 := Lib.hid hn5
      have Hb6 := Lib.hid (ext_trans Hb5.out hb5)
      clear hn5 hb5
      go_wp2
      go_ret2
      exact ⟨B5, c5, rfl, Hn5.out, Hb6.out⟩
    · have HR : Hid (R = chkP runsB p (spreadB bs bd)) := Lib.hid (HC.out 2 rfl (by omega))
      generalize spreadB bs bd = T at *
      clear HC HW HTk HTo h2
      go_wp2_with fail
      refine HSp.out.mono ?_
      rintro e w4 ⟨A4, c4, rfl, hF4, ho4⟩
      have Hb4 : Hid (Below w.heap.size w w4) := Lib.hid (Hb3.out.trans (ho4.below (fun i hi => by have := Hgl.out; omega) Hb3.out.size))
      have HU := Lib.hid (unless_runs p A ca A4 c4 T w4 (HA.out.ext Hb4.out) hF4.rd)
      rw [← HR.out] at HU
      clear hF4 ho4 HSp
      go_wp2_with fail
      refine HU.out.mono ?_
      rintro e w5 ⟨B5, c5, rfl, hn5, hb5⟩
      have Hn5 := Lib.hid hn5
      have Hb5 := Lib.hid (ext_trans Hb4.out hb5)
      clear hn5 hb5
      go_wp2
      go_ret2
      exact ⟨B5, c5, rfl, Hn5.out, Hb5.out⟩
end Go.Proofs.YtpjgkacekelkdaaGreatDoor

/-
  Lengths: as many alike numbers as one likes, numbers that rise by little; reading back in every way. No statement of the seat is proved here.
-/
namespace Go.Proofs.YtpjgkacekelkdaaGreatDoor
open Go Go.RowKit
set_option maxRecDepth 100000

theorem getD_rep (v : Int) {n k : Nat} (h : k < n) : (List.replicate n v).getD k 0 = v := by
  rw [List.getD_eq_getElem?_getD, List.getElem?_replicate, if_pos h]
  rfl
theorem runsTo_rep (v : Int) (n : Nat) : ∀ k, k + 1 ≤ n → runsTo (List.replicate n v) (k + 1) = [(k + 1, v)]
  | 0, h => by
    rw [runsTo_new _ _ (.inl rfl), getD_rep v (by omega)]
    rfl
  | k + 1, h => by
    have e := runsTo_rep v n k (by omega)
    rw [runsTo, if_neg (by rw [Nat.add_sub_cancel, getD_rep v (by omega), getD_rep v (by omega)]; simp), e]
    rfl
theorem dig_three (x : Nat) (h : x ≤ 32768) : (dig (clamp (x : Int))).length ≤ 3 :=
  dig_len 3 _ (by rw [clamp_of_nat (by omega)]; have : (128 : Nat) ^ 3 = 2097152 := rfl; omega) (by omega)
theorem dig_six {v : Int} (h0 : 0 ≤ v) (h1 : v ≤ 2199023255552) : (dig (clamp v)).length ≤ 6 :=
  dig_len 6 _ (by have := clamp_le' h0 (by omega); have : (128 : Nat) ^ 6 = 4398046511104 := rfl; omega) (by omega)
theorem dig_small1 {v : Int} (h0 : 0 ≤ v) (h1 : v ≤ 127) : (dig (clamp v)).length ≤ 1 :=
  dig_len 1 _ (by have := clamp_le' h0 (by omega); have : (128 : Nat) ^ 1 = 128 := rfl; omega) (by omega)
theorem runs_rep_len (v : Int) (n : Nat) (hn : n ≤ 32768) (h0 : 0 ≤ v) (h1 : v ≤ 1099511627776) : (runsB (List.replicate n v)).length ≤ 12 := by
  have c2 : (dig (clamp 2)).length ≤ 1 := dig_small1 (by omega) (by omega)
  have c0 : (dig (clamp 0)).length ≤ 1 := dig_small1 (by omega) (by omega)
  have c1 : (dig (clamp 1)).length ≤ 1 := dig_small1 (by omega) (by omega)
  have cv : (dig (clamp v)).length ≤ 6 := dig_six h0 (by omega)
  unfold runsB runsP
  rw [List.length_replicate]
  rcases n with _ | n
  · have e : runsTo (List.replicate 0 v) 0 = [] := rfl
    rw [e]
    have e2 : numsB [2, (([] : List (Nat × Int)).length : Int)] ++ pairsB [] = dig (clamp 2) ++ dig (clamp 0) := by simp [pairsB, numsB_cons, numsB_nil]
    rw [e2, List.length_append]
    omega
  · rw [runsTo_rep v (n + 1) n (Nat.le_refl _)]
    have e2 : numsB [2, (([(n + 1, v)] : List (Nat × Int)).length : Int)] ++ pairsB [(n + 1, v)] = dig (clamp 2) ++ (dig (clamp 1) ++ (dig (clamp ((n + 1 : Nat) : Int)) ++ dig (clamp v))) := by
      simp [pairsB, numsB_cons, numsB_nil]
    have c3 := dig_three (n + 1) hn
    rw [e2, List.length_append, List.length_append, List.length_append]
    omega
theorem best_rep_len (v : Int) (n : Nat) (hn : n ≤ 32768) (h0 : 0 ≤ v) (h1 : v ≤ 1099511627776) : (bestP (List.replicate n v)).length ≤ 12 :=
  Nat.le_trans (best_le _ 2 (Nat.le_refl _)) (runs_rep_len v n hn h0 h1)
theorem may_rep (v : Int) (n : Nat) (hn : n ≤ 32768) (h0 : 0 ≤ v) (h1 : v ≤ 1099511627776) : mayP (List.replicate n v) = true :=
  (mayP_iff _).2 ⟨by rw [List.length_replicate]; exact hn, fun x hx => by rw [List.eq_of_mem_replicate hx]; exact ⟨h0, h1⟩⟩

/-! ### rising -/
def low5 (x : Int) : Int := bits .and .i64 x 31
theorem low5_ok (x : Int) : 0 ≤ low5 x ∧ low5 x ≤ 31 := by
  have hx : (BitVec.ofInt 64 x &&& BitVec.ofInt 64 31).toNat ≤ 31 := by
    rw [BitVec.toNat_and]
    exact Nat.le_trans Nat.and_le_right (by decide)
  have h : low5 x = ((BitVec.ofInt 64 x &&& BitVec.ofInt 64 31).toNat : Int) := by
    show IntKind.i64.wrap ((BitVec.ofInt 64 x &&& BitVec.ofInt 64 31).toNat : Int) = _
    rw [IntKind.wrap_i64]; omega
  omega
/-- the number that stands at a place -/
def riseK (f : Int) (xs : List Int) : Nat → Int
  | 0 => f
  | k + 1 => riseK f xs k + low5 (xs.getD k 0)
def riseTo (f : Int) (xs : List Int) (k : Nat) : List Int := (List.range (k + 1)).map (riseK f xs)
theorem riseTo_len (f : Int) (xs : List Int) (k : Nat) : (riseTo f xs k).length = k + 1 := by simp [riseTo]
theorem riseTo_zero (f : Int) (xs : List Int) : riseTo f xs 0 = [f] := rfl
theorem riseTo_succ (f : Int) (xs : List Int) (k : Nat) : riseTo f xs (k + 1) = riseTo f xs k ++ [riseK f xs k + low5 (xs.getD k 0)] := by
  unfold riseTo
  rw [List.range_succ, List.map_append]
  rfl
theorem riseTo_get (f : Int) (xs : List Int) (k j : Nat) (h : j < k + 1) : (riseTo f xs k)[j]? = some (riseK f xs j) := by simp [riseTo, h]
theorem riseK_ok {f : Int} (xs : List Int) (h0 : 0 ≤ f) : ∀ k : Nat, 0 ≤ riseK f xs k ∧ riseK f xs k ≤ f + 31 * (k : Int)
  | 0 => ⟨h0, by simp [riseK]⟩
  | k + 1 => by
    have := riseK_ok xs h0 k
    have h := low5_ok (xs.getD k 0)
    rw [riseK]
    omega
theorem may_rise {f : Int} (xs : List Int) {k : Nat} (h0 : 0 ≤ f) (h1 : f ≤ 549755813888) (hk : k ≤ 300) : mayP (riseTo f xs k) = true := by
  refine (mayP_iff _).2 ⟨by rw [riseTo_len]; omega, fun x hx => ?_⟩
  unfold riseTo at hx
  obtain ⟨j, hj, rfl⟩ := List.mem_map.1 hx
  have := riseK_ok xs h0 j
  have := List.mem_range.1 hj
  omega
theorem rise_deltas {f : Int} (xs : List Int) {n : Nat} (h0 : 0 ≤ f) (h1 : f ≤ 549755813888) : ∀ k, k ≤ n + 1 → (numsB (deltasTo (riseTo f xs n) k)).length ≤ 5 + k
  | 0, _ => by simp [deltasTo, numsB_nil]
  | k + 1, hk => by
    have ih := rise_deltas (n := n) xs h0 h1 k (by omega)
    rw [deltasTo_succ, numsB_append, List.length_append, numsB_one]
    have hg : (riseTo f xs n).getD k 0 = riseK f xs k := by rw [List.getD_eq_getElem?_getD, riseTo_get _ _ _ _ hk]; rfl
    rcases k with _ | k
    · have e : foldP ((riseTo f xs n).getD 0 0 - prevP (riseTo f xs n) 0) = 2 * f := by
        rw [hg]
        unfold prevP foldP
        rw [if_pos rfl, if_neg (by simp [riseK]; omega)]
        simp [riseK]
      rw [e]
      have := dig_six (v := 2 * f) (by omega) (by omega)
      have h00 : (numsB (deltasTo (riseTo f xs n) 0)).length = 0 := by simp [deltasTo, numsB_nil]
      omega
    · have hp : prevP (riseTo f xs n) (k + 1) = riseK f xs k := by
        unfold prevP
        rw [if_neg (by omega), Nat.add_sub_cancel, List.getD_eq_getElem?_getD, riseTo_get _ _ _ _ (by omega)]
        rfl
      have hl := low5_ok (xs.getD k 0)
      have e : foldP ((riseTo f xs n).getD (k + 1) 0 - prevP (riseTo f xs n) (k + 1)) = 2 * low5 (xs.getD k 0) := by
        rw [hg, hp, riseK]
        unfold foldP
        rw [if_neg (by omega)]
        omega
      rw [e]
      have := dig_small1 (v := 2 * low5 (xs.getD k 0)) (by omega) (by omega)
      omega
theorem best_rise_len {f : Int} (xs : List Int) {n : Nat} (h0 : 0 ≤ f) (h1 : f ≤ 549755813888) (hn : n ≤ 300) : (bestP (riseTo f xs n)).length ≤ 10 + (riseTo f xs n).length := by
  refine Nat.le_trans (best_le _ 1 (by omega)) ?_
  show (deltaP _).length ≤ _
  unfold deltaP deltasP
  rw [riseTo_len]
  have := rise_deltas (n := n) xs h0 h1 (n + 1) (Nat.le_refl _)
  have c1 : (dig (clamp 1)).length ≤ 1 := dig_small1 (by omega) (by omega)
  have c2 := dig_three (n + 1) (by omega)
  have e : numsB [1, ((n + 1 : Nat) : Int)] = dig (clamp 1) ++ dig (clamp ((n + 1 : Nat) : Int)) := by simp [numsB_cons, numsB_nil]
  rw [e, List.length_append, List.length_append]
  omega

/-! ### read back -/
theorem decR_some {p : List UInt8} {l : List Int} (h : decP p = some l) : decR p = (l, 0) := by unfold decR; rw [h]
theorem encP_len {w : Nat} {l : List Int} (hw : w ≤ 2) (h : mayP l = true) (hl : l.length ≤ 100000) : (encP w l).length ≤ 2000000 := by
  have h3 := numsB_len9 l
  match w, hw with
  | 0, _ =>
    show (plainP l).length ≤ _
    unfold plainP
    have h1 := numsB_len9 [0, (l.length : Int)]
    rw [List.length_append]
    simp only [List.length_cons, List.length_nil] at h1
    omega
  | 1, _ =>
    show (deltaP l).length ≤ _
    unfold deltaP
    have h1 := numsB_len9 [1, (l.length : Int)]
    have h2 := numsB_len9 (deltasP l)
    have h4 : (deltasP l).length = l.length := deltasTo_len _ _
    rw [List.length_append]
    simp only [List.length_cons, List.length_nil] at h1
    omega
  | 2, _ =>
    show (runsB l).length ≤ _
    unfold runsB
    have h1 := numsB_len9 [2, ((runsP l).length : Int)]
    have h2 : (runsP l).length ≤ l.length := runsTo_len _ _
    have h5 : ∀ rs : List (Nat × Int), (pairsB rs).length ≤ 18 * rs.length := by
      intro rs
      induction rs with
      | nil => simp [pairsB]
      | cons r rs ih =>
        have h6 := numsB_len9 [(r.1 : Int), r.2]
        have e : pairsB (r :: rs) = numsB [(r.1 : Int), r.2] ++ pairsB rs := by simp [pairsB]
        rw [e, List.length_append, List.length_cons]
        simp only [List.length_cons, List.length_nil] at h6
        omega
    have h7 := h5 (runsP l)
    rw [List.length_append]
    simp only [List.length_cons, List.length_nil] at h1
    omega
theorem best_len {l : List Int} (h : mayP l = true) (hl : l.length ≤ 100000) : (bestP l).length ≤ 2000000 := Nat.le_trans (best_le l 0 (by omega)) (encP_len (by omega) h hl)
theorem ansP_of {l : List Int} (h : mayP l = true) (b : List UInt8) : ansP l b = (b, 0) := by unfold ansP; rw [if_pos h]
theorem ansP_no {l : List Int} (h : mayP l = false) (b : List UInt8) : ansP l b = ([], 1) := by unfold ansP; rw [h]; rfl
/-- a row that is one of the four ways -/
def WayP (l : List Int) (b : List UInt8) : Prop := decR b = (l, 0) ∧ (bestP l).length ≤ b.length ∧ b.length ≤ 2000000
theorem wayP_enc {w : Nat} {l : List Int} (hw : w ≤ 2) (h : mayP l = true) (hl : l.length ≤ 100000) : WayP l (encP w l) := ⟨decR_some (dec_enc hw h), best_le l w hw, encP_len hw h hl⟩
theorem wayP_best {l : List Int} (h : mayP l = true) (hl : l.length ≤ 100000) : WayP l (bestP l) := ⟨decR_some (dec_best h), Nat.le_refl _, best_len h hl⟩
end Go.Proofs.YtpjgkacekelkdaaGreatDoor

/-
  What a way answers, what is read back: as the later layers use it. No statement of the seat is proved here.
-/
namespace Go.Proofs.YtpjgkacekelkdaaGreatDoor
open Go Go.RowKit
set_option maxRecDepth 100000

/-- what a way answers -/
def WayC (f : FuncId) (A : Option Addr) (n c : Nat) (b : List UInt8) (W : World) : Prop :=
  Calls Tryz.prog f #[.slice A n c] W fun e w' => ∃ A' c', e = .returned (.tuple #[.slice A' b.length c', .int .i64 0]) ∧ Rd w' A' (b.map bv) ∧ b.length ≤ c' ∧ Below W.heap.size W w'
theorem way_of {f : FuncId} {A : Option Addr} {n c : Nat} {l : List Int} {W : World} {b : List UInt8} (hm : mayP l = true)
    (h : Calls Tryz.prog f #[.slice A n c] W fun e w' => ∃ A' c', e = .returned (.tuple #[.slice A' (ansP l b).1.length c', .int .i64 (ansP l b).2]) ∧ New W w' A' c' (ansP l b).1 ∧ Below W.heap.size W w') : WayC f A n c b W := by
  rw [ansP_of hm] at h
  exact h.mono fun e w' ⟨A', c', he, hn, hb⟩ => ⟨A', c', he, hn.rd, by have := Own.cap hn; simpa using this, hb⟩
/-- what is read back -/
theorem read_back {l : List Int} {b : List UInt8} (h : decR b = (l, 0)) (hb : b.length ≤ 2000000) (A : Option Addr) (c : Nat) (W : World) (hA : Rd W A (b.map bv)) (hc : b.length ≤ c) :
    Calls Tryz.prog 35 #[.slice A b.length c] W fun e w' => ∃ B' c', e = .returned (.tuple #[.slice B' l.length c', .int .i64 0]) ∧ Rd w' B' (l.map iv) ∧ Below W.heap.size W w' := by
  have H := decode_any b A c W hA hc (by omega)
  rw [h] at H
  exact H
end Go.Proofs.YtpjgkacekelkdaaGreatDoor
