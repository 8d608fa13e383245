/-
  Texts of this claim, joined (part 2): contracts and lemmas that the last text goes by. No statement of the seat is proved here.
-/
import Derived.Test.YtlddmjhpemihgaaDoorAll1
import Derived.Test.YtlddmjhpemihgaaDoorAll0
import Derived.Test.YtlddmjhpemihgaaDoorRows
import Derived.ProofKit
import Derived.OpenShut
import Derived.Deep.DeepHandedRow
import Derived.Deep.Matrix
import Derived.LaidLaws
import Derived.Laws.IdiomArrays
import Derived.Deep.Slices
set_option linter.unusedVariables false
set_option linter.unusedSimpArgs false
/-
  Contract of List. No statement of the seat is proved here.
-/
namespace Go.Proofs.YtlddmjhpemihgaaDoor
open Go Go.RowKit
set_option maxRecDepth 100000
set_option maxHeartbeats 4000000 in
theorem list_any (ws : List Nat) (hs : SetOk ws) (w : World) (ht : Tab w) :
    Calls Tryd.prog 60 #[setV ws] w fun e w' => ∃ A' c', e = .returned (.slice A' (listB ws).length c') ∧ NewO w w' 5 1 A' (listB ws).length c' ((listB ws).map nb) := by
  have hB1 := Blk.new w 24 (cellsU ws)
  unfold setV
  go_enter Tryd.func60, Tryd.ntmps60
  go_wp2_with (refine wpList_load_set rfl _ rfl w.heap.size rfl hs hB1 ?_)
  go_loopw [3, 4, 5, 6, 8] (fun s _ _ _ i wr => ∃ (k : Nat) (L : List Nat) (A : Option Addr) (c : Nat), k ≤ 4 ∧ i = .int .i64 (k : Int) ∧ L = upB ws (64 * k) ∧ s = .slice A L.length c ∧ NewO w wr 5 1 A L.length c (L.map nb)) (fun _ _ _ _ i _ => 4 - (intOf i).toNat)
  case atStart => exact ⟨0, [], none, 0, by omega, rfl, by simp [upB], rfl, (NewO.start w _ _).ext ((Below.refl _ _).alloc (Nat.le_refl _) _)⟩
  case round =>
    obtain ⟨k, L, A, c, hk, rfl, hL, rfl, hN⟩ := hrel
    by_cases hlt : k < 4
    · have hki : (k : Int) < 4 := by omega
      have hsn : upB ws (64 * (k + 1)) = L ++ wordL k (wordB ws k) := by rw [hL, upB_word]; rfl
      have hlen : (L ++ wordL k (wordB ws k)).length ≤ 256 := by
        rw [← hsn]
        have := upB_len ws (64 * (k + 1))
        omega
      have Hsn := Lib.hid hsn
      have Hlen := Lib.hid hlen
      have HL := Lib.hid hL
      have hx := hs.wlt k
      clear hsn hlen hL hB1
      obtain ⟨x, hxe⟩ : ∃ x, wordB ws k = x := ⟨_, rfl⟩
      rw [hxe] at Hsn Hlen hx
      have Hxe := Lib.hid hxe
      obtain ⟨wo, hwo⟩ : ∃ wo : World, wo = wr := ⟨_, rfl⟩
      subst hwo
      go_wp2_with (refine wpList_index_set rfl _ _ rfl hs hlt rfl rfl ?_; rw [Hxe.out])
      clear hxe
      go_loopw [3, 6] (fun s v w3 => ∃ (y : Nat) (M : List Nat) (A2 : Option Addr) (c2 : Nat), v = .int .u64 (y : Int) ∧ y < 18446744073709551616 ∧ L ++ wordL k x = M ++ wordL k y ∧ s = .slice A2 M.length c2 ∧ NewO w w3 5 1 A2 M.length c2 (M.map nb)) (fun _ v _ => (intOf v).toNat)
      case atStart => exact ⟨x, L, A, c, rfl, hx, rfl, rfl, hN⟩
      case round =>
        obtain ⟨y, M, A2, c2, rfl, hy, hLM, rfl, hN2⟩ := hrel
        have hMl : M.length ≤ 256 := by
          have h1 := Hlen.out
          rw [hLM, List.length_append] at h1
          omega
        by_cases h0 : y = 0
        · subst h0
          have hLM2 : L ++ wordL k x = M := by rw [hLM, wordL_zero, List.append_nil]
          have HLM2 := Lib.hid hLM2
          clear hLM hLM2
          go_wp2
          go_roundw
          case rel => exact ⟨k + 1, M, A2, c2, by omega, by go_num, by rw [Hsn.out, HLM2.out], rfl, hN2⟩
          case measure => simp [intOf]; omega
        · obtain ⟨hcons, hct, hlty⟩ := wb_cons h0 hy
          have hLM3 := hLM
          rw [wordL_cons h0 hy] at hLM3
          have hcall := tz_any y h0 hy wr (ht.ext hN2.bel)
          have hyb : ((y : Int) == 0) = false := by simp; omega
          have hyn : ¬ ((y : Int) = 0) := by omega
          have hand : bits BinOp.and IntKind.u64 (y : Int) ((y : Int) - 1) = ((y &&& (y - 1) : Nat) : Int) := by
            have := bits_and_u64_nat y (y - 1) hy (by omega)
            rwa [show ((y - 1 : Nat) : Int) = (y : Int) - 1 by omega] at this
          have hal : y &&& (y - 1) < 18446744073709551616 := by omega
          clear hcons hLM
          generalize Lib.ctz 64 y = t at hct hcall hLM3
          generalize y &&& (y - 1) = z at hlty hand hal hLM3
          obtain ⟨b, hb⟩ : ∃ b, 64 * k + t = b := ⟨_, rfl⟩
          rw [hb] at hLM3
          have hbb : b < 256 := by omega
          have hbe : (k : Int) * 64 + (t : Int) = (b : Int) := by omega
          have hm1 : M.length + 1 ≤ maxLen := by unfold maxLen; omega
          have hm2 : (M.length + 1) * 1 ≤ 140737488355328 := by omega
          have HLM := Lib.hid hLM3
          have Hb := Lib.hid hb
          clear hLM3 hb
          go_wp2_with fail
          refine hcall.mono ?_
          rintro e w3 ⟨rfl, rfl⟩
          clear hcall
          go_wp2_with (at_builtin
                       refine wpList_appO _ rfl (.tmp 19) (.tmp 26) _ rfl _ _ 1 1 Tryd.underlying46 info_u8 rfl A2 _ c2 _ rfl (hN2.row.alloc _) (some ⟨wr.heap.size, 0, none⟩) 1 1 [_] rfl rfl (Rd.lit _ #[_] _) ?_ ?_ hm1 hm2 ?_
                       · simp; rfl
                       · intro h; cases h
                       intro A3 c3 w4 hrow4 honly4 hA4)
          have hN4 := hN2.grow (ext_alloc (Below.refl _ _) _) hrow4 honly4 hA4
          go_roundw
          case rel =>
            refine ⟨z, M ++ [b], A3, c3, rfl, hal, by rw [HLM.out, List.append_assoc]; rfl, by rw [List.length_append]; rfl, ?_⟩
            rw [List.length_append, List.map_append]
            exact hN4
          case measure => simp [intOf]; omega
    · obtain rfl : k = 4 := by omega
      have hL2 : L = listB ws := hL
      subst hL2
      clear hL hB1
      go_wp2
      go_ret
      exact ⟨A, c, rfl, hN⟩

end Go.Proofs.YtlddmjhpemihgaaDoor

/-
  Contract of Ranges. No statement of the seat is proved here.
-/
namespace Go.Proofs.YtlddmjhpemihgaaDoor
open Go Go.RowKit
set_option maxRecDepth 100000
set_option maxHeartbeats 4000000 in
theorem ranges_any (ws : List Nat) (hs : SetOk ws) (w : World) (ht : Tab w) :
    Calls Tryd.prog 56 #[setV ws] w fun e w' => ∃ A' c', e = .returned (.slice A' (rowsB (listB ws)).length c') ∧ NewO w w' 54 2 A' (rowsB (listB ws)).length c' (cellsR (rowsB (listB ws))) := by
  have hB1 := Blk.new w 24 (cellsU ws)
  have hcall := list_any ws hs (w.alloc (Obj.cells (cellsU ws) 24)) (ht.ext ((Below.refl _ _).alloc (Nat.le_refl _) _))
  have hbs : ∀ b ∈ listB ws, b < 256 := fun b hb => listB_lt hb
  have hps := listB_rises ws
  have hll := listB_len ws
  obtain ⟨l, hl⟩ : ∃ l, listB ws = l := ⟨_, rfl⟩
  rw [hl] at hcall hbs hps hll ⊢
  clear hl ht
  unfold setV at hcall ⊢
  go_enter Tryd.func56, Tryd.ntmps56
  go_wp2_with (refine wpList_load_set rfl _ rfl w.heap.size rfl hs hB1 ?_)
  refine hcall.mono ?_
  rintro e w2 ⟨AL, cL, rfl, hNL⟩
  clear hcall hB1
  go_wp2
  go_loopw [3, 5, 6, 10] (fun s _ _ i wr => ∃ (k : Nat) (R : List (Nat × Nat)) (A : Option Addr) (c : Nat), k ≤ l.length ∧ i = .int .i64 (k : Int) ∧ R = rowsB (l.take k) ∧ s = .slice A R.length c ∧ NewO w2 wr 54 2 A R.length c (cellsR R)) (fun _ _ _ i _ => l.length - (intOf i).toNat)
  case atStart => exact ⟨0, [], none, 0, by omega, rfl, rfl, rfl, NewO.start _ _ _⟩
  case round =>
    obtain ⟨k, R, A, c, hk, rfl, hR, rfl, hN⟩ := hrel
    by_cases hlt : k < l.length
    · have hki : (k : Int) < (l.length : Int) := by omega
      obtain ⟨ad, rfl, q⟩ := (hNL.rd.ext hN.bel).at_ (k := k) (by simpa using hlt)
      simp only [List.getElem_map, nb] at q
      have hbb := hbs l[k] (List.getElem_mem hlt)
      rcases rows_at hbs hps hlt with ⟨hk0, h1, h2⟩ | ⟨r, lo, h, hk0, h1, hhb, hk1, hrl, hj, hn⟩
      · obtain rfl : R = [] := hR.trans h1
        have H2 := Lib.hid h2
        clear hR h1 h2 hk0
        generalize l[k] = b at q hbb H2
        have hm1 : 0 + 1 ≤ maxLen := by unfold maxLen; omega
        have hm2 : (0 + 1) * 2 ≤ 140737488355328 := by omega
        go_wp2_with (at_builtin
                     refine wpList_appO _ rfl (.tmp 34) (.tmp 38) _ rfl _ _ 2 2 Tryd.underlying52 info_two rfl A _ c _ rfl (hN.row.alloc _) (some ⟨wr.heap.size, 0, none⟩) 1 1 (encR (b, b)) rfl rfl (Rd.lit _ #[.int .u8 (b : Int), .int .u8 (b : Int)] _) ?_ ?_ hm1 hm2 ?_
                     · simp [encR, nb]; rfl
                     · intro h; cases h
                     intro A3 c3 w3 hrow3 honly3 hA3)
        have hN3 := hN.grow (ext_alloc (Below.refl _ _) _) hrow3 honly3 hA3
        go_roundw
        case rel => exact ⟨k + 1, [(b, b)], A3, c3, by omega, by go_num, H2.out.symm, rfl, hN3⟩
        case measure => simp [intOf]; omega
      · obtain rfl : R = r ++ [(lo, h)] := hR.trans h1
        have Hj := Lib.hid hj
        have Hn := Lib.hid hn
        clear hR h1 hk1 hj hn
        generalize l[k] = b at q hbb hhb Hj Hn
        obtain ⟨g, o, rfl, q1, q2⟩ := hN.row.cellR (k := r.length) (by simp)
        simp only [List.getElem_append_right (Nat.le_refl _), Nat.sub_self, List.getElem_cons_zero] at q1 q2
        rw [List.length_append, List.length_singleton] at hN ⊢
        have hfr := hN.row.free (o + r.length * 2 + 1)
        have hrb : r.length ≤ 1000000 := by omega
        have hlast : ((r.length + 1 : Nat) : Int) - 1 = (r.length : Int) := by omega
        have hb1 : IntKind.u8.wrap ((b : Int) - 1) = (b : Int) - 1 := by rw [IntKind.wrap_u8]; omega
        by_cases he : h + 1 = b
        · have hN3 := hN.set (r.length * 2 + 1) (by rw [cellsR_length, List.length_append, List.length_singleton]; omega) (nb b)
          rw [← Nat.add_assoc, cellsR_set] at hN3
          have H3 := Lib.hid hN3
          have hR3 := Hj.out he
          have HR3 := Lib.hid hR3
          have hhe : (h : Int) = (b : Int) - 1 := by omega
          have heq : ((h : Int) == (b : Int) - 1) = true := by simp; omega
          clear hN3 hR3
          go_wp2
          go_roundw
          case rel =>
            refine ⟨k + 1, r ++ [(lo, b)], some ⟨g, o, none⟩, c, by omega, by go_num, HR3.out.symm, by simp, ?_⟩
            rw [List.length_append, List.length_singleton]
            exact H3.out
          case measure => simp [intOf]; omega
        · have hne : ((h : Int) == (b : Int) - 1) = false := by simp; omega
          have hnn : ¬ ((h : Int) = (b : Int) - 1) := by omega
          have hR3 := Hn.out he
          have HR3 := Lib.hid hR3
          have hm1 : r.length + 1 + 1 ≤ maxLen := by unfold maxLen; omega
          have hm2 : (r.length + 1 + 1) * 2 ≤ 140737488355328 := by omega
          clear hR3
          go_wp2_with (at_builtin
                       refine wpList_appO _ rfl (.tmp 34) (.tmp 38) _ rfl _ _ 2 2 Tryd.underlying52 info_two rfl (some ⟨g, o, none⟩) _ c _ rfl (hN.row.alloc _) (some ⟨wr.heap.size, 0, none⟩) 1 1 (encR (b, b)) rfl rfl (Rd.lit _ #[.int .u8 (b : Int), .int .u8 (b : Int)] _) ?_ ?_ hm1 hm2 ?_
                       · simp [encR, nb]; rfl
                       · intro h; cases h
                       intro A3 c3 w3 hrow3 honly3 hA3)
          have hN3 := hN.grow (ext_alloc (Below.refl _ _) _) hrow3 honly3 hA3
          go_roundw
          case rel =>
            refine ⟨k + 1, r ++ [(lo, h)] ++ [(b, b)], A3, c3, by omega, by go_num, HR3.out.symm, by simp, ?_⟩
            rw [cellsR_append]
            simpa [cellsR] using hN3
          case measure => simp [intOf]; omega
    · obtain rfl : k = l.length := by omega
      rw [List.take_length] at hR
      subst hR
      go_wp2
      go_ret
      exact ⟨A, c, rfl, (hN.back hNL.bel).back ((Below.refl _ _).alloc (Nat.le_refl _) _)⟩
end Go.Proofs.YtlddmjhpemihgaaDoor

/-
  The mathematics of the program's own weighing of an expression: it says what 'isE' says. No statement of the seat is proved here.
-/
namespace Go.Proofs.YtlddmjhpemihgaaDoor
open Go
/-- a node has what its kind names, and nothing else -/
def formE : Ex → Bool
  | .mk k s ks lo hi =>
    if k = 0 then decide (s = zeroB) && decide (lo = 0) && decide (hi = 0) && ks.isEmpty
    else if k = 1 then decide (s ≠ zeroB) && decide (lo = 0) && decide (hi = 0) && ks.isEmpty
    else if k = 2 ∨ k = 3 then decide (s = zeroB) && decide (lo = 0) && decide (hi = 0) && decide (2 ≤ ks.length)
    else if k = 4 then decide (s = zeroB) && repB lo hi && decide (ks.length = 1)
    else false
/-- how often a repeat's kid counts, here -/
def timesW (lo hi : Int) : Nat := (max (max lo hi) 1).toNat
mutual
def weighE (deep within n : Nat) : Ex → Option (Nat × Nat)
  | .mk k s ks lo hi =>
    if 128 < n + 1 ∨ 16 < deep ∨ 4 < (if k = 4 then within + 1 else within) ∨ formE (.mk k s ks lo hi) = false then none
    else match weighL (deep + 1) (if k = 4 then within + 1 else within) 0 (n + 1) ks with
      | none => none
      | some (x, m) => some (1 + (if k = 4 then x * timesW lo hi else x), m)
def weighL (deep within : Nat) (x n : Nat) : List Ex → Option (Nat × Nat)
  | [] => some (x, n)
  | t :: ts => match weighE deep within n t with
    | none => none
    | some (v, m) => weighL deep within (x + v) m ts
end
theorem weighL_append (deep within x n : Nat) (a b : List Ex) : weighL deep within x n (a ++ b) = match weighL deep within x n a with | none => none | some (y, m) => weighL deep within y m b := by
  induction a generalizing x n with
  | nil => simp [weighL]
  | cons t r ih =>
    simp only [List.cons_append, weighL]
    cases weighE deep within n t with
    | none => rfl
    | some p => exact ih _ _
theorem weighL_take (deep within : Nat) (l : List Ex) (k : Nat) (h : k < l.length) (x n : Nat) :
    weighL deep within x n (l.take (k + 1)) = match weighL deep within x n (l.take k) with | none => none | some (y, m) => (match weighE deep within m l[k] with | none => none | some (v, m') => some (y + v, m')) := by
  rw [List.take_succ_eq_append_getElem h, weighL_append]
  cases weighL deep within x n (l.take k) with
  | none => rfl
  | some p =>
    simp only [weighL]
    try (cases weighE deep within p.2 l[k] <;> rfl)
/-- once none, always none -/
theorem weighL_none {deep within x n : Nat} {l : List Ex} {k : Nat} (h : weighL deep within x n (l.take k) = none) : weighL deep within x n l = none := by
  have := weighL_append deep within x n (l.take k) (l.drop k)
  rw [List.take_append_drop, h] at this
  exact this

mutual
def wE : Ex → Nat
  | .mk k _ ks lo hi => 1 + (if k = 4 then wL ks * timesW lo hi else wL ks)
def wL : List Ex → Nat
  | [] => 0
  | x :: xs => wE x + wL xs
end
/-- what a list says of all -/
theorem nestL_iff (l : List Ex) : ∀ n m, nestL n l ≤ m ↔ n ≤ m ∧ ∀ x ∈ l, nestE x ≤ m := by
  induction l with
  | nil => simp [nestL]
  | cons x r ih =>
    intro n m
    simp only [nestL, ih, List.mem_cons, forall_eq_or_imp]
    constructor
    · rintro ⟨h1, h2⟩; exact ⟨by omega, by omega, h2⟩
    · rintro ⟨h1, h2, h3⟩; exact ⟨by omega, h3⟩
theorem nestL_zero (l : List Ex) : ∃ m, nestL 0 l = m ∧ ∀ c, m ≤ c ↔ ∀ x ∈ l, nestE x ≤ c := ⟨_, rfl, fun c => by rw [nestL_iff]; simp⟩

/-- list form of the claim -/
theorem weighL_eq (deep within : Nat) (l : List Ex) (h : ∀ t ∈ l, ∀ n, weighE deep within n t = if oneE deep t = true ∧ within + nestE t ≤ 4 ∧ n + nodesE t ≤ 128 then some (wE t, n + nodesE t) else none) :
    ∀ x n, within ≤ 4 → n ≤ 128 → weighL deep within x n l = if oneL deep l = true ∧ (∀ t ∈ l, within + nestE t ≤ 4) ∧ n + nodesL l ≤ 128 then some (x + wL l, n + nodesL l) else none := by
  induction l with
  | nil =>
    intro x n h4 h5
    simp [weighL, oneL, nodesL, wL, h5]
  | cons t r ih =>
    intro x n h4 h5
    have ih := ih (fun y hy => h y (by simp [hy]))
    simp only [weighL, h t (by simp) n]
    by_cases hc : oneE deep t = true ∧ within + nestE t ≤ 4 ∧ n + nodesE t ≤ 128
    · rw [if_pos hc]
      simp only
      rw [ih _ _ h4 hc.2.2]
      have e : (oneL deep (t :: r) = true ∧ (∀ y ∈ t :: r, within + nestE y ≤ 4) ∧ n + nodesL (t :: r) ≤ 128) ↔ (oneL deep r = true ∧ (∀ y ∈ r, within + nestE y ≤ 4) ∧ n + nodesE t + nodesL r ≤ 128) := by
        simp only [oneL, Bool.and_eq_true, List.mem_cons, forall_eq_or_imp, nodesL, hc.1, hc.2.1, true_and]
        rw [Nat.add_assoc]
      simp only [wL, nodesL] at e ⊢
      by_cases h2 : oneL deep r = true ∧ (∀ y ∈ r, within + nestE y ≤ 4) ∧ n + nodesE t + nodesL r ≤ 128
      · refine (if_pos h2).trans (Eq.trans ?_ (if_pos (e.2 h2)).symm)
        rw [Nat.add_assoc, Nat.add_assoc]
      · exact (if_neg h2).trans (if_neg (fun h => h2 (e.1 h))).symm
    · rw [if_neg hc]
      simp only
      refine (if_neg ?_).symm
      rintro ⟨a1, a2, a3⟩
      simp only [oneL, Bool.and_eq_true, nodesL] at a1 a3
      exact hc ⟨a1.1, a2 t (by simp), by omega⟩

theorem form_one (deep : Nat) (k : Int) (s : List Nat) (ks : List Ex) (lo hi : Int) : oneE deep (.mk k s ks lo hi) = (decide (deep ≤ 16) && formE (.mk k s ks lo hi) && oneL (deep + 1) ks) := by
  simp only [oneE, formE]
  by_cases h16 : 16 < deep
  · rw [if_pos (.inl h16), show decide (deep ≤ 16) = false by simp; omega]; simp
  · have hd : decide (deep ≤ 16) = true := by simp; omega
    rw [hd, Bool.true_and]
    by_cases k0 : k = 0
    · subst k0
      by_cases hs : s = zeroB <;> by_cases h1 : lo = 0 <;> by_cases h2 : hi = 0 <;> simp [hs, h1, h2, h16]
      cases ks <;> simp [oneL]
    · by_cases k1 : k = 1
      · subst k1
        by_cases hs : s = zeroB <;> by_cases h1 : lo = 0 <;> by_cases h2 : hi = 0 <;> simp [hs, h1, h2, h16]
        cases ks <;> simp [oneL]
      · by_cases k23 : k = 2 ∨ k = 3
        · have k4 : k ≠ 4 := by omega
          by_cases hs : s = zeroB <;> by_cases h1 : lo = 0 <;> by_cases h2 : hi = 0 <;> simp [hs, h1, h2, h16, k0, k1, k23, k4]
        · by_cases k4 : k = 4
          · subst k4
            by_cases hs : s = zeroB <;> simp [hs, h16]
            rw [Bool.and_comm (repB lo hi)]
          · simp [k0, k1, k23, k4]
theorem weighE_eq (t : Ex) : ∀ deep within n, within ≤ 4 → n ≤ 128 → weighE deep within n t = if oneE deep t = true ∧ within + nestE t ≤ 4 ∧ n + nodesE t ≤ 128 then some (wE t, n + nodesE t) else none := by
  refine ex_induct (p := fun t => ∀ deep within n, within ≤ 4 → n ≤ 128 → weighE deep within n t = if oneE deep t = true ∧ within + nestE t ≤ 4 ∧ n + nodesE t ≤ 128 then some (wE t, n + nodesE t) else none) (fun k s ks lo hi ih deep within n hw hn => ?_) t
  simp only [weighE]
  have hne : nestE (.mk k s ks lo hi) = nestL 0 ks + (if k = 4 then 1 else 0) := by simp [nestE]
  have hno : nodesE (.mk k s ks lo hi) = 1 + nodesL ks := by simp [nodesE]
  have hwe : wE (.mk k s ks lo hi) = 1 + (if k = 4 then wL ks * timesW lo hi else wL ks) := by simp [wE]
  obtain ⟨W, hW⟩ : ∃ W, (if k = 4 then within + 1 else within) = W := ⟨_, rfl⟩
  have hW2 : W = within + (if k = 4 then 1 else 0) := by rw [← hW]; split <;> rfl
  rw [hW]
  have h1 := form_one deep k s ks lo hi
  rw [hne, hno, hwe]
  by_cases hc : 128 < n + 1 ∨ 16 < deep ∨ 4 < W ∨ formE (.mk k s ks lo hi) = false
  · rw [if_pos hc, if_neg]
    rintro ⟨a1, a2, a3⟩
    rw [h1] at a1
    simp only [Bool.and_eq_true, decide_eq_true_eq] at a1
    rcases hc with hc | hc | hc | hc
    · omega
    · omega
    · omega
    · rw [hc] at a1; simp at a1
  · rw [if_neg hc]
    have hf : formE (.mk k s ks lo hi) = true := by
      cases h : formE (.mk k s ks lo hi)
      · exact absurd (.inr (.inr (.inr h))) hc
      · rfl
    have hd : deep ≤ 16 := by omega
    have hW4 : W ≤ 4 := by omega
    rw [weighL_eq (deep + 1) W ks (fun t ht n' => ?_) 0 (n + 1) hW4 (by omega)]
    · obtain ⟨m, hm, hmc⟩ := nestL_zero ks
      have e : (oneL (deep + 1) ks = true ∧ (∀ t ∈ ks, W + nestE t ≤ 4) ∧ n + 1 + nodesL ks ≤ 128) ↔ (oneE deep (.mk k s ks lo hi) = true ∧ within + (nestL 0 ks + (if k = 4 then 1 else 0)) ≤ 4 ∧ n + (1 + nodesL ks) ≤ 128) := by
        rw [h1, hf, decide_eq_true hd, Bool.true_and, Bool.true_and, hm]
        have : (∀ t ∈ ks, W + nestE t ≤ 4) ↔ within + (m + (if k = 4 then 1 else 0)) ≤ 4 := by
          have h2 := hmc (4 - W)
          constructor
          · intro h
            have := h2.2 (fun x hx => by have := h x hx; omega)
            omega
          · intro h t ht
            have := h2.1 (by omega) t ht
            omega
        rw [this]
        constructor <;> rintro ⟨x1, x2, x3⟩ <;> exact ⟨x1, x2, by omega⟩
      by_cases h2 : oneL (deep + 1) ks = true ∧ (∀ t ∈ ks, W + nestE t ≤ 4) ∧ n + 1 + nodesL ks ≤ 128
      · rw [if_pos h2, if_pos (e.1 h2)]
        simp only [Nat.zero_add]
        rw [Nat.add_assoc]
      · rw [if_neg h2, if_neg (fun h => h2 (e.2 h))]
    · by_cases hn' : n' ≤ 128
      · exact ih t ht (deep + 1) W n' hW4 hn'
      · rw [if_neg (by have := nodesE_pos t; omega)]
        cases t with
        | mk k' s' ks' lo' hi' =>
          simp only [weighE]
          rw [if_pos (.inl (by omega))]

theorem timesW_le {lo hi : Int} (h : repB lo hi = true) : timesW lo hi ≤ 32 ∧ 1 ≤ timesW lo hi := by
  simp only [repB, Bool.and_eq_true, Bool.or_eq_true, decide_eq_true_eq] at h
  unfold timesW
  omega
theorem pow32 (n : Nat) : 1 ≤ 32 ^ n := Nat.pow_pos (by omega)
theorem wE_le (t : Ex) : ∀ deep n, oneE deep t = true → nestE t ≤ n → wE t ≤ nodesE t * 32 ^ n := by
  refine ex_induct (p := fun t => ∀ deep n, oneE deep t = true → nestE t ≤ n → wE t ≤ nodesE t * 32 ^ n) (fun k s ks lo hi ih deep n h1 h2 => ?_) t
  rw [form_one] at h1
  simp only [Bool.and_eq_true, oneL_all, List.all_eq_true] at h1
  obtain ⟨⟨_, hf⟩, hl⟩ := h1
  have key : ∀ m, (∀ x ∈ ks, nestE x ≤ m) → wL ks ≤ nodesL ks * 32 ^ m := by
    intro m
    clear h2 hf
    induction ks with
    | nil => simp [wL]
    | cons x r ihr =>
      intro hm
      have a1 := ih x (by simp) (deep + 1) m (hl x (by simp)) (hm x (by simp))
      have a2 := ihr (fun y hy => ih y (by simp [hy])) (fun y hy => hl y (by simp [hy])) (fun y hy => hm y (by simp [hy]))
      simp only [wL, nodesL, Nat.add_mul]
      omega
  simp only [nestE] at h2
  simp only [wE, nodesE]
  have hp := pow32 n
  by_cases k4 : k = 4
  · subst k4
    simp only [if_true] at h2 ⊢
    have hr : repB lo hi = true := by
      simp only [formE] at hf
      simp at hf
      exact hf.1.2
    have ht := timesW_le hr
    obtain ⟨m, rfl⟩ : ∃ m, n = m + 1 := ⟨n - 1, by omega⟩
    have hk := key m ((nestL_iff ks 0 m).1 (by omega)).2
    have : wL ks * timesW lo hi ≤ nodesL ks * 32 ^ m * 32 := Nat.mul_le_mul hk ht.1
    rw [Nat.add_mul, Nat.pow_succ]
    rw [Nat.pow_succ] at hp
    rw [Nat.mul_assoc] at this
    omega
  · simp only [if_neg k4, Nat.add_zero] at h2 ⊢
    have hk := key n ((nestL_iff ks 0 n).1 h2).2
    rw [Nat.add_mul]
    omega
/-- what is found in the midst -/
theorem weighE_small {deep within n v m : Nat} {t : Ex} (hw : within ≤ 4) (hn : n ≤ 128) (h : weighE deep within n t = some (v, m)) : m ≤ 128 ∧ n ≤ m ∧ v ≤ (m - n) * 1048576 := by
  rw [weighE_eq t deep within n hw hn] at h
  split at h
  case isTrue hc =>
    injection h with h
    injection h with h1 h2
    subst h1 h2
    refine ⟨hc.2.2, by omega, ?_⟩
    have := wE_le t deep 4 hc.1 (by omega)
    rw [Nat.add_sub_cancel_left]
    exact this
  case isFalse => cases h
theorem weighL_small {deep within : Nat} (hw : within ≤ 4) (l : List Ex) : ∀ {x n v m : Nat}, n ≤ 128 → weighL deep within x n l = some (v, m) → m ≤ 128 ∧ n ≤ m ∧ v ≤ x + (m - n) * 1048576 := by
  induction l with
  | nil =>
    intro x n v m hn h
    simp only [weighL] at h
    injection h with h
    injection h with h1 h2
    subst h1 h2
    omega
  | cons t r ih =>
    intro x n v m hn h
    simp only [weighL] at h
    cases h1 : weighE deep within n t with
    | none => rw [h1] at h; cases h
    | some p =>
      obtain ⟨a, b⟩ := p
      rw [h1] at h
      have h2 := weighE_small hw hn h1
      have h3 := ih h2.1 h
      omega

theorem min_mul {a b : Nat} (o : Nat) (ho : 1 ≤ o) (h : min 5000 a = min 5000 b) : min 5000 (a * o) = min 5000 (b * o) := by
  by_cases ha : a < 5000
  · have : a = b := by omega
    rw [this]
  · have h1 : 5000 * 1 ≤ a * o := Nat.mul_le_mul (by omega) ho
    have h2 : 5000 * 1 ≤ b * o := Nat.mul_le_mul (by omega) ho
    omega
theorem weight_wE (t : Ex) : ∀ deep, oneE deep t = true → min 5000 (weightE t) = min 5000 (wE t) := by
  refine ex_induct (p := fun t => ∀ deep, oneE deep t = true → min 5000 (weightE t) = min 5000 (wE t)) (fun k s ks lo hi ih deep h1 => ?_) t
  rw [form_one] at h1
  simp only [Bool.and_eq_true, oneL_all, List.all_eq_true] at h1
  obtain ⟨⟨_, hf⟩, hl⟩ := h1
  have key : ∀ n, min 5000 (weightL n ks) = min 5000 (n + wL ks) := by
    clear hf
    induction ks with
    | nil => intro n; simp [weightL, wL]
    | cons x r ihr =>
      intro n
      have a1 := ih x (by simp) (deep + 1) (hl x (by simp))
      have a2 := ihr (fun y hy => ih y (by simp [hy])) (fun y hy => hl y (by simp [hy])) (min 5000 (n + weightE x))
      simp only [weightL, wL]
      rw [a2]
      omega
  have k0 := key 0
  rw [Nat.zero_add] at k0
  simp only [weightE, wE]
  by_cases k4 : k = 4
  · subst k4
    simp only [if_true]
    have hr : repB lo hi = true := by
      simp only [formE] at hf
      simp at hf
      exact hf.1.2
    have ht := timesW_le hr
    have ho : oftenE lo hi = timesW lo hi := by
      simp only [repB, Bool.and_eq_true, Bool.or_eq_true, decide_eq_true_eq] at hr
      unfold oftenE timesW
      omega
    rw [ho]
    have := min_mul (timesW lo hi) ht.2 k0
    omega
  · simp only [if_neg k4]
    omega
/-- the program's own test is 'isE' -/
theorem isE_weigh (t : Ex) : isE t = match weighE 1 0 0 t with | none => false | some (v, _) => decide (v ≤ 1024) && decide ((textE t).length ≤ 1024) := by
  rw [weighE_eq t 1 0 0 (by omega) (by omega), Nat.zero_add, Nat.zero_add]
  unfold isE
  by_cases h : oneE 1 t = true ∧ nestE t ≤ 4 ∧ nodesE t ≤ 128
  · rw [if_pos h]
    have hw := weight_wE t 1 h.1
    have : decide (weightE t ≤ 1024) = decide (wE t ≤ 1024) := by
      rw [decide_eq_decide]; omega
    simp only [h.1, decide_eq_true h.2.1, decide_eq_true h.2.2, Bool.true_and, Bool.and_true, this]
  · rw [if_neg h]
    simp only
    rw [Bool.eq_false_iff]
    intro hc
    simp only [Bool.and_eq_true, decide_eq_true_eq] at hc
    exact h ⟨hc.1.1.1.1, hc.1.2, hc.1.1.1.2⟩
end Go.Proofs.YtlddmjhpemihgaaDoor

/-
  Contracts of the program's mayRepeat, formed. No statement of the seat is proved here.
-/
namespace Go.Proofs.YtlddmjhpemihgaaDoor
open Go Go.RowKit
set_option maxRecDepth 100000
set_option maxHeartbeats 1000000 in
theorem mayrep_any (lo hi : Int) (w : World) : Calls Tryd.prog 55 #[.int .i64 lo, .int .i64 hi] w fun e w' => e = .returned (.bool (repB lo hi)) ∧ w = w' := by
  obtain ⟨r, hr⟩ : ∃ r, repB lo hi = r := ⟨_, rfl⟩
  rw [hr]
  have Hr : Hid (r = true ↔ 0 ≤ lo ∧ lo ≤ 32 ∧ (hi = -1 ∨ (1 ≤ hi ∧ hi ≤ 32 ∧ lo ≤ hi))) := Lib.hid (by rw [← hr]; simp [repB, and_assoc])
  clear hr
  have hc : lo < 0 ∨ 32 < lo ∨ (0 ≤ lo ∧ lo ≤ 32 ∧ hi = -1) ∨ (0 ≤ lo ∧ lo ≤ 32 ∧ hi ≠ -1) := by omega
  rcases hc with h1 | h1 | ⟨h1, h2, rfl⟩ | ⟨h1, h2, h3⟩
  · go_enter Tryd.func55, Tryd.ntmps55
    go_wp2
    all_goals (go_ret; exact ⟨ret_bool (by rw [Bool.eq_iff_iff, Hr.out]; simp; omega), rfl⟩)
  · have h0 : 0 ≤ lo := by omega
    go_enter Tryd.func55, Tryd.ntmps55
    go_wp2
    all_goals (go_ret; exact ⟨ret_bool (by rw [Bool.eq_iff_iff, Hr.out]; simp; omega), rfl⟩)
  · go_enter Tryd.func55, Tryd.ntmps55
    go_wp2
    all_goals (go_ret; exact ⟨ret_bool (by rw [Bool.eq_iff_iff, Hr.out]; simp; omega), rfl⟩)
  · have h3' : (hi == -1) = false := by simpa using h3
    obtain ⟨M, hM⟩ : ∃ M, (if lo < 1 then 1 else lo) = M := ⟨_, rfl⟩
    have hM2 : (M ≤ hi) ↔ (lo ≤ hi ∧ 1 ≤ hi) := by rw [← hM]; split <;> omega
    have HM2 := Lib.hid hM2
    clear hM2
    by_cases hm : M ≤ hi
    · go_enter Tryd.func55, Tryd.ntmps55
      go_wp2
      all_goals (go_ret; exact ⟨ret_bool (by have := HM2.out; rw [Bool.eq_iff_iff, Hr.out]; simp; omega), rfl⟩)
    · have hm' : hi < M := by omega
      clear hm
      go_enter Tryd.func55, Tryd.ntmps55
      go_wp2
      all_goals (go_ret; exact ⟨ret_bool (by have := HM2.out; rw [Bool.eq_iff_iff, Hr.out]; simp; omega), rfl⟩)

/-- 'formE' by what the program asks -/
def formB (k : Int) (zb tb rb : Bool) (n : Nat) : Bool :=
  if k = 0 then zb && tb && decide (n = 0) else if k = 1 then !zb && tb && decide (n = 0) else if k = 2 ∨ k = 3 then zb && tb && decide (2 ≤ n)
  else if k = 4 then zb && rb && decide (n = 1) else false
theorem formB_eq (k : Int) (s : List Nat) (ks : List Ex) (lo hi : Int) : formE (.mk k s ks lo hi) = formB k (decide (s = zeroB)) (decide (lo = 0) && decide (hi = 0)) (repB lo hi) ks.length := by
  have e : ks.isEmpty = decide (ks.length = 0) := by cases ks <;> simp
  simp only [formE, formB, e, Bool.and_assoc]
  repeat' split
  all_goals simp_all

theorem nat_beq0 (n : Nat) : ((n : Int) == 0) = decide (n = 0) := by rw [Bool.eq_iff_iff]; simp
theorem nat_beq1 (n : Nat) : ((n : Int) == 1) = decide (n = 1) := by rw [Bool.eq_iff_iff]; simp; omega
theorem nat_ge2 (n : Nat) : decide ((2 : Int) ≤ (n : Int)) = decide (2 ≤ n) := by rw [Bool.eq_iff_iff]; simp; omega
set_option maxHeartbeats 8000000 in
theorem formed_any (S : Nat → Prop) (t : Ex) (cs : List Value) (w : World) (h : ReR S w t cs) :
    Calls Tryd.prog 49 #[reV cs] w fun e w' => e = .returned (.bool (formE t)) ∧ Below w.heap.size w w' := by
  cases t with
  | mk k s ks lo hi =>
  rw [reR_iff] at h
  obtain ⟨⟨hk, hs, hlo, hhi⟩, A, c, rfl, h1, h2, h3⟩ := h
  rw [formB_eq]
  clear h3 hk hlo hhi
  have hz := fun W => eq_sets hs zero_ok W
  obtain ⟨zb, hzb⟩ : ∃ b, decide (s = zeroB) = b := ⟨_, rfl⟩
  rw [hzb] at hz ⊢
  obtain ⟨p0, p1, p2, p3, rfl⟩ := four_words hs
  clear hs hzb
  obtain ⟨n, hn⟩ : ∃ n, ks.length = n := ⟨_, rfl⟩
  unfold reV reCells
  rw [hn] at h1 ⊢
  clear hn
  unfold maxLen at h2
  have hni : (n : Int) ≤ 9223372036854775807 := by omega
  obtain ⟨r, hr⟩ : ∃ r, formB k zb (decide (lo = 0) && decide (hi = 0)) (repB lo hi) n = r := ⟨_, rfl⟩
  rw [hr]
  have HRep := Lib.hid fun W => mayrep_any lo hi W
  obtain ⟨rb, hrb⟩ : ∃ b, repB lo hi = b := ⟨_, rfl⟩
  rw [hrb] at hr HRep
  clear hrb
  have hz' : ∀ W, (Op.equalIn 10000 24 (.agg #[.int .u64 (p0 : Int), .int .u64 (p1 : Int), .int .u64 (p2 : Int), .int .u64 (p3 : Int)]) (.agg #[.int .u64 0, .int .u64 0, .int .u64 0, .int .u64 0])).run Tryd.prog W = .ok zb W := hz
  clear hz
  have hB := Blk.new w 27 #[.int .i64 k, .int .u64 (p0 : Int), .int .u64 (p1 : Int), .int .u64 (p2 : Int), .int .u64 (p3 : Int), .slice A n c, .int .i64 lo, .int .i64 hi]
  have hlh : (lo = 0 ∧ hi = 0) ∨ (lo = 0 ∧ hi ≠ 0) ∨ lo ≠ 0 := by omega
  show Calls Tryd.prog 49 #[.agg #[.int .i64 k, .int .u64 (p0 : Int), .int .u64 (p1 : Int), .int .u64 (p2 : Int), .int .u64 (p3 : Int), .slice A n c, .int .i64 lo, .int .i64 hi]] w _
  have Hr := Lib.hid hr
  clear hr
  rcases hlh with ⟨rfl, rfl⟩ | ⟨rfl, hh⟩ | hh
  · cases zb <;> cases rb
    all_goals
      go_enter Tryd.func49, Tryd.ntmps49
      go_wp2
      go_quiet (fail)
      go_wp2_with (go_at_call 55; (with_reducible refine (HRep.out _).mono ?_); rintro e w' ⟨rfl, rfl⟩)
      all_goals
        go_ret
        exact ⟨ret_bool (by rw [← Hr.out]; simp_all [formB, nat_beq0, nat_beq1, nat_ge2]), ext_drewN ((Below.refl _ _).alloc (Nat.le_refl _) _) _⟩
  · have hh' : (hi == 0) = false := by simpa using hh
    cases zb <;> cases rb
    all_goals
      go_enter Tryd.func49, Tryd.ntmps49
      go_wp2
      go_quiet (fail)
      go_wp2_with (go_at_call 55; (with_reducible refine (HRep.out _).mono ?_); rintro e w' ⟨rfl, rfl⟩)
      all_goals
        go_ret
        exact ⟨ret_bool (by rw [← Hr.out]; simp_all [formB, nat_beq0, nat_beq1, nat_ge2]), ext_drewN ((Below.refl _ _).alloc (Nat.le_refl _) _) _⟩
  · have hh' : (lo == 0) = false := by simpa using hh
    cases zb <;> cases rb
    all_goals
      go_enter Tryd.func49, Tryd.ntmps49
      go_wp2
      go_quiet (fail)
      go_wp2_with (go_at_call 55; (with_reducible refine (HRep.out _).mono ?_); rintro e w' ⟨rfl, rfl⟩)
      all_goals
        go_ret
        exact ⟨ret_bool (by rw [← Hr.out]; simp_all [formB, nat_beq0, nat_beq1, nat_ge2]), ext_drewN ((Below.refl _ _).alloc (Nat.le_refl _) _) _⟩
end Go.Proofs.YtlddmjhpemihgaaDoor

/-
  How a law's contract closes its statement; what an int's and a byte's datum says. No statement of the seat is proved here.
-/
namespace Go.Proofs.YtlddmjhpemihgaaDoor
open Go Go.ChangeShapes Go.WideShapes Go.ChangeAt Go.RowKit
theorem own : ownKnob Tryd.prog.godebug = none := by kernel_rfl
theorem laidOut : laidOutB Tryd.prog = true := by kernel_rfl

theorem int_of_wf {v : Int} (h : (Lit.int .i64 v).wf = true) : isInt v := by
  have h1 : IntKind.i64.min = -9223372036854775808 := rfl
  have h2 : IntKind.i64.max = 9223372036854775807 := rfl
  simp only [Lit.wf, Bool.and_eq_true, decide_eq_true_eq] at h
  unfold isInt
  omega
section
variable {H : Type} {enc : TypeId × Value → H}
theorem below_trodAll {P : Program} (hl : laidOutB P = true) {W W' : World} (hb : Below W.heap.size W W') : ∀ {ts : List TypeId} {vs : List Value} {ds : List (DataW H)} {ps : List MemPlace},
    (∀ t ∈ ts, P.readableRec t = true ∧ t < P.types.size) → DataW.TrodAll enc P W 0 (fun _ => true) true ts vs ds ps → (∀ x ∈ ps, x.block < W.heap.size) → DataW.TrodAll enc P W' 0 (fun b => decide (b < W.heap.size)) true ts vs ds ps
  | [], [], [], _, _, h, _ => h
  | t :: ts, v :: vs, d :: ds, _, hr, h, hlt => by
    obtain ⟨p, q, h1, h2, rfl⟩ := h
    exact ⟨p, q, Below.trod hl (hr t (by simp)).1 (hr t (by simp)).2 h1 hb (fun x hx => hlt x (by simp [hx])), below_trodAll hl hb (fun t' ht => hr t' (by simp [ht])) h2 (fun x hx => hlt x (by simp [hx])), rfl⟩
  | [], [], _ :: _, _, _, h, _ => h.elim
  | [], _ :: _, _, _, _, h, _ => h.elim
  | _ :: _, [], _, _, _, h, _ => h.elim
  | _ :: _, _ :: _, [], _, _, h, _ => h.elim

/-- a law that returned true, and left all that was there as it was -/
theorem law_post {f : Func} {s : ChangeSpec} {W W' : World} {args : Array Value} {ds gs : List (DataW H)} {before : List MemPlace} (hvars : s.vars = []) (hf : f.resultTypes = #[4])
    (hread : f.params.toList.all (fun t => Tryd.prog.readableRec t && decide (t < Tryd.prog.types.size)) = true)
    (hs : (s.fn H ds).results = [.lit (.bool true)] ∧ (s.fn H ds).args = ds ∧ (s.fn H ds).vars = []) (hW : DataW.Whole enc Tryd.prog f.params.toList s.vars false W args.toList ds gs before) (hb : Below W.heap.size W W') :
    s.post enc Tryd.prog f false true false false W args (.bool true) W' := by
  have hW' := hW
  have hlt : ∀ x ∈ before, x.block < W.heap.size := fun x hx => by simpa using hW'.lt x hx
  obtain ⟨p, q, hA, hV, he, _, _⟩ := hW
  rw [hvars] at hV
  obtain ⟨hg, hq⟩ := trodVars_none hV
  have hx : ds ++ gs = ds := by rw [hg, List.append_nil]
  refine ⟨ds, gs, before, [] ++ [], p, [], hW', ?_, ?_, ?_, hb.frame _, fun h => by cases h⟩
  · rw [hx, hs.1, hf]
    exact trodAll_cons_mk (shut_bool Tryd.underlying4 _) trodAll_mk0
  · rw [hx, hs.2.1]
    refine below_trodAll laidOut hb (fun t ht => ?_) hA (fun x hx => hlt x (by rw [he]; simp [hx]))
    have := List.all_eq_true.1 hread t ht
    simpa using this
  · rw [hx, hs.2.2, hvars]
    rfl
end
end Go.Proofs.YtlddmjhpemihgaaDoor

/-
  What the arguments of the laws read as, in this seat's words for memory (numbers, bytes); how a law's contract closes its statement. No statement of the seat is proved here.
-/
namespace Go.Proofs.YtlddmjhpemihgaaDoor
open Go Go.ChangeShapes Go.WideShapes Go.ChangeAt Go.RowKit
theorem cells_u8 : Tryd.prog.cellsOf 5 = 1 := by kernel_rfl
end Go.Proofs.YtlddmjhpemihgaaDoor

/-
  Arguments that are sets of bytes. No statement of the seat is proved here.
-/
namespace Go.Proofs.YtlddmjhpemihgaaDoor
open Go Go.ChangeShapes Go.WideShapes Go.ChangeAt Go.RowKit
set_option maxRecDepth 100000
section
variable {H : Type} {enc : TypeId × Value → H} {W : World} {base : Nat}
theorem u64_of_wf {v : Int} (h : (Lit.int .u64 v).wf = true) : ∃ n : Nat, v = (n : Int) ∧ n < 18446744073709551616 := by
  have h1 : IntKind.u64.min = 0 := rfl
  have h2 : IntKind.u64.max = 18446744073709551615 := rfl
  simp only [Lit.wf, Bool.and_eq_true, decide_eq_true_eq] at h
  exact ⟨v.toNat, by omega, by omega⟩
theorem cell_set {fuel : Nat} {cs : List Value} {x : DataW H × List MemPlace} (hl : cs.length = 4) (hf : DataW.trod enc Tryd.prog W 0 (fun _ => true) true fuel 24 cs = some x) : ∃ ws, SetOk ws ∧ cs = ws.map uv := by
  match cs, hl with
  | [c0, c1, c2, c3], _ =>
    obtain ⟨y0, y1, y2, y3, n, _, g0, g1, g2, g3⟩ := trod_array4 Tryd.underlying24 cells_w hf
    obtain ⟨z0, q0, _, w0⟩ := DataW.trod_int Tryd.underlying22 g0
    obtain ⟨z1, q1, _, w1⟩ := DataW.trod_int Tryd.underlying22 g1
    obtain ⟨z2, q2, _, w2⟩ := DataW.trod_int Tryd.underlying22 g2
    obtain ⟨z3, q3, _, w3⟩ := DataW.trod_int Tryd.underlying22 g3
    obtain ⟨n0, rfl, l0⟩ := u64_of_wf w0
    obtain ⟨n1, rfl, l1⟩ := u64_of_wf w1
    obtain ⟨n2, rfl, l2⟩ := u64_of_wf w2
    obtain ⟨n3, rfl, l3⟩ := u64_of_wf w3
    injection q0 with q0
    injection q1 with q1
    injection q2 with q2
    injection q3 with q3
    subst q0 q1 q2 q3
    exact ⟨[n0, n1, n2, n3], ⟨rfl, by simp [l0, l1, l2, l3]⟩, rfl⟩

theorem flat_of_cell {w : World} {ad : Addr} {u : Value} (h : w.cell? (ad.add 0) = some u) : ∃ g o, ad = ⟨g, o, none⟩ := by
  obtain ⟨g, o, s⟩ := ad
  cases s with
  | none => exact ⟨g, o, rfl⟩
  | some s =>
    unfold World.cell? Addr.add at h
    simp at h
    split at h <;> simp at h
end
end Go.Proofs.YtlddmjhpemihgaaDoor

/-
  Arguments that are expressions. No statement of the seat is proved here.
-/
namespace Go.Proofs.YtlddmjhpemihgaaDoor
open Go Go.ChangeShapes Go.WideShapes Go.ChangeAt Go.RowKit
set_option maxRecDepth 100000
theorem cells_re : Tryd.prog.cellsOf 27 = 8 := by kernel_rfl
theorem cells_res : Tryd.prog.cellsOf 25 = 1 := by kernel_rfl
theorem cells_set' : Tryd.prog.cellsOf 24 = 4 := by kernel_rfl
theorem cells_i : Tryd.prog.cellsOf 3 = 1 := by kernel_rfl
section
variable {H : Type} {enc : TypeId × Value → H} {W : World} {base : Nat}
set_option maxRecDepth 100000 in
/-- cells that read as data of the kind are an expression -/
theorem cell_re : ∀ (fuel : Nat) (cs : List Value) (x : DataW H × List MemPlace), DataW.trod enc Tryd.prog W 0 (fun _ => true) true fuel 27 cs = some x → ∃ t, ReR (fun _ => True) W t cs := by
  intro fuel
  induction fuel using Nat.strongRecOn with
  | ind fuel ih =>
    intro cs x h
    obtain ⟨xs, n, rfl, rfl, hcl, hxl, hf⟩ := DataW.trod_struct Tryd.underlying27 h
    rw [cells_re] at hcl
    match cs, hcl, xs, hxl with
    | [c0, c1, c2, c3, c4, c5, c6, c7], _, [x0, x1, x2, x3, x4], _ =>
      have h0 := hf 0 _ rfl
      change DataW.trod enc Tryd.prog W 0 _ true n 3 (([c0, c1, c2, c3, c4, c5, c6, c7].drop 0).take (Tryd.prog.cellsOf 3)) = some x0 at h0
      rw [cells_i] at h0
      have h1 := hf 1 _ rfl
      change DataW.trod enc Tryd.prog W 0 _ true n 24 (([c0, c1, c2, c3, c4, c5, c6, c7].drop 1).take (Tryd.prog.cellsOf 24)) = some x1 at h1
      rw [cells_set'] at h1
      have h2 := hf 2 _ rfl
      change DataW.trod enc Tryd.prog W 0 _ true n 25 (([c0, c1, c2, c3, c4, c5, c6, c7].drop 5).take (Tryd.prog.cellsOf 25)) = some x2 at h2
      rw [cells_res] at h2
      have h3 := hf 3 _ rfl
      change DataW.trod enc Tryd.prog W 0 _ true n 3 (([c0, c1, c2, c3, c4, c5, c6, c7].drop 6).take (Tryd.prog.cellsOf 3)) = some x3 at h3
      rw [cells_i] at h3
      have h4 := hf 4 _ rfl
      change DataW.trod enc Tryd.prog W 0 _ true n 3 (([c0, c1, c2, c3, c4, c5, c6, c7].drop 7).take (Tryd.prog.cellsOf 3)) = some x4 at h4
      rw [cells_i] at h4
      clear hf
      obtain ⟨k, e0, -, wk⟩ := DataW.trod_int Tryd.underlying3 h0
      obtain ⟨lo, e3, -, wlo⟩ := DataW.trod_int Tryd.underlying3 h3
      obtain ⟨hi, e4, -, whi⟩ := DataW.trod_int Tryd.underlying3 h4
      obtain ⟨ws, hs, e1⟩ := cell_set (by simp) h1
      obtain ⟨a, b, c, d, rfl⟩ := four_words hs
      simp only [List.drop, List.take, List.cons.injEq, and_true] at e0 e3 e4
      simp only [List.drop, List.take, List.map_cons, List.map_nil, List.cons.injEq, and_true, uv] at e1
      obtain ⟨rfl, rfl, rfl, rfl⟩ := e1
      subst e0 e3 e4
      have key : ∃ (ks : List Ex) (A : Option Addr) (cap : Nat), c5 = .slice A ks.length cap ∧ ks.length ≤ cap ∧ cap ≤ maxLen ∧ Kids (fun _ => True) W A ks := by
        rcases DataW.trod_slice Tryd.underlying25 h2 with ⟨he, _⟩ | ⟨ad, len, cap, elems, rest, m, rfl, he, -, _, hlc, hcm, hel, hi', -⟩
        · simp only [List.drop, List.take, List.cons.injEq, and_true] at he
          exact ⟨[], none, 0, he, Nat.le_refl _, Nat.zero_le _, fun k hk => absurd hk (by simp)⟩
        · simp only [List.drop, List.take, List.cons.injEq, and_true] at he
          rw [cells_re] at hi'
          have hk : ∀ i, ∃ t : Ex, i < len → ∃ cs', W.cells? 0 (ad.add (i * 8)) 8 = some cs' ∧ ReR (fun _ => True) W t cs' := fun i => by
            by_cases hlt : i < len
            · have h5 := hi' i hlt
              rw [List.getElem?_eq_getElem (by omega)] at h5
              obtain ⟨cs', h6, h7⟩ := Option.bind_eq_some_iff.1 h5
              obtain ⟨t, ht⟩ := ih m (by omega) cs' _ h7
              exact ⟨t, fun _ => ⟨cs', h6, ht⟩⟩
            · exact ⟨emptyE, fun h => absurd h hlt⟩
          obtain ⟨T, hT⟩ := Classical.axiomOfChoice hk
          refine ⟨(List.range len).map T, some ad, cap, by rw [he]; simp, by simpa using hlc, hcm, fun j hj => ?_⟩
          have hjl : j < len := by simpa using hj
          obtain ⟨cs', h6, h7⟩ := hT j hjl
          obtain ⟨cs0, h8, h9⟩ := hT 0 (by omega)
          obtain ⟨_, hl8, hc8⟩ := World.cells?_some h8
          obtain ⟨_, hl6, hc6⟩ := World.cells?_some h6
          have hz : W.cell? (ad.add 0) = some cs0[0] := by
            have := hc8 0 (by omega)
            rw [add_add_, Nat.zero_mul, Nat.add_zero] at this
            rw [this, List.getElem?_eq_getElem (by omega)]
          obtain ⟨g, o, rfl⟩ := flat_of_cell hz
          refine ⟨g, o, cs', rfl, trivial, fun i u hu => ?_, by simpa using h7⟩
          have hi8 : i < 8 := by have := (List.getElem?_eq_some_iff.1 hu).1; omega
          have := hc6 i hi8
          rw [Addr.add_mid, Addr.add_mid] at this
          rw [this]
          exact hu
      obtain ⟨ks, A, cap, rfl, k1, k2, k3⟩ := key
      refine ⟨.mk k [a, b, c, d] ks lo hi, ?_⟩
      rw [reR_iff]
      exact ⟨⟨int_of_wf wk, hs, int_of_wf wlo, int_of_wf whi⟩, A, cap, rfl, k1, k2, k3⟩

/-- an argument that is an expression -/
theorem arg_re {v : Value} {d : DataW H} {p : List MemPlace} (hv : Value.okWide Tryd.prog W .any base 27 v) (h : DataW.Trod enc Tryd.prog W 0 (fun _ => true) true 27 v d p) : ∃ (t : Ex) (cs : List Value), v = reV cs ∧ ReR (fun _ => True) W t cs := by
  obtain ⟨cs, rfl, hsz⟩ := okWide_struct Tryd.underlying27 hv
  obtain ⟨fuel, hf⟩ := h
  obtain ⟨t, ht⟩ := cell_re fuel _ _ hf
  exact ⟨t, cs.toList, by simp [reV], by simpa [Value.cells] using ht⟩
end
end Go.Proofs.YtlddmjhpemihgaaDoor
