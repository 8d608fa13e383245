/-
  Texts of this claim, joined (part 3): contracts and lemmas that the last text goes by. No statement of the seat is proved here.
-/
import Derived.Test.YtdghbdiapkelnaaAll2
import Derived.Test.YtdghbdiapkelnaaAll1
import Derived.Test.YtdghbdiapkelnaaAll0
import Derived.DeepKeys4
import Derived.Maps.OwnOps
import Derived.Maps.Views
import Derived.Maps.Own
import Derived.Maps.OwnSet
import Derived.Deep.RegionHeld3
import Derived.Deep.RegionHeldLaw
import Derived.Deep.RegionLaw
set_option linter.unusedVariables false
set_option linter.unusedSimpArgs false
/-
  The contracts of Vars, the program's and the reference's. No statement of the seat is proved here.
-/
namespace Go.Proofs.Ytdghbdiapkelnaa
open Go Go.RowKit
set_option maxRecDepth 100000
theorem info_string : (Try.prog.info? 9).map (fun i => (i.zero, i.size, i.bytes)) = some (some (.string ⟨#[]⟩), 1, 16) := by kernel_rfl
/-- a row of texts that was made anew -/
def NewS (w w' : World) (A : Option Addr) (c : Nat) (l : List (List UInt8)) : Prop := NewO w w' 9 1 A l.length c (l.map strV)
def SaysStrs (l : List (List UInt8)) (w : World) (e : Ending) (w' : World) : Prop := ∃ A c, e = .returned (.slice A l.length c) ∧ NewS w w' A c l
theorem strs_snoc (l : List (List UInt8)) (s : List UInt8) {Z : ByteArray} (h : strV s = .string Z) : (l ++ [s]).map strV = l.map strV ++ [.string Z] := by rw [List.map_append, ← h]; rfl

set_option maxHeartbeats 4000000 in
theorem vars_any (A : Option Addr) (n c : Nat) (l : List Prt) (B : Option Addr) (n2 d : Nat) (ts : List Tok) (w : World) (hn : n = l.length) (hn2 : n2 = ts.length) (hc : l.length ≤ c) (h : PartsAt w A l) (h2 : ToksAt w B ts) (hl : l.length ≤ 1000000) (hl2 : ts.length ≤ 1000000) :
    Calls Try.prog 34 #[.slice A n c, .slice B n2 d] w (SaysStrs (varsL l ts) w) := by
  subst hn hn2
  have hli : (l.length : Int) ≤ 1000000 := by omega
  have hli2 : (ts.length : Int) ≤ 1000000 := by omega
  by_cases hx : ts.length < l.length
  · have hxi : (ts.length : Int) < (l.length : Int) := by omega
    have hMc : (ts.length : Int) ≤ (c : Int) := by omega
    have HM : Hid (l.length ≤ ts.length ∨ ts.length ≤ ts.length) := Lib.hid (by omega)
    go_enter Try.func34, Try.ntmps34
    go_wp2
    go_loopw [5, 16] (fun s i wr => ∃ (k m : Nat) (A2 : Option Addr) (c2 : Nat), k ≤ ts.length ∧ m ≤ k ∧ i = .int .i64 (k : Int) ∧ s = .slice A2 m c2 ∧ Hid (m = (varsTo l ts k).length) ∧ Hid (NewO w wr 9 1 A2 m c2 ((varsTo l ts k).map strV))) (fun _ i _ => ts.length - (intOf i).toNat)
    case atStart => exact ⟨0, 0, none, 0, Nat.zero_le _, Nat.zero_le _, rfl, rfl, Lib.hid (by simp [varsTo, varsZ]), Lib.hid (NewO.start w 9 1)⟩
    case round =>
      obtain ⟨k, m, A2, c2, hk, hm, rfl, rfl, Hm, HN⟩ := hrel
      have Hb := Lib.hid HN.out.bel
      by_cases hlt : k < ts.length
      · have hl1 : k < l.length := by omega
        have hl3 : k < ts.length := by omega
        obtain ⟨g, o, rfl, c0, c1⟩ := (h.ext Hb.out).at_ hl1
        obtain ⟨g2, o2, rfl, -, c3⟩ := (h2.ext Hb.out).at_ hl3
        have hki : (k : Int) < (l.length : Int) := by omega
        have hki2 : (k : Int) < (ts.length : Int) := by omega
        have hkM : (k : Int) < (ts.length : Int) := by omega
        have hk0 : (0 : Int) ≤ (k : Int) := by omega
        have HS := Lib.hid (varsTo_succ l ts k hl1 hl3)
        have Hm1 : Hid (m + 1 ≤ maxLen) := Lib.hid (by unfold maxLen; omega)
        have Hm2 : Hid ((m + 1) * 16 ≤ 140737488355328) := Lib.hid (by omega)
        obtain ⟨Y, hY, -⟩ := str_hide l[k].text
        obtain ⟨Z, hZ, -⟩ := str_hide ts[k].text
        rw [hY] at c1
        rw [hZ] at c3
        have HZ := Lib.hid (strs_snoc (varsTo l ts k) ts[k].text hZ)
        clear hY hZ
        cases hA : l[k].any
        · rw [hA] at c0
          have HE : Hid (varsTo l ts (k + 1) = varsTo l ts k) := Lib.hid (by rw [HS.out, hA]; simp)
          clear hA
          go_wp2
          go_roundw
          case rel => exact ⟨k + 1, m, A2, c2, by omega, by omega, by go_num, rfl, Lib.hid (by rw [HE.out]; exact Hm.out), Lib.hid (by rw [HE.out]; exact HN.out.ext (by first | exact Below.refl _ _ | exact ext_alloc (Below.refl _ _) _))⟩
          case measure => simp [intOf]; omega
        · rw [hA] at c0
          have HE : Hid (varsTo l ts (k + 1) = varsTo l ts k ++ [ts[k].text]) := Lib.hid (by rw [HS.out, hA]; rfl)
          clear hA
          have q3 : (wr.alloc (Obj.cells #[.bool true, .string Y] 72)).cell? ⟨g2, o2 + k * 2 + 1, none⟩ = some (.string Z) := (World.cell?_of_block (Below.heap_alloc wr _ g2 (World.block_lt_of_cell? wr _ c3))).trans c3
          go_wp2_with (refine wpList_app_new rfl (.tmp 23) (.tmp 29) _ rfl _ _ 1 16 Try.underlying29 info_string rfl A2 m c2 _ HN.out (by repeat (first | exact Below.refl _ _ | refine ext_alloc ?_ _ | refine ext_drewN ?_ _)) rfl ⟨_, 0, none⟩ 1 [.string Z] rfl rfl (Rd.lit_at _ #[.string Z] 9 (by first | rfl | simp | exact (World.size_alloc _ _).symm)) (by intro u hu; simp at hu; subst hu; rfl) Hm1.out Hm2.out ?_; intro A7 c7 w7 hN7 hB7)
          have HN7 := Lib.hid hN7
          clear hN7 hB7
          go_wp2
          go_roundw
          case rel => exact ⟨k + 1, m + 1, A7, c7, by omega, by omega, by go_num, rfl, Lib.hid (by rw [HE.out, List.length_append, ← Hm.out]; rfl), Lib.hid (by rw [HE.out, HZ.out]; exact HN7.out)⟩
          case measure => simp [intOf]; omega
      · obtain rfl : k = ts.length := by omega
        have hv := varsTo_all l ts _ HM.out
        have hw : NewS w wr A2 c2 (varsL l ts) := by unfold NewS; rw [← hv, ← Hm.out]; exact HN.out
        have HW := Lib.hid hw
        have HL : Hid ((varsL l ts).length = m) := Lib.hid (by rw [← hv]; exact Hm.out.symm)
        clear hw hv
        go_wp2
        go_ret
        exact ⟨A2, c2, (by rw [HL.out]; rfl), HW.out⟩
  · have hxi : ¬ (ts.length : Int) < (l.length : Int) := by omega
    have hMc : (l.length : Int) ≤ (c : Int) := by omega
    have HM : Hid (l.length ≤ l.length ∨ ts.length ≤ l.length) := Lib.hid (by omega)
    go_enter Try.func34, Try.ntmps34
    go_wp2
    go_loopw [5, 16] (fun s i wr => ∃ (k m : Nat) (A2 : Option Addr) (c2 : Nat), k ≤ l.length ∧ m ≤ k ∧ i = .int .i64 (k : Int) ∧ s = .slice A2 m c2 ∧ Hid (m = (varsTo l ts k).length) ∧ Hid (NewO w wr 9 1 A2 m c2 ((varsTo l ts k).map strV))) (fun _ i _ => l.length - (intOf i).toNat)
    case atStart => exact ⟨0, 0, none, 0, Nat.zero_le _, Nat.zero_le _, rfl, rfl, Lib.hid (by simp [varsTo, varsZ]), Lib.hid (NewO.start w 9 1)⟩
    case round =>
      obtain ⟨k, m, A2, c2, hk, hm, rfl, rfl, Hm, HN⟩ := hrel
      have Hb := Lib.hid HN.out.bel
      by_cases hlt : k < l.length
      · have hl1 : k < l.length := by omega
        have hl3 : k < ts.length := by omega
        obtain ⟨g, o, rfl, c0, c1⟩ := (h.ext Hb.out).at_ hl1
        obtain ⟨g2, o2, rfl, -, c3⟩ := (h2.ext Hb.out).at_ hl3
        have hki : (k : Int) < (l.length : Int) := by omega
        have hki2 : (k : Int) < (ts.length : Int) := by omega
        have hkM : (k : Int) < (l.length : Int) := by omega
        have hk0 : (0 : Int) ≤ (k : Int) := by omega
        have HS := Lib.hid (varsTo_succ l ts k hl1 hl3)
        have Hm1 : Hid (m + 1 ≤ maxLen) := Lib.hid (by unfold maxLen; omega)
        have Hm2 : Hid ((m + 1) * 16 ≤ 140737488355328) := Lib.hid (by omega)
        obtain ⟨Y, hY, -⟩ := str_hide l[k].text
        obtain ⟨Z, hZ, -⟩ := str_hide ts[k].text
        rw [hY] at c1
        rw [hZ] at c3
        have HZ := Lib.hid (strs_snoc (varsTo l ts k) ts[k].text hZ)
        clear hY hZ
        cases hA : l[k].any
        · rw [hA] at c0
          have HE : Hid (varsTo l ts (k + 1) = varsTo l ts k) := Lib.hid (by rw [HS.out, hA]; simp)
          clear hA
          go_wp2
          go_roundw
          case rel => exact ⟨k + 1, m, A2, c2, by omega, by omega, by go_num, rfl, Lib.hid (by rw [HE.out]; exact Hm.out), Lib.hid (by rw [HE.out]; exact HN.out.ext (by first | exact Below.refl _ _ | exact ext_alloc (Below.refl _ _) _))⟩
          case measure => simp [intOf]; omega
        · rw [hA] at c0
          have HE : Hid (varsTo l ts (k + 1) = varsTo l ts k ++ [ts[k].text]) := Lib.hid (by rw [HS.out, hA]; rfl)
          clear hA
          have q3 : (wr.alloc (Obj.cells #[.bool true, .string Y] 72)).cell? ⟨g2, o2 + k * 2 + 1, none⟩ = some (.string Z) := (World.cell?_of_block (Below.heap_alloc wr _ g2 (World.block_lt_of_cell? wr _ c3))).trans c3
          go_wp2_with (refine wpList_app_new rfl (.tmp 23) (.tmp 29) _ rfl _ _ 1 16 Try.underlying29 info_string rfl A2 m c2 _ HN.out (by repeat (first | exact Below.refl _ _ | refine ext_alloc ?_ _ | refine ext_drewN ?_ _)) rfl ⟨_, 0, none⟩ 1 [.string Z] rfl rfl (Rd.lit_at _ #[.string Z] 9 (by first | rfl | simp | exact (World.size_alloc _ _).symm)) (by intro u hu; simp at hu; subst hu; rfl) Hm1.out Hm2.out ?_; intro A7 c7 w7 hN7 hB7)
          have HN7 := Lib.hid hN7
          clear hN7 hB7
          go_wp2
          go_roundw
          case rel => exact ⟨k + 1, m + 1, A7, c7, by omega, by omega, by go_num, rfl, Lib.hid (by rw [HE.out, List.length_append, ← Hm.out]; rfl), Lib.hid (by rw [HE.out, HZ.out]; exact HN7.out)⟩
          case measure => simp [intOf]; omega
      · obtain rfl : k = l.length := by omega
        have hv := varsTo_all l ts _ HM.out
        have hw : NewS w wr A2 c2 (varsL l ts) := by unfold NewS; rw [← hv, ← Hm.out]; exact HN.out
        have HW := Lib.hid hw
        have HL : Hid ((varsL l ts).length = m) := Lib.hid (by rw [← hv]; exact Hm.out.symm)
        clear hw hv
        go_wp2
        go_ret
        exact ⟨A2, c2, (by rw [HL.out]; rfl), HW.out⟩

set_option maxHeartbeats 4000000 in
theorem rvars_any (A : Option Addr) (n c : Nat) (l : List Prt) (B : Option Addr) (n2 d : Nat) (ts : List Tok) (w : World) (hn : n = l.length) (hn2 : n2 = ts.length) (hc : l.length ≤ c) (h : PartsAt w A l) (h2 : ToksAt w B ts) (hl : l.length ≤ 1000000) (hl2 : ts.length ≤ 1000000) :
    Calls Try.prog 71 #[.slice A n c, .slice B n2 d] w (SaysStrs (varsL l ts) w) := by
  subst hn hn2
  have hli : (l.length : Int) ≤ 1000000 := by omega
  have hli2 : (ts.length : Int) ≤ 1000000 := by omega
  obtain ⟨M, hM1, hM2, hM⟩ : ∃ M, M ≤ l.length ∧ M ≤ ts.length ∧ (l.length ≤ M ∨ ts.length ≤ M) := ⟨min l.length ts.length, by omega, by omega, by omega⟩
  have HM := Lib.hid hM
  have hMi : (M : Int) ≤ (l.length : Int) := by omega
  clear hM
  go_enter Try.func71, Try.ntmps71
  go_wp2
  go_loopw [5, 6] (fun s i wr => ∃ (k m : Nat) (A2 : Option Addr) (c2 : Nat), k ≤ M ∧ m ≤ k ∧ i = .int .i64 (k : Int) ∧ s = .slice A2 m c2 ∧ Hid (m = (varsTo l ts k).length) ∧ Hid (NewO w wr 9 1 A2 m c2 ((varsTo l ts k).map strV))) (fun _ i _ => M - (intOf i).toNat)
  case atStart => exact ⟨0, 0, none, 0, Nat.zero_le _, Nat.zero_le _, rfl, rfl, Lib.hid (by simp [varsTo, varsZ]), Lib.hid (NewO.start w 9 1)⟩
  case round =>
    obtain ⟨k, m, A2, c2, hk, hm, rfl, rfl, Hm, HN⟩ := hrel
    have Hb := Lib.hid HN.out.bel
    by_cases hlt : k < M
    · have hl1 : k < l.length := by omega
      have hl3 : k < ts.length := by omega
      obtain ⟨g, o, rfl, c0, c1⟩ := (h.ext Hb.out).at_ hl1
      obtain ⟨g2, o2, rfl, -, c3⟩ := (h2.ext Hb.out).at_ hl3
      have hki : (k : Int) < (l.length : Int) := by omega
      have hki2 : (k : Int) < (ts.length : Int) := by omega
      have hkM : (k : Int) < (M : Int) := by omega
      have hk0 : (0 : Int) ≤ (k : Int) := by omega
      have HS := Lib.hid (varsTo_succ l ts k hl1 hl3)
      have Hm1 : Hid (m + 1 ≤ maxLen) := Lib.hid (by unfold maxLen; omega)
      have Hm2 : Hid ((m + 1) * 16 ≤ 140737488355328) := Lib.hid (by omega)
      obtain ⟨Y, hY, -⟩ := str_hide l[k].text
      obtain ⟨Z, hZ, -⟩ := str_hide ts[k].text
      rw [hY] at c1
      rw [hZ] at c3
      have HZ := Lib.hid (strs_snoc (varsTo l ts k) ts[k].text hZ)
      clear hY hZ
      cases hA : l[k].any
      · rw [hA] at c0
        have HE : Hid (varsTo l ts (k + 1) = varsTo l ts k) := Lib.hid (by rw [HS.out, hA]; simp)
        clear hA
        go_wp2
        go_roundw
        case rel => exact ⟨k + 1, m, A2, c2, by omega, by omega, by go_num, rfl, Lib.hid (by rw [HE.out]; exact Hm.out), Lib.hid (by rw [HE.out]; exact HN.out.ext (by first | exact Below.refl _ _ | exact ext_alloc (Below.refl _ _) _))⟩
        case measure => simp [intOf]; omega
      · rw [hA] at c0
        have HE : Hid (varsTo l ts (k + 1) = varsTo l ts k ++ [ts[k].text]) := Lib.hid (by rw [HS.out, hA]; rfl)
        clear hA
        go_wp2_with (refine wpList_app_new rfl (.tmp 24) (.tmp 30) _ rfl _ _ 1 16 Try.underlying29 info_string rfl A2 m c2 _ HN.out (by repeat (first | exact Below.refl _ _ | refine ext_alloc ?_ _ | refine ext_drewN ?_ _)) rfl ⟨_, 0, none⟩ 1 [.string Z] rfl rfl (Rd.lit_at _ #[.string Z] 9 (by first | rfl | simp | exact (World.size_alloc _ _).symm)) (by intro u hu; simp at hu; subst hu; rfl) Hm1.out Hm2.out ?_; intro A7 c7 w7 hN7 hB7)
        have HN7 := Lib.hid hN7
        clear hN7 hB7
        go_wp2
        go_roundw
        case rel => exact ⟨k + 1, m + 1, A7, c7, by omega, by omega, by go_num, rfl, Lib.hid (by rw [HE.out, List.length_append, ← Hm.out]; rfl), Lib.hid (by rw [HE.out, HZ.out]; exact HN7.out)⟩
        case measure => simp [intOf]; omega
    · obtain rfl : k = M := by omega
      have hv := varsTo_all l ts _ HM.out
      have hw : NewS w wr A2 c2 (varsL l ts) := by unfold NewS; rw [← hv, ← Hm.out]; exact HN.out
      have HW := Lib.hid hw
      have HL : Hid ((varsL l ts).length = m) := Lib.hid (by rw [← hv]; exact Hm.out.symm)
      clear hw hv
      have HM2 := HM.out
      by_cases hx : k < l.length
      · have hxi : (k : Int) < (l.length : Int) := by omega
        have hxj : ¬ (k : Int) < (ts.length : Int) := by omega
        clear HM2
        go_wp2
        go_ret
        exact ⟨A2, c2, (by rw [HL.out]; rfl), HW.out⟩
      · have hxi : ¬ (k : Int) < (l.length : Int) := by omega
        clear HM2
        go_wp2
        go_ret
        exact ⟨A2, c2, (by rw [HL.out]; rfl), HW.out⟩
end Go.Proofs.Ytdghbdiapkelnaa

/-
  The map of places: keys of three cells. No statement of the seat is proved here.
-/
namespace Go.Proofs.Ytdghbdiapkelnaa
open Go Go.RowKit Go.Maps
set_option maxRecDepth 100000

theorem law_tkey : Keyed Try.prog 94 := Keyed.of_law (deep_law_laid (m := 5) (by kernel_rfl) (by omega) (of_decide_eq_true (by kernel_rfl)) (by kernel_rfl) (by kernel_rfl))
def keyV (c : Nat) (a b : List UInt8) : Value := .agg #[.int .i64 (c : Int), strV a, strV b]
def okKey (c : Nat) (a b : List UInt8) : Prop := c ≤ 1000000 ∧ a.length ≤ 140737488355328 ∧ b.length ≤ 140737488355328
theorem strV_size (a : List UInt8) : (⟨a.toArray⟩ : ByteArray).size = a.length := by simp [ByteArray.size]
theorem key_some {c : Nat} {a b : List UInt8} (h : okKey c a b) : ∃ kl, keyOf Try.prog 94 (keyV c a b) = some kl := by
  obtain ⟨h1, h2, h3⟩ := h
  have e1 : (Lit.int .i64 (c : Int)).wf = true := by
    have m1 : IntKind.i64.min = -9223372036854775808 := rfl
    have m2 : IntKind.i64.max = 9223372036854775807 := rfl
    simp only [Lit.wf, Bool.and_eq_true, decide_eq_true_eq]
    omega
  have e2 : (⟨a.toArray⟩ : ByteArray).size ≤ maxLen := by rw [strV_size]; unfold maxLen; omega
  have e3 : (⟨b.toArray⟩ : ByteArray).size ≤ maxLen := by rw [strV_size]; unfold maxLen; omega
  have hk : Try.prog.keyType 94 = true := by kernel_rfl
  have hd : ∃ d, Try.prog.types.size + 1 = d + 2 := ⟨Try.prog.types.size - 1, by have : 0 < Try.prog.types.size := of_decide_eq_true (by kernel_rfl); omega⟩
  obtain ⟨d, hd⟩ := hd
  have c1 : Try.prog.cellsOf 3 = 1 := by kernel_rfl
  have c2 : Try.prog.cellsOf 9 = 1 := by kernel_rfl
  have c3 : Try.prog.cellsOf 94 = 3 := by kernel_rfl
  refine ⟨.string (keyBytes [.int .i64 (c : Int), .string a, .string b]), ?_⟩
  unfold keyOf keyV
  simp only [Try.underlying94]
  rw [hk, hd]
  unfold Program.keyLits
  simp [Try.underlying94, Value.formed, Value.cells, strV, c1, c2, c3, Program.keyLits, Try.underlying3, Try.underlying9, e1, e2, e3]
/-- a key as a map's key -/
noncomputable def keyL (c : Nat) (a b : List UInt8) : Lit := (keyOf Try.prog 94 (keyV c a b)).getD (.bool false)
theorem keyL_of {c : Nat} {a b : List UInt8} (h : okKey c a b) : keyOf Try.prog 94 (keyV c a b) = some (keyL c a b) := by
  obtain ⟨kl, hk⟩ := key_some h
  unfold keyL
  rw [hk]
  rfl
theorem strV_injT {a b : List UInt8} (h : strV a = strV b) : a = b := by
  unfold strV at h
  injection h with h
  injection h with h
  have := congrArg Array.toList h
  simpa using this
theorem keyL_inj {c c' : Nat} {a b a' b' : List UInt8} (h : okKey c a b) (h' : okKey c' a' b') (he : keyL c a b = keyL c' a' b') : c = c' ∧ a = a' ∧ b = b' := by
  have h1 := keyL_of h
  have h2 := keyL_of h'
  rw [he] at h1
  have := law_tkey.inj h1 h2
  unfold keyV at this
  injection this with this
  have ht := congrArg Array.toList this
  simp only [List.cons.injEq, and_true] at ht
  obtain ⟨t1, t2, t3⟩ := ht
  injection t1 with _ t1
  exact ⟨by omega, strV_injT t2, strV_injT t3⟩
def okLf (x : Lf) : Prop := okKey x.count x.a x.b
noncomputable def litLf (x : Lf) : Lit := keyL x.count x.a x.b
/-- where the first k leaves stand -/
noncomputable def placeTo (lv : List Lf) : Nat → DataW Unit
  | 0 => .map []
  | k + 1 => (placeTo lv k).put (litLf (lv.getD k default)) (.lit (.int .i64 (k : Int)))
theorem placeTo_same {lv mv : List Lf} : ∀ k, (∀ j, j < k → litLf (lv.getD j default) = litLf (mv.getD j default)) → placeTo lv k = placeTo mv k
  | 0, _ => rfl
  | k + 1, h => by rw [placeTo, placeTo, placeTo_same k (fun j hj => h j (by omega)), h k (by omega)]
theorem placeTo_map (lv : List Lf) : ∀ k, IsMap (placeTo lv k)
  | 0 => isMap_empty
  | k + 1 => (placeTo_map lv k).put _ _
/-- no leaf has the key -/
theorem place_no {lv : List Lf} (hok : ∀ x ∈ lv, okLf x) {c : Nat} {a b : List UInt8} (hk : okKey c a b) : ∀ k, k ≤ lv.length → (∀ j (hj : j < lv.length), j < k → ¬ (lv[j].count = c ∧ lv[j].a = a ∧ lv[j].b = b)) → ∀ z, (placeTo lv k).atKey (keyL c a b) z = z
  | 0, _, _, _ => rfl
  | k + 1, hkl, h, z => by
    rw [placeTo, List.getD_eq_getElem?_getD, List.getElem?_eq_getElem (by omega), Option.getD_some]
    have hne : keyL c a b ≠ litLf lv[k] := fun he => by
      obtain ⟨h1, h2, h3⟩ := keyL_inj hk (hok _ (List.getElem_mem (by omega))) he
      exact h k (by omega) (by omega) ⟨h1.symm, h2.symm, h3.symm⟩
    rw [atKey_put_other hne]
    exact place_no hok hk k (by omega) (fun j hj hjk => h j hj (by omega)) z
/-- the leaf that has the key -/
theorem place_at {lv : List Lf} (hok : ∀ x ∈ lv, okLf x) {c : Nat} {a b : List UInt8} (hk : okKey c a b) {i : Nat} (hi : i < lv.length) (he : lv[i].count = c ∧ lv[i].a = a ∧ lv[i].b = b)
    (ha : ∀ j (hj : j < lv.length), i < j → ¬ (lv[j].count = c ∧ lv[j].a = a ∧ lv[j].b = b)) : ∀ k, k ≤ lv.length → i < k → ∀ z, (placeTo lv k).atKey (keyL c a b) z = .lit (.int .i64 (i : Int))
  | 0, _, h, _ => absurd h (by omega)
  | k + 1, hkl, h, z => by
    rw [placeTo, List.getD_eq_getElem?_getD, List.getElem?_eq_getElem (by omega), Option.getD_some]
    by_cases hik : k = i
    · subst hik
      have e : keyL c a b = litLf lv[k] := by unfold litLf; rw [he.1, he.2.1, he.2.2]
      rw [e]
      exact atKey_put_same (placeTo_map lv k) (law_tkey.key (keyL_of (hok _ (List.getElem_mem hi)))) _ _
    · have hne : keyL c a b ≠ litLf lv[k] := fun hx => by
        obtain ⟨h1, h2, h3⟩ := keyL_inj hk (hok _ (List.getElem_mem (by omega))) hx
        exact ha k (by omega) (by omega) ⟨h1.symm, h2.symm, h3.symm⟩
      rw [atKey_put_other hne]
      exact place_at hok hk hi he ha k (by omega) (by omega) z

abbrev ownsPlace (w : World) (b n : Nat) (D : DataW Unit) : Prop := w.ownsMap Try.prog 94 (plainElem Try.prog 3) b n D
theorem ownsPlace.ext {w w' : World} {b n : Nat} {D : DataW Unit} (h : ownsPlace w b n D) (hb : Below w.heap.size w w') : ownsPlace w' b n D := h.kept (row := none) ⟨hb.os, hb.tape, hb.output, hb.size, fun i hi _ => hb.block i hi⟩ (by simp)
/-- 'n, ok := m[k]' -/
theorem look_no {w : World} {b n : Nat} {D : DataW Unit} (h : ownsPlace w b n D) {c : Nat} {a b' : List UInt8} (hk : okKey c a b') (hn : ∀ z, D.atKey (keyL c a b') z = z) :
    (Instr.lookup 66 (.map (some b)) (keyV c a b') true).run Try.prog w = .ok (.tuple #[.int .i64 0, .bool false]) w := by
  obtain ⟨es, clock, hb, F, _, rfl⟩ := h
  have hz : (zeroValue 3).run Try.prog w = .ok (.int .i64 0) w := by kernel_rfl
  rcases Maps.fit_look true law_tkey Try.underlying66 hz hb F (keyL_of hk) with ⟨hrun, _, hat⟩ | ⟨e0, y, _, _, hrun, hRv, hat, _⟩
  · exact hrun
  · have h1 := hat (.lit (.bool true))
    have h2 := hat (.lit (.bool false))
    rw [hn] at h1 h2
    rw [← h2] at h1
    injection h1 with h1
    injection h1 with h1
    cases h1
theorem look_yes {w : World} {b n : Nat} {D : DataW Unit} (h : ownsPlace w b n D) {c : Nat} {a b' : List UInt8} (hk : okKey c a b') {v : Int} (hn : ∀ z, D.atKey (keyL c a b') z = .lit (.int .i64 v)) :
    (Instr.lookup 66 (.map (some b)) (keyV c a b') true).run Try.prog w = .ok (.tuple #[.int .i64 v, .bool true]) w := by
  obtain ⟨es, clock, hb, F, _, rfl⟩ := h
  have hz : (zeroValue 3).run Try.prog w = .ok (.int .i64 0) w := by kernel_rfl
  rcases Maps.fit_look true law_tkey Try.underlying66 hz hb F (keyL_of hk) with ⟨hrun, _, hat⟩ | ⟨e0, y, _, _, hrun, hRv, hat, _⟩
  · have h1 := hat (.lit (.bool true))
    rw [hn] at h1
    injection h1 with h1
    cases h1
  · obtain ⟨v', hv, hy, _⟩ := plainElem_int_inv Try.underlying3 hRv
    have h1 := hat (.lit (.bool true))
    rw [hn, hy] at h1
    injection h1 with h1
    injection h1 with _ h1
    rw [hv, ← h1] at hrun
    exact hrun
theorem look_nil' {w : World} {c : Nat} {a b' : List UInt8} (hk : okKey c a b') :
    (Instr.lookup 66 (.map none) (keyV c a b') true).run Try.prog w = .ok (.tuple #[.int .i64 0, .bool false]) w :=
  Maps.look_nil true law_tkey Try.underlying66 (by kernel_rfl) (keyL_of hk)
end Go.Proofs.Ytdghbdiapkelnaa

/-
  A tree in memory. No statement of the seat is proved here.
-/
namespace Go.Proofs.Ytdghbdiapkelnaa
open Go Go.RowKit Go.Maps
set_option maxRecDepth 100000

theorem RowO.ne_rowT {w : World} {e e' : TypeId} {sz sz' : Nat} {A B : Option Addr} {m m' c c' : Nat} {xs ys : List Value} (h : RowO w e sz A m c xs) (h' : RowO w e' sz' B m' c' ys) (ht : e ≠ e') : ∀ k, inA A k → ¬ inA B k := fun k hk hk' => by
  rcases h'.2 with ⟨rfl, _⟩ | ⟨g', off, cs', rfl, _, _, hb', _⟩
  · exact inA_none _ hk'
  · rw [inA_some] at hk'
    subst hk'
    exact h.ne_blk hb' ht hk
theorem RowO.max {w : World} {e : TypeId} {sz : Nat} {A : Option Addr} {m c : Nat} {xs : List Value} (h : RowO w e sz A m c xs) : c ≤ maxLen := by
  rcases h.2 with ⟨_, _, h3⟩ | ⟨_, _, _, _, _, h3, _⟩
  · rw [h3]; exact Nat.zero_le _
  · exact h3
theorem RowO.nil_cap {w : World} {e : TypeId} {sz : Nat} {A : Option Addr} {m c : Nat} {xs : List Value} (h : RowO w e sz A m c xs) (hA : A = none) : c = 0 := by
  rcases h.2 with ⟨_, _, h3⟩ | ⟨g, off, cs, e1, _⟩
  · exact h3
  · rw [hA] at e1; cases e1
def natV (n : Nat) : Value := .int .i64 (n : Int)
def MapAt (w : World) (M : Option Nat) (lv : List Lf) : Prop := (M = none ∧ lv = []) ∨ ∃ b, M = some b ∧ ownsPlace w b lv.length (placeTo lv lv.length)
structure TrAt (S : Nat → Prop) (w : World) (g : Nat) (t : Tr) (A : Option Addr) (c : Nat) (xs : List Value) (R : Option Addr) (d : Nat) (ys : List Value) (M : Option Nat) : Prop where
  blk : Blk w g 70 #[.slice A t.ts.length c, .slice R t.lv.length d, .map M]
  own : RowO w 39 1 A t.ts.length c xs
  rows : RowO w 96 4 R t.lv.length d ys
  map : MapAt w M t.lv
  tsAt : ∀ j (h : j < t.ts.length), ∃ B e, xs[j]? = some (.slice B t.ts[j].length e) ∧ RowO w 72 2 B t.ts[j].length e (cellsP t.ts[j]) ∧ ∀ k, inA B k → S k
  lvAt : ∀ j (h : j < t.lv.length), ∃ G e, ys[j * 4]? = some (natV t.lv[j].count) ∧ ys[j * 4 + 1]? = some (strV t.lv[j].a) ∧ ys[j * 4 + 2]? = some (strV t.lv[j].b) ∧ ys[j * 4 + 3]? = some (.slice G t.lv[j].gr.length e) ∧ RowO w 3 1 G t.lv[j].gr.length e (t.lv[j].gr.map natV) ∧ ∀ k, inA G k → S k
  apart : ∀ i j G G' n n' e e', i < j → ys[i * 4 + 3]? = some (.slice G n e) → ys[j * 4 + 3]? = some (.slice G' n' e') → ∀ k, inA G k → ¬ inA G' k
  okl : ∀ x ∈ t.lv, okLf x
  sg : S g
  sA : ∀ k, inA A k → S k
  sR : ∀ k, inA R k → S k
  sM : ∀ b, M = some b → S b
  lt : ∀ k, S k → k < w.heap.size
/-- a tree at a block; all that it owns lies in S -/
def TrIn (S : Nat → Prop) (w : World) (g : Nat) (t : Tr) : Prop := ∃ A c xs R d ys M, TrAt S w g t A c xs R d ys M
theorem ownsPlace.only {S : Nat → Prop} {w w' : World} {b n : Nat} {D : DataW Unit} (h : ownsPlace w b n D) (ho : Only S w w') (hn : ¬ S b) : ownsPlace w' b n D := by
  obtain ⟨es, clock, hb, F, hs, hD⟩ := h
  exact ⟨es, clock, (ho.block b (by
    rcases Nat.lt_or_ge b w.heap.size with hl | hl
    · exact hl
    · rw [Array.getElem?_eq_none hl] at hb; cases hb) hn).trans hb, F, hs, hD⟩
theorem ownsPlace.lt' {w : World} {b n : Nat} {D : DataW Unit} (h : ownsPlace w b n D) : b < w.heap.size := World.ownsMap.lt h
theorem MapAt.only {S : Nat → Prop} {w w' : World} {M : Option Nat} {lv : List Lf} (h : MapAt w M lv) (ho : Only S w w') (hn : ∀ b, M = some b → ¬ S b) : MapAt w' M lv := by
  rcases h with h | ⟨b, e, h⟩
  · exact .inl h
  · exact .inr ⟨b, e, h.only ho (hn b e)⟩
section
variable {S T : Nat → Prop} {w w' : World} {g : Nat} {t : Tr} {A R : Option Addr} {c d : Nat} {xs ys : List Value} {M : Option Nat}
theorem TrAt.only (h : TrAt S w g t A c xs R d ys M) (ho : Only T w w') (hn : ∀ k, S k → ¬ T k) : TrAt S w' g t A c xs R d ys M where
  blk := h.blk.only ho (hn _ h.sg)
  own := h.own.only ho (fun k hk => hn k (h.sA k hk))
  rows := h.rows.only ho (fun k hk => hn k (h.sR k hk))
  map := h.map.only ho (fun b e => hn b (h.sM b e))
  tsAt := fun j hj => by
    obtain ⟨B, e, h1, h2, h3⟩ := h.tsAt j hj
    exact ⟨B, e, h1, h2.only ho (fun k hk => hn k (h3 k hk)), h3⟩
  lvAt := fun j hj => by
    obtain ⟨G, e, h1, h2, h3, h4, h5, h6⟩ := h.lvAt j hj
    exact ⟨G, e, h1, h2, h3, h4, h5.only ho (fun k hk => hn k (h6 k hk)), h6⟩
  apart := h.apart
  okl := h.okl
  sg := h.sg
  sA := h.sA
  sR := h.sR
  sM := h.sM
  lt := fun k hk => Nat.lt_of_lt_of_le (h.lt k hk) ho.size
theorem TrAt.ext (h : TrAt S w g t A c xs R d ys M) (hb : Below w.heap.size w w') : TrAt S w' g t A c xs R d ys M := h.only (Only.of_ext (S := fun _ => False) hb) (fun _ _ h => h)
theorem TrIn.only (h : TrIn S w g t) (ho : Only T w w') (hn : ∀ k, S k → ¬ T k) : TrIn S w' g t := by
  obtain ⟨A, c, xs, R, d, ys, M, h⟩ := h
  exact ⟨A, c, xs, R, d, ys, M, h.only ho hn⟩
theorem TrIn.ext (h : TrIn S w g t) (hb : Below w.heap.size w w') : TrIn S w' g t := h.only (Only.of_ext (S := fun _ => False) hb) (fun _ _ h => h)
theorem TrAt.wider (h : TrAt S w g t A c xs R d ys M) (hs : ∀ k, S k → T k) (hl : ∀ k, T k → k < w.heap.size) : TrAt T w g t A c xs R d ys M where
  blk := h.blk
  own := h.own
  rows := h.rows
  map := h.map
  tsAt := fun j hj => by
    obtain ⟨B, e, h1, h2, h3⟩ := h.tsAt j hj
    exact ⟨B, e, h1, h2, fun k hk => hs k (h3 k hk)⟩
  lvAt := fun j hj => by
    obtain ⟨G, e, h1, h2, h3, h4, h5, h6⟩ := h.lvAt j hj
    exact ⟨G, e, h1, h2, h3, h4, h5, fun k hk => hs k (h6 k hk)⟩
  apart := h.apart
  okl := h.okl
  sg := hs _ h.sg
  sA := fun k hk => hs k (h.sA k hk)
  sR := fun k hk => hs k (h.sR k hk)
  sM := fun b e => hs b (h.sM b e)
  lt := hl
/-- a leaf's cells -/
theorem TrAt.leaf (h : TrAt S w g t A c xs R d ys M) {j : Nat} (hj : j < t.lv.length) : ∃ gR oR G e, R = some ⟨gR, oR, none⟩ ∧ w.cell? ⟨gR, oR + j * 4, none⟩ = some (natV t.lv[j].count) ∧ w.cell? ⟨gR, oR + j * 4 + 1, none⟩ = some (strV t.lv[j].a) ∧ w.cell? ⟨gR, oR + j * 4 + 2, none⟩ = some (strV t.lv[j].b) ∧
    w.cell? ⟨gR, oR + j * 4 + 3, none⟩ = some (.slice G t.lv[j].gr.length e) ∧ ys[j * 4 + 3]? = some (.slice G t.lv[j].gr.length e) ∧ RowO w 3 1 G t.lv[j].gr.length e (t.lv[j].gr.map natV) ∧ ∀ k, inA G k → S k := by
  obtain ⟨G, e, h1, h2, h3, h4, h5, h6⟩ := h.lvAt j hj
  obtain ⟨gR, oR, hR⟩ := h.rows.addr (by omega)
  have hrd := h.rows.rd
  have key : ∀ i u, ys[i]? = some u → w.cell? ⟨gR, oR + i, none⟩ = some u := fun i u hu => by
    obtain ⟨ad, ea, hc⟩ := hrd i u hu
    rw [hR] at ea
    injection ea with ea
    rw [← ea, Addr.add_mid] at hc
    exact hc
  exact ⟨gR, oR, G, e, hR, key _ _ h1, by have := key _ _ h2; rwa [← Nat.add_assoc] at this, by have := key _ _ h3; rwa [← Nat.add_assoc] at this, by have := key _ _ h4; rwa [← Nat.add_assoc] at this, h4, h5, h6⟩
/-- a template's cell and its parts -/
theorem TrAt.tmp (h : TrAt S w g t A c xs R d ys M) {j : Nat} (hj : j < t.ts.length) : ∃ gA oA B e, A = some ⟨gA, oA, none⟩ ∧ w.cell? ⟨gA, oA + j, none⟩ = some (.slice B t.ts[j].length e) ∧ RowO w 72 2 B t.ts[j].length e (cellsP t.ts[j]) ∧ ∀ k, inA B k → S k := by
  obtain ⟨B, e, h1, h2, h3⟩ := h.tsAt j hj
  obtain ⟨gA, oA, hA⟩ := h.own.addr (by omega)
  obtain ⟨ad, ea, hc⟩ := h.own.rd j _ h1
  rw [hA] at ea
  injection ea with ea
  rw [← ea, Addr.add_mid] at hc
  exact ⟨gA, oA, B, e, hA, hc, h2, h3⟩
end
theorem parts_row {w : World} {B : Option Addr} {n e : Nat} {l : List Prt} (h : RowO w 72 2 B n e (cellsP l)) : PartsAt w B l := ⟨h.rd, fun _ => h.flat⟩
end Go.Proofs.Ytdghbdiapkelnaa

/-
  A tree, in a decoder's block. No statement of the seat is proved here.
-/
namespace Go.Proofs.Ytdghbdiapkelnaa
open Go Go.RowKit Go.Maps
set_option maxRecDepth 100000

structure TdAt (rp : Value) (us : List Value) (S : Nat → Prop) (w : World) (g : Nat) (t : Tr) (A : Option Addr) (c : Nat) (xs : List Value) (R : Option Addr) (d : Nat) (ys : List Value) (M : Option Nat) : Prop where
  blk : Blk w g 102 (rp :: .slice A t.ts.length c :: .slice R t.lv.length d :: .map M :: us).toArray
  own : RowO w 39 1 A t.ts.length c xs
  rows : RowO w 96 4 R t.lv.length d ys
  map : MapAt w M t.lv
  tsAt : ∀ j (h : j < t.ts.length), ∃ B e, xs[j]? = some (.slice B t.ts[j].length e) ∧ RowO w 72 2 B t.ts[j].length e (cellsP t.ts[j]) ∧ ∀ k, inA B k → S k
  lvAt : ∀ j (h : j < t.lv.length), ∃ G e, ys[j * 4]? = some (natV t.lv[j].count) ∧ ys[j * 4 + 1]? = some (strV t.lv[j].a) ∧ ys[j * 4 + 2]? = some (strV t.lv[j].b) ∧ ys[j * 4 + 3]? = some (.slice G t.lv[j].gr.length e) ∧ RowO w 3 1 G t.lv[j].gr.length e (t.lv[j].gr.map natV) ∧ ∀ k, inA G k → S k
  apart : ∀ i j G G' n n' e e', i < j → ys[i * 4 + 3]? = some (.slice G n e) → ys[j * 4 + 3]? = some (.slice G' n' e') → ∀ k, inA G k → ¬ inA G' k
  okl : ∀ x ∈ t.lv, okLf x
  sg : S g
  sA : ∀ k, inA A k → S k
  sR : ∀ k, inA R k → S k
  sM : ∀ b, M = some b → S b
  lt : ∀ k, S k → k < w.heap.size
/-- a tree at a block; all that it owns lies in S -/
def TdIn (rp : Value) (us : List Value) (S : Nat → Prop) (w : World) (g : Nat) (t : Tr) : Prop := ∃ A c xs R d ys M, TdAt rp us S w g t A c xs R d ys M
section
variable {S T : Nat → Prop} {w w' : World} {g : Nat} {t : Tr} {A R : Option Addr} {c d : Nat} {xs ys : List Value} {M : Option Nat} {rp : Value} {us : List Value}
theorem TdAt.only (h : TdAt rp us S w g t A c xs R d ys M) (ho : Only T w w') (hn : ∀ k, S k → ¬ T k) : TdAt rp us S w' g t A c xs R d ys M where
  blk := h.blk.only ho (hn _ h.sg)
  own := h.own.only ho (fun k hk => hn k (h.sA k hk))
  rows := h.rows.only ho (fun k hk => hn k (h.sR k hk))
  map := h.map.only ho (fun b e => hn b (h.sM b e))
  tsAt := fun j hj => by
    obtain ⟨B, e, h1, h2, h3⟩ := h.tsAt j hj
    exact ⟨B, e, h1, h2.only ho (fun k hk => hn k (h3 k hk)), h3⟩
  lvAt := fun j hj => by
    obtain ⟨G, e, h1, h2, h3, h4, h5, h6⟩ := h.lvAt j hj
    exact ⟨G, e, h1, h2, h3, h4, h5.only ho (fun k hk => hn k (h6 k hk)), h6⟩
  apart := h.apart
  okl := h.okl
  sg := h.sg
  sA := h.sA
  sR := h.sR
  sM := h.sM
  lt := fun k hk => Nat.lt_of_lt_of_le (h.lt k hk) ho.size
theorem TdAt.ext (h : TdAt rp us S w g t A c xs R d ys M) (hb : Below w.heap.size w w') : TdAt rp us S w' g t A c xs R d ys M := h.only (Only.of_ext (S := fun _ => False) hb) (fun _ _ h => h)
theorem TdIn.only (h : TdIn rp us S w g t) (ho : Only T w w') (hn : ∀ k, S k → ¬ T k) : TdIn rp us S w' g t := by
  obtain ⟨A, c, xs, R, d, ys, M, h⟩ := h
  exact ⟨A, c, xs, R, d, ys, M, h.only ho hn⟩
theorem TdIn.ext (h : TdIn rp us S w g t) (hb : Below w.heap.size w w') : TdIn rp us S w' g t := h.only (Only.of_ext (S := fun _ => False) hb) (fun _ _ h => h)
theorem TdAt.wider (h : TdAt rp us S w g t A c xs R d ys M) (hs : ∀ k, S k → T k) (hl : ∀ k, T k → k < w.heap.size) : TdAt rp us T w g t A c xs R d ys M where
  blk := h.blk
  own := h.own
  rows := h.rows
  map := h.map
  tsAt := fun j hj => by
    obtain ⟨B, e, h1, h2, h3⟩ := h.tsAt j hj
    exact ⟨B, e, h1, h2, fun k hk => hs k (h3 k hk)⟩
  lvAt := fun j hj => by
    obtain ⟨G, e, h1, h2, h3, h4, h5, h6⟩ := h.lvAt j hj
    exact ⟨G, e, h1, h2, h3, h4, h5, fun k hk => hs k (h6 k hk)⟩
  apart := h.apart
  okl := h.okl
  sg := hs _ h.sg
  sA := fun k hk => hs k (h.sA k hk)
  sR := fun k hk => hs k (h.sR k hk)
  sM := fun b e => hs b (h.sM b e)
  lt := hl
/-- a leaf's cells -/
theorem TdAt.leaf (h : TdAt rp us S w g t A c xs R d ys M) {j : Nat} (hj : j < t.lv.length) : ∃ gR oR G e, R = some ⟨gR, oR, none⟩ ∧ w.cell? ⟨gR, oR + j * 4, none⟩ = some (natV t.lv[j].count) ∧ w.cell? ⟨gR, oR + j * 4 + 1, none⟩ = some (strV t.lv[j].a) ∧ w.cell? ⟨gR, oR + j * 4 + 2, none⟩ = some (strV t.lv[j].b) ∧
    w.cell? ⟨gR, oR + j * 4 + 3, none⟩ = some (.slice G t.lv[j].gr.length e) ∧ ys[j * 4 + 3]? = some (.slice G t.lv[j].gr.length e) ∧ RowO w 3 1 G t.lv[j].gr.length e (t.lv[j].gr.map natV) ∧ ∀ k, inA G k → S k := by
  obtain ⟨G, e, h1, h2, h3, h4, h5, h6⟩ := h.lvAt j hj
  obtain ⟨gR, oR, hR⟩ := h.rows.addr (by omega)
  have hrd := h.rows.rd
  have key : ∀ i u, ys[i]? = some u → w.cell? ⟨gR, oR + i, none⟩ = some u := fun i u hu => by
    obtain ⟨ad, ea, hc⟩ := hrd i u hu
    rw [hR] at ea
    injection ea with ea
    rw [← ea, Addr.add_mid] at hc
    exact hc
  exact ⟨gR, oR, G, e, hR, key _ _ h1, by have := key _ _ h2; rwa [← Nat.add_assoc] at this, by have := key _ _ h3; rwa [← Nat.add_assoc] at this, by have := key _ _ h4; rwa [← Nat.add_assoc] at this, h4, h5, h6⟩
/-- a template's cell and its parts -/
theorem TdAt.tmp (h : TdAt rp us S w g t A c xs R d ys M) {j : Nat} (hj : j < t.ts.length) : ∃ gA oA B e, A = some ⟨gA, oA, none⟩ ∧ w.cell? ⟨gA, oA + j, none⟩ = some (.slice B t.ts[j].length e) ∧ RowO w 72 2 B t.ts[j].length e (cellsP t.ts[j]) ∧ ∀ k, inA B k → S k := by
  obtain ⟨B, e, h1, h2, h3⟩ := h.tsAt j hj
  obtain ⟨gA, oA, hA⟩ := h.own.addr (by omega)
  obtain ⟨ad, ea, hc⟩ := h.own.rd j _ h1
  rw [hA] at ea
  injection ea with ea
  rw [← ea, Addr.add_mid] at hc
  exact ⟨gA, oA, B, e, hA, hc, h2, h3⟩
end
end Go.Proofs.Ytdghbdiapkelnaa

/-
  Keys; a number's template; how many there are. No statement of the seat is proved here.
-/
namespace Go.Proofs.Ytdghbdiapkelnaa
open Go Go.RowKit Go.Maps
set_option maxRecDepth 100000

theorem keyB_one {l : List Tok} (h : l.length ≤ 1) : keyB l = [] := by
  match l, h with
  | [], _ => rfl
  | [_], _ => rfl
  | _ :: _ :: r, h => simp at h
def tokV (t : Tok) : Value := .agg #[.int .i64 t.kind, strV t.text]
theorem keytext_any (t : Tok) (w : World) : Calls Try.prog 88 #[tokV t] w fun e w' => e = .returned (strV (keyT t)) ∧ Below w.heap.size w w' := by
  obtain ⟨k, x⟩ := t
  unfold tokV keyT
  dsimp only
  by_cases h6 : k = 6
  · subst h6
    rw [if_pos (by omega)]
    unfold strV
    go_enter Try.func88, Try.ntmps88
    go_wp2
    go_ret
    exact ⟨rfl, ext_alloc (Below.refl _ _) _⟩
  by_cases h7 : k = 7
  · subst h7
    rw [if_pos (by omega)]
    unfold strV
    go_enter Try.func88, Try.ntmps88
    go_wp2
    go_ret
    exact ⟨rfl, ext_alloc (Below.refl _ _) _⟩
  by_cases h8 : k = 8
  · subst h8
    rw [if_pos (by omega)]
    unfold strV
    go_enter Try.func88, Try.ntmps88
    go_wp2
    go_ret
    exact ⟨rfl, ext_alloc (Below.refl _ _) _⟩
  have d6 : (k == 6) = false := beq_eq_false_iff_ne.2 h6
  have d7 : (k == 7) = false := beq_eq_false_iff_ne.2 h7
  have d8 : (k == 8) = false := beq_eq_false_iff_ne.2 h8
  rw [if_neg (by omega)]
  unfold strV
  go_enter Try.func88, Try.ntmps88
  go_wp2
  go_ret
  exact ⟨rfl, ext_alloc (Below.refl _ _) _⟩

set_option maxHeartbeats 4000000 in
theorem keyof_any (B : Option Addr) (d : Nat) (ts : List Tok) (w : World) (h : ToksAt w B ts) (h1 : 1 ≤ ts.length) (h2 : ts.length ≤ 64) :
    Calls Try.prog 63 #[.slice B ts.length d] w fun e w' => e = .returned (keyV ts.length (keyA ts) (keyB ts)) ∧ Below w.heap.size w w' := by
  obtain ⟨w0, hw0⟩ : ∃ w0, w0 = w.alloc (.cells #[.int .i64 0, .string ⟨#[]⟩, .string ⟨#[]⟩] 94) := ⟨_, rfl⟩
  have hb0 : Below w.heap.size w w0 := by rw [hw0]; exact ext_alloc (Below.refl _ _) _
  have HB0 : Hid (Blk w0 w.heap.size 94 #[.int .i64 0, .string ⟨#[]⟩, .string ⟨#[]⟩]) := Lib.hid (by rw [hw0]; exact Blk.new _ _ _)
  have hli : (ts.length : Int) ≤ 64 := by omega
  have hl1 : (1 : Int) ≤ (ts.length : Int) := by omega
  have hl0 : (0 : Int) < (ts.length : Int) := by omega
  obtain ⟨g, o, rfl, x0, x1⟩ := (h.ext hb0).at_ (k := 0) (by omega)
  have HK0 := Lib.hid (fun W => keytext_any ts[0] W)
  have HA : Hid (keyT ts[0] = keyA ts) := Lib.hid (by
    match ts, h1 with
    | a :: r, _ => rfl)
  have H := Lib.hid h
  have Hb0 := Lib.hid hb0
  have Hw0 := Lib.hid hw0
  rw [hw0] at x0 x1
  rw [Nat.zero_mul, Nat.add_zero] at x0 x1
  unfold tokV at HK0
  obtain ⟨Z, hZ⟩ : ∃ Z : ByteArray, (⟨ts[0].text.toArray⟩ : ByteArray) = Z := ⟨_, rfl⟩
  unfold strV at x1 HK0
  rw [hZ] at x1 HK0
  rw [HA.out] at HK0
  generalize ts[0].kind = k0 at *
  clear hb0 hw0 h hZ
  unfold keyV
  obtain ⟨KA, hKA⟩ : ∃ K : ByteArray, (⟨(keyA ts).toArray⟩ : ByteArray) = K := ⟨_, rfl⟩
  rw [hKA] at HK0
  have HKA : Hid (strV (keyA ts) = .string KA) := Lib.hid (by unfold strV; rw [hKA])
  clear hKA
  go_enter Try.func63, Try.ntmps63
  go_wp2_with fail
  rw [← Hw0.out]
  refine (HK0.out w0).mono ?_
  rintro e w1 ⟨rfl, hb1⟩
  obtain ⟨w2, hw2⟩ : ∃ w2, w2 = w1.alloc (.cells #[.int .i64 (ts.length : Int), .string KA, .string ⟨#[]⟩] 94) := ⟨_, rfl⟩
  have hb12 : Below w1.heap.size w1 w2 := by rw [hw2]; exact ext_alloc (Below.refl _ _) _
  have HB2 : Hid (Blk w2 w1.heap.size 94 #[.int .i64 (ts.length : Int), .string KA, .string ⟨#[]⟩]) := Lib.hid (by rw [hw2]; exact Blk.new _ _ _)
  have HR2 := Lib.hid ((HB0.out.ext hb1).ext hb12)
  have Hb2 := Lib.hid (ext_trans hb1 hb12)
  have HSz : Hid (w.heap.size ≤ w1.heap.size) := Lib.hid (by have := (HB0.out.ext hb1).lt; omega)
  have Hne : Hid (w.heap.size ≠ w1.heap.size) := Lib.hid (by have := (HB0.out.ext hb1).lt; omega)
  have Hw2 := Lib.hid hw2
  by_cases h2l : 1 < ts.length
  · have h2i : (1 : Int) < (ts.length : Int) := by omega
    obtain ⟨g', o', e1, y0, y1⟩ := (H.out.ext (ext_trans Hb0.out Hb2.out)).at_ (k := 1) h2l
    injection e1 with e1
    injection e1 with e1 e2
    subst e1 e2
    have HK1 := Lib.hid (fun W => keytext_any ts[1] W)
    have HBb : Hid (keyT ts[1] = keyB ts) := Lib.hid (by
      match ts, h2l with
      | a :: b :: r, _ => rfl)
    rw [hw2] at y0 y1
    rw [Nat.one_mul] at y0 y1
    unfold tokV at HK1
    obtain ⟨Y, hY⟩ : ∃ Z : ByteArray, (⟨ts[1].text.toArray⟩ : ByteArray) = Z := ⟨_, rfl⟩
    unfold strV at y1 HK1
    rw [hY] at y1 HK1
    rw [HBb.out] at HK1
    generalize ts[1].kind = k1 at *
    obtain ⟨KB, hKB⟩ : ∃ K : ByteArray, (⟨(keyB ts).toArray⟩ : ByteArray) = K := ⟨_, rfl⟩
    rw [hKB] at HK1
    have HKB : Hid (strV (keyB ts) = .string KB) := Lib.hid (by unfold strV; rw [hKB])
    clear hKB hY hb1 hb12 hw2
    go_wp2_with fail
    rw [← Hw2.out]
    refine (HK1.out w2).mono ?_
    rintro e w3 ⟨rfl, hb3⟩
    have hB3 := HB2.out.ext hb3
    have hR3 := HR2.out.ext hb3
    have z0 := hB3.cell 0
    have z1 := hB3.cell 1
    have z2 := hB3.cell 2
    have f2 := hB3.free 2
    have hB4 := hB3.put 2 (.string KB)
    have s0 := hB4.cell 0
    have s1 := hB4.cell 1
    have s2 := hB4.cell 2
    have hR4 := hR3.far (p := ⟨w1.heap.size, 2, none⟩) Hne.out (.string KB)
    obtain ⟨w4, hw4⟩ : ∃ W, W = w3.setCell ⟨w1.heap.size, 2, none⟩ (.string KB) := ⟨_, rfl⟩
    rw [← hw4] at s0 s1 s2 hR4
    have q0 := hR4.cell 0
    have q1 := (hR4.put 0 (.int .i64 (ts.length : Int))).cell 1
    have q2 := ((hR4.put 0 (.int .i64 (ts.length : Int))).put 1 (.string KA)).cell 2
    have u0 := hR4.free 0
    have u1 := (hR4.put 0 (.int .i64 (ts.length : Int))).free 1
    have u2 := ((hR4.put 0 (.int .i64 (ts.length : Int))).put 1 (.string KA)).free 2
    have hRf := ((hR4.put 0 (.int .i64 (ts.length : Int))).put 1 (.string KA)).put 2 (.string KB)
    have r0 := hRf.cell 0
    have r1 := hRf.cell 1
    have r2 := hRf.cell 2
    have HBl : Hid (Below w.heap.size w (((w4.setCell ⟨w.heap.size, 0, none⟩ (.int .i64 (ts.length : Int))).setCell ⟨w.heap.size, 1, none⟩ (.string KA)).setCell ⟨w.heap.size, 2, none⟩ (.string KB))) := Lib.hid (by
      have hb4 : Below w.heap.size w w4 := by rw [hw4]; exact (ext_trans (ext_trans Hb0.out Hb2.out) hb3).setCell HSz.out _
      exact ((hb4.setCell (Nat.le_refl _) _).setCell (Nat.le_refl _) _).setCell (Nat.le_refl _) _)
    simp only [List.getElem?_toArray, List.setIfInBounds_toArray, List.set_cons_zero, List.set_cons_succ, List.getElem?_cons_zero, List.getElem?_cons_succ] at z0 z1 z2 s0 s1 s2 q0 q1 q2 r0 r1 r2
    rw [hw4] at s0 s1 s2 q0 q1 q2 u0 u1 u2 r0 r1 r2
    have Hw4 := Lib.hid hw4
    clear hB3 hR3 hB4 hR4 hRf hb3 hw4 y0 y1 x0 x1
    go_wp2
    refine bodyPost_ret (v := .agg #[.int .i64 (ts.length : Int), .string KA, .string KB]) (by simp [results, Try.results63, go_sem, r0, r1, r2]) rfl ?_
    rw [← Hw4.out]
    exact ⟨by rw [HKA.out, HKB.out], HBl.out⟩
  · have h2i : ¬ (1 : Int) < (ts.length : Int) := by omega
    have HBb : Hid (strV (keyB ts) = .string ⟨#[]⟩) := Lib.hid (by rw [keyB_one (by omega)]; rfl)
    have hR3 := HR2.out
    have s0 := HB2.out.cell 0
    have s1 := HB2.out.cell 1
    have s2 := HB2.out.cell 2
    have q0 := hR3.cell 0
    have q1 := (hR3.put 0 (.int .i64 (ts.length : Int))).cell 1
    have q2 := ((hR3.put 0 (.int .i64 (ts.length : Int))).put 1 (.string KA)).cell 2
    have u0 := hR3.free 0
    have u1 := (hR3.put 0 (.int .i64 (ts.length : Int))).free 1
    have u2 := ((hR3.put 0 (.int .i64 (ts.length : Int))).put 1 (.string KA)).free 2
    have hRf := ((hR3.put 0 (.int .i64 (ts.length : Int))).put 1 (.string KA)).put 2 (.string ⟨#[]⟩)
    have r0 := hRf.cell 0
    have r1 := hRf.cell 1
    have r2 := hRf.cell 2
    have HBl : Hid (Below w.heap.size w (((w2.setCell ⟨w.heap.size, 0, none⟩ (.int .i64 (ts.length : Int))).setCell ⟨w.heap.size, 1, none⟩ (.string KA)).setCell ⟨w.heap.size, 2, none⟩ (.string ⟨#[]⟩))) := Lib.hid (((ext_trans Hb0.out Hb2.out).setCell (Nat.le_refl _) _ |>.setCell (Nat.le_refl _) _).setCell (Nat.le_refl _) _)
    simp only [List.getElem?_toArray, List.setIfInBounds_toArray, List.set_cons_zero, List.set_cons_succ, List.getElem?_cons_zero, List.getElem?_cons_succ] at s0 s1 s2 q0 q1 q2 r0 r1 r2
    rw [hw2] at s0 s1 s2 q0 q1 q2 u0 u1 u2
    clear hR3 hRf hb1 hb12 hw2 x0 x1
    go_wp2
    rw [← Hw2.out]
    refine bodyPost_ret (v := .agg #[.int .i64 (ts.length : Int), .string KA, .string ⟨#[]⟩]) (by simp [results, Try.results63, go_sem, r0, r1, r2]) rfl ?_
    exact ⟨by rw [HKA.out, HBb.out], by first | exact HBl.out | (rw [Hw2.out]; exact HBl.out)⟩

section
variable {S : Nat → Prop} {w : World} {g : Nat} {t : Tr} {A R : Option Addr} {c d : Nat} {xs ys : List Value} {M : Option Nat}
theorem count_any (h : TrAt S w g t A c xs R d ys M) (hi : t.ts.length ≤ 1000000) : Calls Try.prog 45 #[.pointer (some ⟨g, 0, none⟩)] w fun e w' => e = .returned (.int .i64 ((t.ts.length : Int) + 1)) ∧ w' = w := by
  have x0 := h.blk.cell 0
  simp only [List.getElem?_toArray, List.getElem?_cons_zero, List.getElem?_cons_succ] at x0
  have hii : (t.ts.length : Int) ≤ 1000000 := by omega
  clear h hi
  go_enter Try.func45, Try.ntmps45
  go_wp2
  go_ret
  exact ⟨rfl, rfl⟩
theorem full_any (h : TrAt S w g t A c xs R d ys M) (hi : t.ts.length ≤ 1000000) : Calls Try.prog 66 #[.pointer (some ⟨g, 0, none⟩)] w fun e w' => e = .returned (.bool (fullT t)) ∧ w' = w := by
  have HC := Lib.hid (count_any h hi)
  have hf : fullT t = decide (64 ≤ (t.ts.length : Int) + 1) := by
    unfold fullT
    by_cases h5 : 63 ≤ t.ts.length
    · rw [decide_eq_true h5, decide_eq_true (by omega)]
    · rw [decide_eq_false h5, decide_eq_false (by omega)]
  rw [hf]
  clear h hi hf
  go_enter Try.func66, Try.ntmps66
  go_wp2_with fail
  refine HC.out.mono ?_
  rintro e w' ⟨rfl, rfl⟩
  go_wp2
  go_ret
  exact ⟨rfl, rfl⟩
set_option maxHeartbeats 4000000 in
theorem at_any (h : TrAt S w g t A c xs R d ys M) (hi : t.ts.length ≤ 1000000) {id : Nat} (hid : id ≤ t.ts.length) : Calls Try.prog 35 #[.pointer (some ⟨g, 0, none⟩), .int .i64 (id : Int)] w fun e w' => ∃ B e', e = .returned (.slice B (tmpl t id).length e') ∧ PartsAt w' B (tmpl t id) ∧ (tmpl t id).length ≤ e' ∧ Below w.heap.size w w' := by
  by_cases h0 : id = 0
  · subst h0
    have ht : tmpl t 0 = [dot] := rfl
    rw [ht]
    clear h hi hid ht
    go_enter Try.func35, Try.ntmps35
    go_wp2
    go_ret
    refine ⟨_, _, rfl, ⟨Rd.lit _ #[.bool true, .string ⟨#[]⟩] _, fun _ ad e => ?_⟩, Nat.le_refl _, ext_alloc (Below.refl _ _) _⟩
    injection e with e
    exact ⟨_, _, e.symm⟩
  · obtain ⟨j, rfl⟩ : ∃ j, id = j + 1 := ⟨id - 1, by omega⟩
    obtain ⟨gA, oA, B, e', rfl, hc, hr, _⟩ := h.tmp (j := j) (by omega)
    have ht : tmpl t (j + 1) = t.ts[j]'(by omega) := by
      unfold tmpl
      rw [if_neg h0, List.getD_eq_getElem?_getD, Nat.add_sub_cancel, List.getElem?_eq_getElem (by omega)]
      rfl
    rw [ht]
    have x0 := h.blk.cell 0
    simp only [List.getElem?_toArray, List.getElem?_cons_zero, List.getElem?_cons_succ] at x0
    have Hr := Lib.hid hr
    have hji : (j : Int) < (t.ts.length : Int) := by omega
    have hii : (t.ts.length : Int) ≤ 1000000 := by omega
    generalize hT : t.ts[j]'(by omega) = T at *
    have hne : ¬ (((j + 1 : Nat) : Int) = 0) := by omega
    have hj1 : ((j + 1 : Nat) : Int) - 1 = (j : Int) := by omega
    have hjj : ((j + 1 : Nat) : Int) = (j : Int) + 1 := by omega
    rw [hjj]
    clear h hi hid h0 ht hr hT hjj hj1
    go_enter Try.func35, Try.ntmps35
    go_wp2
    go_ret
    exact ⟨B, e', rfl, parts_row Hr.out, Hr.out.le, Below.refl _ _⟩
end
end Go.Proofs.Ytdghbdiapkelnaa

/-
  How many templates, a number's template, in a decoder's block. No statement of the seat is proved here.
-/
namespace Go.Proofs.Ytdghbdiapkelnaa
open Go Go.RowKit Go.Maps
set_option maxRecDepth 100000

section
variable {S : Nat → Prop} {w : World} {g : Nat} {t : Tr} {A R : Option Addr} {c d : Nat} {xs ys : List Value} {M : Option Nat} {rp : Value} {us : List Value}
theorem dcount_any (h : TdAt rp us S w g t A c xs R d ys M) (hi : t.ts.length ≤ 1000000) : Calls Try.prog 45 #[.pointer (some ⟨g, 1, none⟩)] w fun e w' => e = .returned (.int .i64 ((t.ts.length : Int) + 1)) ∧ w' = w := by
  have x0 := h.blk.cell 1
  simp only [List.getElem?_toArray, List.getElem?_cons_zero, List.getElem?_cons_succ] at x0
  have hii : (t.ts.length : Int) ≤ 1000000 := by omega
  clear h hi
  go_enter Try.func45, Try.ntmps45
  go_wp2
  go_ret
  exact ⟨rfl, rfl⟩
set_option maxHeartbeats 4000000 in
theorem dat_any (h : TdAt rp us S w g t A c xs R d ys M) (hi : t.ts.length ≤ 1000000) {id : Nat} (hid : id ≤ t.ts.length) : Calls Try.prog 35 #[.pointer (some ⟨g, 1, none⟩), .int .i64 (id : Int)] w fun e w' => ∃ B e', e = .returned (.slice B (tmpl t id).length e') ∧ PartsAt w' B (tmpl t id) ∧ (tmpl t id).length ≤ e' ∧ Below w.heap.size w w' := by
  by_cases h0 : id = 0
  · subst h0
    have ht : tmpl t 0 = [dot] := rfl
    rw [ht]
    clear h hi hid ht
    go_enter Try.func35, Try.ntmps35
    go_wp2
    go_ret
    refine ⟨_, _, rfl, ⟨Rd.lit _ #[.bool true, .string ⟨#[]⟩] _, fun _ ad e => ?_⟩, Nat.le_refl _, ext_alloc (Below.refl _ _) _⟩
    injection e with e
    exact ⟨_, _, e.symm⟩
  · obtain ⟨j, rfl⟩ : ∃ j, id = j + 1 := ⟨id - 1, by omega⟩
    obtain ⟨gA, oA, B, e', rfl, hc, hr, _⟩ := h.tmp (j := j) (by omega)
    have ht : tmpl t (j + 1) = t.ts[j]'(by omega) := by
      unfold tmpl
      rw [if_neg h0, List.getD_eq_getElem?_getD, Nat.add_sub_cancel, List.getElem?_eq_getElem (by omega)]
      rfl
    rw [ht]
    have x0 := h.blk.cell 1
    simp only [List.getElem?_toArray, List.getElem?_cons_zero, List.getElem?_cons_succ] at x0
    have Hr := Lib.hid hr
    have hji : (j : Int) < (t.ts.length : Int) := by omega
    have hii : (t.ts.length : Int) ≤ 1000000 := by omega
    generalize hT : t.ts[j]'(by omega) = T at *
    have hne : ¬ (((j + 1 : Nat) : Int) = 0) := by omega
    have hj1 : ((j + 1 : Nat) : Int) - 1 = (j : Int) := by omega
    have hjj : ((j + 1 : Nat) : Int) = (j : Int) + 1 := by omega
    rw [hjj]
    clear h hi hid h0 ht hr hT hjj hj1
    go_enter Try.func35, Try.ntmps35
    go_wp2
    go_ret
    exact ⟨B, e', rfl, parts_row Hr.out, Hr.out.le, Below.refl _ _⟩
end
end Go.Proofs.Ytdghbdiapkelnaa

/-
  A word of the hand walks of regions (region.py). No statement of the seat is proved here.
-/
namespace Go.Proofs.Ytdghbdiapkelnaa
open Go Go.RowKit
theorem take_list {α : Type} {l r : List α} {i : Nat} {x : α} (h : l.drop i = x :: r) : (l.toArray)[i]? = some x := by
  have := congrArg List.head? h
  rw [List.head?_drop] at this
  simpa using this
/-- at a step of a region that draws its order: a conversion whose run is known -/
theorem step_convW {P : Program} {w : World} {ops : Array Oper} {o : Oper} {a : Act} {K : Act → World → Prop} {Q : Exit → Act → World → Prop} {E : Prop} (hgd : o.guard = none) (s t : TypeId) (x : Operand)
    (ho : o.op = .convert s t x) (v r : Value) (hx : a.eval x = v) (hrun : (convert s t v).run P w = .ok r w) (h : K (a.put o.dst r) w) :
    if Region.wanted o (yielded ops a.tmps) = true then Oper.wp P o a w K Q else E := by
  have hw : Region.wanted o (yielded ops a.tmps) = true := by simp [Region.wanted, hgd]
  rw [if_pos hw]
  unfold Oper.wp execOp
  simp only [ho, Sem.run_bind, Sem.run_pure, Result.andThen_ok, hx, hrun]
  exact h
/-- append, as a step of a region that draws its order -/
theorem step_appT {P : Program} {w : World} {fp : Nat → Prop} {ops : Array Oper} {o : Oper} {a : Act} {K : Act → World → Prop} {Q : Exit → Act → World → Prop} {E : Prop} (hgd : o.guard = none) (s x : Operand) (t : TypeId)
    (ho : o.op = .call { callee := .builtin .append, args := #[s, x], argTypes := #[t, t] })
    (e : TypeId) (z : Value) (bytes : Nat) (ht : P.underlying t = some (.slice e)) (hi : (P.info? e).map (fun i => (i.zero, i.size, i.bytes)) = some (some z, 1, bytes)) (hzs : z.cells.size = 1)
    (A : Option Addr) (n c : Nat) (xs : List Value) (hs : a.eval s = .slice A n c) (hn : n = xs.length) (hown : Own w fp e A c xs)
    (A2 : Option Addr) (m c2 : Nat) (news : List Value) (hx : a.eval x = .slice A2 m c2) (hm : m = news.length) (hr : Rd w A2 news) (h1 : ∀ u ∈ news, u.oneCell' = true)
    (h63 : n + m ≤ maxLen) (hbytes : (n + m) * bytes ≤ 140737488355328)
    (h : ∀ A' c' w', Own w' (More fp w w') e A' c' (xs ++ news) → Only fp w w' → K (a.put o.dst (.slice A' (n + m) c')) w') :
    if Region.wanted o (yielded ops a.tmps) = true then Oper.wp P o a w K Q else E := by
  have hw : Region.wanted o (yielded ops a.tmps) = true := by simp [Region.wanted, hgd]
  rw [if_pos hw]
  exact wp_app w s x t ho e z bytes ht hi hzs A n c xs hs hn hown A2 m c2 news hx hm hr h1 h63 hbytes h

end Go.Proofs.Ytdghbdiapkelnaa
