/-
  Texts of this claim, joined (part 15): contracts and lemmas that the last text goes by. No statement of the seat is proved here.
-/
import Derived.Test.YtpjgkacekelkdaaDoorAll13
import Derived.Test.YtpjgkacekelkdaaDoorAll14
import Derived.Test.YtpjgkacekelkdaaDoorAll3
import Derived.Deep.RegionHeld3
set_option linter.unusedVariables false
set_option linter.unusedSimpArgs false
/-
  SegmentParts' walk. No statement of the seat is proved in the part ahead of its closing.
-/
namespace Go.Proofs.YtpjgkacekelkdaaDoor
open Go Go.RowKit
set_option maxRecDepth 100000

theorem mask10 (v : Int) : ∃ m : Nat, bits .and .i64 v 1023 = (m : Int) ∧ m ≤ 1023 := by
  have hx : (BitVec.ofInt 64 v &&& BitVec.ofInt 64 1023).toNat ≤ 1023 := by
    rw [BitVec.toNat_and]
    exact Nat.le_trans Nat.and_le_right (by decide)
  have h : bits .and .i64 v 1023 = ((BitVec.ofInt 64 v &&& BitVec.ofInt 64 1023).toNat : Int) := by
    show IntKind.i64.wrap ((BitVec.ofInt 64 v &&& BitVec.ofInt 64 1023).toNat : Int) = _
    rw [IntKind.wrap_i64]; omega
  exact ⟨_, h, hx⟩
/-! ### cut in two, and joined -/
def prtA (s : Sg) (k : Nat) : Sg := ⟨s.first, s.lines.take k⟩
def prtB (s : Sg) (k : Nat) : Sg := ⟨s.first + (k : Int), s.lines.drop k⟩
theorem prtA_is {s : Sg} (h : isG s = true) {k : Nat} (h1 : 1 ≤ k) (h2 : k < s.lines.length) : isG (prtA s k) = true := by
  obtain ⟨⟨a1, a2, a3, a4⟩, a5⟩ := (isG_iff s).1 h
  exact (isG_iff _).2 ⟨⟨a1, a2, by show 1 ≤ (s.lines.take k).length; rw [List.length_take]; omega, by show (s.lines.take k).length ≤ 512; rw [List.length_take]; omega⟩, fun x hx => a5 x (List.mem_of_mem_take hx)⟩
theorem prtB_is {s : Sg} (h : isG s = true) {k : Nat} (h2 : k < s.lines.length) (h3 : s.first + (k : Int) ≤ 34359738368) : isG (prtB s k) = true := by
  obtain ⟨⟨a1, a2, a3, a4⟩, a5⟩ := (isG_iff s).1 h
  exact (isG_iff _).2 ⟨⟨by show 0 ≤ s.first + (k : Int); omega, h3, by show 1 ≤ (s.lines.drop k).length; rw [List.length_drop]; omega, by show (s.lines.drop k).length ≤ 512; rw [List.length_drop]; omega⟩, fun x hx => a5 x (List.mem_of_mem_drop hx)⟩
theorem joinG_parts {s : Sg} (h : isG s = true) {k : Nat} (h1 : 1 ≤ k) (h2 : k < s.lines.length) (h3 : s.first + (k : Int) ≤ 34359738368) : joinG [prtA s k, prtB s k] = (s, 0) := by
  have hs : (⟨fstTo [prtA s k, prtB s k], lnsTo [prtA s k, prtB s k] 2⟩ : Sg) = s := Sg.ext' rfl (by show (([prtA s k, prtB s k] : List Sg).take 2).flatMap Sg.lines = s.lines; simp [prtA, prtB])
  have hok : ∀ j (hj : j < [prtA s k, prtB s k].length), okJ [prtA s k, prtB s k] j [prtA s k, prtB s k][j] := fun j hj => by
    match j, hj with
    | 0, _ => exact ⟨prtA_is h h1 h2, by show s.first = s.first + ((([prtA s k, prtB s k] : List Sg).take 0).flatMap Sg.lines).length; simp⟩
    | 1, _ => exact ⟨prtB_is h h2 h3, by
        show s.first + (k : Int) = s.first + (((([prtA s k, prtB s k] : List Sg).take 1).flatMap Sg.lines).length : Int)
        simp [prtA]
        omega⟩
  rw [joinG_end hok, show ([prtA s k, prtB s k] : List Sg).length = 2 from rfl, hs, if_pos h]
theorem joinG_turned {s : Sg} {k : Nat} (h1 : 1 ≤ k) (h2 : k < s.lines.length) : joinG [prtB s k, prtA s k] = (⟨0, []⟩, 1) := by
  refine joinG_no (k := 1) (by simp) ?_
  rintro ⟨_, h⟩
  have h4 : s.first = s.first + (k : Int) + (((([prtB s k, prtA s k] : List Sg).take 1).flatMap Sg.lines).length : Int) := h
  simp [prtB] at h4
  omega
theorem row_two {W : World} {g : Nat} {t : TypeId} {s r : Sg} {B D : Option Addr} {c d : Nat} (hb : Blk W g t #[.int .i64 s.first, .slice B s.lines.length c, .int .i64 r.first, .slice D r.lines.length d]) (h : SgIn W s B c) (h2 : SgIn W r D d) : RowR IsSg 2 W (some ⟨g, 0, none⟩) [s, r] := fun k hk => by
  match k, hk with
  | 0, _ => exact ⟨g, 0, _, rfl, rfl, two_cells (hb.cell 0) (hb.cell 1), B, c, rfl, h⟩
  | 1, _ => exact ⟨g, 0, _, rfl, rfl, two_cells (o := 0 + 1 * 2) (hb.cell 2) (hb.cell 3), D, d, rfl, h2⟩
theorem prtA_in {W : World} {s : Sg} {g o c k : Nat} (h : SgIn W s (some ⟨g, o, none⟩) c) (hk : k ≤ s.lines.length) : SgIn W (prtA s k) (some ⟨g, o, none⟩) c :=
  ⟨h.int, by show (s.lines.take k).length ≤ c; rw [List.length_take]; have := h.le; omega, h.cap, (fun e => by cases e), fun j hj => by
    have hj2 : j < s.lines.length := by have : j < (s.lines.take k).length := hj; rw [List.length_take] at this; omega
    obtain ⟨g', o', cs, e, h1, h2, h3⟩ := h.row j hj2
    refine ⟨g', o', cs, e, h1, h2, ?_⟩
    have e2 : (prtA s k).lines[j] = s.lines[j] := List.getElem_take
    rw [e2]
    exact h3⟩
theorem prtB_in {W : World} {s : Sg} {g o c k : Nat} (h : SgIn W s (some ⟨g, o, none⟩) c) (hk : k ≤ s.lines.length) (hi : isInt (s.first + (k : Int))) : SgIn W (prtB s k) (some ⟨g, o + k * 2, none⟩) (c - k) :=
  ⟨hi, by show (s.lines.drop k).length ≤ c - k; rw [List.length_drop]; have := h.le; omega, by have := h.cap; omega, (fun e => by cases e), fun j hj => by
    have hj2 : k + j < s.lines.length := by have : j < (s.lines.drop k).length := hj; rw [List.length_drop] at this; omega
    obtain ⟨g', o', cs, e, h1, h2, h3⟩ := h.row (k + j) hj2
    injection e with e
    injection e with e1 e2 _
    subst e1 e2
    refine ⟨g, o + k * 2, cs, rfl, h1, fun i z hz => ?_, ?_⟩
    · rw [show o + k * 2 + j * 2 + i = o + (k + j) * 2 + i by omega]
      exact h2 i z hz
    · have e2 : (prtB s k).lines[j] = s.lines[k + j] := List.getElem_drop
      rw [e2]
      exact h3⟩

theorem below_cell {a w : World} {g j : Nat} {v : Value} (h : Below a.heap.size a w) (hg : a.heap.size ≤ g := by simp) : Below a.heap.size a (w.setCell ⟨g, j, none⟩ v) := h.setCell hg v
set_option maxHeartbeats 16000000 in
theorem parts_any (s : Sg) (B : Option Addr) (c : Nat) (at_ : Int) (w : World) (ht : Tab w) (h : SgIn w s B c) (hz : ∀ n ∈ lensS s, n ≤ 140737488355328) :
    Calls Tryd.prog 5 #[sgV s B c, .int .i64 at_] w fun e w' => e = .returned (.bool true) ∧ Below w.heap.size w w' := by
  obtain ⟨w1, hw1⟩ : ∃ w1, w1 = w.alloc (.cells #[.int .i64 s.first, .slice B s.lines.length c] 24) := ⟨_, rfl⟩
  have hb1 : Below w.heap.size w w1 := by rw [hw1]; exact ext_alloc (Below.refl _ _) _
  have hB1 : Blk w1 w.heap.size 24 #[.int .i64 s.first, .slice B s.lines.length c] := by rw [hw1]; exact Blk.new _ _ _
  obtain ⟨w2, hw2⟩ : ∃ w2, w2 = w1.alloc (.cells #[.int .i64 s.first, .slice B s.lines.length c] 24) := ⟨_, rfl⟩
  have hb2 : Below w.heap.size w w2 := by rw [hw2]; exact ext_alloc hb1 _
  have hB2 : Blk w2 w.heap.size 24 #[.int .i64 s.first, .slice B s.lines.length c] := by rw [hw2]; exact hB1.alloc _
  have hN2 : Blk w2 (w.heap.size + 1) 24 #[.int .i64 s.first, .slice B s.lines.length c] := by
    have h := Blk.new w1 24 #[.int .i64 s.first, .slice B s.lines.length c]
    rw [← hw2, hw1, World.size_alloc] at h
    exact h
  have HL := Lib.hid (longG_any (some ⟨w.heap.size + 1, 0, none⟩) 1 [s] w2 (row_one hN2 (h.ext hb2)) (by simp [maxLen]))
  have hs : ∀ x ∈ s.lines, ∀ v ∈ x.vars, v.length ≤ maxLen := fun x hx v hv => by have := lens_sg hz x hx v hv; unfold maxLen; omega
  have HI := Lib.hid (fun (W : World) (hb : Below w.heap.size w W) => ris18_any s B c W (h.ext hb) hs)
  have HO := Lib.hid (fun B c W => own_any s B c W)
  have HB2 := Lib.hid hB2
  have Hb2 := Lib.hid hb2
  have Hw1 := Lib.hid hw1
  have Hw2 := Lib.hid hw2
  have Ht := Lib.hid ht
  have H := Lib.hid h
  have h0 := hB1.cell 0
  have h1 := hB1.cell 1
  have k0 := hB2.cell 0
  have k1 := hB2.cell 1
  simp only [List.getElem?_toArray, List.getElem?_cons_zero, List.getElem?_cons_succ] at h0 h1 k0 k1
  rw [hw1] at h0 h1
  unfold sgV at HI HO ⊢
  rw [show ([s] : List Sg).length = 1 from rfl] at HL
  clear h hz hb1 hb2 hB1 hB2 hN2 hw1 hw2 ht
  go_enter Tryd.func5, Tryd.ntmps5
  go_wp2_with fail
  rw [← Hw1.out, ← Hw2.out]
  refine HL.out.mono ?_
  rintro e w' ⟨r, rfl, rfl⟩
  clear h0 h1 HL
  cases r with
  | true =>
    go_wp2
    go_ret
    exact ⟨rfl, Hb2.out⟩
  | false =>
    go_wp2_with fail
    refine (HO.out B c w2).mono ?_
    rintro e w3 ⟨rfl, hb3⟩
    have HX := Lib.hid (HI.out w3 (ext_trans Hb2.out hb3))
    have HB3 := Lib.hid (HB2.out.ext hb3)
    have Hb3 := Lib.hid (ext_trans Hb2.out hb3)
    clear hb3 k0 k1 HI
    go_wp2_with fail
    refine HX.out.mono ?_
    rintro e w4 ⟨rfl, hb4⟩
    have HB4 := Lib.hid (HB3.out.ext hb4)
    have Hb4 := Lib.hid (ext_trans Hb3.out hb4)
    clear hb4 HX
    cases hig : isG s with
    | false =>
      clear hig
      go_wp2
      go_ret
      exact ⟨rfl, Hb4.out⟩
    | true =>
      have k0 := HB4.out.cell 0
      have k1 := HB4.out.cell 1
      simp only [List.getElem?_toArray, List.getElem?_cons_zero, List.getElem?_cons_succ] at k0 k1
      obtain ⟨⟨f1, f2, f3, f4⟩, f5⟩ := (isG_iff s).1 hig
      have hni : (s.lines.length : Int) ≤ 512 := by omega
      by_cases hn2 : s.lines.length < 2
      · have hn2i : (s.lines.length : Int) < 2 := by omega
        clear hig f5
        go_wp2
        go_ret
        exact ⟨rfl, Hb4.out⟩
      have hn2i : ¬ (s.lines.length : Int) < 2 := by omega
      obtain ⟨m, hm, hm2⟩ := mask10 at_
      obtain ⟨K, hK⟩ : ∃ K, 1 + m % (s.lines.length - 1) = K := ⟨_, rfl⟩
      have hml : m % (s.lines.length - 1) < s.lines.length - 1 := Nat.mod_lt _ (by omega)
      have hKl : 1 ≤ K ∧ K < s.lines.length := by omega
      have hKi : (m : Int) % ((s.lines.length : Int) - 1) = (K : Int) - 1 := by
        rw [show (s.lines.length : Int) - 1 = ((s.lines.length - 1 : Nat) : Int) by omega, ← Int.natCast_emod]
        omega
      have hKt : (m : Int).tmod ((s.lines.length : Int) - 1) = (K : Int) - 1 := by rw [← hKi]; exact Int.tmod_eq_emod_of_nonneg (by omega)
      have hK1 : 1 + ((K : Int) - 1) = (K : Int) := by omega
      have hl0 : (((s.lines.length : Int) - 1) == 0) = false := beq_eq_false_iff_ne.2 (by omega)
      have hlz : ¬ ((s.lines.length : Int) - 1 = 0) := by omega
      have hKle : (K : Int) ≤ 512 := by omega
      have hK0 : (1 : Int) ≤ (K : Int) := by omega
      have hKn : (K : Int) < (s.lines.length : Int) := by omega
      by_cases hbig : 34359738368 < s.first + (K : Int)
      · clear hig f5 hK hml hm2
        go_wp2_with fail
        refine (known18_any _ (Ht.out.ext Hb4.out)).mono ?_
        rintro e w12 ⟨rfl, hb⟩
        have Hb12 := Lib.hid (ext_trans Hb4.out hb)
        clear hb
        go_wp2
        go_ret
        exact ⟨rfl, Hb12.out⟩
      have hj1 := joinG_parts hig hKl.1 hKl.2 (by omega)
      have hj2 := joinG_turned (s := s) hKl.1 hKl.2
      obtain ⟨gB, oB, _, _, rfl, _⟩ := row_ln H.out.row (show 0 < s.lines.length by omega)
      have hck : ¬ c = K := by have := H.out.le; omega
      have hcK : (K : Int) ≤ (c : Int) := by have := H.out.le; omega
      have hcc := H.out.le
      have hKln : K ≤ s.lines.length := by omega
      have HK : Hid (∀ W, Below w4.heap.size w4 W → W.cell? ⟨w.heap.size, 0, none⟩ = some (.int .i64 s.first) ∧ W.cell? ⟨w.heap.size, 1, none⟩ = some (.slice (some ⟨gB, oB, none⟩) s.lines.length c)) := Lib.hid (fun W hW => ⟨(HB4.out.ext hW).cell 0, (HB4.out.ext hW).cell 1⟩)
      go_wp2_with fail
      refine wp_region_held_drew (S := fun W => W.cell? ⟨w.heap.size, 0, none⟩ = some (.int .i64 s.first) ∧ W.cell? ⟨w.heap.size, 1, none⟩ = some (.slice (some ⟨gB, oB, none⟩) s.lines.length c)) (by kernel_rfl) ?_ (fun hHeld => ?_)
      · exact HK.out _ (by repeat (first | exact Below.refl _ _ | apply ext_drew | apply ext_drewN | apply ext_alloc))
      refine wpAnyH_take (i := 0) (v := ?_) (take_list rfl) (by kernel_rfl) (by kernel_rfl) (by kernel_rfl) (fun _ _ _ h => h) (Or.inl ⟨by rfl, ?_⟩) (by assumption) ?_
      rotate_left
      · intro w hSw
        try dsimp only at hSw
        first | (go_simp; done) | (go_simp; with_reducible rfl)
      try simp only [Act.put, List.setIfInBounds_toArray, List.set_cons_zero, List.set_cons_succ]
      refine wpAnyH_take (i := 1) (v := ?_) (take_list rfl) (by kernel_rfl) (by kernel_rfl) (by kernel_rfl) (fun _ _ _ h => h) (Or.inl ⟨by rfl, ?_⟩) (by assumption) ?_
      rotate_left
      · intro w hSw
        try dsimp only at hSw
        first | (go_simp; done) | (go_simp; with_reducible rfl)
      try simp only [Act.put, List.setIfInBounds_toArray, List.set_cons_zero, List.set_cons_succ]
      refine wpAnyH_take (i := 2) (v := ?_) (take_list rfl) (by kernel_rfl) (by kernel_rfl) (by kernel_rfl) (fun _ _ _ h => h) (Or.inl ⟨by rfl, ?_⟩) (by assumption) ?_
      rotate_left
      · intro w hSw
        try dsimp only at hSw
        first | (go_simp; done) | (go_simp; with_reducible rfl)
      try simp only [Act.put, List.setIfInBounds_toArray, List.set_cons_zero, List.set_cons_succ]
      refine wpAnyH_take (i := 3) (v := ?_) (take_list rfl) (by kernel_rfl) (by kernel_rfl) (by kernel_rfl) (fun _ _ _ h => h) (Or.inl ⟨by rfl, ?_⟩) (by assumption) ?_
      rotate_left
      · intro w hSw
        try dsimp only at hSw
        first | (go_simp; done) | (go_simp; with_reducible rfl)
      try simp only [Act.put, List.setIfInBounds_toArray, List.set_cons_zero, List.set_cons_succ]
      refine wpAnyH_take (i := 4) (v := ?_) (take_list rfl) (by kernel_rfl) (by kernel_rfl) (by kernel_rfl) (fun _ _ _ h => h) (Or.inl ⟨by rfl, ?_⟩) (by assumption) ?_
      rotate_left
      · intro w hSw
        try dsimp only at hSw
        first | (go_simp; done) | (go_simp; with_reducible rfl)
      try simp only [Act.put, List.setIfInBounds_toArray, List.set_cons_zero, List.set_cons_succ]
      refine wpAnyH_take (i := 5) (v := ?_) (take_list rfl) (by kernel_rfl) (by kernel_rfl) (by kernel_rfl) (fun _ _ _ h => h) (Or.inl ⟨by rfl, ?_⟩) (by assumption) ?_
      rotate_left
      · intro w hSw
        try dsimp only at hSw
        first | (go_simp; done) | (go_simp; with_reducible rfl)
      try simp only [Act.put, List.setIfInBounds_toArray, List.set_cons_zero, List.set_cons_succ]
      refine wpAnyH_take (i := 6) (v := ?_) (take_list rfl) (by kernel_rfl) (by kernel_rfl) (by kernel_rfl) (fun _ _ _ h => h) (Or.inl ⟨by rfl, ?_⟩) (by assumption) ?_
      rotate_left
      · intro w hSw
        try dsimp only at hSw
        first | (go_simp; done) | (go_simp; with_reducible rfl)
      try simp only [Act.put, List.setIfInBounds_toArray, List.set_cons_zero, List.set_cons_succ]
      refine wpAnyH_ready (rs := [7]) (by kernel_rfl) (by simp) ?_
      refine AllReadyH.cons (take_list rfl) (fun K hK => ?_) ?_
      · skip
        go_simp
        refine hK.out _ _ ?_ (fun hHeld => ?_)
        · try dsimp only
          exact HK.out _ (by repeat (first | exact Below.refl _ _ | apply ext_drew | apply ext_drewN | apply ext_alloc))
        clear hK K
        refine wpAnyH_ready (rs := [8]) (by kernel_rfl) (by simp) ?_
        refine AllReadyH.cons (take_list rfl) (fun K hK => ?_) ?_
        · skip
          go_simp
          refine hK.out _ _ ?_ (fun hHeld => ?_)
          · try dsimp only
            exact HK.out _ (by repeat (first | exact Below.refl _ _ | apply ext_drew | apply ext_drewN | apply ext_alloc))
          clear hK K
          refine wpAnyH_done (by kernel_rfl) ?_ _
          obtain ⟨W5, hW5⟩ : ∃ W5, W5 = (w4.alloc (.cells #[.int .i64 s.first, .slice (some ⟨gB, oB, none⟩) K c] 24)).drew := ⟨_, rfl⟩
          have hb5 : Below w4.heap.size w4 W5 := by rw [hW5]; exact ext_drew (ext_alloc (Below.refl _ _) _)
          have HA5 : Hid (Blk W5 w4.heap.size 24 #[.int .i64 s.first, .slice (some ⟨gB, oB, none⟩) K c]) := Lib.hid (by rw [hW5]; exact (Blk.new _ _ _).drew)
          have Hb5 := Lib.hid (ext_trans Hb4.out hb5)
          have Hb45 := Lib.hid hb5
          have HW5 := Lib.hid hW5
          clear hW5 hb5 k0 k1
          go_wp2_with fail
          rw [← HW5.out]
          refine wp_region_held_drew (S := fun W => W.cell? ⟨w.heap.size, 0, none⟩ = some (.int .i64 s.first) ∧ W.cell? ⟨w.heap.size, 1, none⟩ = some (.slice (some ⟨gB, oB, none⟩) s.lines.length c)) (by kernel_rfl) ?_ (fun hHeld => ?_)
          · exact HK.out _ (ext_trans Hb45.out (by repeat (first | exact Below.refl _ _ | apply ext_drew | apply ext_drewN | apply ext_alloc)))
          refine wpAnyH_take (i := 0) (v := ?_) (take_list rfl) (by kernel_rfl) (by kernel_rfl) (by kernel_rfl) (fun _ _ _ h => h) (Or.inl ⟨by rfl, ?_⟩) (by assumption) ?_
          rotate_left
          · intro w hSw
            try dsimp only at hSw
            first | (go_simp; done) | (go_simp; with_reducible rfl)
          try simp only [Act.put, List.setIfInBounds_toArray, List.set_cons_zero, List.set_cons_succ]
          refine wpAnyH_take (i := 1) (v := ?_) (take_list rfl) (by kernel_rfl) (by kernel_rfl) (by kernel_rfl) (fun _ _ _ h => h) (Or.inl ⟨by rfl, ?_⟩) (by assumption) ?_
          rotate_left
          · intro w hSw
            try dsimp only at hSw
            first | (go_simp; done) | (go_simp; with_reducible rfl)
          try simp only [Act.put, List.setIfInBounds_toArray, List.set_cons_zero, List.set_cons_succ]
          refine wpAnyH_take (i := 2) (v := ?_) (take_list rfl) (by kernel_rfl) (by kernel_rfl) (by kernel_rfl) (fun _ _ _ h => h) (Or.inl ⟨by rfl, ?_⟩) (by assumption) ?_
          rotate_left
          · intro w hSw
            try dsimp only at hSw
            first | (go_simp; done) | (go_simp; with_reducible rfl)
          try simp only [Act.put, List.setIfInBounds_toArray, List.set_cons_zero, List.set_cons_succ]
          refine wpAnyH_take (i := 3) (v := ?_) (take_list rfl) (by kernel_rfl) (by kernel_rfl) (by kernel_rfl) (fun _ _ _ h => h) (Or.inl ⟨by rfl, ?_⟩) (by assumption) ?_
          rotate_left
          · intro w hSw
            try dsimp only at hSw
            first | (go_simp; done) | (go_simp; with_reducible rfl)
          try simp only [Act.put, List.setIfInBounds_toArray, List.set_cons_zero, List.set_cons_succ]
          refine wpAnyH_take (i := 4) (v := ?_) (take_list rfl) (by kernel_rfl) (by kernel_rfl) (by kernel_rfl) (fun _ _ _ h => h) (Or.inl ⟨by rfl, ?_⟩) (by assumption) ?_
          rotate_left
          · intro w hSw
            try dsimp only at hSw
            first | (go_simp; done) | (go_simp; with_reducible rfl)
          try simp only [Act.put, List.setIfInBounds_toArray, List.set_cons_zero, List.set_cons_succ]
          refine wpAnyH_take (i := 5) (v := ?_) (take_list rfl) (by kernel_rfl) (by kernel_rfl) (by kernel_rfl) (fun _ _ _ h => h) (Or.inl ⟨by rfl, ?_⟩) (by assumption) ?_
          rotate_left
          · intro w hSw
            try dsimp only at hSw
            first | (go_simp; done) | (go_simp; with_reducible rfl)
          try simp only [Act.put, List.setIfInBounds_toArray, List.set_cons_zero, List.set_cons_succ]
          refine wpAnyH_take (i := 6) (v := ?_) (take_list rfl) (by kernel_rfl) (by kernel_rfl) (by kernel_rfl) (fun _ _ _ h => h) (Or.inl ⟨by rfl, ?_⟩) (by assumption) ?_
          rotate_left
          · intro w hSw
            try dsimp only at hSw
            first | (go_simp; done) | (go_simp; with_reducible rfl)
          try simp only [Act.put, List.setIfInBounds_toArray, List.set_cons_zero, List.set_cons_succ]
          refine wpAnyH_take (i := 7) (v := ?_) (take_list rfl) (by kernel_rfl) (by kernel_rfl) (by kernel_rfl) (fun _ _ _ h => h) (Or.inl ⟨by rfl, ?_⟩) (by assumption) ?_
          rotate_left
          · intro w hSw
            try dsimp only at hSw
            first | (go_simp; done) | (go_simp; with_reducible rfl)
          try simp only [Act.put, List.setIfInBounds_toArray, List.set_cons_zero, List.set_cons_succ]
          refine wpAnyH_take (i := 8) (v := ?_) (take_list rfl) (by kernel_rfl) (by kernel_rfl) (by kernel_rfl) (fun _ _ _ h => h) (Or.inl ⟨by rfl, ?_⟩) (by assumption) ?_
          rotate_left
          · intro w hSw
            try dsimp only at hSw
            first | (go_simp; done) | (go_simp; with_reducible rfl)
          try simp only [Act.put, List.setIfInBounds_toArray, List.set_cons_zero, List.set_cons_succ]
          refine wpAnyH_ready (rs := [9]) (by kernel_rfl) (by simp) ?_
          refine AllReadyH.cons (take_list rfl) (fun K hK => ?_) ?_
          · skip
            go_simp
            refine hK.out _ _ ?_ (fun hHeld => ?_)
            · try dsimp only
              exact HK.out _ (ext_trans Hb45.out (by repeat (first | exact Below.refl _ _ | apply ext_drew | apply ext_drewN | apply ext_alloc)))
            clear hK K
            refine wpAnyH_ready (rs := [10]) (by kernel_rfl) (by simp) ?_
            refine AllReadyH.cons (take_list rfl) (fun K hK => ?_) ?_
            · skip
              go_simp
              refine hK.out _ _ ?_ (fun hHeld => ?_)
              · try dsimp only
                exact HK.out _ (ext_trans Hb45.out (by repeat (first | exact Below.refl _ _ | apply ext_drew | apply ext_drewN | apply ext_alloc)))
              clear hK K
              refine wpAnyH_done (by kernel_rfl) ?_ _
              obtain ⟨W6, hW6⟩ : ∃ W6, W6 = (W5.alloc (.cells #[.int .i64 (s.first + (K : Int)), .slice (some ⟨gB, oB + K * 2, none⟩) (s.lines.length - K) (c - K)] 24)).drew := ⟨_, rfl⟩
              have hb6 : Below W5.heap.size W5 W6 := by rw [hW6]; exact ext_drew (ext_alloc (Below.refl _ _) _)
              have HB6 : Hid (Blk W6 W5.heap.size 24 #[.int .i64 (s.first + (K : Int)), .slice (some ⟨gB, oB + K * 2, none⟩) (s.lines.length - K) (c - K)]) := Lib.hid (by rw [hW6]; exact (Blk.new _ _ _).drew)
              have HA6 := Lib.hid (HA5.out.ext hb6)
              have Hb6 := Lib.hid (ext_trans Hb5.out hb6)
              have Hb46 := Lib.hid (ext_trans Hb45.out hb6)
              have HinA := Lib.hid (prtA_in (k := K) (H.out.ext Hb6.out) (by omega))
              have HinB := Lib.hid (prtB_in (k := K) (H.out.ext Hb6.out) (by omega) ⟨by omega, by omega⟩)
              have eA : (prtA s K).lines.length = K := by show (s.lines.take K).length = K; rw [List.length_take]; omega
              have eB : (prtB s K).lines.length = s.lines.length - K := by show (s.lines.drop K).length = _; rw [List.length_drop]
              have HJ1 : Hid (∀ W g, Below W6.heap.size W6 W → Blk W g 24 #[.int .i64 s.first, .slice (some ⟨gB, oB, none⟩) K c, .int .i64 (s.first + (K : Int)), .slice (some ⟨gB, oB + K * 2, none⟩) (s.lines.length - K) (c - K)] → Calls Tryd.prog 13 #[.slice (some ⟨g, 0, none⟩) 2 2] W fun e w' => ∃ B' c', e = .returned (.tuple #[.agg #[.int .i64 s.first, .slice B' s.lines.length c'], .int .i64 0]) ∧ SgIn w' s B' c' ∧ Below W.heap.size W w') := Lib.hid (fun W g hW hb => by
                have h := join_any' (some ⟨g, 0, none⟩) 2 [prtA s K, prtB s K] W (row_two (s := prtA s K) (r := prtB s K) (by rw [eA, eB]; exact hb) (HinA.out.ext hW) (HinB.out.ext hW)) (by simp) (fun r hr x hx => hs x (by rcases List.mem_cons.1 hr with rfl | hr; exact List.mem_of_mem_take hx; rcases List.mem_cons.1 hr with rfl | hr; exact List.mem_of_mem_drop hx; cases hr))
                rw [hj1] at h
                exact h)
              have HJ2 : Hid (∀ W g, Below W6.heap.size W6 W → Blk W g 24 #[.int .i64 (s.first + (K : Int)), .slice (some ⟨gB, oB + K * 2, none⟩) (s.lines.length - K) (c - K), .int .i64 s.first, .slice (some ⟨gB, oB, none⟩) K c] → Calls Tryd.prog 13 #[.slice (some ⟨g, 0, none⟩) 2 2] W fun e w' => ∃ B' c', e = .returned (.tuple #[.agg #[.int .i64 0, .slice B' 0 c'], .int .i64 1]) ∧ Below W.heap.size W w') := Lib.hid (fun W g hW hb => by
                have h := join_any' (some ⟨g, 0, none⟩) 2 [prtB s K, prtA s K] W (row_two (s := prtB s K) (r := prtA s K) (by rw [eA, eB]; exact hb) (HinB.out.ext hW) (HinA.out.ext hW)) (by simp) (fun r hr x hx => hs x (by rcases List.mem_cons.1 hr with rfl | hr; exact List.mem_of_mem_drop hx; rcases List.mem_cons.1 hr with rfl | hr; exact List.mem_of_mem_take hx; cases hr))
                rw [hj2] at h
                exact h.mono fun e w' ⟨B', c', he, _, hb⟩ => ⟨B', c', he, hb⟩)
              have HEn : Hid (∀ B c W, Tab W → SgIn W s B c → Calls Tryd.prog 9 #[.agg #[.int .i64 s.first, .slice B s.lines.length c]] W fun e w' => ∃ A' c', e = .returned (.tuple #[.slice A' (encG s).length c', .int .i64 0]) ∧ New W w' A' c' (encG s) ∧ Below W.heap.size W w') := Lib.hid (fun B c W h1 h2 => encode_good s hig B c W h1 h2)
              have HSm : Hid (∀ A B c d W, SgIn W s A c → SgIn W s B d → Calls Tryd.prog 11 #[.agg #[.int .i64 s.first, .slice A s.lines.length c], .agg #[.int .i64 s.first, .slice B s.lines.length d]] W fun e w' => e = .returned (.bool true) ∧ Below W.heap.size W w') := Lib.hid (fun A B c d W h1 h2 => same_good s A B c d W h1 h2)
              generalize encG s = q at *
              have a0 := HA6.out.cell 0
              have a1 := HA6.out.cell 1
              have b0 := HB6.out.cell 0
              have b1 := HB6.out.cell 1
              simp only [List.getElem?_toArray, List.getElem?_cons_zero, List.getElem?_cons_succ] at a0 a1 b0 b1
              rw [show IntKind.i64.wrap (s.first + (K : Int)) = s.first + (K : Int) from IntWalk.i64_in _ (by omega), ← hW6]
              have HW6 := Lib.hid hW6
              have Hlk : Hid ((K : Int) ≤ (s.lines.length : Int)) := Lib.hid (by omega)
              clear hW6 hb6 hig f5 hK hml hm2 eA eB hj1 hj2 hs hcc hKt hKi hl0 hlz hm hKl
              go_wp2_with fail
              have hB7 := Blk.new W6 24 #[.int .i64 s.first, .slice (some ⟨gB, oB, none⟩) K c, .int .i64 (s.first + (K : Int)), .slice (some ⟨gB, oB + K * 2, none⟩) (s.lines.length - K) (c - K)]
              refine (HJ1.out _ _ (ext_alloc (Below.refl _ _) _) hB7).mono ?_
              rintro e w8 ⟨B8, c8, rfl, hin8, hb8⟩
              have hb68 : Below W6.heap.size W6 w8 := ext_trans (ext_alloc (Below.refl _ _) _) hb8
              obtain ⟨W9, hW9⟩ : ∃ W9, W9 = w8.alloc (.cells #[.int .i64 s.first, .slice B8 s.lines.length c8] 24) := ⟨_, rfl⟩
              have hb69 : Below W6.heap.size W6 W9 := by rw [hW9]; exact ext_alloc hb68 _
              have HB9 : Hid (Blk W9 w8.heap.size 24 #[.int .i64 s.first, .slice B8 s.lines.length c8]) := Lib.hid (by rw [hW9]; exact Blk.new _ _ _)
              have Hin9 : Hid (SgIn W9 s B8 c8) := Lib.hid (by rw [hW9]; exact hin8.ext (ext_alloc (Below.refl _ _) _))
              have HE1 := Lib.hid (HEn.out B8 c8 W9 (Ht.out.ext (ext_trans Hb6.out hb69)) Hin9.out)
              have Hb69 := Lib.hid hb69
              have HW9 := Lib.hid hW9
              clear hB7 hin8 hb8 hb68 hb69 hW9 a0 a1 b0 b1 HJ1
              go_wp2_with fail
              rw [← HW9.out]
              refine HE1.out.mono ?_
              rintro e w10 ⟨A10, c10, rfl, hn10, hb10⟩
              have k0 := (HB4.out.ext (ext_trans (ext_trans Hb46.out Hb69.out) hb10)).cell 0
              have k1 := (HB4.out.ext (ext_trans (ext_trans Hb46.out Hb69.out) hb10)).cell 1
              simp only [List.getElem?_toArray, List.getElem?_cons_zero, List.getElem?_cons_succ] at k0 k1
              have HE2 := Lib.hid (HEn.out (some ⟨gB, oB, none⟩) c w10 (Ht.out.ext (ext_trans (ext_trans Hb6.out Hb69.out) hb10)) (H.out.ext (ext_trans (ext_trans Hb6.out Hb69.out) hb10)))
              have Hn10 := Lib.hid hn10.rd
              have Hb10 := Lib.hid (ext_trans Hb69.out hb10)
              have Hb910 := Lib.hid hb10
              clear hn10 hb10 HE1
              go_wp2_with fail
              refine HE2.out.mono ?_
              rintro e w11 ⟨A11, c11, rfl, hn11, hb11⟩
              have hb611 := ext_trans Hb10.out hb11
              have a0 := (HA6.out.ext hb611).cell 0
              have a1 := (HA6.out.ext hb611).cell 1
              have b0 := (HB6.out.ext hb611).cell 0
              have b1 := (HB6.out.ext hb611).cell 1
              simp only [List.getElem?_toArray, List.getElem?_cons_zero, List.getElem?_cons_succ] at a0 a1 b0 b1
              have Hn11 := Lib.hid hn11.rd
              have Hn10b := Lib.hid (Hn10.out.ext hb11)
              have Hb611 := Lib.hid hb611
              have Hb911 := Lib.hid (ext_trans Hb910.out hb11)
              clear hn11 hb11 hb611 k0 k1 HE2 HEn
              go_wp2_with fail
              have hB12 := Blk.new w11 24 #[.int .i64 (s.first + (K : Int)), .slice (some ⟨gB, oB + K * 2, none⟩) (s.lines.length - K) (c - K), .int .i64 s.first, .slice (some ⟨gB, oB, none⟩) K c]
              refine (HJ2.out _ _ (ext_alloc Hb611.out _) hB12).mono ?_
              rintro e w12 ⟨B12, c12, rfl, hb12⟩
              have hb1112 : Below w11.heap.size w11 w12 := ext_trans (ext_alloc (Below.refl _ _) _) hb12
              obtain ⟨W13, hW13⟩ : ∃ W13, W13 = w12.alloc (.cells #[.int .i64 0, .slice B12 0 c12] 24) := ⟨_, rfl⟩
              have hb1113 : Below w11.heap.size w11 W13 := by rw [hW13]; exact ext_alloc hb1112 _
              have hb913 := ext_trans Hb911.out hb1113
              have hb413 := ext_trans Hb46.out (ext_trans Hb611.out hb1113)
              have Hb13 := Lib.hid (ext_trans Hb6.out (ext_trans Hb611.out hb1113))
              have HinX := Lib.hid (Hin9.out.ext hb913)
              have HinY := Lib.hid (H.out.ext Hb13.out)
              obtain ⟨Z, hZ⟩ : ∃ Z : ByteArray, (⟨q.toArray⟩ : ByteArray) = Z := ⟨_, rfl⟩
              have HKz : Hid (∀ W, Below W13.heap.size W13 W → W.cell? ⟨w.heap.size, 0, none⟩ = some (.int .i64 s.first) ∧ W.cell? ⟨w.heap.size, 1, none⟩ = some (.slice (some ⟨gB, oB, none⟩) s.lines.length c) ∧ W.cell? ⟨w8.heap.size, 0, none⟩ = some (.int .i64 s.first) ∧ W.cell? ⟨w8.heap.size, 1, none⟩ = some (.slice B8 s.lines.length c8) ∧ (convert 29 9 (.slice A10 q.length c10)).run Tryd.prog W = .ok (.string Z) W ∧ (convert 29 9 (.slice A11 q.length c11)).run Tryd.prog W = .ok (.string Z) W) := Lib.hid (fun W hW =>
                ⟨((HB4.out.ext hb413).ext hW).cell 0, ((HB4.out.ext hb413).ext hW).cell 1, ((HB9.out.ext hb913).ext hW).cell 0, ((HB9.out.ext hb913).ext hW).cell 1, by rw [← hZ]; exact conv_bytes W A10 q.length c10 q rfl ((Hn10b.out.ext hb1113).ext hW), by rw [← hZ]; exact conv_bytes W A11 q.length c11 q rfl ((Hn11.out.ext hb1113).ext hW)⟩)
              have HW13 := Lib.hid hW13
              clear hB12 hb12 hb1112 hb1113 hb913 hb413 hW13 a0 a1 b0 b1 HJ2 hZ
              go_wp2_with fail
              rw [← HW13.out]
              refine wp_region_held_drew (S := fun W => W.cell? ⟨w.heap.size, 0, none⟩ = some (.int .i64 s.first) ∧ W.cell? ⟨w.heap.size, 1, none⟩ = some (.slice (some ⟨gB, oB, none⟩) s.lines.length c) ∧ W.cell? ⟨w8.heap.size, 0, none⟩ = some (.int .i64 s.first) ∧ W.cell? ⟨w8.heap.size, 1, none⟩ = some (.slice B8 s.lines.length c8) ∧ (convert 29 9 (.slice A10 q.length c10)).run Tryd.prog W = .ok (.string Z) W ∧ (convert 29 9 (.slice A11 q.length c11)).run Tryd.prog W = .ok (.string Z) W) (by kernel_rfl) ?_ (fun hHeld => ?_)
              · exact HKz.out _ (by repeat (first | exact Below.refl _ _ | exact HE5.out | exact HE4.out | exact HE3.out | exact HE2.out | apply ext_drew | apply ext_drewN | apply ext_alloc))
              refine wpAnyH_take (i := 0) (v := ?_) (take_list rfl) (by kernel_rfl) (by kernel_rfl) (by kernel_rfl) (fun _ _ _ h => h) (Or.inl ⟨by rfl, ?_⟩) (by assumption) ?_
              rotate_left
              · intro w hSw
                try dsimp only at hSw
                first | (go_simp; done) | (go_simp; with_reducible rfl)
              try simp only [Act.put, List.setIfInBounds_toArray, List.set_cons_zero, List.set_cons_succ]
              refine wpAnyH_take (i := 1) (v := ?_) (take_list rfl) (by kernel_rfl) (by kernel_rfl) (by kernel_rfl) (fun _ _ _ h => h) (Or.inl ⟨by rfl, ?_⟩) (by assumption) ?_
              rotate_left
              · intro w hSw
                try dsimp only at hSw
                first | (go_simp; done) | (go_simp; with_reducible rfl)
              try simp only [Act.put, List.setIfInBounds_toArray, List.set_cons_zero, List.set_cons_succ]
              refine wpAnyH_take (i := 2) (v := ?_) (take_list rfl) (by kernel_rfl) (by kernel_rfl) (by kernel_rfl) (fun _ _ _ h => h) (Or.inl ⟨by rfl, ?_⟩) (by assumption) ?_
              rotate_left
              · intro w hSw
                try dsimp only at hSw
                first | (go_simp; done) | (go_simp; with_reducible rfl)
              try simp only [Act.put, List.setIfInBounds_toArray, List.set_cons_zero, List.set_cons_succ]
              refine wpAnyH_take (i := 3) (v := ?_) (take_list rfl) (by kernel_rfl) (by kernel_rfl) (by kernel_rfl) (fun _ _ _ h => h) (Or.inl ⟨by rfl, ?_⟩) (by assumption) ?_
              rotate_left
              · intro w hSw
                try dsimp only at hSw
                first | (go_simp; done) | (go_simp; with_reducible rfl)
              try simp only [Act.put, List.setIfInBounds_toArray, List.set_cons_zero, List.set_cons_succ]
              refine wpAnyH_take (i := 4) (v := ?_) (take_list rfl) (by kernel_rfl) (by kernel_rfl) (by kernel_rfl) (fun _ _ _ h => h) (Or.inl ⟨by rfl, ?_⟩) (by assumption) ?_
              rotate_left
              · intro w hSw
                try dsimp only at hSw
                first | (go_simp; done) | (go_simp; with_reducible rfl)
              try simp only [Act.put, List.setIfInBounds_toArray, List.set_cons_zero, List.set_cons_succ]
              refine wpAnyH_take (i := 5) (v := ?_) (take_list rfl) (by kernel_rfl) (by kernel_rfl) (by kernel_rfl) (fun _ _ _ h => h) (Or.inl ⟨by rfl, ?_⟩) (by assumption) ?_
              rotate_left
              · intro w hSw
                try dsimp only at hSw
                first | (go_simp; done) | (go_simp; with_reducible rfl)
              try simp only [Act.put, List.setIfInBounds_toArray, List.set_cons_zero, List.set_cons_succ]
              refine wpAnyH_take (i := 6) (v := ?_) (take_list rfl) (by kernel_rfl) (by kernel_rfl) (by kernel_rfl) (fun _ _ _ h => h) (Or.inl ⟨by rfl, ?_⟩) (by assumption) ?_
              rotate_left
              · intro w hSw
                try dsimp only at hSw
                first | (go_simp; done) | (go_simp; with_reducible rfl)
              try simp only [Act.put, List.setIfInBounds_toArray, List.set_cons_zero, List.set_cons_succ]
              refine wpAnyH_take (i := 7) (v := ?_) (take_list rfl) (by kernel_rfl) (by kernel_rfl) (by kernel_rfl) (fun _ _ _ h => h) (Or.inl ⟨by rfl, ?_⟩) (by assumption) ?_
              rotate_left
              · intro w hSw
                try dsimp only at hSw
                first | (go_simp; done) | (go_simp; with_reducible rfl)
              try simp only [Act.put, List.setIfInBounds_toArray, List.set_cons_zero, List.set_cons_succ]
              refine wpAnyH_take (i := 8) (v := ?_) (take_list rfl) (by kernel_rfl) (by kernel_rfl) (by kernel_rfl) (fun _ _ _ h => h) (Or.inl ⟨by rfl, ?_⟩) (by assumption) ?_
              rotate_left
              · intro w hSw
                try dsimp only at hSw
                first | (go_simp; done) | (go_simp; with_reducible rfl)
              try simp only [Act.put, List.setIfInBounds_toArray, List.set_cons_zero, List.set_cons_succ]
              refine wpAnyH_take (i := 9) (v := ?_) (take_list rfl) (by kernel_rfl) (by kernel_rfl) (by kernel_rfl) (fun _ _ _ h => h) (Or.inl ⟨by rfl, ?_⟩) (by assumption) ?_
              rotate_left
              · intro w hSw
                try dsimp only at hSw
                first | (go_simp; done) | (go_simp; with_reducible rfl)
              try simp only [Act.put, List.setIfInBounds_toArray, List.set_cons_zero, List.set_cons_succ]
              refine wpAnyH_take (i := 10) (v := ?_) (take_list rfl) (by kernel_rfl) (by kernel_rfl) (by kernel_rfl) (fun _ _ _ h => h) (Or.inl ⟨by rfl, ?_⟩) (by assumption) ?_
              rotate_left
              · intro w hSw
                try dsimp only at hSw
                first | (go_simp; done) | (go_simp; with_reducible rfl)
              try simp only [Act.put, List.setIfInBounds_toArray, List.set_cons_zero, List.set_cons_succ]
              refine wpAnyH_take (i := 11) (v := ?_) (take_list rfl) (by kernel_rfl) (by kernel_rfl) (by kernel_rfl) (fun _ _ _ h => h) (Or.inl ⟨by rfl, ?_⟩) (by assumption) ?_
              rotate_left
              · intro w hSw
                try dsimp only at hSw
                first | (go_simp; done) | (go_simp; with_reducible rfl)
              try simp only [Act.put, List.setIfInBounds_toArray, List.set_cons_zero, List.set_cons_succ]
              refine wpAnyH_take (i := 12) (v := ?_) (take_list rfl) (by kernel_rfl) (by kernel_rfl) (by kernel_rfl) (fun _ _ _ h => h) (Or.inl ⟨by rfl, ?_⟩) (by assumption) ?_
              rotate_left
              · intro w hSw
                try dsimp only at hSw
                first | (go_simp; done) | (go_simp; with_reducible rfl)
              try simp only [Act.put, List.setIfInBounds_toArray, List.set_cons_zero, List.set_cons_succ]
              refine wpAnyH_take (i := 13) (v := ?_) (take_list rfl) (by kernel_rfl) (by kernel_rfl) (by kernel_rfl) (fun _ _ _ h => h) (Or.inl ⟨by rfl, ?_⟩) (by assumption) ?_
              rotate_left
              · intro w hSw
                try dsimp only at hSw
                first | (go_simp; done) | (go_simp; with_reducible rfl)
              try simp only [Act.put, List.setIfInBounds_toArray, List.set_cons_zero, List.set_cons_succ]
              refine wpAnyH_take (i := 14) (v := ?_) (take_list rfl) (by kernel_rfl) (by kernel_rfl) (by kernel_rfl) (fun _ _ _ h => h) (Or.inl ⟨by rfl, ?_⟩) (by assumption) ?_
              rotate_left
              · intro w hSw
                try dsimp only at hSw
                first | (go_simp; done) | (go_simp; with_reducible rfl)
              try simp only [Act.put, List.setIfInBounds_toArray, List.set_cons_zero, List.set_cons_succ]
              refine wpAnyH_take (i := 15) (v := ?_) (take_list rfl) (by kernel_rfl) (by kernel_rfl) (by kernel_rfl) (fun _ _ _ h => h) (Or.inl ⟨by rfl, ?_⟩) (by assumption) ?_
              rotate_left
              · intro w hSw
                try dsimp only at hSw
                first | (go_simp; done) | (go_simp; with_reducible rfl)
              try simp only [Act.put, List.setIfInBounds_toArray, List.set_cons_zero, List.set_cons_succ]
              refine wpAnyH_take (i := 16) (v := ?_) (take_list rfl) (by kernel_rfl) (by kernel_rfl) (by kernel_rfl) (fun _ _ _ h => h) (Or.inl ⟨by rfl, ?_⟩) (by assumption) ?_
              rotate_left
              · intro w hSw
                try dsimp only at hSw
                first | (go_simp; done) | (go_simp; with_reducible rfl)
              try simp only [Act.put, List.setIfInBounds_toArray, List.set_cons_zero, List.set_cons_succ]
              refine wpAnyH_take (i := 17) (v := ?_) (take_list rfl) (by kernel_rfl) (by kernel_rfl) (by kernel_rfl) (fun _ _ _ h => h) (Or.inl ⟨by rfl, ?_⟩) (by assumption) ?_
              rotate_left
              · intro w hSw
                try dsimp only at hSw
                first | (go_simp; done) | (go_simp; with_reducible rfl)
              try simp only [Act.put, List.setIfInBounds_toArray, List.set_cons_zero, List.set_cons_succ]
              refine wpAnyH_take (i := 18) (v := ?_) (take_list rfl) (by kernel_rfl) (by kernel_rfl) (by kernel_rfl) (fun _ _ _ h => h) (Or.inl ⟨by rfl, ?_⟩) (by assumption) ?_
              rotate_left
              · intro w hSw
                try dsimp only at hSw
                first | (go_simp; done) | (go_simp; with_reducible rfl)
              try simp only [Act.put, List.setIfInBounds_toArray, List.set_cons_zero, List.set_cons_succ]
              refine wpAnyH_take (i := 19) (v := ?_) (take_list rfl) (by kernel_rfl) (by kernel_rfl) (by kernel_rfl) (fun _ _ _ h => h) (Or.inl ⟨by rfl, ?_⟩) (by assumption) ?_
              rotate_left
              · intro w hSw
                try dsimp only at hSw
                first | (go_simp; done) | (go_simp; with_reducible rfl)
              try simp only [Act.put, List.setIfInBounds_toArray, List.set_cons_zero, List.set_cons_succ]
              refine wpAnyH_take (i := 20) (v := ?_) (take_list rfl) (by kernel_rfl) (by kernel_rfl) (by kernel_rfl) (fun _ _ _ h => h) (Or.inl ⟨by rfl, ?_⟩) (by assumption) ?_
              rotate_left
              · intro w hSw
                try dsimp only at hSw
                first | (go_simp; done) | (go_simp; with_reducible rfl)
              try simp only [Act.put, List.setIfInBounds_toArray, List.set_cons_zero, List.set_cons_succ]
              refine wpAnyH_take (i := 21) (v := ?_) (take_list rfl) (by kernel_rfl) (by kernel_rfl) (by kernel_rfl) (fun _ _ _ h => h) (Or.inl ⟨by rfl, ?_⟩) (by assumption) ?_
              rotate_left
              · intro w hSw
                try dsimp only at hSw
                first | (go_simp; done) | (go_simp; with_reducible rfl)
              try simp only [Act.put, List.setIfInBounds_toArray, List.set_cons_zero, List.set_cons_succ]
              refine wpAnyH_take (i := 22) (v := ?_) (take_list rfl) (by kernel_rfl) (by kernel_rfl) (by kernel_rfl) (fun _ _ _ h => h) (Or.inl ⟨by rfl, ?_⟩) (by assumption) ?_
              rotate_left
              · intro w hSw
                try dsimp only at hSw
                first | (go_simp; done) | (go_simp; with_reducible rfl)
              try simp only [Act.put, List.setIfInBounds_toArray, List.set_cons_zero, List.set_cons_succ]
              refine wpAnyH_take (i := 24) (v := ?_) (take_list rfl) (by kernel_rfl) (by kernel_rfl) (by kernel_rfl) (fun _ _ _ h => h) (Or.inl ⟨by rfl, ?_⟩) (by assumption) ?_
              rotate_left
              · intro w hSw
                try dsimp only at hSw
                first | (go_simp; done) | (go_simp; with_reducible rfl)
              try simp only [Act.put, List.setIfInBounds_toArray, List.set_cons_zero, List.set_cons_succ]
              refine wpAnyH_ready (rs := [23]) (by kernel_rfl) (by simp) ?_
              refine AllReadyH.cons (take_list rfl) (fun K hK => ?_) ?_
              · skip
                go_simp
                refine (HO.out B8 c8 _).mono ?_
                rintro e x1 ⟨rfl, hbx⟩
                dsimp only
                have HE2 : Hid (Below W13.heap.size W13 x1) := Lib.hid (ext_trans (by repeat (first | exact Below.refl _ _ | exact HE5.out | exact HE4.out | exact HE3.out | exact HE2.out | apply ext_drew | apply ext_drewN | apply ext_alloc)) hbx)
                clear hbx
                refine hK.out _ _ ?_ (fun hHeld => ?_)
                · try dsimp only
                  exact HKz.out _ (by repeat (first | exact Below.refl _ _ | exact HE5.out | exact HE4.out | exact HE3.out | exact HE2.out | apply ext_drew | apply ext_drewN | apply ext_alloc))
                clear hK K
                refine wpAnyH_ready (rs := [25]) (by kernel_rfl) (by simp) ?_
                refine AllReadyH.cons (take_list rfl) (fun K hK => ?_) ?_
                · skip
                  go_simp
                  refine (HO.out (some ⟨gB, oB, none⟩) c _).mono ?_
                  rintro e x2 ⟨rfl, hbx⟩
                  dsimp only
                  have HE3 : Hid (Below W13.heap.size W13 x2) := Lib.hid (ext_trans (by repeat (first | exact Below.refl _ _ | exact HE5.out | exact HE4.out | exact HE3.out | exact HE2.out | apply ext_drew | apply ext_drewN | apply ext_alloc)) hbx)
                  clear hbx
                  refine hK.out _ _ ?_ (fun hHeld => ?_)
                  · try dsimp only
                    exact HKz.out _ (by repeat (first | exact Below.refl _ _ | exact HE5.out | exact HE4.out | exact HE3.out | exact HE2.out | apply ext_drew | apply ext_drewN | apply ext_alloc))
                  clear hK K
                  refine wpAnyH_ready (rs := [26]) (by kernel_rfl) (by simp) ?_
                  refine AllReadyH.cons (take_list rfl) (fun K hK => ?_) ?_
                  · skip
                    go_simp
                    refine (HSm.out B8 (some ⟨gB, oB, none⟩) c8 c _ (HinX.out.ext (by repeat (first | exact Below.refl _ _ | exact HE5.out | exact HE4.out | exact HE3.out | exact HE2.out | apply ext_drew | apply ext_drewN | apply ext_alloc))) (HinY.out.ext (by repeat (first | exact Below.refl _ _ | exact HE5.out | exact HE4.out | exact HE3.out | exact HE2.out | apply ext_drew | apply ext_drewN | apply ext_alloc)))).mono ?_
                    rintro e x3 ⟨rfl, hbx⟩
                    dsimp only
                    have HE4 : Hid (Below W13.heap.size W13 x3) := Lib.hid (ext_trans (by repeat (first | exact Below.refl _ _ | exact HE5.out | exact HE4.out | exact HE3.out | exact HE2.out | apply ext_drew | apply ext_drewN | apply ext_alloc)) hbx)
                    clear hbx
                    refine hK.out _ _ ?_ (fun hHeld => ?_)
                    · try dsimp only
                      exact HKz.out _ (by repeat (first | exact Below.refl _ _ | exact HE5.out | exact HE4.out | exact HE3.out | exact HE2.out | apply ext_drew | apply ext_drewN | apply ext_alloc))
                    clear hK K
                    refine wpAnyH_take (i := 27) (v := ?_) (take_list rfl) (by kernel_rfl) (by kernel_rfl) (by kernel_rfl) (fun _ _ _ h => h) (Or.inl ⟨by rfl, ?_⟩) (by assumption) ?_
                    rotate_left
                    · intro w hSw
                      try dsimp only at hSw
                      first | (go_simp; done) | (go_simp; with_reducible rfl)
                    try simp only [Act.put, List.setIfInBounds_toArray, List.set_cons_zero, List.set_cons_succ]
                    refine wpAnyH_take (i := 28) (v := ?_) (take_list rfl) (by kernel_rfl) (by kernel_rfl) (by kernel_rfl) (fun _ _ _ h => h) (Or.inl ⟨by rfl, ?_⟩) (by assumption) ?_
                    rotate_left
                    · intro w hSw
                      try dsimp only at hSw
                      first | (go_simp; done) | (go_simp; with_reducible rfl)
                    try simp only [Act.put, List.setIfInBounds_toArray, List.set_cons_zero, List.set_cons_succ]
                    refine wpAnyH_ready (rs := [29]) (by kernel_rfl) (by simp) ?_
                    refine AllReadyH.cons (take_list rfl) (fun K hK => ?_) ?_
                    · skip
                      go_simp
                      refine (known18_any _ (Ht.out.ext (ext_trans Hb13.out (by repeat (first | exact Below.refl _ _ | exact HE5.out | exact HE4.out | exact HE3.out | exact HE2.out | apply ext_drew | apply ext_drewN | apply ext_alloc))))).mono ?_
                      rintro e x4 ⟨rfl, hbx⟩
                      dsimp only
                      have HE5 : Hid (Below W13.heap.size W13 x4) := Lib.hid (ext_trans (by repeat (first | exact Below.refl _ _ | exact HE5.out | exact HE4.out | exact HE3.out | exact HE2.out | apply ext_drew | apply ext_drewN | apply ext_alloc)) hbx)
                      clear hbx
                      refine hK.out _ _ ?_ (fun hHeld => ?_)
                      · try dsimp only
                        exact HKz.out _ (by repeat (first | exact Below.refl _ _ | exact HE5.out | exact HE4.out | exact HE3.out | exact HE2.out | apply ext_drew | apply ext_drewN | apply ext_alloc))
                      clear hK K
                      refine wpAnyH_take (i := 30) (v := ?_) (take_list rfl) (by kernel_rfl) (by kernel_rfl) (by kernel_rfl) (fun _ _ _ h => h) (Or.inl ⟨by rfl, ?_⟩) (by assumption) ?_
                      rotate_left
                      · intro w hSw
                        try dsimp only at hSw
                        first | (go_simp; done) | (go_simp; with_reducible rfl)
                      try simp only [Act.put, List.setIfInBounds_toArray, List.set_cons_zero, List.set_cons_succ]
                      refine wpAnyH_take (i := 31) (v := ?_) (take_list rfl) (by kernel_rfl) (by kernel_rfl) (by kernel_rfl) (fun _ _ _ h => h) (Or.inl ⟨by rfl, ?_⟩) (by assumption) ?_
                      rotate_left
                      · intro w hSw
                        try dsimp only at hSw
                        first | (go_simp; done) | (go_simp; with_reducible rfl)
                      try simp only [Act.put, List.setIfInBounds_toArray, List.set_cons_zero, List.set_cons_succ]
                      refine wpAnyH_done (by kernel_rfl) ?_ _
                      go_wp2
                      go_ret
                      exact ⟨rfl, ext_trans Hb13.out HE5.out⟩
                    exact AllReadyH.nil
                  exact AllReadyH.nil
                exact AllReadyH.nil
              exact AllReadyH.nil
            exact AllReadyH.nil
          exact AllReadyH.nil
        exact AllReadyH.nil
      exact AllReadyH.nil
end Go.Proofs.YtpjgkacekelkdaaDoor
