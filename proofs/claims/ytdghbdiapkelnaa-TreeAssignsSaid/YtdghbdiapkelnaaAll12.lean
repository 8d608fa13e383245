/-
  Texts of this claim, joined (part 12): contracts and lemmas that the last text goes by. No statement of the seat is proved here.
-/
import Derived.Test.YtdghbdiapkelnaaAll6
import Derived.Test.YtdghbdiapkelnaaAll10
import Derived.Test.YtdghbdiapkelnaaAll3
import Derived.Deep.QuietTactic
import Derived.Deep.RegionHeld3
set_option linter.unusedVariables false
set_option linter.unusedSimpArgs false
/-
  The reference's leaf, over, told, lay, New. No statement of the seat is proved here.
-/
namespace Go.Proofs.Ytdghbdiapkelnaa
open Go Go.RowKit
set_option maxRecDepth 100000

/-- the place of a row's leaf; -1: there is none -/
def leafI (t : Tr) (l : List Tok) : Int := match leafAt t l with | some i => (i : Int) | none => -1
theorem leafI_hit {t : Tr} {l : List Tok} {k : Nat} (hk : k < t.lv.length) (h : isLf l t.lv[k] = true) (h2 : ∀ j (hj : j < t.lv.length), j < k → isLf l t.lv[j] = false) : leafI t l = (k : Int) := by
  have : leafAt t l = some k := List.findIdx?_eq_some_iff_getElem.2 ⟨hk, h, fun j hj => by rw [h2 j (by omega) hj]; decide⟩
  unfold leafI
  rw [this]
theorem leafI_none {t : Tr} {l : List Tok} (h2 : ∀ j (hj : j < t.lv.length), j < t.lv.length → isLf l t.lv[j] = false) : leafI t l = -1 := by
  have : leafAt t l = none := List.findIdx?_eq_none_iff.2 (fun x hx => by
    obtain ⟨j, hj, rfl⟩ := List.getElem_of_mem hx
    exact h2 j hj hj)
  unfold leafI
  rw [this]
section
variable {S : Nat → Prop} {w : World} {g : Nat} {t : Tr}
set_option maxHeartbeats 8000000 in
theorem rleaf_any (h : RTIn S w g t) (B : Option Addr) (d : Nat) (ts : List Tok) (hT : ToksAt w B ts) (hl : ts.length ≤ 64) (hn : t.lv.length ≤ 1000000) :
    Calls Try.prog 37 #[.pointer (some ⟨g, 0, none⟩), .slice B ts.length d] w fun e w' => e = .returned (.int .i64 (leafI t ts)) ∧ Below w.heap.size w w' := by
  obtain ⟨A, c, xs, R, dR, ys, h⟩ := h
  have H := Lib.hid h
  have HT := Lib.hid hT
  have hli : (ts.length : Int) ≤ 64 := by omega
  have hni : (t.lv.length : Int) ≤ 1000000 := by omega
  have HKA : Hid (∀ W, Below w.heap.size w W → Calls Try.prog 40 #[.slice B ts.length d, .int .i64 0] W fun e w' => e = .returned (strV (keyA ts)) ∧ w' = W) := Lib.hid (fun W hW => rkeyA B d ts W (HT.out.ext hW) (by omega))
  have HKB : Hid (∀ W, Below w.heap.size w W → Calls Try.prog 40 #[.slice B ts.length d, .int .i64 1] W fun e w' => e = .returned (strV (keyB ts)) ∧ w' = W) := Lib.hid (fun W hW => rkeyB B d ts W (HT.out.ext hW) (by omega))
  have HHit : Hid (∀ k (hk : k < t.lv.length), isLf ts t.lv[k] = true → (∀ j (hj : j < t.lv.length), j < k → isLf ts t.lv[j] = false) → leafI t ts = (k : Int)) := Lib.hid (fun k hk => leafI_hit hk)
  have HNo : Hid ((∀ j (hj : j < t.lv.length), j < t.lv.length → isLf ts t.lv[j] = false) → leafI t ts = -1) := Lib.hid leafI_none
  generalize leafI t ts = L at *
  clear h hT
  go_enter Try.func37, Try.ntmps37
  go_wp2
  go_loopw [5] (fun i wr => ∃ k : Nat, k ≤ t.lv.length ∧ i = .int .i64 (k : Int) ∧ Hid (∀ j (hj : j < t.lv.length), j < k → isLf ts t.lv[j] = false) ∧ Hid (Below w.heap.size w wr)) (fun i _ => t.lv.length - (intOf i).toNat)
  case atStart => exact ⟨0, Nat.zero_le _, rfl, Lib.hid (fun j _ h => absurd h (Nat.not_lt_zero _)), Lib.hid (Below.refl _ _)⟩
  case round =>
    obtain ⟨k, hk, rfl, HSo, Hb⟩ := hrel
    have x1 := (H.out.ext Hb.out).blk.cell 1
    simp only [List.getElem?_toArray, List.getElem?_cons_zero, List.getElem?_cons_succ] at x1
    by_cases hlt : k < t.lv.length
    · have hki : (k : Int) < (t.lv.length : Int) := by omega
      obtain ⟨gR, oR, G, e, rfl, c0, c1, c2, -, -, -, -⟩ := (H.out.ext Hb.out).leaf hlt
      have HX := HHit.out k hlt
      have hY : isLf ts t.lv[k] = false → ∀ j (hj : j < t.lv.length), j < k + 1 → isLf ts t.lv[j] = false := fun h5 j hj hj2 => by
        rcases Nat.lt_succ_iff_lt_or_eq.1 hj2 with h6 | rfl
        · exact HSo.out j hj h6
        · exact h5
      have hI : isLf ts t.lv[k] = decide (t.lv[k].count = ts.length ∧ t.lv[k].a = keyA ts ∧ t.lv[k].b = keyB ts) := rfl
      have HHx : Hid (t.lv[k].count = ts.length → t.lv[k].a = keyA ts → t.lv[k].b = keyB ts → L = (k : Int)) := Lib.hid (fun a b c => HX (by rw [hI]; exact decide_eq_true ⟨a, b, c⟩) HSo.out)
      have HYx : Hid (¬ (t.lv[k].count = ts.length ∧ t.lv[k].a = keyA ts ∧ t.lv[k].b = keyB ts) → ∀ j (hj : j < t.lv.length), j < k + 1 → isLf ts t.lv[j] = false) := Lib.hid (fun h5 => hY (by rw [hI]; exact decide_eq_false h5))
      obtain ⟨YA, ZA, ea1, ea2, hca⟩ := str_cases t.lv[k].a (keyA ts)
      obtain ⟨YB, ZB, eb1, eb2, hcb⟩ := str_cases t.lv[k].b (keyB ts)
      rw [ea1] at c1
      rw [eb1] at c2
      rw [ea2] at HKA
      rw [eb2] at HKB
      unfold natV at c0
      have HS : Hid (∀ W, Below wr.heap.size wr W → W.cell? ⟨g, 1, none⟩ = some (.slice (some ⟨gR, oR, none⟩) t.lv.length dR) ∧ W.cell? ⟨gR, oR + k * 4, none⟩ = some (.int .i64 (t.lv[k].count : Int)) ∧ W.cell? ⟨gR, oR + k * 4 + 1, none⟩ = some (.string YA) ∧ W.cell? ⟨gR, oR + k * 4 + 2, none⟩ = some (.string YB)) := Lib.hid (fun W hW =>
        have f : ∀ {a v}, wr.cell? a = some v → W.cell? a = some v := fun h => cell_only h (Only.of_ext (S := fun _ => False) hW) (fun h => h)
        ⟨f x1, f c0, f c1, f c2⟩)
      have HKA2 : Hid (∀ W, Below wr.heap.size wr W → Calls Try.prog 40 #[.slice B ts.length d, .int .i64 0] W fun e w' => e = .returned (.string ZA) ∧ w' = W) := Lib.hid (fun W hW => HKA.out W (ext_trans Hb.out hW))
      have HKB2 : Hid (∀ W, Below wr.heap.size wr W → Calls Try.prog 40 #[.slice B ts.length d, .int .i64 1] W fun e w' => e = .returned (.string ZB) ∧ w' = W) := Lib.hid (fun W hW => HKB.out W (ext_trans Hb.out hW))
      clear HX hY hI ea1 ea2 eb1 eb2 c0 c1 c2
      have HCA := Lib.hid hca
      have HCB := Lib.hid hcb
      clear hca hcb
      generalize t.lv[k].a = a0 at *
      generalize t.lv[k].b = b0 at *
      generalize t.lv[k].count = n0 at *
      by_cases h1 : n0 = ts.length
      · subst h1
        rcases HCA.out with ⟨ha, rfl⟩ | ⟨ha, hfa⟩
        · rcases HCB.out with ⟨hb, rfl⟩ | ⟨hb, hfb⟩
          · have HL := Lib.hid (HHx.out rfl ha hb)
            clear ha hb
            have e0 := HS.out wr (Below.refl _ _)
            go_wp2
            go_region_held3 (fun W => W.cell? ⟨g, 1, none⟩ = some (.slice (some ⟨gR, oR, none⟩) t.lv.length dR) ∧ W.cell? ⟨gR, oR + k * 4, none⟩ = some (.int .i64 (ts.length : Int)) ∧ W.cell? ⟨gR, oR + k * 4 + 1, none⟩ = some (.string YA) ∧ W.cell? ⟨gR, oR + k * 4 + 2, none⟩ = some (.string YB)) (first | exact e0 | exact HS.out _ hb9) (first
              | (go_at_call 40; first | (with_reducible refine (HKA2.out _ ?_).mono ?_) | (with_reducible refine (HKB2.out _ ?_).mono ?_)
                 (repeat (first | exact Below.refl _ _ | refine ext_drewN ?_ _ | refine ext_drew ?_))
                 rintro e w9 ⟨rfl, hw9⟩; have hw9 := hw9.symm; subst hw9))
            go_wp2
            go_ret
            exact ⟨by rw [HL.out]; rfl, ext_trans Hb.out (by repeat (first | exact Below.refl _ _ | refine ext_drewN ?_ _ | refine ext_drew ?_))⟩
          · have HY2 := Lib.hid (HYx.out (fun h => hb h.2.2))
            clear ha hb
            have e0 := HS.out wr (Below.refl _ _)
            go_wp2
            go_region_held3 (fun W => W.cell? ⟨g, 1, none⟩ = some (.slice (some ⟨gR, oR, none⟩) t.lv.length dR) ∧ W.cell? ⟨gR, oR + k * 4, none⟩ = some (.int .i64 (ts.length : Int)) ∧ W.cell? ⟨gR, oR + k * 4 + 1, none⟩ = some (.string YA) ∧ W.cell? ⟨gR, oR + k * 4 + 2, none⟩ = some (.string YB)) (first | exact e0 | exact HS.out _ hb9) (first
              | (go_at_call 40; first | (with_reducible refine (HKA2.out _ ?_).mono ?_) | (with_reducible refine (HKB2.out _ ?_).mono ?_)
                 (repeat (first | exact Below.refl _ _ | refine ext_drewN ?_ _ | refine ext_drew ?_))
                 rintro e w9 ⟨rfl, hw9⟩; have hw9 := hw9.symm; subst hw9))
            go_wp2
            go_roundw
            case rel => exact ⟨k + 1, by omega, by go_num, HY2, Lib.hid (ext_trans Hb.out (by repeat (first | exact Below.refl _ _ | refine ext_drewN ?_ _ | refine ext_drew ?_)))⟩
            case measure => simp [intOf]; omega
        · have HY2 := Lib.hid (HYx.out (fun h => ha h.2.1))
          clear ha
          go_wp2
          refine wp_region_held_drew (S := (fun W => W.cell? ⟨g, 1, none⟩ = some (.slice (some ⟨gR, oR, none⟩) t.lv.length dR) ∧ W.cell? ⟨gR, oR + k * 4, none⟩ = some (.int .i64 (ts.length : Int)) ∧ W.cell? ⟨gR, oR + k * 4 + 1, none⟩ = some (.string YA) ∧ W.cell? ⟨gR, oR + k * 4 + 2, none⟩ = some (.string YB))) (by kernel_rfl) ?_ (fun hHeld => ?_)
          · exact HS.out _ (by repeat (first | exact Below.refl _ _ | refine ext_drewN ?_ _ | refine ext_drew ?_))
          refine wpAnyH_take (i := 0) (v := ?_) (take_list rfl) (by kernel_rfl) (by kernel_rfl) (by kernel_rfl) (fun _ _ _ h => h) (Or.inl ⟨by rfl, ?_⟩) (by assumption) ?_
          rotate_left
          · intro w hSw
            try dsimp only at hSw
            first | (go_simp; done) | (go_simp; with_reducible rfl)
          try simp only [Act.put, List.setIfInBounds_toArray, List.set_cons_zero, List.set_cons_succ]
          refine wpAnyH_take (i := 1) (v := ?_) (take_list rfl) (by kernel_rfl) (by kernel_rfl) (by kernel_rfl) (fun _ _ _ h => h) (Or.inl ⟨by rfl, ?_⟩) (by assumption) ?_
          rotate_left
          · intro w hSw
            try dsimp only at hSw
            first | (go_simp; done) | (go_simp; with_reducible rfl)
          try simp only [Act.put, List.setIfInBounds_toArray, List.set_cons_zero, List.set_cons_succ]
          refine wpAnyH_take (i := 2) (v := ?_) (take_list rfl) (by kernel_rfl) (by kernel_rfl) (by kernel_rfl) (fun _ _ _ h => h) (Or.inl ⟨by rfl, ?_⟩) (by assumption) ?_
          rotate_left
          · intro w hSw
            try dsimp only at hSw
            first | (go_simp; done) | (go_simp; with_reducible rfl)
          try simp only [Act.put, List.setIfInBounds_toArray, List.set_cons_zero, List.set_cons_succ]
          refine wpAnyH_take (i := 3) (v := ?_) (take_list rfl) (by kernel_rfl) (by kernel_rfl) (by kernel_rfl) (fun _ _ _ h => h) (Or.inl ⟨by rfl, ?_⟩) (by assumption) ?_
          rotate_left
          · intro w hSw
            try dsimp only at hSw
            first | (go_simp; done) | (go_simp; with_reducible rfl)
          try simp only [Act.put, List.setIfInBounds_toArray, List.set_cons_zero, List.set_cons_succ]
          refine wpAnyH_take (i := 4) (v := ?_) (take_list rfl) (by kernel_rfl) (by kernel_rfl) (by kernel_rfl) (fun _ _ _ h => h) (Or.inl ⟨by rfl, ?_⟩) (by assumption) ?_
          rotate_left
          · intro w hSw
            try dsimp only at hSw
            first | (go_simp; done) | (go_simp; with_reducible rfl)
          try simp only [Act.put, List.setIfInBounds_toArray, List.set_cons_zero, List.set_cons_succ]
          refine wpAnyH_take (i := 5) (v := ?_) (take_list rfl) (by kernel_rfl) (by kernel_rfl) (by kernel_rfl) (fun _ _ _ h => h) (Or.inl ⟨by rfl, ?_⟩) (by assumption) ?_
          rotate_left
          · intro w hSw
            try dsimp only at hSw
            first | (go_simp; done) | (go_simp; with_reducible rfl)
          try simp only [Act.put, List.setIfInBounds_toArray, List.set_cons_zero, List.set_cons_succ]
          refine wpAnyH_take (i := 6) (v := ?_) (take_list rfl) (by kernel_rfl) (by kernel_rfl) (by kernel_rfl) (fun _ _ _ h => h) (Or.inl ⟨by rfl, ?_⟩) (by assumption) ?_
          rotate_left
          · intro w hSw
            try dsimp only at hSw
            first | (go_simp; done) | (go_simp; with_reducible rfl)
          try simp only [Act.put, List.setIfInBounds_toArray, List.set_cons_zero, List.set_cons_succ]
          refine wpAnyH_take (i := 7) (v := ?_) (take_list rfl) (by kernel_rfl) (by kernel_rfl) (by kernel_rfl) (fun _ _ _ h => h) (Or.inl ⟨by rfl, ?_⟩) (by assumption) ?_
          rotate_left
          · intro w hSw
            try dsimp only at hSw
            first | (go_simp; done) | (go_simp; with_reducible rfl)
          try simp only [Act.put, List.setIfInBounds_toArray, List.set_cons_zero, List.set_cons_succ]
          refine wpAnyH_take (i := 8) (v := ?_) (take_list rfl) (by kernel_rfl) (by kernel_rfl) (by kernel_rfl) (fun _ _ _ h => h) (Or.inl ⟨by rfl, ?_⟩) (by assumption) ?_
          rotate_left
          · intro w hSw
            try dsimp only at hSw
            first | (go_simp; done) | (go_simp; with_reducible rfl)
          try simp only [Act.put, List.setIfInBounds_toArray, List.set_cons_zero, List.set_cons_succ]
          refine wpAnyH_take (i := 9) (v := ?_) (take_list rfl) (by kernel_rfl) (by kernel_rfl) (by kernel_rfl) (fun _ _ _ h => h) (Or.inl ⟨by rfl, ?_⟩) (by assumption) ?_
          rotate_left
          · intro w hSw
            try dsimp only at hSw
            first | (go_simp; done) | (go_simp; with_reducible rfl)
          try simp only [Act.put, List.setIfInBounds_toArray, List.set_cons_zero, List.set_cons_succ]
          refine wpAnyH_take (i := 10) (v := ?_) (take_list rfl) (by kernel_rfl) (by kernel_rfl) (by kernel_rfl) (fun _ _ _ h => h) (Or.inl ⟨by rfl, ?_⟩) (by assumption) ?_
          rotate_left
          · intro w hSw
            try dsimp only at hSw
            first | (go_simp; done) | (go_simp; with_reducible rfl)
          try simp only [Act.put, List.setIfInBounds_toArray, List.set_cons_zero, List.set_cons_succ]
          refine wpAnyH_take (i := 11) (v := ?_) (take_list rfl) (by kernel_rfl) (by kernel_rfl) (by kernel_rfl) (fun _ _ _ h => h) (Or.inl ⟨by rfl, ?_⟩) (by assumption) ?_
          rotate_left
          · intro w hSw
            try dsimp only at hSw
            first | (go_simp; done) | (go_simp; with_reducible rfl)
          try simp only [Act.put, List.setIfInBounds_toArray, List.set_cons_zero, List.set_cons_succ]
          refine wpAnyH_take (i := 12) (v := ?_) (take_list rfl) (by kernel_rfl) (by kernel_rfl) (by kernel_rfl) (fun _ _ _ h => h) (Or.inl ⟨by rfl, ?_⟩) (by assumption) ?_
          rotate_left
          · intro w hSw
            try dsimp only at hSw
            first | (go_simp; done) | (go_simp; with_reducible rfl)
          try simp only [Act.put, List.setIfInBounds_toArray, List.set_cons_zero, List.set_cons_succ]
          refine wpAnyH_take (i := 13) (v := ?_) (take_list rfl) (by kernel_rfl) (by kernel_rfl) (by kernel_rfl) (fun _ _ _ h => h) (Or.inl ⟨by rfl, ?_⟩) (by assumption) ?_
          rotate_left
          · intro w hSw
            try dsimp only at hSw
            first | (go_simp; done) | (go_simp; with_reducible rfl)
          try simp only [Act.put, List.setIfInBounds_toArray, List.set_cons_zero, List.set_cons_succ]
          refine wpAnyH_take (i := 14) (v := ?_) (take_list rfl) (by kernel_rfl) (by kernel_rfl) (by kernel_rfl) (fun _ _ _ h => h) (Or.inl ⟨by rfl, ?_⟩) (by assumption) ?_
          rotate_left
          · intro w hSw
            try dsimp only at hSw
            first | (go_simp; done) | (go_simp; with_reducible rfl)
          try simp only [Act.put, List.setIfInBounds_toArray, List.set_cons_zero, List.set_cons_succ]
          refine wpAnyH_take (i := 15) (v := ?_) (take_list rfl) (by kernel_rfl) (by kernel_rfl) (by kernel_rfl) (fun _ _ _ h => h) (Or.inl ⟨by rfl, ?_⟩) (by assumption) ?_
          rotate_left
          · intro w hSw
            try dsimp only at hSw
            first | (go_simp; done) | (go_simp; with_reducible rfl)
          try simp only [Act.put, List.setIfInBounds_toArray, List.set_cons_zero, List.set_cons_succ]
          refine wpAnyH_take (i := 16) (v := ?_) (take_list rfl) (by kernel_rfl) (by kernel_rfl) (by kernel_rfl) (fun _ _ _ h => h) (Or.inl ⟨by rfl, ?_⟩) (by assumption) ?_
          rotate_left
          · intro w hSw
            try dsimp only at hSw
            first | (go_simp; done) | (go_simp; with_reducible rfl)
          try simp only [Act.put, List.setIfInBounds_toArray, List.set_cons_zero, List.set_cons_succ]
          refine wpAnyH_take (i := 17) (v := ?_) (take_list rfl) (by kernel_rfl) (by kernel_rfl) (by kernel_rfl) (fun _ _ _ h => h) (Or.inl ⟨by rfl, ?_⟩) (by assumption) ?_
          rotate_left
          · intro w hSw
            try dsimp only at hSw
            first | (go_simp; done) | (go_simp; with_reducible rfl)
          try simp only [Act.put, List.setIfInBounds_toArray, List.set_cons_zero, List.set_cons_succ]
          refine wpAnyH_take (i := 18) (v := ?_) (take_list rfl) (by kernel_rfl) (by kernel_rfl) (by kernel_rfl) (fun _ _ _ h => h) (Or.inl ⟨by rfl, ?_⟩) (by assumption) ?_
          rotate_left
          · intro w hSw
            try dsimp only at hSw
            first | (go_simp; done) | (go_simp; with_reducible rfl)
          try simp only [Act.put, List.setIfInBounds_toArray, List.set_cons_zero, List.set_cons_succ]
          refine wpAnyH_take (i := 19) (v := ?_) (take_list rfl) (by kernel_rfl) (by kernel_rfl) (by kernel_rfl) (fun _ _ _ h => h) (Or.inl ⟨by rfl, ?_⟩) (by assumption) ?_
          rotate_left
          · intro w hSw
            try dsimp only at hSw
            first | (go_simp; done) | (go_simp; with_reducible rfl)
          try simp only [Act.put, List.setIfInBounds_toArray, List.set_cons_zero, List.set_cons_succ]
          refine wpAnyH_take (i := 20) (v := ?_) (take_list rfl) (by kernel_rfl) (by kernel_rfl) (by kernel_rfl) (fun _ _ _ h => h) (Or.inl ⟨by rfl, ?_⟩) (by assumption) ?_
          rotate_left
          · intro w hSw
            try dsimp only at hSw
            first | (go_simp; done) | (go_simp; with_reducible rfl)
          try simp only [Act.put, List.setIfInBounds_toArray, List.set_cons_zero, List.set_cons_succ]
          refine wpAnyH_ready (rs := [21]) (by kernel_rfl) (by simp) ?_
          refine AllReadyH.cons (take_list rfl) (fun K hK => ?_) ?_
          · skip
            go_simp
            refine (HKA2.out _ (by repeat (first | exact Below.refl _ _ | refine ext_drewN ?_ _ | refine ext_drew ?_))).mono ?_
            rintro e x1 ⟨rfl, hx1⟩
            have hx1 := hx1.symm
            subst hx1
            dsimp only
            refine hK.out _ _ ?_ (fun hHeld => ?_)
            · try dsimp only
              exact HS.out _ (by repeat (first | exact Below.refl _ _ | refine ext_drewN ?_ _ | refine ext_drew ?_))
            clear hK K
            refine wpAnyH_take (i := 22) (v := ?_) (take_list rfl) (by kernel_rfl) (by kernel_rfl) (by kernel_rfl) (fun _ _ _ h => h) (Or.inl ⟨by rfl, ?_⟩) (by assumption) ?_
            rotate_left
            · intro w hSw
              try dsimp only at hSw
              first | (go_simp; done) | (go_simp; with_reducible rfl)
            try simp only [Act.put, List.setIfInBounds_toArray, List.set_cons_zero, List.set_cons_succ]
            refine wpAnyH_take (i := 23) (v := ?_) (take_list rfl) (by kernel_rfl) (by kernel_rfl) (by kernel_rfl) (fun _ _ _ h => h) (Or.inl ⟨by rfl, ?_⟩) (by assumption) ?_
            rotate_left
            · intro w hSw
              try dsimp only at hSw
              first | (go_simp; done) | (go_simp; with_reducible rfl)
            try simp only [Act.put, List.setIfInBounds_toArray, List.set_cons_zero, List.set_cons_succ]
            refine wpAnyH_take (i := 24) (v := ?_) (take_list rfl) (by kernel_rfl) (by kernel_rfl) (by kernel_rfl) (fun _ _ _ h => h) (Or.inl ⟨by rfl, ?_⟩) (by assumption) ?_
            rotate_left
            · intro w hSw
              try dsimp only at hSw
              first | (go_simp; done) | (go_simp; with_reducible rfl)
            try simp only [Act.put, List.setIfInBounds_toArray, List.set_cons_zero, List.set_cons_succ]
            refine wpAnyH_take (i := 25) (v := undef) (take_list rfl) (by kernel_rfl) (by kernel_rfl) (by kernel_rfl) (fun _ _ _ h => h) (Or.inr ⟨by rfl, rfl⟩) (by assumption) ?_
            try simp only [Act.put, List.setIfInBounds_toArray, List.set_cons_zero, List.set_cons_succ]
            refine wpAnyH_take (i := 26) (v := undef) (take_list rfl) (by kernel_rfl) (by kernel_rfl) (by kernel_rfl) (fun _ _ _ h => h) (Or.inr ⟨by rfl, rfl⟩) (by assumption) ?_
            try simp only [Act.put, List.setIfInBounds_toArray, List.set_cons_zero, List.set_cons_succ]
            refine wpAnyH_take (i := 27) (v := undef) (take_list rfl) (by kernel_rfl) (by kernel_rfl) (by kernel_rfl) (fun _ _ _ h => h) (Or.inr ⟨by rfl, rfl⟩) (by assumption) ?_
            try simp only [Act.put, List.setIfInBounds_toArray, List.set_cons_zero, List.set_cons_succ]
            refine wpAnyH_take (i := 28) (v := undef) (take_list rfl) (by kernel_rfl) (by kernel_rfl) (by kernel_rfl) (fun _ _ _ h => h) (Or.inr ⟨by rfl, rfl⟩) (by assumption) ?_
            try simp only [Act.put, List.setIfInBounds_toArray, List.set_cons_zero, List.set_cons_succ]
            refine wpAnyH_take (i := 29) (v := undef) (take_list rfl) (by kernel_rfl) (by kernel_rfl) (by kernel_rfl) (fun _ _ _ h => h) (Or.inr ⟨by rfl, rfl⟩) (by assumption) ?_
            try simp only [Act.put, List.setIfInBounds_toArray, List.set_cons_zero, List.set_cons_succ]
            refine wpAnyH_take (i := 30) (v := undef) (take_list rfl) (by kernel_rfl) (by kernel_rfl) (by kernel_rfl) (fun _ _ _ h => h) (Or.inr ⟨by rfl, rfl⟩) (by assumption) ?_
            try simp only [Act.put, List.setIfInBounds_toArray, List.set_cons_zero, List.set_cons_succ]
            refine wpAnyH_take (i := 31) (v := undef) (take_list rfl) (by kernel_rfl) (by kernel_rfl) (by kernel_rfl) (fun _ _ _ h => h) (Or.inr ⟨by rfl, rfl⟩) (by assumption) ?_
            try simp only [Act.put, List.setIfInBounds_toArray, List.set_cons_zero, List.set_cons_succ]
            refine wpAnyH_take (i := 32) (v := undef) (take_list rfl) (by kernel_rfl) (by kernel_rfl) (by kernel_rfl) (fun _ _ _ h => h) (Or.inr ⟨by rfl, rfl⟩) (by assumption) ?_
            try simp only [Act.put, List.setIfInBounds_toArray, List.set_cons_zero, List.set_cons_succ]
            refine wpAnyH_take (i := 33) (v := undef) (take_list rfl) (by kernel_rfl) (by kernel_rfl) (by kernel_rfl) (fun _ _ _ h => h) (Or.inr ⟨by rfl, rfl⟩) (by assumption) ?_
            try simp only [Act.put, List.setIfInBounds_toArray, List.set_cons_zero, List.set_cons_succ]
            refine wpAnyH_take (i := 34) (v := undef) (take_list rfl) (by kernel_rfl) (by kernel_rfl) (by kernel_rfl) (fun _ _ _ h => h) (Or.inr ⟨by rfl, rfl⟩) (by assumption) ?_
            try simp only [Act.put, List.setIfInBounds_toArray, List.set_cons_zero, List.set_cons_succ]
            refine wpAnyH_take (i := 35) (v := undef) (take_list rfl) (by kernel_rfl) (by kernel_rfl) (by kernel_rfl) (fun _ _ _ h => h) (Or.inr ⟨by rfl, rfl⟩) (by assumption) ?_
            try simp only [Act.put, List.setIfInBounds_toArray, List.set_cons_zero, List.set_cons_succ]
            refine wpAnyH_take (i := 36) (v := ?_) (take_list rfl) (by kernel_rfl) (by kernel_rfl) (by kernel_rfl) (fun _ _ _ h => h) (Or.inl ⟨by rfl, ?_⟩) (by assumption) ?_
            rotate_left
            · intro w hSw
              try dsimp only at hSw
              first | (go_simp; done) | (go_simp; with_reducible rfl)
            try simp only [Act.put, List.setIfInBounds_toArray, List.set_cons_zero, List.set_cons_succ]
            refine wpAnyH_done (by kernel_rfl) ?_ _
            go_wp2
            go_roundw
            case rel => exact ⟨k + 1, by omega, by go_num, HY2, Lib.hid (ext_trans Hb.out (by repeat (first | exact Below.refl _ _ | refine ext_drewN ?_ _ | refine ext_drew ?_)))⟩
            case measure => simp [intOf]; omega
          exact AllReadyH.nil
      · have HY2 := Lib.hid (HYx.out (fun h => h1 h.1))
        have hne0 : ¬ (n0 : Int) = (ts.length : Int) := by omega
        have hne : ((n0 : Int) == (ts.length : Int)) = false := beq_eq_false_iff_ne.2 hne0
        clear h1
        go_wp2
        refine wp_region_held_drew (S := (fun W => W.cell? ⟨g, 1, none⟩ = some (.slice (some ⟨gR, oR, none⟩) t.lv.length dR) ∧ W.cell? ⟨gR, oR + k * 4, none⟩ = some (.int .i64 (n0 : Int)) ∧ W.cell? ⟨gR, oR + k * 4 + 1, none⟩ = some (.string YA) ∧ W.cell? ⟨gR, oR + k * 4 + 2, none⟩ = some (.string YB))) (by kernel_rfl) ?_ (fun hHeld => ?_)
        · exact HS.out _ (by repeat (first | exact Below.refl _ _ | refine ext_drewN ?_ _ | refine ext_drew ?_))
        refine wpAnyH_take (i := 0) (v := ?_) (take_list rfl) (by kernel_rfl) (by kernel_rfl) (by kernel_rfl) (fun _ _ _ h => h) (Or.inl ⟨by rfl, ?_⟩) (by assumption) ?_
        rotate_left
        · intro w hSw
          try dsimp only at hSw
          first | (go_simp; done) | (go_simp; with_reducible rfl)
        try simp only [Act.put, List.setIfInBounds_toArray, List.set_cons_zero, List.set_cons_succ]
        refine wpAnyH_take (i := 1) (v := ?_) (take_list rfl) (by kernel_rfl) (by kernel_rfl) (by kernel_rfl) (fun _ _ _ h => h) (Or.inl ⟨by rfl, ?_⟩) (by assumption) ?_
        rotate_left
        · intro w hSw
          try dsimp only at hSw
          first | (go_simp; done) | (go_simp; with_reducible rfl)
        try simp only [Act.put, List.setIfInBounds_toArray, List.set_cons_zero, List.set_cons_succ]
        refine wpAnyH_take (i := 2) (v := ?_) (take_list rfl) (by kernel_rfl) (by kernel_rfl) (by kernel_rfl) (fun _ _ _ h => h) (Or.inl ⟨by rfl, ?_⟩) (by assumption) ?_
        rotate_left
        · intro w hSw
          try dsimp only at hSw
          first | (go_simp; done) | (go_simp; with_reducible rfl)
        try simp only [Act.put, List.setIfInBounds_toArray, List.set_cons_zero, List.set_cons_succ]
        refine wpAnyH_take (i := 3) (v := ?_) (take_list rfl) (by kernel_rfl) (by kernel_rfl) (by kernel_rfl) (fun _ _ _ h => h) (Or.inl ⟨by rfl, ?_⟩) (by assumption) ?_
        rotate_left
        · intro w hSw
          try dsimp only at hSw
          first | (go_simp; done) | (go_simp; with_reducible rfl)
        try simp only [Act.put, List.setIfInBounds_toArray, List.set_cons_zero, List.set_cons_succ]
        refine wpAnyH_take (i := 4) (v := ?_) (take_list rfl) (by kernel_rfl) (by kernel_rfl) (by kernel_rfl) (fun _ _ _ h => h) (Or.inl ⟨by rfl, ?_⟩) (by assumption) ?_
        rotate_left
        · intro w hSw
          try dsimp only at hSw
          first | (go_simp; done) | (go_simp; with_reducible rfl)
        try simp only [Act.put, List.setIfInBounds_toArray, List.set_cons_zero, List.set_cons_succ]
        refine wpAnyH_take (i := 5) (v := ?_) (take_list rfl) (by kernel_rfl) (by kernel_rfl) (by kernel_rfl) (fun _ _ _ h => h) (Or.inl ⟨by rfl, ?_⟩) (by assumption) ?_
        rotate_left
        · intro w hSw
          try dsimp only at hSw
          first | (go_simp; done) | (go_simp; with_reducible rfl)
        try simp only [Act.put, List.setIfInBounds_toArray, List.set_cons_zero, List.set_cons_succ]
        refine wpAnyH_take (i := 6) (v := ?_) (take_list rfl) (by kernel_rfl) (by kernel_rfl) (by kernel_rfl) (fun _ _ _ h => h) (Or.inl ⟨by rfl, ?_⟩) (by assumption) ?_
        rotate_left
        · intro w hSw
          try dsimp only at hSw
          first | (go_simp; done) | (go_simp; with_reducible rfl)
        try simp only [Act.put, List.setIfInBounds_toArray, List.set_cons_zero, List.set_cons_succ]
        refine wpAnyH_take (i := 7) (v := ?_) (take_list rfl) (by kernel_rfl) (by kernel_rfl) (by kernel_rfl) (fun _ _ _ h => h) (Or.inl ⟨by rfl, ?_⟩) (by assumption) ?_
        rotate_left
        · intro w hSw
          try dsimp only at hSw
          first | (go_simp; done) | (go_simp; with_reducible rfl)
        try simp only [Act.put, List.setIfInBounds_toArray, List.set_cons_zero, List.set_cons_succ]
        refine wpAnyH_take (i := 8) (v := ?_) (take_list rfl) (by kernel_rfl) (by kernel_rfl) (by kernel_rfl) (fun _ _ _ h => h) (Or.inl ⟨by rfl, ?_⟩) (by assumption) ?_
        rotate_left
        · intro w hSw
          try dsimp only at hSw
          first | (go_simp; done) | (go_simp; with_reducible rfl)
        try simp only [Act.put, List.setIfInBounds_toArray, List.set_cons_zero, List.set_cons_succ]
        refine wpAnyH_take (i := 9) (v := ?_) (take_list rfl) (by kernel_rfl) (by kernel_rfl) (by kernel_rfl) (fun _ _ _ h => h) (Or.inl ⟨by rfl, ?_⟩) (by assumption) ?_
        rotate_left
        · intro w hSw
          try dsimp only at hSw
          first | (go_simp; done) | (go_simp; with_reducible rfl)
        try simp only [Act.put, List.setIfInBounds_toArray, List.set_cons_zero, List.set_cons_succ]
        refine wpAnyH_take (i := 10) (v := ?_) (take_list rfl) (by kernel_rfl) (by kernel_rfl) (by kernel_rfl) (fun _ _ _ h => h) (Or.inl ⟨by rfl, ?_⟩) (by assumption) ?_
        rotate_left
        · intro w hSw
          try dsimp only at hSw
          first | (go_simp; done) | (go_simp; with_reducible rfl)
        try simp only [Act.put, List.setIfInBounds_toArray, List.set_cons_zero, List.set_cons_succ]
        refine wpAnyH_take (i := 11) (v := ?_) (take_list rfl) (by kernel_rfl) (by kernel_rfl) (by kernel_rfl) (fun _ _ _ h => h) (Or.inl ⟨by rfl, ?_⟩) (by assumption) ?_
        rotate_left
        · intro w hSw
          try dsimp only at hSw
          first | (go_simp; done) | (go_simp; with_reducible rfl)
        try simp only [Act.put, List.setIfInBounds_toArray, List.set_cons_zero, List.set_cons_succ]
        refine wpAnyH_take (i := 12) (v := undef) (take_list rfl) (by kernel_rfl) (by kernel_rfl) (by kernel_rfl) (fun _ _ _ h => h) (Or.inr ⟨by rfl, rfl⟩) (by assumption) ?_
        try simp only [Act.put, List.setIfInBounds_toArray, List.set_cons_zero, List.set_cons_succ]
        refine wpAnyH_take (i := 13) (v := undef) (take_list rfl) (by kernel_rfl) (by kernel_rfl) (by kernel_rfl) (fun _ _ _ h => h) (Or.inr ⟨by rfl, rfl⟩) (by assumption) ?_
        try simp only [Act.put, List.setIfInBounds_toArray, List.set_cons_zero, List.set_cons_succ]
        refine wpAnyH_take (i := 14) (v := undef) (take_list rfl) (by kernel_rfl) (by kernel_rfl) (by kernel_rfl) (fun _ _ _ h => h) (Or.inr ⟨by rfl, rfl⟩) (by assumption) ?_
        try simp only [Act.put, List.setIfInBounds_toArray, List.set_cons_zero, List.set_cons_succ]
        refine wpAnyH_take (i := 15) (v := undef) (take_list rfl) (by kernel_rfl) (by kernel_rfl) (by kernel_rfl) (fun _ _ _ h => h) (Or.inr ⟨by rfl, rfl⟩) (by assumption) ?_
        try simp only [Act.put, List.setIfInBounds_toArray, List.set_cons_zero, List.set_cons_succ]
        refine wpAnyH_take (i := 16) (v := undef) (take_list rfl) (by kernel_rfl) (by kernel_rfl) (by kernel_rfl) (fun _ _ _ h => h) (Or.inr ⟨by rfl, rfl⟩) (by assumption) ?_
        try simp only [Act.put, List.setIfInBounds_toArray, List.set_cons_zero, List.set_cons_succ]
        refine wpAnyH_take (i := 17) (v := undef) (take_list rfl) (by kernel_rfl) (by kernel_rfl) (by kernel_rfl) (fun _ _ _ h => h) (Or.inr ⟨by rfl, rfl⟩) (by assumption) ?_
        try simp only [Act.put, List.setIfInBounds_toArray, List.set_cons_zero, List.set_cons_succ]
        refine wpAnyH_take (i := 18) (v := undef) (take_list rfl) (by kernel_rfl) (by kernel_rfl) (by kernel_rfl) (fun _ _ _ h => h) (Or.inr ⟨by rfl, rfl⟩) (by assumption) ?_
        try simp only [Act.put, List.setIfInBounds_toArray, List.set_cons_zero, List.set_cons_succ]
        refine wpAnyH_take (i := 19) (v := undef) (take_list rfl) (by kernel_rfl) (by kernel_rfl) (by kernel_rfl) (fun _ _ _ h => h) (Or.inr ⟨by rfl, rfl⟩) (by assumption) ?_
        try simp only [Act.put, List.setIfInBounds_toArray, List.set_cons_zero, List.set_cons_succ]
        refine wpAnyH_take (i := 20) (v := undef) (take_list rfl) (by kernel_rfl) (by kernel_rfl) (by kernel_rfl) (fun _ _ _ h => h) (Or.inr ⟨by rfl, rfl⟩) (by assumption) ?_
        try simp only [Act.put, List.setIfInBounds_toArray, List.set_cons_zero, List.set_cons_succ]
        refine wpAnyH_take (i := 21) (v := undef) (take_list rfl) (by kernel_rfl) (by kernel_rfl) (by kernel_rfl) (fun _ _ _ h => h) (Or.inr ⟨by rfl, rfl⟩) (by assumption) ?_
        try simp only [Act.put, List.setIfInBounds_toArray, List.set_cons_zero, List.set_cons_succ]
        refine wpAnyH_take (i := 22) (v := undef) (take_list rfl) (by kernel_rfl) (by kernel_rfl) (by kernel_rfl) (fun _ _ _ h => h) (Or.inr ⟨by rfl, rfl⟩) (by assumption) ?_
        try simp only [Act.put, List.setIfInBounds_toArray, List.set_cons_zero, List.set_cons_succ]
        refine wpAnyH_take (i := 23) (v := ?_) (take_list rfl) (by kernel_rfl) (by kernel_rfl) (by kernel_rfl) (fun _ _ _ h => h) (Or.inl ⟨by rfl, ?_⟩) (by assumption) ?_
        rotate_left
        · intro w hSw
          try dsimp only at hSw
          first | (go_simp; done) | (go_simp; with_reducible rfl)
        try simp only [Act.put, List.setIfInBounds_toArray, List.set_cons_zero, List.set_cons_succ]
        refine wpAnyH_take (i := 24) (v := ?_) (take_list rfl) (by kernel_rfl) (by kernel_rfl) (by kernel_rfl) (fun _ _ _ h => h) (Or.inl ⟨by rfl, ?_⟩) (by assumption) ?_
        rotate_left
        · intro w hSw
          try dsimp only at hSw
          first | (go_simp; done) | (go_simp; with_reducible rfl)
        try simp only [Act.put, List.setIfInBounds_toArray, List.set_cons_zero, List.set_cons_succ]
        refine wpAnyH_take (i := 25) (v := undef) (take_list rfl) (by kernel_rfl) (by kernel_rfl) (by kernel_rfl) (fun _ _ _ h => h) (Or.inr ⟨by rfl, rfl⟩) (by assumption) ?_
        try simp only [Act.put, List.setIfInBounds_toArray, List.set_cons_zero, List.set_cons_succ]
        refine wpAnyH_take (i := 26) (v := undef) (take_list rfl) (by kernel_rfl) (by kernel_rfl) (by kernel_rfl) (fun _ _ _ h => h) (Or.inr ⟨by rfl, rfl⟩) (by assumption) ?_
        try simp only [Act.put, List.setIfInBounds_toArray, List.set_cons_zero, List.set_cons_succ]
        refine wpAnyH_take (i := 27) (v := undef) (take_list rfl) (by kernel_rfl) (by kernel_rfl) (by kernel_rfl) (fun _ _ _ h => h) (Or.inr ⟨by rfl, rfl⟩) (by assumption) ?_
        try simp only [Act.put, List.setIfInBounds_toArray, List.set_cons_zero, List.set_cons_succ]
        refine wpAnyH_take (i := 28) (v := undef) (take_list rfl) (by kernel_rfl) (by kernel_rfl) (by kernel_rfl) (fun _ _ _ h => h) (Or.inr ⟨by rfl, rfl⟩) (by assumption) ?_
        try simp only [Act.put, List.setIfInBounds_toArray, List.set_cons_zero, List.set_cons_succ]
        refine wpAnyH_take (i := 29) (v := undef) (take_list rfl) (by kernel_rfl) (by kernel_rfl) (by kernel_rfl) (fun _ _ _ h => h) (Or.inr ⟨by rfl, rfl⟩) (by assumption) ?_
        try simp only [Act.put, List.setIfInBounds_toArray, List.set_cons_zero, List.set_cons_succ]
        refine wpAnyH_take (i := 30) (v := undef) (take_list rfl) (by kernel_rfl) (by kernel_rfl) (by kernel_rfl) (fun _ _ _ h => h) (Or.inr ⟨by rfl, rfl⟩) (by assumption) ?_
        try simp only [Act.put, List.setIfInBounds_toArray, List.set_cons_zero, List.set_cons_succ]
        refine wpAnyH_take (i := 31) (v := undef) (take_list rfl) (by kernel_rfl) (by kernel_rfl) (by kernel_rfl) (fun _ _ _ h => h) (Or.inr ⟨by rfl, rfl⟩) (by assumption) ?_
        try simp only [Act.put, List.setIfInBounds_toArray, List.set_cons_zero, List.set_cons_succ]
        refine wpAnyH_take (i := 32) (v := undef) (take_list rfl) (by kernel_rfl) (by kernel_rfl) (by kernel_rfl) (fun _ _ _ h => h) (Or.inr ⟨by rfl, rfl⟩) (by assumption) ?_
        try simp only [Act.put, List.setIfInBounds_toArray, List.set_cons_zero, List.set_cons_succ]
        refine wpAnyH_take (i := 33) (v := undef) (take_list rfl) (by kernel_rfl) (by kernel_rfl) (by kernel_rfl) (fun _ _ _ h => h) (Or.inr ⟨by rfl, rfl⟩) (by assumption) ?_
        try simp only [Act.put, List.setIfInBounds_toArray, List.set_cons_zero, List.set_cons_succ]
        refine wpAnyH_take (i := 34) (v := undef) (take_list rfl) (by kernel_rfl) (by kernel_rfl) (by kernel_rfl) (fun _ _ _ h => h) (Or.inr ⟨by rfl, rfl⟩) (by assumption) ?_
        try simp only [Act.put, List.setIfInBounds_toArray, List.set_cons_zero, List.set_cons_succ]
        refine wpAnyH_take (i := 35) (v := undef) (take_list rfl) (by kernel_rfl) (by kernel_rfl) (by kernel_rfl) (fun _ _ _ h => h) (Or.inr ⟨by rfl, rfl⟩) (by assumption) ?_
        try simp only [Act.put, List.setIfInBounds_toArray, List.set_cons_zero, List.set_cons_succ]
        refine wpAnyH_take (i := 36) (v := ?_) (take_list rfl) (by kernel_rfl) (by kernel_rfl) (by kernel_rfl) (fun _ _ _ h => h) (Or.inl ⟨by rfl, ?_⟩) (by assumption) ?_
        rotate_left
        · intro w hSw
          try dsimp only at hSw
          first | (go_simp; done) | (go_simp; with_reducible rfl)
        try simp only [Act.put, List.setIfInBounds_toArray, List.set_cons_zero, List.set_cons_succ]
        refine wpAnyH_done (by kernel_rfl) ?_ _
        go_wp2
        go_roundw
        case rel => exact ⟨k + 1, by omega, by go_num, HY2, Lib.hid (ext_trans Hb.out (by repeat (first | exact Below.refl _ _ | refine ext_drewN ?_ _ | refine ext_drew ?_)))⟩
        case measure => simp [intOf]; omega
    · obtain rfl : k = t.lv.length := by omega
      have HL := Lib.hid (HNo.out HSo.out)
      go_wp2
      go_ret
      exact ⟨by rw [HL.out]; rfl, Hb.out⟩

end
end Go.Proofs.Ytdghbdiapkelnaa

/-
  The reference's over, told, lay, New. No statement of the seat is proved here.
-/
namespace Go.Proofs.Ytdghbdiapkelnaa
open Go Go.RowKit
set_option maxRecDepth 100000

/-- what an assignment of the reference's answers -/
def RSaid (id : Nat) (vs : List (List UInt8)) (w : World) (e : Ending) (w' : World) : Prop := ∃ V cv, e = .returned (.agg #[.int .i64 (id : Int), .slice V vs.length cv]) ∧ NewO w w' 9 1 V vs.length cv (vs.map strV)
theorem rsaid_end {w w4 : World} {cs : Array Value} {id : Nat} {vs : List (List UInt8)} {V : Option Addr} {cv : Nat} (hN : NewO (w.alloc (.cells cs 31)) w4 9 1 V vs.length cv (vs.map strV)) (u v : Value) (x : Int) (hx : x = (id : Int)) :
    RSaid id vs w (.returned (.agg #[.int .i64 x, .slice V vs.length cv])) ((w4.setCell ⟨w.heap.size, 0, none⟩ u).setCell ⟨w.heap.size, 1, none⟩ v) := by
  have hz : (w.alloc (.cells cs 31)).heap.size = w.heap.size + 1 := World.size_alloc _ _
  have hb : Below w.heap.size w w4 := (ext_alloc (Below.refl _ _) _ : Below w.heap.size w (w.alloc (.cells cs 31))).trans (hN.bel.mono (by omega))
  have hc : Only (fun k => k = w.heap.size) w4 ((w4.setCell ⟨w.heap.size, 0, none⟩ u).setCell ⟨w.heap.size, 1, none⟩ v) := ((Only.of_ext (S := fun k => k = w.heap.size) (Below.refl _ _)).setCell (.inl rfl) _).setCell (.inl rfl) _
  refine ⟨V, cv, by rw [hx], hN.row.only hc (fun k hk e => ?_), hb.trans (hc.below (fun i hi => by omega) hb.size), fun k hk => ?_⟩
  · have := hN.2.2 k hk; omega
  · have := hN.2.2 k hk; omega
set_option maxHeartbeats 1000000 in
theorem rover_any (B : Option Addr) (c : Nat) (l : List Tok) (w : World) (hT : ToksAt w B l) (hm : l.length ≤ 1000000) (hj : sumT l l.length ≤ 140737488355328) :
    Calls Try.prog 36 #[.slice B l.length c] w (RSaid 0 [joinL l] w) := by
  have hb0 : Below w.heap.size w (w.alloc (.cells #[.int .i64 0, .slice none 0 0] 31)) := ext_alloc (Below.refl _ _) _
  have HB2 := Lib.hid (Blk.new w 31 #[.int .i64 0, .slice none 0 0])
  obtain ⟨Z, hZ, -⟩ := str_hide (joinL l)
  have HZ := Lib.hid hZ
  have HJ := Lib.hid (rjoin_any B _ c l _ rfl (hT.ext hb0) hm hj)
  rw [hZ] at HJ
  have Hb0 := Lib.hid hb0
  clear hT hj hZ hb0
  obtain ⟨w1, hw1⟩ : ∃ w1, w1 = w.alloc (.cells #[.int .i64 0, .slice none 0 0] 31) := ⟨_, rfl⟩
  have Hw1 := Lib.hid hw1
  rw [← hw1] at HJ HB2
  clear hw1
  go_enter Try.func36, Try.ntmps36
  go_wp2_with fail
  rw [← Hw1.out]
  refine HJ.out.mono ?_
  rintro e w3 ⟨rfl, hw3⟩
  have hw3 := hw3.symm
  subst hw3
  have hX := HB2.out.ext (ext_alloc (Below.refl _ _) (.cells #[.string Z] 9))
  have k0 := hX.cell 0
  have k1 := hX.cell 1
  have f0 := hX.free 0
  have f1 := hX.free 1
  simp only [List.getElem?_toArray, List.getElem?_cons_zero, List.getElem?_cons_succ] at k0 k1
  have hY := hX.put 0 (.int .i64 0)
  have m0 := (hY.put 1 (.slice (some ⟨w1.heap.size, 0, none⟩) 1 1)).cell 0
  have m1 := (hY.put 1 (.slice (some ⟨w1.heap.size, 0, none⟩) 1 1)).cell 1
  have m2 := hY.cell 0
  simp only [List.getElem?_toArray, List.setIfInBounds_toArray, List.set_cons_zero, List.set_cons_succ, List.getElem?_cons_zero, List.getElem?_cons_succ] at m0 m1 m2
  clear hX hY
  go_wp2
  refine bodyPost_ret (v := .agg #[.int .i64 0, .slice (some ⟨w1.heap.size, 0, none⟩) 1 1]) (by simp [results, Try.results36, go_sem, m0, m1, m2]) rfl ?_
  rw [Hw1.out]
  refine rsaid_end (id := 0) (vs := [joinL l]) (cs := #[.int .i64 0, .slice none 0 0]) ?_ _ _ 0 rfl
  rw [List.map_singleton, HZ.out]
  exact ⟨RowO.lit _ 9 1 1 #[.string Z] rfl (Nat.le_of_ble_eq_true rfl) rfl, ext_alloc (Below.refl _ _) _, fun k hk => by rw [inA_some] at hk; omega⟩
section
variable {S T : Nat → Prop} {w w2 w3 : World} {g : Nat} {t : Tr} {A R A' : Option Addr} {c d c' : Nat} {xs ys : List Value}
set_option maxHeartbeats 1000000 in
theorem told_any (h : RTIn S w g t) (B : Option Addr) (cB : Nat) (l : List Tok) (hT : ToksAt w B l) (hm : l.length ≤ 1000000) {id : Nat} (hid : id ≤ t.ts.length) (hi : t.ts.length ≤ 1000000) (hp : (tmpl t id).length ≤ 1000000) :
    Calls Try.prog 41 #[.pointer (some ⟨g, 0, none⟩), .int .i64 (id : Int), .slice B l.length cB] w (RSaid id (varsL (tmpl t id) l) w) := by
  obtain ⟨A, c, xs, R, d, ys, h⟩ := h
  have hb0 : Below w.heap.size w (w.alloc (.cells #[.int .i64 0, .slice none 0 0] 31)) := ext_alloc (Below.refl _ _) _
  have h1 := h.ext hb0
  obtain ⟨gA, oA, P, e, rfl, c0, hrow, -⟩ := h1.tmp hid
  have x0 := h1.blk.cell 0
  simp only [List.getElem?_toArray, List.getElem?_cons_zero, List.getElem?_cons_succ] at x0
  have HV := Lib.hid (rvars_any P _ e (tmpl t id) B _ cB l _ rfl rfl hrow.le (parts_row hrow) (hT.ext hb0) hp hm)
  have HBlk := Lib.hid (Blk.new w 31 #[.int .i64 0, .slice none 0 0])
  have hii : (t.ts.length : Int) ≤ 1000000 := by omega
  have hidi : (id : Int) < (t.ts.length : Int) + 1 := by omega
  have hidn : (id : Int) ≤ (t.ts.length : Int) := by omega
  have hwr : ((t.ts.length + 1 : Nat) : Int) = (t.ts.length : Int) + 1 := by omega
  clear h h1 hrow hT hb0
  generalize varsL (tmpl t id) l = vs at *
  generalize (tmpl t id).length = pl at *
  obtain ⟨n1, hn1⟩ : ∃ n1, n1 = t.ts.length + 1 := ⟨_, rfl⟩
  rw [← hn1] at x0
  have hidi : (id : Int) < (n1 : Int) := by omega
  clear hwr hn1
  go_enter Try.func41, Try.ntmps41
  go_wp2_with fail
  refine HV.out.mono ?_
  rintro e4 w4 ⟨V, cv, rfl, hN⟩
  have HN := Lib.hid hN
  have hX := HBlk.out.ext hN.bel
  have k0 := hX.cell 0
  have k1 := hX.cell 1
  have f0 := hX.free 0
  have f1 := hX.free 1
  simp only [List.getElem?_toArray, List.getElem?_cons_zero, List.getElem?_cons_succ] at k0 k1
  have hY := hX.put 0 (.int .i64 (id : Int))
  have m0 := (hY.put 1 (.slice V vs.length cv)).cell 0
  have m1 := (hY.put 1 (.slice V vs.length cv)).cell 1
  have m2 := hY.cell 0
  simp only [List.getElem?_toArray, List.setIfInBounds_toArray, List.set_cons_zero, List.set_cons_succ, List.getElem?_cons_zero, List.getElem?_cons_succ] at m0 m1 m2
  clear hX hY hN x0 c0
  go_wp2
  refine bodyPost_ret (v := .agg #[.int .i64 (id : Int), .slice V vs.length cv]) (by simp [results, Try.results41, go_sem, m0, m1, m2]) rfl ?_
  exact rsaid_end HN.out _ _ _ rfl
/-- a template laid behind the others -/
theorem RTAt.added (h : RTAt S w g t A c xs R d ys) {p : List Prt} {B : Option Addr} {e : Nat} (hb : Below w.heap.size w w2) (hr : RowO w3 39 1 A' (t.ts.length + 1 + 1) c' (xs ++ [.slice B p.length e])) (ho : Only (inA A) w2 w3)
    (hA : ∀ k, inA A' k → inA A k ∨ (w2.heap.size ≤ k ∧ k < w3.heap.size)) (hp : RowO w 72 2 B p.length e (cellsP p)) (hs : ∀ k, S k → T k) (hB : ∀ k, inA B k → T k) (hN : ∀ k, w.heap.size ≤ k → k < w3.heap.size → T k) (hl : ∀ k, T k → k < w3.heap.size) :
    RTAt T (w3.setCell ⟨g, 0, none⟩ (.slice A' (t.ts.length + 1 + 1) c')) g (addT t p t.lv) A' c' (xs ++ [.slice B p.length e]) R d ys := by
  have hgA : ¬ inA A g := h.own.ne_blk h.blk (by decide)
  have hO3 : Only (fun k => inA A k ∨ k = g) w w3 := (Only.of_ext (S := fun k => inA A k ∨ k = g) hb).trans ho (fun _ _ h => .inl h)
  have hO : Only (fun k => inA A k ∨ k = g) w (w3.setCell ⟨g, 0, none⟩ (.slice A' (t.ts.length + 1 + 1) c')) := hO3.setCell (.inl (.inr rfl)) _
  have hblk3 : Blk w3 g 75 #[.slice A (t.ts.length + 1) c, .slice R t.lv.length d] := (h.blk.ext hb).only ho hgA
  have hsz : (w3.setCell ⟨g, 0, none⟩ (.slice A' (t.ts.length + 1 + 1) c')).heap.size = w3.heap.size := by simp [World.setCell]
  have hT : (addT t p t.lv).ts = t.ts ++ [p] := rfl
  have hTl : (addT t p t.lv).ts.length = t.ts.length + 1 := by rw [hT]; simp
  refine ⟨?_, ?_, ?_, fun j hj => ?_, fun j hj => ?_, hs _ h.sg, fun k hk => ?_, fun k hk => hs _ (h.sR k hk), fun k hk => by rw [hsz]; exact hl k hk⟩
  · rw [hTl]
    have := hblk3.put 0 (.slice A' (t.ts.length + 1 + 1) c')
    simp only [List.setIfInBounds_toArray, List.set_cons_zero] at this
    exact this
  · rw [hTl]
    exact hr.keep fun k hk => Below.heap_setCell w3 _ _ k (fun e => hr.ne_blk hblk3 (by decide) (by rw [← show k = g from e]; exact hk))
  · exact h.rows.only hO (fun k hk hx => hx.elim (fun hx => h.rows.ne_rowT h.own (by decide) k hk hx) (fun hx => h.rows.ne_blk h.blk (by decide) (by rw [← hx]; exact hk)))
  · have hxl : xs.length = t.ts.length + 1 := by have := h.own.1; omega
    by_cases hjn : j ≤ t.ts.length
    · obtain ⟨B', e', h1, h2, h3⟩ := h.tsAt j hjn
      rw [tmpl_old hjn]
      refine ⟨B', e', ?_, ?_, fun k hk => hs k (h3 k hk)⟩
      · rw [List.getElem?_append_left (by omega)]
        exact h1
      · exact h2.only hO (fun k hk hx => hx.elim (fun hx => h2.ne_rowT h.own (by decide) k hk hx) (fun hx => h2.ne_blk h.blk (by decide) (by rw [← hx]; exact hk)))
    · have hjl : j = t.ts.length + 1 := by rw [hTl] at hj; omega
      subst hjl
      rw [tmpl_new]
      refine ⟨B, e, ?_, ?_, hB⟩
      · rw [List.getElem?_append_right (by omega), hxl]
        simp
      · exact hp.only hO (fun k hk hx => hx.elim (fun hx => hp.ne_rowT h.own (by decide) k hk hx) (fun hx => hp.ne_blk h.blk (by decide) (by rw [← hx]; exact hk)))
  · obtain ⟨G, e', h1, h2, h3, h4, h5, h6⟩ := h.lvAt j hj
    exact ⟨G, e', h1, h2, h3, h4, h5.only hO (fun k hk hx => hx.elim (fun hx => h5.ne_rowT h.own (by decide) k hk hx) (fun hx => h5.ne_blk h.blk (by decide) (by rw [← hx]; exact hk))), fun k hk => hs k (h6 k hk)⟩
  · rcases hA k hk with hx | ⟨hx, hy⟩
    · exact hs _ (h.sA k hx)
    · exact hN k (Nat.le_trans hb.size hx) hy
set_option maxHeartbeats 4000000 in
theorem rlay_any (h : RTAt S w g t A c xs R d ys) (hi : t.ts.length ≤ 1000000) {p : List Prt} {B : Option Addr} {e : Nat} (hp : RowO w 72 2 B p.length e (cellsP p)) :
    Calls Try.prog 38 #[.pointer (some ⟨g, 0, none⟩), .slice B p.length e] w fun e' w' => e' = .returned (.int .i64 ((t.ts.length : Int) + 1)) ∧ (∃ A' c', RTAt (fun k => grewS S w w' k ∨ inA B k) w' g (addT t p t.lv) A' c' (xs ++ [.slice B p.length e]) R d ys) ∧ Only S w w' := by
  have x0 := h.blk.cell 0
  simp only [List.getElem?_toArray, List.getElem?_cons_zero, List.getElem?_cons_succ] at x0
  have H := Lib.hid h
  have Hp := Lib.hid hp
  have hii : (t.ts.length : Int) ≤ 1000000 := by omega
  have hp1 : t.ts.length + 1 + 1 ≤ maxLen := by unfold maxLen; omega
  have hp2 : (t.ts.length + 1 + 1) * 24 ≤ 140737488355328 := by omega
  obtain ⟨m, hm⟩ : ∃ m, p.length = m := ⟨_, rfl⟩
  have Hm := Lib.hid hm
  rw [hm]
  clear h hp hm
  go_enter Try.func38, Try.ntmps38
  go_wp2_with (at_builtin
               have hbl : Below w.heap.size w (w.alloc (.cells #[.slice B m e] 39)) := ext_alloc (Below.refl _ _) _
               refine wpList_appO _ rfl (.tmp 9) (.tmp 11) _ rfl 39 _ 1 24 Try.underlying45 info_tmpl rfl A (t.ts.length + 1) c xs rfl (H.out.own.ext hbl) (some ⟨w.heap.size, 0, none⟩) 1 1 [.slice B m e] rfl rfl (Rd.lit_at _ #[.slice B m e] _ rfl) (by intro u hu; simp at hu; subst hu; rfl) (by intro h; cases h) hp1 hp2 ?_
               intro A5 c5 w5 hr5 ho5 hA5
               rw [← Hm.out] at hr5
               have hgA : ¬ inA A g := H.out.own.ne_blk H.out.blk (by decide)
               have hblk := (H.out.blk.ext hbl).only ho5 hgA
               have f0 := hblk.free 0
               have q0 := hblk.cell 0
               have s0 := (hblk.put 0 (.slice A5 (t.ts.length + 1 + 1) c5)).cell 0
               have hsz := hbl.size
               have hsz5 := ho5.size
               have hz : (w5.setCell ⟨g, 0, none⟩ (.slice A5 (t.ts.length + 1 + 1) c5)).heap.size = w5.heap.size := by simp [World.setCell]
               have HT6 : Hid (RTAt (fun k => grewS S w (w5.setCell ⟨g, 0, none⟩ (.slice A5 (t.ts.length + 1 + 1) c5)) k ∨ inA B k) (w5.setCell ⟨g, 0, none⟩ (.slice A5 (t.ts.length + 1 + 1) c5)) g (addT t p t.lv) A5 c5 (xs ++ [.slice B p.length e]) R d ys) := Lib.hid (H.out.added hbl hr5 ho5 hA5 Hp.out (fun k hk => .inl (.inl hk)) (fun k hk => .inr hk) (fun k h1 h2 => .inl (.inr ⟨h1, by rw [hz]; exact h2⟩)) (fun k hk => by
                 rcases hk with (hk | hk) | hk
                 · have := H.out.lt k hk; omega
                 · rw [hz] at hk; exact hk.2
                 · have := Hp.out.lt hk; omega))
               have HO6 : Hid (Only S w (w5.setCell ⟨g, 0, none⟩ (.slice A5 (t.ts.length + 1 + 1) c5))) := Lib.hid (((Only.of_ext (S := S) hbl).trans ho5 (fun k _ hk => H.out.sA k hk)).setCell (.inl H.out.sg) _)
               simp only [List.getElem?_toArray, List.setIfInBounds_toArray, List.set_cons_zero, List.set_cons_succ, List.getElem?_cons_zero, List.getElem?_cons_succ] at q0 s0
               clear hr5 ho5 hA5 hgA hblk hbl hsz hsz5 hz x0)
  go_ret
  rw [← Hm.out]
  exact ⟨by first | rfl | (push_cast; rfl) | (simp; done), ⟨A5, c5, HT6.out⟩, HO6.out⟩
end
set_option maxHeartbeats 1000000 in
theorem rnew_any (w : World) : Calls Try.prog 13 #[] w fun e w' => ∃ g, e = .returned (.pointer (some ⟨g, 0, none⟩)) ∧ RTIn (fun k => w.heap.size ≤ k ∧ k < w'.heap.size) w' g ⟨[], []⟩ ∧ Below w.heap.size w w' := by
  have hd0 : cellsP [dot] = [.bool true, .string ⟨#[]⟩] := rfl
  have key : ∀ w3, w3 = ((w.alloc (.cells #[.bool true, .string ⟨#[]⟩] 72)).alloc (.cells #[.slice (some ⟨w.heap.size, 0, none⟩) 1 1] 39)).alloc (.cells #[.slice (some ⟨w.heap.size + 1, 0, none⟩) 1 1, .slice none 0 0] 75) → RTIn (fun k => w.heap.size ≤ k ∧ k < w3.heap.size) w3 (w.heap.size + 2) ⟨[], []⟩ ∧ Below w.heap.size w w3 := by
    rintro w3 rfl
    have z1 : (w.alloc (.cells #[.bool true, .string ⟨#[]⟩] 72)).heap.size = w.heap.size + 1 := World.size_alloc _ _
    have z2 : ((w.alloc (.cells #[.bool true, .string ⟨#[]⟩] 72)).alloc (.cells #[.slice (some ⟨w.heap.size, 0, none⟩) 1 1] 39)).heap.size = w.heap.size + 2 := by rw [World.size_alloc, z1]
    have z3 : (((w.alloc (.cells #[.bool true, .string ⟨#[]⟩] 72)).alloc (.cells #[.slice (some ⟨w.heap.size, 0, none⟩) 1 1] 39)).alloc (.cells #[.slice (some ⟨w.heap.size + 1, 0, none⟩) 1 1, .slice none 0 0] 75)).heap.size = w.heap.size + 3 := by rw [World.size_alloc, z2]
    have r1 : RowO (w.alloc (.cells #[.bool true, .string ⟨#[]⟩] 72)) 72 2 (some ⟨w.heap.size, 0, none⟩) 1 1 [.bool true, .string ⟨#[]⟩] := RowO.lit w 72 2 1 #[.bool true, .string ⟨#[]⟩] rfl (Nat.le_of_ble_eq_true rfl) rfl
    have r2 := RowO.lit (w.alloc (.cells #[.bool true, .string ⟨#[]⟩] 72)) 39 1 1 #[.slice (some ⟨w.heap.size, 0, none⟩) 1 1] rfl (Nat.le_of_ble_eq_true rfl) z1.symm
    refine ⟨⟨some ⟨w.heap.size + 1, 0, none⟩, 1, [.slice (some ⟨w.heap.size, 0, none⟩) 1 1], none, 0, [], ?_⟩, ((Below.refl _ _).alloc (Nat.le_refl _) _ |>.alloc (by rw [z1]; omega) _).alloc (by rw [z2]; omega) _⟩
    refine ⟨?_, r2.alloc _, RowO.none_ _ _ _, fun j hj => ?_, fun j hj => absurd hj (Nat.not_lt_zero _), ⟨by omega, by rw [z3]; omega⟩, fun k hk => ?_, fun k hk => absurd hk (inA_none k), fun k hk => hk.2⟩
    · have := Blk.new ((w.alloc (.cells #[.bool true, .string ⟨#[]⟩] 72)).alloc (.cells #[.slice (some ⟨w.heap.size, 0, none⟩) 1 1] 39)) 75 #[.slice (some ⟨w.heap.size + 1, 0, none⟩) 1 1, .slice none 0 0]
      rw [z2] at this
      exact this
    · have hj0 : j = 0 := Nat.le_zero.1 hj
      subst hj0
      refine ⟨some ⟨w.heap.size, 0, none⟩, 1, rfl, (r1.alloc _).alloc _, fun k hk => ?_⟩
      rw [inA_some] at hk
      rw [z3]; omega
    · rw [inA_some] at hk
      rw [z3]; omega
  go_enter Try.func13, Try.ntmps13
  go_wp2
  go_ret
  refine ⟨w.heap.size + 2, ?_, key _ ?_⟩ <;> first | rfl | (simp; done)
end Go.Proofs.Ytdghbdiapkelnaa
