/-
  Texts of this claim, joined (part 1): contracts and lemmas that the last text goes by. No statement of the seat is proved here.
-/
import Derived.Test.YthomhhnioadpmaaAll0
import Derived.Deep.RegionHeld3
import Derived.Deep.RegionHeldLaw
import Derived.Deep.RegionWith
import Derived.BigQuiet
import Derived.Laws.IdiomCopy
import Derived.Lib.SliceRun
set_option linter.unusedVariables false
set_option linter.unusedSimpArgs false
/-
  The contract of plan.Is. No statement of the seat is proved here.
-/
namespace Go.Proofs.Ythomhhnioadpmaa
open Go Go.RowKit Go.Maps
set_option maxRecDepth 100000

theorem law_key : Keyed Try.prog 3 := int_keyed Try.underlying3
theorem isS_tog {l : List Sp} (h : isS l = true) (k : Nat) (hk : k + 1 < l.length) : isInt (togS l k) := by
  have h1 := (rightS_iff _).1 (isS_right h (k := k) (by omega))
  have h2 := (rightS_iff _).1 (isS_right h hk)
  unfold togS isInt
  omega
theorem linkS_at (l : List Sp) (k : Nat) (hk : 0 < k) : linkS l k = decide ((l.getD k spZ).first = (l.getD (k - 1) spZ).first + (l.getD (k - 1) spZ).count) := by
  unfold linkS
  rw [decide_eq_false (show ¬ k = 0 by omega), Bool.false_or]
theorem key_of (v : Int) (h : isInt v) : keyOf Try.prog 3 (.int .i64 v) = some (.int .i64 v) := by
  refine keyOf_int_mk Try.underlying3 ?_
  have h1 : IntKind.i64.min = -9223372036854775808 := rfl
  have h2 : IntKind.i64.max = 9223372036854775807 := rfl
  unfold isInt at h
  simp only [Lit.wf, Bool.and_eq_true, decide_eq_true_eq]
  omega
set_option maxHeartbeats 8000000 in
theorem is_any (A : Option Addr) (n c : Nat) (l : List Sp) (w : World) (hn : n = l.length) (hl : l.length ≤ 1000000) (h : SpsAt w A l) (hok : ∀ k, k < l.length → (l.getD k spZ).ok) :
    Calls Try.prog 13 #[.slice A n c] w fun e w' => e = .returned (.bool (isS l)) ∧ Below w.heap.size w w' := by
  subst hn
  have hli : (l.length : Int) ≤ 1000000 := by omega
  have hmm := @run_makeMap Try.prog
  have H := Lib.hid h
  have HO := Lib.hid hok
  obtain ⟨V, hV⟩ : ∃ V, isS l = V := ⟨_, rfl⟩
  rw [hV]
  have HV := Lib.hid hV
  clear h hok hV
  go_enter Try.func13, Try.ntmps13
  go_wp2
  go_loopw [9] (fun i wr => ∃ k : Nat, k ≤ l.length ∧ i = .int .i64 (k : Int) ∧ Hid (chainTo l k = true) ∧ Hid (wr.ownsMap Try.prog 3 (unitElem (H := Unit)) w.heap.size k (idsD l k)) ∧ Hid (Below w.heap.size w wr)) (fun i _ => l.length - (intOf i).toNat)
  case atStart => exact ⟨0, Nat.zero_le _, rfl, Lib.hid rfl, Lib.hid (World.ownsMap_made _ _ _ _), Lib.hid ((Below.refl _ _).alloc (Nat.le_refl _) _)⟩
  case round =>
    obtain ⟨k, hk, rfl, HC, HM, Hb⟩ := hrel
    by_cases hlt : k < l.length
    · have hki : (k : Int) < (l.length : Int) := by omega
      have hkb : (k : Int) ≤ 1000000 := by omega
      have hHe := (H.out.ext Hb.out)
      obtain ⟨g, o, rfl, x0, x1, x2⟩ := hHe.at_ hlt
      have hprev : 0 < k → SpAt wr g (o + (k - 1) * 3) (l.getD (k - 1) spZ) := fun _ => by
        obtain ⟨g', o', e, hs⟩ := hHe (k - 1) (by omega)
        injection e with e
        injection e with e1 e2 _
        subst e1 e2
        exact hs
      have hRp : 0 < k → rightS (l.getD (k - 1) spZ) = true := fun _ => by
        have := chainTo_at HC.out (k := k - 1) (by omega)
        unfold stepS at this
        rw [Bool.and_eq_true] at this
        exact this.1
      have hkey := key_of _ (HO.out k hlt).id
      have HR := Lib.hid (fun W => right_any (l.getD k spZ) W)
      have hstep : stepS l k = (rightS (l.getD k spZ) && linkS l k) := rfl
      obtain ⟨R, hR⟩ : ∃ R, rightS (l.getD k spZ) = R := ⟨_, rfl⟩
      rw [hR] at HR hstep
      obtain ⟨L, hL⟩ : ∃ L, linkS l k = L := ⟨_, rfl⟩
      rw [hL] at hstep
      obtain ⟨a, ha⟩ : ∃ a, (l.getD k spZ).id = a := ⟨_, rfl⟩
      obtain ⟨b, hb⟩ : ∃ b, (l.getD k spZ).first = b := ⟨_, rfl⟩
      obtain ⟨d, hd⟩ : ∃ d, (l.getD k spZ).count = d := ⟨_, rfl⟩
      unfold spW at HR
      rw [ha] at x0 hkey
      rw [hb] at x1
      rw [hd] at x2
      rw [ha, hb, hd] at HR
      have HA := Lib.hid ha
      have HF : Hid ((R && L) = false → false = V) := Lib.hid (fun h => by rw [← HV.out]; exact (isS_no hlt (by rw [hstep]; exact h)).symm)
      have HT : Hid ((R && L) = true → stepS l k = true) := Lib.hid (fun h => by rw [hstep]; exact h)
      obtain ⟨w2, hw2⟩ : ∃ w2, w2 = wr.alloc (.cells #[.int .i64 a, .int .i64 b, .int .i64 d] 24) := ⟨_, rfl⟩
      have hb2 : Below wr.heap.size wr w2 := by rw [hw2]; exact ext_alloc (Below.refl _ _) _
      have hB2 : Blk w2 wr.heap.size 24 #[.int .i64 a, .int .i64 b, .int .i64 d] := by rw [hw2]; exact Blk.new _ _ _
      have HB2 := Lib.hid hb2
      have HM2 : Hid (∀ W, Below w2.heap.size w2 W → W.ownsMap Try.prog 3 (unitElem (H := Unit)) w.heap.size k (idsD l k)) := Lib.hid (fun W hW => by
        have h := ext_trans hb2 hW
        exact HM.out.kept (row := none) ⟨h.os, h.tape, h.output, h.size, fun i hi _ => h.block i hi⟩ (by simp))
      have hbx : Below w2.heap.size w2 w2 := Below.refl _ _
      have HSS : Hid (∀ W, Below w2.heap.size w2 W → (W.cell? ⟨wr.heap.size, 0, none⟩ = some (.int .i64 a) ∧ W.cell? ⟨wr.heap.size, 1, none⟩ = some (.int .i64 b) ∧ W.cell? ⟨wr.heap.size, 2, none⟩ = some (.int .i64 d))) := Lib.hid (fun W hW => by
        have h := hB2.ext hW
        exact ⟨h.cell 0, h.cell 1, h.cell 2⟩)
      cases R with
      | false =>
        clear HT hR hstep hprev hRp hHe hB2 hb2
        go_wp2
        rw [← hw2]
        clear hw2
        refine wp_region_held_drew (S := fun W => W.cell? ⟨wr.heap.size, 0, none⟩ = some (.int .i64 a) ∧ W.cell? ⟨wr.heap.size, 1, none⟩ = some (.int .i64 b) ∧ W.cell? ⟨wr.heap.size, 2, none⟩ = some (.int .i64 d)) (by kernel_rfl) ?_ (fun hHeld => ?_)
        · exact HSS.out _ (by repeat (first | exact hbx | apply ext_drew | apply ext_drewN | exact Below.refl _ _))
        refine wpAnyH_take (i := 0) (v := ?_) (take_list rfl) (by kernel_rfl) (by kernel_rfl) (by kernel_rfl) (fun _ _ _ h => h) (Or.inl ⟨by rfl, ?_⟩) (by assumption) ?_
        rotate_left
        · intro w hSw
          try dsimp only at hSw
          first | (go_simp; done) | (go_simp; with_reducible rfl)
        try simp only [Act.put, List.setIfInBounds_toArray, List.set_cons_zero, List.set_cons_succ]
        refine wpAnyH_ready (rs := [1]) (by kernel_rfl) (by simp) ?_
        refine AllReadyH.cons (take_list rfl) (fun K hK => ?_) ?_
        · skip
          go_simp
          refine (HR.out _).mono ?_
          rintro e x1 ⟨rfl, hbx'⟩
          dsimp only
          have hbx : Below w2.heap.size w2 x1 := ext_trans (by repeat (first | exact hbx | apply ext_drew | apply ext_drewN | exact Below.refl _ _)) hbx'
          refine hK.out _ _ ?_ (fun hHeld => ?_)
          · try dsimp only
            exact HSS.out _ (by repeat (first | exact hbx | apply ext_drew | apply ext_drewN | exact Below.refl _ _))
          clear hK K
          refine wpAnyH_take (i := 2) (v := ?_) (take_list rfl) (by kernel_rfl) (by kernel_rfl) (by kernel_rfl) (fun _ _ _ h => h) (Or.inl ⟨by rfl, ?_⟩) (by assumption) ?_
          rotate_left
          · intro w hSw
            try dsimp only at hSw
            first | (go_simp; done) | (go_simp; with_reducible rfl)
          try simp only [Act.put, List.setIfInBounds_toArray, List.set_cons_zero, List.set_cons_succ]
          refine wpAnyH_take (i := 3) (v := ?_) (take_list rfl) (by kernel_rfl) (by kernel_rfl) (by kernel_rfl) (fun _ _ _ h => h) (Or.inl ⟨by rfl, ?_⟩) (by assumption) ?_
          rotate_left
          · intro w hSw
            try dsimp only at hSw
            first | (go_simp; done) | (go_simp; with_reducible rfl)
          try simp only [Act.put, List.setIfInBounds_toArray, List.set_cons_zero, List.set_cons_succ]
          refine wpAnyH_take (i := 4) (v := undef) (take_list rfl) (by kernel_rfl) (by kernel_rfl) (by kernel_rfl) (fun _ _ _ h => h) (Or.inr ⟨by rfl, rfl⟩) (by assumption) ?_
          try simp only [Act.put, List.setIfInBounds_toArray, List.set_cons_zero, List.set_cons_succ]
          refine wpAnyH_take (i := 5) (v := undef) (take_list rfl) (by kernel_rfl) (by kernel_rfl) (by kernel_rfl) (fun _ _ _ h => h) (Or.inr ⟨by rfl, rfl⟩) (by assumption) ?_
          try simp only [Act.put, List.setIfInBounds_toArray, List.set_cons_zero, List.set_cons_succ]
          refine wpAnyH_take (i := 6) (v := undef) (take_list rfl) (by kernel_rfl) (by kernel_rfl) (by kernel_rfl) (fun _ _ _ h => h) (Or.inr ⟨by rfl, rfl⟩) (by assumption) ?_
          try simp only [Act.put, List.setIfInBounds_toArray, List.set_cons_zero, List.set_cons_succ]
          refine wpAnyH_take (i := 7) (v := undef) (take_list rfl) (by kernel_rfl) (by kernel_rfl) (by kernel_rfl) (fun _ _ _ h => h) (Or.inr ⟨by rfl, rfl⟩) (by assumption) ?_
          try simp only [Act.put, List.setIfInBounds_toArray, List.set_cons_zero, List.set_cons_succ]
          refine wpAnyH_take (i := 8) (v := undef) (take_list rfl) (by kernel_rfl) (by kernel_rfl) (by kernel_rfl) (fun _ _ _ h => h) (Or.inr ⟨by rfl, rfl⟩) (by assumption) ?_
          try simp only [Act.put, List.setIfInBounds_toArray, List.set_cons_zero, List.set_cons_succ]
          refine wpAnyH_take (i := 9) (v := undef) (take_list rfl) (by kernel_rfl) (by kernel_rfl) (by kernel_rfl) (fun _ _ _ h => h) (Or.inr ⟨by rfl, rfl⟩) (by assumption) ?_
          try simp only [Act.put, List.setIfInBounds_toArray, List.set_cons_zero, List.set_cons_succ]
          refine wpAnyH_take (i := 10) (v := undef) (take_list rfl) (by kernel_rfl) (by kernel_rfl) (by kernel_rfl) (fun _ _ _ h => h) (Or.inr ⟨by rfl, rfl⟩) (by assumption) ?_
          try simp only [Act.put, List.setIfInBounds_toArray, List.set_cons_zero, List.set_cons_succ]
          refine wpAnyH_take (i := 11) (v := undef) (take_list rfl) (by kernel_rfl) (by kernel_rfl) (by kernel_rfl) (fun _ _ _ h => h) (Or.inr ⟨by rfl, rfl⟩) (by assumption) ?_
          try simp only [Act.put, List.setIfInBounds_toArray, List.set_cons_zero, List.set_cons_succ]
          refine wpAnyH_take (i := 12) (v := undef) (take_list rfl) (by kernel_rfl) (by kernel_rfl) (by kernel_rfl) (fun _ _ _ h => h) (Or.inr ⟨by rfl, rfl⟩) (by assumption) ?_
          try simp only [Act.put, List.setIfInBounds_toArray, List.set_cons_zero, List.set_cons_succ]
          refine wpAnyH_take (i := 13) (v := undef) (take_list rfl) (by kernel_rfl) (by kernel_rfl) (by kernel_rfl) (fun _ _ _ h => h) (Or.inr ⟨by rfl, rfl⟩) (by assumption) ?_
          try simp only [Act.put, List.setIfInBounds_toArray, List.set_cons_zero, List.set_cons_succ]
          refine wpAnyH_take (i := 14) (v := undef) (take_list rfl) (by kernel_rfl) (by kernel_rfl) (by kernel_rfl) (fun _ _ _ h => h) (Or.inr ⟨by rfl, rfl⟩) (by assumption) ?_
          try simp only [Act.put, List.setIfInBounds_toArray, List.set_cons_zero, List.set_cons_succ]
          refine wpAnyH_take (i := 15) (v := undef) (take_list rfl) (by kernel_rfl) (by kernel_rfl) (by kernel_rfl) (fun _ _ _ h => h) (Or.inr ⟨by rfl, rfl⟩) (by assumption) ?_
          try simp only [Act.put, List.setIfInBounds_toArray, List.set_cons_zero, List.set_cons_succ]
          refine wpAnyH_take (i := 16) (v := undef) (take_list rfl) (by kernel_rfl) (by kernel_rfl) (by kernel_rfl) (fun _ _ _ h => h) (Or.inr ⟨by rfl, rfl⟩) (by assumption) ?_
          try simp only [Act.put, List.setIfInBounds_toArray, List.set_cons_zero, List.set_cons_succ]
          refine wpAnyH_take (i := 17) (v := ?_) (take_list rfl) (by kernel_rfl) (by kernel_rfl) (by kernel_rfl) (fun _ _ _ h => h) (Or.inl ⟨by rfl, ?_⟩) (by assumption) ?_
          rotate_left
          · intro w hSw
            try dsimp only at hSw
            first | (go_simp; done) | (go_simp; with_reducible rfl)
          try simp only [Act.put, List.setIfInBounds_toArray, List.set_cons_zero, List.set_cons_succ]
          refine wpAnyH_done (by kernel_rfl) ?_ _
          go_wp2
          go_ret
          exact ⟨ret_bool (HF.out rfl), ext_trans (ext_trans Hb.out HB2.out) (by repeat (first | exact hbx | apply ext_drew | apply ext_drewN | exact Below.refl _ _))⟩
        exact AllReadyH.nil
      | true =>
        by_cases hk0 : k = 0
        · subst hk0
          obtain rfl : L = true := by rw [← hL]; rfl
          simp only [Nat.zero_mul, Nat.add_zero] at x0 x1 x2
          clear HF hR hstep hprev hRp hHe hB2 hb2
          go_wp2
          rw [← hw2]
          clear hw2
          refine wp_region_held_drew (S := fun W => W.cell? ⟨wr.heap.size, 0, none⟩ = some (.int .i64 a) ∧ W.cell? ⟨wr.heap.size, 1, none⟩ = some (.int .i64 b) ∧ W.cell? ⟨wr.heap.size, 2, none⟩ = some (.int .i64 d)) (by kernel_rfl) ?_ (fun hHeld => ?_)
          · exact HSS.out _ (by repeat (first | exact hbx | apply ext_drew | apply ext_drewN | exact Below.refl _ _))
          refine wpAnyH_take (i := 0) (v := ?_) (take_list rfl) (by kernel_rfl) (by kernel_rfl) (by kernel_rfl) (fun _ _ _ h => h) (Or.inl ⟨by rfl, ?_⟩) (by assumption) ?_
          rotate_left
          · intro w hSw
            try dsimp only at hSw
            first | (go_simp; done) | (go_simp; with_reducible rfl)
          try simp only [Act.put, List.setIfInBounds_toArray, List.set_cons_zero, List.set_cons_succ]
          refine wpAnyH_ready (rs := [1]) (by kernel_rfl) (by simp) ?_
          refine AllReadyH.cons (take_list rfl) (fun K hK => ?_) ?_
          · skip
            go_simp
            refine (HR.out _).mono ?_
            rintro e x1 ⟨rfl, hbx'⟩
            dsimp only
            have hbx : Below w2.heap.size w2 x1 := ext_trans (by repeat (first | exact hbx | apply ext_drew | apply ext_drewN | exact Below.refl _ _)) hbx'
            refine hK.out _ _ ?_ (fun hHeld => ?_)
            · try dsimp only
              exact HSS.out _ (by repeat (first | exact hbx | apply ext_drew | apply ext_drewN | exact Below.refl _ _))
            clear hK K
            refine wpAnyH_take (i := 2) (v := ?_) (take_list rfl) (by kernel_rfl) (by kernel_rfl) (by kernel_rfl) (fun _ _ _ h => h) (Or.inl ⟨by rfl, ?_⟩) (by assumption) ?_
            rotate_left
            · intro w hSw
              try dsimp only at hSw
              first | (go_simp; done) | (go_simp; with_reducible rfl)
            try simp only [Act.put, List.setIfInBounds_toArray, List.set_cons_zero, List.set_cons_succ]
            refine wpAnyH_take (i := 3) (v := ?_) (take_list rfl) (by kernel_rfl) (by kernel_rfl) (by kernel_rfl) (fun _ _ _ h => h) (Or.inl ⟨by rfl, ?_⟩) (by assumption) ?_
            rotate_left
            · intro w hSw
              try dsimp only at hSw
              first | (go_simp; done) | (go_simp; with_reducible rfl)
            try simp only [Act.put, List.setIfInBounds_toArray, List.set_cons_zero, List.set_cons_succ]
            refine wpAnyH_take (i := 4) (v := ?_) (take_list rfl) (by kernel_rfl) (by kernel_rfl) (by kernel_rfl) (fun _ _ _ h => h) (Or.inl ⟨by rfl, ?_⟩) (by assumption) ?_
            rotate_left
            · intro w hSw
              try dsimp only at hSw
              first | (go_simp; done) | (go_simp; with_reducible rfl)
            try simp only [Act.put, List.setIfInBounds_toArray, List.set_cons_zero, List.set_cons_succ]
            refine wpAnyH_take (i := 5) (v := ?_) (take_list rfl) (by kernel_rfl) (by kernel_rfl) (by kernel_rfl) (fun _ _ _ h => h) (Or.inl ⟨by rfl, ?_⟩) (by assumption) ?_
            rotate_left
            · intro w hSw
              try dsimp only at hSw
              first | (go_simp; done) | (go_simp; with_reducible rfl)
            try simp only [Act.put, List.setIfInBounds_toArray, List.set_cons_zero, List.set_cons_succ]
            refine wpAnyH_take (i := 6) (v := ?_) (take_list rfl) (by kernel_rfl) (by kernel_rfl) (by kernel_rfl) (fun _ _ _ h => h) (Or.inl ⟨by rfl, ?_⟩) (by assumption) ?_
            rotate_left
            · intro w hSw
              try dsimp only at hSw
              first | (go_simp; done) | (go_simp; with_reducible rfl)
            try simp only [Act.put, List.setIfInBounds_toArray, List.set_cons_zero, List.set_cons_succ]
            refine wpAnyH_take (i := 7) (v := undef) (take_list rfl) (by kernel_rfl) (by kernel_rfl) (by kernel_rfl) (fun _ _ _ h => h) (Or.inr ⟨by rfl, rfl⟩) (by assumption) ?_
            try simp only [Act.put, List.setIfInBounds_toArray, List.set_cons_zero, List.set_cons_succ]
            refine wpAnyH_take (i := 8) (v := undef) (take_list rfl) (by kernel_rfl) (by kernel_rfl) (by kernel_rfl) (fun _ _ _ h => h) (Or.inr ⟨by rfl, rfl⟩) (by assumption) ?_
            try simp only [Act.put, List.setIfInBounds_toArray, List.set_cons_zero, List.set_cons_succ]
            refine wpAnyH_take (i := 9) (v := undef) (take_list rfl) (by kernel_rfl) (by kernel_rfl) (by kernel_rfl) (fun _ _ _ h => h) (Or.inr ⟨by rfl, rfl⟩) (by assumption) ?_
            try simp only [Act.put, List.setIfInBounds_toArray, List.set_cons_zero, List.set_cons_succ]
            refine wpAnyH_take (i := 10) (v := undef) (take_list rfl) (by kernel_rfl) (by kernel_rfl) (by kernel_rfl) (fun _ _ _ h => h) (Or.inr ⟨by rfl, rfl⟩) (by assumption) ?_
            try simp only [Act.put, List.setIfInBounds_toArray, List.set_cons_zero, List.set_cons_succ]
            refine wpAnyH_take (i := 11) (v := undef) (take_list rfl) (by kernel_rfl) (by kernel_rfl) (by kernel_rfl) (fun _ _ _ h => h) (Or.inr ⟨by rfl, rfl⟩) (by assumption) ?_
            try simp only [Act.put, List.setIfInBounds_toArray, List.set_cons_zero, List.set_cons_succ]
            refine wpAnyH_take (i := 12) (v := undef) (take_list rfl) (by kernel_rfl) (by kernel_rfl) (by kernel_rfl) (fun _ _ _ h => h) (Or.inr ⟨by rfl, rfl⟩) (by assumption) ?_
            try simp only [Act.put, List.setIfInBounds_toArray, List.set_cons_zero, List.set_cons_succ]
            refine wpAnyH_take (i := 13) (v := undef) (take_list rfl) (by kernel_rfl) (by kernel_rfl) (by kernel_rfl) (fun _ _ _ h => h) (Or.inr ⟨by rfl, rfl⟩) (by assumption) ?_
            try simp only [Act.put, List.setIfInBounds_toArray, List.set_cons_zero, List.set_cons_succ]
            refine wpAnyH_take (i := 14) (v := undef) (take_list rfl) (by kernel_rfl) (by kernel_rfl) (by kernel_rfl) (fun _ _ _ h => h) (Or.inr ⟨by rfl, rfl⟩) (by assumption) ?_
            try simp only [Act.put, List.setIfInBounds_toArray, List.set_cons_zero, List.set_cons_succ]
            refine wpAnyH_take (i := 15) (v := undef) (take_list rfl) (by kernel_rfl) (by kernel_rfl) (by kernel_rfl) (fun _ _ _ h => h) (Or.inr ⟨by rfl, rfl⟩) (by assumption) ?_
            try simp only [Act.put, List.setIfInBounds_toArray, List.set_cons_zero, List.set_cons_succ]
            refine wpAnyH_take (i := 16) (v := ?_) (take_list rfl) (by kernel_rfl) (by kernel_rfl) (by kernel_rfl) (fun _ _ _ h => h) (Or.inl ⟨by rfl, ?_⟩) (by assumption) ?_
            rotate_left
            · intro w hSw
              try dsimp only at hSw
              first | (go_simp; done) | (go_simp; with_reducible rfl)
            try simp only [Act.put, List.setIfInBounds_toArray, List.set_cons_zero, List.set_cons_succ]
            refine wpAnyH_take (i := 17) (v := ?_) (take_list rfl) (by kernel_rfl) (by kernel_rfl) (by kernel_rfl) (fun _ _ _ h => h) (Or.inl ⟨by rfl, ?_⟩) (by assumption) ?_
            rotate_left
            · intro w hSw
              try dsimp only at hSw
              first | (go_simp; done) | (go_simp; with_reducible rfl)
            try simp only [Act.put, List.setIfInBounds_toArray, List.set_cons_zero, List.set_cons_succ]
            refine wpAnyH_done (by kernel_rfl) ?_ _
            have cz : _ := (HSS.out _ (by repeat (first | exact hbx | apply ext_drew | apply ext_drewN | exact Below.refl _ _))).1
            have hm2 := (HM2.out _ (by repeat (first | exact hbx | apply ext_drew | apply ext_drewN | exact Below.refl _ _)))
            go_wp2_with (first | (at_mapUpdate; refine wpList_mapUpdate_own _ rfl _ _ _ 42 rfl 3 45 law_key Try.underlying42 (unitElem (H := Unit)) w.heap.size _ _ rfl hm2 (by unfold maxLen; omega) _ _ _ rfl rfl hkey _ [] unitElem_mk ?_; intro w9 hown9 hgrow9) | go_in)
            go_roundw
            case rel => exact ⟨0 + 1, by omega, by go_num, Lib.hid (by rw [chainTo_succ, HC.out, HT.out rfl]; rfl), Lib.hid (by rw [idsD_succ, HA.out]; exact hown9), Lib.hid (Below.grown (ext_trans (ext_trans Hb.out HB2.out) (by repeat (first | exact hbx | apply ext_drew | apply ext_drewN | exact Below.refl _ _))) hgrow9 (ext_trans (ext_trans Hb.out HB2.out) (by repeat (first | exact hbx | apply ext_drew | apply ext_drewN | exact Below.refl _ _))).size (fun j hj => by cases hj; exact Nat.le_refl _))⟩
            case measure => simp [intOf]; omega
          exact AllReadyH.nil
        · have hkp : 0 < k := by omega
          have hkpi : (0 : Int) < (k : Int) := by omega
          have hk1i : (1 : Int) ≤ (k : Int) := by omega
          have hw1 : IntKind.i64.wrap ((k : Int) - 1) = (k : Int) - 1 := by rw [IntKind.wrap_i64]; omega
          have hkn : ((k : Int) - 1).toNat = k - 1 := by omega
          have hkl1 : (k : Int) - 1 < (l.length : Int) := by omega
          have hkl2 : (0 : Int) ≤ (k : Int) - 1 := by omega
          have hp := hprev hkp
          have hrp := (rightS_iff _).1 (hRp hkp)
          have hLL := linkS_at l k hkp
          obtain ⟨a', ha'⟩ : ∃ a', (l.getD (k - 1) spZ).id = a' := ⟨_, rfl⟩
          obtain ⟨b', hb'⟩ : ∃ b', (l.getD (k - 1) spZ).first = b' := ⟨_, rfl⟩
          obtain ⟨d', hd'⟩ : ∃ d', (l.getD (k - 1) spZ).count = d' := ⟨_, rfl⟩
          have HE := Lib.hid (fun W => end_any (l.getD (k - 1) spZ) W (by unfold isInt; omega))
          unfold spW at HE
          rw [ha', hb', hd'] at HE
          rw [hb, hb', hd', hL] at hLL
          have hp0 := hp.c0
          have hp1 := hp.c1
          have hp2 := hp.c2
          rw [ha'] at hp0
          rw [hb'] at hp1
          rw [hd'] at hp2
          have hpl : g < wr.heap.size := World.block_lt_of_cell? wr _ x0
          have hkeep : ∀ W, Below w2.heap.size w2 W → ∀ j, W.cell? ⟨g, j, none⟩ = wr.cell? ⟨g, j, none⟩ := fun W hW j => World.cell?_of_block (a := ⟨g, j, none⟩) ((ext_trans hb2 hW).block g hpl)
          have HSS : Hid (∀ W, Below w2.heap.size w2 W → (W.cell? ⟨wr.heap.size, 0, none⟩ = some (.int .i64 a) ∧ W.cell? ⟨wr.heap.size, 1, none⟩ = some (.int .i64 b) ∧ W.cell? ⟨wr.heap.size, 2, none⟩ = some (.int .i64 d) ∧ W.cell? ⟨g, o + (k - 1) * 3, none⟩ = some (.int .i64 a') ∧ W.cell? ⟨g, o + (k - 1) * 3 + 1, none⟩ = some (.int .i64 b') ∧ W.cell? ⟨g, o + (k - 1) * 3 + 2, none⟩ = some (.int .i64 d'))) := Lib.hid (fun W hW => by
            obtain ⟨h0, h1, h2⟩ := HSS.out W hW
            exact ⟨h0, h1, h2, (hkeep W hW _).trans hp0, (hkeep W hW _).trans hp1, (hkeep W hW _).trans hp2⟩)
          have hE : ¬ b = b' + d' → L = false := fun h => by rw [hLL]; exact decide_eq_false h
          have hE' : b = b' + d' → L = true := fun h => by rw [hLL]; exact decide_eq_true h
          clear hR hstep hprev hRp hHe hB2 hb2 hp hrp hLL ha' hb' hd' hp0 hp1 hp2 hkeep hL
          by_cases he : b = b' + d'
          · obtain rfl := hE' he
            clear hE hE' HF
            obtain ⟨e2, he2⟩ : ∃ e2, b' + d' = e2 := ⟨_, rfl⟩
            rw [he2] at HE he
            subst he
            clear he2
            go_wp2
            rw [← hw2]
            clear hw2
            refine wp_region_held_drew (S := fun W => W.cell? ⟨wr.heap.size, 0, none⟩ = some (.int .i64 a) ∧ W.cell? ⟨wr.heap.size, 1, none⟩ = some (.int .i64 b) ∧ W.cell? ⟨wr.heap.size, 2, none⟩ = some (.int .i64 d) ∧ W.cell? ⟨g, o + (k - 1) * 3, none⟩ = some (.int .i64 a') ∧ W.cell? ⟨g, o + (k - 1) * 3 + 1, none⟩ = some (.int .i64 b') ∧ W.cell? ⟨g, o + (k - 1) * 3 + 2, none⟩ = some (.int .i64 d')) (by kernel_rfl) ?_ (fun hHeld => ?_)
            · exact HSS.out _ (by repeat (first | exact hbx | apply ext_drew | apply ext_drewN | exact Below.refl _ _))
            refine wpAnyH_take (i := 0) (v := ?_) (take_list rfl) (by kernel_rfl) (by kernel_rfl) (by kernel_rfl) (fun _ _ _ h => h) (Or.inl ⟨by rfl, ?_⟩) (by assumption) ?_
            rotate_left
            · intro w hSw
              try dsimp only at hSw
              first | (go_simp; done) | (go_simp; with_reducible rfl)
            try simp only [Act.put, List.setIfInBounds_toArray, List.set_cons_zero, List.set_cons_succ]
            refine wpAnyH_ready (rs := [1]) (by kernel_rfl) (by simp) ?_
            refine AllReadyH.cons (take_list rfl) (fun K hK => ?_) ?_
            · skip
              go_simp
              refine (HR.out _).mono ?_
              rintro e x1 ⟨rfl, hbx'⟩
              dsimp only
              have hbx : Below w2.heap.size w2 x1 := ext_trans (by repeat (first | exact hbx | apply ext_drew | apply ext_drewN | exact Below.refl _ _)) hbx'
              refine hK.out _ _ ?_ (fun hHeld => ?_)
              · try dsimp only
                exact HSS.out _ (by repeat (first | exact hbx | apply ext_drew | apply ext_drewN | exact Below.refl _ _))
              clear hK K
              refine wpAnyH_take (i := 2) (v := ?_) (take_list rfl) (by kernel_rfl) (by kernel_rfl) (by kernel_rfl) (fun _ _ _ h => h) (Or.inl ⟨by rfl, ?_⟩) (by assumption) ?_
              rotate_left
              · intro w hSw
                try dsimp only at hSw
                first | (go_simp; done) | (go_simp; with_reducible rfl)
              try simp only [Act.put, List.setIfInBounds_toArray, List.set_cons_zero, List.set_cons_succ]
              refine wpAnyH_take (i := 3) (v := ?_) (take_list rfl) (by kernel_rfl) (by kernel_rfl) (by kernel_rfl) (fun _ _ _ h => h) (Or.inl ⟨by rfl, ?_⟩) (by assumption) ?_
              rotate_left
              · intro w hSw
                try dsimp only at hSw
                first | (go_simp; done) | (go_simp; with_reducible rfl)
              try simp only [Act.put, List.setIfInBounds_toArray, List.set_cons_zero, List.set_cons_succ]
              refine wpAnyH_take (i := 4) (v := ?_) (take_list rfl) (by kernel_rfl) (by kernel_rfl) (by kernel_rfl) (fun _ _ _ h => h) (Or.inl ⟨by rfl, ?_⟩) (by assumption) ?_
              rotate_left
              · intro w hSw
                try dsimp only at hSw
                first | (go_simp; done) | (go_simp; with_reducible rfl)
              try simp only [Act.put, List.setIfInBounds_toArray, List.set_cons_zero, List.set_cons_succ]
              refine wpAnyH_take (i := 5) (v := ?_) (take_list rfl) (by kernel_rfl) (by kernel_rfl) (by kernel_rfl) (fun _ _ _ h => h) (Or.inl ⟨by rfl, ?_⟩) (by assumption) ?_
              rotate_left
              · intro w hSw
                try dsimp only at hSw
                first | (go_simp; done) | (go_simp; with_reducible rfl)
              try simp only [Act.put, List.setIfInBounds_toArray, List.set_cons_zero, List.set_cons_succ]
              refine wpAnyH_take (i := 6) (v := ?_) (take_list rfl) (by kernel_rfl) (by kernel_rfl) (by kernel_rfl) (fun _ _ _ h => h) (Or.inl ⟨by rfl, ?_⟩) (by assumption) ?_
              rotate_left
              · intro w hSw
                try dsimp only at hSw
                first | (go_simp; done) | (go_simp; with_reducible rfl)
              try simp only [Act.put, List.setIfInBounds_toArray, List.set_cons_zero, List.set_cons_succ]
              refine wpAnyH_take (i := 7) (v := ?_) (take_list rfl) (by kernel_rfl) (by kernel_rfl) (by kernel_rfl) (fun _ _ _ h => h) (Or.inl ⟨by rfl, ?_⟩) (by assumption) ?_
              rotate_left
              · intro w hSw
                try dsimp only at hSw
                first | (go_simp; done) | (go_simp; with_reducible rfl)
              try simp only [Act.put, List.setIfInBounds_toArray, List.set_cons_zero, List.set_cons_succ]
              refine wpAnyH_take (i := 8) (v := ?_) (take_list rfl) (by kernel_rfl) (by kernel_rfl) (by kernel_rfl) (fun _ _ _ h => h) (Or.inl ⟨by rfl, ?_⟩) (by assumption) ?_
              rotate_left
              · intro w hSw
                try dsimp only at hSw
                first | (go_simp; done) | (go_simp; with_reducible rfl)
              try simp only [Act.put, List.setIfInBounds_toArray, List.set_cons_zero, List.set_cons_succ]
              refine wpAnyH_take (i := 9) (v := ?_) (take_list rfl) (by kernel_rfl) (by kernel_rfl) (by kernel_rfl) (fun _ _ _ h => h) (Or.inl ⟨by rfl, ?_⟩) (by assumption) ?_
              rotate_left
              · intro w hSw
                try dsimp only at hSw
                first | (go_simp; done) | (go_simp; with_reducible rfl)
              try simp only [Act.put, List.setIfInBounds_toArray, List.set_cons_zero, List.set_cons_succ]
              refine wpAnyH_take (i := 10) (v := ?_) (take_list rfl) (by kernel_rfl) (by kernel_rfl) (by kernel_rfl) (fun _ _ _ h => h) (Or.inl ⟨by rfl, ?_⟩) (by assumption) ?_
              rotate_left
              · intro w hSw
                try dsimp only at hSw
                first | (go_simp; done) | (go_simp; with_reducible rfl)
              try simp only [Act.put, List.setIfInBounds_toArray, List.set_cons_zero, List.set_cons_succ]
              refine wpAnyH_take (i := 11) (v := ?_) (take_list rfl) (by kernel_rfl) (by kernel_rfl) (by kernel_rfl) (fun _ _ _ h => h) (Or.inl ⟨by rfl, ?_⟩) (by assumption) ?_
              rotate_left
              · intro w hSw
                try dsimp only at hSw
                first | (go_simp; done) | (go_simp; with_reducible rfl)
              try simp only [Act.put, List.setIfInBounds_toArray, List.set_cons_zero, List.set_cons_succ]
              refine wpAnyH_take (i := 12) (v := ?_) (take_list rfl) (by kernel_rfl) (by kernel_rfl) (by kernel_rfl) (fun _ _ _ h => h) (Or.inl ⟨by rfl, ?_⟩) (by assumption) ?_
              rotate_left
              · intro w hSw
                try dsimp only at hSw
                first | (go_simp; done) | (go_simp; with_reducible rfl)
              try simp only [Act.put, List.setIfInBounds_toArray, List.set_cons_zero, List.set_cons_succ]
              refine wpAnyH_take (i := 13) (v := ?_) (take_list rfl) (by kernel_rfl) (by kernel_rfl) (by kernel_rfl) (fun _ _ _ h => h) (Or.inl ⟨by rfl, ?_⟩) (by assumption) ?_
              rotate_left
              · intro w hSw
                try dsimp only at hSw
                first | (go_simp; done) | (go_simp; with_reducible rfl)
              try simp only [Act.put, List.setIfInBounds_toArray, List.set_cons_zero, List.set_cons_succ]
              refine wpAnyH_ready (rs := [14]) (by kernel_rfl) (by simp) ?_
              refine AllReadyH.cons (take_list rfl) (fun K hK => ?_) ?_
              · skip
                go_simp
                refine (HE.out _).mono ?_
                rintro e x2 ⟨rfl, hbx'⟩
                dsimp only
                have hbx : Below w2.heap.size w2 x2 := ext_trans (by repeat (first | exact hbx | apply ext_drew | apply ext_drewN | exact Below.refl _ _)) hbx'
                refine hK.out _ _ ?_ (fun hHeld => ?_)
                · try dsimp only
                  exact HSS.out _ (by repeat (first | exact hbx | apply ext_drew | apply ext_drewN | exact Below.refl _ _))
                clear hK K
                refine wpAnyH_take (i := 15) (v := ?_) (take_list rfl) (by kernel_rfl) (by kernel_rfl) (by kernel_rfl) (fun _ _ _ h => h) (Or.inl ⟨by rfl, ?_⟩) (by assumption) ?_
                rotate_left
                · intro w hSw
                  try dsimp only at hSw
                  first | (go_simp; done) | (go_simp; with_reducible rfl)
                try simp only [Act.put, List.setIfInBounds_toArray, List.set_cons_zero, List.set_cons_succ]
                refine wpAnyH_take (i := 16) (v := ?_) (take_list rfl) (by kernel_rfl) (by kernel_rfl) (by kernel_rfl) (fun _ _ _ h => h) (Or.inl ⟨by rfl, ?_⟩) (by assumption) ?_
                rotate_left
                · intro w hSw
                  try dsimp only at hSw
                  first | (go_simp; done) | (go_simp; with_reducible rfl)
                try simp only [Act.put, List.setIfInBounds_toArray, List.set_cons_zero, List.set_cons_succ]
                refine wpAnyH_take (i := 17) (v := ?_) (take_list rfl) (by kernel_rfl) (by kernel_rfl) (by kernel_rfl) (fun _ _ _ h => h) (Or.inl ⟨by rfl, ?_⟩) (by assumption) ?_
                rotate_left
                · intro w hSw
                  try dsimp only at hSw
                  first | (go_simp; done) | (go_simp; with_reducible rfl)
                try simp only [Act.put, List.setIfInBounds_toArray, List.set_cons_zero, List.set_cons_succ]
                refine wpAnyH_done (by kernel_rfl) ?_ _
                have cz : _ := (HSS.out _ (by repeat (first | exact hbx | apply ext_drew | apply ext_drewN | exact Below.refl _ _))).1
                have hm2 := (HM2.out _ (by repeat (first | exact hbx | apply ext_drew | apply ext_drewN | exact Below.refl _ _)))
                go_wp2_with (first | (at_mapUpdate; refine wpList_mapUpdate_own _ rfl _ _ _ 42 rfl 3 45 law_key Try.underlying42 (unitElem (H := Unit)) w.heap.size _ _ rfl hm2 (by unfold maxLen; omega) _ _ _ rfl rfl hkey _ [] unitElem_mk ?_; intro w9 hown9 hgrow9) | go_in)
                go_roundw
                case rel => exact ⟨k + 1, by omega, by go_num, Lib.hid (by rw [chainTo_succ, HC.out, HT.out rfl]; rfl), Lib.hid (by rw [idsD_succ, HA.out]; exact hown9), Lib.hid (Below.grown (ext_trans (ext_trans Hb.out HB2.out) (by repeat (first | exact hbx | apply ext_drew | apply ext_drewN | exact Below.refl _ _))) hgrow9 (ext_trans (ext_trans Hb.out HB2.out) (by repeat (first | exact hbx | apply ext_drew | apply ext_drewN | exact Below.refl _ _))).size (fun j hj => by cases hj; exact Nat.le_refl _))⟩
                case measure => simp [intOf]; omega
              exact AllReadyH.nil
            exact AllReadyH.nil
          · obtain rfl := hE he
            clear hE hE' HT
            obtain ⟨e2, he2⟩ : ∃ e2, b' + d' = e2 := ⟨_, rfl⟩
            rw [he2] at HE he
            clear he2
            go_wp2
            rw [← hw2]
            clear hw2
            refine wp_region_held_drew (S := fun W => W.cell? ⟨wr.heap.size, 0, none⟩ = some (.int .i64 a) ∧ W.cell? ⟨wr.heap.size, 1, none⟩ = some (.int .i64 b) ∧ W.cell? ⟨wr.heap.size, 2, none⟩ = some (.int .i64 d) ∧ W.cell? ⟨g, o + (k - 1) * 3, none⟩ = some (.int .i64 a') ∧ W.cell? ⟨g, o + (k - 1) * 3 + 1, none⟩ = some (.int .i64 b') ∧ W.cell? ⟨g, o + (k - 1) * 3 + 2, none⟩ = some (.int .i64 d')) (by kernel_rfl) ?_ (fun hHeld => ?_)
            · exact HSS.out _ (by repeat (first | exact hbx | apply ext_drew | apply ext_drewN | exact Below.refl _ _))
            refine wpAnyH_take (i := 0) (v := ?_) (take_list rfl) (by kernel_rfl) (by kernel_rfl) (by kernel_rfl) (fun _ _ _ h => h) (Or.inl ⟨by rfl, ?_⟩) (by assumption) ?_
            rotate_left
            · intro w hSw
              try dsimp only at hSw
              first | (go_simp; done) | (go_simp; with_reducible rfl)
            try simp only [Act.put, List.setIfInBounds_toArray, List.set_cons_zero, List.set_cons_succ]
            refine wpAnyH_ready (rs := [1]) (by kernel_rfl) (by simp) ?_
            refine AllReadyH.cons (take_list rfl) (fun K hK => ?_) ?_
            · skip
              go_simp
              refine (HR.out _).mono ?_
              rintro e x1 ⟨rfl, hbx'⟩
              dsimp only
              have hbx : Below w2.heap.size w2 x1 := ext_trans (by repeat (first | exact hbx | apply ext_drew | apply ext_drewN | exact Below.refl _ _)) hbx'
              refine hK.out _ _ ?_ (fun hHeld => ?_)
              · try dsimp only
                exact HSS.out _ (by repeat (first | exact hbx | apply ext_drew | apply ext_drewN | exact Below.refl _ _))
              clear hK K
              refine wpAnyH_take (i := 2) (v := ?_) (take_list rfl) (by kernel_rfl) (by kernel_rfl) (by kernel_rfl) (fun _ _ _ h => h) (Or.inl ⟨by rfl, ?_⟩) (by assumption) ?_
              rotate_left
              · intro w hSw
                try dsimp only at hSw
                first | (go_simp; done) | (go_simp; with_reducible rfl)
              try simp only [Act.put, List.setIfInBounds_toArray, List.set_cons_zero, List.set_cons_succ]
              refine wpAnyH_take (i := 3) (v := ?_) (take_list rfl) (by kernel_rfl) (by kernel_rfl) (by kernel_rfl) (fun _ _ _ h => h) (Or.inl ⟨by rfl, ?_⟩) (by assumption) ?_
              rotate_left
              · intro w hSw
                try dsimp only at hSw
                first | (go_simp; done) | (go_simp; with_reducible rfl)
              try simp only [Act.put, List.setIfInBounds_toArray, List.set_cons_zero, List.set_cons_succ]
              refine wpAnyH_take (i := 4) (v := ?_) (take_list rfl) (by kernel_rfl) (by kernel_rfl) (by kernel_rfl) (fun _ _ _ h => h) (Or.inl ⟨by rfl, ?_⟩) (by assumption) ?_
              rotate_left
              · intro w hSw
                try dsimp only at hSw
                first | (go_simp; done) | (go_simp; with_reducible rfl)
              try simp only [Act.put, List.setIfInBounds_toArray, List.set_cons_zero, List.set_cons_succ]
              refine wpAnyH_take (i := 5) (v := ?_) (take_list rfl) (by kernel_rfl) (by kernel_rfl) (by kernel_rfl) (fun _ _ _ h => h) (Or.inl ⟨by rfl, ?_⟩) (by assumption) ?_
              rotate_left
              · intro w hSw
                try dsimp only at hSw
                first | (go_simp; done) | (go_simp; with_reducible rfl)
              try simp only [Act.put, List.setIfInBounds_toArray, List.set_cons_zero, List.set_cons_succ]
              refine wpAnyH_take (i := 6) (v := ?_) (take_list rfl) (by kernel_rfl) (by kernel_rfl) (by kernel_rfl) (fun _ _ _ h => h) (Or.inl ⟨by rfl, ?_⟩) (by assumption) ?_
              rotate_left
              · intro w hSw
                try dsimp only at hSw
                first | (go_simp; done) | (go_simp; with_reducible rfl)
              try simp only [Act.put, List.setIfInBounds_toArray, List.set_cons_zero, List.set_cons_succ]
              refine wpAnyH_take (i := 7) (v := ?_) (take_list rfl) (by kernel_rfl) (by kernel_rfl) (by kernel_rfl) (fun _ _ _ h => h) (Or.inl ⟨by rfl, ?_⟩) (by assumption) ?_
              rotate_left
              · intro w hSw
                try dsimp only at hSw
                first | (go_simp; done) | (go_simp; with_reducible rfl)
              try simp only [Act.put, List.setIfInBounds_toArray, List.set_cons_zero, List.set_cons_succ]
              refine wpAnyH_take (i := 8) (v := ?_) (take_list rfl) (by kernel_rfl) (by kernel_rfl) (by kernel_rfl) (fun _ _ _ h => h) (Or.inl ⟨by rfl, ?_⟩) (by assumption) ?_
              rotate_left
              · intro w hSw
                try dsimp only at hSw
                first | (go_simp; done) | (go_simp; with_reducible rfl)
              try simp only [Act.put, List.setIfInBounds_toArray, List.set_cons_zero, List.set_cons_succ]
              refine wpAnyH_take (i := 9) (v := ?_) (take_list rfl) (by kernel_rfl) (by kernel_rfl) (by kernel_rfl) (fun _ _ _ h => h) (Or.inl ⟨by rfl, ?_⟩) (by assumption) ?_
              rotate_left
              · intro w hSw
                try dsimp only at hSw
                first | (go_simp; done) | (go_simp; with_reducible rfl)
              try simp only [Act.put, List.setIfInBounds_toArray, List.set_cons_zero, List.set_cons_succ]
              refine wpAnyH_take (i := 10) (v := ?_) (take_list rfl) (by kernel_rfl) (by kernel_rfl) (by kernel_rfl) (fun _ _ _ h => h) (Or.inl ⟨by rfl, ?_⟩) (by assumption) ?_
              rotate_left
              · intro w hSw
                try dsimp only at hSw
                first | (go_simp; done) | (go_simp; with_reducible rfl)
              try simp only [Act.put, List.setIfInBounds_toArray, List.set_cons_zero, List.set_cons_succ]
              refine wpAnyH_take (i := 11) (v := ?_) (take_list rfl) (by kernel_rfl) (by kernel_rfl) (by kernel_rfl) (fun _ _ _ h => h) (Or.inl ⟨by rfl, ?_⟩) (by assumption) ?_
              rotate_left
              · intro w hSw
                try dsimp only at hSw
                first | (go_simp; done) | (go_simp; with_reducible rfl)
              try simp only [Act.put, List.setIfInBounds_toArray, List.set_cons_zero, List.set_cons_succ]
              refine wpAnyH_take (i := 12) (v := ?_) (take_list rfl) (by kernel_rfl) (by kernel_rfl) (by kernel_rfl) (fun _ _ _ h => h) (Or.inl ⟨by rfl, ?_⟩) (by assumption) ?_
              rotate_left
              · intro w hSw
                try dsimp only at hSw
                first | (go_simp; done) | (go_simp; with_reducible rfl)
              try simp only [Act.put, List.setIfInBounds_toArray, List.set_cons_zero, List.set_cons_succ]
              refine wpAnyH_take (i := 13) (v := ?_) (take_list rfl) (by kernel_rfl) (by kernel_rfl) (by kernel_rfl) (fun _ _ _ h => h) (Or.inl ⟨by rfl, ?_⟩) (by assumption) ?_
              rotate_left
              · intro w hSw
                try dsimp only at hSw
                first | (go_simp; done) | (go_simp; with_reducible rfl)
              try simp only [Act.put, List.setIfInBounds_toArray, List.set_cons_zero, List.set_cons_succ]
              refine wpAnyH_ready (rs := [14]) (by kernel_rfl) (by simp) ?_
              refine AllReadyH.cons (take_list rfl) (fun K hK => ?_) ?_
              · skip
                go_simp
                refine (HE.out _).mono ?_
                rintro e x2 ⟨rfl, hbx'⟩
                dsimp only
                have hbx : Below w2.heap.size w2 x2 := ext_trans (by repeat (first | exact hbx | apply ext_drew | apply ext_drewN | exact Below.refl _ _)) hbx'
                refine hK.out _ _ ?_ (fun hHeld => ?_)
                · try dsimp only
                  exact HSS.out _ (by repeat (first | exact hbx | apply ext_drew | apply ext_drewN | exact Below.refl _ _))
                clear hK K
                refine wpAnyH_take (i := 15) (v := ?_) (take_list rfl) (by kernel_rfl) (by kernel_rfl) (by kernel_rfl) (fun _ _ _ h => h) (Or.inl ⟨by rfl, ?_⟩) (by assumption) ?_
                rotate_left
                · intro w hSw
                  try dsimp only at hSw
                  first | (go_simp; done) | (go_simp; with_reducible rfl)
                try simp only [Act.put, List.setIfInBounds_toArray, List.set_cons_zero, List.set_cons_succ]
                refine wpAnyH_take (i := 16) (v := ?_) (take_list rfl) (by kernel_rfl) (by kernel_rfl) (by kernel_rfl) (fun _ _ _ h => h) (Or.inl ⟨by rfl, ?_⟩) (by assumption) ?_
                rotate_left
                · intro w hSw
                  try dsimp only at hSw
                  first | (go_simp; done) | (go_simp; with_reducible rfl)
                try simp only [Act.put, List.setIfInBounds_toArray, List.set_cons_zero, List.set_cons_succ]
                refine wpAnyH_take (i := 17) (v := ?_) (take_list rfl) (by kernel_rfl) (by kernel_rfl) (by kernel_rfl) (fun _ _ _ h => h) (Or.inl ⟨by rfl, ?_⟩) (by assumption) ?_
                rotate_left
                · intro w hSw
                  try dsimp only at hSw
                  first | (go_simp; done) | (go_simp; with_reducible rfl)
                try simp only [Act.put, List.setIfInBounds_toArray, List.set_cons_zero, List.set_cons_succ]
                refine wpAnyH_done (by kernel_rfl) ?_ _
                go_wp2
                go_ret
                exact ⟨ret_bool (HF.out rfl), ext_trans (ext_trans Hb.out HB2.out) (by repeat (first | exact hbx | apply ext_drew | apply ext_drewN | exact Below.refl _ _))⟩
              exact AllReadyH.nil
            exact AllReadyH.nil
    · obtain rfl : k = l.length := by omega
      have hm := HM.out
      have hV := isS_count (H := Unit) l HC.out
      rw [HV.out] at hV
      obtain ⟨sz, hsz⟩ : ∃ sz, Maps.size (idsD (H := Unit) l l.length) = sz := ⟨_, rfl⟩
      rw [hsz] at hV
      by_cases he : (sz : Int) = (l.length : Int)
      all_goals
        go_wp2_with (first | (at_len; refine wpList_len_own _ rfl _ 42 rfl 3 45 Try.underlying42 _ w.heap.size l.length _ rfl hm ?_; rw [hsz]) | go_in)
        go_ret
        exact ⟨ret_bool (by rw [← hV]; simp [he]), Hb.out⟩
end Go.Proofs.Ythomhhnioadpmaa

/-
  The contract of plan.Pick. No statement of the seat is proved here.
-/
namespace Go.Proofs.Ythomhhnioadpmaa
open Go Go.RowKit
set_option maxRecDepth 100000

def numP (p : Option Nat) : Int := match p with | none => 0 | some p => (p : Int)
def nextP (l : List Sp) (k : Nat) (J : Bool) (pk : Option Nat) : Option Nat := if J && (match pk with | none => true | some p => decide (togS l k < togS l p)) then some k else pk
theorem pickTo_next (l : List Sp) (k : Nat) : pickTo l (k + 1) = nextP l k (joinsK l k) (pickTo l k) := rfl
theorem nextP_no (l : List Sp) (k : Nat) (pk : Option Nat) : nextP l k false pk = pk := rfl
theorem nextP_first (l : List Sp) (k : Nat) : nextP l k true none = some k := rfl
theorem nextP_some (l : List Sp) (k p : Nat) : nextP l k true (some p) = if togS l k < togS l p then some k else some p := by simp [nextP]
theorem joinsI_nat (l : List Sp) (k : Nat) : joinsI l (k : Int) = joinsK l k := by
  unfold joinsI
  rw [decide_eq_true (show (0 : Int) ≤ (k : Int) by omega), Bool.true_and, Int.toNat_natCast]
set_option maxHeartbeats 4000000 in
theorem pick_any (A : Option Addr) (n c : Nat) (l : List Sp) (w : World) (hn : n = l.length) (hl : l.length ≤ 1000000) (h : SpsAt w A l) (hok : ∀ k, k < l.length → (l.getD k spZ).ok) :
    Calls Try.prog 7 #[.slice A n c] w fun e w' => e = .returned (.tuple #[.int .i64 (numP (pickS l)), .bool (pickS l).isSome]) ∧ Below w.heap.size w w' := by
  subst hn
  have hli : (l.length : Int) ≤ 1000000 := by omega
  have HI := Lib.hid (is_any A l.length c l w rfl hl h hok)
  obtain ⟨V, hV⟩ : ∃ V, pickS l = V := ⟨_, rfl⟩
  rw [hV]
  have HV := Lib.hid hV
  have H := Lib.hid h
  have HO := Lib.hid hok
  obtain ⟨I, hI⟩ : ∃ I, isS l = I := ⟨_, rfl⟩
  rw [hI] at HI
  have HIs := Lib.hid hI
  clear h hok hV hI
  go_enter Try.func7, Try.ntmps7
  go_wp2_with fail
  refine HI.out.mono ?_
  rintro e w1 ⟨rfl, hb1⟩
  have Hb1 := Lib.hid hb1
  clear hb1 HI
  cases I with
  | false =>
    have hv : V = none := by rw [← HV.out]; unfold pickS; rw [HIs.out]; rfl
    subst hv
    go_wp2
    go_ret2
    exact ⟨rfl, Hb1.out⟩
  | true =>
    have hv : pickTo l l.length = V := by rw [← HV.out]; unfold pickS; rw [HIs.out]; rfl
    have HP := Lib.hid hv
    have HT := Lib.hid (isS_tog HIs.out)
    clear hv
    go_wp2
    go_loopw [4, 5, 12] (fun pl fd i wr => ∃ (k : Nat) (pk : Option Nat), k ≤ l.length ∧ i = .int .i64 (k : Int) ∧ pl = .int .i64 (numP pk) ∧ fd = .bool pk.isSome ∧ Hid (pickTo l k = pk) ∧ Hid (Below w.heap.size w wr)) (fun _ _ i _ => l.length - (intOf i).toNat)
    case atStart => exact ⟨0, none, Nat.zero_le _, rfl, rfl, rfl, Lib.hid rfl, Hb1⟩
    case round =>
      obtain ⟨k, pk, hk, rfl, rfl, rfl, HK, Hb⟩ := hrel
      by_cases hlt : k < l.length
      · have hki : (k : Int) < (l.length : Int) := by omega
        have hkb : (k : Int) ≤ 1000000 := by omega
        have hH := H.out.ext Hb.out
        have hJ := joins_any A l.length c l wr (k : Int) (by unfold isInt; omega) rfl hl hH HT.out
        rw [joinsI_nat] at hJ
        obtain ⟨J, hJJ⟩ : ∃ J, joinsK l k = J := ⟨_, rfl⟩
        have HS : Hid (pickTo l (k + 1) = nextP l k J pk) := Lib.hid (by rw [pickTo_next, HK.out, hJJ])
        rw [hJJ] at hJ
        have HJ := Lib.hid hJ
        have HH := Lib.hid hH
        clear hJ hH
        cases J with
        | false =>
          clear hJJ
          go_wp2_with fail
          refine HJ.out.mono ?_
          rintro e w2 ⟨rfl, hb2⟩
          have Hb2 := Lib.hid (ext_trans Hb.out hb2)
          clear hb2
          go_wp2
          go_roundw
          case rel => exact ⟨k + 1, pk, by omega, by go_num, rfl, rfl, Lib.hid HS.out, Hb2⟩
          case measure => simp [intOf]; omega
        | true =>
          have hk2 : k + 1 < l.length := by simp [joinsK] at hJJ; omega
          clear hJJ
          cases pk with
          | none =>
            go_wp2_with fail
            refine HJ.out.mono ?_
            rintro e w2 ⟨rfl, hb2⟩
            have Hb2 := Lib.hid (ext_trans Hb.out hb2)
            clear hb2
            go_wp2
            go_roundw
            case rel => exact ⟨k + 1, some k, by omega, by go_num, rfl, rfl, Lib.hid HS.out, Hb2⟩
            case measure => simp [intOf]; omega
          | some p =>
            obtain ⟨hp1, hp2, hp3⟩ := pickTo_at HK.out
            have HT1 : Hid (∀ W, Below wr.heap.size wr W → Calls Try.prog 18 #[.slice A l.length c, .int .i64 (k : Int)] W fun e w' => e = .returned (.int .i64 (togS l k)) ∧ Below W.heap.size W w') := Lib.hid fun W hW => together_any A l.length c l W k rfl hl (HH.out.ext hW) hk2 (HT.out k hk2)
            have HT2 : Hid (∀ W, Below wr.heap.size wr W → Calls Try.prog 18 #[.slice A l.length c, .int .i64 (p : Int)] W fun e w' => e = .returned (.int .i64 (togS l p)) ∧ Below W.heap.size W w') := Lib.hid fun W hW => together_any A l.length c l W p rfl hl (HH.out.ext hW) hp2 (HT.out p hp2)
            have hnum : numP (some p) = (p : Int) := rfl
            rw [hnum]
            have hSS := HS.out
            rw [nextP_some] at hSS
            obtain ⟨X, hX⟩ : ∃ X, togS l k = X := ⟨_, rfl⟩
            obtain ⟨Y, hY⟩ : ∃ Y, togS l p = Y := ⟨_, rfl⟩
            rw [hX] at HT1 hSS
            rw [hY] at HT2 hSS
            have HS2 := Lib.hid hSS
            clear hX hY hSS HS hp1 hp2 hp3 hnum
            by_cases hXY : X < Y
            all_goals
              go_wp2_with fail
              refine HJ.out.mono ?_
              rintro e w2 ⟨rfl, hb2⟩
              have Hb2 := Lib.hid hb2
              clear hb2
              go_wp2_with fail
              refine (HT1.out _ Hb2.out).mono ?_
              rintro e w3 ⟨rfl, hb3⟩
              have Hb3 := Lib.hid (ext_trans Hb2.out hb3)
              clear hb3
              go_wp2_with fail
              refine (HT2.out _ Hb3.out).mono ?_
              rintro e w4 ⟨rfl, hb4⟩
              have Hb4 := Lib.hid (ext_trans Hb.out (ext_trans Hb3.out hb4))
              clear hb4
              go_wp2
              go_roundw
              case rel =>
                first
                | exact ⟨k + 1, some k, by omega, by go_num, rfl, rfl, Lib.hid (by rw [HS2.out, if_pos hXY]), Hb4⟩
                | exact ⟨k + 1, some p, by omega, by go_num, rfl, rfl, Lib.hid (by rw [HS2.out, if_neg (show ¬ X < Y by omega)]), Hb4⟩
              case measure => simp [intOf]; omega
      · obtain rfl : k = l.length := by omega
        have hv : V = pk := by rw [← HP.out, HK.out]
        subst hv
        go_wp2
        go_ret2
        exact ⟨rfl, Hb.out⟩
end Go.Proofs.Ythomhhnioadpmaa

/-
  The contracts of the reference's Is and Pick. No statement of the seat is proved here.
-/
namespace Go.Proofs.Ythomhhnioadpmaa
open Go Go.RowKit
set_option maxRecDepth 100000

set_option maxHeartbeats 8000000 in
theorem ris_any (A : Option Addr) (n c : Nat) (l : List Sp) (w : World) (hn : n = l.length) (hl : l.length ≤ 1000000) (h : SpsAt w A l) :
    Calls Try.prog 14 #[.slice A n c] w fun e w' => e = .returned (.bool (isS l)) ∧ Below w.heap.size w w' := by
  subst hn
  have hli : (l.length : Int) ≤ 1000000 := by omega
  have H := Lib.hid h
  obtain ⟨V, hV⟩ : ∃ V, isS l = V := ⟨_, rfl⟩
  rw [hV]
  have HV := Lib.hid hV
  clear h hV
  go_enter Try.func14, Try.ntmps14
  go_wp2
  go_loopw [3] (fun v wr => ∃ i : Nat, i ≤ l.length ∧ v = .int .i64 (i : Int) ∧ Hid (chainTo l i = true) ∧ Hid (diffTo l i = true) ∧ Hid (Below w.heap.size w wr)) (fun v _ => l.length - (intOf v).toNat)
  case atStart => exact ⟨0, Nat.zero_le _, rfl, Lib.hid rfl, Lib.hid rfl, Lib.hid (Below.refl _ _)⟩
  case round =>
    rename World => wo
    obtain ⟨i, hi, rfl, HC, HD, Hb⟩ := hrel
    by_cases hlt : i < l.length
    case neg =>
      obtain rfl : i = l.length := by omega
      have hv : true = V := by rw [← HV.out]; unfold isS; rw [HC.out, HD.out]; rfl
      subst hv
      go_wp2
      go_ret
      exact ⟨rfl, Hb.out⟩
    have hki : (i : Int) < (l.length : Int) := by omega
    have hkb : (i : Int) ≤ 1000000 := by omega
    have hHe := (H.out.ext Hb.out)
    obtain ⟨g, o, rfl, x0, x1, x2⟩ := hHe.at_ hlt
    have HHe := Lib.hid hHe
    have hprev : 0 < i → SpAt wo g (o + (i - 1) * 3) (l.getD (i - 1) spZ) := fun _ => by
      obtain ⟨g', o', e, hs⟩ := hHe (i - 1) (by omega)
      injection e with e
      injection e with e1 e2 _
      subst e1 e2
      exact hs
    have hRp : 0 < i → rightS (l.getD (i - 1) spZ) = true := fun _ => by
      have := chainTo_at HC.out (k := i - 1) (by omega)
      unfold stepS at this
      rw [Bool.and_eq_true] at this
      exact this.1
    have hbad : rightS (l.getD i spZ) = false → false = V := fun h => by rw [← HV.out]; exact (isS_no hlt (by unfold stepS; rw [h]; rfl)).symm
    have hbad2 : linkS l i = false → false = V := fun h => by rw [← HV.out]; exact (isS_no hlt (by unfold stepS; rw [h, Bool.and_false])).symm
    have hlink := linkS_at l i
    have hstep : stepS l i = (rightS (l.getD i spZ) && linkS l i) := rfl
    obtain ⟨a, ha⟩ : ∃ a, (l.getD i spZ).id = a := ⟨_, rfl⟩
    obtain ⟨b, hb⟩ : ∃ b, (l.getD i spZ).first = b := ⟨_, rfl⟩
    obtain ⟨d, hd⟩ : ∃ d, (l.getD i spZ).count = d := ⟨_, rfl⟩
    have hre : rightS (l.getD i spZ) = rightS ⟨a, b, d⟩ := by rw [← ha, ← hb, ← hd]
    rw [hre] at hbad hstep
    rw [ha] at x0
    rw [hb] at x1
    rw [hd] at x2
    rw [hb] at hlink
    have HA := Lib.hid ha
    clear hre hb hd ha hHe
    have Hbad := Lib.hid hbad
    have Hbad2 := Lib.hid hbad2
    have Hstep := Lib.hid hstep
    have Hlink := Lib.hid hlink
    have Hprev := Lib.hid hprev
    have HRp := Lib.hid hRp
    clear hbad hbad2 hstep hlink hprev hRp
    by_cases h0 : 1 ≤ a
    case neg =>
      obtain rfl : false = V := Hbad.out (by cases hc : rightS ⟨a, b, d⟩ with | false => rfl | true => exact absurd ((rightS_iff _).1 hc).1 h0)
      go_wp2
      go_ret
      exact ⟨rfl, ext_alloc Hb.out _⟩
    by_cases h1 : a ≤ 34359738368
    case neg =>
      obtain rfl : false = V := Hbad.out (by cases hc : rightS ⟨a, b, d⟩ with | false => rfl | true => exact absurd ((rightS_iff _).1 hc).2.1 h1)
      go_wp2
      go_ret
      exact ⟨rfl, ext_alloc Hb.out _⟩
    by_cases h2 : 0 ≤ b
    case neg =>
      obtain rfl : false = V := Hbad.out (by cases hc : rightS ⟨a, b, d⟩ with | false => rfl | true => exact absurd ((rightS_iff _).1 hc).2.2.1 h2)
      go_wp2
      go_ret
      exact ⟨rfl, ext_alloc Hb.out _⟩
    by_cases h3 : b ≤ 34359738368
    case neg =>
      obtain rfl : false = V := Hbad.out (by cases hc : rightS ⟨a, b, d⟩ with | false => rfl | true => exact absurd ((rightS_iff _).1 hc).2.2.2.1 h3)
      go_wp2
      go_ret
      exact ⟨rfl, ext_alloc Hb.out _⟩
    by_cases h4 : 1 ≤ d
    case neg =>
      obtain rfl : false = V := Hbad.out (by cases hc : rightS ⟨a, b, d⟩ with | false => rfl | true => exact absurd ((rightS_iff _).1 hc).2.2.2.2.1 h4)
      go_wp2
      go_ret
      exact ⟨rfl, ext_alloc Hb.out _⟩
    by_cases h5 : d ≤ 512
    case neg =>
      obtain rfl : false = V := Hbad.out (by cases hc : rightS ⟨a, b, d⟩ with | false => rfl | true => exact absurd ((rightS_iff _).1 hc).2.2.2.2.2 h5)
      go_wp2
      go_ret
      exact ⟨rfl, ext_alloc Hb.out _⟩
    have hr : rightS ⟨a, b, d⟩ = true := (rightS_iff _).2 ⟨h0, h1, h2, h3, h4, h5⟩
    rw [hr, Bool.true_and] at Hstep
    clear hr Hbad
    have hb2 : Below wo.heap.size wo (wo.alloc (.cells #[.int .i64 a, .int .i64 b, .int .i64 d] 24)) := ext_alloc (Below.refl _ _) _
    have hB2 : Blk (wo.alloc (.cells #[.int .i64 a, .int .i64 b, .int .i64 d] 24)) wo.heap.size 24 #[.int .i64 a, .int .i64 b, .int .i64 d] := Blk.new _ _ _
    have hloop : ∀ (L : Bool), linkS l i = true → True := fun _ _ => trivial
    by_cases hlk : linkS l i = false
    case pos =>
      obtain rfl : false = V := Hbad2.out hlk
      have hi0 : 0 < i := by
        rcases Nat.eq_zero_or_pos i with h | h
        · subst h; cases hlk
        · exact h
      have hl2 := Hlink.out hi0
      rw [hlk] at hl2
      have hne := of_decide_eq_false hl2.symm
      obtain ⟨a', ha'⟩ : ∃ a', (l.getD (i - 1) spZ).id = a' := ⟨_, rfl⟩
      obtain ⟨b', hb'⟩ : ∃ b', (l.getD (i - 1) spZ).first = b' := ⟨_, rfl⟩
      obtain ⟨d', hd'⟩ : ∃ d', (l.getD (i - 1) spZ).count = d' := ⟨_, rfl⟩
      have hrp := (rightS_iff _).1 (HRp.out hi0)
      have y1 := (Hprev.out hi0).c1
      have y2 := (Hprev.out hi0).c2
      rw [hb'] at y1 hrp
      rw [hd'] at y2 hrp
      have hw1 : IntKind.i64.wrap ((i : Int) - 1) = (i : Int) - 1 := by rw [IntKind.wrap_i64]; omega
      have hw2 : IntKind.i64.wrap (b' + d') = b' + d' := by rw [IntKind.wrap_i64]; omega
      have hkn : ((i : Int) - 1).toNat = i - 1 := by omega
      have hkl1 : (i : Int) - 1 < (l.length : Int) := by omega
      have hkl2 : (0 : Int) ≤ (i : Int) - 1 := by omega
      have hkl3 : (1 : Int) ≤ (i : Int) := by omega
      have hkl4 : (0 : Int) < (i : Int) := by omega
      rw [hb', hd'] at hne
      have HSS : Hid (∀ W, Below (wo.alloc (.cells #[.int .i64 a, .int .i64 b, .int .i64 d] 24)).heap.size (wo.alloc (.cells #[.int .i64 a, .int .i64 b, .int .i64 d] 24)) W → (W.cell? ⟨wo.heap.size, 0, none⟩ = some (.int .i64 a) ∧ W.cell? ⟨wo.heap.size, 1, none⟩ = some (.int .i64 b) ∧ W.cell? ⟨wo.heap.size, 2, none⟩ = some (.int .i64 d) ∧ W.cell? ⟨g, o + (i - 1) * 3 + 1, none⟩ = some (.int .i64 b') ∧ W.cell? ⟨g, o + (i - 1) * 3 + 2, none⟩ = some (.int .i64 d'))) := Lib.hid (fun W hW => by
        have hpl : g < wo.heap.size := World.block_lt_of_cell? wo _ x0
        have hkeep : ∀ j, W.cell? ⟨g, j, none⟩ = wo.cell? ⟨g, j, none⟩ := fun j => World.cell?_of_block (a := ⟨g, j, none⟩) ((ext_trans (ext_alloc (Below.refl _ _) _) hW).block g hpl)
        have h := hB2.ext hW
        exact ⟨h.cell 0, h.cell 1, h.cell 2, (hkeep _).trans y1, (hkeep _).trans y2⟩)
      have hbx : Below (wo.alloc (.cells #[.int .i64 a, .int .i64 b, .int .i64 d] 24)).heap.size (wo.alloc (.cells #[.int .i64 a, .int .i64 b, .int .i64 d] 24)) (wo.alloc (.cells #[.int .i64 a, .int .i64 b, .int .i64 d] 24)) := Below.refl _ _
      clear hlk hl2 Hlink Hprev HRp hrp ha' hb' hd' Hstep Hbad2 HHe HA
      go_wp2
      refine wp_region_held_drew (S := fun W => W.cell? ⟨wo.heap.size, 0, none⟩ = some (.int .i64 a) ∧ W.cell? ⟨wo.heap.size, 1, none⟩ = some (.int .i64 b) ∧ W.cell? ⟨wo.heap.size, 2, none⟩ = some (.int .i64 d) ∧ W.cell? ⟨g, o + (i - 1) * 3 + 1, none⟩ = some (.int .i64 b') ∧ W.cell? ⟨g, o + (i - 1) * 3 + 2, none⟩ = some (.int .i64 d')) (by kernel_rfl) ?_ (fun hHeld => ?_)
      · exact HSS.out _ (by repeat (first | exact hbx | apply ext_drew | apply ext_drewN | exact Below.refl _ _))
      refine wpAnyH_take (i := 0) (v := ?_) (take_list rfl) (by kernel_rfl) (by kernel_rfl) (by kernel_rfl) (fun _ _ _ h => h) (Or.inl ⟨by rfl, ?_⟩) (by assumption) ?_
      rotate_left
      · intro w hSw
        try dsimp only at hSw
        first | (go_simp; done) | (go_simp; with_reducible rfl)
      try simp only [Act.put, List.setIfInBounds_toArray, List.set_cons_zero, List.set_cons_succ]
      refine wpAnyH_take (i := 1) (v := ?_) (take_list rfl) (by kernel_rfl) (by kernel_rfl) (by kernel_rfl) (fun _ _ _ h => h) (Or.inl ⟨by rfl, ?_⟩) (by assumption) ?_
      rotate_left
      · intro w hSw
        try dsimp only at hSw
        first | (go_simp; done) | (go_simp; with_reducible rfl)
      try simp only [Act.put, List.setIfInBounds_toArray, List.set_cons_zero, List.set_cons_succ]
      refine wpAnyH_take (i := 2) (v := ?_) (take_list rfl) (by kernel_rfl) (by kernel_rfl) (by kernel_rfl) (fun _ _ _ h => h) (Or.inl ⟨by rfl, ?_⟩) (by assumption) ?_
      rotate_left
      · intro w hSw
        try dsimp only at hSw
        first | (go_simp; done) | (go_simp; with_reducible rfl)
      try simp only [Act.put, List.setIfInBounds_toArray, List.set_cons_zero, List.set_cons_succ]
      refine wpAnyH_take (i := 3) (v := ?_) (take_list rfl) (by kernel_rfl) (by kernel_rfl) (by kernel_rfl) (fun _ _ _ h => h) (Or.inl ⟨by rfl, ?_⟩) (by assumption) ?_
      rotate_left
      · intro w hSw
        try dsimp only at hSw
        first | (go_simp; done) | (go_simp; with_reducible rfl)
      try simp only [Act.put, List.setIfInBounds_toArray, List.set_cons_zero, List.set_cons_succ]
      refine wpAnyH_take (i := 4) (v := ?_) (take_list rfl) (by kernel_rfl) (by kernel_rfl) (by kernel_rfl) (fun _ _ _ h => h) (Or.inl ⟨by rfl, ?_⟩) (by assumption) ?_
      rotate_left
      · intro w hSw
        try dsimp only at hSw
        first | (go_simp; done) | (go_simp; with_reducible rfl)
      try simp only [Act.put, List.setIfInBounds_toArray, List.set_cons_zero, List.set_cons_succ]
      refine wpAnyH_take (i := 5) (v := ?_) (take_list rfl) (by kernel_rfl) (by kernel_rfl) (by kernel_rfl) (fun _ _ _ h => h) (Or.inl ⟨by rfl, ?_⟩) (by assumption) ?_
      rotate_left
      · intro w hSw
        try dsimp only at hSw
        first | (go_simp; done) | (go_simp; with_reducible rfl)
      try simp only [Act.put, List.setIfInBounds_toArray, List.set_cons_zero, List.set_cons_succ]
      refine wpAnyH_take (i := 6) (v := ?_) (take_list rfl) (by kernel_rfl) (by kernel_rfl) (by kernel_rfl) (fun _ _ _ h => h) (Or.inl ⟨by rfl, ?_⟩) (by assumption) ?_
      rotate_left
      · intro w hSw
        try dsimp only at hSw
        first | (go_simp; done) | (go_simp; with_reducible rfl)
      try simp only [Act.put, List.setIfInBounds_toArray, List.set_cons_zero, List.set_cons_succ]
      refine wpAnyH_take (i := 7) (v := ?_) (take_list rfl) (by kernel_rfl) (by kernel_rfl) (by kernel_rfl) (fun _ _ _ h => h) (Or.inl ⟨by rfl, ?_⟩) (by assumption) ?_
      rotate_left
      · intro w hSw
        try dsimp only at hSw
        first | (go_simp; done) | (go_simp; with_reducible rfl)
      try simp only [Act.put, List.setIfInBounds_toArray, List.set_cons_zero, List.set_cons_succ]
      refine wpAnyH_take (i := 8) (v := ?_) (take_list rfl) (by kernel_rfl) (by kernel_rfl) (by kernel_rfl) (fun _ _ _ h => h) (Or.inl ⟨by rfl, ?_⟩) (by assumption) ?_
      rotate_left
      · intro w hSw
        try dsimp only at hSw
        first | (go_simp; done) | (go_simp; with_reducible rfl)
      try simp only [Act.put, List.setIfInBounds_toArray, List.set_cons_zero, List.set_cons_succ]
      refine wpAnyH_take (i := 9) (v := ?_) (take_list rfl) (by kernel_rfl) (by kernel_rfl) (by kernel_rfl) (fun _ _ _ h => h) (Or.inl ⟨by rfl, ?_⟩) (by assumption) ?_
      rotate_left
      · intro w hSw
        try dsimp only at hSw
        first | (go_simp; done) | (go_simp; with_reducible rfl)
      try simp only [Act.put, List.setIfInBounds_toArray, List.set_cons_zero, List.set_cons_succ]
      refine wpAnyH_take (i := 10) (v := ?_) (take_list rfl) (by kernel_rfl) (by kernel_rfl) (by kernel_rfl) (fun _ _ _ h => h) (Or.inl ⟨by rfl, ?_⟩) (by assumption) ?_
      rotate_left
      · intro w hSw
        try dsimp only at hSw
        first | (go_simp; done) | (go_simp; with_reducible rfl)
      try simp only [Act.put, List.setIfInBounds_toArray, List.set_cons_zero, List.set_cons_succ]
      refine wpAnyH_take (i := 11) (v := ?_) (take_list rfl) (by kernel_rfl) (by kernel_rfl) (by kernel_rfl) (fun _ _ _ h => h) (Or.inl ⟨by rfl, ?_⟩) (by assumption) ?_
      rotate_left
      · intro w hSw
        try dsimp only at hSw
        first | (go_simp; done) | (go_simp; with_reducible rfl)
      try simp only [Act.put, List.setIfInBounds_toArray, List.set_cons_zero, List.set_cons_succ]
      refine wpAnyH_take (i := 12) (v := ?_) (take_list rfl) (by kernel_rfl) (by kernel_rfl) (by kernel_rfl) (fun _ _ _ h => h) (Or.inl ⟨by rfl, ?_⟩) (by assumption) ?_
      rotate_left
      · intro w hSw
        try dsimp only at hSw
        first | (go_simp; done) | (go_simp; with_reducible rfl)
      try simp only [Act.put, List.setIfInBounds_toArray, List.set_cons_zero, List.set_cons_succ]
      refine wpAnyH_take (i := 13) (v := ?_) (take_list rfl) (by kernel_rfl) (by kernel_rfl) (by kernel_rfl) (fun _ _ _ h => h) (Or.inl ⟨by rfl, ?_⟩) (by assumption) ?_
      rotate_left
      · intro w hSw
        try dsimp only at hSw
        first | (go_simp; done) | (go_simp; with_reducible rfl)
      try simp only [Act.put, List.setIfInBounds_toArray, List.set_cons_zero, List.set_cons_succ]
      refine wpAnyH_take (i := 14) (v := ?_) (take_list rfl) (by kernel_rfl) (by kernel_rfl) (by kernel_rfl) (fun _ _ _ h => h) (Or.inl ⟨by rfl, ?_⟩) (by assumption) ?_
      rotate_left
      · intro w hSw
        try dsimp only at hSw
        first | (go_simp; done) | (go_simp; with_reducible rfl)
      try simp only [Act.put, List.setIfInBounds_toArray, List.set_cons_zero, List.set_cons_succ]
      refine wpAnyH_take (i := 15) (v := ?_) (take_list rfl) (by kernel_rfl) (by kernel_rfl) (by kernel_rfl) (fun _ _ _ h => h) (Or.inl ⟨by rfl, ?_⟩) (by assumption) ?_
      rotate_left
      · intro w hSw
        try dsimp only at hSw
        first | (go_simp; done) | (go_simp; with_reducible rfl)
      try simp only [Act.put, List.setIfInBounds_toArray, List.set_cons_zero, List.set_cons_succ]
      refine wpAnyH_take (i := 16) (v := ?_) (take_list rfl) (by kernel_rfl) (by kernel_rfl) (by kernel_rfl) (fun _ _ _ h => h) (Or.inl ⟨by rfl, ?_⟩) (by assumption) ?_
      rotate_left
      · intro w hSw
        try dsimp only at hSw
        first | (go_simp; done) | (go_simp; with_reducible rfl)
      try simp only [Act.put, List.setIfInBounds_toArray, List.set_cons_zero, List.set_cons_succ]
      refine wpAnyH_take (i := 17) (v := ?_) (take_list rfl) (by kernel_rfl) (by kernel_rfl) (by kernel_rfl) (fun _ _ _ h => h) (Or.inl ⟨by rfl, ?_⟩) (by assumption) ?_
      rotate_left
      · intro w hSw
        try dsimp only at hSw
        first | (go_simp; done) | (go_simp; with_reducible rfl)
      try simp only [Act.put, List.setIfInBounds_toArray, List.set_cons_zero, List.set_cons_succ]
      refine wpAnyH_take (i := 18) (v := ?_) (take_list rfl) (by kernel_rfl) (by kernel_rfl) (by kernel_rfl) (fun _ _ _ h => h) (Or.inl ⟨by rfl, ?_⟩) (by assumption) ?_
      rotate_left
      · intro w hSw
        try dsimp only at hSw
        first | (go_simp; done) | (go_simp; with_reducible rfl)
      try simp only [Act.put, List.setIfInBounds_toArray, List.set_cons_zero, List.set_cons_succ]
      refine wpAnyH_take (i := 19) (v := ?_) (take_list rfl) (by kernel_rfl) (by kernel_rfl) (by kernel_rfl) (fun _ _ _ h => h) (Or.inl ⟨by rfl, ?_⟩) (by assumption) ?_
      rotate_left
      · intro w hSw
        try dsimp only at hSw
        first | (go_simp; done) | (go_simp; with_reducible rfl)
      try simp only [Act.put, List.setIfInBounds_toArray, List.set_cons_zero, List.set_cons_succ]
      refine wpAnyH_done (by kernel_rfl) ?_ _
      go_wp2
      go_ret
      exact ⟨rfl, by repeat (first | exact ext_alloc Hb.out _ | apply ext_drew | apply ext_drewN)⟩
    have hlk : linkS l i = true := by cases hc : linkS l i with | true => rfl | false => exact absurd hc hlk
    rw [hlk] at Hstep
    have Hb2 := Lib.hid (ext_trans Hb.out hb2)
    have HB2 := Lib.hid hB2
    have HHe2 := Lib.hid (HHe.out.ext hb2)
    clear hloop hb2 hB2
    obtain ⟨w2, hw2⟩ : ∃ w2, w2 = wo.alloc (.cells #[.int .i64 a, .int .i64 b, .int .i64 d] 24) := ⟨_, rfl⟩
    by_cases hi0 : i = 0
    case pos =>
      subst hi0
      simp only [Nat.zero_mul, Nat.add_zero] at x0 x1 x2
      clear Hlink Hprev HRp
      go_wp2
      go_quiet (fail)
      all_goals
        go_wp2
        go_loopw [5] (fun v wr => ∃ k : Nat, k ≤ 0 ∧ v = .int .i64 (k : Int) ∧ Hid (Below w.heap.size w wr)) (fun v _ => 0 - (intOf v).toNat)
        case atStart => exact ⟨0, Nat.zero_le _, rfl, by first | exact Hb2 | exact Lib.hid (by repeat (first | exact Hb2.out | apply ext_drew | apply ext_drewN))⟩
        case round =>
          obtain ⟨k, hk, rfl, Hb3⟩ := hrel
          obtain rfl : k = 0 := by omega
          go_wp2
          go_roundw
          case rel => exact ⟨1, by omega, by go_num, Lib.hid (by rw [chainTo_succ, HC.out, Hstep.out]; rfl), Lib.hid rfl, Hb3⟩
          case measure => simp [intOf]; omega
    have hi1 : 0 < i := by omega
    have hl2 := Hlink.out hi1
    rw [hlk] at hl2
    have hne := of_decide_eq_true hl2.symm
    obtain ⟨a', ha'⟩ : ∃ a', (l.getD (i - 1) spZ).id = a' := ⟨_, rfl⟩
    obtain ⟨b', hb'⟩ : ∃ b', (l.getD (i - 1) spZ).first = b' := ⟨_, rfl⟩
    obtain ⟨d', hd'⟩ : ∃ d', (l.getD (i - 1) spZ).count = d' := ⟨_, rfl⟩
    have hrp := (rightS_iff _).1 (HRp.out hi1)
    have y1 := (Hprev.out hi1).c1
    have y2 := (Hprev.out hi1).c2
    rw [hb'] at y1 hrp
    rw [hd'] at y2 hrp
    have hw1 : IntKind.i64.wrap ((i : Int) - 1) = (i : Int) - 1 := by rw [IntKind.wrap_i64]; omega
    have hw2 : IntKind.i64.wrap (b' + d') = b' + d' := by rw [IntKind.wrap_i64]; omega
    have hkn : ((i : Int) - 1).toNat = i - 1 := by omega
    have hkl1 : (i : Int) - 1 < (l.length : Int) := by omega
    have hkl2 : (0 : Int) ≤ (i : Int) - 1 := by omega
    have hkl3 : (1 : Int) ≤ (i : Int) := by omega
    have hkl4 : (0 : Int) < (i : Int) := by omega
    rw [hb', hd'] at hne
    subst hne
    have HSS : Hid (∀ W, Below (wo.alloc (.cells #[.int .i64 a, .int .i64 (b' + d'), .int .i64 d] 24)).heap.size (wo.alloc (.cells #[.int .i64 a, .int .i64 (b' + d'), .int .i64 d] 24)) W → (W.cell? ⟨wo.heap.size, 0, none⟩ = some (.int .i64 a) ∧ W.cell? ⟨wo.heap.size, 1, none⟩ = some (.int .i64 (b' + d')) ∧ W.cell? ⟨wo.heap.size, 2, none⟩ = some (.int .i64 d) ∧ W.cell? ⟨g, o + (i - 1) * 3 + 1, none⟩ = some (.int .i64 b') ∧ W.cell? ⟨g, o + (i - 1) * 3 + 2, none⟩ = some (.int .i64 d'))) := Lib.hid (fun W hW => by
      have hpl : g < wo.heap.size := World.block_lt_of_cell? wo _ x0
      have hkeep : ∀ j, W.cell? ⟨g, j, none⟩ = wo.cell? ⟨g, j, none⟩ := fun j => World.cell?_of_block (a := ⟨g, j, none⟩) ((ext_trans (ext_alloc (Below.refl _ _) _) hW).block g hpl)
      have h := HB2.out.ext hW
      exact ⟨h.cell 0, h.cell 1, h.cell 2, (hkeep _).trans y1, (hkeep _).trans y2⟩)
    have hbx : Below (wo.alloc (.cells #[.int .i64 a, .int .i64 (b' + d'), .int .i64 d] 24)).heap.size (wo.alloc (.cells #[.int .i64 a, .int .i64 (b' + d'), .int .i64 d] 24)) (wo.alloc (.cells #[.int .i64 a, .int .i64 (b' + d'), .int .i64 d] 24)) := Below.refl _ _
    clear hl2 Hlink Hprev HRp hrp ha' hb' hd' Hbad2 hlk hi0
    go_wp2
    refine wp_region_held_drew (S := fun W => W.cell? ⟨wo.heap.size, 0, none⟩ = some (.int .i64 a) ∧ W.cell? ⟨wo.heap.size, 1, none⟩ = some (.int .i64 (b' + d')) ∧ W.cell? ⟨wo.heap.size, 2, none⟩ = some (.int .i64 d) ∧ W.cell? ⟨g, o + (i - 1) * 3 + 1, none⟩ = some (.int .i64 b') ∧ W.cell? ⟨g, o + (i - 1) * 3 + 2, none⟩ = some (.int .i64 d')) (by kernel_rfl) ?_ (fun hHeld => ?_)
    · exact HSS.out _ (by repeat (first | exact hbx | apply ext_drew | apply ext_drewN | exact Below.refl _ _))
    refine wpAnyH_take (i := 0) (v := ?_) (take_list rfl) (by kernel_rfl) (by kernel_rfl) (by kernel_rfl) (fun _ _ _ h => h) (Or.inl ⟨by rfl, ?_⟩) (by assumption) ?_
    rotate_left
    · intro w hSw
      try dsimp only at hSw
      first | (go_simp; done) | (go_simp; with_reducible rfl)
    try simp only [Act.put, List.setIfInBounds_toArray, List.set_cons_zero, List.set_cons_succ]
    refine wpAnyH_take (i := 1) (v := ?_) (take_list rfl) (by kernel_rfl) (by kernel_rfl) (by kernel_rfl) (fun _ _ _ h => h) (Or.inl ⟨by rfl, ?_⟩) (by assumption) ?_
    rotate_left
    · intro w hSw
      try dsimp only at hSw
      first | (go_simp; done) | (go_simp; with_reducible rfl)
    try simp only [Act.put, List.setIfInBounds_toArray, List.set_cons_zero, List.set_cons_succ]
    refine wpAnyH_take (i := 2) (v := ?_) (take_list rfl) (by kernel_rfl) (by kernel_rfl) (by kernel_rfl) (fun _ _ _ h => h) (Or.inl ⟨by rfl, ?_⟩) (by assumption) ?_
    rotate_left
    · intro w hSw
      try dsimp only at hSw
      first | (go_simp; done) | (go_simp; with_reducible rfl)
    try simp only [Act.put, List.setIfInBounds_toArray, List.set_cons_zero, List.set_cons_succ]
    refine wpAnyH_take (i := 3) (v := ?_) (take_list rfl) (by kernel_rfl) (by kernel_rfl) (by kernel_rfl) (fun _ _ _ h => h) (Or.inl ⟨by rfl, ?_⟩) (by assumption) ?_
    rotate_left
    · intro w hSw
      try dsimp only at hSw
      first | (go_simp; done) | (go_simp; with_reducible rfl)
    try simp only [Act.put, List.setIfInBounds_toArray, List.set_cons_zero, List.set_cons_succ]
    refine wpAnyH_take (i := 4) (v := ?_) (take_list rfl) (by kernel_rfl) (by kernel_rfl) (by kernel_rfl) (fun _ _ _ h => h) (Or.inl ⟨by rfl, ?_⟩) (by assumption) ?_
    rotate_left
    · intro w hSw
      try dsimp only at hSw
      first | (go_simp; done) | (go_simp; with_reducible rfl)
    try simp only [Act.put, List.setIfInBounds_toArray, List.set_cons_zero, List.set_cons_succ]
    refine wpAnyH_take (i := 5) (v := ?_) (take_list rfl) (by kernel_rfl) (by kernel_rfl) (by kernel_rfl) (fun _ _ _ h => h) (Or.inl ⟨by rfl, ?_⟩) (by assumption) ?_
    rotate_left
    · intro w hSw
      try dsimp only at hSw
      first | (go_simp; done) | (go_simp; with_reducible rfl)
    try simp only [Act.put, List.setIfInBounds_toArray, List.set_cons_zero, List.set_cons_succ]
    refine wpAnyH_take (i := 6) (v := ?_) (take_list rfl) (by kernel_rfl) (by kernel_rfl) (by kernel_rfl) (fun _ _ _ h => h) (Or.inl ⟨by rfl, ?_⟩) (by assumption) ?_
    rotate_left
    · intro w hSw
      try dsimp only at hSw
      first | (go_simp; done) | (go_simp; with_reducible rfl)
    try simp only [Act.put, List.setIfInBounds_toArray, List.set_cons_zero, List.set_cons_succ]
    refine wpAnyH_take (i := 7) (v := ?_) (take_list rfl) (by kernel_rfl) (by kernel_rfl) (by kernel_rfl) (fun _ _ _ h => h) (Or.inl ⟨by rfl, ?_⟩) (by assumption) ?_
    rotate_left
    · intro w hSw
      try dsimp only at hSw
      first | (go_simp; done) | (go_simp; with_reducible rfl)
    try simp only [Act.put, List.setIfInBounds_toArray, List.set_cons_zero, List.set_cons_succ]
    refine wpAnyH_take (i := 8) (v := ?_) (take_list rfl) (by kernel_rfl) (by kernel_rfl) (by kernel_rfl) (fun _ _ _ h => h) (Or.inl ⟨by rfl, ?_⟩) (by assumption) ?_
    rotate_left
    · intro w hSw
      try dsimp only at hSw
      first | (go_simp; done) | (go_simp; with_reducible rfl)
    try simp only [Act.put, List.setIfInBounds_toArray, List.set_cons_zero, List.set_cons_succ]
    refine wpAnyH_take (i := 9) (v := ?_) (take_list rfl) (by kernel_rfl) (by kernel_rfl) (by kernel_rfl) (fun _ _ _ h => h) (Or.inl ⟨by rfl, ?_⟩) (by assumption) ?_
    rotate_left
    · intro w hSw
      try dsimp only at hSw
      first | (go_simp; done) | (go_simp; with_reducible rfl)
    try simp only [Act.put, List.setIfInBounds_toArray, List.set_cons_zero, List.set_cons_succ]
    refine wpAnyH_take (i := 10) (v := ?_) (take_list rfl) (by kernel_rfl) (by kernel_rfl) (by kernel_rfl) (fun _ _ _ h => h) (Or.inl ⟨by rfl, ?_⟩) (by assumption) ?_
    rotate_left
    · intro w hSw
      try dsimp only at hSw
      first | (go_simp; done) | (go_simp; with_reducible rfl)
    try simp only [Act.put, List.setIfInBounds_toArray, List.set_cons_zero, List.set_cons_succ]
    refine wpAnyH_take (i := 11) (v := ?_) (take_list rfl) (by kernel_rfl) (by kernel_rfl) (by kernel_rfl) (fun _ _ _ h => h) (Or.inl ⟨by rfl, ?_⟩) (by assumption) ?_
    rotate_left
    · intro w hSw
      try dsimp only at hSw
      first | (go_simp; done) | (go_simp; with_reducible rfl)
    try simp only [Act.put, List.setIfInBounds_toArray, List.set_cons_zero, List.set_cons_succ]
    refine wpAnyH_take (i := 12) (v := ?_) (take_list rfl) (by kernel_rfl) (by kernel_rfl) (by kernel_rfl) (fun _ _ _ h => h) (Or.inl ⟨by rfl, ?_⟩) (by assumption) ?_
    rotate_left
    · intro w hSw
      try dsimp only at hSw
      first | (go_simp; done) | (go_simp; with_reducible rfl)
    try simp only [Act.put, List.setIfInBounds_toArray, List.set_cons_zero, List.set_cons_succ]
    refine wpAnyH_take (i := 13) (v := ?_) (take_list rfl) (by kernel_rfl) (by kernel_rfl) (by kernel_rfl) (fun _ _ _ h => h) (Or.inl ⟨by rfl, ?_⟩) (by assumption) ?_
    rotate_left
    · intro w hSw
      try dsimp only at hSw
      first | (go_simp; done) | (go_simp; with_reducible rfl)
    try simp only [Act.put, List.setIfInBounds_toArray, List.set_cons_zero, List.set_cons_succ]
    refine wpAnyH_take (i := 14) (v := ?_) (take_list rfl) (by kernel_rfl) (by kernel_rfl) (by kernel_rfl) (fun _ _ _ h => h) (Or.inl ⟨by rfl, ?_⟩) (by assumption) ?_
    rotate_left
    · intro w hSw
      try dsimp only at hSw
      first | (go_simp; done) | (go_simp; with_reducible rfl)
    try simp only [Act.put, List.setIfInBounds_toArray, List.set_cons_zero, List.set_cons_succ]
    refine wpAnyH_take (i := 15) (v := ?_) (take_list rfl) (by kernel_rfl) (by kernel_rfl) (by kernel_rfl) (fun _ _ _ h => h) (Or.inl ⟨by rfl, ?_⟩) (by assumption) ?_
    rotate_left
    · intro w hSw
      try dsimp only at hSw
      first | (go_simp; done) | (go_simp; with_reducible rfl)
    try simp only [Act.put, List.setIfInBounds_toArray, List.set_cons_zero, List.set_cons_succ]
    refine wpAnyH_take (i := 16) (v := ?_) (take_list rfl) (by kernel_rfl) (by kernel_rfl) (by kernel_rfl) (fun _ _ _ h => h) (Or.inl ⟨by rfl, ?_⟩) (by assumption) ?_
    rotate_left
    · intro w hSw
      try dsimp only at hSw
      first | (go_simp; done) | (go_simp; with_reducible rfl)
    try simp only [Act.put, List.setIfInBounds_toArray, List.set_cons_zero, List.set_cons_succ]
    refine wpAnyH_take (i := 17) (v := ?_) (take_list rfl) (by kernel_rfl) (by kernel_rfl) (by kernel_rfl) (fun _ _ _ h => h) (Or.inl ⟨by rfl, ?_⟩) (by assumption) ?_
    rotate_left
    · intro w hSw
      try dsimp only at hSw
      first | (go_simp; done) | (go_simp; with_reducible rfl)
    try simp only [Act.put, List.setIfInBounds_toArray, List.set_cons_zero, List.set_cons_succ]
    refine wpAnyH_take (i := 18) (v := ?_) (take_list rfl) (by kernel_rfl) (by kernel_rfl) (by kernel_rfl) (fun _ _ _ h => h) (Or.inl ⟨by rfl, ?_⟩) (by assumption) ?_
    rotate_left
    · intro w hSw
      try dsimp only at hSw
      first | (go_simp; done) | (go_simp; with_reducible rfl)
    try simp only [Act.put, List.setIfInBounds_toArray, List.set_cons_zero, List.set_cons_succ]
    refine wpAnyH_take (i := 19) (v := ?_) (take_list rfl) (by kernel_rfl) (by kernel_rfl) (by kernel_rfl) (fun _ _ _ h => h) (Or.inl ⟨by rfl, ?_⟩) (by assumption) ?_
    rotate_left
    · intro w hSw
      try dsimp only at hSw
      first | (go_simp; done) | (go_simp; with_reducible rfl)
    try simp only [Act.put, List.setIfInBounds_toArray, List.set_cons_zero, List.set_cons_succ]
    refine wpAnyH_done (by kernel_rfl) ?_ _
    clear y1 y2 x0 x1 x2 HSS hbx
    go_wp2
    go_loopw [5] (fun v wr => ∃ k : Nat, k ≤ i ∧ v = .int .i64 (k : Int) ∧ Hid (noId l i k = true) ∧ Hid (Below (wo.alloc (.cells #[.int .i64 a, .int .i64 (b' + d'), .int .i64 d] 24)).heap.size (wo.alloc (.cells #[.int .i64 a, .int .i64 (b' + d'), .int .i64 d] 24)) wr)) (fun v _ => i - (intOf v).toNat)
    case atStart => exact ⟨0, Nat.zero_le _, rfl, Lib.hid rfl, Lib.hid (by first | exact Below.refl _ _ | exact ext_drew (Below.refl _ _))⟩
    case round =>
      obtain ⟨k, hk, rfl, HN, Hb3⟩ := hrel
      by_cases hki2 : k < i
      · obtain ⟨g', o', e, z0, z1, z2⟩ := (HHe2.out.ext Hb3.out).at_ (k := k) (by omega)
        injection e with e
        injection e with e1 e2 _
        subst e1 e2
        have q0 : wr.cell? ⟨wo.heap.size, 0, none⟩ = some (.int .i64 a) := (HB2.out.ext Hb3.out).cell 0
        have hkk1 : (k : Int) < (i : Int) := by omega
        have hkk2 : (k : Int) < (l.length : Int) := by omega
        have Hb4 := Lib.hid (ext_trans Hb2.out Hb3.out)
        have hEq := HA.out
        obtain ⟨a2, ha2⟩ : ∃ a2, (l.getD k spZ).id = a2 := ⟨_, rfl⟩
        rw [ha2] at z0
        clear z1 z2
        by_cases he : a2 = a
        · obtain rfl : false = V := by rw [← HV.out]; exact (isS_two hlt (noId_no hki2 (by rw [ha2, hEq, he]))).symm
          clear ha2 hEq
          subst he
          go_wp2
          go_quiet (fail)
          all_goals
            go_wp2
            go_ret
            exact ⟨rfl, by first | exact Hb4.out | exact (by repeat (first | exact Hb4.out | apply ext_drew | apply ext_drewN))⟩
        · have HN2 : Hid (noId l i (k + 1) = true) := Lib.hid (by rw [noId_succ, HN.out, ha2, hEq, decide_eq_false he]; rfl)
          clear ha2 hEq
          go_wp2
          go_quiet (fail)
          all_goals
            go_wp2
            go_roundw
            case rel => exact ⟨k + 1, by omega, by go_num, HN2, by first | exact Hb3 | exact Lib.hid (by repeat (first | exact Hb3.out | apply ext_drew | apply ext_drewN))⟩
            case measure => simp [intOf]; omega
      · obtain rfl : k = i := by omega
        go_wp2
        go_roundw
        case rel => exact ⟨k + 1, by omega, by go_num, Lib.hid (by rw [chainTo_succ, HC.out, Hstep.out]; rfl), Lib.hid (by rw [diffTo_succ, HD.out, HN.out]; rfl), Lib.hid (ext_trans Hb2.out Hb3.out)⟩
        case measure => simp [intOf]; omega
end Go.Proofs.Ythomhhnioadpmaa

/-
  What the laws' known says; two rows of spans compared. No statement of the seat is proved here.
-/
namespace Go.Proofs.Ythomhhnioadpmaa
open Go Go.RowKit
set_option maxRecDepth 100000

def knownL : List Sp := [⟨1, 0, 5⟩, ⟨2, 5, 3⟩, ⟨3, 8, 4⟩]
theorem known_ok : ∀ k, k < knownL.length → (knownL.getD k spZ).ok := by
  intro k hk
  have h3 : knownL.length = 3 := rfl
  rw [h3] at hk
  match k, hk with
  | 0, _ => exact ⟨by unfold isInt; decide, by unfold isInt; decide, by unfold isInt; decide⟩
  | 1, _ => exact ⟨by unfold isInt; decide, by unfold isInt; decide, by unfold isInt; decide⟩
  | 2, _ => exact ⟨by unfold isInt; decide, by unfold isInt; decide, by unfold isInt; decide⟩
theorem known_any (w : World) : Calls Try.prog 16 #[] w fun e w' => e = .returned (.bool true) ∧ Below w.heap.size w w' := by
  have hrow := RowO.lit w 24 3 3 #[.int .i64 1, .int .i64 0, .int .i64 5, .int .i64 2, .int .i64 5, .int .i64 3, .int .i64 3, .int .i64 8, .int .i64 4] rfl (by unfold maxLen; omega) rfl
  have hs : SpsAt (w.alloc (.cells #[.int .i64 1, .int .i64 0, .int .i64 5, .int .i64 2, .int .i64 5, .int .i64 3, .int .i64 3, .int .i64 8, .int .i64 4] 24)) (some ⟨w.heap.size, 0, none⟩) knownL := RowO.sps hrow
  have hc := pick_any (some ⟨w.heap.size, 0, none⟩) 3 3 knownL _ rfl (by decide) hs known_ok
  have hv : pickS knownL = some 1 := by decide
  rw [hv] at hc
  have hb : Below w.heap.size w (w.alloc (.cells #[.int .i64 1, .int .i64 0, .int .i64 5, .int .i64 2, .int .i64 5, .int .i64 3, .int .i64 3, .int .i64 8, .int .i64 4] 24)) := ext_alloc (Below.refl _ _) _
  clear hrow hs hv
  have HC := Lib.hid hc
  clear hc
  go_enter Try.func16, Try.ntmps16
  go_wp2_with fail
  refine HC.out.mono ?_
  rintro e w' ⟨rfl, hb'⟩
  go_wp2
  go_ret
  exact ⟨rfl, ext_trans hb hb'⟩
end Go.Proofs.Ythomhhnioadpmaa

/-
  The contracts of Drop, the program's and the reference's, and of the laws' spans. No statement of the seat is proved here.
-/
namespace Go.Proofs.Ythomhhnioadpmaa
open Go Go.RowKit
set_option maxRecDepth 100000

theorem info_sp : (Try.prog.info? 24).map (fun i => (i.zero, i.size, i.bytes)) = some (some (.agg #[.int .i64 0, .int .i64 0, .int .i64 0]), 3, 24) := by kernel_rfl
/-- two rows of spans, made anew, apart -/
structure Pair2 (w wr : World) (A : Option Addr) (c : Nat) (xs : List Sp) (B : Option Addr) (d : Nat) (ys : List Sp) : Prop where
  a : NewO w wr 24 3 A xs.length c (spsV xs)
  b : NewO w wr 24 3 B ys.length d (spsV ys)
  ap : ∀ k, inA A k → ¬ inA B k
theorem Pair2.start (w : World) : Pair2 w w none 0 [] none 0 [] := ⟨NewO.start _ _ _, NewO.start _ _ _, fun k hk => absurd hk (inA_none k)⟩
theorem Pair2.ext {w wr w2 : World} {A : Option Addr} {c : Nat} {xs : List Sp} {B : Option Addr} {d : Nat} {ys : List Sp} (h : Pair2 w wr A c xs B d ys) (hb : Below wr.heap.size wr w2) : Pair2 w w2 A c xs B d ys := ⟨h.a.ext hb, h.b.ext hb, h.ap⟩
theorem Pair2.growA {w wr w2 w3 : World} {A A' : Option Addr} {c c' : Nat} {xs xs' : List Sp} {B : Option Addr} {d : Nat} {ys : List Sp} (h : Pair2 w wr A c xs B d ys) (hb : Below wr.heap.size wr w2) (hr : RowO w3 24 3 A' xs'.length c' (spsV xs')) (ho : Only (inA A) w2 w3) (hA : ∀ k, inA A' k → inA A k ∨ (w2.heap.size ≤ k ∧ k < w3.heap.size)) : Pair2 w w3 A' c' xs' B d ys := by
  have hg := h.a.grow hb hr ho hA
  refine ⟨hg, ⟨(h.b.row.ext hb).only ho (fun k hk hk' => h.ap k hk' hk), hg.bel, h.b.2.2⟩, fun k hk hk2 => ?_⟩
  rcases hA k hk with hk1 | ⟨hk1, _⟩
  · exact h.ap k hk1 hk2
  · have := (h.b.row.ext hb).lt hk2
    omega
theorem Pair2.swap {w wr : World} {A : Option Addr} {c : Nat} {xs : List Sp} {B : Option Addr} {d : Nat} {ys : List Sp} (h : Pair2 w wr A c xs B d ys) : Pair2 w wr B d ys A c xs := ⟨h.b, h.a, fun k hk hk2 => h.ap k hk2 hk⟩
theorem spsV_single (s : Sp) : spsV [s] = [.int .i64 s.id, .int .i64 s.first, .int .i64 s.count] := rfl

set_option maxHeartbeats 4000000 in
theorem drop_any (A : Option Addr) (n c : Nat) (l : List Sp) (m : Int) (w : World) (hn : n = l.length) (hl : l.length ≤ 1000000) (h : SpsAt w A l) (hok : ∀ k, k < l.length → (l.getD k spZ).ok) (hm : isInt m) :
    Calls Try.prog 11 #[.slice A n c, .int .i64 m] w fun e w' => ∃ A1 c1 A2 c2, e = .returned (.tuple #[.slice A1 (goneTo l m l.length).length c1, .slice A2 (stayTo l m l.length).length c2]) ∧ Pair2 w w' A1 c1 (goneTo l m l.length) A2 c2 (stayTo l m l.length) := by
  subst hn
  have hli : (l.length : Int) ≤ 1000000 := by omega
  have H := Lib.hid h
  have HO := Lib.hid hok
  clear h hok
  go_enter Try.func11, Try.ntmps11
  go_wp2
  go_loopw [6, 7, 12] (fun v1 v2 v wr => ∃ (k : Nat) (A1 : Option Addr) (c1 : Nat) (A2 : Option Addr) (c2 : Nat) (n1 n2 : Nat), k ≤ l.length ∧ v = .int .i64 (k : Int) ∧ v1 = .slice A1 n1 c1 ∧ v2 = .slice A2 n2 c2 ∧ Hid (n1 = (goneTo l m k).length) ∧ Hid (n2 = (stayTo l m k).length) ∧ Hid (Pair2 w wr A1 c1 (goneTo l m k) A2 c2 (stayTo l m k))) (fun _ _ v _ => l.length - (intOf v).toNat)
  case atStart => exact ⟨0, none, 0, none, 0, 0, 0, Nat.zero_le _, rfl, rfl, rfl, Lib.hid rfl, Lib.hid rfl, Lib.hid (Pair2.start w)⟩
  case round =>
    obtain ⟨k, A1, c1, A2, c2, n1, n2, hk, rfl, rfl, rfl, HN1, HN2, HP⟩ := hrel
    by_cases hlt : k < l.length
    · have hki : (k : Int) < (l.length : Int) := by omega
      have hkb : (k : Int) ≤ 1000000 := by omega
      obtain ⟨g, o, rfl, x0, x1, x2⟩ := (H.out.ext HP.out.a.bel).at_ hlt
      have HE := Lib.hid (fun W => endsBy_any (l.getD k spZ) m W (HO.out k hlt) hm)
      have hg1 := goneTo_len l m k
      have hg2 := stayTo_len l m k
      have HG := Lib.hid (goneTo_succ l m k hlt)
      have HS := Lib.hid (stayTo_succ l m k hlt)
      obtain ⟨L1, hL1⟩ : ∃ L1, goneTo l m k = L1 := ⟨_, rfl⟩
      obtain ⟨L2, hL2⟩ : ∃ L2, stayTo l m k = L2 := ⟨_, rfl⟩
      rw [hL1] at HG HP HN1 hg1
      rw [hL2] at HS HP HN2 hg2
      obtain ⟨s, hs⟩ : ∃ s, l.getD k spZ = s := ⟨_, rfl⟩
      rw [hs] at x0 x1 x2 HE HG HS
      obtain ⟨E, hE⟩ : ∃ E, goesS s m = E := ⟨_, rfl⟩
      rw [hE] at HE HG HS
      obtain ⟨sa, sb, sd⟩ := s
      dsimp only at x0 x1 x2
      unfold spW at HE
      dsimp only at HE
      obtain rfl : n1 = L1.length := HN1.out
      obtain rfl : n2 = L2.length := HN2.out
      clear hL1 hL2 hs hE HN1 HN2
      have hbw : Below wr.heap.size wr (wr.alloc (.cells #[.int .i64 sa, .int .i64 sb, .int .i64 sd] 24)) := ext_alloc (Below.refl _ _) _
      have hB := Blk.new wr 24 #[.int .i64 sa, .int .i64 sb, .int .i64 sd]
      obtain ⟨w2, hw2⟩ : ∃ w2, w2 = wr.alloc (.cells #[.int .i64 sa, .int .i64 sb, .int .i64 sd] 24) := ⟨_, rfl⟩
      rw [← hw2] at hbw hB
      cases E with
      | true =>
        go_wp2_with fail
        rw [← hw2]
        refine (HE.out w2).mono ?_
        rintro e w4 ⟨rfl, hb4⟩
        have hbx : Below wr.heap.size wr w4 := ext_trans hbw hb4
        have hB4 := hB.ext hb4
        have d0 := hB4.cell 0
        have d1 := hB4.cell 1
        have d2 := hB4.cell 2
        clear hw2 hB hb4 x0 x1 x2
        go_wp2_with (at_builtin; refine wpList_appO _ rfl (.tmp 19) (.tmp 21) _ rfl _ _ 3 24 Try.underlying22 info_sp rfl A1 L1.length c1 (spsV L1) rfl (by have := HP.out.a.row.ext (ext_alloc hbx (.cells #[.int .i64 sa, .int .i64 sb, .int .i64 sd] 24)); exact this) (some ⟨w4.heap.size, 0, none⟩) 1 1 [.int .i64 sa, .int .i64 sb, .int .i64 sd] rfl rfl (Rd.lit_at _ #[.int .i64 sa, .int .i64 sb, .int .i64 sd] _ rfl) (by intro u hu; simp at hu; rcases hu with rfl | rfl | rfl <;> rfl) (by intro h; cases h) (by unfold maxLen; omega) (by omega) ?_; intro A3 c3 w3 hr3 ho3 hA3)
        go_wp2
        go_roundw
        case rel =>
          have hr5 : RowO w3 24 3 A3 (L1 ++ [Sp.mk sa sb sd]).length c3 (spsV (L1 ++ [Sp.mk sa sb sd])) := by rw [spsV_app, List.length_append]; exact hr3
          exact ⟨k + 1, A3, c3, A2, c2, _, _, by omega, by go_num, rfl, rfl, Lib.hid (by rw [HG.out]; simp), Lib.hid (by rw [HS.out]; simp), Lib.hid (by rw [HG.out, HS.out]; exact HP.out.growA (ext_alloc hbx _) hr5 ho3 hA3)⟩
        case measure => simp [intOf]; omega
      | false =>
        go_wp2_with fail
        rw [← hw2]
        refine (HE.out w2).mono ?_
        rintro e w4 ⟨rfl, hb4⟩
        have hbx : Below wr.heap.size wr w4 := ext_trans hbw hb4
        have hB4 := hB.ext hb4
        have d0 := hB4.cell 0
        have d1 := hB4.cell 1
        have d2 := hB4.cell 2
        clear hw2 hB hb4 x0 x1 x2
        go_wp2_with (at_builtin; refine wpList_appO _ rfl (.tmp 23) (.tmp 25) _ rfl _ _ 3 24 Try.underlying22 info_sp rfl A2 L2.length c2 (spsV L2) rfl (by have := HP.out.b.row.ext (ext_alloc hbx (.cells #[.int .i64 sa, .int .i64 sb, .int .i64 sd] 24)); exact this) (some ⟨w4.heap.size, 0, none⟩) 1 1 [.int .i64 sa, .int .i64 sb, .int .i64 sd] rfl rfl (Rd.lit_at _ #[.int .i64 sa, .int .i64 sb, .int .i64 sd] _ rfl) (by intro u hu; simp at hu; rcases hu with rfl | rfl | rfl <;> rfl) (by intro h; cases h) (by unfold maxLen; omega) (by omega) ?_; intro A3 c3 w3 hr3 ho3 hA3)
        go_wp2
        go_roundw
        case rel =>
          have hr5 : RowO w3 24 3 A3 (L2 ++ [Sp.mk sa sb sd]).length c3 (spsV (L2 ++ [Sp.mk sa sb sd])) := by rw [spsV_app, List.length_append]; exact hr3
          exact ⟨k + 1, A1, c1, A3, c3, _, _, by omega, by go_num, rfl, rfl, Lib.hid (by rw [HG.out]; simp), Lib.hid (by rw [HS.out]; simp), Lib.hid (by rw [HG.out, HS.out]; exact (HP.out.swap.growA (ext_alloc hbx _) hr5 ho3 hA3).swap)⟩
        case measure => simp [intOf]; omega
    · obtain rfl : k = l.length := by omega
      obtain rfl : n1 = (goneTo l m l.length).length := HN1.out
      obtain rfl : n2 = (stayTo l m l.length).length := HN2.out
      go_wp2
      go_ret2
      exact ⟨A1, c1, A2, c2, rfl, HP.out⟩

/-! ### two rows of spans -/
set_option maxHeartbeats 1000000 in
theorem spans_any (A B : Option Addr) (n c m d : Nat) (l : List Sp) (w : World) (hn : n = l.length) (hm : m = l.length) (hl : l.length ≤ 1000000) (hA : SpsAt w A l) (hB : SpsAt w B l) :
    Calls Try.prog 15 #[.slice A n c, .slice B m d] w fun e w' => e = .returned (.bool true) ∧ Below w.heap.size w w' := by
  subst hn
  subst hm
  have hli : (l.length : Int) ≤ 1000000 := by omega
  have HA := Lib.hid hA
  have HB := Lib.hid hB
  clear hA hB
  go_enter Try.func15, Try.ntmps15
  go_wp2
  go_loopw [5] (fun v wr => ∃ k : Nat, k ≤ l.length ∧ v = .int .i64 (k : Int) ∧ Hid (Below w.heap.size w wr)) (fun v _ => l.length - (intOf v).toNat)
  case atStart => exact ⟨0, Nat.zero_le _, rfl, Lib.hid (Below.refl _ _)⟩
  case round =>
    obtain ⟨k, hk, rfl, Hb⟩ := hrel
    by_cases hlt : k < l.length
    · have hki : (k : Int) < (l.length : Int) := by omega
      obtain ⟨g, o, rfl, x0, x1, x2⟩ := (HA.out.ext Hb.out).at_ hlt
      obtain ⟨g', o', rfl, y0, y1, y2⟩ := (HB.out.ext Hb.out).at_ hlt
      obtain ⟨a, ha⟩ : ∃ a, (l.getD k spZ).id = a := ⟨_, rfl⟩
      obtain ⟨b, hb⟩ : ∃ b, (l.getD k spZ).first = b := ⟨_, rfl⟩
      obtain ⟨d, hd⟩ : ∃ d, (l.getD k spZ).count = d := ⟨_, rfl⟩
      rw [ha] at x0 y0
      rw [hb] at x1 y1
      rw [hd] at x2 y2
      clear ha hb hd
      go_wp2
      go_quiet (fail)
      go_wp2
      go_roundw
      case rel => exact ⟨k + 1, by omega, by go_num, Lib.hid (by repeat (first | exact Hb.out | apply ext_drew | apply ext_drewN))⟩
      case measure => simp [intOf]; omega
    · obtain rfl : k = l.length := by omega
      go_wp2
      go_ret
      exact ⟨rfl, Hb.out⟩
/-! ### what goes stands ahead -/
theorem isS_end {l : List Sp} (h : isS l = true) (i : Nat) : ∀ k, i < k → k < l.length → (l.getD i spZ).first + (l.getD i spZ).count ≤ (l.getD k spZ).first
  | 0, h0, _ => by omega
  | k + 1, h0, hk => by
    have hlink := isS_link h hk
    rcases Nat.lt_or_ge i k with hik | hik
    · have ih := isS_end h i k hik (by omega)
      have := (rightS_iff _).1 (isS_right h (k := k) (by omega))
      omega
    · obtain rfl : i = k := by omega
      omega
theorem goesS_iff (s : Sp) (n : Int) : goesS s n = true ↔ s.first ≤ n ∧ s.count ≤ n - s.first := by simp [goesS]
theorem goesS_mono {l : List Sp} (h : isS l = true) {n : Int} {i k : Nat} (hik : i < k) (hk : k < l.length) (hg : goesS (l.getD k spZ) n = true) : goesS (l.getD i spZ) n = true := by
  have h1 := isS_end h i k hik hk
  have h2 := (rightS_iff _).1 (isS_right h (k := i) (by omega))
  rw [goesS_iff] at hg ⊢
  omega
theorem drop_parts {l : List Sp} (h : isS l = true) (n : Int) : ∀ k, k ≤ l.length → ∃ j, j ≤ k ∧ goneTo l n k = l.take j ∧ stayTo l n k = (l.take k).drop j ∧ (∀ i, i < j → goesS (l.getD i spZ) n = true) ∧ (j < k → goesS (l.getD j spZ) n = false)
  | 0, _ => ⟨0, Nat.le_refl _, rfl, rfl, fun i hi => by omega, fun h => by omega⟩
  | k + 1, hk => by
    obtain ⟨j, hj, h1, h2, h3, h4⟩ := drop_parts h n k (by omega)
    have hlk : k < l.length := by omega
    rw [goneTo_succ l n k hlk, stayTo_succ l n k hlk, h1, h2]
    cases hg : goesS (l.getD k spZ) n with
    | true =>
      have hjk : j = k := by
        rcases Nat.lt_or_ge j k with hlt | hge
        · have := goesS_mono h hlt hlk hg
          rw [h4 hlt] at this
          cases this
        · omega
      subst hjk
      refine ⟨j + 1, Nat.le_refl _, ?_, ?_, fun i hi => ?_, fun h => by omega⟩
      · rw [if_pos rfl, take_snoc l j hlk, getD_at l hlk]
      · rw [if_pos rfl, List.drop_of_length_le (by rw [List.length_take]; omega), List.drop_of_length_le (by rw [List.length_take]; omega)]
      · rcases Nat.lt_or_ge i j with hi2 | hi2
        · exact h3 i hi2
        · obtain rfl : i = j := by omega
          exact hg
    | false =>
      refine ⟨j, by omega, ?_, ?_, h3, fun _ => ?_⟩
      · rw [if_neg (by simp)]
      · rw [if_neg (by simp), take_snoc l k hlk, getD_at l hlk, List.drop_append_of_le_length (by rw [List.length_take]; omega)]
      · rcases Nat.lt_or_ge j k with hlt | hge
        · exact h4 hlt
        · obtain rfl : j = k := by omega
          exact hg
theorem drop_all {l : List Sp} (h : isS l = true) (n : Int) : goneTo l n l.length ++ stayTo l n l.length = l ∧ (∀ i, i < (goneTo l n l.length).length → goesS ((goneTo l n l.length).getD i spZ) n = true) ∧ (0 < (stayTo l n l.length).length → goesS ((stayTo l n l.length).getD 0 spZ) n = false ∧ rightS ((stayTo l n l.length).getD 0 spZ) = true) ∧ ∀ i, i < (goneTo l n l.length).length → rightS ((goneTo l n l.length).getD i spZ) = true := by
  obtain ⟨j, hj, h1, h2, h3, h4⟩ := drop_parts h n l.length (Nat.le_refl _)
  rw [List.take_length] at h2
  rw [h1, h2]
  have hget : ∀ i, i < j → (l.take j).getD i spZ = l.getD i spZ := fun i hi => by
    simp [List.getD, List.getElem?_take, hi]
  refine ⟨List.take_append_drop _ _, fun i hi => ?_, fun h0 => ?_, fun i hi => ?_⟩
  · have hij : i < j := by rw [List.length_take] at hi; omega
    rw [hget i hij]
    exact h3 i hij
  · have hjl : j < l.length := by rw [List.length_drop] at h0; omega
    have he : (l.drop j).getD 0 spZ = l.getD j spZ := by simp [List.getD, List.getElem?_drop]
    rw [he]
    exact ⟨h4 hjl, isS_right h hjl⟩
  · have hij : i < j := by rw [List.length_take] at hi; omega
    rw [hget i hij]
    exact isS_right h (by omega)
end Go.Proofs.Ythomhhnioadpmaa

/-
  Rows of elements of many cells that are written in place: append with room, copy, clear. No statement of the seat is proved here.
-/
namespace Go.Proofs.Ythomhhnioadpmaa
open Go Go.RowKit

/-- cells laid over a row from a place on -/
def spl (xs : List Value) (i : Nat) (vs : List Value) : List Value := xs.take i ++ (vs ++ xs.drop (i + vs.length))
theorem spl_len {xs vs : List Value} {i : Nat} (h : i + vs.length ≤ xs.length) : (spl xs i vs).length = xs.length := by simp [spl]; omega
theorem spl_at {xs vs : List Value} {i : Nat} (h : i + vs.length ≤ xs.length) (j : Nat) : (spl xs i vs)[j]? = if i ≤ j ∧ j < i + vs.length then vs[j - i]? else xs[j]? := by
  unfold spl
  have ht : (xs.take i).length = i := by rw [List.length_take]; omega
  by_cases h1 : j < i
  · rw [List.getElem?_append_left (by omega), List.getElem?_take, if_pos h1, if_neg (by omega)]
  · rw [List.getElem?_append_right (by omega), ht]
    by_cases h2 : j < i + vs.length
    · rw [List.getElem?_append_left (by omega), if_pos ⟨by omega, h2⟩]
    · rw [List.getElem?_append_right (by omega), List.getElem?_drop, if_neg (by omega), show i + vs.length + (j - i - vs.length) = j by omega]
theorem RowO.spl {w : World} {e : TypeId} {sz g off m c : Nat} {xs : List Value} (h : RowO w e sz (some ⟨g, off, none⟩) m c xs) (i : Nat) (vs : List Value) (hi : i + vs.length ≤ m * sz) :
    RowO (w.setCells g (off + i) vs) e sz (some ⟨g, off, none⟩) m c (spl xs i vs) := by
  have hl := h.1
  refine ⟨by rw [spl_len (by omega)]; exact hl, ?_⟩
  rcases h.2 with ⟨h1, _⟩ | ⟨g', o', cs, h1, h2, h3, h4, h5, h6⟩
  · cases h1
  · injection h1 with h1
    injection h1 with h1 h1' _
    subst h1 h1'
    have hmc : m * sz ≤ c * sz := Nat.mul_le_mul_right _ h2
    obtain ⟨cs', hb, hs, hin, hout⟩ := Blk.setCells vs (off + i) h4 (by omega)
    refine .inr ⟨g, off, cs', rfl, h2, h3, hb, by omega, fun j u hu => ?_⟩
    rw [spl_at (by omega)] at hu
    split at hu
    · rename_i hj
      have := hin _ u hu
      rwa [show off + i + (j - i) = off + j by omega] at this
    · rename_i hj
      rw [hout (off + j) (by omega)]
      exact h6 j u hu
theorem RowO.there {w : World} {e : TypeId} {sz g off m c : Nat} {xs : List Value} (h : RowO w e sz (some ⟨g, off, none⟩) m c xs) {j : Nat} (hj : j < m * sz) : (w.cell? ⟨g, off + j, none⟩).isSome = true ∧ w.frozen? ⟨g, off + j, none⟩ = false := by
  rcases h.2 with ⟨h1, _⟩ | ⟨g', o', cs, h1, h2, h3, h4, h5, h6⟩
  · cases h1
  · injection h1 with h1
    injection h1 with h1 h1' _
    subst h1 h1'
    have hmc : m * sz ≤ c * sz := Nat.mul_le_mul_right _ h2
    exact ⟨by rw [h4.cell]; simp; omega, h4.free _⟩

section
variable {P : Program} {w : World} {ops : Array Oper} {rest : List Oper} {o : Oper} {a : Act} {Q : Exit → Act → World → Prop}
/-- append where there is room -/
theorem wpList_app_room (hgd : o.guard = none) (s x : Operand) (t : TypeId) (ho : o.op = .call { callee := .builtin .append, args := #[s, x], argTypes := #[t, t] })
    (e : TypeId) (z : Value) (sz bytes : Nat) (ht : P.underlying t = some (.slice e)) (hi : (P.info? e).map (fun i => (i.zero, i.size, i.bytes)) = some (some z, sz, bytes))
    (g off n c M : Nat) (xs : List Value) (hs : a.eval s = .slice (some ⟨g, off, none⟩) n c) (hown : RowO w e sz (some ⟨g, off, none⟩) M c xs)
    (ad : Addr) (m c2 : Nat) (news : List Value) (hx : a.eval x = .slice (some ad) m c2) (hm : news.length = m * sz) (hr : Rd w (some ad) news) (h1 : ∀ u ∈ news, u.oneCell' = true) (hroom : n + m ≤ M)
    (h : ∀ w', RowO w' e sz (some ⟨g, off, none⟩) M c (spl xs (n * sz) news) → Only (fun k => k = g) w w' → wpList P ops Q rest (a.put o.dst (.slice (some ⟨g, off, none⟩) (n + m) c)) w') : wpList P ops Q (o :: rest) a w := by
  refine wpList_plain hgd fun K hK => ?_
  obtain ⟨i, hinf, hz, hsz, hby⟩ := info_parts hi
  clear hi
  subst hsz hby
  have hMm : (n + m) * i.size ≤ M * i.size := Nat.mul_le_mul_right _ hroom
  rw [Nat.add_mul] at hMm
  have src : Src P i.size t (.slice (some ad) m c2) m news w := Src.ofSlice w ht ad m c2 news hm (fun j u hu => by
    obtain ⟨ad', h, hc⟩ := hr j u hu
    injection h with h
    subst h
    exact hc) h1
  have hrun := run_append_room_src (P := P) w t t o.type e i ht hinf g off n c (.slice (some ad) m c2) m news src (by have := hown.le; omega) (fun j hj => by
    have := (hown.there (j := n * i.size + j) (by omega)).1
    rwa [← Nat.add_assoc] at this) (fun j hj => by
    have := (hown.there (j := n * i.size + j) (by omega)).2
    rwa [← Nat.add_assoc] at this)
  unfold Oper.wp execOp
  simp only [ho, resolve, invoke, builtin, Sem.run_bind, Sem.run_pure, Result.andThen_ok, List.map_toArray, List.map_cons, List.map_nil, hs, hx, hrun]
  exact hK _ _ (h _ (hown.spl (n * i.size) news (by omega)) ((Only.refl (fun k => k = g) w).setCells (.inl rfl) _ _))
theorem run_copyO (w : World) (dT sT ty elem : TypeId) (sz b o dLen dCap : Nat) (ad : Addr) (sLen sCap m : Nat) (cs : List Value)
    (hu : P.underlying dT = some (.slice elem)) (hs : (P.info? elem).map (·.size) = some sz) (hn : m = Nat.min sLen dLen) (hl : cs.length = m * sz)
    (hsrc : ∀ j v, cs[j]? = some v → w.cell? (ad.add j) = some v) (hc : ∀ j, j < cs.length → (w.cell? ⟨b, o + j, none⟩).isSome = true) (hf : ∀ j, j < cs.length → w.frozen? ⟨b, o + j, none⟩ = false) (h1 : ∀ v ∈ cs, v.oneCell' = true) :
    (Builtin.copy_ #[dT, sT] ty #[.slice (some ⟨b, o, none⟩) dLen dCap, .slice (some ad) sLen sCap]).run P w = .ok (goInt m) (w.setCells b o cs) := by
  have hfc := run_firstCells_some (P := P) w sz m ad sLen sCap cs hl hsrc
  have hst := run_storeCells_cells (P := P) b o cs 0 w (by simpa using hc) (by simpa using hf) h1
  simp only [Nat.add_zero] at hst
  cases hq : P.info? elem with
  | none => simp [hq] at hs
  | some i =>
    have hi : i.size = sz := by simpa [hq] using hs
    simp [Builtin.copy_, run_underlying hu, Builtin.lenOf, sizeOf, typeInfo, hq, hi, ← hn, hfc, hst]
/-- copy into a row -/
theorem wpList_copyO (hgd : o.guard = none) (d s : Operand) (dT sT : TypeId) (ho : o.op = .call { callee := .builtin .copy, args := #[d, s], argTypes := #[dT, sT] })
    (e : TypeId) (sz : Nat) (hu : P.underlying dT = some (.slice e)) (hsz : (P.info? e).map (·.size) = some sz)
    (g off M c : Nat) (xs : List Value) (hown : RowO w e sz (some ⟨g, off, none⟩) M c xs) (k b dLen dCap : Nat) (hb : b = off + k * sz) (hd : a.eval d = .slice (some ⟨g, b, none⟩) dLen dCap)
    (ad : Addr) (sLen sCap m : Nat) (cs : List Value) (hs : a.eval s = .slice (some ad) sLen sCap) (hn : m = Nat.min sLen dLen) (hl : cs.length = m * sz)
    (hsrc : ∀ j v, cs[j]? = some v → w.cell? (ad.add j) = some v) (hfit : k + m ≤ M) (h1 : ∀ v ∈ cs, v.oneCell' = true)
    (h : ∀ w', RowO w' e sz (some ⟨g, off, none⟩) M c (spl xs (k * sz) cs) → Only (fun k => k = g) w w' → wpList P ops Q rest (a.put o.dst (goInt m)) w') : wpList P ops Q (o :: rest) a w := by
  subst hb
  refine wpList_plain hgd fun K hK => ?_
  have hM : (k + m) * sz ≤ M * sz := Nat.mul_le_mul_right _ hfit
  rw [Nat.add_mul] at hM
  have hrun := run_copyO (P := P) w dT sT o.type e sz g (off + k * sz) dLen dCap ad sLen sCap m cs hu hsz hn hl hsrc (fun j hj => by
    have := (hown.there (j := k * sz + j) (by omega)).1
    rwa [← Nat.add_assoc] at this) (fun j hj => by
    have := (hown.there (j := k * sz + j) (by omega)).2
    rwa [← Nat.add_assoc] at this) h1
  unfold Oper.wp execOp
  simp only [ho, resolve, invoke, builtin, Sem.run_bind, Sem.run_pure, Result.andThen_ok, List.map_toArray, List.map_cons, List.map_nil, hd, hs, hrun]
  exact hK _ _ (h _ (hown.spl (k * sz) cs (by omega)) ((Only.refl (fun k => k = g) w).setCells (.inl rfl) _ _))
/-- copy into a row, at a step of a region that draws its order -/
theorem step_copyO {K : Act → World → Prop} {E : Prop} (hgd : o.guard = none) (d s : Operand) (dT sT : TypeId) (ho : o.op = .call { callee := .builtin .copy, args := #[d, s], argTypes := #[dT, sT] })
    (e : TypeId) (sz : Nat) (hu : P.underlying dT = some (.slice e)) (hsz : (P.info? e).map (·.size) = some sz)
    (g off M c : Nat) (xs : List Value) (hown : RowO w e sz (some ⟨g, off, none⟩) M c xs) (k b dLen dCap : Nat) (hb : b = off + k * sz) (hd : a.eval d = .slice (some ⟨g, b, none⟩) dLen dCap)
    (ad : Addr) (sLen sCap m : Nat) (cs : List Value) (hs : a.eval s = .slice (some ad) sLen sCap) (hn : m = Nat.min sLen dLen) (hl : cs.length = m * sz)
    (hsrc : ∀ j v, cs[j]? = some v → w.cell? (ad.add j) = some v) (hfit : k + m ≤ M) (h1 : ∀ v ∈ cs, v.oneCell' = true)
    (h : ∀ w', RowO w' e sz (some ⟨g, off, none⟩) M c (spl xs (k * sz) cs) → Only (fun k => k = g) w w' → K (a.put o.dst (goInt m)) w') :
    if Region.wanted o (yielded ops a.tmps) = true then Oper.wp P o a w K Q else E := by
  have hw : Region.wanted o (yielded ops a.tmps) = true := by simp [Region.wanted, hgd]
  rw [if_pos hw]
  subst hb
  have hM : (k + m) * sz ≤ M * sz := Nat.mul_le_mul_right _ hfit
  rw [Nat.add_mul] at hM
  have hrun := run_copyO (P := P) w dT sT o.type e sz g (off + k * sz) dLen dCap ad sLen sCap m cs hu hsz hn hl hsrc (fun j hj => by
    have := (hown.there (j := k * sz + j) (by omega)).1
    rwa [← Nat.add_assoc] at this) (fun j hj => by
    have := (hown.there (j := k * sz + j) (by omega)).2
    rwa [← Nat.add_assoc] at this) h1
  unfold Oper.wp execOp
  simp only [ho, resolve, invoke, builtin, Sem.run_bind, Sem.run_pure, Result.andThen_ok, List.map_toArray, List.map_cons, List.map_nil, hd, hs, hrun]
  exact h _ (hown.spl (k * sz) cs (by omega)) ((Only.refl (fun k => k = g) w).setCells (.inl rfl) _ _)
/-- clear of some elements of a row -/
theorem wpList_clearO (hgd : o.guard = none) (s : Operand) (t : TypeId) (ho : o.op = .call { callee := .builtin .clear, args := #[s], argTypes := #[t] })
    (e : TypeId) (sz : Nat) (z : Value) (ht : P.underlying t = some (.slice e)) (hv : ∀ w, (zeroValue e).run P w = .ok z w) (hzs : z.cells.size = sz) (hz1 : ∀ n, ∀ u ∈ (Builtin.zeroCells z.cells n).toList, u.oneCell' = true)
    (g off M c : Nat) (xs : List Value) (hown : RowO w e sz (some ⟨g, off, none⟩) M c xs) (k b n cap : Nat) (hb : b = off + k * sz) (hs : a.eval s = .slice (some ⟨g, b, none⟩) n cap) (hn : 0 < n) (hfit : k + n ≤ M)
    (h : ∀ w', RowO w' e sz (some ⟨g, off, none⟩) M c (spl xs (k * sz) (Builtin.zeroCells z.cells n).toList) → Only (fun k => k = g) w w' → wpList P ops Q rest (a.put o.dst (.tuple #[])) w') : wpList P ops Q (o :: rest) a w := by
  subst hb
  refine wpList_plain hgd fun K hK => ?_
  have hM : (k + n) * sz ≤ M * sz := Nat.mul_le_mul_right _ hfit
  rw [Nat.add_mul] at hM
  have hlen : (Builtin.zeroCells z.cells n).toList.length = n * sz := by rw [Array.length_toList, size_zeroCells, hzs]
  have hst := run_storeCells_cells (P := P) g (off + k * sz) (Builtin.zeroCells z.cells n).toList 0 w (fun j hj => by
    have := (hown.there (j := k * sz + j) (by omega)).1
    rw [← Nat.add_assoc] at this
    simpa using this) (fun j hj => by
    have := (hown.there (j := k * sz + j) (by omega)).2
    rw [← Nat.add_assoc] at this
    simpa using this) (hz1 n)
  simp only [Nat.add_zero] at hst
  obtain ⟨q, rfl⟩ : ∃ q, n = q + 1 := ⟨n - 1, by omega⟩
  have hrun : (Builtin.clear_ #[t] o.type #[.slice (some ⟨g, off + k * sz, none⟩) (q + 1) cap]).run P w = .ok (.tuple #[]) (w.setCells g (off + k * sz) (Builtin.zeroCells z.cells (q + 1)).toList) := by
    simp [Builtin.clear_, run_underlying ht, hv, hst]
  unfold Oper.wp execOp
  simp only [ho, resolve, invoke, builtin, Sem.run_bind, Sem.run_pure, Result.andThen_ok, List.map_toArray, List.map_cons, List.map_nil, hs, hrun]
  exact hK _ _ (h _ (hown.spl (k * sz) _ (by omega)) ((Only.refl (fun k => k = g) w).setCells (.inl rfl) _ _))
end
end Go.Proofs.Ythomhhnioadpmaa

/-
  The contracts of slices.Clone and slices.Replace over spans. No statement of the seat is proved here.
-/
namespace Go.Proofs.Ythomhhnioadpmaa
open Go Go.RowKit
set_option maxRecDepth 100000

theorem clone_spans {w : World} (A : Option Addr) (m c : Nat) (l : List Sp) (hm : m = l.length) (hr : SpsAt w A l) (h0 : A = none → m = 0 ∧ c = 0) (hl : l.length ≤ 1000000) :
    Calls Try.prog 19 #[.slice A m c] w fun e w' => ∃ A' c', e = .returned (.slice A' m c') ∧ NewO w w' 24 3 A' m c' (spsV l) := by
  have hml : m ≤ 1000000 := by omega
  have he := Lib.run_eql_slice_nil (P := Try.prog) w 22 24 A m c 0 0 Try.underlying22
  rcases A with _ | ad
  · obtain ⟨rfl, rfl⟩ := h0 rfl
    obtain rfl : l = [] := List.eq_nil_of_length_eq_zero hm.symm
    clear hm hr h0 hl hml
    go_enter Try.func19, Try.ntmps19
    go_wp2
    go_ret
    exact ⟨none, 0, rfl, NewO.start _ _ _⟩
  · have hm1 : 0 + m ≤ maxLen := by unfold maxLen; omega
    have hm2 : (0 + m) * 24 ≤ 140737488355328 := by omega
    have hempty : NewO w (w.alloc (.cells #[] 24)) 24 3 (some ⟨w.heap.size, 0, none⟩) 0 0 [] := ⟨RowO.lit w 24 3 0 #[] rfl (Nat.zero_le _) rfl, ext_alloc (Below.refl _ _) _, fun k hk => by rw [inA_some] at hk; omega⟩
    have hrd := hr.rd.alloc (.cells #[] 24)
    have hsl : (spsV l).length = m * 3 := by rw [spsV_len, hm]
    have hs1 := spsV_one l
    clear hm h0 hl
    go_enter Try.func19, Try.ntmps19
    go_wp2_with (at_builtin
                 refine wpList_appO _ rfl (.tmp 5) (.tmp 6) _ rfl _ _ 3 24 Try.underlying22 info_sp rfl (some ⟨w.heap.size, 0, none⟩) 0 0 [] rfl hempty.row (some ad) m c (spsV l) rfl hsl hrd hs1 ?_ hm1 hm2 ?_
                 · intro h; cases h
                 intro A2 c2 w2 hrow2 honly2 hA2)
    go_ret
    rw [List.nil_append] at hrow2
    rw [Nat.zero_add] at hrow2
    exact ⟨A2, c2, by first | rfl | simp, hempty.grow (Below.refl _ _) hrow2 honly2 hA2⟩

/-- one span in the place of two -/
def putS (l : List Sp) (k : Nat) (s : Sp) : List Sp := l.take k ++ s :: l.drop (k + 2)
theorem putS_len (l : List Sp) (k : Nat) (s : Sp) (h : k + 2 ≤ l.length) : (putS l k s).length = l.length - 1 := by simp [putS]; omega
theorem zero_sp (w : World) : (zeroValue 24).run Try.prog w = .ok (.agg #[.int .i64 0, .int .i64 0, .int .i64 0]) w := by kernel_rfl
theorem zeros_one (n : Nat) : ∀ u ∈ (Builtin.zeroCells (Value.agg #[.int .i64 0, .int .i64 0, .int .i64 0]).cells n).toList, u.oneCell' = true := by
  intro u hu
  simp only [Builtin.zeroCells, Array.toList_map, List.mem_map] at hu
  obtain ⟨i, _, rfl⟩ := hu
  have h3 : (Value.agg #[.int .i64 0, .int .i64 0, .int .i64 0]).cells.size = 3 := rfl
  rw [h3]
  have hm : i % 3 < 3 := Nat.mod_lt _ (by omega)
  match i % 3, hm with
  | 0, _ => rfl
  | 1, _ => rfl
  | 2, _ => rfl
theorem size_sp : (Try.prog.info? 24).map (·.size) = some 3 := by kernel_rfl
set_option maxHeartbeats 2000000 in
theorem replace_last (g off c n k : Nat) (l : List Sp) (s : Sp) (ad : Addr) (w : World) (hn : n = l.length) (hk : k + 2 = l.length) (hl : l.length ≤ 1000000) (hc : c ≤ maxLen) (hrow : RowO w 24 3 (some ⟨g, off, none⟩) n c (spsV l)) (hs : Rd w (some ad) (spV s)) :
    Calls Try.prog 20 #[.slice (some ⟨g, off, none⟩) n c, .int .i64 (k : Int), .int .i64 ((k : Int) + 2), .slice (some ad) 1 1] w fun e w' => e = .returned (.slice (some ⟨g, off, none⟩) (k + 1) c) ∧ ∃ xs, RowO w' 24 3 (some ⟨g, off, none⟩) n c xs ∧ (∀ j, j < (k + 1) * 3 → xs[j]? = (spsV (putS l k s))[j]?) ∧ Only (fun k => k = g) w w' := by
  unfold maxLen at hc
  have hnk : n = k + 2 := by omega
  subst hnk
  have hle := hrow.le
  have hki : (k : Int) ≤ 1000000 := by omega
  have hwk : IntKind.i64.wrap ((k : Int) + 1) = (k : Int) + 1 := by rw [IntKind.wrap_i64]; omega
  have hci : (k : Int) + 2 ≤ (c : Int) := by omega
  have hck : ¬ c = k := by omega
  have hck1 : ¬ c = k + 1 := by omega
  have hsl : (spsV l).length = (k + 2) * 3 := by rw [spsV_len, hk]
  have Hk := Lib.hid hk
  have Hl := Lib.hid hl
  clear hk hn hl
  go_enter Try.func20, Try.ntmps20
  go_wp2_with (first
    | (at_builtin; refine wpList_app_room rfl (.tmp 32) (.tmp 33) _ rfl _ _ 3 24 Try.underlying22 info_sp g off k c (k + 2) (spsV l) rfl hrow ad 1 1 (spV s) rfl rfl hs (by intro u hu; simp [spV] at hu; rcases hu with rfl | rfl | rfl <;> rfl) (by omega) ?_
       intro w1 hr1 ho1)
    | (refine wpList_clearO rfl (.tmp 43) _ rfl 24 3 _ Try.underlying22 zero_sp rfl zeros_one g off (k + 2) c _ hr1 (k + 1) _ 1 _ rfl rfl (by omega) (by omega) ?_
       intro w2 hr2 ho2)
    | fail)
  go_ret
  refine ⟨rfl, _, hr2, fun j hj => ?_, ho1.trans ho2 (fun i _ h => h)⟩
  have hz : (Builtin.zeroCells (Value.agg #[.int .i64 0, .int .i64 0, .int .i64 0]).cells 1).toList.length = 3 := by
    rw [Array.length_toList, size_zeroCells]; rfl
  have hsv : (spV s).length = 3 := rfl
  rw [spl_at (by rw [spl_len (by rw [hsl, hsv]; omega), hz, hsl]; omega), if_neg (by omega), spl_at (by rw [hsl, hsv]; omega), hsv]
  unfold putS
  rw [spsV_app, show spsV (s :: l.drop (k + 2)) = spV s ++ spsV (l.drop (k + 2)) from rfl]
  have htk : (spsV (l.take k)).length = k * 3 := by have := Hk.out; rw [spsV_len, List.length_take]; omega
  by_cases h1 : j < k * 3
  · rw [if_neg (by omega), List.getElem?_append_left (by omega), spsV_take, List.getElem?_take, if_pos h1]
  · rw [if_pos (by omega), List.getElem?_append_right (by omega), htk, List.getElem?_append_left (by rw [hsv]; omega)]
end Go.Proofs.Ythomhhnioadpmaa
