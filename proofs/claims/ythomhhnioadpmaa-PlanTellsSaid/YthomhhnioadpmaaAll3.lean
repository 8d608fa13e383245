/-
  Texts of this claim, joined (part 3): contracts and lemmas that the last text goes by. No statement of the seat is proved here.
-/
import Derived.Test.YthomhhnioadpmaaAll2
set_option linter.unusedVariables false
set_option linter.unusedSimpArgs false
/-
  The contract of the reference's Join. No statement of the seat is proved here.
-/
namespace Go.Proofs.Ythomhhnioadpmaa
open Go Go.RowKit
set_option maxRecDepth 100000

theorem blk_atJ {w : World} {g : Nat} (t : TypeId) (cs : Array Value) (h : g = w.heap.size) : Blk (w.alloc (.cells cs t)) g t cs := by subst h; exact Blk.new _ _ _
set_option maxHeartbeats 16000000 in
theorem rjoin_any (A : Option Addr) (n c : Nat) (l : List Sp) (i id : Int) (w : World) (hn : n = l.length) (hl : l.length ≤ 1000000) (hc : l.length ≤ c) (h : SpsAt w A l) (h0 : A = none → n = 0 ∧ c = 0) (hi : isInt i) (hid : isInt id) :
    Calls Try.prog 10 #[.slice A n c, .int .i64 i, .int .i64 id] w fun e w' => ∃ A' c', e = .returned (.tuple #[.slice A' (joinR l i id).length c', .bool (canJ l i)]) ∧ SpsAt w' A' (joinR l i id) ∧ Below w.heap.size w w' := by
  subst hn
  have hli : (l.length : Int) ≤ 1000000 := by omega
  have H := Lib.hid h
  have Hl := Lib.hid hl
  have hi1 := hi.1
  have hi2 := hi.2
  have hw1 : IntKind.i64.wrap ((l.length : Int) - 1) = (l.length : Int) - 1 := by rw [IntKind.wrap_i64]; omega
  have hrow0 := RowO.lit w 24 3 0 #[] rfl (Nat.zero_le _) rfl
  have hrd0 := h.rd.alloc (.cells #[] 24)
  have hsl := spsV_len l
  have hs1 := spsV_one l
  have hnone : A = none → l.length = 0 := fun e => (h0 e).1
  obtain ⟨n, hnl⟩ : ∃ n, l.length = n := ⟨_, rfl⟩
  rw [hnl] at hl hli hw1 hsl hnone hc ⊢
  have Hnl := Lib.hid hnl
  clear h h0 hnl
  go_enter Try.func10, Try.ntmps10
  go_wp2_with (first
    | (at_builtin; refine wpList_appO _ rfl (.tmp 10) (.tmp 11) _ rfl _ _ 3 24 Try.underlying22 info_sp rfl (some ⟨w.heap.size, 0, none⟩) 0 0 [] rfl hrow0 A n c (spsV l) rfl hsl hrd0 hs1 hnone (by unfold maxLen; omega) (by omega) ?_
       intro A3 c3 w3 hr3 ho3 hA3
       rw [List.nil_append, Nat.zero_add] at hr3
       rw [Nat.zero_add])
    | fail)
  have hb3 : Below w.heap.size w w3 := (ext_alloc (Below.refl w.heap.size w) _).trans (ho3.below (B := w.heap.size) (fun j hj => by rw [inA_some] at hj; omega) (by simp))
  have Hb3 := Lib.hid hb3
  have HR3 := Lib.hid hr3.sps
  have Hs3 := Lib.hid (H.out.ext hb3)
  have HI := Lib.hid (fun W (hW : Below w3.heap.size w3 W) => ris_any A n c l W Hnl.out.symm Hl.out (Hs3.out.ext hW))
  obtain ⟨I, hI⟩ : ∃ I, isS l = I := ⟨_, rfl⟩
  rw [hI] at HI
  have HIe := Lib.hid hI
  have Hnone := Lib.hid hnone
  clear hrow0 hrd0 hsl hs1 hr3 ho3 hA3 hb3 hI hnone
  have hbx : Below w3.heap.size w3 w3 := Below.refl _ _
  cases I with
  | false =>
    have hc : canJ l i = false := by unfold canJ; rw [HIe.out]; rfl
    have hj : joinR l i id = l := by unfold joinR; rw [hc]; rfl
    have Hc := Lib.hid hc
    have Hj := Lib.hid hj
    clear hc hj
    go_wp2
    refine wp_region_held_drew (S := fun _ => True) (by kernel_rfl) ?_ (fun hHeld => ?_)
    · all_goals trivial
    refine wpAnyH_take (i := 0) (v := ?_) (take_list rfl) (by kernel_rfl) (by kernel_rfl) (by kernel_rfl) (fun _ _ _ h => h) (Or.inl ⟨by rfl, ?_⟩) (by assumption) ?_
    rotate_left
    · intro w hSw
      try dsimp only at hSw
      first | (go_simp; done) | (go_simp; with_reducible rfl)
    try simp only [Act.put, List.setIfInBounds_toArray, List.set_cons_zero, List.set_cons_succ]
    refine wpAnyH_ready (rs := [1]) (by kernel_rfl) (by simp) ?_
    refine AllReadyH.cons (take_list rfl) (fun K hK => ?_) ?_
    · skip
      go_simp
      refine (HI.out _ (by repeat (first | exact hbx | apply ext_alloc | apply ext_drew | apply ext_drewN | exact Below.refl _ _))).mono ?_
      rintro e xa ⟨rfl, hbx'⟩
      dsimp only
      have hbx : Below w3.heap.size w3 xa := ext_trans (by repeat (first | exact hbx | apply ext_alloc | apply ext_drew | apply ext_drewN | exact Below.refl _ _)) hbx'
      refine hK.out _ _ ?_ (fun hHeld => ?_)
      · try dsimp only
        all_goals trivial
      clear hK K
      refine wpAnyH_take (i := 2) (v := ?_) (take_list rfl) (by kernel_rfl) (by kernel_rfl) (by kernel_rfl) (fun _ _ _ h => h) (Or.inl ⟨by rfl, ?_⟩) (by assumption) ?_
      rotate_left
      · intro w hSw
        try dsimp only at hSw
        first | (go_simp; done) | (go_simp; with_reducible rfl)
      try simp only [Act.put, List.setIfInBounds_toArray, List.set_cons_zero, List.set_cons_succ]
      refine wpAnyH_take (i := 3) (v := ?_) (take_list rfl) (by kernel_rfl) (by kernel_rfl) (by kernel_rfl) (fun _ _ _ h => h) (Or.inl ⟨by rfl, ?_⟩) (by assumption) ?_
      rotate_left
      · intro w hSw
        try dsimp only at hSw
        first | (go_simp; done) | (go_simp; with_reducible rfl)
      try simp only [Act.put, List.setIfInBounds_toArray, List.set_cons_zero, List.set_cons_succ]
      refine wpAnyH_take (i := 4) (v := undef) (take_list rfl) (by kernel_rfl) (by kernel_rfl) (by kernel_rfl) (fun _ _ _ h => h) (Or.inr ⟨by rfl, rfl⟩) (by assumption) ?_
      try simp only [Act.put, List.setIfInBounds_toArray, List.set_cons_zero, List.set_cons_succ]
      refine wpAnyH_take (i := 5) (v := undef) (take_list rfl) (by kernel_rfl) (by kernel_rfl) (by kernel_rfl) (fun _ _ _ h => h) (Or.inr ⟨by rfl, rfl⟩) (by assumption) ?_
      try simp only [Act.put, List.setIfInBounds_toArray, List.set_cons_zero, List.set_cons_succ]
      refine wpAnyH_take (i := 6) (v := ?_) (take_list rfl) (by kernel_rfl) (by kernel_rfl) (by kernel_rfl) (fun _ _ _ h => h) (Or.inl ⟨by rfl, ?_⟩) (by assumption) ?_
      rotate_left
      · intro w hSw
        try dsimp only at hSw
        first | (go_simp; done) | (go_simp; with_reducible rfl)
      try simp only [Act.put, List.setIfInBounds_toArray, List.set_cons_zero, List.set_cons_succ]
      refine wpAnyH_take (i := 7) (v := ?_) (take_list rfl) (by kernel_rfl) (by kernel_rfl) (by kernel_rfl) (fun _ _ _ h => h) (Or.inl ⟨by rfl, ?_⟩) (by assumption) ?_
      rotate_left
      · intro w hSw
        try dsimp only at hSw
        first | (go_simp; done) | (go_simp; with_reducible rfl)
      try simp only [Act.put, List.setIfInBounds_toArray, List.set_cons_zero, List.set_cons_succ]
      refine wpAnyH_take (i := 8) (v := undef) (take_list rfl) (by kernel_rfl) (by kernel_rfl) (by kernel_rfl) (fun _ _ _ h => h) (Or.inr ⟨by rfl, rfl⟩) (by assumption) ?_
      try simp only [Act.put, List.setIfInBounds_toArray, List.set_cons_zero, List.set_cons_succ]
      refine wpAnyH_take (i := 9) (v := undef) (take_list rfl) (by kernel_rfl) (by kernel_rfl) (by kernel_rfl) (fun _ _ _ h => h) (Or.inr ⟨by rfl, rfl⟩) (by assumption) ?_
      try simp only [Act.put, List.setIfInBounds_toArray, List.set_cons_zero, List.set_cons_succ]
      refine wpAnyH_take (i := 10) (v := undef) (take_list rfl) (by kernel_rfl) (by kernel_rfl) (by kernel_rfl) (fun _ _ _ h => h) (Or.inr ⟨by rfl, rfl⟩) (by assumption) ?_
      try simp only [Act.put, List.setIfInBounds_toArray, List.set_cons_zero, List.set_cons_succ]
      refine wpAnyH_take (i := 11) (v := undef) (take_list rfl) (by kernel_rfl) (by kernel_rfl) (by kernel_rfl) (fun _ _ _ h => h) (Or.inr ⟨by rfl, rfl⟩) (by assumption) ?_
      try simp only [Act.put, List.setIfInBounds_toArray, List.set_cons_zero, List.set_cons_succ]
      refine wpAnyH_take (i := 12) (v := undef) (take_list rfl) (by kernel_rfl) (by kernel_rfl) (by kernel_rfl) (fun _ _ _ h => h) (Or.inr ⟨by rfl, rfl⟩) (by assumption) ?_
      try simp only [Act.put, List.setIfInBounds_toArray, List.set_cons_zero, List.set_cons_succ]
      refine wpAnyH_take (i := 13) (v := ?_) (take_list rfl) (by kernel_rfl) (by kernel_rfl) (by kernel_rfl) (fun _ _ _ h => h) (Or.inl ⟨by rfl, ?_⟩) (by assumption) ?_
      rotate_left
      · intro w hSw
        try dsimp only at hSw
        first | (go_simp; done) | (go_simp; with_reducible rfl)
      try simp only [Act.put, List.setIfInBounds_toArray, List.set_cons_zero, List.set_cons_succ]
      refine wpAnyH_take (i := 14) (v := ?_) (take_list rfl) (by kernel_rfl) (by kernel_rfl) (by kernel_rfl) (fun _ _ _ h => h) (Or.inl ⟨by rfl, ?_⟩) (by assumption) ?_
      rotate_left
      · intro w hSw
        try dsimp only at hSw
        first | (go_simp; done) | (go_simp; with_reducible rfl)
      try simp only [Act.put, List.setIfInBounds_toArray, List.set_cons_zero, List.set_cons_succ]
      refine wpAnyH_take (i := 15) (v := undef) (take_list rfl) (by kernel_rfl) (by kernel_rfl) (by kernel_rfl) (fun _ _ _ h => h) (Or.inr ⟨by rfl, rfl⟩) (by assumption) ?_
      try simp only [Act.put, List.setIfInBounds_toArray, List.set_cons_zero, List.set_cons_succ]
      refine wpAnyH_take (i := 16) (v := undef) (take_list rfl) (by kernel_rfl) (by kernel_rfl) (by kernel_rfl) (fun _ _ _ h => h) (Or.inr ⟨by rfl, rfl⟩) (by assumption) ?_
      try simp only [Act.put, List.setIfInBounds_toArray, List.set_cons_zero, List.set_cons_succ]
      refine wpAnyH_take (i := 17) (v := undef) (take_list rfl) (by kernel_rfl) (by kernel_rfl) (by kernel_rfl) (fun _ _ _ h => h) (Or.inr ⟨by rfl, rfl⟩) (by assumption) ?_
      try simp only [Act.put, List.setIfInBounds_toArray, List.set_cons_zero, List.set_cons_succ]
      refine wpAnyH_take (i := 18) (v := undef) (take_list rfl) (by kernel_rfl) (by kernel_rfl) (by kernel_rfl) (fun _ _ _ h => h) (Or.inr ⟨by rfl, rfl⟩) (by assumption) ?_
      try simp only [Act.put, List.setIfInBounds_toArray, List.set_cons_zero, List.set_cons_succ]
      refine wpAnyH_take (i := 19) (v := undef) (take_list rfl) (by kernel_rfl) (by kernel_rfl) (by kernel_rfl) (fun _ _ _ h => h) (Or.inr ⟨by rfl, rfl⟩) (by assumption) ?_
      try simp only [Act.put, List.setIfInBounds_toArray, List.set_cons_zero, List.set_cons_succ]
      refine wpAnyH_take (i := 20) (v := undef) (take_list rfl) (by kernel_rfl) (by kernel_rfl) (by kernel_rfl) (fun _ _ _ h => h) (Or.inr ⟨by rfl, rfl⟩) (by assumption) ?_
      try simp only [Act.put, List.setIfInBounds_toArray, List.set_cons_zero, List.set_cons_succ]
      refine wpAnyH_take (i := 21) (v := undef) (take_list rfl) (by kernel_rfl) (by kernel_rfl) (by kernel_rfl) (fun _ _ _ h => h) (Or.inr ⟨by rfl, rfl⟩) (by assumption) ?_
      try simp only [Act.put, List.setIfInBounds_toArray, List.set_cons_zero, List.set_cons_succ]
      refine wpAnyH_take (i := 22) (v := undef) (take_list rfl) (by kernel_rfl) (by kernel_rfl) (by kernel_rfl) (fun _ _ _ h => h) (Or.inr ⟨by rfl, rfl⟩) (by assumption) ?_
      try simp only [Act.put, List.setIfInBounds_toArray, List.set_cons_zero, List.set_cons_succ]
      refine wpAnyH_take (i := 23) (v := undef) (take_list rfl) (by kernel_rfl) (by kernel_rfl) (by kernel_rfl) (fun _ _ _ h => h) (Or.inr ⟨by rfl, rfl⟩) (by assumption) ?_
      try simp only [Act.put, List.setIfInBounds_toArray, List.set_cons_zero, List.set_cons_succ]
      refine wpAnyH_take (i := 24) (v := undef) (take_list rfl) (by kernel_rfl) (by kernel_rfl) (by kernel_rfl) (fun _ _ _ h => h) (Or.inr ⟨by rfl, rfl⟩) (by assumption) ?_
      try simp only [Act.put, List.setIfInBounds_toArray, List.set_cons_zero, List.set_cons_succ]
      refine wpAnyH_take (i := 25) (v := undef) (take_list rfl) (by kernel_rfl) (by kernel_rfl) (by kernel_rfl) (fun _ _ _ h => h) (Or.inr ⟨by rfl, rfl⟩) (by assumption) ?_
      try simp only [Act.put, List.setIfInBounds_toArray, List.set_cons_zero, List.set_cons_succ]
      refine wpAnyH_take (i := 26) (v := undef) (take_list rfl) (by kernel_rfl) (by kernel_rfl) (by kernel_rfl) (fun _ _ _ h => h) (Or.inr ⟨by rfl, rfl⟩) (by assumption) ?_
      try simp only [Act.put, List.setIfInBounds_toArray, List.set_cons_zero, List.set_cons_succ]
      refine wpAnyH_take (i := 27) (v := undef) (take_list rfl) (by kernel_rfl) (by kernel_rfl) (by kernel_rfl) (fun _ _ _ h => h) (Or.inr ⟨by rfl, rfl⟩) (by assumption) ?_
      try simp only [Act.put, List.setIfInBounds_toArray, List.set_cons_zero, List.set_cons_succ]
      refine wpAnyH_take (i := 28) (v := ?_) (take_list rfl) (by kernel_rfl) (by kernel_rfl) (by kernel_rfl) (fun _ _ _ h => h) (Or.inl ⟨by rfl, ?_⟩) (by assumption) ?_
      rotate_left
      · intro w hSw
        try dsimp only at hSw
        first | (go_simp; done) | (go_simp; with_reducible rfl)
      try simp only [Act.put, List.setIfInBounds_toArray, List.set_cons_zero, List.set_cons_succ]
      refine wpAnyH_done (by kernel_rfl) ?_ _
      go_wp2
      go_ret2
      exact ⟨A3, c3, by rw [Hc.out, Hj.out, Hnl.out]; rfl, by rw [Hj.out]; exact HR3.out.ext (by repeat (first | exact hbx | apply ext_alloc | apply ext_drew | apply ext_drewN | exact Below.refl _ _)), ext_trans Hb3.out (by repeat (first | exact hbx | apply ext_alloc | apply ext_drew | apply ext_drewN | exact Below.refl _ _))⟩
    exact AllReadyH.nil
  | true =>
    have hJe : joinsI l i = (decide (0 ≤ i) && joinsK l i.toNat) := rfl
    have HJe := Lib.hid hJe
    clear hJe
    by_cases hi0 : i < 0
    · have hc : canJ l i = false := by unfold canJ; rw [HJe.out, decide_eq_false (by omega)]; simp
      have hj : joinR l i id = l := by unfold joinR; rw [hc]; rfl
      have Hc := Lib.hid hc
      have Hj := Lib.hid hj
      clear hc hj
      go_wp2
      refine wp_region_held_drew (S := fun _ => True) (by kernel_rfl) ?_ (fun hHeld => ?_)
      · all_goals trivial
      refine wpAnyH_take (i := 0) (v := ?_) (take_list rfl) (by kernel_rfl) (by kernel_rfl) (by kernel_rfl) (fun _ _ _ h => h) (Or.inl ⟨by rfl, ?_⟩) (by assumption) ?_
      rotate_left
      · intro w hSw
        try dsimp only at hSw
        first | (go_simp; done) | (go_simp; with_reducible rfl)
      try simp only [Act.put, List.setIfInBounds_toArray, List.set_cons_zero, List.set_cons_succ]
      refine wpAnyH_ready (rs := [1]) (by kernel_rfl) (by simp) ?_
      refine AllReadyH.cons (take_list rfl) (fun K hK => ?_) ?_
      · skip
        go_simp
        refine (HI.out _ (by repeat (first | exact hbx | apply ext_alloc | apply ext_drew | apply ext_drewN | exact Below.refl _ _))).mono ?_
        rintro e xa ⟨rfl, hbx'⟩
        dsimp only
        have hbx : Below w3.heap.size w3 xa := ext_trans (by repeat (first | exact hbx | apply ext_alloc | apply ext_drew | apply ext_drewN | exact Below.refl _ _)) hbx'
        refine hK.out _ _ ?_ (fun hHeld => ?_)
        · try dsimp only
          all_goals trivial
        clear hK K
        refine wpAnyH_take (i := 2) (v := ?_) (take_list rfl) (by kernel_rfl) (by kernel_rfl) (by kernel_rfl) (fun _ _ _ h => h) (Or.inl ⟨by rfl, ?_⟩) (by assumption) ?_
        rotate_left
        · intro w hSw
          try dsimp only at hSw
          first | (go_simp; done) | (go_simp; with_reducible rfl)
        try simp only [Act.put, List.setIfInBounds_toArray, List.set_cons_zero, List.set_cons_succ]
        refine wpAnyH_take (i := 3) (v := ?_) (take_list rfl) (by kernel_rfl) (by kernel_rfl) (by kernel_rfl) (fun _ _ _ h => h) (Or.inl ⟨by rfl, ?_⟩) (by assumption) ?_
        rotate_left
        · intro w hSw
          try dsimp only at hSw
          first | (go_simp; done) | (go_simp; with_reducible rfl)
        try simp only [Act.put, List.setIfInBounds_toArray, List.set_cons_zero, List.set_cons_succ]
        refine wpAnyH_take (i := 4) (v := ?_) (take_list rfl) (by kernel_rfl) (by kernel_rfl) (by kernel_rfl) (fun _ _ _ h => h) (Or.inl ⟨by rfl, ?_⟩) (by assumption) ?_
        rotate_left
        · intro w hSw
          try dsimp only at hSw
          first | (go_simp; done) | (go_simp; with_reducible rfl)
        try simp only [Act.put, List.setIfInBounds_toArray, List.set_cons_zero, List.set_cons_succ]
        refine wpAnyH_take (i := 5) (v := ?_) (take_list rfl) (by kernel_rfl) (by kernel_rfl) (by kernel_rfl) (fun _ _ _ h => h) (Or.inl ⟨by rfl, ?_⟩) (by assumption) ?_
        rotate_left
        · intro w hSw
          try dsimp only at hSw
          first | (go_simp; done) | (go_simp; with_reducible rfl)
        try simp only [Act.put, List.setIfInBounds_toArray, List.set_cons_zero, List.set_cons_succ]
        refine wpAnyH_take (i := 6) (v := ?_) (take_list rfl) (by kernel_rfl) (by kernel_rfl) (by kernel_rfl) (fun _ _ _ h => h) (Or.inl ⟨by rfl, ?_⟩) (by assumption) ?_
        rotate_left
        · intro w hSw
          try dsimp only at hSw
          first | (go_simp; done) | (go_simp; with_reducible rfl)
        try simp only [Act.put, List.setIfInBounds_toArray, List.set_cons_zero, List.set_cons_succ]
        refine wpAnyH_take (i := 7) (v := ?_) (take_list rfl) (by kernel_rfl) (by kernel_rfl) (by kernel_rfl) (fun _ _ _ h => h) (Or.inl ⟨by rfl, ?_⟩) (by assumption) ?_
        rotate_left
        · intro w hSw
          try dsimp only at hSw
          first | (go_simp; done) | (go_simp; with_reducible rfl)
        try simp only [Act.put, List.setIfInBounds_toArray, List.set_cons_zero, List.set_cons_succ]
        refine wpAnyH_take (i := 8) (v := undef) (take_list rfl) (by kernel_rfl) (by kernel_rfl) (by kernel_rfl) (fun _ _ _ h => h) (Or.inr ⟨by rfl, rfl⟩) (by assumption) ?_
        try simp only [Act.put, List.setIfInBounds_toArray, List.set_cons_zero, List.set_cons_succ]
        refine wpAnyH_take (i := 9) (v := undef) (take_list rfl) (by kernel_rfl) (by kernel_rfl) (by kernel_rfl) (fun _ _ _ h => h) (Or.inr ⟨by rfl, rfl⟩) (by assumption) ?_
        try simp only [Act.put, List.setIfInBounds_toArray, List.set_cons_zero, List.set_cons_succ]
        refine wpAnyH_take (i := 10) (v := undef) (take_list rfl) (by kernel_rfl) (by kernel_rfl) (by kernel_rfl) (fun _ _ _ h => h) (Or.inr ⟨by rfl, rfl⟩) (by assumption) ?_
        try simp only [Act.put, List.setIfInBounds_toArray, List.set_cons_zero, List.set_cons_succ]
        refine wpAnyH_take (i := 11) (v := undef) (take_list rfl) (by kernel_rfl) (by kernel_rfl) (by kernel_rfl) (fun _ _ _ h => h) (Or.inr ⟨by rfl, rfl⟩) (by assumption) ?_
        try simp only [Act.put, List.setIfInBounds_toArray, List.set_cons_zero, List.set_cons_succ]
        refine wpAnyH_take (i := 12) (v := undef) (take_list rfl) (by kernel_rfl) (by kernel_rfl) (by kernel_rfl) (fun _ _ _ h => h) (Or.inr ⟨by rfl, rfl⟩) (by assumption) ?_
        try simp only [Act.put, List.setIfInBounds_toArray, List.set_cons_zero, List.set_cons_succ]
        refine wpAnyH_take (i := 13) (v := ?_) (take_list rfl) (by kernel_rfl) (by kernel_rfl) (by kernel_rfl) (fun _ _ _ h => h) (Or.inl ⟨by rfl, ?_⟩) (by assumption) ?_
        rotate_left
        · intro w hSw
          try dsimp only at hSw
          first | (go_simp; done) | (go_simp; with_reducible rfl)
        try simp only [Act.put, List.setIfInBounds_toArray, List.set_cons_zero, List.set_cons_succ]
        refine wpAnyH_take (i := 14) (v := ?_) (take_list rfl) (by kernel_rfl) (by kernel_rfl) (by kernel_rfl) (fun _ _ _ h => h) (Or.inl ⟨by rfl, ?_⟩) (by assumption) ?_
        rotate_left
        · intro w hSw
          try dsimp only at hSw
          first | (go_simp; done) | (go_simp; with_reducible rfl)
        try simp only [Act.put, List.setIfInBounds_toArray, List.set_cons_zero, List.set_cons_succ]
        refine wpAnyH_take (i := 15) (v := undef) (take_list rfl) (by kernel_rfl) (by kernel_rfl) (by kernel_rfl) (fun _ _ _ h => h) (Or.inr ⟨by rfl, rfl⟩) (by assumption) ?_
        try simp only [Act.put, List.setIfInBounds_toArray, List.set_cons_zero, List.set_cons_succ]
        refine wpAnyH_take (i := 16) (v := undef) (take_list rfl) (by kernel_rfl) (by kernel_rfl) (by kernel_rfl) (fun _ _ _ h => h) (Or.inr ⟨by rfl, rfl⟩) (by assumption) ?_
        try simp only [Act.put, List.setIfInBounds_toArray, List.set_cons_zero, List.set_cons_succ]
        refine wpAnyH_take (i := 17) (v := undef) (take_list rfl) (by kernel_rfl) (by kernel_rfl) (by kernel_rfl) (fun _ _ _ h => h) (Or.inr ⟨by rfl, rfl⟩) (by assumption) ?_
        try simp only [Act.put, List.setIfInBounds_toArray, List.set_cons_zero, List.set_cons_succ]
        refine wpAnyH_take (i := 18) (v := undef) (take_list rfl) (by kernel_rfl) (by kernel_rfl) (by kernel_rfl) (fun _ _ _ h => h) (Or.inr ⟨by rfl, rfl⟩) (by assumption) ?_
        try simp only [Act.put, List.setIfInBounds_toArray, List.set_cons_zero, List.set_cons_succ]
        refine wpAnyH_take (i := 19) (v := undef) (take_list rfl) (by kernel_rfl) (by kernel_rfl) (by kernel_rfl) (fun _ _ _ h => h) (Or.inr ⟨by rfl, rfl⟩) (by assumption) ?_
        try simp only [Act.put, List.setIfInBounds_toArray, List.set_cons_zero, List.set_cons_succ]
        refine wpAnyH_take (i := 20) (v := undef) (take_list rfl) (by kernel_rfl) (by kernel_rfl) (by kernel_rfl) (fun _ _ _ h => h) (Or.inr ⟨by rfl, rfl⟩) (by assumption) ?_
        try simp only [Act.put, List.setIfInBounds_toArray, List.set_cons_zero, List.set_cons_succ]
        refine wpAnyH_take (i := 21) (v := undef) (take_list rfl) (by kernel_rfl) (by kernel_rfl) (by kernel_rfl) (fun _ _ _ h => h) (Or.inr ⟨by rfl, rfl⟩) (by assumption) ?_
        try simp only [Act.put, List.setIfInBounds_toArray, List.set_cons_zero, List.set_cons_succ]
        refine wpAnyH_take (i := 22) (v := undef) (take_list rfl) (by kernel_rfl) (by kernel_rfl) (by kernel_rfl) (fun _ _ _ h => h) (Or.inr ⟨by rfl, rfl⟩) (by assumption) ?_
        try simp only [Act.put, List.setIfInBounds_toArray, List.set_cons_zero, List.set_cons_succ]
        refine wpAnyH_take (i := 23) (v := undef) (take_list rfl) (by kernel_rfl) (by kernel_rfl) (by kernel_rfl) (fun _ _ _ h => h) (Or.inr ⟨by rfl, rfl⟩) (by assumption) ?_
        try simp only [Act.put, List.setIfInBounds_toArray, List.set_cons_zero, List.set_cons_succ]
        refine wpAnyH_take (i := 24) (v := undef) (take_list rfl) (by kernel_rfl) (by kernel_rfl) (by kernel_rfl) (fun _ _ _ h => h) (Or.inr ⟨by rfl, rfl⟩) (by assumption) ?_
        try simp only [Act.put, List.setIfInBounds_toArray, List.set_cons_zero, List.set_cons_succ]
        refine wpAnyH_take (i := 25) (v := undef) (take_list rfl) (by kernel_rfl) (by kernel_rfl) (by kernel_rfl) (fun _ _ _ h => h) (Or.inr ⟨by rfl, rfl⟩) (by assumption) ?_
        try simp only [Act.put, List.setIfInBounds_toArray, List.set_cons_zero, List.set_cons_succ]
        refine wpAnyH_take (i := 26) (v := undef) (take_list rfl) (by kernel_rfl) (by kernel_rfl) (by kernel_rfl) (fun _ _ _ h => h) (Or.inr ⟨by rfl, rfl⟩) (by assumption) ?_
        try simp only [Act.put, List.setIfInBounds_toArray, List.set_cons_zero, List.set_cons_succ]
        refine wpAnyH_take (i := 27) (v := undef) (take_list rfl) (by kernel_rfl) (by kernel_rfl) (by kernel_rfl) (fun _ _ _ h => h) (Or.inr ⟨by rfl, rfl⟩) (by assumption) ?_
        try simp only [Act.put, List.setIfInBounds_toArray, List.set_cons_zero, List.set_cons_succ]
        refine wpAnyH_take (i := 28) (v := ?_) (take_list rfl) (by kernel_rfl) (by kernel_rfl) (by kernel_rfl) (fun _ _ _ h => h) (Or.inl ⟨by rfl, ?_⟩) (by assumption) ?_
        rotate_left
        · intro w hSw
          try dsimp only at hSw
          first | (go_simp; done) | (go_simp; with_reducible rfl)
        try simp only [Act.put, List.setIfInBounds_toArray, List.set_cons_zero, List.set_cons_succ]
        refine wpAnyH_done (by kernel_rfl) ?_ _
        go_wp2
        go_ret2
        exact ⟨A3, c3, by rw [Hc.out, Hj.out, Hnl.out]; rfl, by rw [Hj.out]; exact HR3.out.ext (by repeat (first | exact hbx | apply ext_alloc | apply ext_drew | apply ext_drewN | exact Below.refl _ _)), ext_trans Hb3.out (by repeat (first | exact hbx | apply ext_alloc | apply ext_drew | apply ext_drewN | exact Below.refl _ _))⟩
      exact AllReadyH.nil
    · have hi0d : decide (i < 0) = false := decide_eq_false hi0
      have hi0e : (0 : Int) ≤ i := by omega
      by_cases hi3 : (n : Int) - 1 ≤ i
      · have hc : canJ l i = false := by unfold canJ; rw [HJe.out]; unfold joinsK; rw [decide_eq_false (show ¬ i.toNat + 1 < l.length by have := Hnl.out; omega)]; simp
        have hj : joinR l i id = l := by unfold joinR; rw [hc]; rfl
        have Hc := Lib.hid hc
        have Hj := Lib.hid hj
        clear hc hj
        go_wp2
        refine wp_region_held_drew (S := fun _ => True) (by kernel_rfl) ?_ (fun hHeld => ?_)
        · all_goals trivial
        refine wpAnyH_take (i := 0) (v := ?_) (take_list rfl) (by kernel_rfl) (by kernel_rfl) (by kernel_rfl) (fun _ _ _ h => h) (Or.inl ⟨by rfl, ?_⟩) (by assumption) ?_
        rotate_left
        · intro w hSw
          try dsimp only at hSw
          first | (go_simp; done) | (go_simp; with_reducible rfl)
        try simp only [Act.put, List.setIfInBounds_toArray, List.set_cons_zero, List.set_cons_succ]
        refine wpAnyH_ready (rs := [1]) (by kernel_rfl) (by simp) ?_
        refine AllReadyH.cons (take_list rfl) (fun K hK => ?_) ?_
        · skip
          go_simp
          refine (HI.out _ (by repeat (first | exact hbx | apply ext_alloc | apply ext_drew | apply ext_drewN | exact Below.refl _ _))).mono ?_
          rintro e xa ⟨rfl, hbx'⟩
          dsimp only
          have hbx : Below w3.heap.size w3 xa := ext_trans (by repeat (first | exact hbx | apply ext_alloc | apply ext_drew | apply ext_drewN | exact Below.refl _ _)) hbx'
          refine hK.out _ _ ?_ (fun hHeld => ?_)
          · try dsimp only
            all_goals trivial
          clear hK K
          refine wpAnyH_take (i := 2) (v := ?_) (take_list rfl) (by kernel_rfl) (by kernel_rfl) (by kernel_rfl) (fun _ _ _ h => h) (Or.inl ⟨by rfl, ?_⟩) (by assumption) ?_
          rotate_left
          · intro w hSw
            try dsimp only at hSw
            first | (go_simp; done) | (go_simp; with_reducible rfl)
          try simp only [Act.put, List.setIfInBounds_toArray, List.set_cons_zero, List.set_cons_succ]
          refine wpAnyH_take (i := 3) (v := ?_) (take_list rfl) (by kernel_rfl) (by kernel_rfl) (by kernel_rfl) (fun _ _ _ h => h) (Or.inl ⟨by rfl, ?_⟩) (by assumption) ?_
          rotate_left
          · intro w hSw
            try dsimp only at hSw
            first | (go_simp; done) | (go_simp; with_reducible rfl)
          try simp only [Act.put, List.setIfInBounds_toArray, List.set_cons_zero, List.set_cons_succ]
          refine wpAnyH_take (i := 4) (v := ?_) (take_list rfl) (by kernel_rfl) (by kernel_rfl) (by kernel_rfl) (fun _ _ _ h => h) (Or.inl ⟨by rfl, ?_⟩) (by assumption) ?_
          rotate_left
          · intro w hSw
            try dsimp only at hSw
            first | (go_simp; done) | (go_simp; with_reducible rfl)
          try simp only [Act.put, List.setIfInBounds_toArray, List.set_cons_zero, List.set_cons_succ]
          refine wpAnyH_take (i := 5) (v := ?_) (take_list rfl) (by kernel_rfl) (by kernel_rfl) (by kernel_rfl) (fun _ _ _ h => h) (Or.inl ⟨by rfl, ?_⟩) (by assumption) ?_
          rotate_left
          · intro w hSw
            try dsimp only at hSw
            first | (go_simp; done) | (go_simp; with_reducible rfl)
          try simp only [Act.put, List.setIfInBounds_toArray, List.set_cons_zero, List.set_cons_succ]
          refine wpAnyH_take (i := 6) (v := ?_) (take_list rfl) (by kernel_rfl) (by kernel_rfl) (by kernel_rfl) (fun _ _ _ h => h) (Or.inl ⟨by rfl, ?_⟩) (by assumption) ?_
          rotate_left
          · intro w hSw
            try dsimp only at hSw
            first | (go_simp; done) | (go_simp; with_reducible rfl)
          try simp only [Act.put, List.setIfInBounds_toArray, List.set_cons_zero, List.set_cons_succ]
          refine wpAnyH_take (i := 7) (v := ?_) (take_list rfl) (by kernel_rfl) (by kernel_rfl) (by kernel_rfl) (fun _ _ _ h => h) (Or.inl ⟨by rfl, ?_⟩) (by assumption) ?_
          rotate_left
          · intro w hSw
            try dsimp only at hSw
            first | (go_simp; done) | (go_simp; with_reducible rfl)
          try simp only [Act.put, List.setIfInBounds_toArray, List.set_cons_zero, List.set_cons_succ]
          refine wpAnyH_take (i := 8) (v := ?_) (take_list rfl) (by kernel_rfl) (by kernel_rfl) (by kernel_rfl) (fun _ _ _ h => h) (Or.inl ⟨by rfl, ?_⟩) (by assumption) ?_
          rotate_left
          · intro w hSw
            try dsimp only at hSw
            first | (go_simp; done) | (go_simp; with_reducible rfl)
          try simp only [Act.put, List.setIfInBounds_toArray, List.set_cons_zero, List.set_cons_succ]
          refine wpAnyH_take (i := 9) (v := ?_) (take_list rfl) (by kernel_rfl) (by kernel_rfl) (by kernel_rfl) (fun _ _ _ h => h) (Or.inl ⟨by rfl, ?_⟩) (by assumption) ?_
          rotate_left
          · intro w hSw
            try dsimp only at hSw
            first | (go_simp; done) | (go_simp; with_reducible rfl)
          try simp only [Act.put, List.setIfInBounds_toArray, List.set_cons_zero, List.set_cons_succ]
          refine wpAnyH_take (i := 10) (v := ?_) (take_list rfl) (by kernel_rfl) (by kernel_rfl) (by kernel_rfl) (fun _ _ _ h => h) (Or.inl ⟨by rfl, ?_⟩) (by assumption) ?_
          rotate_left
          · intro w hSw
            try dsimp only at hSw
            first | (go_simp; done) | (go_simp; with_reducible rfl)
          try simp only [Act.put, List.setIfInBounds_toArray, List.set_cons_zero, List.set_cons_succ]
          refine wpAnyH_take (i := 11) (v := ?_) (take_list rfl) (by kernel_rfl) (by kernel_rfl) (by kernel_rfl) (fun _ _ _ h => h) (Or.inl ⟨by rfl, ?_⟩) (by assumption) ?_
          rotate_left
          · intro w hSw
            try dsimp only at hSw
            first | (go_simp; done) | (go_simp; with_reducible rfl)
          try simp only [Act.put, List.setIfInBounds_toArray, List.set_cons_zero, List.set_cons_succ]
          refine wpAnyH_take (i := 12) (v := ?_) (take_list rfl) (by kernel_rfl) (by kernel_rfl) (by kernel_rfl) (fun _ _ _ h => h) (Or.inl ⟨by rfl, ?_⟩) (by assumption) ?_
          rotate_left
          · intro w hSw
            try dsimp only at hSw
            first | (go_simp; done) | (go_simp; with_reducible rfl)
          try simp only [Act.put, List.setIfInBounds_toArray, List.set_cons_zero, List.set_cons_succ]
          refine wpAnyH_take (i := 13) (v := ?_) (take_list rfl) (by kernel_rfl) (by kernel_rfl) (by kernel_rfl) (fun _ _ _ h => h) (Or.inl ⟨by rfl, ?_⟩) (by assumption) ?_
          rotate_left
          · intro w hSw
            try dsimp only at hSw
            first | (go_simp; done) | (go_simp; with_reducible rfl)
          try simp only [Act.put, List.setIfInBounds_toArray, List.set_cons_zero, List.set_cons_succ]
          refine wpAnyH_take (i := 14) (v := ?_) (take_list rfl) (by kernel_rfl) (by kernel_rfl) (by kernel_rfl) (fun _ _ _ h => h) (Or.inl ⟨by rfl, ?_⟩) (by assumption) ?_
          rotate_left
          · intro w hSw
            try dsimp only at hSw
            first | (go_simp; done) | (go_simp; with_reducible rfl)
          try simp only [Act.put, List.setIfInBounds_toArray, List.set_cons_zero, List.set_cons_succ]
          refine wpAnyH_take (i := 15) (v := undef) (take_list rfl) (by kernel_rfl) (by kernel_rfl) (by kernel_rfl) (fun _ _ _ h => h) (Or.inr ⟨by rfl, rfl⟩) (by assumption) ?_
          try simp only [Act.put, List.setIfInBounds_toArray, List.set_cons_zero, List.set_cons_succ]
          refine wpAnyH_take (i := 16) (v := undef) (take_list rfl) (by kernel_rfl) (by kernel_rfl) (by kernel_rfl) (fun _ _ _ h => h) (Or.inr ⟨by rfl, rfl⟩) (by assumption) ?_
          try simp only [Act.put, List.setIfInBounds_toArray, List.set_cons_zero, List.set_cons_succ]
          refine wpAnyH_take (i := 17) (v := undef) (take_list rfl) (by kernel_rfl) (by kernel_rfl) (by kernel_rfl) (fun _ _ _ h => h) (Or.inr ⟨by rfl, rfl⟩) (by assumption) ?_
          try simp only [Act.put, List.setIfInBounds_toArray, List.set_cons_zero, List.set_cons_succ]
          refine wpAnyH_take (i := 18) (v := undef) (take_list rfl) (by kernel_rfl) (by kernel_rfl) (by kernel_rfl) (fun _ _ _ h => h) (Or.inr ⟨by rfl, rfl⟩) (by assumption) ?_
          try simp only [Act.put, List.setIfInBounds_toArray, List.set_cons_zero, List.set_cons_succ]
          refine wpAnyH_take (i := 19) (v := undef) (take_list rfl) (by kernel_rfl) (by kernel_rfl) (by kernel_rfl) (fun _ _ _ h => h) (Or.inr ⟨by rfl, rfl⟩) (by assumption) ?_
          try simp only [Act.put, List.setIfInBounds_toArray, List.set_cons_zero, List.set_cons_succ]
          refine wpAnyH_take (i := 20) (v := undef) (take_list rfl) (by kernel_rfl) (by kernel_rfl) (by kernel_rfl) (fun _ _ _ h => h) (Or.inr ⟨by rfl, rfl⟩) (by assumption) ?_
          try simp only [Act.put, List.setIfInBounds_toArray, List.set_cons_zero, List.set_cons_succ]
          refine wpAnyH_take (i := 21) (v := undef) (take_list rfl) (by kernel_rfl) (by kernel_rfl) (by kernel_rfl) (fun _ _ _ h => h) (Or.inr ⟨by rfl, rfl⟩) (by assumption) ?_
          try simp only [Act.put, List.setIfInBounds_toArray, List.set_cons_zero, List.set_cons_succ]
          refine wpAnyH_take (i := 22) (v := undef) (take_list rfl) (by kernel_rfl) (by kernel_rfl) (by kernel_rfl) (fun _ _ _ h => h) (Or.inr ⟨by rfl, rfl⟩) (by assumption) ?_
          try simp only [Act.put, List.setIfInBounds_toArray, List.set_cons_zero, List.set_cons_succ]
          refine wpAnyH_take (i := 23) (v := undef) (take_list rfl) (by kernel_rfl) (by kernel_rfl) (by kernel_rfl) (fun _ _ _ h => h) (Or.inr ⟨by rfl, rfl⟩) (by assumption) ?_
          try simp only [Act.put, List.setIfInBounds_toArray, List.set_cons_zero, List.set_cons_succ]
          refine wpAnyH_take (i := 24) (v := undef) (take_list rfl) (by kernel_rfl) (by kernel_rfl) (by kernel_rfl) (fun _ _ _ h => h) (Or.inr ⟨by rfl, rfl⟩) (by assumption) ?_
          try simp only [Act.put, List.setIfInBounds_toArray, List.set_cons_zero, List.set_cons_succ]
          refine wpAnyH_take (i := 25) (v := undef) (take_list rfl) (by kernel_rfl) (by kernel_rfl) (by kernel_rfl) (fun _ _ _ h => h) (Or.inr ⟨by rfl, rfl⟩) (by assumption) ?_
          try simp only [Act.put, List.setIfInBounds_toArray, List.set_cons_zero, List.set_cons_succ]
          refine wpAnyH_take (i := 26) (v := undef) (take_list rfl) (by kernel_rfl) (by kernel_rfl) (by kernel_rfl) (fun _ _ _ h => h) (Or.inr ⟨by rfl, rfl⟩) (by assumption) ?_
          try simp only [Act.put, List.setIfInBounds_toArray, List.set_cons_zero, List.set_cons_succ]
          refine wpAnyH_take (i := 27) (v := undef) (take_list rfl) (by kernel_rfl) (by kernel_rfl) (by kernel_rfl) (fun _ _ _ h => h) (Or.inr ⟨by rfl, rfl⟩) (by assumption) ?_
          try simp only [Act.put, List.setIfInBounds_toArray, List.set_cons_zero, List.set_cons_succ]
          refine wpAnyH_take (i := 28) (v := ?_) (take_list rfl) (by kernel_rfl) (by kernel_rfl) (by kernel_rfl) (fun _ _ _ h => h) (Or.inl ⟨by rfl, ?_⟩) (by assumption) ?_
          rotate_left
          · intro w hSw
            try dsimp only at hSw
            first | (go_simp; done) | (go_simp; with_reducible rfl)
          try simp only [Act.put, List.setIfInBounds_toArray, List.set_cons_zero, List.set_cons_succ]
          refine wpAnyH_done (by kernel_rfl) ?_ _
          go_wp2
          go_ret2
          exact ⟨A3, c3, by rw [Hc.out, Hj.out, Hnl.out]; rfl, by rw [Hj.out]; exact HR3.out.ext (by repeat (first | exact hbx | apply ext_alloc | apply ext_drew | apply ext_drewN | exact Below.refl _ _)), ext_trans Hb3.out (by repeat (first | exact hbx | apply ext_alloc | apply ext_drew | apply ext_drewN | exact Below.refl _ _))⟩
        exact AllReadyH.nil
      · have hi3d : decide ((n : Int) - 1 ≤ i) = false := decide_eq_false hi3
        have hi3e : i < (n : Int) - 1 := by omega
        obtain ⟨k, rfl⟩ : ∃ k : Nat, i = (k : Int) := ⟨i.toNat, by omega⟩
        rw [Int.toNat_natCast] at HJe
        have hk1 : k + 1 < n := by omega
        have ht := isS_tog HIe.out k (by rw [Hnl.out]; exact hk1)
        obtain ⟨g, o, rfl, -, x1, x2⟩ := Hs3.out.at_ (k := k) (by rw [Hnl.out]; omega)
        obtain ⟨g', o', e, -, -, y2⟩ := Hs3.out.at_ (k := k + 1) (by rw [Hnl.out]; exact hk1)
        injection e with e
        injection e with e1 e2 _
        subst e1 e2
        have htog : togS l k = (l.getD k spZ).count + (l.getD (k + 1) spZ).count := rfl
        have hjk : joinsK l k = decide (togS l k ≤ 512) := by unfold joinsK; rw [Hnl.out, decide_eq_true hk1, Bool.true_and]
        have hone : oneS l k id = ⟨id, (l.getD k spZ).first, togS l k⟩ := rfl
        obtain ⟨fi, hfi⟩ : ∃ fi, (l.getD k spZ).first = fi := ⟨_, rfl⟩
        obtain ⟨a, ha⟩ : ∃ a, (l.getD k spZ).count = a := ⟨_, rfl⟩
        obtain ⟨b, hb⟩ : ∃ b, (l.getD (k + 1) spZ).count = b := ⟨_, rfl⟩
        rw [hfi] at x1 hone
        rw [ha] at x2 htog
        rw [hb] at y2 htog
        rw [htog] at ht hjk hone
        unfold isInt at ht
        have ht1 := ht.1
        have ht2 := ht.2
        have hwt : IntKind.i64.wrap (a + b) = a + b := by rw [IntKind.wrap_i64]; omega
        have hwk1 : IntKind.i64.wrap ((k : Int) + 1) = (k : Int) + 1 := by rw [IntKind.wrap_i64]; omega
        have hwk2 : IntKind.i64.wrap ((k : Int) + 2) = (k : Int) + 2 := by rw [IntKind.wrap_i64]; omega
        have hkn : ((k : Int) + 1).toNat = k + 1 := by omega
        have hkn2 : ((k : Int) + 2).toNat = k + 2 := by omega
        have hkl : (k : Int) < (n : Int) := by omega
        have hkl1 : (k : Int) + 1 < (n : Int) := by omega
        have hkl0 : (0 : Int) ≤ (k : Int) + 1 := by omega
        have hgl : g < w3.heap.size := World.block_lt_of_cell? w3 _ x1
        have HSS : Hid (∀ W, Below w3.heap.size w3 W → (W.cell? ⟨g, o + k * 3 + 1, none⟩ = some (.int .i64 fi) ∧ W.cell? ⟨g, o + k * 3 + 2, none⟩ = some (.int .i64 a) ∧ W.cell? ⟨g, o + (k + 1) * 3 + 2, none⟩ = some (.int .i64 b))) := Lib.hid fun W hW => by
          have hk1 : ∀ j, W.cell? ⟨g, j, none⟩ = w3.cell? ⟨g, j, none⟩ := fun j => World.cell?_of_block (a := ⟨g, j, none⟩) (hW.block g hgl)
          exact ⟨(hk1 _).trans x1, (hk1 _).trans x2, (hk1 _).trans y2⟩
        have Hjk := Lib.hid hjk
        have Hone := Lib.hid hone
        clear hfi ha hb htog hjk hone x1 x2 y2 ht
        by_cases h5 : 512 < a + b
        · have hc : canJ l (k : Int) = false := by unfold canJ; rw [joinsI_nat, Hjk.out, decide_eq_false (by omega), Bool.and_false]
          have hj : joinR l (k : Int) id = l := by unfold joinR; rw [hc]; rfl
          have Hc := Lib.hid hc
          have Hj := Lib.hid hj
          clear hc hj
          go_wp2
          refine wp_region_held_drew (S := fun W => W.cell? ⟨g, o + k * 3 + 1, none⟩ = some (.int .i64 fi) ∧ W.cell? ⟨g, o + k * 3 + 2, none⟩ = some (.int .i64 a) ∧ W.cell? ⟨g, o + (k + 1) * 3 + 2, none⟩ = some (.int .i64 b)) (by kernel_rfl) ?_ (fun hHeld => ?_)
          · exact HSS.out _ (by repeat (first | exact hbx | apply ext_alloc | apply ext_drew | apply ext_drewN | exact Below.refl _ _))
          refine wpAnyH_take (i := 0) (v := ?_) (take_list rfl) (by kernel_rfl) (by kernel_rfl) (by kernel_rfl) (fun _ _ _ h => h) (Or.inl ⟨by rfl, ?_⟩) (by assumption) ?_
          rotate_left
          · intro w hSw
            try dsimp only at hSw
            first | (go_simp; done) | (go_simp; with_reducible rfl)
          try simp only [Act.put, List.setIfInBounds_toArray, List.set_cons_zero, List.set_cons_succ]
          refine wpAnyH_ready (rs := [1]) (by kernel_rfl) (by simp) ?_
          refine AllReadyH.cons (take_list rfl) (fun K hK => ?_) ?_
          · skip
            go_simp
            refine (HI.out _ (by repeat (first | exact hbx | apply ext_alloc | apply ext_drew | apply ext_drewN | exact Below.refl _ _))).mono ?_
            rintro e xa ⟨rfl, hbx'⟩
            dsimp only
            have hbx : Below w3.heap.size w3 xa := ext_trans (by repeat (first | exact hbx | apply ext_alloc | apply ext_drew | apply ext_drewN | exact Below.refl _ _)) hbx'
            refine hK.out _ _ ?_ (fun hHeld => ?_)
            · try dsimp only
              exact HSS.out _ (by repeat (first | exact hbx | apply ext_alloc | apply ext_drew | apply ext_drewN | exact Below.refl _ _))
            clear hK K
            refine wpAnyH_take (i := 2) (v := ?_) (take_list rfl) (by kernel_rfl) (by kernel_rfl) (by kernel_rfl) (fun _ _ _ h => h) (Or.inl ⟨by rfl, ?_⟩) (by assumption) ?_
            rotate_left
            · intro w hSw
              try dsimp only at hSw
              first | (go_simp; done) | (go_simp; with_reducible rfl)
            try simp only [Act.put, List.setIfInBounds_toArray, List.set_cons_zero, List.set_cons_succ]
            refine wpAnyH_take (i := 3) (v := ?_) (take_list rfl) (by kernel_rfl) (by kernel_rfl) (by kernel_rfl) (fun _ _ _ h => h) (Or.inl ⟨by rfl, ?_⟩) (by assumption) ?_
            rotate_left
            · intro w hSw
              try dsimp only at hSw
              first | (go_simp; done) | (go_simp; with_reducible rfl)
            try simp only [Act.put, List.setIfInBounds_toArray, List.set_cons_zero, List.set_cons_succ]
            refine wpAnyH_take (i := 4) (v := ?_) (take_list rfl) (by kernel_rfl) (by kernel_rfl) (by kernel_rfl) (fun _ _ _ h => h) (Or.inl ⟨by rfl, ?_⟩) (by assumption) ?_
            rotate_left
            · intro w hSw
              try dsimp only at hSw
              first | (go_simp; done) | (go_simp; with_reducible rfl)
            try simp only [Act.put, List.setIfInBounds_toArray, List.set_cons_zero, List.set_cons_succ]
            refine wpAnyH_take (i := 5) (v := ?_) (take_list rfl) (by kernel_rfl) (by kernel_rfl) (by kernel_rfl) (fun _ _ _ h => h) (Or.inl ⟨by rfl, ?_⟩) (by assumption) ?_
            rotate_left
            · intro w hSw
              try dsimp only at hSw
              first | (go_simp; done) | (go_simp; with_reducible rfl)
            try simp only [Act.put, List.setIfInBounds_toArray, List.set_cons_zero, List.set_cons_succ]
            refine wpAnyH_take (i := 6) (v := ?_) (take_list rfl) (by kernel_rfl) (by kernel_rfl) (by kernel_rfl) (fun _ _ _ h => h) (Or.inl ⟨by rfl, ?_⟩) (by assumption) ?_
            rotate_left
            · intro w hSw
              try dsimp only at hSw
              first | (go_simp; done) | (go_simp; with_reducible rfl)
            try simp only [Act.put, List.setIfInBounds_toArray, List.set_cons_zero, List.set_cons_succ]
            refine wpAnyH_take (i := 7) (v := ?_) (take_list rfl) (by kernel_rfl) (by kernel_rfl) (by kernel_rfl) (fun _ _ _ h => h) (Or.inl ⟨by rfl, ?_⟩) (by assumption) ?_
            rotate_left
            · intro w hSw
              try dsimp only at hSw
              first | (go_simp; done) | (go_simp; with_reducible rfl)
            try simp only [Act.put, List.setIfInBounds_toArray, List.set_cons_zero, List.set_cons_succ]
            refine wpAnyH_take (i := 8) (v := ?_) (take_list rfl) (by kernel_rfl) (by kernel_rfl) (by kernel_rfl) (fun _ _ _ h => h) (Or.inl ⟨by rfl, ?_⟩) (by assumption) ?_
            rotate_left
            · intro w hSw
              try dsimp only at hSw
              first | (go_simp; done) | (go_simp; with_reducible rfl)
            try simp only [Act.put, List.setIfInBounds_toArray, List.set_cons_zero, List.set_cons_succ]
            refine wpAnyH_take (i := 9) (v := ?_) (take_list rfl) (by kernel_rfl) (by kernel_rfl) (by kernel_rfl) (fun _ _ _ h => h) (Or.inl ⟨by rfl, ?_⟩) (by assumption) ?_
            rotate_left
            · intro w hSw
              try dsimp only at hSw
              first | (go_simp; done) | (go_simp; with_reducible rfl)
            try simp only [Act.put, List.setIfInBounds_toArray, List.set_cons_zero, List.set_cons_succ]
            refine wpAnyH_take (i := 10) (v := ?_) (take_list rfl) (by kernel_rfl) (by kernel_rfl) (by kernel_rfl) (fun _ _ _ h => h) (Or.inl ⟨by rfl, ?_⟩) (by assumption) ?_
            rotate_left
            · intro w hSw
              try dsimp only at hSw
              first | (go_simp; done) | (go_simp; with_reducible rfl)
            try simp only [Act.put, List.setIfInBounds_toArray, List.set_cons_zero, List.set_cons_succ]
            refine wpAnyH_take (i := 11) (v := ?_) (take_list rfl) (by kernel_rfl) (by kernel_rfl) (by kernel_rfl) (fun _ _ _ h => h) (Or.inl ⟨by rfl, ?_⟩) (by assumption) ?_
            rotate_left
            · intro w hSw
              try dsimp only at hSw
              first | (go_simp; done) | (go_simp; with_reducible rfl)
            try simp only [Act.put, List.setIfInBounds_toArray, List.set_cons_zero, List.set_cons_succ]
            refine wpAnyH_take (i := 12) (v := ?_) (take_list rfl) (by kernel_rfl) (by kernel_rfl) (by kernel_rfl) (fun _ _ _ h => h) (Or.inl ⟨by rfl, ?_⟩) (by assumption) ?_
            rotate_left
            · intro w hSw
              try dsimp only at hSw
              first | (go_simp; done) | (go_simp; with_reducible rfl)
            try simp only [Act.put, List.setIfInBounds_toArray, List.set_cons_zero, List.set_cons_succ]
            refine wpAnyH_take (i := 13) (v := ?_) (take_list rfl) (by kernel_rfl) (by kernel_rfl) (by kernel_rfl) (fun _ _ _ h => h) (Or.inl ⟨by rfl, ?_⟩) (by assumption) ?_
            rotate_left
            · intro w hSw
              try dsimp only at hSw
              first | (go_simp; done) | (go_simp; with_reducible rfl)
            try simp only [Act.put, List.setIfInBounds_toArray, List.set_cons_zero, List.set_cons_succ]
            refine wpAnyH_take (i := 14) (v := ?_) (take_list rfl) (by kernel_rfl) (by kernel_rfl) (by kernel_rfl) (fun _ _ _ h => h) (Or.inl ⟨by rfl, ?_⟩) (by assumption) ?_
            rotate_left
            · intro w hSw
              try dsimp only at hSw
              first | (go_simp; done) | (go_simp; with_reducible rfl)
            try simp only [Act.put, List.setIfInBounds_toArray, List.set_cons_zero, List.set_cons_succ]
            refine wpAnyH_take (i := 15) (v := ?_) (take_list rfl) (by kernel_rfl) (by kernel_rfl) (by kernel_rfl) (fun _ _ _ h => h) (Or.inl ⟨by rfl, ?_⟩) (by assumption) ?_
            rotate_left
            · intro w hSw
              try dsimp only at hSw
              first | (go_simp; done) | (go_simp; with_reducible rfl)
            try simp only [Act.put, List.setIfInBounds_toArray, List.set_cons_zero, List.set_cons_succ]
            refine wpAnyH_take (i := 16) (v := ?_) (take_list rfl) (by kernel_rfl) (by kernel_rfl) (by kernel_rfl) (fun _ _ _ h => h) (Or.inl ⟨by rfl, ?_⟩) (by assumption) ?_
            rotate_left
            · intro w hSw
              try dsimp only at hSw
              first | (go_simp; done) | (go_simp; with_reducible rfl)
            try simp only [Act.put, List.setIfInBounds_toArray, List.set_cons_zero, List.set_cons_succ]
            refine wpAnyH_take (i := 17) (v := ?_) (take_list rfl) (by kernel_rfl) (by kernel_rfl) (by kernel_rfl) (fun _ _ _ h => h) (Or.inl ⟨by rfl, ?_⟩) (by assumption) ?_
            rotate_left
            · intro w hSw
              try dsimp only at hSw
              first | (go_simp; done) | (go_simp; with_reducible rfl)
            try simp only [Act.put, List.setIfInBounds_toArray, List.set_cons_zero, List.set_cons_succ]
            refine wpAnyH_take (i := 18) (v := ?_) (take_list rfl) (by kernel_rfl) (by kernel_rfl) (by kernel_rfl) (fun _ _ _ h => h) (Or.inl ⟨by rfl, ?_⟩) (by assumption) ?_
            rotate_left
            · intro w hSw
              try dsimp only at hSw
              first | (go_simp; done) | (go_simp; with_reducible rfl)
            try simp only [Act.put, List.setIfInBounds_toArray, List.set_cons_zero, List.set_cons_succ]
            refine wpAnyH_take (i := 19) (v := ?_) (take_list rfl) (by kernel_rfl) (by kernel_rfl) (by kernel_rfl) (fun _ _ _ h => h) (Or.inl ⟨by rfl, ?_⟩) (by assumption) ?_
            rotate_left
            · intro w hSw
              try dsimp only at hSw
              first | (go_simp; done) | (go_simp; with_reducible rfl)
            try simp only [Act.put, List.setIfInBounds_toArray, List.set_cons_zero, List.set_cons_succ]
            refine wpAnyH_take (i := 20) (v := ?_) (take_list rfl) (by kernel_rfl) (by kernel_rfl) (by kernel_rfl) (fun _ _ _ h => h) (Or.inl ⟨by rfl, ?_⟩) (by assumption) ?_
            rotate_left
            · intro w hSw
              try dsimp only at hSw
              first | (go_simp; done) | (go_simp; with_reducible rfl)
            try simp only [Act.put, List.setIfInBounds_toArray, List.set_cons_zero, List.set_cons_succ]
            refine wpAnyH_take (i := 21) (v := ?_) (take_list rfl) (by kernel_rfl) (by kernel_rfl) (by kernel_rfl) (fun _ _ _ h => h) (Or.inl ⟨by rfl, ?_⟩) (by assumption) ?_
            rotate_left
            · intro w hSw
              try dsimp only at hSw
              first | (go_simp; done) | (go_simp; with_reducible rfl)
            try simp only [Act.put, List.setIfInBounds_toArray, List.set_cons_zero, List.set_cons_succ]
            refine wpAnyH_take (i := 22) (v := ?_) (take_list rfl) (by kernel_rfl) (by kernel_rfl) (by kernel_rfl) (fun _ _ _ h => h) (Or.inl ⟨by rfl, ?_⟩) (by assumption) ?_
            rotate_left
            · intro w hSw
              try dsimp only at hSw
              first | (go_simp; done) | (go_simp; with_reducible rfl)
            try simp only [Act.put, List.setIfInBounds_toArray, List.set_cons_zero, List.set_cons_succ]
            refine wpAnyH_take (i := 23) (v := ?_) (take_list rfl) (by kernel_rfl) (by kernel_rfl) (by kernel_rfl) (fun _ _ _ h => h) (Or.inl ⟨by rfl, ?_⟩) (by assumption) ?_
            rotate_left
            · intro w hSw
              try dsimp only at hSw
              first | (go_simp; done) | (go_simp; with_reducible rfl)
            try simp only [Act.put, List.setIfInBounds_toArray, List.set_cons_zero, List.set_cons_succ]
            refine wpAnyH_take (i := 24) (v := ?_) (take_list rfl) (by kernel_rfl) (by kernel_rfl) (by kernel_rfl) (fun _ _ _ h => h) (Or.inl ⟨by rfl, ?_⟩) (by assumption) ?_
            rotate_left
            · intro w hSw
              try dsimp only at hSw
              first | (go_simp; done) | (go_simp; with_reducible rfl)
            try simp only [Act.put, List.setIfInBounds_toArray, List.set_cons_zero, List.set_cons_succ]
            refine wpAnyH_take (i := 25) (v := ?_) (take_list rfl) (by kernel_rfl) (by kernel_rfl) (by kernel_rfl) (fun _ _ _ h => h) (Or.inl ⟨by rfl, ?_⟩) (by assumption) ?_
            rotate_left
            · intro w hSw
              try dsimp only at hSw
              first | (go_simp; done) | (go_simp; with_reducible rfl)
            try simp only [Act.put, List.setIfInBounds_toArray, List.set_cons_zero, List.set_cons_succ]
            refine wpAnyH_take (i := 26) (v := ?_) (take_list rfl) (by kernel_rfl) (by kernel_rfl) (by kernel_rfl) (fun _ _ _ h => h) (Or.inl ⟨by rfl, ?_⟩) (by assumption) ?_
            rotate_left
            · intro w hSw
              try dsimp only at hSw
              first | (go_simp; done) | (go_simp; with_reducible rfl)
            try simp only [Act.put, List.setIfInBounds_toArray, List.set_cons_zero, List.set_cons_succ]
            refine wpAnyH_take (i := 27) (v := ?_) (take_list rfl) (by kernel_rfl) (by kernel_rfl) (by kernel_rfl) (fun _ _ _ h => h) (Or.inl ⟨by rfl, ?_⟩) (by assumption) ?_
            rotate_left
            · intro w hSw
              try dsimp only at hSw
              first | (go_simp; done) | (go_simp; with_reducible rfl)
            try simp only [Act.put, List.setIfInBounds_toArray, List.set_cons_zero, List.set_cons_succ]
            refine wpAnyH_take (i := 28) (v := ?_) (take_list rfl) (by kernel_rfl) (by kernel_rfl) (by kernel_rfl) (fun _ _ _ h => h) (Or.inl ⟨by rfl, ?_⟩) (by assumption) ?_
            rotate_left
            · intro w hSw
              try dsimp only at hSw
              first | (go_simp; done) | (go_simp; with_reducible rfl)
            try simp only [Act.put, List.setIfInBounds_toArray, List.set_cons_zero, List.set_cons_succ]
            refine wpAnyH_done (by kernel_rfl) ?_ _
            go_wp2
            go_ret2
            exact ⟨A3, c3, by rw [Hc.out, Hj.out, Hnl.out]; rfl, by rw [Hj.out]; exact HR3.out.ext (by repeat (first | exact hbx | apply ext_alloc | apply ext_drew | apply ext_drewN | exact Below.refl _ _)), ext_trans Hb3.out (by repeat (first | exact hbx | apply ext_alloc | apply ext_drew | apply ext_drewN | exact Below.refl _ _))⟩
          exact AllReadyH.nil
        · have h5d : decide (512 < a + b) = false := decide_eq_false h5
          have h5e : a + b ≤ 512 := by omega
          have hc : canJ l (k : Int) = true := by unfold canJ; rw [HIe.out, joinsI_nat, Hjk.out, decide_eq_true h5e]; rfl
          have hj : joinR l (k : Int) id = putS l k ⟨id, fi, a + b⟩ := by unfold joinR; rw [hc, Int.toNat_natCast, ← Hone.out]; rfl
          have Hc := Lib.hid hc
          have Hj := Lib.hid hj
          clear hc hj
          go_wp2
          refine wp_region_held_drew (S := fun W => W.cell? ⟨g, o + k * 3 + 1, none⟩ = some (.int .i64 fi) ∧ W.cell? ⟨g, o + k * 3 + 2, none⟩ = some (.int .i64 a) ∧ W.cell? ⟨g, o + (k + 1) * 3 + 2, none⟩ = some (.int .i64 b)) (by kernel_rfl) ?_ (fun hHeld => ?_)
          · exact HSS.out _ (by repeat (first | exact hbx | apply ext_alloc | apply ext_drew | apply ext_drewN | exact Below.refl _ _))
          refine wpAnyH_take (i := 0) (v := ?_) (take_list rfl) (by kernel_rfl) (by kernel_rfl) (by kernel_rfl) (fun _ _ _ h => h) (Or.inl ⟨by rfl, ?_⟩) (by assumption) ?_
          rotate_left
          · intro w hSw
            try dsimp only at hSw
            first | (go_simp; done) | (go_simp; with_reducible rfl)
          try simp only [Act.put, List.setIfInBounds_toArray, List.set_cons_zero, List.set_cons_succ]
          refine wpAnyH_ready (rs := [1]) (by kernel_rfl) (by simp) ?_
          refine AllReadyH.cons (take_list rfl) (fun K hK => ?_) ?_
          · skip
            go_simp
            refine (HI.out _ (by repeat (first | exact hbx | apply ext_alloc | apply ext_drew | apply ext_drewN | exact Below.refl _ _))).mono ?_
            rintro e xa ⟨rfl, hbx'⟩
            dsimp only
            have hbx : Below w3.heap.size w3 xa := ext_trans (by repeat (first | exact hbx | apply ext_alloc | apply ext_drew | apply ext_drewN | exact Below.refl _ _)) hbx'
            refine hK.out _ _ ?_ (fun hHeld => ?_)
            · try dsimp only
              exact HSS.out _ (by repeat (first | exact hbx | apply ext_alloc | apply ext_drew | apply ext_drewN | exact Below.refl _ _))
            clear hK K
            refine wpAnyH_take (i := 2) (v := ?_) (take_list rfl) (by kernel_rfl) (by kernel_rfl) (by kernel_rfl) (fun _ _ _ h => h) (Or.inl ⟨by rfl, ?_⟩) (by assumption) ?_
            rotate_left
            · intro w hSw
              try dsimp only at hSw
              first | (go_simp; done) | (go_simp; with_reducible rfl)
            try simp only [Act.put, List.setIfInBounds_toArray, List.set_cons_zero, List.set_cons_succ]
            refine wpAnyH_take (i := 3) (v := ?_) (take_list rfl) (by kernel_rfl) (by kernel_rfl) (by kernel_rfl) (fun _ _ _ h => h) (Or.inl ⟨by rfl, ?_⟩) (by assumption) ?_
            rotate_left
            · intro w hSw
              try dsimp only at hSw
              first | (go_simp; done) | (go_simp; with_reducible rfl)
            try simp only [Act.put, List.setIfInBounds_toArray, List.set_cons_zero, List.set_cons_succ]
            refine wpAnyH_take (i := 4) (v := ?_) (take_list rfl) (by kernel_rfl) (by kernel_rfl) (by kernel_rfl) (fun _ _ _ h => h) (Or.inl ⟨by rfl, ?_⟩) (by assumption) ?_
            rotate_left
            · intro w hSw
              try dsimp only at hSw
              first | (go_simp; done) | (go_simp; with_reducible rfl)
            try simp only [Act.put, List.setIfInBounds_toArray, List.set_cons_zero, List.set_cons_succ]
            refine wpAnyH_take (i := 5) (v := ?_) (take_list rfl) (by kernel_rfl) (by kernel_rfl) (by kernel_rfl) (fun _ _ _ h => h) (Or.inl ⟨by rfl, ?_⟩) (by assumption) ?_
            rotate_left
            · intro w hSw
              try dsimp only at hSw
              first | (go_simp; done) | (go_simp; with_reducible rfl)
            try simp only [Act.put, List.setIfInBounds_toArray, List.set_cons_zero, List.set_cons_succ]
            refine wpAnyH_take (i := 6) (v := ?_) (take_list rfl) (by kernel_rfl) (by kernel_rfl) (by kernel_rfl) (fun _ _ _ h => h) (Or.inl ⟨by rfl, ?_⟩) (by assumption) ?_
            rotate_left
            · intro w hSw
              try dsimp only at hSw
              first | (go_simp; done) | (go_simp; with_reducible rfl)
            try simp only [Act.put, List.setIfInBounds_toArray, List.set_cons_zero, List.set_cons_succ]
            refine wpAnyH_take (i := 7) (v := ?_) (take_list rfl) (by kernel_rfl) (by kernel_rfl) (by kernel_rfl) (fun _ _ _ h => h) (Or.inl ⟨by rfl, ?_⟩) (by assumption) ?_
            rotate_left
            · intro w hSw
              try dsimp only at hSw
              first | (go_simp; done) | (go_simp; with_reducible rfl)
            try simp only [Act.put, List.setIfInBounds_toArray, List.set_cons_zero, List.set_cons_succ]
            refine wpAnyH_take (i := 8) (v := ?_) (take_list rfl) (by kernel_rfl) (by kernel_rfl) (by kernel_rfl) (fun _ _ _ h => h) (Or.inl ⟨by rfl, ?_⟩) (by assumption) ?_
            rotate_left
            · intro w hSw
              try dsimp only at hSw
              first | (go_simp; done) | (go_simp; with_reducible rfl)
            try simp only [Act.put, List.setIfInBounds_toArray, List.set_cons_zero, List.set_cons_succ]
            refine wpAnyH_take (i := 9) (v := ?_) (take_list rfl) (by kernel_rfl) (by kernel_rfl) (by kernel_rfl) (fun _ _ _ h => h) (Or.inl ⟨by rfl, ?_⟩) (by assumption) ?_
            rotate_left
            · intro w hSw
              try dsimp only at hSw
              first | (go_simp; done) | (go_simp; with_reducible rfl)
            try simp only [Act.put, List.setIfInBounds_toArray, List.set_cons_zero, List.set_cons_succ]
            refine wpAnyH_take (i := 10) (v := ?_) (take_list rfl) (by kernel_rfl) (by kernel_rfl) (by kernel_rfl) (fun _ _ _ h => h) (Or.inl ⟨by rfl, ?_⟩) (by assumption) ?_
            rotate_left
            · intro w hSw
              try dsimp only at hSw
              first | (go_simp; done) | (go_simp; with_reducible rfl)
            try simp only [Act.put, List.setIfInBounds_toArray, List.set_cons_zero, List.set_cons_succ]
            refine wpAnyH_take (i := 11) (v := ?_) (take_list rfl) (by kernel_rfl) (by kernel_rfl) (by kernel_rfl) (fun _ _ _ h => h) (Or.inl ⟨by rfl, ?_⟩) (by assumption) ?_
            rotate_left
            · intro w hSw
              try dsimp only at hSw
              first | (go_simp; done) | (go_simp; with_reducible rfl)
            try simp only [Act.put, List.setIfInBounds_toArray, List.set_cons_zero, List.set_cons_succ]
            refine wpAnyH_take (i := 12) (v := ?_) (take_list rfl) (by kernel_rfl) (by kernel_rfl) (by kernel_rfl) (fun _ _ _ h => h) (Or.inl ⟨by rfl, ?_⟩) (by assumption) ?_
            rotate_left
            · intro w hSw
              try dsimp only at hSw
              first | (go_simp; done) | (go_simp; with_reducible rfl)
            try simp only [Act.put, List.setIfInBounds_toArray, List.set_cons_zero, List.set_cons_succ]
            refine wpAnyH_take (i := 13) (v := ?_) (take_list rfl) (by kernel_rfl) (by kernel_rfl) (by kernel_rfl) (fun _ _ _ h => h) (Or.inl ⟨by rfl, ?_⟩) (by assumption) ?_
            rotate_left
            · intro w hSw
              try dsimp only at hSw
              first | (go_simp; done) | (go_simp; with_reducible rfl)
            try simp only [Act.put, List.setIfInBounds_toArray, List.set_cons_zero, List.set_cons_succ]
            refine wpAnyH_take (i := 14) (v := ?_) (take_list rfl) (by kernel_rfl) (by kernel_rfl) (by kernel_rfl) (fun _ _ _ h => h) (Or.inl ⟨by rfl, ?_⟩) (by assumption) ?_
            rotate_left
            · intro w hSw
              try dsimp only at hSw
              first | (go_simp; done) | (go_simp; with_reducible rfl)
            try simp only [Act.put, List.setIfInBounds_toArray, List.set_cons_zero, List.set_cons_succ]
            refine wpAnyH_take (i := 15) (v := ?_) (take_list rfl) (by kernel_rfl) (by kernel_rfl) (by kernel_rfl) (fun _ _ _ h => h) (Or.inl ⟨by rfl, ?_⟩) (by assumption) ?_
            rotate_left
            · intro w hSw
              try dsimp only at hSw
              first | (go_simp; done) | (go_simp; with_reducible rfl)
            try simp only [Act.put, List.setIfInBounds_toArray, List.set_cons_zero, List.set_cons_succ]
            refine wpAnyH_take (i := 16) (v := ?_) (take_list rfl) (by kernel_rfl) (by kernel_rfl) (by kernel_rfl) (fun _ _ _ h => h) (Or.inl ⟨by rfl, ?_⟩) (by assumption) ?_
            rotate_left
            · intro w hSw
              try dsimp only at hSw
              first | (go_simp; done) | (go_simp; with_reducible rfl)
            try simp only [Act.put, List.setIfInBounds_toArray, List.set_cons_zero, List.set_cons_succ]
            refine wpAnyH_take (i := 17) (v := ?_) (take_list rfl) (by kernel_rfl) (by kernel_rfl) (by kernel_rfl) (fun _ _ _ h => h) (Or.inl ⟨by rfl, ?_⟩) (by assumption) ?_
            rotate_left
            · intro w hSw
              try dsimp only at hSw
              first | (go_simp; done) | (go_simp; with_reducible rfl)
            try simp only [Act.put, List.setIfInBounds_toArray, List.set_cons_zero, List.set_cons_succ]
            refine wpAnyH_take (i := 18) (v := ?_) (take_list rfl) (by kernel_rfl) (by kernel_rfl) (by kernel_rfl) (fun _ _ _ h => h) (Or.inl ⟨by rfl, ?_⟩) (by assumption) ?_
            rotate_left
            · intro w hSw
              try dsimp only at hSw
              first | (go_simp; done) | (go_simp; with_reducible rfl)
            try simp only [Act.put, List.setIfInBounds_toArray, List.set_cons_zero, List.set_cons_succ]
            refine wpAnyH_take (i := 19) (v := ?_) (take_list rfl) (by kernel_rfl) (by kernel_rfl) (by kernel_rfl) (fun _ _ _ h => h) (Or.inl ⟨by rfl, ?_⟩) (by assumption) ?_
            rotate_left
            · intro w hSw
              try dsimp only at hSw
              first | (go_simp; done) | (go_simp; with_reducible rfl)
            try simp only [Act.put, List.setIfInBounds_toArray, List.set_cons_zero, List.set_cons_succ]
            refine wpAnyH_take (i := 20) (v := ?_) (take_list rfl) (by kernel_rfl) (by kernel_rfl) (by kernel_rfl) (fun _ _ _ h => h) (Or.inl ⟨by rfl, ?_⟩) (by assumption) ?_
            rotate_left
            · intro w hSw
              try dsimp only at hSw
              first | (go_simp; done) | (go_simp; with_reducible rfl)
            try simp only [Act.put, List.setIfInBounds_toArray, List.set_cons_zero, List.set_cons_succ]
            refine wpAnyH_take (i := 21) (v := ?_) (take_list rfl) (by kernel_rfl) (by kernel_rfl) (by kernel_rfl) (fun _ _ _ h => h) (Or.inl ⟨by rfl, ?_⟩) (by assumption) ?_
            rotate_left
            · intro w hSw
              try dsimp only at hSw
              first | (go_simp; done) | (go_simp; with_reducible rfl)
            try simp only [Act.put, List.setIfInBounds_toArray, List.set_cons_zero, List.set_cons_succ]
            refine wpAnyH_take (i := 22) (v := ?_) (take_list rfl) (by kernel_rfl) (by kernel_rfl) (by kernel_rfl) (fun _ _ _ h => h) (Or.inl ⟨by rfl, ?_⟩) (by assumption) ?_
            rotate_left
            · intro w hSw
              try dsimp only at hSw
              first | (go_simp; done) | (go_simp; with_reducible rfl)
            try simp only [Act.put, List.setIfInBounds_toArray, List.set_cons_zero, List.set_cons_succ]
            refine wpAnyH_take (i := 23) (v := ?_) (take_list rfl) (by kernel_rfl) (by kernel_rfl) (by kernel_rfl) (fun _ _ _ h => h) (Or.inl ⟨by rfl, ?_⟩) (by assumption) ?_
            rotate_left
            · intro w hSw
              try dsimp only at hSw
              first | (go_simp; done) | (go_simp; with_reducible rfl)
            try simp only [Act.put, List.setIfInBounds_toArray, List.set_cons_zero, List.set_cons_succ]
            refine wpAnyH_take (i := 24) (v := ?_) (take_list rfl) (by kernel_rfl) (by kernel_rfl) (by kernel_rfl) (fun _ _ _ h => h) (Or.inl ⟨by rfl, ?_⟩) (by assumption) ?_
            rotate_left
            · intro w hSw
              try dsimp only at hSw
              first | (go_simp; done) | (go_simp; with_reducible rfl)
            try simp only [Act.put, List.setIfInBounds_toArray, List.set_cons_zero, List.set_cons_succ]
            refine wpAnyH_take (i := 25) (v := ?_) (take_list rfl) (by kernel_rfl) (by kernel_rfl) (by kernel_rfl) (fun _ _ _ h => h) (Or.inl ⟨by rfl, ?_⟩) (by assumption) ?_
            rotate_left
            · intro w hSw
              try dsimp only at hSw
              first | (go_simp; done) | (go_simp; with_reducible rfl)
            try simp only [Act.put, List.setIfInBounds_toArray, List.set_cons_zero, List.set_cons_succ]
            refine wpAnyH_take (i := 26) (v := ?_) (take_list rfl) (by kernel_rfl) (by kernel_rfl) (by kernel_rfl) (fun _ _ _ h => h) (Or.inl ⟨by rfl, ?_⟩) (by assumption) ?_
            rotate_left
            · intro w hSw
              try dsimp only at hSw
              first | (go_simp; done) | (go_simp; with_reducible rfl)
            try simp only [Act.put, List.setIfInBounds_toArray, List.set_cons_zero, List.set_cons_succ]
            refine wpAnyH_take (i := 27) (v := ?_) (take_list rfl) (by kernel_rfl) (by kernel_rfl) (by kernel_rfl) (fun _ _ _ h => h) (Or.inl ⟨by rfl, ?_⟩) (by assumption) ?_
            rotate_left
            · intro w hSw
              try dsimp only at hSw
              first | (go_simp; done) | (go_simp; with_reducible rfl)
            try simp only [Act.put, List.setIfInBounds_toArray, List.set_cons_zero, List.set_cons_succ]
            refine wpAnyH_take (i := 28) (v := ?_) (take_list rfl) (by kernel_rfl) (by kernel_rfl) (by kernel_rfl) (fun _ _ _ h => h) (Or.inl ⟨by rfl, ?_⟩) (by assumption) ?_
            rotate_left
            · intro w hSw
              try dsimp only at hSw
              first | (go_simp; done) | (go_simp; with_reducible rfl)
            try simp only [Act.put, List.setIfInBounds_toArray, List.set_cons_zero, List.set_cons_succ]
            refine wpAnyH_done (by kernel_rfl) ?_ _
            go_wp2
            refine wp_region_held_drew (S := fun W => W.cell? ⟨g, o + k * 3 + 1, none⟩ = some (.int .i64 fi) ∧ W.cell? ⟨g, o + k * 3 + 2, none⟩ = some (.int .i64 a) ∧ W.cell? ⟨g, o + (k + 1) * 3 + 2, none⟩ = some (.int .i64 b)) (by kernel_rfl) ?_ (fun hHeld => ?_)
            · exact HSS.out _ (by repeat (first | exact hbx | apply ext_alloc | apply ext_drew | apply ext_drewN | exact Below.refl _ _))
            refine wpAnyH_take (i := 0) (v := ?_) (take_list rfl) (by kernel_rfl) (by kernel_rfl) (by kernel_rfl) (fun _ _ _ h => h) (Or.inl ⟨by rfl, ?_⟩) (by assumption) ?_
            rotate_left
            · intro w hSw
              try dsimp only at hSw
              first | (go_simp; done) | (go_simp; with_reducible rfl)
            try simp only [Act.put, List.setIfInBounds_toArray, List.set_cons_zero, List.set_cons_succ]
            refine wpAnyH_take (i := 1) (v := ?_) (take_list rfl) (by kernel_rfl) (by kernel_rfl) (by kernel_rfl) (fun _ _ _ h => h) (Or.inl ⟨by rfl, ?_⟩) (by assumption) ?_
            rotate_left
            · intro w hSw
              try dsimp only at hSw
              first | (go_simp; done) | (go_simp; with_reducible rfl)
            try simp only [Act.put, List.setIfInBounds_toArray, List.set_cons_zero, List.set_cons_succ]
            refine wpAnyH_take (i := 2) (v := ?_) (take_list rfl) (by kernel_rfl) (by kernel_rfl) (by kernel_rfl) (fun _ _ _ h => h) (Or.inl ⟨by rfl, ?_⟩) (by assumption) ?_
            rotate_left
            · intro w hSw
              try dsimp only at hSw
              first | (go_simp; done) | (go_simp; with_reducible rfl)
            try simp only [Act.put, List.setIfInBounds_toArray, List.set_cons_zero, List.set_cons_succ]
            refine wpAnyH_take (i := 3) (v := ?_) (take_list rfl) (by kernel_rfl) (by kernel_rfl) (by kernel_rfl) (fun _ _ _ h => h) (Or.inl ⟨by rfl, ?_⟩) (by assumption) ?_
            rotate_left
            · intro w hSw
              try dsimp only at hSw
              first | (go_simp; done) | (go_simp; with_reducible rfl)
            try simp only [Act.put, List.setIfInBounds_toArray, List.set_cons_zero, List.set_cons_succ]
            refine wpAnyH_take (i := 4) (v := ?_) (take_list rfl) (by kernel_rfl) (by kernel_rfl) (by kernel_rfl) (fun _ _ _ h => h) (Or.inl ⟨by rfl, ?_⟩) (by assumption) ?_
            rotate_left
            · intro w hSw
              try dsimp only at hSw
              first | (go_simp; done) | (go_simp; with_reducible rfl)
            try simp only [Act.put, List.setIfInBounds_toArray, List.set_cons_zero, List.set_cons_succ]
            refine wpAnyH_take (i := 5) (v := ?_) (take_list rfl) (by kernel_rfl) (by kernel_rfl) (by kernel_rfl) (fun _ _ _ h => h) (Or.inl ⟨by rfl, ?_⟩) (by assumption) ?_
            rotate_left
            · intro w hSw
              try dsimp only at hSw
              first | (go_simp; done) | (go_simp; with_reducible rfl)
            try simp only [Act.put, List.setIfInBounds_toArray, List.set_cons_zero, List.set_cons_succ]
            refine wpAnyH_take (i := 6) (v := ?_) (take_list rfl) (by kernel_rfl) (by kernel_rfl) (by kernel_rfl) (fun _ _ _ h => h) (Or.inl ⟨by rfl, ?_⟩) (by assumption) ?_
            rotate_left
            · intro w hSw
              try dsimp only at hSw
              first | (go_simp; done) | (go_simp; with_reducible rfl)
            try simp only [Act.put, List.setIfInBounds_toArray, List.set_cons_zero, List.set_cons_succ]
            refine wpAnyH_take (i := 7) (v := ?_) (take_list rfl) (by kernel_rfl) (by kernel_rfl) (by kernel_rfl) (fun _ _ _ h => h) (Or.inl ⟨by rfl, ?_⟩) (by assumption) ?_
            rotate_left
            · intro w hSw
              try dsimp only at hSw
              first | (go_simp; done) | (go_simp; with_reducible rfl)
            try simp only [Act.put, List.setIfInBounds_toArray, List.set_cons_zero, List.set_cons_succ]
            refine wpAnyH_take (i := 8) (v := ?_) (take_list rfl) (by kernel_rfl) (by kernel_rfl) (by kernel_rfl) (fun _ _ _ h => h) (Or.inl ⟨by rfl, ?_⟩) (by assumption) ?_
            rotate_left
            · intro w hSw
              try dsimp only at hSw
              first | (go_simp; done) | (go_simp; with_reducible rfl)
            try simp only [Act.put, List.setIfInBounds_toArray, List.set_cons_zero, List.set_cons_succ]
            refine wpAnyH_take (i := 9) (v := ?_) (take_list rfl) (by kernel_rfl) (by kernel_rfl) (by kernel_rfl) (fun _ _ _ h => h) (Or.inl ⟨by rfl, ?_⟩) (by assumption) ?_
            rotate_left
            · intro w hSw
              try dsimp only at hSw
              first | (go_simp; done) | (go_simp; with_reducible rfl)
            try simp only [Act.put, List.setIfInBounds_toArray, List.set_cons_zero, List.set_cons_succ]
            refine wpAnyH_take (i := 10) (v := ?_) (take_list rfl) (by kernel_rfl) (by kernel_rfl) (by kernel_rfl) (fun _ _ _ h => h) (Or.inl ⟨by rfl, ?_⟩) (by assumption) ?_
            rotate_left
            · intro w hSw
              try dsimp only at hSw
              first | (go_simp; done) | (go_simp; with_reducible rfl)
            try simp only [Act.put, List.setIfInBounds_toArray, List.set_cons_zero, List.set_cons_succ]
            refine wpAnyH_take (i := 11) (v := ?_) (take_list rfl) (by kernel_rfl) (by kernel_rfl) (by kernel_rfl) (fun _ _ _ h => h) (Or.inl ⟨by rfl, ?_⟩) (by assumption) ?_
            rotate_left
            · intro w hSw
              try dsimp only at hSw
              first | (go_simp; done) | (go_simp; with_reducible rfl)
            try simp only [Act.put, List.setIfInBounds_toArray, List.set_cons_zero, List.set_cons_succ]
            refine wpAnyH_take (i := 12) (v := ?_) (take_list rfl) (by kernel_rfl) (by kernel_rfl) (by kernel_rfl) (fun _ _ _ h => h) (Or.inl ⟨by rfl, ?_⟩) (by assumption) ?_
            rotate_left
            · intro w hSw
              try dsimp only at hSw
              first | (go_simp; done) | (go_simp; with_reducible rfl)
            try simp only [Act.put, List.setIfInBounds_toArray, List.set_cons_zero, List.set_cons_succ]
            refine wpAnyH_take (i := 13) (v := ?_) (take_list rfl) (by kernel_rfl) (by kernel_rfl) (by kernel_rfl) (fun _ _ _ h => h) (Or.inl ⟨by rfl, ?_⟩) (by assumption) ?_
            rotate_left
            · intro w hSw
              try dsimp only at hSw
              first | (go_simp; done) | (go_simp; with_reducible rfl)
            try simp only [Act.put, List.setIfInBounds_toArray, List.set_cons_zero, List.set_cons_succ]
            refine wpAnyH_take (i := 14) (v := ?_) (take_list rfl) (by kernel_rfl) (by kernel_rfl) (by kernel_rfl) (fun _ _ _ h => h) (Or.inl ⟨by rfl, ?_⟩) (by assumption) ?_
            rotate_left
            · intro w hSw
              try dsimp only at hSw
              first | (go_simp; done) | (go_simp; with_reducible rfl)
            try simp only [Act.put, List.setIfInBounds_toArray, List.set_cons_zero, List.set_cons_succ]
            refine wpAnyH_take (i := 15) (v := ?_) (take_list rfl) (by kernel_rfl) (by kernel_rfl) (by kernel_rfl) (fun _ _ _ h => h) (Or.inl ⟨by rfl, ?_⟩) (by assumption) ?_
            rotate_left
            · intro w hSw
              try dsimp only at hSw
              first | (go_simp; done) | (go_simp; with_reducible rfl)
            try simp only [Act.put, List.setIfInBounds_toArray, List.set_cons_zero, List.set_cons_succ]
            refine wpAnyH_take (i := 16) (v := ?_) (take_list rfl) (by kernel_rfl) (by kernel_rfl) (by kernel_rfl) (fun _ _ _ h => h) (Or.inl ⟨by rfl, ?_⟩) (by assumption) ?_
            rotate_left
            · intro w hSw
              try dsimp only at hSw
              first | (go_simp; done) | (go_simp; with_reducible rfl)
            try simp only [Act.put, List.setIfInBounds_toArray, List.set_cons_zero, List.set_cons_succ]
            refine wpAnyH_take (i := 17) (v := ?_) (take_list rfl) (by kernel_rfl) (by kernel_rfl) (by kernel_rfl) (fun _ _ _ h => h) (Or.inl ⟨by rfl, ?_⟩) (by assumption) ?_
            rotate_left
            · intro w hSw
              try dsimp only at hSw
              first | (go_simp; done) | (go_simp; with_reducible rfl)
            try simp only [Act.put, List.setIfInBounds_toArray, List.set_cons_zero, List.set_cons_succ]
            refine wpAnyH_take (i := 18) (v := ?_) (take_list rfl) (by kernel_rfl) (by kernel_rfl) (by kernel_rfl) (fun _ _ _ h => h) (Or.inl ⟨by rfl, ?_⟩) (by assumption) ?_
            rotate_left
            · intro w hSw
              try dsimp only at hSw
              first | (go_simp; done) | (go_simp; with_reducible rfl)
            try simp only [Act.put, List.setIfInBounds_toArray, List.set_cons_zero, List.set_cons_succ]
            refine wpAnyH_ready (rs := [19]) (by kernel_rfl) (by simp) ?_
            refine AllReadyH.cons (take_list rfl) (fun K hK => ?_) ?_
            · skip
              go_simp
              refine hK.out _ _ ?_ (fun hHeld => ?_)
              · try dsimp only
                exact HSS.out _ (by repeat (first | exact hbx | apply ext_alloc | apply ext_drew | apply ext_drewN | exact Below.refl _ _))
              clear hK K
              refine wpAnyH_ready (rs := [20]) (by kernel_rfl) (by simp) ?_
              refine AllReadyH.cons (take_list rfl) (fun K hK => ?_) ?_
              · skip
                refine step_store_sp rfl (.tmp 9) (.tmp 61) rfl _ rfl rfl (by simp [Value.oneCell']) (cs := #[.int .i64 0, .int .i64 0, .int .i64 0]) (t := 24) (by first | exact Blk.new _ _ _ | exact (Blk.new _ _ _).drew) rfl ?_
                intro w4 hB4 ho4
                have hbx4 : Below w3.heap.size w3 w4 := (show Below w3.heap.size w3 _ from (by repeat (first | exact hbx | apply ext_alloc | apply ext_drew | apply ext_drewN | exact Below.refl _ _))).trans (ho4.below (B := w3.heap.size) (fun i hi => by have := hbx.size; simp at hi ⊢; omega) (by have := hbx.size; simp; omega))
                have hbx := hbx4
                refine hK.out _ _ ?_ (fun hHeld => ?_)
                · try dsimp only
                  exact HSS.out _ (by repeat (first | exact hbx | apply ext_alloc | apply ext_drew | apply ext_drewN | exact Below.refl _ _))
                clear hK K
                refine wpAnyH_done (by kernel_rfl) ?_ _
                have Hx4 := Lib.hid hbx4
                have hkc : (k : Int) ≤ (c : Int) := by omega
                have hb51 : (k : Int) + 2 ≤ (n : Int) := by omega
                have hb52 : (0 : Int) ≤ (k : Int) + 2 := by omega
                have HT1 : Hid ((spsV (l.take k)).length = k * 3) := Lib.hid (by have := Hnl.out; rw [spsV_len, List.length_take]; omega)
                have HT2 : Hid ((spsV (l.drop (k + 2))).length = (n - (k + 2)) * 3) := Lib.hid (by rw [spsV_len, List.length_drop, Hnl.out])
                have HRt : Hid (∀ W, Below w4.heap.size w4 W → Rd W (some ⟨g, o, none⟩) (spsV (l.take k))) := Lib.hid fun W hW => by rw [spsV_take]; exact ((Hs3.out.ext (ext_trans Hx4.out hW)).rd).take _
                have HPL : Hid ((putS l k ⟨id, fi, a + b⟩).length = k + 1 + (n - (k + 2))) := Lib.hid (by rw [putS_len _ _ _ (by have := Hnl.out; omega), Hnl.out]; omega)
                have HPS : Hid (spsV (l.take k) ++ [.int .i64 id, .int .i64 fi, .int .i64 (a + b)] ++ spsV (l.drop (k + 2)) = spsV (putS l k ⟨id, fi, a + b⟩)) := Lib.hid (by unfold putS; rw [spsV_app, show spsV (Sp.mk id fi (a + b) :: l.drop (k + 2)) = spV ⟨id, fi, a + b⟩ ++ spsV (l.drop (k + 2)) from rfl, List.append_assoc]; rfl)
                have HB4 := Lib.hid hB4
                have hbx : Below w4.heap.size w4 w4 := Below.refl _ _
                have HS5 : Hid (∀ W, Below w4.heap.size w4 W → (W.cell? ⟨xa.heap.size, 0, none⟩ = some (.int .i64 id) ∧ W.cell? ⟨xa.heap.size, 1, none⟩ = some (.int .i64 fi) ∧ W.cell? ⟨xa.heap.size, 2, none⟩ = some (.int .i64 (a + b)))) := Lib.hid fun W hW => ⟨(HB4.out.ext hW).cell 0, (HB4.out.ext hW).cell 1, (HB4.out.ext hW).cell 2⟩
                by_cases hck : c = k + 2
                · subst hck
                  have HT2 : Hid ((spsV (l.drop (k + 2))).length = 0 * 3) := Lib.hid (by have := Hnl.out; rw [spsV_len, List.length_drop]; omega)
                  have HPL : Hid ((putS l k ⟨id, fi, a + b⟩).length = k + 1 + 0) := Lib.hid (by rw [HPL.out]; omega)
                  have hkc2 : (k : Int) ≤ (k : Int) + 2 := by omega
                  have HRd : Hid (∀ W, Below w4.heap.size w4 W → Rd W (some ⟨g, o, none⟩) (spsV (l.drop (k + 2)))) := Lib.hid fun W _ => by rw [List.drop_of_length_le (by have := Hnl.out; omega)]; exact Rd.nil _ _
                  go_wp2
                  refine wp_region_held_drew (S := fun W => W.cell? ⟨xa.heap.size, 0, none⟩ = some (.int .i64 id) ∧ W.cell? ⟨xa.heap.size, 1, none⟩ = some (.int .i64 fi) ∧ W.cell? ⟨xa.heap.size, 2, none⟩ = some (.int .i64 (a + b))) (by kernel_rfl) ?_ (fun hHeld => ?_)
                  · exact HS5.out _ (by repeat (first | exact hbx | apply ext_alloc | apply ext_drew | apply ext_drewN | exact Below.refl _ _))
                  refine wpAnyH_take (i := 1) (v := ?_) (take_list rfl) (by kernel_rfl) (by kernel_rfl) (by kernel_rfl) (fun _ _ _ h => h) (Or.inl ⟨by rfl, ?_⟩) (by assumption) ?_
                  rotate_left
                  · intro w hSw
                    try dsimp only at hSw
                    first | (go_simp; done) | (go_simp; with_reducible rfl)
                  try simp only [Act.put, List.setIfInBounds_toArray, List.set_cons_zero, List.set_cons_succ]
                  refine wpAnyH_take (i := 2) (v := ?_) (take_list rfl) (by kernel_rfl) (by kernel_rfl) (by kernel_rfl) (fun _ _ _ h => h) (Or.inl ⟨by rfl, ?_⟩) (by assumption) ?_
                  rotate_left
                  · intro w hSw
                    try dsimp only at hSw
                    first | (go_simp; done) | (go_simp; with_reducible rfl)
                  try simp only [Act.put, List.setIfInBounds_toArray, List.set_cons_zero, List.set_cons_succ]
                  refine wpAnyH_take (i := 3) (v := ?_) (take_list rfl) (by kernel_rfl) (by kernel_rfl) (by kernel_rfl) (fun _ _ _ h => h) (Or.inl ⟨by rfl, ?_⟩) (by assumption) ?_
                  rotate_left
                  · intro w hSw
                    try dsimp only at hSw
                    first | (go_simp; done) | (go_simp; with_reducible rfl)
                  try simp only [Act.put, List.setIfInBounds_toArray, List.set_cons_zero, List.set_cons_succ]
                  refine wpAnyH_take (i := 5) (v := ?_) (take_list rfl) (by kernel_rfl) (by kernel_rfl) (by kernel_rfl) (fun _ _ _ h => h) (Or.inl ⟨by rfl, ?_⟩) (by assumption) ?_
                  rotate_left
                  · intro w hSw
                    try dsimp only at hSw
                    first | (go_simp; done) | (go_simp; with_reducible rfl)
                  try simp only [Act.put, List.setIfInBounds_toArray, List.set_cons_zero, List.set_cons_succ]
                  refine wpAnyH_take (i := 8) (v := ?_) (take_list rfl) (by kernel_rfl) (by kernel_rfl) (by kernel_rfl) (fun _ _ _ h => h) (Or.inl ⟨by rfl, ?_⟩) (by assumption) ?_
                  rotate_left
                  · intro w hSw
                    try dsimp only at hSw
                    first | (go_simp; done) | (go_simp; with_reducible rfl)
                  try simp only [Act.put, List.setIfInBounds_toArray, List.set_cons_zero, List.set_cons_succ]
                  refine wpAnyH_take (i := 9) (v := ?_) (take_list rfl) (by kernel_rfl) (by kernel_rfl) (by kernel_rfl) (fun _ _ _ h => h) (Or.inl ⟨by rfl, ?_⟩) (by assumption) ?_
                  rotate_left
                  · intro w hSw
                    try dsimp only at hSw
                    first | (go_simp; done) | (go_simp; with_reducible rfl)
                  try simp only [Act.put, List.setIfInBounds_toArray, List.set_cons_zero, List.set_cons_succ]
                  refine wpAnyH_take (i := 10) (v := ?_) (take_list rfl) (by kernel_rfl) (by kernel_rfl) (by kernel_rfl) (fun _ _ _ h => h) (Or.inl ⟨by rfl, ?_⟩) (by assumption) ?_
                  rotate_left
                  · intro w hSw
                    try dsimp only at hSw
                    first | (go_simp; done) | (go_simp; with_reducible rfl)
                  try simp only [Act.put, List.setIfInBounds_toArray, List.set_cons_zero, List.set_cons_succ]
                  refine wpAnyH_take (i := 11) (v := ?_) (take_list rfl) (by kernel_rfl) (by kernel_rfl) (by kernel_rfl) (fun _ _ _ h => h) (Or.inl ⟨by rfl, ?_⟩) (by assumption) ?_
                  rotate_left
                  · intro w hSw
                    try dsimp only at hSw
                    first | (go_simp; done) | (go_simp; with_reducible rfl)
                  try simp only [Act.put, List.setIfInBounds_toArray, List.set_cons_zero, List.set_cons_succ]
                  refine wpAnyH_ready (rs := [0, 6]) (by kernel_rfl) (by simp) ?_
                  refine AllReadyH.cons (take_list rfl) (fun K hK => ?_) ?_
                  · skip
                    go_simp
                    refine hK.out _ _ ?_ (fun hHeld => ?_)
                    · try dsimp only
                      exact HS5.out _ (by repeat (first | exact hbx | apply ext_alloc | apply ext_drew | apply ext_drewN | exact Below.refl _ _))
                    clear hK K
                    refine wpAnyH_ready (rs := [4, 6]) (by kernel_rfl) (by simp) ?_
                    refine AllReadyH.cons (take_list rfl) (fun K hK => ?_) ?_
                    · skip
                      refine step_appO _ rfl (.tmp 62) (.tmp 65) _ rfl _ _ 3 24 Try.underlying22 info_sp rfl (some ⟨w4.heap.size, 0, none⟩) 0 0 [] rfl (by first | exact RowO.lit _ 24 3 0 #[] rfl (Nat.zero_le _) rfl | exact (RowO.lit _ 24 3 0 #[] rfl (Nat.zero_le _) rfl).drew) (some ⟨g, o, none⟩) k (k + 2) (spsV (l.take k)) rfl HT1.out (HRt.out _ (by repeat (first | exact hbx | apply ext_alloc | apply ext_drew | apply ext_drewN | exact Below.refl _ _))) (spsV_one _) (by intro h; cases h) (by unfold maxLen; omega) (by omega) ?_
                      intro A5 c5 w5 hr5 ho5 hA5
                      have hnew5 : ∀ j, inA A5 j → w4.heap.size ≤ j := fun j hj => by
                        have := hbx.size
                        rcases hA5 j hj with h | ⟨h, _⟩
                        · rw [inA_some] at h; omega
                        · first | omega | (simp at h; omega)
                      have hb5 : Below w4.heap.size w4 w5 := (show Below w4.heap.size w4 _ from (by repeat (first | exact hbx | apply ext_alloc | apply ext_drew | apply ext_drewN | exact Below.refl _ _))).trans (ho5.below (B := w4.heap.size) (fun i hi => by have := hbx.size; rw [inA_some] at hi; omega) (by have := hbx.size; first | (simp; done) | omega | (simp; omega)))
                      have hbx := hb5
                      rw [List.nil_append, Nat.zero_add] at hr5
                      try simp only [Nat.zero_add]
                      refine hK.out _ _ ?_ (fun hHeld => ?_)
                      · try dsimp only
                        exact HS5.out _ (by repeat (first | exact hbx | apply ext_alloc | apply ext_drew | apply ext_drewN | exact Below.refl _ _))
                      clear hK K
                      refine wpAnyH_ready (rs := [6]) (by kernel_rfl) (by simp) ?_
                      refine AllReadyH.cons (take_list rfl) (fun K hK => ?_) ?_
                      · skip
                        go_simp
                        refine hK.out _ _ ?_ (fun hHeld => ?_)
                        · try dsimp only
                          exact HS5.out _ (by repeat (first | exact hbx | apply ext_alloc | apply ext_drew | apply ext_drewN | exact Below.refl _ _))
                        clear hK K
                        refine wpAnyH_ready (rs := [7]) (by kernel_rfl) (by simp) ?_
                        refine AllReadyH.cons (take_list rfl) (fun K hK => ?_) ?_
                        · skip
                          refine step_appO _ rfl (.tmp 66) (.tmp 68) _ rfl _ _ 3 24 Try.underlying22 info_sp rfl A5 k c5 (spsV (l.take k)) rfl (by first | exact hr5.alloc _ | exact (hr5.alloc _).drew | exact hr5.drew.alloc _ | exact (hr5.drew.alloc _).drew) (some ⟨w5.heap.size, 0, none⟩) 1 1 [.int .i64 id, .int .i64 fi, .int .i64 (a + b)] rfl rfl (by first | exact Rd.lit_at _ #[.int .i64 id, .int .i64 fi, .int .i64 (a + b)] 24 rfl | exact (Rd.lit_at _ #[.int .i64 id, .int .i64 fi, .int .i64 (a + b)] 24 rfl).drew) (by intro u hu; simp at hu; rcases hu with rfl | rfl | rfl <;> rfl) (by intro h; cases h) (by unfold maxLen; omega) (by omega) ?_
                          intro A6 c6 w6 hr6 ho6 hA6
                          have hnew6 : ∀ j, inA A6 j → w4.heap.size ≤ j := fun j hj => by
                            have := hbx.size
                            rcases hA6 j hj with h | ⟨h, _⟩
                            · exact hnew5 j h
                            · first | omega | (simp at h; omega)
                          have hb6 : Below w4.heap.size w4 w6 := (show Below w4.heap.size w4 _ from (by repeat (first | exact hbx | apply ext_alloc | apply ext_drew | apply ext_drewN | exact Below.refl _ _))).trans (ho6.below (B := w4.heap.size) hnew5 (by have := hbx.size; first | (simp; done) | omega | (simp; omega)))
                          have hbx := hb6
                          refine hK.out _ _ ?_ (fun hHeld => ?_)
                          · try dsimp only
                            exact HS5.out _ (by repeat (first | exact hbx | apply ext_alloc | apply ext_drew | apply ext_drewN | exact Below.refl _ _))
                          clear hK K
                          refine wpAnyH_ready (rs := [12]) (by kernel_rfl) (by simp) ?_
                          refine AllReadyH.cons (take_list rfl) (fun K hK => ?_) ?_
                          · skip
                            refine step_appO _ rfl (.tmp 69) (.tmp 73) _ rfl _ _ 3 24 Try.underlying22 info_sp rfl A6 (k + 1) c6 (spsV (l.take k) ++ [.int .i64 id, .int .i64 fi, .int .i64 (a + b)]) rfl (by first | exact hr6 | exact hr6.drew) (some ⟨g, o, none⟩) 0 _ (spsV (l.drop (k + 2))) rfl HT2.out (HRd.out _ (by repeat (first | exact hbx | apply ext_alloc | apply ext_drew | apply ext_drewN | exact Below.refl _ _))) (spsV_one _) (by intro h; cases h) (by unfold maxLen; omega) (by omega) ?_
                            intro A7 c7 w7 hr7 ho7 hA7
                            have hb7 : Below w4.heap.size w4 w7 := (show Below w4.heap.size w4 _ from (by repeat (first | exact hbx | apply ext_alloc | apply ext_drew | apply ext_drewN | exact Below.refl _ _))).trans (ho7.below (B := w4.heap.size) hnew6 (by have := hbx.size; first | (simp; done) | omega | (simp; omega)))
                            have hbx := hb7
                            refine hK.out _ _ ?_ (fun hHeld => ?_)
                            · try dsimp only
                              exact HS5.out _ (by repeat (first | exact hbx | apply ext_alloc | apply ext_drew | apply ext_drewN | exact Below.refl _ _))
                            clear hK K
                            refine wpAnyH_take (i := 13) (v := ?_) (take_list rfl) (by kernel_rfl) (by kernel_rfl) (by kernel_rfl) (fun _ _ _ h => h) (Or.inl ⟨by rfl, ?_⟩) (by assumption) ?_
                            rotate_left
                            · intro w hSw
                              try dsimp only at hSw
                              first | (go_simp; done) | (go_simp; with_reducible rfl)
                            try simp only [Act.put, List.setIfInBounds_toArray, List.set_cons_zero, List.set_cons_succ]
                            refine wpAnyH_take (i := 14) (v := ?_) (take_list rfl) (by kernel_rfl) (by kernel_rfl) (by kernel_rfl) (fun _ _ _ h => h) (Or.inl ⟨by rfl, ?_⟩) (by assumption) ?_
                            rotate_left
                            · intro w hSw
                              try dsimp only at hSw
                              first | (go_simp; done) | (go_simp; with_reducible rfl)
                            try simp only [Act.put, List.setIfInBounds_toArray, List.set_cons_zero, List.set_cons_succ]
                            refine wpAnyH_done (by kernel_rfl) ?_ _
                            go_wp2
                            go_ret2
                            exact ⟨A7, c7, by rw [Hc.out, Hj.out, HPL.out]; rfl, by rw [Hj.out]; rw [HPS.out] at hr7; exact RowO.sps (by first | exact hr7 | exact hr7.drew), ext_trans Hb3.out (ext_trans Hx4.out (by repeat (first | exact hbx | apply ext_alloc | apply ext_drew | apply ext_drewN | exact Below.refl _ _)))⟩
                          exact AllReadyH.nil
                        exact AllReadyH.nil
                      exact AllReadyH.nil
                    refine AllReadyH.cons (take_list rfl) (fun K hK => ?_) ?_
                    · skip
                      go_simp
                      refine hK.out _ _ ?_ (fun hHeld => ?_)
                      · try dsimp only
                        exact HS5.out _ (by repeat (first | exact hbx | apply ext_alloc | apply ext_drew | apply ext_drewN | exact Below.refl _ _))
                      clear hK K
                      refine wpAnyH_ready (rs := [4]) (by kernel_rfl) (by simp) ?_
                      refine AllReadyH.cons (take_list rfl) (fun K hK => ?_) ?_
                      · skip
                        refine step_appO _ rfl (.tmp 62) (.tmp 65) _ rfl _ _ 3 24 Try.underlying22 info_sp rfl (some ⟨w4.heap.size, 0, none⟩) 0 0 [] rfl (by first | exact (RowO.lit _ 24 3 0 #[] rfl (Nat.zero_le _) rfl).alloc _ | exact ((RowO.lit _ 24 3 0 #[] rfl (Nat.zero_le _) rfl).alloc _).drew) (some ⟨g, o, none⟩) k (k + 2) (spsV (l.take k)) rfl HT1.out (HRt.out _ (by repeat (first | exact hbx | apply ext_alloc | apply ext_drew | apply ext_drewN | exact Below.refl _ _))) (spsV_one _) (by intro h; cases h) (by unfold maxLen; omega) (by omega) ?_
                        intro A5 c5 w5 hr5 ho5 hA5
                        have hone5 : Rd w5 (some ⟨w4.heap.size + 1, 0, none⟩) [.int .i64 id, .int .i64 fi, .int .i64 (a + b)] := Rd.only (by first | exact Rd.lit_at _ #[.int .i64 id, .int .i64 fi, .int .i64 (a + b)] 24 (World.size_alloc _ _).symm | exact (Rd.lit_at _ #[.int .i64 id, .int .i64 fi, .int .i64 (a + b)] 24 (World.size_alloc _ _).symm).drew) ho5 (fun ad e _ => by injection e with e; subst e; rw [inA_some]; simp)
                        have hnew5 : ∀ j, inA A5 j → w4.heap.size ≤ j := fun j hj => by
                          have := hbx.size
                          rcases hA5 j hj with h | ⟨h, _⟩
                          · rw [inA_some] at h; omega
                          · first | omega | (simp at h; omega)
                        have hb5 : Below w4.heap.size w4 w5 := (show Below w4.heap.size w4 _ from (by repeat (first | exact hbx | apply ext_alloc | apply ext_drew | apply ext_drewN | exact Below.refl _ _))).trans (ho5.below (B := w4.heap.size) (fun i hi => by have := hbx.size; rw [inA_some] at hi; omega) (by have := hbx.size; first | (simp; done) | omega | (simp; omega)))
                        have hbx := hb5
                        rw [List.nil_append, Nat.zero_add] at hr5
                        try simp only [Nat.zero_add]
                        refine hK.out _ _ ?_ (fun hHeld => ?_)
                        · try dsimp only
                          exact HS5.out _ (by repeat (first | exact hbx | apply ext_alloc | apply ext_drew | apply ext_drewN | exact Below.refl _ _))
                        clear hK K
                        refine wpAnyH_ready (rs := [7]) (by kernel_rfl) (by simp) ?_
                        refine AllReadyH.cons (take_list rfl) (fun K hK => ?_) ?_
                        · skip
                          refine step_appO _ rfl (.tmp 66) (.tmp 68) _ rfl _ _ 3 24 Try.underlying22 info_sp rfl A5 k c5 (spsV (l.take k)) rfl (by first | exact hr5 | exact hr5.drew) (some ⟨w4.heap.size + 1, 0, none⟩) 1 1 [.int .i64 id, .int .i64 fi, .int .i64 (a + b)] rfl rfl (by first | exact hone5 | exact hone5.drew) (by intro u hu; simp at hu; rcases hu with rfl | rfl | rfl <;> rfl) (by intro h; cases h) (by unfold maxLen; omega) (by omega) ?_
                          intro A6 c6 w6 hr6 ho6 hA6
                          have hnew6 : ∀ j, inA A6 j → w4.heap.size ≤ j := fun j hj => by
                            have := hbx.size
                            rcases hA6 j hj with h | ⟨h, _⟩
                            · exact hnew5 j h
                            · first | omega | (simp at h; omega)
                          have hb6 : Below w4.heap.size w4 w6 := (show Below w4.heap.size w4 _ from (by repeat (first | exact hbx | apply ext_alloc | apply ext_drew | apply ext_drewN | exact Below.refl _ _))).trans (ho6.below (B := w4.heap.size) hnew5 (by have := hbx.size; first | (simp; done) | omega | (simp; omega)))
                          have hbx := hb6
                          refine hK.out _ _ ?_ (fun hHeld => ?_)
                          · try dsimp only
                            exact HS5.out _ (by repeat (first | exact hbx | apply ext_alloc | apply ext_drew | apply ext_drewN | exact Below.refl _ _))
                          clear hK K
                          refine wpAnyH_ready (rs := [12]) (by kernel_rfl) (by simp) ?_
                          refine AllReadyH.cons (take_list rfl) (fun K hK => ?_) ?_
                          · skip
                            refine step_appO _ rfl (.tmp 69) (.tmp 73) _ rfl _ _ 3 24 Try.underlying22 info_sp rfl A6 (k + 1) c6 (spsV (l.take k) ++ [.int .i64 id, .int .i64 fi, .int .i64 (a + b)]) rfl (by first | exact hr6 | exact hr6.drew) (some ⟨g, o, none⟩) 0 _ (spsV (l.drop (k + 2))) rfl HT2.out (HRd.out _ (by repeat (first | exact hbx | apply ext_alloc | apply ext_drew | apply ext_drewN | exact Below.refl _ _))) (spsV_one _) (by intro h; cases h) (by unfold maxLen; omega) (by omega) ?_
                            intro A7 c7 w7 hr7 ho7 hA7
                            have hb7 : Below w4.heap.size w4 w7 := (show Below w4.heap.size w4 _ from (by repeat (first | exact hbx | apply ext_alloc | apply ext_drew | apply ext_drewN | exact Below.refl _ _))).trans (ho7.below (B := w4.heap.size) hnew6 (by have := hbx.size; first | (simp; done) | omega | (simp; omega)))
                            have hbx := hb7
                            refine hK.out _ _ ?_ (fun hHeld => ?_)
                            · try dsimp only
                              exact HS5.out _ (by repeat (first | exact hbx | apply ext_alloc | apply ext_drew | apply ext_drewN | exact Below.refl _ _))
                            clear hK K
                            refine wpAnyH_take (i := 13) (v := ?_) (take_list rfl) (by kernel_rfl) (by kernel_rfl) (by kernel_rfl) (fun _ _ _ h => h) (Or.inl ⟨by rfl, ?_⟩) (by assumption) ?_
                            rotate_left
                            · intro w hSw
                              try dsimp only at hSw
                              first | (go_simp; done) | (go_simp; with_reducible rfl)
                            try simp only [Act.put, List.setIfInBounds_toArray, List.set_cons_zero, List.set_cons_succ]
                            refine wpAnyH_take (i := 14) (v := ?_) (take_list rfl) (by kernel_rfl) (by kernel_rfl) (by kernel_rfl) (fun _ _ _ h => h) (Or.inl ⟨by rfl, ?_⟩) (by assumption) ?_
                            rotate_left
                            · intro w hSw
                              try dsimp only at hSw
                              first | (go_simp; done) | (go_simp; with_reducible rfl)
                            try simp only [Act.put, List.setIfInBounds_toArray, List.set_cons_zero, List.set_cons_succ]
                            refine wpAnyH_done (by kernel_rfl) ?_ _
                            go_wp2
                            go_ret2
                            exact ⟨A7, c7, by rw [Hc.out, Hj.out, HPL.out]; rfl, by rw [Hj.out]; rw [HPS.out] at hr7; exact RowO.sps (by first | exact hr7 | exact hr7.drew), ext_trans Hb3.out (ext_trans Hx4.out (by repeat (first | exact hbx | apply ext_alloc | apply ext_drew | apply ext_drewN | exact Below.refl _ _)))⟩
                          exact AllReadyH.nil
                        exact AllReadyH.nil
                      exact AllReadyH.nil
                    exact AllReadyH.nil
                  refine AllReadyH.cons (take_list rfl) (fun K hK => ?_) ?_
                  · skip
                    go_simp
                    refine hK.out _ _ ?_ (fun hHeld => ?_)
                    · try dsimp only
                      exact HS5.out _ (by repeat (first | exact hbx | apply ext_alloc | apply ext_drew | apply ext_drewN | exact Below.refl _ _))
                    clear hK K
                    refine wpAnyH_ready (rs := [0]) (by kernel_rfl) (by simp) ?_
                    refine AllReadyH.cons (take_list rfl) (fun K hK => ?_) ?_
                    · skip
                      go_simp
                      refine hK.out _ _ ?_ (fun hHeld => ?_)
                      · try dsimp only
                        exact HS5.out _ (by repeat (first | exact hbx | apply ext_alloc | apply ext_drew | apply ext_drewN | exact Below.refl _ _))
                      clear hK K
                      refine wpAnyH_ready (rs := [4]) (by kernel_rfl) (by simp) ?_
                      refine AllReadyH.cons (take_list rfl) (fun K hK => ?_) ?_
                      · skip
                        refine step_appO _ rfl (.tmp 62) (.tmp 65) _ rfl _ _ 3 24 Try.underlying22 info_sp rfl (some ⟨w4.heap.size + 1, 0, none⟩) 0 0 [] rfl (by first | exact RowO.lit _ 24 3 0 #[] rfl (Nat.zero_le _) (World.size_alloc _ _).symm | exact (RowO.lit _ 24 3 0 #[] rfl (Nat.zero_le _) (World.size_alloc _ _).symm).drew) (some ⟨g, o, none⟩) k (k + 2) (spsV (l.take k)) rfl HT1.out (HRt.out _ (by repeat (first | exact hbx | apply ext_alloc | apply ext_drew | apply ext_drewN | exact Below.refl _ _))) (spsV_one _) (by intro h; cases h) (by unfold maxLen; omega) (by omega) ?_
                        intro A5 c5 w5 hr5 ho5 hA5
                        have hone5 : Rd w5 (some ⟨w4.heap.size, 0, none⟩) [.int .i64 id, .int .i64 fi, .int .i64 (a + b)] := Rd.only (by first | exact (Rd.lit_at _ #[.int .i64 id, .int .i64 fi, .int .i64 (a + b)] 24 rfl).alloc _ | exact ((Rd.lit_at _ #[.int .i64 id, .int .i64 fi, .int .i64 (a + b)] 24 rfl).alloc _).drew) ho5 (fun ad e _ => by injection e with e; subst e; rw [inA_some]; simp)
                        have hnew5 : ∀ j, inA A5 j → w4.heap.size ≤ j := fun j hj => by
                          have := hbx.size
                          rcases hA5 j hj with h | ⟨h, _⟩
                          · rw [inA_some] at h; omega
                          · first | omega | (simp at h; omega)
                        have hb5 : Below w4.heap.size w4 w5 := (show Below w4.heap.size w4 _ from (by repeat (first | exact hbx | apply ext_alloc | apply ext_drew | apply ext_drewN | exact Below.refl _ _))).trans (ho5.below (B := w4.heap.size) (fun i hi => by have := hbx.size; rw [inA_some] at hi; omega) (by have := hbx.size; first | (simp; done) | omega | (simp; omega)))
                        have hbx := hb5
                        rw [List.nil_append, Nat.zero_add] at hr5
                        try simp only [Nat.zero_add]
                        refine hK.out _ _ ?_ (fun hHeld => ?_)
                        · try dsimp only
                          exact HS5.out _ (by repeat (first | exact hbx | apply ext_alloc | apply ext_drew | apply ext_drewN | exact Below.refl _ _))
                        clear hK K
                        refine wpAnyH_ready (rs := [7]) (by kernel_rfl) (by simp) ?_
                        refine AllReadyH.cons (take_list rfl) (fun K hK => ?_) ?_
                        · skip
                          refine step_appO _ rfl (.tmp 66) (.tmp 68) _ rfl _ _ 3 24 Try.underlying22 info_sp rfl A5 k c5 (spsV (l.take k)) rfl (by first | exact hr5 | exact hr5.drew) (some ⟨w4.heap.size, 0, none⟩) 1 1 [.int .i64 id, .int .i64 fi, .int .i64 (a + b)] rfl rfl (by first | exact hone5 | exact hone5.drew) (by intro u hu; simp at hu; rcases hu with rfl | rfl | rfl <;> rfl) (by intro h; cases h) (by unfold maxLen; omega) (by omega) ?_
                          intro A6 c6 w6 hr6 ho6 hA6
                          have hnew6 : ∀ j, inA A6 j → w4.heap.size ≤ j := fun j hj => by
                            have := hbx.size
                            rcases hA6 j hj with h | ⟨h, _⟩
                            · exact hnew5 j h
                            · first | omega | (simp at h; omega)
                          have hb6 : Below w4.heap.size w4 w6 := (show Below w4.heap.size w4 _ from (by repeat (first | exact hbx | apply ext_alloc | apply ext_drew | apply ext_drewN | exact Below.refl _ _))).trans (ho6.below (B := w4.heap.size) hnew5 (by have := hbx.size; first | (simp; done) | omega | (simp; omega)))
                          have hbx := hb6
                          refine hK.out _ _ ?_ (fun hHeld => ?_)
                          · try dsimp only
                            exact HS5.out _ (by repeat (first | exact hbx | apply ext_alloc | apply ext_drew | apply ext_drewN | exact Below.refl _ _))
                          clear hK K
                          refine wpAnyH_ready (rs := [12]) (by kernel_rfl) (by simp) ?_
                          refine AllReadyH.cons (take_list rfl) (fun K hK => ?_) ?_
                          · skip
                            refine step_appO _ rfl (.tmp 69) (.tmp 73) _ rfl _ _ 3 24 Try.underlying22 info_sp rfl A6 (k + 1) c6 (spsV (l.take k) ++ [.int .i64 id, .int .i64 fi, .int .i64 (a + b)]) rfl (by first | exact hr6 | exact hr6.drew) (some ⟨g, o, none⟩) 0 _ (spsV (l.drop (k + 2))) rfl HT2.out (HRd.out _ (by repeat (first | exact hbx | apply ext_alloc | apply ext_drew | apply ext_drewN | exact Below.refl _ _))) (spsV_one _) (by intro h; cases h) (by unfold maxLen; omega) (by omega) ?_
                            intro A7 c7 w7 hr7 ho7 hA7
                            have hb7 : Below w4.heap.size w4 w7 := (show Below w4.heap.size w4 _ from (by repeat (first | exact hbx | apply ext_alloc | apply ext_drew | apply ext_drewN | exact Below.refl _ _))).trans (ho7.below (B := w4.heap.size) hnew6 (by have := hbx.size; first | (simp; done) | omega | (simp; omega)))
                            have hbx := hb7
                            refine hK.out _ _ ?_ (fun hHeld => ?_)
                            · try dsimp only
                              exact HS5.out _ (by repeat (first | exact hbx | apply ext_alloc | apply ext_drew | apply ext_drewN | exact Below.refl _ _))
                            clear hK K
                            refine wpAnyH_take (i := 13) (v := ?_) (take_list rfl) (by kernel_rfl) (by kernel_rfl) (by kernel_rfl) (fun _ _ _ h => h) (Or.inl ⟨by rfl, ?_⟩) (by assumption) ?_
                            rotate_left
                            · intro w hSw
                              try dsimp only at hSw
                              first | (go_simp; done) | (go_simp; with_reducible rfl)
                            try simp only [Act.put, List.setIfInBounds_toArray, List.set_cons_zero, List.set_cons_succ]
                            refine wpAnyH_take (i := 14) (v := ?_) (take_list rfl) (by kernel_rfl) (by kernel_rfl) (by kernel_rfl) (fun _ _ _ h => h) (Or.inl ⟨by rfl, ?_⟩) (by assumption) ?_
                            rotate_left
                            · intro w hSw
                              try dsimp only at hSw
                              first | (go_simp; done) | (go_simp; with_reducible rfl)
                            try simp only [Act.put, List.setIfInBounds_toArray, List.set_cons_zero, List.set_cons_succ]
                            refine wpAnyH_done (by kernel_rfl) ?_ _
                            go_wp2
                            go_ret2
                            exact ⟨A7, c7, by rw [Hc.out, Hj.out, HPL.out]; rfl, by rw [Hj.out]; rw [HPS.out] at hr7; exact RowO.sps (by first | exact hr7 | exact hr7.drew), ext_trans Hb3.out (ext_trans Hx4.out (by repeat (first | exact hbx | apply ext_alloc | apply ext_drew | apply ext_drewN | exact Below.refl _ _)))⟩
                          exact AllReadyH.nil
                        exact AllReadyH.nil
                      exact AllReadyH.nil
                    exact AllReadyH.nil
                  exact AllReadyH.nil
                · have HRd : Hid (∀ W, Below w4.heap.size w4 W → Rd W (some ⟨g, o + (k + 2) * 3, none⟩) (spsV (l.drop (k + 2)))) := Lib.hid fun W hW j u hu => by
                    rw [spsV_drop, List.getElem?_drop] at hu
                    obtain ⟨ad, e, hcell⟩ := (Hs3.out.ext (ext_trans Hx4.out hW)).rd _ u hu
                    injection e with e
                    subst e
                    refine ⟨_, rfl, ?_⟩
                    rw [Addr.add_mid] at hcell ⊢
                    rw [Nat.add_assoc]
                    exact hcell
                  go_wp2
                  refine wp_region_held_drew (S := fun W => W.cell? ⟨xa.heap.size, 0, none⟩ = some (.int .i64 id) ∧ W.cell? ⟨xa.heap.size, 1, none⟩ = some (.int .i64 fi) ∧ W.cell? ⟨xa.heap.size, 2, none⟩ = some (.int .i64 (a + b))) (by kernel_rfl) ?_ (fun hHeld => ?_)
                  · exact HS5.out _ (by repeat (first | exact hbx | apply ext_alloc | apply ext_drew | apply ext_drewN | exact Below.refl _ _))
                  refine wpAnyH_take (i := 1) (v := ?_) (take_list rfl) (by kernel_rfl) (by kernel_rfl) (by kernel_rfl) (fun _ _ _ h => h) (Or.inl ⟨by rfl, ?_⟩) (by assumption) ?_
                  rotate_left
                  · intro w hSw
                    try dsimp only at hSw
                    first | (go_simp; done) | (go_simp; with_reducible rfl)
                  try simp only [Act.put, List.setIfInBounds_toArray, List.set_cons_zero, List.set_cons_succ]
                  refine wpAnyH_take (i := 2) (v := ?_) (take_list rfl) (by kernel_rfl) (by kernel_rfl) (by kernel_rfl) (fun _ _ _ h => h) (Or.inl ⟨by rfl, ?_⟩) (by assumption) ?_
                  rotate_left
                  · intro w hSw
                    try dsimp only at hSw
                    first | (go_simp; done) | (go_simp; with_reducible rfl)
                  try simp only [Act.put, List.setIfInBounds_toArray, List.set_cons_zero, List.set_cons_succ]
                  refine wpAnyH_take (i := 3) (v := ?_) (take_list rfl) (by kernel_rfl) (by kernel_rfl) (by kernel_rfl) (fun _ _ _ h => h) (Or.inl ⟨by rfl, ?_⟩) (by assumption) ?_
                  rotate_left
                  · intro w hSw
                    try dsimp only at hSw
                    first | (go_simp; done) | (go_simp; with_reducible rfl)
                  try simp only [Act.put, List.setIfInBounds_toArray, List.set_cons_zero, List.set_cons_succ]
                  refine wpAnyH_take (i := 5) (v := ?_) (take_list rfl) (by kernel_rfl) (by kernel_rfl) (by kernel_rfl) (fun _ _ _ h => h) (Or.inl ⟨by rfl, ?_⟩) (by assumption) ?_
                  rotate_left
                  · intro w hSw
                    try dsimp only at hSw
                    first | (go_simp; done) | (go_simp; with_reducible rfl)
                  try simp only [Act.put, List.setIfInBounds_toArray, List.set_cons_zero, List.set_cons_succ]
                  refine wpAnyH_take (i := 8) (v := ?_) (take_list rfl) (by kernel_rfl) (by kernel_rfl) (by kernel_rfl) (fun _ _ _ h => h) (Or.inl ⟨by rfl, ?_⟩) (by assumption) ?_
                  rotate_left
                  · intro w hSw
                    try dsimp only at hSw
                    first | (go_simp; done) | (go_simp; with_reducible rfl)
                  try simp only [Act.put, List.setIfInBounds_toArray, List.set_cons_zero, List.set_cons_succ]
                  refine wpAnyH_take (i := 9) (v := ?_) (take_list rfl) (by kernel_rfl) (by kernel_rfl) (by kernel_rfl) (fun _ _ _ h => h) (Or.inl ⟨by rfl, ?_⟩) (by assumption) ?_
                  rotate_left
                  · intro w hSw
                    try dsimp only at hSw
                    first | (go_simp; done) | (go_simp; with_reducible rfl)
                  try simp only [Act.put, List.setIfInBounds_toArray, List.set_cons_zero, List.set_cons_succ]
                  refine wpAnyH_take (i := 10) (v := ?_) (take_list rfl) (by kernel_rfl) (by kernel_rfl) (by kernel_rfl) (fun _ _ _ h => h) (Or.inl ⟨by rfl, ?_⟩) (by assumption) ?_
                  rotate_left
                  · intro w hSw
                    try dsimp only at hSw
                    first | (go_simp; done) | (go_simp; with_reducible rfl)
                  try simp only [Act.put, List.setIfInBounds_toArray, List.set_cons_zero, List.set_cons_succ]
                  refine wpAnyH_take (i := 11) (v := ?_) (take_list rfl) (by kernel_rfl) (by kernel_rfl) (by kernel_rfl) (fun _ _ _ h => h) (Or.inl ⟨by rfl, ?_⟩) (by assumption) ?_
                  rotate_left
                  · intro w hSw
                    try dsimp only at hSw
                    first | (go_simp; done) | (go_simp; with_reducible rfl)
                  try simp only [Act.put, List.setIfInBounds_toArray, List.set_cons_zero, List.set_cons_succ]
                  refine wpAnyH_ready (rs := [0, 6]) (by kernel_rfl) (by simp) ?_
                  refine AllReadyH.cons (take_list rfl) (fun K hK => ?_) ?_
                  · skip
                    go_simp
                    refine hK.out _ _ ?_ (fun hHeld => ?_)
                    · try dsimp only
                      exact HS5.out _ (by repeat (first | exact hbx | apply ext_alloc | apply ext_drew | apply ext_drewN | exact Below.refl _ _))
                    clear hK K
                    refine wpAnyH_ready (rs := [4, 6]) (by kernel_rfl) (by simp) ?_
                    refine AllReadyH.cons (take_list rfl) (fun K hK => ?_) ?_
                    · skip
                      refine step_appO _ rfl (.tmp 62) (.tmp 65) _ rfl _ _ 3 24 Try.underlying22 info_sp rfl (some ⟨w4.heap.size, 0, none⟩) 0 0 [] rfl (by first | exact RowO.lit _ 24 3 0 #[] rfl (Nat.zero_le _) rfl | exact (RowO.lit _ 24 3 0 #[] rfl (Nat.zero_le _) rfl).drew) (some ⟨g, o, none⟩) k c (spsV (l.take k)) rfl HT1.out (HRt.out _ (by repeat (first | exact hbx | apply ext_alloc | apply ext_drew | apply ext_drewN | exact Below.refl _ _))) (spsV_one _) (by intro h; cases h) (by unfold maxLen; omega) (by omega) ?_
                      intro A5 c5 w5 hr5 ho5 hA5
                      have hnew5 : ∀ j, inA A5 j → w4.heap.size ≤ j := fun j hj => by
                        have := hbx.size
                        rcases hA5 j hj with h | ⟨h, _⟩
                        · rw [inA_some] at h; omega
                        · first | omega | (simp at h; omega)
                      have hb5 : Below w4.heap.size w4 w5 := (show Below w4.heap.size w4 _ from (by repeat (first | exact hbx | apply ext_alloc | apply ext_drew | apply ext_drewN | exact Below.refl _ _))).trans (ho5.below (B := w4.heap.size) (fun i hi => by have := hbx.size; rw [inA_some] at hi; omega) (by have := hbx.size; first | (simp; done) | omega | (simp; omega)))
                      have hbx := hb5
                      rw [List.nil_append, Nat.zero_add] at hr5
                      try simp only [Nat.zero_add]
                      refine hK.out _ _ ?_ (fun hHeld => ?_)
                      · try dsimp only
                        exact HS5.out _ (by repeat (first | exact hbx | apply ext_alloc | apply ext_drew | apply ext_drewN | exact Below.refl _ _))
                      clear hK K
                      refine wpAnyH_ready (rs := [6]) (by kernel_rfl) (by simp) ?_
                      refine AllReadyH.cons (take_list rfl) (fun K hK => ?_) ?_
                      · skip
                        go_simp
                        refine hK.out _ _ ?_ (fun hHeld => ?_)
                        · try dsimp only
                          exact HS5.out _ (by repeat (first | exact hbx | apply ext_alloc | apply ext_drew | apply ext_drewN | exact Below.refl _ _))
                        clear hK K
                        refine wpAnyH_ready (rs := [7]) (by kernel_rfl) (by simp) ?_
                        refine AllReadyH.cons (take_list rfl) (fun K hK => ?_) ?_
                        · skip
                          refine step_appO _ rfl (.tmp 66) (.tmp 68) _ rfl _ _ 3 24 Try.underlying22 info_sp rfl A5 k c5 (spsV (l.take k)) rfl (by first | exact hr5.alloc _ | exact (hr5.alloc _).drew | exact hr5.drew.alloc _ | exact (hr5.drew.alloc _).drew) (some ⟨w5.heap.size, 0, none⟩) 1 1 [.int .i64 id, .int .i64 fi, .int .i64 (a + b)] rfl rfl (by first | exact Rd.lit_at _ #[.int .i64 id, .int .i64 fi, .int .i64 (a + b)] 24 rfl | exact (Rd.lit_at _ #[.int .i64 id, .int .i64 fi, .int .i64 (a + b)] 24 rfl).drew) (by intro u hu; simp at hu; rcases hu with rfl | rfl | rfl <;> rfl) (by intro h; cases h) (by unfold maxLen; omega) (by omega) ?_
                          intro A6 c6 w6 hr6 ho6 hA6
                          have hnew6 : ∀ j, inA A6 j → w4.heap.size ≤ j := fun j hj => by
                            have := hbx.size
                            rcases hA6 j hj with h | ⟨h, _⟩
                            · exact hnew5 j h
                            · first | omega | (simp at h; omega)
                          have hb6 : Below w4.heap.size w4 w6 := (show Below w4.heap.size w4 _ from (by repeat (first | exact hbx | apply ext_alloc | apply ext_drew | apply ext_drewN | exact Below.refl _ _))).trans (ho6.below (B := w4.heap.size) hnew5 (by have := hbx.size; first | (simp; done) | omega | (simp; omega)))
                          have hbx := hb6
                          refine hK.out _ _ ?_ (fun hHeld => ?_)
                          · try dsimp only
                            exact HS5.out _ (by repeat (first | exact hbx | apply ext_alloc | apply ext_drew | apply ext_drewN | exact Below.refl _ _))
                          clear hK K
                          refine wpAnyH_ready (rs := [12]) (by kernel_rfl) (by simp) ?_
                          refine AllReadyH.cons (take_list rfl) (fun K hK => ?_) ?_
                          · skip
                            refine step_appO _ rfl (.tmp 69) (.tmp 73) _ rfl _ _ 3 24 Try.underlying22 info_sp rfl A6 (k + 1) c6 (spsV (l.take k) ++ [.int .i64 id, .int .i64 fi, .int .i64 (a + b)]) rfl (by first | exact hr6 | exact hr6.drew) (some ⟨g, o + (k + 2) * 3, none⟩) (n - (k + 2)) _ (spsV (l.drop (k + 2))) rfl HT2.out (HRd.out _ (by repeat (first | exact hbx | apply ext_alloc | apply ext_drew | apply ext_drewN | exact Below.refl _ _))) (spsV_one _) (by intro h; cases h) (by unfold maxLen; omega) (by omega) ?_
                            intro A7 c7 w7 hr7 ho7 hA7
                            have hb7 : Below w4.heap.size w4 w7 := (show Below w4.heap.size w4 _ from (by repeat (first | exact hbx | apply ext_alloc | apply ext_drew | apply ext_drewN | exact Below.refl _ _))).trans (ho7.below (B := w4.heap.size) hnew6 (by have := hbx.size; first | (simp; done) | omega | (simp; omega)))
                            have hbx := hb7
                            refine hK.out _ _ ?_ (fun hHeld => ?_)
                            · try dsimp only
                              exact HS5.out _ (by repeat (first | exact hbx | apply ext_alloc | apply ext_drew | apply ext_drewN | exact Below.refl _ _))
                            clear hK K
                            refine wpAnyH_take (i := 13) (v := ?_) (take_list rfl) (by kernel_rfl) (by kernel_rfl) (by kernel_rfl) (fun _ _ _ h => h) (Or.inl ⟨by rfl, ?_⟩) (by assumption) ?_
                            rotate_left
                            · intro w hSw
                              try dsimp only at hSw
                              first | (go_simp; done) | (go_simp; with_reducible rfl)
                            try simp only [Act.put, List.setIfInBounds_toArray, List.set_cons_zero, List.set_cons_succ]
                            refine wpAnyH_take (i := 14) (v := ?_) (take_list rfl) (by kernel_rfl) (by kernel_rfl) (by kernel_rfl) (fun _ _ _ h => h) (Or.inl ⟨by rfl, ?_⟩) (by assumption) ?_
                            rotate_left
                            · intro w hSw
                              try dsimp only at hSw
                              first | (go_simp; done) | (go_simp; with_reducible rfl)
                            try simp only [Act.put, List.setIfInBounds_toArray, List.set_cons_zero, List.set_cons_succ]
                            refine wpAnyH_done (by kernel_rfl) ?_ _
                            go_wp2
                            go_ret2
                            exact ⟨A7, c7, by rw [Hc.out, Hj.out, HPL.out]; rfl, by rw [Hj.out]; rw [HPS.out] at hr7; exact RowO.sps (by first | exact hr7 | exact hr7.drew), ext_trans Hb3.out (ext_trans Hx4.out (by repeat (first | exact hbx | apply ext_alloc | apply ext_drew | apply ext_drewN | exact Below.refl _ _)))⟩
                          exact AllReadyH.nil
                        exact AllReadyH.nil
                      exact AllReadyH.nil
                    refine AllReadyH.cons (take_list rfl) (fun K hK => ?_) ?_
                    · skip
                      go_simp
                      refine hK.out _ _ ?_ (fun hHeld => ?_)
                      · try dsimp only
                        exact HS5.out _ (by repeat (first | exact hbx | apply ext_alloc | apply ext_drew | apply ext_drewN | exact Below.refl _ _))
                      clear hK K
                      refine wpAnyH_ready (rs := [4]) (by kernel_rfl) (by simp) ?_
                      refine AllReadyH.cons (take_list rfl) (fun K hK => ?_) ?_
                      · skip
                        refine step_appO _ rfl (.tmp 62) (.tmp 65) _ rfl _ _ 3 24 Try.underlying22 info_sp rfl (some ⟨w4.heap.size, 0, none⟩) 0 0 [] rfl (by first | exact (RowO.lit _ 24 3 0 #[] rfl (Nat.zero_le _) rfl).alloc _ | exact ((RowO.lit _ 24 3 0 #[] rfl (Nat.zero_le _) rfl).alloc _).drew) (some ⟨g, o, none⟩) k c (spsV (l.take k)) rfl HT1.out (HRt.out _ (by repeat (first | exact hbx | apply ext_alloc | apply ext_drew | apply ext_drewN | exact Below.refl _ _))) (spsV_one _) (by intro h; cases h) (by unfold maxLen; omega) (by omega) ?_
                        intro A5 c5 w5 hr5 ho5 hA5
                        have hone5 : Rd w5 (some ⟨w4.heap.size + 1, 0, none⟩) [.int .i64 id, .int .i64 fi, .int .i64 (a + b)] := Rd.only (by first | exact Rd.lit_at _ #[.int .i64 id, .int .i64 fi, .int .i64 (a + b)] 24 (World.size_alloc _ _).symm | exact (Rd.lit_at _ #[.int .i64 id, .int .i64 fi, .int .i64 (a + b)] 24 (World.size_alloc _ _).symm).drew) ho5 (fun ad e _ => by injection e with e; subst e; rw [inA_some]; simp)
                        have hnew5 : ∀ j, inA A5 j → w4.heap.size ≤ j := fun j hj => by
                          have := hbx.size
                          rcases hA5 j hj with h | ⟨h, _⟩
                          · rw [inA_some] at h; omega
                          · first | omega | (simp at h; omega)
                        have hb5 : Below w4.heap.size w4 w5 := (show Below w4.heap.size w4 _ from (by repeat (first | exact hbx | apply ext_alloc | apply ext_drew | apply ext_drewN | exact Below.refl _ _))).trans (ho5.below (B := w4.heap.size) (fun i hi => by have := hbx.size; rw [inA_some] at hi; omega) (by have := hbx.size; first | (simp; done) | omega | (simp; omega)))
                        have hbx := hb5
                        rw [List.nil_append, Nat.zero_add] at hr5
                        try simp only [Nat.zero_add]
                        refine hK.out _ _ ?_ (fun hHeld => ?_)
                        · try dsimp only
                          exact HS5.out _ (by repeat (first | exact hbx | apply ext_alloc | apply ext_drew | apply ext_drewN | exact Below.refl _ _))
                        clear hK K
                        refine wpAnyH_ready (rs := [7]) (by kernel_rfl) (by simp) ?_
                        refine AllReadyH.cons (take_list rfl) (fun K hK => ?_) ?_
                        · skip
                          refine step_appO _ rfl (.tmp 66) (.tmp 68) _ rfl _ _ 3 24 Try.underlying22 info_sp rfl A5 k c5 (spsV (l.take k)) rfl (by first | exact hr5 | exact hr5.drew) (some ⟨w4.heap.size + 1, 0, none⟩) 1 1 [.int .i64 id, .int .i64 fi, .int .i64 (a + b)] rfl rfl (by first | exact hone5 | exact hone5.drew) (by intro u hu; simp at hu; rcases hu with rfl | rfl | rfl <;> rfl) (by intro h; cases h) (by unfold maxLen; omega) (by omega) ?_
                          intro A6 c6 w6 hr6 ho6 hA6
                          have hnew6 : ∀ j, inA A6 j → w4.heap.size ≤ j := fun j hj => by
                            have := hbx.size
                            rcases hA6 j hj with h | ⟨h, _⟩
                            · exact hnew5 j h
                            · first | omega | (simp at h; omega)
                          have hb6 : Below w4.heap.size w4 w6 := (show Below w4.heap.size w4 _ from (by repeat (first | exact hbx | apply ext_alloc | apply ext_drew | apply ext_drewN | exact Below.refl _ _))).trans (ho6.below (B := w4.heap.size) hnew5 (by have := hbx.size; first | (simp; done) | omega | (simp; omega)))
                          have hbx := hb6
                          refine hK.out _ _ ?_ (fun hHeld => ?_)
                          · try dsimp only
                            exact HS5.out _ (by repeat (first | exact hbx | apply ext_alloc | apply ext_drew | apply ext_drewN | exact Below.refl _ _))
                          clear hK K
                          refine wpAnyH_ready (rs := [12]) (by kernel_rfl) (by simp) ?_
                          refine AllReadyH.cons (take_list rfl) (fun K hK => ?_) ?_
                          · skip
                            refine step_appO _ rfl (.tmp 69) (.tmp 73) _ rfl _ _ 3 24 Try.underlying22 info_sp rfl A6 (k + 1) c6 (spsV (l.take k) ++ [.int .i64 id, .int .i64 fi, .int .i64 (a + b)]) rfl (by first | exact hr6 | exact hr6.drew) (some ⟨g, o + (k + 2) * 3, none⟩) (n - (k + 2)) _ (spsV (l.drop (k + 2))) rfl HT2.out (HRd.out _ (by repeat (first | exact hbx | apply ext_alloc | apply ext_drew | apply ext_drewN | exact Below.refl _ _))) (spsV_one _) (by intro h; cases h) (by unfold maxLen; omega) (by omega) ?_
                            intro A7 c7 w7 hr7 ho7 hA7
                            have hb7 : Below w4.heap.size w4 w7 := (show Below w4.heap.size w4 _ from (by repeat (first | exact hbx | apply ext_alloc | apply ext_drew | apply ext_drewN | exact Below.refl _ _))).trans (ho7.below (B := w4.heap.size) hnew6 (by have := hbx.size; first | (simp; done) | omega | (simp; omega)))
                            have hbx := hb7
                            refine hK.out _ _ ?_ (fun hHeld => ?_)
                            · try dsimp only
                              exact HS5.out _ (by repeat (first | exact hbx | apply ext_alloc | apply ext_drew | apply ext_drewN | exact Below.refl _ _))
                            clear hK K
                            refine wpAnyH_take (i := 13) (v := ?_) (take_list rfl) (by kernel_rfl) (by kernel_rfl) (by kernel_rfl) (fun _ _ _ h => h) (Or.inl ⟨by rfl, ?_⟩) (by assumption) ?_
                            rotate_left
                            · intro w hSw
                              try dsimp only at hSw
                              first | (go_simp; done) | (go_simp; with_reducible rfl)
                            try simp only [Act.put, List.setIfInBounds_toArray, List.set_cons_zero, List.set_cons_succ]
                            refine wpAnyH_take (i := 14) (v := ?_) (take_list rfl) (by kernel_rfl) (by kernel_rfl) (by kernel_rfl) (fun _ _ _ h => h) (Or.inl ⟨by rfl, ?_⟩) (by assumption) ?_
                            rotate_left
                            · intro w hSw
                              try dsimp only at hSw
                              first | (go_simp; done) | (go_simp; with_reducible rfl)
                            try simp only [Act.put, List.setIfInBounds_toArray, List.set_cons_zero, List.set_cons_succ]
                            refine wpAnyH_done (by kernel_rfl) ?_ _
                            go_wp2
                            go_ret2
                            exact ⟨A7, c7, by rw [Hc.out, Hj.out, HPL.out]; rfl, by rw [Hj.out]; rw [HPS.out] at hr7; exact RowO.sps (by first | exact hr7 | exact hr7.drew), ext_trans Hb3.out (ext_trans Hx4.out (by repeat (first | exact hbx | apply ext_alloc | apply ext_drew | apply ext_drewN | exact Below.refl _ _)))⟩
                          exact AllReadyH.nil
                        exact AllReadyH.nil
                      exact AllReadyH.nil
                    exact AllReadyH.nil
                  refine AllReadyH.cons (take_list rfl) (fun K hK => ?_) ?_
                  · skip
                    go_simp
                    refine hK.out _ _ ?_ (fun hHeld => ?_)
                    · try dsimp only
                      exact HS5.out _ (by repeat (first | exact hbx | apply ext_alloc | apply ext_drew | apply ext_drewN | exact Below.refl _ _))
                    clear hK K
                    refine wpAnyH_ready (rs := [0]) (by kernel_rfl) (by simp) ?_
                    refine AllReadyH.cons (take_list rfl) (fun K hK => ?_) ?_
                    · skip
                      go_simp
                      refine hK.out _ _ ?_ (fun hHeld => ?_)
                      · try dsimp only
                        exact HS5.out _ (by repeat (first | exact hbx | apply ext_alloc | apply ext_drew | apply ext_drewN | exact Below.refl _ _))
                      clear hK K
                      refine wpAnyH_ready (rs := [4]) (by kernel_rfl) (by simp) ?_
                      refine AllReadyH.cons (take_list rfl) (fun K hK => ?_) ?_
                      · skip
                        refine step_appO _ rfl (.tmp 62) (.tmp 65) _ rfl _ _ 3 24 Try.underlying22 info_sp rfl (some ⟨w4.heap.size + 1, 0, none⟩) 0 0 [] rfl (by first | exact RowO.lit _ 24 3 0 #[] rfl (Nat.zero_le _) (World.size_alloc _ _).symm | exact (RowO.lit _ 24 3 0 #[] rfl (Nat.zero_le _) (World.size_alloc _ _).symm).drew) (some ⟨g, o, none⟩) k c (spsV (l.take k)) rfl HT1.out (HRt.out _ (by repeat (first | exact hbx | apply ext_alloc | apply ext_drew | apply ext_drewN | exact Below.refl _ _))) (spsV_one _) (by intro h; cases h) (by unfold maxLen; omega) (by omega) ?_
                        intro A5 c5 w5 hr5 ho5 hA5
                        have hone5 : Rd w5 (some ⟨w4.heap.size, 0, none⟩) [.int .i64 id, .int .i64 fi, .int .i64 (a + b)] := Rd.only (by first | exact (Rd.lit_at _ #[.int .i64 id, .int .i64 fi, .int .i64 (a + b)] 24 rfl).alloc _ | exact ((Rd.lit_at _ #[.int .i64 id, .int .i64 fi, .int .i64 (a + b)] 24 rfl).alloc _).drew) ho5 (fun ad e _ => by injection e with e; subst e; rw [inA_some]; simp)
                        have hnew5 : ∀ j, inA A5 j → w4.heap.size ≤ j := fun j hj => by
                          have := hbx.size
                          rcases hA5 j hj with h | ⟨h, _⟩
                          · rw [inA_some] at h; omega
                          · first | omega | (simp at h; omega)
                        have hb5 : Below w4.heap.size w4 w5 := (show Below w4.heap.size w4 _ from (by repeat (first | exact hbx | apply ext_alloc | apply ext_drew | apply ext_drewN | exact Below.refl _ _))).trans (ho5.below (B := w4.heap.size) (fun i hi => by have := hbx.size; rw [inA_some] at hi; omega) (by have := hbx.size; first | (simp; done) | omega | (simp; omega)))
                        have hbx := hb5
                        rw [List.nil_append, Nat.zero_add] at hr5
                        try simp only [Nat.zero_add]
                        refine hK.out _ _ ?_ (fun hHeld => ?_)
                        · try dsimp only
                          exact HS5.out _ (by repeat (first | exact hbx | apply ext_alloc | apply ext_drew | apply ext_drewN | exact Below.refl _ _))
                        clear hK K
                        refine wpAnyH_ready (rs := [7]) (by kernel_rfl) (by simp) ?_
                        refine AllReadyH.cons (take_list rfl) (fun K hK => ?_) ?_
                        · skip
                          refine step_appO _ rfl (.tmp 66) (.tmp 68) _ rfl _ _ 3 24 Try.underlying22 info_sp rfl A5 k c5 (spsV (l.take k)) rfl (by first | exact hr5 | exact hr5.drew) (some ⟨w4.heap.size, 0, none⟩) 1 1 [.int .i64 id, .int .i64 fi, .int .i64 (a + b)] rfl rfl (by first | exact hone5 | exact hone5.drew) (by intro u hu; simp at hu; rcases hu with rfl | rfl | rfl <;> rfl) (by intro h; cases h) (by unfold maxLen; omega) (by omega) ?_
                          intro A6 c6 w6 hr6 ho6 hA6
                          have hnew6 : ∀ j, inA A6 j → w4.heap.size ≤ j := fun j hj => by
                            have := hbx.size
                            rcases hA6 j hj with h | ⟨h, _⟩
                            · exact hnew5 j h
                            · first | omega | (simp at h; omega)
                          have hb6 : Below w4.heap.size w4 w6 := (show Below w4.heap.size w4 _ from (by repeat (first | exact hbx | apply ext_alloc | apply ext_drew | apply ext_drewN | exact Below.refl _ _))).trans (ho6.below (B := w4.heap.size) hnew5 (by have := hbx.size; first | (simp; done) | omega | (simp; omega)))
                          have hbx := hb6
                          refine hK.out _ _ ?_ (fun hHeld => ?_)
                          · try dsimp only
                            exact HS5.out _ (by repeat (first | exact hbx | apply ext_alloc | apply ext_drew | apply ext_drewN | exact Below.refl _ _))
                          clear hK K
                          refine wpAnyH_ready (rs := [12]) (by kernel_rfl) (by simp) ?_
                          refine AllReadyH.cons (take_list rfl) (fun K hK => ?_) ?_
                          · skip
                            refine step_appO _ rfl (.tmp 69) (.tmp 73) _ rfl _ _ 3 24 Try.underlying22 info_sp rfl A6 (k + 1) c6 (spsV (l.take k) ++ [.int .i64 id, .int .i64 fi, .int .i64 (a + b)]) rfl (by first | exact hr6 | exact hr6.drew) (some ⟨g, o + (k + 2) * 3, none⟩) (n - (k + 2)) _ (spsV (l.drop (k + 2))) rfl HT2.out (HRd.out _ (by repeat (first | exact hbx | apply ext_alloc | apply ext_drew | apply ext_drewN | exact Below.refl _ _))) (spsV_one _) (by intro h; cases h) (by unfold maxLen; omega) (by omega) ?_
                            intro A7 c7 w7 hr7 ho7 hA7
                            have hb7 : Below w4.heap.size w4 w7 := (show Below w4.heap.size w4 _ from (by repeat (first | exact hbx | apply ext_alloc | apply ext_drew | apply ext_drewN | exact Below.refl _ _))).trans (ho7.below (B := w4.heap.size) hnew6 (by have := hbx.size; first | (simp; done) | omega | (simp; omega)))
                            have hbx := hb7
                            refine hK.out _ _ ?_ (fun hHeld => ?_)
                            · try dsimp only
                              exact HS5.out _ (by repeat (first | exact hbx | apply ext_alloc | apply ext_drew | apply ext_drewN | exact Below.refl _ _))
                            clear hK K
                            refine wpAnyH_take (i := 13) (v := ?_) (take_list rfl) (by kernel_rfl) (by kernel_rfl) (by kernel_rfl) (fun _ _ _ h => h) (Or.inl ⟨by rfl, ?_⟩) (by assumption) ?_
                            rotate_left
                            · intro w hSw
                              try dsimp only at hSw
                              first | (go_simp; done) | (go_simp; with_reducible rfl)
                            try simp only [Act.put, List.setIfInBounds_toArray, List.set_cons_zero, List.set_cons_succ]
                            refine wpAnyH_take (i := 14) (v := ?_) (take_list rfl) (by kernel_rfl) (by kernel_rfl) (by kernel_rfl) (fun _ _ _ h => h) (Or.inl ⟨by rfl, ?_⟩) (by assumption) ?_
                            rotate_left
                            · intro w hSw
                              try dsimp only at hSw
                              first | (go_simp; done) | (go_simp; with_reducible rfl)
                            try simp only [Act.put, List.setIfInBounds_toArray, List.set_cons_zero, List.set_cons_succ]
                            refine wpAnyH_done (by kernel_rfl) ?_ _
                            go_wp2
                            go_ret2
                            exact ⟨A7, c7, by rw [Hc.out, Hj.out, HPL.out]; rfl, by rw [Hj.out]; rw [HPS.out] at hr7; exact RowO.sps (by first | exact hr7 | exact hr7.drew), ext_trans Hb3.out (ext_trans Hx4.out (by repeat (first | exact hbx | apply ext_alloc | apply ext_drew | apply ext_drewN | exact Below.refl _ _)))⟩
                          exact AllReadyH.nil
                        exact AllReadyH.nil
                      exact AllReadyH.nil
                    exact AllReadyH.nil
                  exact AllReadyH.nil
              exact AllReadyH.nil
            exact AllReadyH.nil
          exact AllReadyH.nil
end Go.Proofs.Ythomhhnioadpmaa
