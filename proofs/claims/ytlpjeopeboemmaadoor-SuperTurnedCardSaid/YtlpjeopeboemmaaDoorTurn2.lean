/-
  A walk of the law SuperTurned. No statement of the seat is proved here.
-/
import Derived.Test.YtlpjeopeboemmaaDoorTurn
import Derived.Deep.RegionHeldLaw
namespace Go.Proofs.YtlpjeopeboemmaaDoor
open Go Go.RowKit

set_option maxRecDepth 100000 in
set_option maxHeartbeats 400000 in
theorem walk_twice (A B : Option Addr) (n m c d : Nat) (xa xb : List UInt8) (at_ by_ : Int) (W : World) (ht : Tab W) (ha : Bs W A n c xa) (hb : Bs W B m d xb) (la : xa.length ≤ 814) (lb : xb.length ≤ 814) (hb0 : by_ ≠ 0) (hb1 : 0 ≤ by_) (hb2 : by_ ≤ 255) :
    Calls Tryd.prog 9 #[.slice A n c, .slice B m d, .int .i64 at_, .int .u8 by_, .bool false] W fun e w' => e = .returned (.bool true) ∧ Below W.heap.size W w' := by
  have hn := ha.1
  have hm := hb.1
  subst hn hm
  obtain ⟨mk, hmk, hmk2⟩ := mask20 at_
  have la' : (xa.length : Int) ≤ 814 := by omega
  have lb' : (xb.length : Int) ≤ 814 := by omega
  have hby : (by_ == 0) = false := beq_eq_false_iff_ne.2 hb0
  have hnew := new_step 32 W W (Below.refl _ _) (by omega) (by omega)
  have Hnew := Lib.hid hnew
  clear hnew
  have hbA : ∀ w1 : World, ∀ ad, A = some ad → xa ≠ [] → ¬ Born W w1 ad.block := fun w1 ad e hne hk => by
    obtain ⟨ad', e', hc⟩ := ha.2.2.at_ (k := 0) (by have := List.length_pos_iff.2 hne; simpa using this)
    rw [e] at e'
    injection e' with e'
    subst e'
    have h1 := World.block_lt_of_cell? W _ hc
    rw [block_add] at h1
    have := hk.1
    omega
  have HbA := Lib.hid hbA
  clear hbA
  go_enter Tryd.func9, Tryd.ntmps9
  go_wp2_with fail
  refine Hnew.out.mono ?_
  rintro e w1 ⟨gd, rfl, hI1, hbw1⟩
  go_wp2_with fail
  refine (step_format hI1 hbw1 ht (small_mono (small_zero 32) (by omega)) (by simp [zeroS]) (Below.refl _ _) A _ c xa (ha.ext hbw1) (HbA.out w1) la).mono ?_
  rintro e w2 ⟨g, s, rfl, hO, hA, hi, hN, hsl, hl, hlen, hs0, hs1⟩
  have hl32 : s.S.length = 32 := by rw [hlen]; simp [zeroS]
  rcases commit_sem hA xb lb (by omega) with ⟨s2, e2, hA2, hi2, hN2, hl2, hsl2, ho2, hslot2, hn2⟩ | ⟨h0, _⟩
  case inr => omega
  rw [hsl] at ho2 hn2 hslot2
  rw [hs0] at ho2
  rw [hN] at hn2
  have hcm := step_commit hO (hA.small _ (by omega)) B _ d xb (hb.ext hO.bel) (by unfold maxLen; omega)
  rw [e2] at hcm
  have Hcm := Lib.hid hcm
  clear hcm e2 hs0 hs1
  go_wp2_with fail
  refine Hcm.out.mono ?_
  rintro e w2' ⟨rfl, hO2⟩
  have hll := hsl2 hl
  have hl322 : s2.S.length = 32 := by omega
  clear hO hA hi hN hsl hl hlen hl32 hsl2 hl2 hN2 Hcm
  obtain ⟨q, hq⟩ : ∃ q, q = mk % 1024 / 64 := ⟨_, rfl⟩
  obtain ⟨j, hj⟩ : ∃ j, j = mk % 64 := ⟨_, rfl⟩
  have hq16 : q < 16 := by omega
  have hj64 : j < 64 := by omega
  obtain ⟨gc, BB, CC, hL⟩ := hO2.imp
  have hrd := read_ok hL (hA2.small _ (by omega)) (16 + q) (by omega)
  have eq1 : ((16 + q : Nat) : Int) = 16 + (mk : Int) % 1024 / 64 := by omega
  rw [eq1] at hrd
  obtain ⟨x, hx⟩ : ∃ x, (rowOf 2 q xb)[j]? = some x := ⟨_, List.getElem?_eq_getElem (by rw [row_length lb hq16]; exact hj64)⟩
  obtain ⟨y, hy1, hy2⟩ := xor_byte x by_ hb0 hb1 hb2
  have hyx : (rowOf 2 q xb)[j]? ≠ some y := by rw [hx]; intro e; injection e with e; exact hy2 e.symm
  obtain ⟨p1, p2, p3⟩ := spoilt (S := s2.S) (slot := 1) (n := 2) (q := q) (j := j) (img := xb) (by omega) (by omega) lb hn2 hq16 hj64 y hyx
  rw [show s2.S[16 + q]'(by omega) = s2.S[1 * 16 + q]'(by omega) by simp] at hrd
  rw [p1] at hrd
  have Hrd := Lib.hid hrd
  have hq0 : ((1 * 16 + q : Nat) : Int) = 16 + (mk : Int) % 1024 / 64 := by omega
  have hwlen : (rowOf 2 q xb).length = 64 := row_length lb hq16
  obtain ⟨-, -, w2c⟩ := write_plain (S := s2.S) (i := 1 * 16 + q) (by omega) (bs := (rowOf 2 q xb).set j y) (by rw [List.length_set]; exact hwlen)
  have htell : Tells (lasts (writeS s2.S (-1) ((1 * 16 + q : Nat) : Int) ((rowOf 2 q xb).set j y))) xa (mostD (lasts (writeS s2.S (-1) ((1 * 16 + q : Nat) : Int) ((rowOf 2 q xb).set j y)))) 0 := by
    refine tells_of (n := 1) (by omega) (by omega) ?_ ?_
    · rw [show 1 - 1 = 0 from rfl] at p3
      rw [p3, ho2]
      exact unpack_pack (by omega) (by omega) la
    · rw [show 1 - 0 = 1 from rfl, p2]; omega
  have Htell := Lib.hid htell
  have Hw2c := Lib.hid w2c
  have Hx := Lib.hid hx
  have hsm9 : Small 999999 s2.S := hA2.small _ (by omega)
  have hsmw := small_write hsm9 (-1) ((1 * 16 + q : Nat) : Int) ((rowOf 2 q xb).set j y)
  have hlenw := writeS_length s2.S (-1) ((1 * 16 + q : Nat) : Int) ((rowOf 2 q xb).set j y)
  have Hlenw := Lib.hid hlenw
  clear hrd eq1 p1 p2 p3 htell w2c hx hyx hlenw ho2 hn2 hslot2
  go_wp2_with fail
  refine Hrd.out.mono ?_
  rintro e w3 ⟨g', rfl, hb3, hk3, hg3⟩
  have hcx : w3.cell? ⟨g', mk % 64, none⟩ = some (.int .u8 (x.toNat : Int)) := by
    rw [hk3.cell, ← hj, List.getElem?_toArray, List.getElem?_map, Hx.out]; rfl
  have hcf : w3.frozen? ⟨g', mk % 64, none⟩ = false := hk3.free _
  have hIs := hO2.imp
  rw [hll] at hIs
  obtain ⟨hI4, hb4⟩ := spoil_imp hIs hO2.bel hb3 hg3 (mk % 64) (.int .u8 (y.toNat : Int))
  have hrd4 : Rd (w3.setCell ⟨g', mk % 64, none⟩ (.int .u8 (y.toNat : Int))) (some ⟨g', 0, none⟩) (((rowOf 2 q xb).set j y).map bv) := by
    rw [hj]
    exact Rd.blk (bytes_put hk3 _ _)
  have hwr := write_step hI4 hb4 hsm9 ((1 * 16 + q : Nat) : Int) (some ⟨g', 0, none⟩) 64 64 ((rowOf 2 q xb).set j y) (by rw [List.length_set]; exact hwlen.symm) hrd4
  rw [Hw2c.out, hq0] at hwr
  have Hwr := Lib.hid hwr
  have hx255 : (x.toNat : Int) ≤ 255 := by have := x.toNat_lt; omega
  clear hwr hk3 hrd4 hI4 hIs
  go_wp2_with fail
  refine Hwr.out.mono ?_
  rintro e w5 ⟨rfl, hI5, hb5⟩
  rw [← hq0] at hI5
  have hop := step_open hI5 hb5 ht (small_mono hsmw (by omega)) (by rw [Hlenw.out]; omega) Htell.out
  have Hop := Lib.hid hop
  clear hop hI5 Hwr
  go_wp2_with fail
  refine Hop.out.mono ?_
  rintro e w6 ⟨g6, rfl, hO6, hb6⟩
  have him := step_image hO6.drew
  dsimp only at him
  have Him := Lib.hid him
  have hkn : ∀ w8, Tab w8 → Calls Tryd.prog 18 #[] w8 fun e w' => e = .returned (.bool true) ∧ Below w8.heap.size w8 w' := fun w8 h8 => known_any w8 h8
  have Hkn := Lib.hid hkn
  have haW := ha
  have hcva : ∀ w8, Below W.heap.size W w8 → (convert 22 9 (.slice A xa.length c)).run Tryd.prog w8 = .ok (.string ⟨xa.toArray⟩) w8 := fun w8 h8 => conv_bytes w8 A _ c xa rfl (ha.2.2.ext h8)
  have hcv1 := hcva _ hO6.drew.bel
  have Hcva := Lib.hid hcva
  clear him hkn hcva haW ha hb HbA Hnew Hx Htell Hlenw Hw2c hsm9 hsmw hO2 hA2 hL hcx hcf hx255 hq hj hq16 hj64 hy1 hy2 hq0 hwlen hmk hmk2 hby hb0 hb1 hb2 hll hl322 hb3 hg3 hb4 hi2
  generalize hZ : (⟨xa.toArray⟩ : ByteArray) = Z at *
  have HZ := Lib.hid hZ
  clear hZ
  go_wp2
  refine wp_region_held_drew (S := fun _ => True) (by kernel_rfl) ?_ (fun hHeld => ?_)
  · try trivial
  refine wpAnyH_take (i := 0) (v := ?_) (take_list rfl) (by kernel_rfl) (by kernel_rfl) (by kernel_rfl) (fun _ _ _ h => h) (Or.inl ⟨by rfl, ?_⟩) (by assumption) ?_
  rotate_left
  · intro w hSw
    try dsimp only at hSw
    first | (go_simp; done) | (go_simp; with_reducible rfl)
  try simp only [Act.put, List.setIfInBounds_toArray, List.set_cons_zero, List.set_cons_succ]
  refine wpAnyH_take (i := 1) (v := ?_) (take_list rfl) (by kernel_rfl) (by kernel_rfl) (by kernel_rfl) (fun _ _ _ h => h) (Or.inl ⟨by rfl, ?_⟩) (by assumption) ?_
  rotate_left
  · intro w hSw
    try dsimp only at hSw
    first | (go_simp; done) | (go_simp; with_reducible rfl)
  try simp only [Act.put, List.setIfInBounds_toArray, List.set_cons_zero, List.set_cons_succ]
  refine wpAnyH_take (i := 2) (v := ?_) (take_list rfl) (by kernel_rfl) (by kernel_rfl) (by kernel_rfl) (fun _ _ _ h => h) (Or.inl ⟨by rfl, ?_⟩) (by assumption) ?_
  rotate_left
  · intro w hSw
    try dsimp only at hSw
    first | (go_simp; done) | (go_simp; with_reducible rfl)
  try simp only [Act.put, List.setIfInBounds_toArray, List.set_cons_zero, List.set_cons_succ]
  refine wpAnyH_take (i := 3) (v := ?_) (take_list rfl) (by kernel_rfl) (by kernel_rfl) (by kernel_rfl) (fun _ _ _ h => h) (Or.inl ⟨by rfl, ?_⟩) (by assumption) ?_
  rotate_left
  · intro w hSw
    try dsimp only at hSw
    first | (go_simp; done) | (go_simp; with_reducible rfl)
  try simp only [Act.put, List.setIfInBounds_toArray, List.set_cons_zero, List.set_cons_succ]
  refine wpAnyH_take (i := 4) (v := ?_) (take_list rfl) (by kernel_rfl) (by kernel_rfl) (by kernel_rfl) (fun _ _ _ h => h) (Or.inl ⟨by rfl, ?_⟩) (by assumption) ?_
  rotate_left
  · intro w hSw
    try dsimp only at hSw
    first | (go_simp; done) | (go_simp; with_reducible rfl)
  try simp only [Act.put, List.setIfInBounds_toArray, List.set_cons_zero, List.set_cons_succ]
  refine wpAnyH_take (i := 5) (v := ?_) (take_list rfl) (by kernel_rfl) (by kernel_rfl) (by kernel_rfl) (fun _ _ _ h => h) (Or.inl ⟨by rfl, ?_⟩) (by assumption) ?_
  rotate_left
  · intro w hSw
    try dsimp only at hSw
    first | (go_simp; done) | (go_simp; with_reducible rfl)
  try simp only [Act.put, List.setIfInBounds_toArray, List.set_cons_zero, List.set_cons_succ]
  refine wpAnyH_take (i := 6) (v := ?_) (take_list rfl) (by kernel_rfl) (by kernel_rfl) (by kernel_rfl) (fun _ _ _ h => h) (Or.inl ⟨by rfl, ?_⟩) (by assumption) ?_
  rotate_left
  · intro w hSw
    try dsimp only at hSw
    first | (go_simp; done) | (go_simp; with_reducible rfl)
  try simp only [Act.put, List.setIfInBounds_toArray, List.set_cons_zero, List.set_cons_succ]
  refine wpAnyH_take (i := 7) (v := ?_) (take_list rfl) (by kernel_rfl) (by kernel_rfl) (by kernel_rfl) (fun _ _ _ h => h) (Or.inl ⟨by rfl, ?_⟩) (by assumption) ?_
  rotate_left
  · intro w hSw
    try dsimp only at hSw
    first | (go_simp; done) | (go_simp; with_reducible rfl)
  try simp only [Act.put, List.setIfInBounds_toArray, List.set_cons_zero, List.set_cons_succ]
  refine wpAnyH_take (i := 10) (v := ?_) (take_list rfl) (by kernel_rfl) (by kernel_rfl) (by kernel_rfl) (fun _ _ _ h => h) (Or.inl ⟨by rfl, ?_⟩) (by assumption) ?_
  rotate_left
  · intro w hSw
    try dsimp only at hSw
    first | (go_simp; done) | (go_simp; with_reducible rfl)
  try simp only [Act.put, List.setIfInBounds_toArray, List.set_cons_zero, List.set_cons_succ]
  refine wpAnyH_ready (rs := [8, 11]) (by kernel_rfl) (by simp) ?_
  refine AllReadyH.cons (take_list rfl) (fun K hK => ?_) ?_
  · skip
    go_simp
    refine Him.out.mono ?_
    rintro e w8 ⟨A8, c8, rfl, hB8, hO8, hb8⟩
    have hcv8 := conv_bytes w8 A8 _ c8 xa rfl hB8.2.2
    rw [HZ.out] at hcv8
    have hcv9 := Hcva.out w8 hO8.bel
    clear hB8 hb8
    dsimp only
    refine hK.out _ _ ?_ (fun hHeld => ?_)
    · try dsimp only
      try trivial
    clear hK K
    refine wpAnyH_ready (rs := [9, 11]) (by kernel_rfl) (by simp) ?_
    refine AllReadyH.cons (take_list rfl) (fun K hK => ?_) ?_
    · skip
      go_simp
      refine hK.out _ _ ?_ (fun hHeld => ?_)
      · try dsimp only
        try trivial
      clear hK K
      refine wpAnyH_ready (rs := [11]) (by kernel_rfl) (by simp) ?_
      refine AllReadyH.cons (take_list rfl) (fun K hK => ?_) ?_
      · skip
        go_simp
        refine hK.out _ _ ?_ (fun hHeld => ?_)
        · try dsimp only
          try trivial
        clear hK K
        refine wpAnyH_take (i := 12) (v := ?_) (take_list rfl) (by kernel_rfl) (by kernel_rfl) (by kernel_rfl) (fun _ _ _ h => h) (Or.inl ⟨by rfl, ?_⟩) (by assumption) ?_
        rotate_left
        · intro w hSw
          try dsimp only at hSw
          first | (go_simp; done) | (go_simp; with_reducible rfl)
        try simp only [Act.put, List.setIfInBounds_toArray, List.set_cons_zero, List.set_cons_succ]
        refine wpAnyH_take (i := 13) (v := ?_) (take_list rfl) (by kernel_rfl) (by kernel_rfl) (by kernel_rfl) (fun _ _ _ h => h) (Or.inl ⟨by rfl, ?_⟩) (by assumption) ?_
        rotate_left
        · intro w hSw
          try dsimp only at hSw
          first | (go_simp; done) | (go_simp; with_reducible rfl)
        try simp only [Act.put, List.setIfInBounds_toArray, List.set_cons_zero, List.set_cons_succ]
        refine wpAnyH_take (i := 14) (v := ?_) (take_list rfl) (by kernel_rfl) (by kernel_rfl) (by kernel_rfl) (fun _ _ _ h => h) (Or.inl ⟨by rfl, ?_⟩) (by assumption) ?_
        rotate_left
        · intro w hSw
          try dsimp only at hSw
          first | (go_simp; done) | (go_simp; with_reducible rfl)
        try simp only [Act.put, List.setIfInBounds_toArray, List.set_cons_zero, List.set_cons_succ]
        refine wpAnyH_ready (rs := [15]) (by kernel_rfl) (by simp) ?_
        refine AllReadyH.cons (take_list rfl) (fun K hK => ?_) ?_
        · skip
          go_simp
          refine (Hkn.out _ hO8.tb).mono ?_
          rintro e w9 ⟨rfl, hb9⟩
          dsimp only
          refine hK.out _ _ ?_ (fun hHeld => ?_)
          · try dsimp only
            try trivial
          clear hK K
          refine wpAnyH_take (i := 16) (v := ?_) (take_list rfl) (by kernel_rfl) (by kernel_rfl) (by kernel_rfl) (fun _ _ _ h => h) (Or.inl ⟨by rfl, ?_⟩) (by assumption) ?_
          rotate_left
          · intro w hSw
            try dsimp only at hSw
            first | (go_simp; done) | (go_simp; with_reducible rfl)
          try simp only [Act.put, List.setIfInBounds_toArray, List.set_cons_zero, List.set_cons_succ]
          refine wpAnyH_ready (rs := [17]) (by kernel_rfl) (by simp) ?_
          refine AllReadyH.cons (take_list rfl) (fun K hK => ?_) ?_
          · skip
            go_simp
            refine hK.out _ _ ?_ (fun hHeld => ?_)
            · try dsimp only
              try trivial
            clear hK K
            refine wpAnyH_done (by kernel_rfl) ?_ _
            go_wp2
            go_ret
            exact ⟨rfl, ext_trans hO8.bel hb9⟩
          exact AllReadyH.nil
        exact AllReadyH.nil
      exact AllReadyH.nil
    refine AllReadyH.cons (take_list rfl) (fun K hK => ?_) ?_
    · skip
      go_simp
      refine hK.out _ _ ?_ (fun hHeld => ?_)
      · try dsimp only
        try trivial
      clear hK K
      refine wpAnyH_ready (rs := [9]) (by kernel_rfl) (by simp) ?_
      refine AllReadyH.cons (take_list rfl) (fun K hK => ?_) ?_
      · skip
        go_simp
        refine hK.out _ _ ?_ (fun hHeld => ?_)
        · try dsimp only
          try trivial
        clear hK K
        refine wpAnyH_take (i := 12) (v := ?_) (take_list rfl) (by kernel_rfl) (by kernel_rfl) (by kernel_rfl) (fun _ _ _ h => h) (Or.inl ⟨by rfl, ?_⟩) (by assumption) ?_
        rotate_left
        · intro w hSw
          try dsimp only at hSw
          first | (go_simp; done) | (go_simp; with_reducible rfl)
        try simp only [Act.put, List.setIfInBounds_toArray, List.set_cons_zero, List.set_cons_succ]
        refine wpAnyH_take (i := 13) (v := ?_) (take_list rfl) (by kernel_rfl) (by kernel_rfl) (by kernel_rfl) (fun _ _ _ h => h) (Or.inl ⟨by rfl, ?_⟩) (by assumption) ?_
        rotate_left
        · intro w hSw
          try dsimp only at hSw
          first | (go_simp; done) | (go_simp; with_reducible rfl)
        try simp only [Act.put, List.setIfInBounds_toArray, List.set_cons_zero, List.set_cons_succ]
        refine wpAnyH_take (i := 14) (v := ?_) (take_list rfl) (by kernel_rfl) (by kernel_rfl) (by kernel_rfl) (fun _ _ _ h => h) (Or.inl ⟨by rfl, ?_⟩) (by assumption) ?_
        rotate_left
        · intro w hSw
          try dsimp only at hSw
          first | (go_simp; done) | (go_simp; with_reducible rfl)
        try simp only [Act.put, List.setIfInBounds_toArray, List.set_cons_zero, List.set_cons_succ]
        refine wpAnyH_ready (rs := [15]) (by kernel_rfl) (by simp) ?_
        refine AllReadyH.cons (take_list rfl) (fun K hK => ?_) ?_
        · skip
          go_simp
          refine (Hkn.out _ hO8.tb).mono ?_
          rintro e w9 ⟨rfl, hb9⟩
          dsimp only
          refine hK.out _ _ ?_ (fun hHeld => ?_)
          · try dsimp only
            try trivial
          clear hK K
          refine wpAnyH_take (i := 16) (v := ?_) (take_list rfl) (by kernel_rfl) (by kernel_rfl) (by kernel_rfl) (fun _ _ _ h => h) (Or.inl ⟨by rfl, ?_⟩) (by assumption) ?_
          rotate_left
          · intro w hSw
            try dsimp only at hSw
            first | (go_simp; done) | (go_simp; with_reducible rfl)
          try simp only [Act.put, List.setIfInBounds_toArray, List.set_cons_zero, List.set_cons_succ]
          refine wpAnyH_ready (rs := [17]) (by kernel_rfl) (by simp) ?_
          refine AllReadyH.cons (take_list rfl) (fun K hK => ?_) ?_
          · skip
            go_simp
            refine hK.out _ _ ?_ (fun hHeld => ?_)
            · try dsimp only
              try trivial
            clear hK K
            refine wpAnyH_done (by kernel_rfl) ?_ _
            go_wp2
            go_ret
            exact ⟨rfl, ext_trans hO8.bel hb9⟩
          exact AllReadyH.nil
        exact AllReadyH.nil
      exact AllReadyH.nil
    exact AllReadyH.nil
  refine AllReadyH.cons (take_list rfl) (fun K hK => ?_) ?_
  · skip
    go_simp
    refine hK.out _ _ ?_ (fun hHeld => ?_)
    · try dsimp only
      try trivial
    clear hK K
    refine wpAnyH_ready (rs := [8]) (by kernel_rfl) (by simp) ?_
    refine AllReadyH.cons (take_list rfl) (fun K hK => ?_) ?_
    · skip
      go_simp
      refine Him.out.mono ?_
      rintro e w8 ⟨A8, c8, rfl, hB8, hO8, hb8⟩
      have hcv8 := conv_bytes w8 A8 _ c8 xa rfl hB8.2.2
      rw [HZ.out] at hcv8
      have hcv9 := Hcva.out w8 hO8.bel
      clear hB8 hb8
      dsimp only
      refine hK.out _ _ ?_ (fun hHeld => ?_)
      · try dsimp only
        try trivial
      clear hK K
      refine wpAnyH_ready (rs := [9]) (by kernel_rfl) (by simp) ?_
      refine AllReadyH.cons (take_list rfl) (fun K hK => ?_) ?_
      · skip
        go_simp
        refine hK.out _ _ ?_ (fun hHeld => ?_)
        · try dsimp only
          try trivial
        clear hK K
        refine wpAnyH_take (i := 12) (v := ?_) (take_list rfl) (by kernel_rfl) (by kernel_rfl) (by kernel_rfl) (fun _ _ _ h => h) (Or.inl ⟨by rfl, ?_⟩) (by assumption) ?_
        rotate_left
        · intro w hSw
          try dsimp only at hSw
          first | (go_simp; done) | (go_simp; with_reducible rfl)
        try simp only [Act.put, List.setIfInBounds_toArray, List.set_cons_zero, List.set_cons_succ]
        refine wpAnyH_take (i := 13) (v := ?_) (take_list rfl) (by kernel_rfl) (by kernel_rfl) (by kernel_rfl) (fun _ _ _ h => h) (Or.inl ⟨by rfl, ?_⟩) (by assumption) ?_
        rotate_left
        · intro w hSw
          try dsimp only at hSw
          first | (go_simp; done) | (go_simp; with_reducible rfl)
        try simp only [Act.put, List.setIfInBounds_toArray, List.set_cons_zero, List.set_cons_succ]
        refine wpAnyH_take (i := 14) (v := ?_) (take_list rfl) (by kernel_rfl) (by kernel_rfl) (by kernel_rfl) (fun _ _ _ h => h) (Or.inl ⟨by rfl, ?_⟩) (by assumption) ?_
        rotate_left
        · intro w hSw
          try dsimp only at hSw
          first | (go_simp; done) | (go_simp; with_reducible rfl)
        try simp only [Act.put, List.setIfInBounds_toArray, List.set_cons_zero, List.set_cons_succ]
        refine wpAnyH_ready (rs := [15]) (by kernel_rfl) (by simp) ?_
        refine AllReadyH.cons (take_list rfl) (fun K hK => ?_) ?_
        · skip
          go_simp
          refine (Hkn.out _ hO8.tb).mono ?_
          rintro e w9 ⟨rfl, hb9⟩
          dsimp only
          refine hK.out _ _ ?_ (fun hHeld => ?_)
          · try dsimp only
            try trivial
          clear hK K
          refine wpAnyH_take (i := 16) (v := ?_) (take_list rfl) (by kernel_rfl) (by kernel_rfl) (by kernel_rfl) (fun _ _ _ h => h) (Or.inl ⟨by rfl, ?_⟩) (by assumption) ?_
          rotate_left
          · intro w hSw
            try dsimp only at hSw
            first | (go_simp; done) | (go_simp; with_reducible rfl)
          try simp only [Act.put, List.setIfInBounds_toArray, List.set_cons_zero, List.set_cons_succ]
          refine wpAnyH_ready (rs := [17]) (by kernel_rfl) (by simp) ?_
          refine AllReadyH.cons (take_list rfl) (fun K hK => ?_) ?_
          · skip
            go_simp
            refine hK.out _ _ ?_ (fun hHeld => ?_)
            · try dsimp only
              try trivial
            clear hK K
            refine wpAnyH_done (by kernel_rfl) ?_ _
            go_wp2
            go_ret
            exact ⟨rfl, ext_trans hO8.bel hb9⟩
          exact AllReadyH.nil
        exact AllReadyH.nil
      exact AllReadyH.nil
    exact AllReadyH.nil
  exact AllReadyH.nil
end Go.Proofs.YtlpjeopeboemmaaDoor
