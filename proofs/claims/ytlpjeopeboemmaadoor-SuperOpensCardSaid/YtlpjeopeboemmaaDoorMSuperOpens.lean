/-
  SuperOpens holds for every two numbers and images, every place and every turned byte: of any sectors laid by hand whatever is opened, or that there is none. No condition.
-/
import Derived.Test.YtlpjeopeboemmaaDoorAll6
import Derived.Test.YtlpjeopeboemmaaDoorAll5
import Derived.Deep.RegionHeld3
namespace Go.Proofs.YtlpjeopeboemmaaDoor.SuperOpens
open Go Go.ChangeShapes Go.WideShapes Go.ChangeAt Go.RowKit

theorem big_out (n m at_ by_ : Int) (A B : Option Addr) (ca cb : Nat) (a b : List UInt8) (W : World) (hla : a.length ≤ maxLen) (hlb : b.length ≤ maxLen) (h : 814 < a.length ∨ 814 < b.length) :
    Calls Tryd.prog 6 #[.int .i64 n, .slice A a.length ca, .int .i64 m, .slice B b.length cb, .int .i64 at_, .int .u8 by_] W fun e w' => e = .returned (.bool true) ∧ Below W.heap.size W w' := by
  unfold maxLen at hla hlb
  by_cases ha : 814 < a.length
  · have hai : (814 : Int) < (a.length : Int) := by omega
    have hd : decide ((814 : Int) < (a.length : Int)) = true := decide_eq_true hai
    go_enter Tryd.func6, Tryd.ntmps6
    go_wp2
    go_ret
    exact ⟨rfl, Below.refl _ _⟩
  · have hai : (a.length : Int) ≤ 814 := by omega
    have hd : decide ((814 : Int) < (a.length : Int)) = false := decide_eq_false (by omega)
    have hbi : (814 : Int) < (b.length : Int) := by omega
    go_enter Tryd.func6, Tryd.ntmps6
    go_wp2
    go_ret
    exact ⟨rfl, Below.refl _ _⟩

set_option maxRecDepth 100000 in
set_option maxHeartbeats 8000000 in
theorem walk (n m at_ by_ : Int) (A B : Option Addr) (ca cb : Nat) (a b : List UInt8) (W : World) (ht : Tab W) (hn : isInt n) (hm : isInt m) (hat : isInt at_) (hby : 0 ≤ by_ ∧ by_ ≤ 255) (hA : Bs W A a.length ca a) (hB : Bs W B b.length cb b) (hla : a.length ≤ 814) (hlb : b.length ≤ 814) :
    Calls Tryd.prog 6 #[.int .i64 n, .slice A a.length ca, .int .i64 m, .slice B b.length cb, .int .i64 at_, .int .u8 by_] W fun e w' => e = .returned (.bool true) ∧ Below W.heap.size W w' := by
  have hnew := new_step 32 W W (Below.refl _ _) (by omega) (by omega)
  have hai : (a.length : Int) ≤ 814 := by omega
  have hd : decide ((814 : Int) < (a.length : Int)) = false := decide_eq_false (by omega)
  have hbi : (b.length : Int) ≤ 814 := by omega
  have Hnew := Lib.hid hnew
  clear hnew
  go_enter Tryd.func6, Tryd.ntmps6
  go_wp2_with fail
  refine Hnew.out.mono ?_
  rintro e w1 ⟨gd, rfl, hI1, hb1⟩
  have Hrn := Lib.hid (rnew_ok 32 w1 w1 (Below.refl _ _) (by omega) (by omega))
  go_wp2_with fail
  refine Hrn.out.mono ?_
  rintro e w2 ⟨gx, rfl, hb2, hR2, -⟩
  have hD2 := Dk.new (W := W) hI1 hR2 (Below.refl _ _) hb1 hb2
  have hbw2 := hD2.bel
  have hp1 := rpack_out n A _ ca a w2 hn (hA.ext hbw2) (by omega)
  have Hp1 := Lib.hid hp1
  clear hI1 hR2 hb1 hb2 Hnew Hrn hp1
  go_wp2_with fail
  refine Hp1.out.mono ?_
  rintro e w3 ⟨A1, c1, rfl, hc1, ho1, hb3⟩
  have hp2 := rpack_out m B _ cb b w3 hm (hB.ext (ext_trans hbw2 hb3)) (by omega)
  have Hp2 := Lib.hid hp2
  clear Hp1 hp2
  go_wp2_with fail
  refine Hp2.out.mono ?_
  rintro e w4 ⟨A2, c2, rfl, hc2, ho2, hb4⟩
  have hlen1 : (packI n a).length ≤ 16 := by
    unfold packI
    split
    · rw [packOf_length]; omega
    · simp
  have hlen2 : (packI m b).length ≤ 16 := by
    unfold packI
    split
    · rw [packOf_length]; omega
    · simp
  have h64 : ∀ r ∈ packI n a ++ packI m b, r.length = 64 := fun r hr => by
    rcases List.mem_append.1 hr with hr | hr
    · exact packI_64' r hr
    · exact packI_64' r hr
  have H64 := Lib.hid h64
  clear h64 Hp2
  generalize packI n a = P1 at *
  generalize packI m b = P2 at *
  obtain ⟨vs1, vs2, l1, l2, o1, r2, q2, hfin⟩ : ∃ vs1 vs2, vs1.length = P1.length ∧ vs2.length = P2.length ∧ Own w4 (fun k => inA A1 k) 22 A1 c1 vs1 ∧ Rd w4 A2 vs2 ∧ (∀ u ∈ vs2, u.oneCell' = true) ∧
      (∀ w5 A3 c3, Own w5 (More (fun k => inA A1 k) w4 w5) 22 A3 c3 (vs1 ++ vs2) → Only (fun k => inA A1 k) w4 w5 → RowsF (fun k => k < w2.heap.size) w5 A3 (P1 ++ P2) ∧ Below w2.heap.size w2 w5) := by
    exact out_append_all hb3 hb4 ho1 ho2
  have Hfin := Lib.hid hfin
  have Hl1 := Lib.hid l1
  have Hl2 := Lib.hid l2
  clear hfin l1 l2 ho1 ho2 hA hB
  go_wp2_with (first
    | (at_builtin
       refine wpList_app _ rfl (.tmp 44) (.tmp 47) _ rfl _ _ 24 Tryd.underlying50 info_rows rfl A1 P1.length c1 vs1 rfl Hl1.out.symm o1 A2 P2.length c2 vs2 rfl Hl2.out.symm r2 q2 ?_ ?_ ?_
       · unfold maxLen; omega
       · omega
       intro A3 c3 w5 hown5 ho5))
  obtain ⟨hF5, hb5⟩ := Hfin.out w5 A3 c3 hown5 ho5
  have hD5 := (hD2.fresh hb5).weak (G' := fun k => w2.heap.size ≤ k ∧ k < w5.heap.size) (fun k hk => .inr hk)
  have hplen : (P1 ++ P2).length = P1.length + P2.length := List.length_append
  rw [← hplen]
  have hle32 : (P1 ++ P2).length ≤ 32 := by omega
  clear hplen Hfin hown5 ho5 o1 r2 q2 Hl1 Hl2 hb3 hb4 hbw2 hD2 hlen1 hlen2 hc1 hc2 hb5
  generalize P1 ++ P2 = rows at *
  have hzs : (zeroS 32).length = 32 := by simp [zeroS]
  obtain ⟨x6, hx6, hx64⟩ := mask6 by_
  obtain ⟨hby0, hby1⟩ := hby
  have hsh0 : 0 ≤ by_ / 64 := by omega
  have hsh1 : by_ / 64 ≤ 3 := by omega
  generalize bits .and .i64 at_ 63 = atv at *
  go_wp2
  go_loopw [18, 19] (fun i _ wr => ∃ (k : Nat) (S : Sec) (l : Int), k ≤ rows.length ∧ i = .int .i64 (k : Int) ∧ Dk W wr (fun k => w2.heap.size ≤ k ∧ k < w5.heap.size) gd gx S l S l ∧ Small (1 + k) S ∧ S.length = 32 ∧ Kept (fun k => w2.heap.size ≤ k ∧ k < w5.heap.size) w5 wr) (fun i _ _ => rows.length - (intOf i).toNat)
  case atStart => exact ⟨0, _, _, Nat.zero_le _, rfl, hD5, small_zero 32, hzs, fun _ _ => rfl⟩
  case round =>
    clear hD5 hzs
    obtain ⟨k, S, l, hk, rfl, hD, hsm, hlen, hkt⟩ := hrel
    by_cases hlt : k < rows.length
    · have hki : (k : Int) < (rows.length : Int) := by omega
      have hki2 : (k : Int) < 32 := by omega
      obtain ⟨ad, Bk, ck, rfl, hcell, hlk, hrd⟩ := (hF5.kept (Nat.le_refl _) hkt).at_ hlt
      have hl64 := H64.out _ (List.getElem_mem hlt)
      rw [hl64] at hcell
      have Hl64 := Lib.hid hl64
      have hnew : New wr (wr.alloc (.cells #[] 5)) (some ⟨wr.heap.size, 0, none⟩) 0 [] := Own.lit wr _ #[] 5 (by unfold maxLen; simp) ⟨Nat.le_refl _, by rw [World.size_alloc]; omega⟩
      have hba : Below wr.heap.size wr (wr.alloc (.cells #[] 5)) := ext_alloc (Below.refl _ _) _
      have Hnew := Lib.hid hnew
      have Hba := Lib.hid hba
      have hrd' := Lib.hid (hrd.1.alloc (.cells #[] 5))
      clear hl64 hnew hrd hlk hba
      generalize rows[k] = row at *
      have hcell' : (wr.alloc (.cells #[] 5)).cell? (ad.add k) = some (.slice Bk 64 ck) := cell_ext hcell (ext_alloc (Below.refl _ _) _)
      obtain ⟨bq, hbq⟩ : ∃ bq : Bool, ((k : Int) == atv) = bq := ⟨_, rfl⟩
      -- what both writes leave
      have hround : ∀ (w6 w7 : World) (A6 : Option Addr) (c6 : Nat) (bs7 : List UInt8), Below wr.heap.size wr w6 → (∀ ad, A6 = some ad → wr.heap.size ≤ ad.block ∧ ad.block < w6.heap.size) → Dk W w7 (fun k => (w2.heap.size ≤ k ∧ k < w5.heap.size) ∨ (wr.heap.size ≤ k ∧ k < w6.heap.size)) gd gx S l S l → Bs w7 A6 64 c6 bs7 → Kept (fun k => w2.heap.size ≤ k ∧ k < w5.heap.size) wr w7 →
          Calls Tryd.prog 27 #[.pointer (some ⟨gd, 0, none⟩), .int .i64 (k : Int), .slice A6 64 c6] w7 fun e w8 => ∃ cd, e = .returned (.int .i64 cd) ∧
            Calls Tryd.prog 28 #[.pointer (some ⟨gx, 0, none⟩), .int .i64 (k : Int), .slice A6 64 c6] w8 fun e w9 => ∃ cd, e = .returned (.int .i64 cd) ∧ ∃ S' l', Dk W w9 (fun k => w2.heap.size ≤ k ∧ k < w5.heap.size) gd gx S' l' S' l' ∧ Small (1 + (k + 1)) S' ∧ S'.length = 32 ∧ Kept (fun k => w2.heap.size ≤ k ∧ k < w5.heap.size) w5 w9 := by
        intro w6 w7 A6 c6 bs7 hb6 hA6 hD7 hB7 hk7
        refine (dk_write hD7 (small_mono hsm (by omega)) (k : Int) A6 64 c6 bs7 hB7).mono ?_
        rintro e w8 ⟨rfl, hD8, hk8⟩
        refine ⟨_, rfl, ?_⟩
        refine (dk_rwrite hD8 (small_mono hsm (by omega)) (k : Int) A6 64 c6 bs7 (hB7.kept hk8 (fun ad e => .inr (hA6 ad e))) (fun ad e => .inr (hA6 ad e))).mono ?_
        rintro e w9 ⟨rfl, hD9, hk9⟩
        refine ⟨_, rfl, _, _, hD9.weak (fun k hk => .inl hk), small_mono (small_write hsm l (k : Int) bs7) (by omega), by rw [writeS_length]; exact hlen, fun k hk => ?_⟩
        rw [hk9 k (.inl hk), hk8 k (.inl hk), hk7 k hk, hkt k hk]
      have Hround := Lib.hid hround
      clear hround
      go_wp2_with (first
        | (at_builtin
           refine wpList_app _ rfl (.tmp 59) (.tmp 63) _ rfl _ _ 1 Tryd.underlying22 info_u8 rfl (some ⟨wr.heap.size, 0, none⟩) 0 0 (([] : List UInt8).map bv) rfl rfl Hnew.out Bk 64 ck (row.map bv) rfl ?_ hrd'.out (bvs_one _) ?_ ?_ ?_
           · rw [List.length_map, Hl64.out]
           · unfold maxLen; omega
           · omega
           intro A6 c6 w6 hown6 ho6
           obtain ⟨hn6, hb6⟩ := New.grow Hba.out hown6 ho6
           obtain ⟨g6, rfl, f6⟩ := new_at hn6 (by rw [List.nil_append, Hl64.out]; omega)
           have k6 := new_cell hn6 (x := x6) (by rw [List.nil_append, Hl64.out]; exact hx64)))
      · have hA6 := hn6.2 _ rfl
        have hw6 : W.heap.size ≤ g6 := Nat.le_trans hD.bel.size hA6.1
        have h6g : wr.heap.size ≤ g6 := hA6.1
        have hrl : x6 < row.length := by rw [Hl64.out]; exact hx64
        have hB6 : Bs w6 (some ⟨g6, 0, none⟩) 64 c6 row := hn6.bs' (by rw [List.nil_append]; exact Hl64.out.symm)
        have hstep : ∀ r, 0 ≤ r → r ≤ 255 → Calls Tryd.prog 27 #[.pointer (some ⟨gd, 0, none⟩), .int .i64 (k : Int), .slice (some ⟨g6, 0, none⟩) 64 c6] (w6.setCell ⟨g6, x6, none⟩ (.int .u8 r)) fun e w8 => ∃ cd, e = .returned (.int .i64 cd) ∧
            Calls Tryd.prog 28 #[.pointer (some ⟨gx, 0, none⟩), .int .i64 (k : Int), .slice (some ⟨g6, 0, none⟩) 64 c6] w8 fun e w9 => ∃ cd, e = .returned (.int .i64 cd) ∧ ∃ S' l', Dk W w9 (fun k => w2.heap.size ≤ k ∧ k < w5.heap.size) gd gx S' l' S' l' ∧ Small (1 + (k + 1)) S' ∧ S'.length = 32 ∧ Kept (fun k => w2.heap.size ≤ k ∧ k < w5.heap.size) w5 w9 := by
          intro r h0 h1
          obtain ⟨u, hu⟩ := byte_of h0 h1
          rw [hu]
          refine Hround.out w6 _ _ c6 (row.set x6 u) hb6 (fun ad e => by injection e with e; subst e; exact hA6) ((hD.fresh hb6).put (p := ⟨g6, x6, none⟩) (.inr hA6) hw6 (bv u)) (hB6.set1 hrl (f6 x6) u) (fun j hj => ?_)
          have hjl := hD.lt hj
          rw [Below.heap_setCell w6 ⟨g6, x6, none⟩ (bv u) j (by show j ≠ g6; omega)]
          exact hb6.block j hjl
        clear hn6 hB6 hown6 ho6 f6 k6 hcell hcell'
        refine (hstep _ (xor_byte _ _).1 (xor_byte _ _).2).mono ?_
        rintro e w8 ⟨cd, rfl, hcall⟩
        go_wp2_with fail
        refine hcall.mono ?_
        rintro e w9 ⟨cd2, rfl, S', l', hD9, hs9, hl9, hk9⟩
        clear hstep hcall
        go_wp2
        go_roundw
        case rel => exact ⟨k + 1, S', l', by omega, by go_num, hD9, hs9, hl9, hk9⟩
        case measure => simp [intOf]; omega
      · have hB6 : Bs w6 (some ⟨g6, 0, none⟩) 64 c6 row := hn6.bs' (by rw [List.nil_append]; exact Hl64.out.symm)
        have hstep := Hround.out w6 w6 _ c6 row hb6 hn6.2 (hD.fresh hb6) hB6 (fun j hj => hb6.block j (hD.lt hj))
        clear hn6 hB6 hown6 ho6 f6 k6 hcell hcell'
        refine hstep.mono ?_
        rintro e w8 ⟨cd, rfl, hcall⟩
        go_wp2_with fail
        refine hcall.mono ?_
        rintro e w9 ⟨cd2, rfl, S', l', hD9, hs9, hl9, hk9⟩
        clear hstep hcall
        go_wp2
        go_roundw
        case rel => exact ⟨k + 1, S', l', by omega, by go_num, hD9, hs9, hl9, hk9⟩
        case measure => simp [intOf]; omega
    · obtain rfl : k = rows.length := by omega
      have hop := Lib.hid (dk_open ht hD (small_mono hsm (by omega)) (by omega))
      have hs1 : Small 1000000 S := small_mono hsm (by omega)
      have h32 : 32 ≤ S.length := by omega
      clear hsm hkt hF5 hlen
      go_wp2_with fail
      refine hop.out.mono ?_
      rintro e w7 ⟨hb7, hc⟩
      clear hop
      rcases hc with ⟨h0, rfl, hD7⟩ | ⟨h0, g, rfl, hH⟩
      · have hrop := Lib.hid (dk_ropen_none hD7 hs1 h32 h0)
        have hbw := hD7.bel
        clear hD7 hD hs1 h32 h0
        go_wp2_with fail
        refine hrop.out.mono ?_
        rintro e w8 ⟨rfl, hb8⟩
        have hbw8 := ext_trans hbw hb8
        have Hkn := Lib.hid (fun w' (hb' : Below w8.heap.size w8 w') => known_any w' (ht.ext (ext_trans hbw8 hb')))
        clear hrop
        go_wp2
        refine wp_region_held_drew (S := fun _ => True) (by kernel_rfl) ?_ (fun hHeld => ?_)
        · try trivial
        refine wpAnyH_take (i := 0) (v := ?_) (take_list rfl) (by kernel_rfl) (by kernel_rfl) (by kernel_rfl) (fun _ _ _ h => h) (Or.inl ⟨by rfl, ?_⟩) (by assumption) ?_
        rotate_left
        · intro w hSw
          try dsimp only at hSw
          first | (go_simp; done) | (go_simp; with_reducible rfl)
        try simp only [Act.put, List.setIfInBounds_toArray, List.set_cons_zero, List.set_cons_succ]
        refine wpAnyH_take (i := 1) (v := ?_) (take_list rfl) (by kernel_rfl) (by kernel_rfl) (by kernel_rfl) (fun _ _ _ h => h) (Or.inl ⟨by rfl, ?_⟩) (by assumption) ?_
        rotate_left
        · intro w hSw
          try dsimp only at hSw
          first | (go_simp; done) | (go_simp; with_reducible rfl)
        try simp only [Act.put, List.setIfInBounds_toArray, List.set_cons_zero, List.set_cons_succ]
        refine wpAnyH_take (i := 2) (v := ?_) (take_list rfl) (by kernel_rfl) (by kernel_rfl) (by kernel_rfl) (fun _ _ _ h => h) (Or.inl ⟨by rfl, ?_⟩) (by assumption) ?_
        rotate_left
        · intro w hSw
          try dsimp only at hSw
          first | (go_simp; done) | (go_simp; with_reducible rfl)
        try simp only [Act.put, List.setIfInBounds_toArray, List.set_cons_zero, List.set_cons_succ]
        refine wpAnyH_take (i := 3) (v := undef) (take_list rfl) (by kernel_rfl) (by kernel_rfl) (by kernel_rfl) (fun _ _ _ h => h) (Or.inr ⟨by rfl, rfl⟩) (by assumption) ?_
        try simp only [Act.put, List.setIfInBounds_toArray, List.set_cons_zero, List.set_cons_succ]
        refine wpAnyH_take (i := 4) (v := undef) (take_list rfl) (by kernel_rfl) (by kernel_rfl) (by kernel_rfl) (fun _ _ _ h => h) (Or.inr ⟨by rfl, rfl⟩) (by assumption) ?_
        try simp only [Act.put, List.setIfInBounds_toArray, List.set_cons_zero, List.set_cons_succ]
        refine wpAnyH_take (i := 5) (v := undef) (take_list rfl) (by kernel_rfl) (by kernel_rfl) (by kernel_rfl) (fun _ _ _ h => h) (Or.inr ⟨by rfl, rfl⟩) (by assumption) ?_
        try simp only [Act.put, List.setIfInBounds_toArray, List.set_cons_zero, List.set_cons_succ]
        refine wpAnyH_take (i := 6) (v := undef) (take_list rfl) (by kernel_rfl) (by kernel_rfl) (by kernel_rfl) (fun _ _ _ h => h) (Or.inr ⟨by rfl, rfl⟩) (by assumption) ?_
        try simp only [Act.put, List.setIfInBounds_toArray, List.set_cons_zero, List.set_cons_succ]
        refine wpAnyH_take (i := 7) (v := undef) (take_list rfl) (by kernel_rfl) (by kernel_rfl) (by kernel_rfl) (fun _ _ _ h => h) (Or.inr ⟨by rfl, rfl⟩) (by assumption) ?_
        try simp only [Act.put, List.setIfInBounds_toArray, List.set_cons_zero, List.set_cons_succ]
        refine wpAnyH_take (i := 8) (v := undef) (take_list rfl) (by kernel_rfl) (by kernel_rfl) (by kernel_rfl) (fun _ _ _ h => h) (Or.inr ⟨by rfl, rfl⟩) (by assumption) ?_
        try simp only [Act.put, List.setIfInBounds_toArray, List.set_cons_zero, List.set_cons_succ]
        refine wpAnyH_take (i := 9) (v := undef) (take_list rfl) (by kernel_rfl) (by kernel_rfl) (by kernel_rfl) (fun _ _ _ h => h) (Or.inr ⟨by rfl, rfl⟩) (by assumption) ?_
        try simp only [Act.put, List.setIfInBounds_toArray, List.set_cons_zero, List.set_cons_succ]
        refine wpAnyH_take (i := 10) (v := undef) (take_list rfl) (by kernel_rfl) (by kernel_rfl) (by kernel_rfl) (fun _ _ _ h => h) (Or.inr ⟨by rfl, rfl⟩) (by assumption) ?_
        try simp only [Act.put, List.setIfInBounds_toArray, List.set_cons_zero, List.set_cons_succ]
        refine wpAnyH_take (i := 11) (v := undef) (take_list rfl) (by kernel_rfl) (by kernel_rfl) (by kernel_rfl) (fun _ _ _ h => h) (Or.inr ⟨by rfl, rfl⟩) (by assumption) ?_
        try simp only [Act.put, List.setIfInBounds_toArray, List.set_cons_zero, List.set_cons_succ]
        refine wpAnyH_take (i := 12) (v := undef) (take_list rfl) (by kernel_rfl) (by kernel_rfl) (by kernel_rfl) (fun _ _ _ h => h) (Or.inr ⟨by rfl, rfl⟩) (by assumption) ?_
        try simp only [Act.put, List.setIfInBounds_toArray, List.set_cons_zero, List.set_cons_succ]
        refine wpAnyH_take (i := 13) (v := undef) (take_list rfl) (by kernel_rfl) (by kernel_rfl) (by kernel_rfl) (fun _ _ _ h => h) (Or.inr ⟨by rfl, rfl⟩) (by assumption) ?_
        try simp only [Act.put, List.setIfInBounds_toArray, List.set_cons_zero, List.set_cons_succ]
        refine wpAnyH_take (i := 14) (v := undef) (take_list rfl) (by kernel_rfl) (by kernel_rfl) (by kernel_rfl) (fun _ _ _ h => h) (Or.inr ⟨by rfl, rfl⟩) (by assumption) ?_
        try simp only [Act.put, List.setIfInBounds_toArray, List.set_cons_zero, List.set_cons_succ]
        refine wpAnyH_take (i := 15) (v := undef) (take_list rfl) (by kernel_rfl) (by kernel_rfl) (by kernel_rfl) (fun _ _ _ h => h) (Or.inr ⟨by rfl, rfl⟩) (by assumption) ?_
        try simp only [Act.put, List.setIfInBounds_toArray, List.set_cons_zero, List.set_cons_succ]
        refine wpAnyH_take (i := 16) (v := undef) (take_list rfl) (by kernel_rfl) (by kernel_rfl) (by kernel_rfl) (fun _ _ _ h => h) (Or.inr ⟨by rfl, rfl⟩) (by assumption) ?_
        try simp only [Act.put, List.setIfInBounds_toArray, List.set_cons_zero, List.set_cons_succ]
        refine wpAnyH_take (i := 17) (v := undef) (take_list rfl) (by kernel_rfl) (by kernel_rfl) (by kernel_rfl) (fun _ _ _ h => h) (Or.inr ⟨by rfl, rfl⟩) (by assumption) ?_
        try simp only [Act.put, List.setIfInBounds_toArray, List.set_cons_zero, List.set_cons_succ]
        refine wpAnyH_take (i := 18) (v := undef) (take_list rfl) (by kernel_rfl) (by kernel_rfl) (by kernel_rfl) (fun _ _ _ h => h) (Or.inr ⟨by rfl, rfl⟩) (by assumption) ?_
        try simp only [Act.put, List.setIfInBounds_toArray, List.set_cons_zero, List.set_cons_succ]
        refine wpAnyH_take (i := 19) (v := undef) (take_list rfl) (by kernel_rfl) (by kernel_rfl) (by kernel_rfl) (fun _ _ _ h => h) (Or.inr ⟨by rfl, rfl⟩) (by assumption) ?_
        try simp only [Act.put, List.setIfInBounds_toArray, List.set_cons_zero, List.set_cons_succ]
        refine wpAnyH_take (i := 20) (v := undef) (take_list rfl) (by kernel_rfl) (by kernel_rfl) (by kernel_rfl) (fun _ _ _ h => h) (Or.inr ⟨by rfl, rfl⟩) (by assumption) ?_
        try simp only [Act.put, List.setIfInBounds_toArray, List.set_cons_zero, List.set_cons_succ]
        refine wpAnyH_take (i := 21) (v := ?_) (take_list rfl) (by kernel_rfl) (by kernel_rfl) (by kernel_rfl) (fun _ _ _ h => h) (Or.inl ⟨by rfl, ?_⟩) (by assumption) ?_
        rotate_left
        · intro w hSw
          try dsimp only at hSw
          first | (go_simp; done) | (go_simp; with_reducible rfl)
        try simp only [Act.put, List.setIfInBounds_toArray, List.set_cons_zero, List.set_cons_succ]
        refine wpAnyH_take (i := 22) (v := ?_) (take_list rfl) (by kernel_rfl) (by kernel_rfl) (by kernel_rfl) (fun _ _ _ h => h) (Or.inl ⟨by rfl, ?_⟩) (by assumption) ?_
        rotate_left
        · intro w hSw
          try dsimp only at hSw
          first | (go_simp; done) | (go_simp; with_reducible rfl)
        try simp only [Act.put, List.setIfInBounds_toArray, List.set_cons_zero, List.set_cons_succ]
        refine wpAnyH_ready (rs := [23]) (by kernel_rfl) (by simp) ?_
        refine AllReadyH.cons (take_list rfl) (fun K hK => ?_) ?_
        · skip
          go_simp
          refine (Hkn.out _ (ext_drew (Below.refl _ _))).mono ?_
          rintro e w9 ⟨rfl, hb9⟩
          dsimp only
          refine hK.out _ _ ?_ (fun hHeld => ?_)
          · try dsimp only
            try trivial
          clear hK K
          refine wpAnyH_take (i := 24) (v := ?_) (take_list rfl) (by kernel_rfl) (by kernel_rfl) (by kernel_rfl) (fun _ _ _ h => h) (Or.inl ⟨by rfl, ?_⟩) (by assumption) ?_
          rotate_left
          · intro w hSw
            try dsimp only at hSw
            first | (go_simp; done) | (go_simp; with_reducible rfl)
          try simp only [Act.put, List.setIfInBounds_toArray, List.set_cons_zero, List.set_cons_succ]
          refine wpAnyH_take (i := 25) (v := ?_) (take_list rfl) (by kernel_rfl) (by kernel_rfl) (by kernel_rfl) (fun _ _ _ h => h) (Or.inl ⟨by rfl, ?_⟩) (by assumption) ?_
          rotate_left
          · intro w hSw
            try dsimp only at hSw
            first | (go_simp; done) | (go_simp; with_reducible rfl)
          try simp only [Act.put, List.setIfInBounds_toArray, List.set_cons_zero, List.set_cons_succ]
          refine wpAnyH_done (by kernel_rfl) ?_ _
          go_wp2
          go_ret
          exact ⟨rfl, ext_trans (ext_drew hbw8) hb9⟩
        exact AllReadyH.nil
      · have hrop := Lib.hid (hf_ropen hH hs1 h32 h0)
        clear hH hD hs1 h32 h0
        go_wp2_with fail
        refine hrop.out.mono ?_
        rintro e w8 ⟨gy, rfl, hP8, hb8⟩
        have hbw8 := hP8.bel
        have Hkn := Lib.hid (fun w' (hb' : Below w8.heap.size w8 w') => known_any w' (ht.ext (ext_trans hbw8 hb')))
        generalize (⟨S, l, (tellK S 2).2.1, mostK S 2, (tellK S 2).2.2, false⟩ : SupS) = s5 at *
        obtain ⟨A5, c5, y1, y2, -, yB⟩ := hP8.cells
        have HS := Lib.hid (fun w' (hb' : Below w8.heap.size w8 w') => (show w'.cell? ⟨gy, 1, none⟩ = some (.slice A5 s5.img.length c5) ∧ w'.cell? ⟨gy, 2, none⟩ = some (.int .i64 (s5.N : Int)) ∧ Bs w' A5 s5.img.length c5 s5.img from
          ⟨cell_ext y1 hb', cell_ext y2 hb', yB.ext hb'⟩))
        obtain ⟨Z, hZ⟩ : ∃ Z : ByteArray, Z = ⟨s5.img.toArray⟩ := ⟨_, rfl⟩
        have Hcv := Lib.hid (fun w' A' c' (hB : Bs w' A' s5.img.length c' s5.img) => (show (convert 22 9 (.slice A' s5.img.length c')).run Tryd.prog w' = .ok (.string Z) w' by rw [hZ]; exact conv_bytes w' A' _ c' s5.img rfl hB.2.2))
        have Him := Lib.hid ((hP8.ext (ext_drew (Below.refl _ _))).image)
        have HP8 := Lib.hid (fun w' (hb' : Below w8.heap.size w8 w') => hP8.ext hb')
        clear y1 y2 yB hZ hP8 hrop
        go_wp2
        refine wp_region_held_drew (S := fun w' => w'.cell? ⟨gy, 1, none⟩ = some (.slice A5 s5.img.length c5) ∧ w'.cell? ⟨gy, 2, none⟩ = some (.int .i64 (s5.N : Int)) ∧ Bs w' A5 s5.img.length c5 s5.img) (by kernel_rfl) ?_ (fun hHeld => ?_)
        · exact HS.out _ (ext_drew (Below.refl _ _))
        refine wpAnyH_take (i := 0) (v := ?_) (take_list rfl) (by kernel_rfl) (by kernel_rfl) (by kernel_rfl) (fun _ _ _ h => h) (Or.inl ⟨by rfl, ?_⟩) (by assumption) ?_
        rotate_left
        · intro w hSw
          try dsimp only at hSw
          first | (go_simp; done) | (go_simp; with_reducible rfl)
        try simp only [Act.put, List.setIfInBounds_toArray, List.set_cons_zero, List.set_cons_succ]
        refine wpAnyH_take (i := 1) (v := ?_) (take_list rfl) (by kernel_rfl) (by kernel_rfl) (by kernel_rfl) (fun _ _ _ h => h) (Or.inl ⟨by rfl, ?_⟩) (by assumption) ?_
        rotate_left
        · intro w hSw
          try dsimp only at hSw
          first | (go_simp; done) | (go_simp; with_reducible rfl)
        try simp only [Act.put, List.setIfInBounds_toArray, List.set_cons_zero, List.set_cons_succ]
        refine wpAnyH_take (i := 2) (v := ?_) (take_list rfl) (by kernel_rfl) (by kernel_rfl) (by kernel_rfl) (fun _ _ _ h => h) (Or.inl ⟨by rfl, ?_⟩) (by assumption) ?_
        rotate_left
        · intro w hSw
          try dsimp only at hSw
          first | (go_simp; done) | (go_simp; with_reducible rfl)
        try simp only [Act.put, List.setIfInBounds_toArray, List.set_cons_zero, List.set_cons_succ]
        refine wpAnyH_take (i := 3) (v := ?_) (take_list rfl) (by kernel_rfl) (by kernel_rfl) (by kernel_rfl) (fun _ _ _ h => h) (Or.inl ⟨by rfl, ?_⟩) (by assumption) ?_
        rotate_left
        · intro w hSw
          try dsimp only at hSw
          first | (go_simp; done) | (go_simp; with_reducible rfl)
        try simp only [Act.put, List.setIfInBounds_toArray, List.set_cons_zero, List.set_cons_succ]
        refine wpAnyH_take (i := 6) (v := ?_) (take_list rfl) (by kernel_rfl) (by kernel_rfl) (by kernel_rfl) (fun _ _ _ h => h) (Or.inl ⟨by rfl, ?_⟩) (by assumption) ?_
        rotate_left
        · intro w hSw
          try dsimp only at hSw
          first | (go_simp; done) | (go_simp; with_reducible rfl)
        try simp only [Act.put, List.setIfInBounds_toArray, List.set_cons_zero, List.set_cons_succ]
        refine wpAnyH_take (i := 7) (v := ?_) (take_list rfl) (by kernel_rfl) (by kernel_rfl) (by kernel_rfl) (fun _ _ _ h => h) (Or.inl ⟨by rfl, ?_⟩) (by assumption) ?_
        rotate_left
        · intro w hSw
          try dsimp only at hSw
          first | (go_simp; done) | (go_simp; with_reducible rfl)
        try simp only [Act.put, List.setIfInBounds_toArray, List.set_cons_zero, List.set_cons_succ]
        refine wpAnyH_take (i := 8) (v := ?_) (take_list rfl) (by kernel_rfl) (by kernel_rfl) (by kernel_rfl) (fun _ _ _ h => h) (Or.inl ⟨by rfl, ?_⟩) (by assumption) ?_
        rotate_left
        · intro w hSw
          try dsimp only at hSw
          first | (go_simp; done) | (go_simp; with_reducible rfl)
        try simp only [Act.put, List.setIfInBounds_toArray, List.set_cons_zero, List.set_cons_succ]
        refine wpAnyH_take (i := 9) (v := ?_) (take_list rfl) (by kernel_rfl) (by kernel_rfl) (by kernel_rfl) (fun _ _ _ h => h) (Or.inl ⟨by rfl, ?_⟩) (by assumption) ?_
        rotate_left
        · intro w hSw
          try dsimp only at hSw
          first | (go_simp; done) | (go_simp; with_reducible rfl)
        try simp only [Act.put, List.setIfInBounds_toArray, List.set_cons_zero, List.set_cons_succ]
        refine wpAnyH_take (i := 10) (v := ?_) (take_list rfl) (by kernel_rfl) (by kernel_rfl) (by kernel_rfl) (fun _ _ _ h => h) (Or.inl ⟨by rfl, ?_⟩) (by assumption) ?_
        rotate_left
        · intro w hSw
          try dsimp only at hSw
          have hcv := Hcv.out w A5 c5 hSw.2.2
          clear hSw
          first | (go_simp; done) | (go_simp; with_reducible rfl)
        try simp only [Act.put, List.setIfInBounds_toArray, List.set_cons_zero, List.set_cons_succ]
        refine wpAnyH_ready (rs := [4]) (by kernel_rfl) (by simp) ?_
        refine AllReadyH.cons (take_list rfl) (fun K hK => ?_) ?_
        · skip
          go_simp
          refine Him.out.mono ?_
          rintro e w10 ⟨A10, c10, rfl, hB10, hb10⟩
          have hb510 := ext_trans (ext_drew (Below.refl _ _)) hb10
          have hcv10 := Hcv.out w10 A10 c10 hB10
          dsimp only
          refine hK.out _ _ ?_ (fun hHeld => ?_)
          · try dsimp only
            exact HS.out _ hb510
          clear hK K
          refine wpAnyH_ready (rs := [5]) (by kernel_rfl) (by simp) ?_
          refine AllReadyH.cons (take_list rfl) (fun K hK => ?_) ?_
          · skip
            go_simp
            refine hK.out _ _ ?_ (fun hHeld => ?_)
            · try dsimp only
              exact HS.out _ hb510
            clear hK K
            refine wpAnyH_take (i := 11) (v := ?_) (take_list rfl) (by kernel_rfl) (by kernel_rfl) (by kernel_rfl) (fun _ _ _ h => h) (Or.inl ⟨by rfl, ?_⟩) (by assumption) ?_
            rotate_left
            · intro w hSw
              try dsimp only at hSw
              first | (go_simp; done) | (go_simp; with_reducible rfl)
            try simp only [Act.put, List.setIfInBounds_toArray, List.set_cons_zero, List.set_cons_succ]
            refine wpAnyH_take (i := 12) (v := ?_) (take_list rfl) (by kernel_rfl) (by kernel_rfl) (by kernel_rfl) (fun _ _ _ h => h) (Or.inl ⟨by rfl, ?_⟩) (by assumption) ?_
            rotate_left
            · intro w hSw
              try dsimp only at hSw
              first | (go_simp; done) | (go_simp; with_reducible rfl)
            try simp only [Act.put, List.setIfInBounds_toArray, List.set_cons_zero, List.set_cons_succ]
            refine wpAnyH_take (i := 13) (v := ?_) (take_list rfl) (by kernel_rfl) (by kernel_rfl) (by kernel_rfl) (fun _ _ _ h => h) (Or.inl ⟨by rfl, ?_⟩) (by assumption) ?_
            rotate_left
            · intro w hSw
              try dsimp only at hSw
              first | (go_simp; done) | (go_simp; with_reducible rfl)
            try simp only [Act.put, List.setIfInBounds_toArray, List.set_cons_zero, List.set_cons_succ]
            refine wpAnyH_take (i := 15) (v := ?_) (take_list rfl) (by kernel_rfl) (by kernel_rfl) (by kernel_rfl) (fun _ _ _ h => h) (Or.inl ⟨by rfl, ?_⟩) (by assumption) ?_
            rotate_left
            · intro w hSw
              try dsimp only at hSw
              first | (go_simp; done) | (go_simp; with_reducible rfl)
            try simp only [Act.put, List.setIfInBounds_toArray, List.set_cons_zero, List.set_cons_succ]
            refine wpAnyH_take (i := 16) (v := ?_) (take_list rfl) (by kernel_rfl) (by kernel_rfl) (by kernel_rfl) (fun _ _ _ h => h) (Or.inl ⟨by rfl, ?_⟩) (by assumption) ?_
            rotate_left
            · intro w hSw
              try dsimp only at hSw
              first | (go_simp; done) | (go_simp; with_reducible rfl)
            try simp only [Act.put, List.setIfInBounds_toArray, List.set_cons_zero, List.set_cons_succ]
            refine wpAnyH_take (i := 17) (v := ?_) (take_list rfl) (by kernel_rfl) (by kernel_rfl) (by kernel_rfl) (fun _ _ _ h => h) (Or.inl ⟨by rfl, ?_⟩) (by assumption) ?_
            rotate_left
            · intro w hSw
              try dsimp only at hSw
              first | (go_simp; done) | (go_simp; with_reducible rfl)
            try simp only [Act.put, List.setIfInBounds_toArray, List.set_cons_zero, List.set_cons_succ]
            refine wpAnyH_take (i := 18) (v := ?_) (take_list rfl) (by kernel_rfl) (by kernel_rfl) (by kernel_rfl) (fun _ _ _ h => h) (Or.inl ⟨by rfl, ?_⟩) (by assumption) ?_
            rotate_left
            · intro w hSw
              try dsimp only at hSw
              first | (go_simp; done) | (go_simp; with_reducible rfl)
            try simp only [Act.put, List.setIfInBounds_toArray, List.set_cons_zero, List.set_cons_succ]
            refine wpAnyH_ready (rs := [14]) (by kernel_rfl) (by simp) ?_
            refine AllReadyH.cons (take_list rfl) (fun K hK => ?_) ?_
            · skip
              go_simp
              refine ((HP8.out w10 hb510).number).mono ?_
              rintro e w11 ⟨rfl, rfl⟩
              dsimp only
              refine hK.out _ _ ?_ (fun hHeld => ?_)
              · try dsimp only
                exact HS.out _ hb510
              clear hK K
              refine wpAnyH_take (i := 19) (v := ?_) (take_list rfl) (by kernel_rfl) (by kernel_rfl) (by kernel_rfl) (fun _ _ _ h => h) (Or.inl ⟨by rfl, ?_⟩) (by assumption) ?_
              rotate_left
              · intro w hSw
                try dsimp only at hSw
                first | (go_simp; done) | (go_simp; with_reducible rfl)
              try simp only [Act.put, List.setIfInBounds_toArray, List.set_cons_zero, List.set_cons_succ]
              refine wpAnyH_take (i := 20) (v := ?_) (take_list rfl) (by kernel_rfl) (by kernel_rfl) (by kernel_rfl) (fun _ _ _ h => h) (Or.inl ⟨by rfl, ?_⟩) (by assumption) ?_
              rotate_left
              · intro w hSw
                try dsimp only at hSw
                first | (go_simp; done) | (go_simp; with_reducible rfl)
              try simp only [Act.put, List.setIfInBounds_toArray, List.set_cons_zero, List.set_cons_succ]
              refine wpAnyH_take (i := 21) (v := ?_) (take_list rfl) (by kernel_rfl) (by kernel_rfl) (by kernel_rfl) (fun _ _ _ h => h) (Or.inl ⟨by rfl, ?_⟩) (by assumption) ?_
              rotate_left
              · intro w hSw
                try dsimp only at hSw
                first | (go_simp; done) | (go_simp; with_reducible rfl)
              try simp only [Act.put, List.setIfInBounds_toArray, List.set_cons_zero, List.set_cons_succ]
              refine wpAnyH_take (i := 22) (v := ?_) (take_list rfl) (by kernel_rfl) (by kernel_rfl) (by kernel_rfl) (fun _ _ _ h => h) (Or.inl ⟨by rfl, ?_⟩) (by assumption) ?_
              rotate_left
              · intro w hSw
                try dsimp only at hSw
                first | (go_simp; done) | (go_simp; with_reducible rfl)
              try simp only [Act.put, List.setIfInBounds_toArray, List.set_cons_zero, List.set_cons_succ]
              refine wpAnyH_ready (rs := [23]) (by kernel_rfl) (by simp) ?_
              refine AllReadyH.cons (take_list rfl) (fun K hK => ?_) ?_
              · skip
                go_simp
                refine (Hkn.out w10 hb510).mono ?_
                rintro e w13 ⟨rfl, hb13⟩
                dsimp only
                refine hK.out _ _ ?_ (fun hHeld => ?_)
                · try dsimp only
                  exact HS.out _ (ext_trans hb510 hb13)
                clear hK K
                refine wpAnyH_take (i := 24) (v := ?_) (take_list rfl) (by kernel_rfl) (by kernel_rfl) (by kernel_rfl) (fun _ _ _ h => h) (Or.inl ⟨by rfl, ?_⟩) (by assumption) ?_
                rotate_left
                · intro w hSw
                  try dsimp only at hSw
                  first | (go_simp; done) | (go_simp; with_reducible rfl)
                try simp only [Act.put, List.setIfInBounds_toArray, List.set_cons_zero, List.set_cons_succ]
                refine wpAnyH_take (i := 25) (v := ?_) (take_list rfl) (by kernel_rfl) (by kernel_rfl) (by kernel_rfl) (fun _ _ _ h => h) (Or.inl ⟨by rfl, ?_⟩) (by assumption) ?_
                rotate_left
                · intro w hSw
                  try dsimp only at hSw
                  first | (go_simp; done) | (go_simp; with_reducible rfl)
                try simp only [Act.put, List.setIfInBounds_toArray, List.set_cons_zero, List.set_cons_succ]
                refine wpAnyH_done (by kernel_rfl) ?_ _
                go_wp2
                go_ret
                exact ⟨rfl, ext_trans (ext_trans hbw8 hb510) hb13⟩
              exact AllReadyH.nil
            exact AllReadyH.nil
          exact AllReadyH.nil
        exact AllReadyH.nil

set_option maxRecDepth 100000 in
theorem contract (H : Type) (enc : TypeId × Value → H) (W : World) (base : Nat) (args : Array Value) (ds gs : List (DataW H)) (before : List MemPlace)
    (hval : ∀ (j : Nat) t v, Tryd.f6.params[j]? = some t → args[j]? = some v → Value.okWide Tryd.prog W .any base t v)
    (hW : DataW.Whole enc Tryd.prog Tryd.f6.params.toList Rows.superOpensSpec.vars false W args.toList ds gs before) (hL : laidMetH Tryd.prog Rows.superOpensRow.laid W) :
    Calls Tryd.prog 6 args W fun e W' => ∃ v, e = .returned v ∧ Rows.superOpensSpec.post enc Tryd.prog Tryd.f6 false true false false W args v W' := by
  have ht : Tab W := tab_of_laid hL
  have hW' := hW
  obtain ⟨p, q, hA0, hV, rfl, hfz, hnd⟩ := hW
  have hA : DataW.TrodAll enc Tryd.prog W 0 (fun _ => true) true Tryd.f6.params.toList args.toList ds p := hA0
  rw [Tryd.params6] at hA hval
  obtain ⟨x0, x1, x2, x3, x4, x5, d0, d1, d2, d3, d4, d5, p0, p1, p2, p3, p4, p5, rfl, rfl, rfl, h0, h1, h2, h3, h4, h5⟩ := trodAll_six hA
  obtain ⟨v0, rfl, rfl, rfl, wv0⟩ := open_int Tryd.underlying3 (hval 0 _ x0 rfl rfl) h0
  have i0 := int_of_wf wv0
  obtain ⟨A1, n1, c1, xs1, rfl, hn1, hc1, hm1, hr1⟩ := arg_bytes (hval 1 _ x1 rfl rfl) h1
  obtain ⟨v2, rfl, rfl, rfl, wv2⟩ := open_int Tryd.underlying3 (hval 2 _ x2 rfl rfl) h2
  have i2 := int_of_wf wv2
  obtain ⟨A3, n3, c3, xs3, rfl, hn3, hc3, hm3, hr3⟩ := arg_bytes (hval 3 _ x3 rfl rfl) h3
  obtain ⟨v4, rfl, rfl, rfl, wv4⟩ := open_int Tryd.underlying3 (hval 4 _ x4 rfl rfl) h4
  have i4 := int_of_wf wv4
  obtain ⟨v5, rfl, rfl, rfl, wv5⟩ := open_int Tryd.underlying5 (hval 5 _ x5 rfl rfl) h5
  have i5 := u8_of_wf wv5
  have walk : Calls Tryd.prog 6 #[.int .i64 v0, .slice A1 n1 c1, .int .i64 v2, .slice A3 n3 c3, .int .i64 v4, .int .u8 v5] W fun e w' => e = .returned (.bool true) ∧ Below W.heap.size W w' := (by subst hn1 hn3; by_cases hbg : 814 < xs1.length ∨ 814 < xs3.length; exact big_out v0 v2 v4 v5 A1 A3 c1 c3 xs1 xs3 W (Nat.le_trans hc1 hm1) (Nat.le_trans hc3 hm3) hbg; exact walk v0 v2 v4 v5 A1 A3 c1 c3 xs1 xs3 W ht i0 i2 i4 i5 ⟨rfl, hc1, hr1⟩ ⟨rfl, hc3, hr3⟩ (by omega) (by omega))
  refine walk.mono fun e W' ⟨he, hb⟩ => ?_
  subst he
  exact ⟨_, rfl, law_post rfl rfl (by kernel_rfl) ⟨rfl, rfl, rfl⟩ hW' hb⟩

theorem laid_met (os : Os) : laidMet Tryd.prog Rows.superOpensRow.laid ((laidWorld os).forCall (fun _ _ => 0) ⟨#[], #[.int .i64 0, .slice none 0 0, .int .i64 0, .slice none 0 0, .int .i64 0, .int .u8 0], []⟩).memory :=
  laidMet_of_run' 8 (by kernel_rfl) (by kernel_rfl)
theorem reads (os : Os) {H : Type} (enc : TypeId × Value → H) : ∃ places, DataW.whole enc Tryd.prog ((laidWorld os).forCall (fun _ _ => 0) ⟨#[], #[.int .i64 0, .slice none 0 0, .int .i64 0, .slice none 0 0, .int .i64 0, .int .u8 0], []⟩).memory Tryd.f6.params.toList Rows.superOpensSpec.vars false #[Value.int .i64 0, .slice none 0 0, .int .i64 0, .slice none 0 0, .int .i64 0, .int .u8 0].toList 8 = some ([.lit (.int .i64 0), .nil, .lit (.int .i64 0), .nil, .lit (.int .i64 0), .lit (.int .u8 0)], [], places) :=
  ⟨[], by kernel_rfl⟩

set_option maxRecDepth 100000 in
theorem lifted (os : Os) (started : os.Started) (H : Type) (enc : TypeId × Value → H) (F : Stop.Interp) :
    ReturnsInHanded {} Tryd.checked os 6 .any ((OpenSpec.ofChange Rows.superOpensSpec).preRow enc Tryd.prog Tryd.f6 Rows.superOpensRow.domain false Rows.superOpensRow.laid) (((OpenSpec.ofChange Rows.superOpensSpec).at F).post enc Tryd.prog Tryd.f6 false true false false) := by
  obtain ⟨places, hx⟩ := reads os enc
  refine returnsInHanded_of_row (C := Tryd.checked) (s := OpenSpec.ofChange Rows.superOpensSpec) own started (by kernel_rfl) Tryd.func6
    (witness_row_at (enc := enc) (C := Tryd.checked) false (laidWorld os) #[.int .i64 0, .slice none 0 0, .int .i64 0, .slice none 0 0, .int .i64 0, .int .u8 0] rfl (by kernel_rfl) (by kernel_rfl) (by kernel_rfl)
      (OpenSpec.preRow_of_cond 8 hx (by kernel_rfl) (fun k hk => by cases hk) (by kernel_rfl) (laid_met os))) ?_
  intro W base args ds gs before hval hW _ _ _ hL _ _
  exact contract H enc W base args ds gs before hval hW hL

theorem said : Rows.SuperOpensSaid :=
  OpenClaim.holds_of_cond 6 Tryd.f6 rfl rfl rfl rfl rfl rfl rfl ⟨rfl, rfl, rfl, rfl, rfl⟩ rfl rfl rfl rfl rfl (by kernel_rfl) Tryd.func6 (by kernel_rfl)
    (of_decide_eq_true (by kernel_rfl)) (by unfold Func.isWrapper; first | (rw [if_pos (by decide +kernel)]; kernel_rfl) | (rw [if_neg (by decide +kernel)]; exact ⟨rfl, rfl⟩))
    (fun os started H enc _ F => by rw [OpenClaim.pre_eq_preRow]; exact lifted os started H enc F)

theorem plain (f : FuncId) (fn : Func) (hf : Tryd.pinned.checked.prog.funcNamed "winnower/winnowerlaw3.SuperOpens" = some f) (hfn : Tryd.pinned.checked.prog.funcs[f]? = some fn) :
    false = Tryd.pinned.checked.prog.looks [] ∧ ∀ (j : Nat) t, fn.params[j]? = some t → Tryd.pinned.checked.prog.wantsStandIn t = false := by
  obtain rfl : f = 6 := Option.some.inj ((show Tryd.prog.funcNamed "winnower/winnowerlaw3.SuperOpens" = some 6 by kernel_rfl).symm.trans hf) |>.symm
  obtain rfl : fn = Tryd.f6 := (Option.some.inj (Tryd.func6.symm.trans hfn)).symm
  refine ⟨by kernel_rfl, fun j t ht => ?_⟩
  have hall : Tryd.f6.params.all (fun t => !Tryd.prog.wantsStandIn t) = true := by kernel_rfl
  have h1 := Array.all_eq_true'.1 hall t (Array.mem_of_getElem? ht)
  have h2 : Tryd.prog.wantsStandIn t = false := by simpa using h1
  exact h2

/-- THE CARD -/
theorem superOpens_card : Rows.SuperOpensCardSaid :=
  Claim7.holds_tied_plain_at .later [] _ _ _ _ said (fun _ h => by cases h) (by kernel_rfl) (fun _ h => by cases h) superOpens_row_tie rfl ⟨rfl, rfl⟩ (by kernel_rfl) rfl plain (by kernel_rfl)
end Go.Proofs.YtlpjeopeboemmaaDoor.SuperOpens
