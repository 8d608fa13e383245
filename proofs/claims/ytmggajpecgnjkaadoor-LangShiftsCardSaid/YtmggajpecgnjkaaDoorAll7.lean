/-
  Texts of this claim, joined (part 7): contracts and lemmas that the last text goes by. No statement of the seat is proved here.
-/
import Derived.Test.YtmggajpecgnjkaaDoorAll6
import Derived.Test.YtmggajpecgnjkaaDoorAll4
import Derived.Test.YtmggajpecgnjkaaDoorAll5
set_option linter.unusedVariables false
set_option linter.unusedSimpArgs false
/-
  Contract of the program's times. No statement of the seat is proved here.
-/
namespace Go.Proofs.YtmggajpecgnjkaaDoor
open Go Go.RowKit
set_option maxRecDepth 100000

/-- an answer that is an expression, whose rows lie in blocks from 'H' on -/
def isRe (H : Nat) (x : Ex) (v : Value) (w : World) : Prop := ∃ cs, v = reV cs ∧ ReR (fun b => H ≤ b) w x cs
/-- the same; rows that were there, or that were made since -/
def isRe2 (S : Nat → Prop) (H : Nat) (x : Ex) (v : Value) (w : World) : Prop := ∃ cs, v = reV cs ∧ ReR (fun b => (S b ∧ b < H) ∨ H < b) w x cs
def anyR (v : Value) (_ : World) : Prop := ∃ cs : Array Value, v = .agg cs ∧ cs.size = 8 ∧ cs.all (·.oneCell') = true
theorem anyR_of {S : Nat → Prop} {w : World} {x : Ex} {cs : List Value} (h : ReR S w x cs) (v : Value) (hv : v = reV cs) (W : World) : anyR v W :=
  ⟨cs.toArray, hv, by simp [h.size], by rw [List.all_toArray, List.all_eq_true]; exact h.one⟩
theorem reR_arr {S : Nat → Prop} {w : World} {x : Ex} {cs : List Value} (h : ReR S w x cs) : cs.toArray.size = 8 ∧ cs.toArray.all (·.oneCell') = true :=
  ⟨by simp [h.size], by rw [List.all_toArray, List.all_eq_true]; exact h.one⟩
theorem timesQ_at {x : Ex} {s : ByteArray} {p c : Nat} (h : isNext c ((natsOf s).drop p) = true) : timesQ x ((natsOf s).drop p) = timesQ x (c :: (natsOf s).drop (p + 1)) := by rw [(next_true h).2]
theorem timesQ_none {x : Ex} {l : List Nat} (h1 : isNext 42 l = false) (h2 : isNext 43 l = false) (h3 : isNext 63 l = false) (h4 : isNext 123 l = false) : timesQ x l = .ok x l := by
  unfold timesQ
  split
  · simp [isNext] at h1
  · simp [isNext] at h2
  · simp [isNext] at h3
  · simp [isNext] at h4
  · rfl

set_option maxHeartbeats 16000000 in
theorem times_any (w : World) (g : Nat) (s : ByteArray) (p : Nat) (hs : s.size ≤ 1000000) (hp : p ≤ s.size) (h : PaS w g s p) (S : Nat → Prop) (hS : ∀ b, S b → b ≠ g) (x : Ex) (cs : List Value) (hx : ReR S w x cs) :
    Calls Tryd.prog 77 #[.pointer (some ⟨g, 0, none⟩), reV cs] w (TookP w g s (timesQ x ((natsOf s).drop p)) (isRe2 S w.heap.size) anyR) := by
  obtain ⟨k, p0, p1, p2, p3, ks, A, c, lo, hi, -, rfl, h1, h2, -, -, -, -, -⟩ := hx.fields
  unfold maxLen at h2
  have hgl := h.lt
  have hb2 := ext2 w (Obj.cells #[.int .i64 k, .int .u64 (p0 : Int), .int .u64 (p1 : Int), .int .u64 (p2 : Int), .int .u64 (p3 : Int), .slice A ks.length c, .int .i64 lo, .int .i64 hi] 27) (Obj.cells #[.int .i64 0, .int .u64 0, .int .u64 0, .int .u64 0, .int .u64 0, .slice none 0 0, .int .i64 0, .int .i64 0] 27)
  have hB := (Blk.new w 27 #[.int .i64 k, .int .u64 (p0 : Int), .int .u64 (p1 : Int), .int .u64 (p2 : Int), .int .u64 (p3 : Int), .slice A ks.length c, .int .i64 lo, .int .i64 hi]).alloc (Obj.cells #[.int .i64 0, .int .u64 0, .int .u64 0, .int .u64 0, .int .u64 0, .slice none 0 0, .int .i64 0, .int .i64 0] 27)
  have hR := Blk.new (w.alloc (Obj.cells #[.int .i64 k, .int .u64 (p0 : Int), .int .u64 (p1 : Int), .int .u64 (p2 : Int), .int .u64 (p3 : Int), .slice A ks.length c, .int .i64 lo, .int .i64 hi] 27)) 27 #[.int .i64 0, .int .u64 0, .int .u64 0, .int .u64 0, .int .u64 0, .slice none 0 0, .int .i64 0, .int .i64 0]
  rw [World.size_alloc] at hR
  obtain ⟨w1, hw1⟩ : ∃ w1, w1 = (w.alloc (Obj.cells #[.int .i64 k, .int .u64 (p0 : Int), .int .u64 (p1 : Int), .int .u64 (p2 : Int), .int .u64 (p3 : Int), .slice A ks.length c, .int .i64 lo, .int .i64 hi] 27)).alloc (Obj.cells #[.int .i64 0, .int .u64 0, .int .u64 0, .int .u64 0, .int .u64 0, .slice none 0 0, .int .i64 0, .int .i64 0] 27) := ⟨_, rfl⟩
  rw [← hw1] at hb2 hB hR
  have HPa := Lib.hid (h.ext hb2)
  have Hx : Hid (ReR (fun b => S b ∧ b < w.heap.size) w1 x _) := Lib.hid ((hx.mono (T := fun b => S b ∧ b < w.heap.size) (fun b hb hl => ⟨hb, hl⟩)).ext hb2)
  have HO1 : Hid (Only (fun x => x = g) w w1) := Lib.hid (Only.of_ext hb2)
  have HsB := Lib.hid hR.lt
  have HB := Lib.hid hB
  have HR := Lib.hid hR
  have Hw1 := Lib.hid hw1
  have HN : Hid (∀ c : Nat, isNext c ((natsOf s).drop p) = false → ∀ W, PaS W g s p → Calls Tryd.prog 62 #[.pointer (some ⟨g, 0, none⟩), .int .u8 (c : Int)] W fun e w' => e = .returned (.bool false) ∧ ∃ n, w' = W.drewN n) := Lib.hid fun c hc W hW => take_no W g s p c hs hp hc hW
  have HY : Hid (∀ c : Nat, isNext c ((natsOf s).drop p) = true → ∀ W, PaS W g s p → Calls Tryd.prog 62 #[.pointer (some ⟨g, 0, none⟩), .int .u8 (c : Int)] W fun e w' => e = .returned (.bool true) ∧ Only (fun b => b = g) W w' ∧ PaS w' g s (p + 1)) := Lib.hid fun c hc W hW => take_yes W g s p c hs hp hc hW
  clear h hx hb2 hB hR hw1
  show Calls Tryd.prog 77 #[.pointer (some ⟨g, 0, none⟩), .agg #[.int .i64 k, .int .u64 (p0 : Int), .int .u64 (p1 : Int), .int .u64 (p2 : Int), .int .u64 (p3 : Int), .slice A ks.length c, .int .i64 lo, .int .i64 hi]] w _
  go_enter Tryd.func77, Tryd.ntmps77
  go_wp2_with fail
  rw [← Hw1.out]
  by_cases hc42 : isNext 42 ((natsOf s).drop p) = true
  · have hT : timesQ x ((natsOf s).drop p) = .ok (repE x 0 (-1)) ((natsOf s).drop (p + 1)) := timesQ_at hc42
    have HT := Lib.hid hT
    have Hc := Lib.hid hc42
    have hps := (next_true hc42).1
    clear hT hc42
    refine (HY.out 42 Hc.out _ (HPa.out)).mono ?_
    rintro e w3 ⟨rfl, ho3, hPa3⟩
    have HB3 := Lib.hid ((HB.out).only ho3 (by omega))
    have HR3 := Lib.hid ((HR.out).only ho3 (by omega))
    have Hx3 := Lib.hid ((Hx.out).only ho3 (fun b hb h => hS b hb.1 h))
    have HO3 : Hid (Only (fun x => x = g) w w3) := Lib.hid ((HO1.out).trans ho3 (fun _ _ h => h))
    have HPa3 := Lib.hid hPa3
    have Hs13 : Hid (w1.heap.size ≤ w3.heap.size) := Lib.hid ho3.size
    clear ho3 hPa3
    have c0 := HB3.out.cell 0
    have c1 := HB3.out.cell 1
    have c2 := HB3.out.cell 2
    have c3 := HB3.out.cell 3
    have c4 := HB3.out.cell 4
    have c5 := HB3.out.cell 5
    have c6 := HB3.out.cell 6
    have c7 := HB3.out.cell 7
    go_wp2_with fail
    refine (repeated_any (fun b => S b ∧ b < w.heap.size) x _ 0 (-1) (by unfold isInt; omega) (by unfold isInt; omega) w3 Hx3.out).mono ?_
    rintro e w4 ⟨cs4, rfl, hr4, hb4⟩
    clear c0 c1 c2 c3 c4 c5 c6 c7
    have Hr4 := Lib.hid hr4
    have harr := reR_arr hr4
    have hR4 := HR3.out.ext hb4
    have HPa4 := Lib.hid (HPa3.out.ext hb4)
    have Hs34 := Lib.hid hb4.size
    have HO4 : Hid (Only (fun x => x = g) w w4) := Lib.hid (HO3.out.trans (Only.of_ext hb4) (fun _ _ h => h))
    clear hr4 hb4
    unfold reV
    go_wp2_with (refine wpList_store_re rfl _ _ rfl (w.heap.size + 1) rfl rfl harr.1 rfl harr.2 hR4 ?_; intro w5 hB5 ho5)
    refine bodyPost_ret (results_re2 rfl _ _ (w.heap.size + 1) _ _ harr.1 rfl hB5) rfl ?_
    have hfin := fin_store (Nat.le_succ _) hgl HO4.out HPa4.out ho5
    have hs13 := Hs13.out
    have hsb := HsB.out
    have hr5 : ReR (fun b => (S b ∧ b < w.heap.size) ∨ w.heap.size < b) w5 (repE x 0 (-1)) cs4 := (Hr4.out.only ho5 (fun b hb h => by rcases hb with hb | hb; have := hb.2; omega; omega)).mono (fun b hb _ => hb.imp id (fun hb => by omega))
    rw [HT.out]
    exact TookP.ok (p := p + 1) hfin.1 ⟨cs4, rfl, hr5⟩ hps rfl hfin.2
  have hf42 : isNext 42 ((natsOf s).drop p) = false := by simpa using hc42
  have Hf42 := Lib.hid hf42
  clear hc42 hf42
  by_cases hc43 : isNext 43 ((natsOf s).drop p) = true
  · have hT : timesQ x ((natsOf s).drop p) = .ok (repE x 1 (-1)) ((natsOf s).drop (p + 1)) := timesQ_at hc43
    have HT := Lib.hid hT
    have Hc := Lib.hid hc43
    have hps := (next_true hc43).1
    clear hT hc43
    refine (HN.out 42 Hf42.out _ (HPa.out)).mono ?_
    rintro e wq ⟨rfl, m0, rfl⟩
    go_wp2_with fail
    refine (HY.out 43 Hc.out _ (HPa.out.drewN _)).mono ?_
    rintro e w3 ⟨rfl, ho3, hPa3⟩
    have HB3 := Lib.hid ((HB.out.drewN _).only ho3 (by omega))
    have HR3 := Lib.hid ((HR.out.drewN _).only ho3 (by omega))
    have Hx3 := Lib.hid ((Hx.out.ext (ext_drewN (Below.refl _ _) _)).only ho3 (fun b hb h => hS b hb.1 h))
    have HO3 : Hid (Only (fun x => x = g) w w3) := Lib.hid ((HO1.out.drewN _).trans ho3 (fun _ _ h => h))
    have HPa3 := Lib.hid hPa3
    have Hs13 : Hid (w1.heap.size ≤ w3.heap.size) := Lib.hid ho3.size
    clear ho3 hPa3
    have c0 := HB3.out.cell 0
    have c1 := HB3.out.cell 1
    have c2 := HB3.out.cell 2
    have c3 := HB3.out.cell 3
    have c4 := HB3.out.cell 4
    have c5 := HB3.out.cell 5
    have c6 := HB3.out.cell 6
    have c7 := HB3.out.cell 7
    go_wp2_with fail
    refine (repeated_any (fun b => S b ∧ b < w.heap.size) x _ 1 (-1) (by unfold isInt; omega) (by unfold isInt; omega) w3 Hx3.out).mono ?_
    rintro e w4 ⟨cs4, rfl, hr4, hb4⟩
    clear c0 c1 c2 c3 c4 c5 c6 c7
    have Hr4 := Lib.hid hr4
    have harr := reR_arr hr4
    have hR4 := HR3.out.ext hb4
    have HPa4 := Lib.hid (HPa3.out.ext hb4)
    have Hs34 := Lib.hid hb4.size
    have HO4 : Hid (Only (fun x => x = g) w w4) := Lib.hid (HO3.out.trans (Only.of_ext hb4) (fun _ _ h => h))
    clear hr4 hb4
    unfold reV
    go_wp2_with (refine wpList_store_re rfl _ _ rfl (w.heap.size + 1) rfl rfl harr.1 rfl harr.2 hR4 ?_; intro w5 hB5 ho5)
    refine bodyPost_ret (results_re2 rfl _ _ (w.heap.size + 1) _ _ harr.1 rfl hB5) rfl ?_
    have hfin := fin_store (Nat.le_succ _) hgl HO4.out HPa4.out ho5
    have hs13 := Hs13.out
    have hsb := HsB.out
    have hr5 : ReR (fun b => (S b ∧ b < w.heap.size) ∨ w.heap.size < b) w5 (repE x 1 (-1)) cs4 := (Hr4.out.only ho5 (fun b hb h => by rcases hb with hb | hb; have := hb.2; omega; omega)).mono (fun b hb _ => hb.imp id (fun hb => by omega))
    rw [HT.out]
    exact TookP.ok (p := p + 1) hfin.1 ⟨cs4, rfl, hr5⟩ hps rfl hfin.2
  have hf43 : isNext 43 ((natsOf s).drop p) = false := by simpa using hc43
  have Hf43 := Lib.hid hf43
  clear hc43 hf43
  by_cases hc63 : isNext 63 ((natsOf s).drop p) = true
  · have hT : timesQ x ((natsOf s).drop p) = .ok (repE x 0 1) ((natsOf s).drop (p + 1)) := timesQ_at hc63
    have HT := Lib.hid hT
    have Hc := Lib.hid hc63
    have hps := (next_true hc63).1
    clear hT hc63
    refine (HN.out 42 Hf42.out _ (HPa.out)).mono ?_
    rintro e wq ⟨rfl, m0, rfl⟩
    go_wp2_with fail
    refine (HN.out 43 Hf43.out _ (HPa.out.drewN _)).mono ?_
    rintro e wq ⟨rfl, m1, rfl⟩
    go_wp2_with fail
    refine (HY.out 63 Hc.out _ (HPa.out.drewN _)).mono ?_
    rintro e w3 ⟨rfl, ho3, hPa3⟩
    have HB3 := Lib.hid ((HB.out.drewN _).only ho3 (by omega))
    have HR3 := Lib.hid ((HR.out.drewN _).only ho3 (by omega))
    have Hx3 := Lib.hid ((Hx.out.ext (ext_drewN (Below.refl _ _) _)).only ho3 (fun b hb h => hS b hb.1 h))
    have HO3 : Hid (Only (fun x => x = g) w w3) := Lib.hid ((HO1.out.drewN _).trans ho3 (fun _ _ h => h))
    have HPa3 := Lib.hid hPa3
    have Hs13 : Hid (w1.heap.size ≤ w3.heap.size) := Lib.hid ho3.size
    clear ho3 hPa3
    have c0 := HB3.out.cell 0
    have c1 := HB3.out.cell 1
    have c2 := HB3.out.cell 2
    have c3 := HB3.out.cell 3
    have c4 := HB3.out.cell 4
    have c5 := HB3.out.cell 5
    have c6 := HB3.out.cell 6
    have c7 := HB3.out.cell 7
    go_wp2_with fail
    refine (repeated_any (fun b => S b ∧ b < w.heap.size) x _ 0 1 (by unfold isInt; omega) (by unfold isInt; omega) w3 Hx3.out).mono ?_
    rintro e w4 ⟨cs4, rfl, hr4, hb4⟩
    clear c0 c1 c2 c3 c4 c5 c6 c7
    have Hr4 := Lib.hid hr4
    have harr := reR_arr hr4
    have hR4 := HR3.out.ext hb4
    have HPa4 := Lib.hid (HPa3.out.ext hb4)
    have Hs34 := Lib.hid hb4.size
    have HO4 : Hid (Only (fun x => x = g) w w4) := Lib.hid (HO3.out.trans (Only.of_ext hb4) (fun _ _ h => h))
    clear hr4 hb4
    unfold reV
    go_wp2_with (refine wpList_store_re rfl _ _ rfl (w.heap.size + 1) rfl rfl harr.1 rfl harr.2 hR4 ?_; intro w5 hB5 ho5)
    refine bodyPost_ret (results_re2 rfl _ _ (w.heap.size + 1) _ _ harr.1 rfl hB5) rfl ?_
    have hfin := fin_store (Nat.le_succ _) hgl HO4.out HPa4.out ho5
    have hs13 := Hs13.out
    have hsb := HsB.out
    have hr5 : ReR (fun b => (S b ∧ b < w.heap.size) ∨ w.heap.size < b) w5 (repE x 0 1) cs4 := (Hr4.out.only ho5 (fun b hb h => by rcases hb with hb | hb; have := hb.2; omega; omega)).mono (fun b hb _ => hb.imp id (fun hb => by omega))
    rw [HT.out]
    exact TookP.ok (p := p + 1) hfin.1 ⟨cs4, rfl, hr5⟩ hps rfl hfin.2
  have hf63 : isNext 63 ((natsOf s).drop p) = false := by simpa using hc63
  have Hf63 := Lib.hid hf63
  clear hc63 hf63
  by_cases hc123 : isNext 123 ((natsOf s).drop p) = true
  · have hT : timesQ x ((natsOf s).drop p) = (curlyP ((natsOf s).drop (p + 1))).bind fun pr l2 => .ok (repE x pr.1 pr.2) l2 := timesQ_at hc123
    have HT := Lib.hid hT
    have Hc := Lib.hid hc123
    have hps := (next_true hc123).1
    clear hT hc123
    refine (HN.out 42 Hf42.out _ (HPa.out)).mono ?_
    rintro e wq ⟨rfl, m0, rfl⟩
    go_wp2_with fail
    refine (HN.out 43 Hf43.out _ (HPa.out.drewN _)).mono ?_
    rintro e wq ⟨rfl, m1, rfl⟩
    go_wp2_with fail
    refine (HN.out 63 Hf63.out _ (HPa.out.drewN _)).mono ?_
    rintro e wq ⟨rfl, m2, rfl⟩
    go_wp2_with fail
    refine (HY.out 123 Hc.out _ (HPa.out.drewN _)).mono ?_
    rintro e w3 ⟨rfl, ho3, hPa3⟩
    have HB3 := Lib.hid ((HB.out.drewN _).only ho3 (by omega))
    have HR3 := Lib.hid ((HR.out.drewN _).only ho3 (by omega))
    have Hx3 := Lib.hid ((Hx.out.ext (ext_drewN (Below.refl _ _) _)).only ho3 (fun b hb h => hS b hb.1 h))
    have HO3 : Hid (Only (fun x => x = g) w w3) := Lib.hid ((HO1.out.drewN _).trans ho3 (fun _ _ h => h))
    have HPa3 := Lib.hid hPa3
    have Hs13 : Hid (w1.heap.size ≤ w3.heap.size) := Lib.hid ho3.size
    clear ho3 hPa3
    go_wp2_with fail
    refine (numbers_any w3 g s (p + 1) hs (by omega) HPa3.out).mono ?_
    rintro e w3' ⟨ho3, hr⟩
    have HB3' := Lib.hid (HB3.out.only ho3 (by omega))
    have HR3' := Lib.hid (HR3.out.only ho3 (by omega))
    have Hx3' := Lib.hid (Hx3.out.only ho3 (fun b hb h => hS b hb.1 h))
    have HO3' : Hid (Only (fun x => x = g) w w3') := Lib.hid (HO3.out.trans ho3 (fun _ _ h => h))
    have Hs13' : Hid (w1.heap.size ≤ w3'.heap.size) := Lib.hid (Nat.le_trans Hs13.out ho3.size)
    clear ho3 HPa3 HB3 HR3 Hx3 HO3 Hs13
    obtain ⟨w3, rfl⟩ : ∃ v, v = w3' := ⟨_, rfl⟩
    have HB3 := HB3'
    have HR3 := HR3'
    have Hx3 := Hx3'
    have HO3 := HO3'
    have Hs13 := Hs13'
    clear HB3' HR3' Hx3' HO3' Hs13'
    have hT := HT.out
    clear HT
    cases hcp : curlyP ((natsOf s).drop (p + 1)) with
    | bad left =>
      rw [hcp] at hr hT
      obtain ⟨nlo, nhi, rfl, hlo, hhi, hl, hPa3⟩ := hr
      have HPa3 := Lib.hid hPa3
      have HT := Lib.hid hT
      have Hlo := Lib.hid hlo
      have Hhi := Lib.hid hhi
      clear hPa3 hT hcp hlo hhi
      have c0 := HB3.out.cell 0
      have c1 := HB3.out.cell 1
      have c2 := HB3.out.cell 2
      have c3 := HB3.out.cell 3
      have c4 := HB3.out.cell 4
      have c5 := HB3.out.cell 5
      have c6 := HB3.out.cell 6
      have c7 := HB3.out.cell 7
      go_wp2_with fail
      refine (repeated_any (fun b => S b ∧ b < w.heap.size) x _ nlo nhi Hlo.out Hhi.out w3 Hx3.out).mono ?_
      rintro e w4 ⟨cs4, rfl, hr4, hb4⟩
      clear c0 c1 c2 c3 c4 c5 c6 c7
      have Hr4 := Lib.hid hr4
      have harr := reR_arr hr4
      have hR4 := HR3.out.ext hb4
      have HPa4 := Lib.hid (HPa3.out.ext hb4)
      have Hs34 := Lib.hid hb4.size
      have HO4 : Hid (Only (fun x => x = g) w w4) := Lib.hid (HO3.out.trans (Only.of_ext hb4) (fun _ _ h => h))
      clear hr4 hb4
      unfold reV
      go_wp2_with (refine wpList_store_re rfl _ _ rfl (w.heap.size + 1) rfl rfl harr.1 rfl harr.2 hR4 ?_; intro w5 hB5 ho5)
      refine bodyPost_ret (results_re2 rfl _ _ (w.heap.size + 1) _ _ harr.1 rfl hB5) rfl ?_
      have hfin := fin_store (Nat.le_succ _) hgl HO4.out HPa4.out ho5
      have hs13 := Hs13.out
      have hsb := HsB.out
      have hr5 : ReR (fun b => (S b ∧ b < w.heap.size) ∨ w.heap.size < b) w5 (repE x nlo nhi) cs4 := (Hr4.out.only ho5 (fun b hb h => by rcases hb with hb | hb; have := hb.2; omega; omega)).mono (fun b hb _ => hb.imp id (fun hb => by omega))
      rw [HT.out]
      exact TookP.bad (left := left) hfin.1 (anyR_of hr5 _ rfl _) hl rfl hfin.2
    | ok pr l2 =>
      obtain ⟨nlo, nhi⟩ := pr
      rw [hcp] at hr hT
      obtain ⟨q, rfl, hlo, hhi, hq, rfl, hPa3⟩ := hr
      have HPa3 := Lib.hid hPa3
      have HT := Lib.hid hT
      have Hlo := Lib.hid hlo
      have Hhi := Lib.hid hhi
      clear hPa3 hT hcp hlo hhi
      have c0 := HB3.out.cell 0
      have c1 := HB3.out.cell 1
      have c2 := HB3.out.cell 2
      have c3 := HB3.out.cell 3
      have c4 := HB3.out.cell 4
      have c5 := HB3.out.cell 5
      have c6 := HB3.out.cell 6
      have c7 := HB3.out.cell 7
      go_wp2_with fail
      refine (repeated_any (fun b => S b ∧ b < w.heap.size) x _ nlo nhi Hlo.out Hhi.out w3 Hx3.out).mono ?_
      rintro e w4 ⟨cs4, rfl, hr4, hb4⟩
      clear c0 c1 c2 c3 c4 c5 c6 c7
      have Hr4 := Lib.hid hr4
      have harr := reR_arr hr4
      have hR4 := HR3.out.ext hb4
      have HPa4 := Lib.hid (HPa3.out.ext hb4)
      have Hs34 := Lib.hid hb4.size
      have HO4 : Hid (Only (fun x => x = g) w w4) := Lib.hid (HO3.out.trans (Only.of_ext hb4) (fun _ _ h => h))
      clear hr4 hb4
      unfold reV
      go_wp2_with (refine wpList_store_re rfl _ _ rfl (w.heap.size + 1) rfl rfl harr.1 rfl harr.2 hR4 ?_; intro w5 hB5 ho5)
      refine bodyPost_ret (results_re2 rfl _ _ (w.heap.size + 1) _ _ harr.1 rfl hB5) rfl ?_
      have hfin := fin_store (Nat.le_succ _) hgl HO4.out HPa4.out ho5
      have hs13 := Hs13.out
      have hsb := HsB.out
      have hr5 : ReR (fun b => (S b ∧ b < w.heap.size) ∨ w.heap.size < b) w5 (repE x nlo nhi) cs4 := (Hr4.out.only ho5 (fun b hb h => by rcases hb with hb | hb; have := hb.2; omega; omega)).mono (fun b hb _ => hb.imp id (fun hb => by omega))
      rw [HT.out]
      exact TookP.ok (p := q) hfin.1 ⟨cs4, rfl, hr5⟩ hq rfl hfin.2
  have hf123 : isNext 123 ((natsOf s).drop p) = false := by simpa using hc123
  have Hf123 := Lib.hid hf123
  have hT : timesQ x ((natsOf s).drop p) = .ok x ((natsOf s).drop p) := timesQ_none Hf42.out Hf43.out Hf63.out Hf123.out
  have HT := Lib.hid hT
  clear hc123 hf123 hT
  refine (HN.out 42 Hf42.out _ (HPa.out)).mono ?_
  rintro e wq ⟨rfl, m0, rfl⟩
  go_wp2_with fail
  refine (HN.out 43 Hf43.out _ (HPa.out.drewN _)).mono ?_
  rintro e wq ⟨rfl, m1, rfl⟩
  go_wp2_with fail
  refine (HN.out 63 Hf63.out _ (HPa.out.drewN _)).mono ?_
  rintro e wq ⟨rfl, m2, rfl⟩
  go_wp2_with fail
  refine (HN.out 123 Hf123.out _ (HPa.out.drewN _)).mono ?_
  rintro e wq ⟨rfl, m3, rfl⟩
  have harr := reR_arr Hx.out
  have hR3 := HR.out.drewN (m0 + m1 + m2 + m3)
  have c0 := (HB.out.drewN (m0 + m1 + m2 + m3)).cell 0
  have c1 := (HB.out.drewN (m0 + m1 + m2 + m3)).cell 1
  have c2 := (HB.out.drewN (m0 + m1 + m2 + m3)).cell 2
  have c3 := (HB.out.drewN (m0 + m1 + m2 + m3)).cell 3
  have c4 := (HB.out.drewN (m0 + m1 + m2 + m3)).cell 4
  have c5 := (HB.out.drewN (m0 + m1 + m2 + m3)).cell 5
  have c6 := (HB.out.drewN (m0 + m1 + m2 + m3)).cell 6
  have c7 := (HB.out.drewN (m0 + m1 + m2 + m3)).cell 7
  go_wp2_with (refine wpList_store_re rfl _ _ rfl (w.heap.size + 1) rfl rfl harr.1 rfl harr.2 hR3 ?_; intro w5 hB5 ho5)
  refine bodyPost_ret (results_re2 rfl _ _ (w.heap.size + 1) _ _ harr.1 rfl hB5) rfl ?_
  have hfin := fin_store (Nat.le_succ _) hgl (HO1.out.drewN _) (HPa.out.drewN _) ho5
  have hsb := HsB.out
  have hr5 : ReR (fun b => (S b ∧ b < w.heap.size) ∨ w.heap.size < b) w5 x _ := ((Hx.out.ext (ext_drewN (Below.refl _ _) _)).only ho5 (fun b hb h => by have := hb.2; omega)).mono (fun b hb _ => .inl hb)
  rw [HT.out]
  exact TookP.ok (p := p) hfin.1 ⟨_, rfl, hr5⟩ hp rfl hfin.2
end Go.Proofs.YtmggajpecgnjkaaDoor

/-
  Contract of the program's group, where that of alternatives is known. No statement of the seat is proved here.
-/
namespace Go.Proofs.YtmggajpecgnjkaaDoor
open Go Go.RowKit
set_option maxRecDepth 100000

theorem arr_eight {cs : Array Value} (h : cs.size = 8) : ∃ u0 u1 u2 u3 u4 u5 u6 u7, cs = #[u0, u1, u2, u3, u4, u5, u6, u7] := by
  obtain ⟨a, b, c, d, e, f, g, i, h2⟩ := eight_cells (l := cs.toList) (by simpa using h)
  exact ⟨a, b, c, d, e, f, g, i, by rw [← h2]⟩
def groupQ (T : PR Ex) : PR Ex := T.bind fun x l2 => match l2 with
  | 41 :: l3 => .ok x l3
  | _ => .bad l2.length
theorem groupQ_ok {x : Ex} {l : List Nat} : groupQ (.ok x l) = if isNext 41 l = true then .ok x l.tail else .bad l.length := by
  unfold groupQ
  simp only [PR.bind]
  split
  · simp [isNext]
  · rename_i h
    rw [if_neg]
    intro hn
    match l with
    | [] => simp [isNext] at hn
    | c :: r =>
      simp [isNext] at hn
      subst hn
      exact h _ rfl

set_option maxHeartbeats 8000000 in
theorem group_of (T : PR Ex) (w : World) (g : Nat) (s : ByteArray) (p : Nat) (hs : s.size ≤ 1000000) (hp : p ≤ s.size) (h : PaS w g s p)
    (hA : ∀ W, w.heap.size ≤ W.heap.size → PaS W g s p → Calls Tryd.prog 41 #[.pointer (some ⟨g, 0, none⟩)] W (TookP W g s T (isRe W.heap.size) anyR)) :
    Calls Tryd.prog 93 #[.pointer (some ⟨g, 0, none⟩)] w (TookP w g s (groupQ T) (isRe w.heap.size) anyR) := by
  have hgl := h.lt
  have HA := Lib.hid (hA (w.alloc (Obj.cells #[.int .i64 0, .int .u64 0, .int .u64 0, .int .u64 0, .int .u64 0, .slice none 0 0, .int .i64 0, .int .i64 0] 27)) (by simp) (h.alloc _))
  have HR := Lib.hid (Blk.new w 27 #[.int .i64 0, .int .u64 0, .int .u64 0, .int .u64 0, .int .u64 0, .slice none 0 0, .int .i64 0, .int .i64 0])
  have HO1 : Hid (Only (fun x => x = g) w (w.alloc (Obj.cells #[.int .i64 0, .int .u64 0, .int .u64 0, .int .u64 0, .int .u64 0, .slice none 0 0, .int .i64 0, .int .i64 0] 27))) := Lib.hid ((Only.refl _ _).alloc _)
  clear h hA
  go_enter Tryd.func93, Tryd.ntmps93
  go_wp2_with fail
  refine HA.out.mono ?_
  rintro e w3 ⟨ho3, hr⟩
  have HR3 := Lib.hid (HR.out.only ho3 (by omega))
  have HO3 : Hid (Only (fun x => x = g) w w3) := Lib.hid (HO1.out.trans ho3 (fun _ _ h => h))
  have HlR : Hid (w.heap.size < w3.heap.size) := Lib.hid HR3.out.lt
  clear ho3
  cases T with
  | bad left =>
    obtain ⟨v, rfl, ⟨cs, rfl, hsz, hone⟩, hl, hPa3⟩ := hr
    obtain ⟨u0, u1, u2, u3, u4, u5, u6, u7, rfl⟩ := arr_eight hsz
    have HT : Hid (groupQ (.bad left) = .bad left) := Lib.hid rfl
    have Hone := Lib.hid hone
    have HPa3 := Lib.hid hPa3
    clear hPa3 hsz
    go_wp2_with (refine wpList_store_re rfl _ _ rfl w3.heap.size rfl rfl rfl rfl hone (Blk.new _ _ _) ?_; intro w4 hB4 ho4)
    have HR4 := Lib.hid ((HR3.out.alloc (Obj.cells #[.int .i64 0, .int .u64 0, .int .u64 0, .int .u64 0, .int .u64 0, .slice none 0 0, .int .i64 0, .int .i64 0] 27)).only ho4 (by have := HlR.out; omega))
    have HPa4 := Lib.hid ((HPa3.out.alloc (Obj.cells #[.int .i64 0, .int .u64 0, .int .u64 0, .int .u64 0, .int .u64 0, .slice none 0 0, .int .i64 0, .int .i64 0] 27)).only ho4 (by have := HlR.out; omega))
    have HO4 : Hid (Only (fun x => x = g) w w4) := Lib.hid ((HO3.out.alloc (Obj.cells #[.int .i64 0, .int .u64 0, .int .u64 0, .int .u64 0, .int .u64 0, .slice none 0 0, .int .i64 0, .int .i64 0] 27)).trans ho4 (fun i hi h => by have := HlR.out; omega))
    have HD := Lib.hid hB4
    have HlD : Hid (w.heap.size < w3.heap.size) := HlR
    clear hB4 ho4 hone
    go_wp2
    refine wp_region_held_drew (S := fun w' => w'.cell? ⟨w3.heap.size, 0, none⟩ = some u0 ∧ w'.cell? ⟨w3.heap.size, 1, none⟩ = some u1 ∧ w'.cell? ⟨w3.heap.size, 2, none⟩ = some u2 ∧ w'.cell? ⟨w3.heap.size, 3, none⟩ = some u3 ∧ w'.cell? ⟨w3.heap.size, 4, none⟩ = some u4 ∧ w'.cell? ⟨w3.heap.size, 5, none⟩ = some u5 ∧ w'.cell? ⟨w3.heap.size, 6, none⟩ = some u6 ∧ w'.cell? ⟨w3.heap.size, 7, none⟩ = some u7) (by kernel_rfl) ?_ (fun hHeld => ?_)
    · exact ⟨HD.out.cell 0, HD.out.cell 1, HD.out.cell 2, HD.out.cell 3, HD.out.cell 4, HD.out.cell 5, HD.out.cell 6, HD.out.cell 7⟩
    refine wpAnyH_take (i := 0) (v := ?_) (take_list rfl) (by kernel_rfl) (by kernel_rfl) (by kernel_rfl) (fun _ _ _ h => h) (Or.inl ⟨by rfl, ?_⟩) (by assumption) ?_
    rotate_left
    · intro w hSw
      try dsimp only at hSw
      first | (go_simp; done) | (go_simp; with_reducible rfl)
    try simp only [Act.put, List.setIfInBounds_toArray, List.set_cons_zero, List.set_cons_succ]
    refine wpAnyH_take (i := 1) (v := ?_) (take_list rfl) (by kernel_rfl) (by kernel_rfl) (by kernel_rfl) (fun _ _ _ h => h) (Or.inl ⟨by rfl, ?_⟩) (by assumption) ?_
    rotate_left
    · intro w hSw
      try dsimp only at hSw
      first | (go_simp; done) | (go_simp; with_reducible rfl)
    try simp only [Act.put, List.setIfInBounds_toArray, List.set_cons_zero, List.set_cons_succ]
    refine wpAnyH_take (i := 2) (v := ?_) (take_list rfl) (by kernel_rfl) (by kernel_rfl) (by kernel_rfl) (fun _ _ _ h => h) (Or.inl ⟨by rfl, ?_⟩) (by assumption) ?_
    rotate_left
    · intro w hSw
      try dsimp only at hSw
      first | (go_simp; done) | (go_simp; with_reducible rfl)
    try simp only [Act.put, List.setIfInBounds_toArray, List.set_cons_zero, List.set_cons_succ]
    refine wpAnyH_take (i := 3) (v := undef) (take_list rfl) (by kernel_rfl) (by kernel_rfl) (by kernel_rfl) (fun _ _ _ h => h) (Or.inr ⟨by rfl, rfl⟩) (by assumption) ?_
    try simp only [Act.put, List.setIfInBounds_toArray, List.set_cons_zero, List.set_cons_succ]
    refine wpAnyH_take (i := 4) (v := undef) (take_list rfl) (by kernel_rfl) (by kernel_rfl) (by kernel_rfl) (fun _ _ _ h => h) (Or.inr ⟨by rfl, rfl⟩) (by assumption) ?_
    try simp only [Act.put, List.setIfInBounds_toArray, List.set_cons_zero, List.set_cons_succ]
    refine wpAnyH_take (i := 5) (v := ?_) (take_list rfl) (by kernel_rfl) (by kernel_rfl) (by kernel_rfl) (fun _ _ _ h => h) (Or.inl ⟨by rfl, ?_⟩) (by assumption) ?_
    rotate_left
    · intro w hSw
      try dsimp only at hSw
      first | (go_simp; done) | (go_simp; with_reducible rfl)
    try simp only [Act.put, List.setIfInBounds_toArray, List.set_cons_zero, List.set_cons_succ]
    refine wpAnyH_ready (rs := [6]) (by kernel_rfl) (by simp) ?_
    refine AllReadyH.cons (take_list rfl) (fun K hK => ?_) ?_
    · skip
      refine step_store_re rfl _ _ rfl w.heap.size rfl (ds := #[u0, u1, u2, u3, u4, u5, u6, u7]) rfl rfl rfl Hone.out (HR4.out.drew) ?_
      intro wy hBy hoy
      have hSy : Blk wy w3.heap.size 27 #[u0, u1, u2, u3, u4, u5, u6, u7] := (HD.out.drew).only hoy (by have := HlD.out; omega)
      refine hK.out _ _ ?_ (fun hHeld => ?_)
      · try dsimp only
        exact ⟨hSy.cell 0, hSy.cell 1, hSy.cell 2, hSy.cell 3, hSy.cell 4, hSy.cell 5, hSy.cell 6, hSy.cell 7⟩
      clear hK K
      refine wpAnyH_take (i := 7) (v := ?_) (take_list rfl) (by kernel_rfl) (by kernel_rfl) (by kernel_rfl) (fun _ _ _ h => h) (Or.inl ⟨by rfl, ?_⟩) (by assumption) ?_
      rotate_left
      · intro w hSw
        try dsimp only at hSw
        first | (go_simp; done) | (go_simp; with_reducible rfl)
      try simp only [Act.put, List.setIfInBounds_toArray, List.set_cons_zero, List.set_cons_succ]
      refine wpAnyH_done (by kernel_rfl) ?_ _
      go_wp2
      refine bodyPost_ret (results_re2 rfl _ _ w.heap.size _ _ rfl rfl hBy) rfl ?_
      have hfin := fin_store (Nat.le_refl _) hgl (HO4.out.drew) (HPa4.out.drew) hoy
      rw [HT.out]
      exact TookP.bad (left := left) hfin.1 ⟨_, rfl, rfl, Hone.out⟩ hl rfl hfin.2
    exact AllReadyH.nil
  | ok x l2 =>
    obtain ⟨v, q, rfl, ⟨cs, hv, hr4⟩, hq, rfl, hPa3⟩ := hr
    have harr := reR_arr hr4
    have hv2 : v = .agg cs.toArray := hv
    obtain ⟨u0, u1, u2, u3, u4, u5, u6, u7, hcs⟩ := arr_eight harr.1
    have hone := harr.2
    rw [hcs] at hone hv2
    subst hv2
    have hcl : cs = [u0, u1, u2, u3, u4, u5, u6, u7] := by have := congrArg Array.toList hcs; simpa using this
    subst hcl
    have Hone := Lib.hid hone
    have HPa3 := Lib.hid hPa3
    have Hr3 := Lib.hid (hr4.mono (T := fun b => w.heap.size < b ∧ b < w3.heap.size) (fun b hb hl => ⟨Nat.lt_of_lt_of_le (Nat.lt_succ_self _) (by simpa using hb), hl⟩))
    clear hPa3 harr hcs hv hr4
    go_wp2_with (refine wpList_store_re rfl _ _ rfl w3.heap.size rfl rfl rfl rfl hone (Blk.new _ _ _) ?_; intro w4 hB4 ho4)
    have HR4 := Lib.hid ((HR3.out.alloc (Obj.cells #[.int .i64 0, .int .u64 0, .int .u64 0, .int .u64 0, .int .u64 0, .slice none 0 0, .int .i64 0, .int .i64 0] 27)).only ho4 (by have := HlR.out; omega))
    have HPa4 := Lib.hid ((HPa3.out.alloc (Obj.cells #[.int .i64 0, .int .u64 0, .int .u64 0, .int .u64 0, .int .u64 0, .slice none 0 0, .int .i64 0, .int .i64 0] 27)).only ho4 (by have := HlR.out; omega))
    have HO4 : Hid (Only (fun x => x = g) w w4) := Lib.hid ((HO3.out.alloc (Obj.cells #[.int .i64 0, .int .u64 0, .int .u64 0, .int .u64 0, .int .u64 0, .slice none 0 0, .int .i64 0, .int .i64 0] 27)).trans ho4 (fun i hi h => by have := HlR.out; omega))
    have Hr4 : Hid (ReR (fun b => w.heap.size < b ∧ b < w3.heap.size) w4 x [u0, u1, u2, u3, u4, u5, u6, u7]) := Lib.hid ((Hr3.out.ext ((Below.refl _ _).alloc (Nat.le_refl _) (Obj.cells #[.int .i64 0, .int .u64 0, .int .u64 0, .int .u64 0, .int .u64 0, .slice none 0 0, .int .i64 0, .int .i64 0] 27))).only ho4 (fun b hb h => by omega))
    have HD := Lib.hid hB4
    have HlD : Hid (w.heap.size < w3.heap.size) := HlR
    have hgo := groupQ_ok (x := x) (l := (natsOf s).drop q)
    clear hB4 ho4 hone
    cases hn : isNext 41 ((natsOf s).drop q) with
    | true =>
      rw [hn, if_pos rfl, List.tail_drop] at hgo
      have HT := Lib.hid hgo
      have HTk := Lib.hid fun (W : World) (hW : PaS W g s q) => take_yes W g s q 41 hs hq hn hW
      have hqs := (next_true hn).1
      clear hgo hn
      go_wp2
      refine wp_region_held_drew (S := fun w' => w'.cell? ⟨w3.heap.size, 0, none⟩ = some u0 ∧ w'.cell? ⟨w3.heap.size, 1, none⟩ = some u1 ∧ w'.cell? ⟨w3.heap.size, 2, none⟩ = some u2 ∧ w'.cell? ⟨w3.heap.size, 3, none⟩ = some u3 ∧ w'.cell? ⟨w3.heap.size, 4, none⟩ = some u4 ∧ w'.cell? ⟨w3.heap.size, 5, none⟩ = some u5 ∧ w'.cell? ⟨w3.heap.size, 6, none⟩ = some u6 ∧ w'.cell? ⟨w3.heap.size, 7, none⟩ = some u7) (by kernel_rfl) ?_ (fun hHeld => ?_)
      · exact ⟨HD.out.cell 0, HD.out.cell 1, HD.out.cell 2, HD.out.cell 3, HD.out.cell 4, HD.out.cell 5, HD.out.cell 6, HD.out.cell 7⟩
      refine wpAnyH_take (i := 0) (v := ?_) (take_list rfl) (by kernel_rfl) (by kernel_rfl) (by kernel_rfl) (fun _ _ _ h => h) (Or.inl ⟨by rfl, ?_⟩) (by assumption) ?_
      rotate_left
      · intro w hSw
        try dsimp only at hSw
        first | (go_simp; done) | (go_simp; with_reducible rfl)
      try simp only [Act.put, List.setIfInBounds_toArray, List.set_cons_zero, List.set_cons_succ]
      refine wpAnyH_take (i := 1) (v := ?_) (take_list rfl) (by kernel_rfl) (by kernel_rfl) (by kernel_rfl) (fun _ _ _ h => h) (Or.inl ⟨by rfl, ?_⟩) (by assumption) ?_
      rotate_left
      · intro w hSw
        try dsimp only at hSw
        first | (go_simp; done) | (go_simp; with_reducible rfl)
      try simp only [Act.put, List.setIfInBounds_toArray, List.set_cons_zero, List.set_cons_succ]
      refine wpAnyH_take (i := 2) (v := ?_) (take_list rfl) (by kernel_rfl) (by kernel_rfl) (by kernel_rfl) (fun _ _ _ h => h) (Or.inl ⟨by rfl, ?_⟩) (by assumption) ?_
      rotate_left
      · intro w hSw
        try dsimp only at hSw
        first | (go_simp; done) | (go_simp; with_reducible rfl)
      try simp only [Act.put, List.setIfInBounds_toArray, List.set_cons_zero, List.set_cons_succ]
      refine wpAnyH_take (i := 3) (v := ?_) (take_list rfl) (by kernel_rfl) (by kernel_rfl) (by kernel_rfl) (fun _ _ _ h => h) (Or.inl ⟨by rfl, ?_⟩) (by assumption) ?_
      rotate_left
      · intro w hSw
        try dsimp only at hSw
        first | (go_simp; done) | (go_simp; with_reducible rfl)
      try simp only [Act.put, List.setIfInBounds_toArray, List.set_cons_zero, List.set_cons_succ]
      refine wpAnyH_ready (rs := [4]) (by kernel_rfl) (by simp) ?_
      refine AllReadyH.cons (take_list rfl) (fun K hK => ?_) ?_
      · skip
        go_simp
        refine (HTk.out _ HPa4.out.drew).mono ?_
        rintro e wk ⟨rfl, hok, hPk⟩
        dsimp only
        have hDk := HD.out.drew.only hok (by have := HlD.out; omega)
        refine hK.out _ _ ?_ (fun hHeld => ?_)
        · try dsimp only
          exact ⟨hDk.cell 0, hDk.cell 1, hDk.cell 2, hDk.cell 3, hDk.cell 4, hDk.cell 5, hDk.cell 6, hDk.cell 7⟩
        clear hK K
        refine wpAnyH_take (i := 5) (v := ?_) (take_list rfl) (by kernel_rfl) (by kernel_rfl) (by kernel_rfl) (fun _ _ _ h => h) (Or.inl ⟨by rfl, ?_⟩) (by assumption) ?_
        rotate_left
        · intro w hSw
          try dsimp only at hSw
          first | (go_simp; done) | (go_simp; with_reducible rfl)
        try simp only [Act.put, List.setIfInBounds_toArray, List.set_cons_zero, List.set_cons_succ]
        refine wpAnyH_ready (rs := [6]) (by kernel_rfl) (by simp) ?_
        refine AllReadyH.cons (take_list rfl) (fun K hK => ?_) ?_
        · skip
          refine step_store_re rfl _ _ rfl w.heap.size rfl (ds := #[u0, u1, u2, u3, u4, u5, u6, u7]) rfl rfl rfl Hone.out (HR4.out.drew.only hok (by omega)) ?_
          intro wy hBy hoy
          have hSy : Blk wy w3.heap.size 27 #[u0, u1, u2, u3, u4, u5, u6, u7] := (hDk).only hoy (by have := HlD.out; omega)
          refine hK.out _ _ ?_ (fun hHeld => ?_)
          · try dsimp only
            exact ⟨hSy.cell 0, hSy.cell 1, hSy.cell 2, hSy.cell 3, hSy.cell 4, hSy.cell 5, hSy.cell 6, hSy.cell 7⟩
          clear hK K
          refine wpAnyH_take (i := 7) (v := ?_) (take_list rfl) (by kernel_rfl) (by kernel_rfl) (by kernel_rfl) (fun _ _ _ h => h) (Or.inl ⟨by rfl, ?_⟩) (by assumption) ?_
          rotate_left
          · intro w hSw
            try dsimp only at hSw
            first | (go_simp; done) | (go_simp; with_reducible rfl)
          try simp only [Act.put, List.setIfInBounds_toArray, List.set_cons_zero, List.set_cons_succ]
          refine wpAnyH_done (by kernel_rfl) ?_ _
          go_wp2
          refine bodyPost_ret (results_re2 rfl _ _ w.heap.size _ _ rfl rfl hBy) rfl ?_
          have hfin := fin_store (Nat.le_refl _) hgl (HO4.out.drew.trans hok (fun _ _ h => h)) (hPk) hoy
          rw [HT.out]
          exact TookP.ok (p := q + 1) hfin.1 ⟨_, rfl, (((Hr4.out.ext (ext_drew (Below.refl _ _))).only hok (fun b hb h => by have := hb.1; omega)).only hoy (fun b hb h => by have := hb.1; have := HlR.out; omega)).mono (fun b hb _ => by have := hb.1; have := HlR.out; omega)⟩ hqs rfl hfin.2
        exact AllReadyH.nil
      exact AllReadyH.nil
    | false =>
      rw [hn, if_neg (by simp), nats_len] at hgo
      have HT := Lib.hid hgo
      have HTk := Lib.hid fun (W : World) (hW : PaS W g s q) => take_no W g s q 41 hs hq hn hW
      clear hgo hn
      go_wp2
      refine wp_region_held_drew (S := fun w' => w'.cell? ⟨w3.heap.size, 0, none⟩ = some u0 ∧ w'.cell? ⟨w3.heap.size, 1, none⟩ = some u1 ∧ w'.cell? ⟨w3.heap.size, 2, none⟩ = some u2 ∧ w'.cell? ⟨w3.heap.size, 3, none⟩ = some u3 ∧ w'.cell? ⟨w3.heap.size, 4, none⟩ = some u4 ∧ w'.cell? ⟨w3.heap.size, 5, none⟩ = some u5 ∧ w'.cell? ⟨w3.heap.size, 6, none⟩ = some u6 ∧ w'.cell? ⟨w3.heap.size, 7, none⟩ = some u7) (by kernel_rfl) ?_ (fun hHeld => ?_)
      · exact ⟨HD.out.cell 0, HD.out.cell 1, HD.out.cell 2, HD.out.cell 3, HD.out.cell 4, HD.out.cell 5, HD.out.cell 6, HD.out.cell 7⟩
      refine wpAnyH_take (i := 0) (v := ?_) (take_list rfl) (by kernel_rfl) (by kernel_rfl) (by kernel_rfl) (fun _ _ _ h => h) (Or.inl ⟨by rfl, ?_⟩) (by assumption) ?_
      rotate_left
      · intro w hSw
        try dsimp only at hSw
        first | (go_simp; done) | (go_simp; with_reducible rfl)
      try simp only [Act.put, List.setIfInBounds_toArray, List.set_cons_zero, List.set_cons_succ]
      refine wpAnyH_take (i := 1) (v := ?_) (take_list rfl) (by kernel_rfl) (by kernel_rfl) (by kernel_rfl) (fun _ _ _ h => h) (Or.inl ⟨by rfl, ?_⟩) (by assumption) ?_
      rotate_left
      · intro w hSw
        try dsimp only at hSw
        first | (go_simp; done) | (go_simp; with_reducible rfl)
      try simp only [Act.put, List.setIfInBounds_toArray, List.set_cons_zero, List.set_cons_succ]
      refine wpAnyH_take (i := 2) (v := ?_) (take_list rfl) (by kernel_rfl) (by kernel_rfl) (by kernel_rfl) (fun _ _ _ h => h) (Or.inl ⟨by rfl, ?_⟩) (by assumption) ?_
      rotate_left
      · intro w hSw
        try dsimp only at hSw
        first | (go_simp; done) | (go_simp; with_reducible rfl)
      try simp only [Act.put, List.setIfInBounds_toArray, List.set_cons_zero, List.set_cons_succ]
      refine wpAnyH_take (i := 3) (v := ?_) (take_list rfl) (by kernel_rfl) (by kernel_rfl) (by kernel_rfl) (fun _ _ _ h => h) (Or.inl ⟨by rfl, ?_⟩) (by assumption) ?_
      rotate_left
      · intro w hSw
        try dsimp only at hSw
        first | (go_simp; done) | (go_simp; with_reducible rfl)
      try simp only [Act.put, List.setIfInBounds_toArray, List.set_cons_zero, List.set_cons_succ]
      refine wpAnyH_ready (rs := [4]) (by kernel_rfl) (by simp) ?_
      refine AllReadyH.cons (take_list rfl) (fun K hK => ?_) ?_
      · skip
        go_simp
        refine (HTk.out _ HPa4.out.drew).mono ?_
        rintro e wk ⟨rfl, nk, rfl⟩
        dsimp only
        refine hK.out _ _ ?_ (fun hHeld => ?_)
        · try dsimp only
          exact ⟨HD.out.cell 0, HD.out.cell 1, HD.out.cell 2, HD.out.cell 3, HD.out.cell 4, HD.out.cell 5, HD.out.cell 6, HD.out.cell 7⟩
        clear hK K
        refine wpAnyH_take (i := 5) (v := ?_) (take_list rfl) (by kernel_rfl) (by kernel_rfl) (by kernel_rfl) (fun _ _ _ h => h) (Or.inl ⟨by rfl, ?_⟩) (by assumption) ?_
        rotate_left
        · intro w hSw
          try dsimp only at hSw
          first | (go_simp; done) | (go_simp; with_reducible rfl)
        try simp only [Act.put, List.setIfInBounds_toArray, List.set_cons_zero, List.set_cons_succ]
        refine wpAnyH_ready (rs := [6]) (by kernel_rfl) (by simp) ?_
        refine AllReadyH.cons (take_list rfl) (fun K hK => ?_) ?_
        · skip
          refine step_store_re rfl _ _ rfl w.heap.size rfl (ds := #[u0, u1, u2, u3, u4, u5, u6, u7]) rfl rfl rfl Hone.out (HR4.out.drew.drewN _) ?_
          intro wy hBy hoy
          have hSy : Blk wy w3.heap.size 27 #[u0, u1, u2, u3, u4, u5, u6, u7] := (HD.out.drew.drewN _).only hoy (by have := HlD.out; omega)
          refine hK.out _ _ ?_ (fun hHeld => ?_)
          · try dsimp only
            exact ⟨hSy.cell 0, hSy.cell 1, hSy.cell 2, hSy.cell 3, hSy.cell 4, hSy.cell 5, hSy.cell 6, hSy.cell 7⟩
          clear hK K
          refine wpAnyH_take (i := 7) (v := ?_) (take_list rfl) (by kernel_rfl) (by kernel_rfl) (by kernel_rfl) (fun _ _ _ h => h) (Or.inl ⟨by rfl, ?_⟩) (by assumption) ?_
          rotate_left
          · intro w hSw
            try dsimp only at hSw
            first | (go_simp; done) | (go_simp; with_reducible rfl)
          try simp only [Act.put, List.setIfInBounds_toArray, List.set_cons_zero, List.set_cons_succ]
          refine wpAnyH_done (by kernel_rfl) ?_ _
          go_wp2
          refine bodyPost_ret (results_re2 rfl _ _ w.heap.size _ _ rfl rfl hBy) rfl ?_
          have hfin := fin_store (Nat.le_refl _) hgl (HO4.out.drew.drewN _) (HPa4.out.drew.drewN _) hoy
          rw [HT.out]
          exact TookP.bad (left := s.size - q) hfin.1 ⟨_, rfl, rfl, Hone.out⟩ (by omega) (by omega) hfin.2
        exact AllReadyH.nil
      exact AllReadyH.nil
end Go.Proofs.YtmggajpecgnjkaaDoor

/-
  Contract of the program's atom, where that of alternatives is known. No statement of the seat is proved here.
-/
namespace Go.Proofs.YtmggajpecgnjkaaDoor
open Go Go.RowKit
set_option maxRecDepth 100000

theorem dot_set : ofB (rangeB 0 255) = notB zeroB := by decide +kernel
theorem atomQ_else {f : Nat} {l : List Nat} (h1 : isNext 46 l = false) (h2 : isNext 40 l = false) (h3 : isNext 91 l = false) : atomQ (f + 1) l = (byteP l).bind fun b l1 => .ok (byteE b) l1 := by
  simp only [atomQ]
  split
  · simp [isNext] at h1
  · simp [isNext] at h2
  · simp [isNext] at h3
  · rfl

set_option maxHeartbeats 8000000 in
theorem atom_of (f : Nat) (w : World) (g : Nat) (s : ByteArray) (p : Nat) (hs : s.size ≤ 1000000) (hp : p ≤ s.size) (h : PaS w g s p)
    (hA : ∀ W, w.heap.size ≤ W.heap.size → p + 1 ≤ s.size → PaS W g s (p + 1) → Calls Tryd.prog 41 #[.pointer (some ⟨g, 0, none⟩)] W (TookP W g s (altsQ f ((natsOf s).drop (p + 1))) (isRe W.heap.size) anyR)) :
    Calls Tryd.prog 76 #[.pointer (some ⟨g, 0, none⟩)] w (TookP w g s (atomQ (f + 1) ((natsOf s).drop p)) (isRe w.heap.size) anyR) := by
  have hgl := h.lt
  have HPa := Lib.hid (h.alloc (Obj.cells #[.int .i64 0, .int .u64 0, .int .u64 0, .int .u64 0, .int .u64 0, .slice none 0 0, .int .i64 0, .int .i64 0] 27))
  have HR := Lib.hid (Blk.new w 27 #[.int .i64 0, .int .u64 0, .int .u64 0, .int .u64 0, .int .u64 0, .slice none 0 0, .int .i64 0, .int .i64 0])
  have HO1 : Hid (Only (fun x => x = g) w (w.alloc (Obj.cells #[.int .i64 0, .int .u64 0, .int .u64 0, .int .u64 0, .int .u64 0, .slice none 0 0, .int .i64 0, .int .i64 0] 27))) := Lib.hid ((Only.refl _ _).alloc _)
  have HA := Lib.hid hA
  have HN : Hid (∀ c : Nat, isNext c ((natsOf s).drop p) = false → ∀ W, PaS W g s p → Calls Tryd.prog 62 #[.pointer (some ⟨g, 0, none⟩), .int .u8 (c : Int)] W fun e w' => e = .returned (.bool false) ∧ ∃ n, w' = W.drewN n) := Lib.hid fun c hc W hW => take_no W g s p c hs hp hc hW
  have HY : Hid (∀ c : Nat, isNext c ((natsOf s).drop p) = true → ∀ W, PaS W g s p → Calls Tryd.prog 62 #[.pointer (some ⟨g, 0, none⟩), .int .u8 (c : Int)] W fun e w' => e = .returned (.bool true) ∧ Only (fun b => b = g) W w' ∧ PaS w' g s (p + 1)) := Lib.hid fun c hc W hW => take_yes W g s p c hs hp hc hW
  clear h hA
  go_enter Tryd.func76, Tryd.ntmps76
  go_wp2_with fail
  by_cases hc46 : isNext 46 ((natsOf s).drop p) = true
  · have hT : atomQ (f + 1) ((natsOf s).drop p) = .ok dotE ((natsOf s).drop (p + 1)) := by rw [(next_true hc46).2]; rfl
    have HT := Lib.hid hT
    have Hc := Lib.hid hc46
    have hps := (next_true hc46).1
    clear hT hc46
    refine (HY.out 46 Hc.out _ (HPa.out)).mono ?_
    rintro e w3 ⟨rfl, ho3, hPa3⟩
    have HR3 := Lib.hid ((HR.out).only ho3 (by omega))
    have HO3 : Hid (Only (fun x => x = g) w w3) := Lib.hid ((HO1.out).trans ho3 (fun _ _ h => h))
    have HPa3 := Lib.hid hPa3
    clear ho3 hPa3
    go_wp2_with fail
    refine (range_any 0 255 _ (by omega) (by omega)).mono ?_
    rintro e w4 ⟨rfl, hb4⟩
    have HR4 := Lib.hid (HR3.out.ext hb4)
    have HPa4 := Lib.hid (HPa3.out.ext hb4)
    have HO4 : Hid (Only (fun x => x = g) w w4) := Lib.hid (HO3.out.trans (Only.of_ext hb4) (fun _ _ h => h))
    clear hb4
    go_wp2_with fail
    refine (ofset_any _ (ofB_ok _) _).mono ?_
    rintro e w8 ⟨cs8, rfl, hr8, hb8⟩
    have harr := reR_arr (hr8 (fun b => w.heap.size ≤ b) w8)
    have hR8 := HR4.out.ext hb8
    have HPa8 := Lib.hid (HPa4.out.ext hb8)
    have HO8 : Hid (Only (fun x => x = g) w w8) := Lib.hid (HO4.out.trans (Only.of_ext hb8) (fun _ _ h => h))
    have Hr8 := Lib.hid hr8
    clear hr8 hb8
    unfold reV
    go_wp2_with (refine wpList_store_re rfl _ _ rfl w.heap.size rfl rfl harr.1 rfl harr.2 hR8 ?_; intro w9 hB9 ho9)
    refine bodyPost_ret (results_re2 rfl _ _ w.heap.size _ _ harr.1 rfl hB9) rfl ?_
    have hfin := fin_store (Nat.le_refl _) hgl HO8.out HPa8.out ho9
    rw [HT.out]
    exact TookP.ok (p := p + 1) hfin.1 ⟨cs8, rfl, by have := Hr8.out (fun b => w.heap.size ≤ b) w9; rw [dot_set] at this; exact this⟩ hps rfl hfin.2
  have hf46 : isNext 46 ((natsOf s).drop p) = false := by simpa using hc46
  have Hf46 := Lib.hid hf46
  clear hc46 hf46
  by_cases hc40 : isNext 40 ((natsOf s).drop p) = true
  · have hT : atomQ (f + 1) ((natsOf s).drop p) = groupQ (altsQ f ((natsOf s).drop (p + 1))) := by rw [(next_true hc40).2]; rfl
    have HT := Lib.hid hT
    have Hc := Lib.hid hc40
    have hps := (next_true hc40).1
    clear hT hc40
    refine (HN.out 46 Hf46.out _ (HPa.out)).mono ?_
    rintro e wq ⟨rfl, m0, rfl⟩
    go_wp2_with fail
    refine (HY.out 40 Hc.out _ (HPa.out.drewN _)).mono ?_
    rintro e w3 ⟨rfl, ho3, hPa3⟩
    have HR3 := Lib.hid ((HR.out.drewN _).only ho3 (by omega))
    have HO3 : Hid (Only (fun x => x = g) w w3) := Lib.hid ((HO1.out.drewN _).trans ho3 (fun _ _ h => h))
    have HPa3 := Lib.hid hPa3
    clear ho3 hPa3
    have Hs3 : Hid (w.heap.size < w3.heap.size) := Lib.hid HR3.out.lt
    go_wp2_with fail
    refine (group_of _ w3 g s (p + 1) hs hps HPa3.out (fun W hW hPW => HA.out W (by have := Hs3.out; omega) hps hPW)).mono ?_
    rintro e w4 ⟨ho4, hr⟩
    have HR4 := Lib.hid (HR3.out.only ho4 (by omega))
    have HO4 : Hid (Only (fun x => x = g) w w4) := Lib.hid (HO3.out.trans ho4 (fun _ _ h => h))
    clear ho4
    have hT := HT.out
    obtain ⟨T, hTe⟩ : ∃ T, groupQ (altsQ f ((natsOf s).drop (p + 1))) = T := ⟨_, rfl⟩
    rw [hTe] at hr hT
    clear HT hTe
    have HT := Lib.hid hT
    clear hT
    cases T with
    | bad left =>
      obtain ⟨v, rfl, ⟨cs, rfl, hsz, hone⟩, hl, hPa4⟩ := hr
      have HPa4 := Lib.hid hPa4
      have hR4 := HR4.out
      clear hPa4
      go_wp2_with (refine wpList_store_re rfl _ _ rfl w.heap.size rfl rfl hsz rfl hone hR4 ?_; intro w9 hB9 ho9)
      refine bodyPost_ret (results_re2 rfl _ _ w.heap.size _ _ hsz rfl hB9) rfl ?_
      have hfin := fin_store (Nat.le_refl _) hgl HO4.out HPa4.out ho9
      rw [HT.out]
      exact TookP.bad (left := left) hfin.1 ⟨_, rfl, hsz, hone⟩ hl rfl hfin.2
    | ok x l2 =>
      obtain ⟨v, q, rfl, ⟨cs, rfl, hr4⟩, hq, rfl, hPa4⟩ := hr
      have harr := reR_arr hr4
      have HPa4 := Lib.hid hPa4
      have hR4 := HR4.out
      have Hr4 := Lib.hid hr4
      clear hPa4 hr4
      unfold reV
      go_wp2_with (refine wpList_store_re rfl _ _ rfl w.heap.size rfl rfl harr.1 rfl harr.2 hR4 ?_; intro w9 hB9 ho9)
      refine bodyPost_ret (results_re2 rfl _ _ w.heap.size _ _ harr.1 rfl hB9) rfl ?_
      have hfin := fin_store (Nat.le_refl _) hgl HO4.out HPa4.out ho9
      have hs3 := Hs3.out
      rw [HT.out]
      exact TookP.ok (p := q) hfin.1 ⟨cs, rfl, (Hr4.out.only ho9 (fun b hb h => by omega)).mono (fun b hb _ => by omega)⟩ hq rfl hfin.2
  have hf40 : isNext 40 ((natsOf s).drop p) = false := by simpa using hc40
  have Hf40 := Lib.hid hf40
  clear hc40 hf40 HA
  by_cases hc91 : isNext 91 ((natsOf s).drop p) = true
  · have hT : atomQ (f + 1) ((natsOf s).drop p) = classP ((natsOf s).drop (p + 1)) := by rw [(next_true hc91).2]; rfl
    have HT0 := Lib.hid hT
    have Hc := Lib.hid hc91
    have hps := (next_true hc91).1
    clear hT hc91
    refine (HN.out 46 Hf46.out _ (HPa.out)).mono ?_
    rintro e wq ⟨rfl, m0, rfl⟩
    go_wp2_with fail
    refine (HN.out 40 Hf40.out _ (HPa.out.drewN _)).mono ?_
    rintro e wq ⟨rfl, m1, rfl⟩
    go_wp2_with fail
    refine (HY.out 91 Hc.out _ (HPa.out.drewN _)).mono ?_
    rintro e w3 ⟨rfl, ho3, hPa3⟩
    have HR3 := Lib.hid ((HR.out.drewN _).only ho3 (by omega))
    have HO3 : Hid (Only (fun x => x = g) w w3) := Lib.hid ((HO1.out.drewN _).trans ho3 (fun _ _ h => h))
    have HPa3 := Lib.hid hPa3
    clear ho3 hPa3
    go_wp2_with fail
    refine (set_any w3 g s (p + 1) hs hps HPa3.out).mono ?_
    rintro e w4 ⟨ho4, hr⟩
    have HR4 := Lib.hid (HR3.out.only ho4 (by omega))
    have HO4 : Hid (Only (fun x => x = g) w w4) := Lib.hid (HO3.out.trans ho4 (fun _ _ h => h))
    clear ho4
    have hT := HT0.out
    obtain ⟨T, hTe⟩ : ∃ T, classP ((natsOf s).drop (p + 1)) = T := ⟨_, rfl⟩
    rw [hTe] at hr hT
    clear HT0 hTe
    have HT := Lib.hid hT
    clear hT
    cases T with
    | bad left =>
      obtain ⟨v, rfl, ⟨us, hus, hv⟩, hl, hPa4⟩ := hr
      obtain ⟨b0, b1, b2, b3, rfl⟩ := four_words hus
      have hv2 : v = .agg #[.int .u64 (b0 : Int), .int .u64 (b1 : Int), .int .u64 (b2 : Int), .int .u64 (b3 : Int)] := hv
      subst hv2
      have HPa4 := Lib.hid hPa4
      clear hPa4 hv
      go_wp2_with fail
      refine (ofset_any _ hus _).mono ?_
      rintro e w8 ⟨cs8, rfl, hr8, hb8⟩
      have harr := reR_arr (hr8 (fun b => w.heap.size ≤ b) w8)
      have hR8 := (HR4.out.alloc (Obj.cells #[.int .u64 (b0 : Int), .int .u64 (b1 : Int), .int .u64 (b2 : Int), .int .u64 (b3 : Int)] 24)).ext hb8
      have HPa8 := Lib.hid ((HPa4.out.alloc (Obj.cells #[.int .u64 (b0 : Int), .int .u64 (b1 : Int), .int .u64 (b2 : Int), .int .u64 (b3 : Int)] 24)).ext hb8)
      have HO8 : Hid (Only (fun x => x = g) w w8) := Lib.hid ((HO4.out.alloc (Obj.cells #[.int .u64 (b0 : Int), .int .u64 (b1 : Int), .int .u64 (b2 : Int), .int .u64 (b3 : Int)] 24)).trans (Only.of_ext hb8) (fun _ _ h => h))
      have Hr8 := Lib.hid hr8
      clear hr8 hb8
      unfold reV
      go_wp2_with (refine wpList_store_re rfl _ _ rfl w.heap.size rfl rfl harr.1 rfl harr.2 hR8 ?_; intro w9 hB9 ho9)
      refine bodyPost_ret (results_re2 rfl _ _ w.heap.size _ _ harr.1 rfl hB9) rfl ?_
      have hfin := fin_store (Nat.le_refl _) hgl HO8.out HPa8.out ho9
      rw [HT.out]
      exact TookP.bad (left := left) hfin.1 (anyR_of (Hr8.out (fun b => w.heap.size ≤ b) w9) _ rfl _) hl rfl hfin.2
    | ok x l2 =>
      obtain ⟨v, q, rfl, ⟨us, hus, rfl, hv⟩, hq, rfl, hPa4⟩ := hr
      obtain ⟨b0, b1, b2, b3, rfl⟩ := four_words hus
      have hv2 : v = .agg #[.int .u64 (b0 : Int), .int .u64 (b1 : Int), .int .u64 (b2 : Int), .int .u64 (b3 : Int)] := hv
      subst hv2
      have HPa4 := Lib.hid hPa4
      clear hPa4 hv
      go_wp2_with fail
      refine (ofset_any _ hus _).mono ?_
      rintro e w8 ⟨cs8, rfl, hr8, hb8⟩
      have harr := reR_arr (hr8 (fun b => w.heap.size ≤ b) w8)
      have hR8 := (HR4.out.alloc (Obj.cells #[.int .u64 (b0 : Int), .int .u64 (b1 : Int), .int .u64 (b2 : Int), .int .u64 (b3 : Int)] 24)).ext hb8
      have HPa8 := Lib.hid ((HPa4.out.alloc (Obj.cells #[.int .u64 (b0 : Int), .int .u64 (b1 : Int), .int .u64 (b2 : Int), .int .u64 (b3 : Int)] 24)).ext hb8)
      have HO8 : Hid (Only (fun x => x = g) w w8) := Lib.hid ((HO4.out.alloc (Obj.cells #[.int .u64 (b0 : Int), .int .u64 (b1 : Int), .int .u64 (b2 : Int), .int .u64 (b3 : Int)] 24)).trans (Only.of_ext hb8) (fun _ _ h => h))
      have Hr8 := Lib.hid hr8
      clear hr8 hb8
      unfold reV
      go_wp2_with (refine wpList_store_re rfl _ _ rfl w.heap.size rfl rfl harr.1 rfl harr.2 hR8 ?_; intro w9 hB9 ho9)
      refine bodyPost_ret (results_re2 rfl _ _ w.heap.size _ _ harr.1 rfl hB9) rfl ?_
      have hfin := fin_store (Nat.le_refl _) hgl HO8.out HPa8.out ho9
      rw [HT.out]
      exact TookP.ok (p := q) hfin.1 ⟨cs8, rfl, Hr8.out (fun b => w.heap.size ≤ b) w9⟩ hq rfl hfin.2
  have hf91 : isNext 91 ((natsOf s).drop p) = false := by simpa using hc91
  have Hf91 := Lib.hid hf91
  have HT0 := Lib.hid (atomQ_else (f := f) Hf46.out Hf40.out Hf91.out)
  clear hc91 hf91
  refine (HN.out 46 Hf46.out _ (HPa.out)).mono ?_
  rintro e wq ⟨rfl, m0, rfl⟩
  go_wp2_with fail
  refine (HN.out 40 Hf40.out _ (HPa.out.drewN _)).mono ?_
  rintro e wq ⟨rfl, m1, rfl⟩
  go_wp2_with fail
  refine (HN.out 91 Hf91.out _ (HPa.out.drewN _)).mono ?_
  rintro e wq ⟨rfl, m2, rfl⟩
  go_wp2_with fail
  refine (onebyte_any _ g s p hs hp (HPa.out.drewN _)).mono ?_
  rintro e w3 ⟨ho3, hr⟩
  have HR3 := Lib.hid ((HR.out.drewN _).only ho3 (by omega))
  have HO3 : Hid (Only (fun x => x = g) w w3) := Lib.hid ((HO1.out.drewN _).trans ho3 (fun _ _ h => h))
  clear ho3
  have hT := HT0.out
  cases hb : byteP ((natsOf s).drop p) with
  | bad left =>
    rw [hb] at hr hT
    obtain ⟨v, rfl, ⟨n, rfl, hn⟩, hl, hPa3⟩ := hr
    have HPa3 := Lib.hid hPa3
    have HT := Lib.hid hT
    clear hPa3 hT hb HT0
    go_wp2_with fail
    refine (of_any (some ⟨_, 0, none⟩) 1 1 [n] _ rfl (by simpa using hn) (by simp) (Rd.lit w3 #[.int .u8 (n : Int)] 5)).mono ?_
    rintro e w4 ⟨rfl, hb4'⟩
    have hb4 : Below w3.heap.size w3 w4 := ext_trans ((Below.refl _ _).alloc (Nat.le_refl _) _) hb4'
    have HR4 := Lib.hid (HR3.out.ext hb4)
    have HPa4 := Lib.hid (HPa3.out.ext hb4)
    have HO4 : Hid (Only (fun x => x = g) w w4) := Lib.hid (HO3.out.trans (Only.of_ext hb4) (fun _ _ h => h))
    clear hb4 hb4'
    go_wp2_with fail
    refine (ofset_any _ (ofB_ok _) _).mono ?_
    rintro e w8 ⟨cs8, rfl, hr8, hb8⟩
    have harr := reR_arr (hr8 (fun b => w.heap.size ≤ b) w8)
    have hR8 := HR4.out.ext hb8
    have HPa8 := Lib.hid (HPa4.out.ext hb8)
    have HO8 : Hid (Only (fun x => x = g) w w8) := Lib.hid (HO4.out.trans (Only.of_ext hb8) (fun _ _ h => h))
    have Hr8 := Lib.hid hr8
    clear hr8 hb8
    unfold reV
    go_wp2_with (refine wpList_store_re rfl _ _ rfl w.heap.size rfl rfl harr.1 rfl harr.2 hR8 ?_; intro w9 hB9 ho9)
    refine bodyPost_ret (results_re2 rfl _ _ w.heap.size _ _ harr.1 rfl hB9) rfl ?_
    have hfin := fin_store (Nat.le_refl _) hgl HO8.out HPa8.out ho9
    rw [HT.out]
    exact TookP.bad (left := left) hfin.1 (anyR_of (Hr8.out (fun b => w.heap.size ≤ b) w9) _ rfl _) hl rfl hfin.2
  | ok n l2 =>
    rw [hb] at hr hT
    obtain ⟨v, q, rfl, ⟨rfl, hn⟩, hq, rfl, hPa3⟩ := hr
    have HPa3 := Lib.hid hPa3
    have HT := Lib.hid hT
    clear hPa3 hT hb HT0
    go_wp2_with fail
    refine (of_any (some ⟨_, 0, none⟩) 1 1 [n] _ rfl (by simpa using hn) (by simp) (Rd.lit w3 #[.int .u8 (n : Int)] 5)).mono ?_
    rintro e w4 ⟨rfl, hb4'⟩
    have hb4 : Below w3.heap.size w3 w4 := ext_trans ((Below.refl _ _).alloc (Nat.le_refl _) _) hb4'
    have HR4 := Lib.hid (HR3.out.ext hb4)
    have HPa4 := Lib.hid (HPa3.out.ext hb4)
    have HO4 : Hid (Only (fun x => x = g) w w4) := Lib.hid (HO3.out.trans (Only.of_ext hb4) (fun _ _ h => h))
    clear hb4 hb4'
    go_wp2_with fail
    refine (ofset_any _ (ofB_ok _) _).mono ?_
    rintro e w8 ⟨cs8, rfl, hr8, hb8⟩
    have harr := reR_arr (hr8 (fun b => w.heap.size ≤ b) w8)
    have hR8 := HR4.out.ext hb8
    have HPa8 := Lib.hid (HPa4.out.ext hb8)
    have HO8 : Hid (Only (fun x => x = g) w w8) := Lib.hid (HO4.out.trans (Only.of_ext hb8) (fun _ _ h => h))
    have Hr8 := Lib.hid hr8
    clear hr8 hb8
    unfold reV
    go_wp2_with (refine wpList_store_re rfl _ _ rfl w.heap.size rfl rfl harr.1 rfl harr.2 hR8 ?_; intro w9 hB9 ho9)
    refine bodyPost_ret (results_re2 rfl _ _ w.heap.size _ _ harr.1 rfl hB9) rfl ?_
    have hfin := fin_store (Nat.le_refl _) hgl HO8.out HPa8.out ho9
    rw [HT.out]
    exact TookP.ok (p := q) hfin.1 ⟨cs8, rfl, Hr8.out (fun b => w.heap.size ≤ b) w9⟩ hq rfl hfin.2
end Go.Proofs.YtmggajpecgnjkaaDoor

/-
  Contract of the program's row, where that of atom is known. No statement of the seat is proved here.
-/
namespace Go.Proofs.YtmggajpecgnjkaaDoor
open Go Go.RowKit
set_option maxRecDepth 100000

theorem zeroA_one : (#[.int .i64 0, .int .u64 0, .int .u64 0, .int .u64 0, .int .u64 0, .slice none 0 0, .int .i64 0, .int .i64 0] : Array Value).all (·.oneCell') = true := by simp [Value.oneCell']
theorem rowQ_step {f : Nat} {acc : List Ex} {l : List Nat} (h0 : l ≠ []) (h1 : isNext 124 l = false) (h2 : isNext 41 l = false) :
    rowQ (f + 1) acc l = (atomQ f l).bind fun x l1 => (timesQ x l1).bind fun y l2 => rowQ f (acc ++ [y]) l2 := by
  simp only [rowQ]
  rw [if_neg]
  rintro (h | h | h)
  · exact h0 h
  · simp [isNext, h] at h1
  · simp [isNext, h] at h2

theorem rowQ_end {f : Nat} {acc : List Ex} {l : List Nat} (h : l = [] ∨ l.head? = some 124 ∨ l.head? = some 41) (hf : 1 ≤ f) : rowQ f acc l = .ok (seqE acc) l := by
  obtain ⟨d, rfl⟩ : ∃ d, f = d + 1 := ⟨f - 1, by omega⟩
  simp only [rowQ]
  rw [if_pos h]
theorem RowE.mono {S T : Nat → Prop} {w : World} {A : Option Addr} {m c : Nat} {l : List Ex} (h : RowE S w A m c l) (hs : ∀ b, S b → b < w.heap.size → T b) : RowE T w A m c l := by
  obtain ⟨xs, h1, h2, h3⟩ := h
  exact ⟨xs, h1, h2, fun k hk => (h3 k hk).mono (fun b hb hl => ⟨hs b hb.1 hl, hb.2⟩)⟩
set_option maxHeartbeats 8000000 in
theorem row_of (f : Nat) (w : World) (g : Nat) (s : ByteArray) (p : Nat) (hs : s.size ≤ 1000000) (hp : p ≤ s.size) (h : PaS w g s p) (hf : 4 * (s.size - p) + 3 ≤ f)
    (hAt : ∀ f' W q, f' < f → q ≤ s.size → 4 * (s.size - q) + 2 ≤ f' → PaS W g s q → Calls Tryd.prog 76 #[.pointer (some ⟨g, 0, none⟩)] W (TookP W g s (atomQ f' ((natsOf s).drop q)) (isRe W.heap.size) anyR)) :
    Calls Tryd.prog 61 #[.pointer (some ⟨g, 0, none⟩)] w (TookP w g s (rowQ f [] ((natsOf s).drop p)) (isRe w.heap.size) anyR) := by
  have hgl := h.lt
  have hsi : (s.size : Int) ≤ 1000000 := by omega
  have HPa := Lib.hid (h.alloc (Obj.cells #[.int .i64 0, .int .u64 0, .int .u64 0, .int .u64 0, .int .u64 0, .slice none 0 0, .int .i64 0, .int .i64 0] 27))
  have HR := Lib.hid (Blk.new w 27 #[.int .i64 0, .int .u64 0, .int .u64 0, .int .u64 0, .int .u64 0, .slice none 0 0, .int .i64 0, .int .i64 0])
  have HO1 : Hid (Only (fun x => x = g) w (w.alloc (Obj.cells #[.int .i64 0, .int .u64 0, .int .u64 0, .int .u64 0, .int .u64 0, .slice none 0 0, .int .i64 0, .int .i64 0] 27))) := Lib.hid ((Only.refl _ _).alloc _)
  have HAt := Lib.hid hAt
  clear h hAt
  go_enter Tryd.func61, Tryd.ntmps61
  go_wp2
  go_loopw [4] (fun v wr => ∃ (q : Nat) (A : Option Addr) (m c : Nat) (l : List Ex) (f' : Nat), v = .slice A m c ∧ q ≤ s.size ∧ m ≤ q ∧ Hid (rowQ f [] ((natsOf s).drop p) = rowQ f' l ((natsOf s).drop q) ∧ 4 * (s.size - q) + 3 ≤ f' ∧ f' ≤ f) ∧ Hid (RowE (fun b => w.heap.size < b) wr A m c l) ∧ Hid (∀ b, inA A b → w.heap.size < b) ∧ PaS wr g s q ∧ Blk wr w.heap.size 27 #[.int .i64 0, .int .u64 0, .int .u64 0, .int .u64 0, .int .u64 0, .slice none 0 0, .int .i64 0, .int .i64 0] ∧ Only (fun x => x = g) w wr) (fun _ wr => s.size + 1 - posOf wr g)
  case atStart => exact ⟨p, none, 0, 0, [], f, rfl, hp, Nat.zero_le _, Lib.hid ⟨rfl, hf, Nat.le_refl _⟩, Lib.hid (RowE.none_ _ _), Lib.hid (fun b hb => absurd hb (inA_none b)), HPa.out, HR.out, HO1.out⟩
  case round =>
    clear HPa HR HO1
    obtain ⟨q, A, m, c, l, f', rfl, hq, hmq, hT, hrow, HA, hPa, hR, hO⟩ := hrel
    have Hpos := Lib.hid hPa.pos
    have HPa := Lib.hid hPa
    have HR := Lib.hid hR
    have HO := Lib.hid hO
    have x0 := hPa.c0
    have x1 := hPa.c1
    have HS : Hid (∀ k : Nat, ∀ W, PaS W g s q → Calls Tryd.prog 75 #[.pointer (some ⟨g, 0, none⟩), .int .u8 (k : Int)] W fun e w' => e = .returned (.bool (isNext k ((natsOf s).drop q))) ∧ ∃ n, w' = W.drewN n) := Lib.hid fun k W hW => stands_any W g s q k hs hq hW
    clear hPa hR hO
    rcases Nat.lt_or_ge q s.size with hlt | hge
    case inr =>
      have hqe : (natsOf s).drop q = [] := by rw [show q = s.size by omega]; exact nats_end s
      have Hqe := Lib.hid hqe
      have g1 : decide ((q : Int) < (s.size : Int)) = false := by simp; omega
      have g2 : decide (q < s.size) = false := by simp; omega
      clear hqe
      have HE := Lib.hid (hT.out.1.trans (rowQ_end (.inl Hqe.out) (by have := hT.out.2; omega)))
      clear hT
      go_wp2
      go_quiet (fail)
      go_wp2_with fail
      refine (ofkids_any 2 (by unfold isInt; omega) (fun b => w.heap.size < b) A m c l _ hrow.out.len.symm (by rw [hrow.out.len]; exact hrow.out.le) hrow.out.cap ((hrow.out.kids (T := fun b => w.heap.size < b) (fun b hb _ => hb.elim id (HA.out b))).ext (ext_drewN (Below.refl _ _) _))).mono ?_
      rintro e w8 ⟨cs8, rfl, hr8, hb8⟩
      have harr := reR_arr hr8
      have hb08 : Below wr.heap.size wr w8 := ext_trans (ext_drewN (Below.refl wr.heap.size wr) _) hb8
      have hR8 := HR.out.ext hb08
      have HPa8 := Lib.hid (HPa.out.ext hb08)
      have HO8 : Hid (Only (fun x => x = g) w w8) := Lib.hid (HO.out.trans (Only.of_ext hb08) (fun _ _ h => h))
      have Hr8 := Lib.hid hr8
      clear hr8 hb8 hb08
      unfold reV
      go_wp2_with (refine wpList_store_re rfl _ _ rfl w.heap.size rfl rfl harr.1 rfl harr.2 hR8 ?_; intro w9 hB9 ho9)
      refine bodyPost_ret (results_re2 rfl _ _ w.heap.size _ _ harr.1 rfl hB9) rfl ?_
      have hfin := fin_store (Nat.le_refl _) hgl HO8.out HPa8.out ho9
      rw [HE.out]
      exact TookP.ok (p := q) hfin.1 ⟨cs8, rfl, by have := (Hr8.out.only ho9 (fun b hb h => by omega)).mono (T := fun b => w.heap.size ≤ b) (fun b hb _ => by omega); rwa [kidsE_seq] at this⟩ hq rfl hfin.2
    have g1 : decide ((q : Int) < (s.size : Int)) = true := by simpa using hlt
    have g2 : decide (q < s.size) = true := by simpa using hlt
    have g3 : (q : Int) < (s.size : Int) := by omega
    have hne : (natsOf s).drop q ≠ [] := by rw [nats_drop s q hlt]; simp
    have Hne := Lib.hid hne
    have HS124 : Hid (∀ n, Calls Tryd.prog 75 #[.pointer (some ⟨g, 0, none⟩), .int .u8 124] (wr.drewN n) fun e w'' => e = .returned (.bool (isNext 124 ((natsOf s).drop q))) ∧ ∃ m, w'' = wr.drewN m) := Lib.hid fun n => Calls.quiet_of (HS.out 124 _ (HPa.out.drewN n))
    have HS41 : Hid (∀ n, Calls Tryd.prog 75 #[.pointer (some ⟨g, 0, none⟩), .int .u8 41] (wr.drewN n) fun e w'' => e = .returned (.bool (isNext 41 ((natsOf s).drop q))) ∧ ∃ m, w'' = wr.drewN m) := Lib.hid fun n => Calls.quiet_of (HS.out 41 _ (HPa.out.drewN n))
    clear hne HS
    cases hn1 : isNext 124 ((natsOf s).drop q) with
    | true =>
      rw [hn1] at HS124
      have Hn1 := Lib.hid hn1
      clear hn1 HS41
      have HE := Lib.hid (hT.out.1.trans (rowQ_end (.inr (.inl (by simpa [isNext] using Hn1.out))) (by have := hT.out.2; omega)))
      clear hT
      go_wp2
      go_quiet ((go_at_call 75; with_reducible exact HS124.out _))
      go_wp2_with fail
      refine (ofkids_any 2 (by unfold isInt; omega) (fun b => w.heap.size < b) A m c l _ hrow.out.len.symm (by rw [hrow.out.len]; exact hrow.out.le) hrow.out.cap ((hrow.out.kids (T := fun b => w.heap.size < b) (fun b hb _ => hb.elim id (HA.out b))).ext (ext_drewN (Below.refl _ _) _))).mono ?_
      rintro e w8 ⟨cs8, rfl, hr8, hb8⟩
      have harr := reR_arr hr8
      have hb08 : Below wr.heap.size wr w8 := ext_trans (ext_drewN (Below.refl wr.heap.size wr) _) hb8
      have hR8 := HR.out.ext hb08
      have HPa8 := Lib.hid (HPa.out.ext hb08)
      have HO8 : Hid (Only (fun x => x = g) w w8) := Lib.hid (HO.out.trans (Only.of_ext hb08) (fun _ _ h => h))
      have Hr8 := Lib.hid hr8
      clear hr8 hb8 hb08
      unfold reV
      go_wp2_with (refine wpList_store_re rfl _ _ rfl w.heap.size rfl rfl harr.1 rfl harr.2 hR8 ?_; intro w9 hB9 ho9)
      refine bodyPost_ret (results_re2 rfl _ _ w.heap.size _ _ harr.1 rfl hB9) rfl ?_
      have hfin := fin_store (Nat.le_refl _) hgl HO8.out HPa8.out ho9
      rw [HE.out]
      exact TookP.ok (p := q) hfin.1 ⟨cs8, rfl, by have := (Hr8.out.only ho9 (fun b hb h => by omega)).mono (T := fun b => w.heap.size ≤ b) (fun b hb _ => by omega); rwa [kidsE_seq] at this⟩ hq rfl hfin.2
    | false =>
    rw [hn1] at HS124
    have Hn1 := Lib.hid hn1
    clear hn1
    cases hn2 : isNext 41 ((natsOf s).drop q) with
    | true =>
      rw [hn2] at HS41
      have Hn2 := Lib.hid hn2
      clear hn2
      have HE := Lib.hid (hT.out.1.trans (rowQ_end (.inr (.inr (by simpa [isNext] using Hn2.out))) (by have := hT.out.2; omega)))
      clear hT
      go_wp2
      go_quiet ((go_at_call 75; first | with_reducible exact HS124.out _ | with_reducible exact HS41.out _))
      go_wp2_with fail
      refine (ofkids_any 2 (by unfold isInt; omega) (fun b => w.heap.size < b) A m c l _ hrow.out.len.symm (by rw [hrow.out.len]; exact hrow.out.le) hrow.out.cap ((hrow.out.kids (T := fun b => w.heap.size < b) (fun b hb _ => hb.elim id (HA.out b))).ext (ext_drewN (Below.refl _ _) _))).mono ?_
      rintro e w8 ⟨cs8, rfl, hr8, hb8⟩
      have harr := reR_arr hr8
      have hb08 : Below wr.heap.size wr w8 := ext_trans (ext_drewN (Below.refl wr.heap.size wr) _) hb8
      have hR8 := HR.out.ext hb08
      have HPa8 := Lib.hid (HPa.out.ext hb08)
      have HO8 : Hid (Only (fun x => x = g) w w8) := Lib.hid (HO.out.trans (Only.of_ext hb08) (fun _ _ h => h))
      have Hr8 := Lib.hid hr8
      clear hr8 hb8 hb08
      unfold reV
      go_wp2_with (refine wpList_store_re rfl _ _ rfl w.heap.size rfl rfl harr.1 rfl harr.2 hR8 ?_; intro w9 hB9 ho9)
      refine bodyPost_ret (results_re2 rfl _ _ w.heap.size _ _ harr.1 rfl hB9) rfl ?_
      have hfin := fin_store (Nat.le_refl _) hgl HO8.out HPa8.out ho9
      rw [HE.out]
      exact TookP.ok (p := q) hfin.1 ⟨cs8, rfl, by have := (Hr8.out.only ho9 (fun b hb h => by omega)).mono (T := fun b => w.heap.size ≤ b) (fun b hb _ => by omega); rwa [kidsE_seq] at this⟩ hq rfl hfin.2
    | false =>
    rw [hn2] at HS41
    obtain ⟨d, rfl⟩ : ∃ d, f' = d + 1 := ⟨f' - 1, by have := hT.out.2; omega⟩
    have hT2 := hT.out.1
    rw [rowQ_step Hne.out Hn1.out hn2] at hT2
    have hfd := hT.out.2
    have HT := Lib.hid hT2
    have HCa := Lib.hid fun W (hW : PaS W g s q) => HAt.out d W q (by omega) hq (by omega) hW
    clear hT hn2 hT2
    go_wp2
    go_quiet ((go_at_call 75; first | with_reducible exact HS124.out _ | with_reducible exact HS41.out _))
    go_wp2_with fail
    obtain ⟨w2, hw2⟩ : ∃ w2, w2 = wr.drewN nq := ⟨_, rfl⟩
    rw [← hw2]
    have HPa2 : Hid (PaS w2 g s q) := Lib.hid (by rw [hw2]; exact HPa.out.drewN _)
    have HR2 : Hid (Blk w2 w.heap.size 27 #[.int .i64 0, .int .u64 0, .int .u64 0, .int .u64 0, .int .u64 0, .slice none 0 0, .int .i64 0, .int .i64 0]) := Lib.hid (by rw [hw2]; exact HR.out.drewN _)
    have HO2 : Hid (Only (fun x => x = g) w w2) := Lib.hid (by rw [hw2]; exact HO.out.drewN _)
    have Hrow2 : Hid (RowE (fun b => w.heap.size < b ∧ b < w2.heap.size) w2 A m c l) := Lib.hid (by
      have h9 : RowE (fun b => w.heap.size < b) w2 A m c l := by rw [hw2]; exact hrow.out.ext (ext_drewN (Below.refl _ _) _)
      exact h9.mono (fun b hb hl => ⟨hb, hl⟩))
    clear hw2 HPa HR HO hrow x0 x1 HS124 HS41
    refine (HCa.out w2 HPa2.out).mono ?_
    rintro e w3 ⟨ho3, hr⟩
    have Hs2 : Hid (w.heap.size < w2.heap.size) := Lib.hid HR2.out.lt
    have HR3 := Lib.hid (HR2.out.only ho3 (by omega))
    have HO3 : Hid (Only (fun x => x = g) w w3) := Lib.hid (HO2.out.trans ho3 (fun _ _ h => h))
    have Hs3 : Hid (w2.heap.size ≤ w3.heap.size) := Lib.hid ho3.size
    have HlA : Hid (∀ b, inA A b → b < w2.heap.size) := Lib.hid (fun b hb => Hrow2.out.lt hb)
    have Hrow3 := Lib.hid (Hrow2.out.only ho3 (fun b hb h => by have := HA.out b h; omega) (fun b hb h => by have := h.1; omega))
    clear ho3
    have hT := HT.out
    cases ha : atomQ d ((natsOf s).drop q) with
    | bad left =>
      rw [ha] at hr hT
      obtain ⟨v, rfl, ⟨cs, rfl, hsz, hone⟩, hl, hPa3⟩ := hr
      obtain ⟨u0, u1, u2, u3, u4, u5, u6, u7, rfl⟩ := arr_eight hsz
      have HE := Lib.hid hT
      have HPa3 := Lib.hid hPa3
      clear hPa3 hT ha HT
      go_wp2_with (first | (refine wpList_store_re rfl _ _ rfl w3.heap.size rfl rfl rfl rfl hone (Blk.new _ _ _) ?_; intro w4 hB4 ho4; have hR4 := (HR3.out.alloc (Obj.cells #[.int .i64 0, .int .u64 0, .int .u64 0, .int .u64 0, .int .u64 0, .slice none 0 0, .int .i64 0, .int .i64 0] 27)).only ho4 (by have := Hs2.out; have := Hs3.out; omega)) | (refine wpList_store_re rfl _ _ rfl w.heap.size rfl rfl rfl rfl zeroA_one hR4 ?_; intro w9 hB9 ho9))
      refine bodyPost_ret (results_re2 rfl _ _ w.heap.size _ _ rfl rfl hB9) rfl ?_
      have hfin := fin_store (Nat.le_refl _) hgl ((HO3.out.alloc (Obj.cells #[.int .i64 0, .int .u64 0, .int .u64 0, .int .u64 0, .int .u64 0, .slice none 0 0, .int .i64 0, .int .i64 0] 27)).trans ho4 (fun i hi h => by have := Hs2.out; have := Hs3.out; omega)) ((HPa3.out.alloc (Obj.cells #[.int .i64 0, .int .u64 0, .int .u64 0, .int .u64 0, .int .u64 0, .slice none 0 0, .int .i64 0, .int .i64 0] 27)).only ho4 (by have := Hs2.out; have := Hs3.out; omega)) ho9
      rw [HE.out]
      exact TookP.bad (left := left) hfin.1 ⟨_, rfl, rfl, zeroA_one⟩ hl rfl hfin.2
    | ok x l1 =>
      have hlen1 := (len_Q d).1 _ _ _ ha
      rw [ha] at hr hT
      obtain ⟨v, q1, rfl, ⟨cs, hv, hr3⟩, hq1, rfl, hPa3⟩ := hr
      simp only [PR.bind] at hT
      rw [nats_len, nats_len] at hlen1
      have harr := reR_arr hr3
      have hv2 : v = .agg cs.toArray := hv
      obtain ⟨u0, u1, u2, u3, u4, u5, u6, u7, hcs⟩ := arr_eight harr.1
      have hone := harr.2
      rw [hcs] at hone hv2
      subst hv2
      have hcl : cs = [u0, u1, u2, u3, u4, u5, u6, u7] := by have := congrArg Array.toList hcs; simpa using this
      subst hcl
      have HT1 := Lib.hid hT
      have HPa3 := Lib.hid hPa3
      have Hr3 := Lib.hid (hr3.mono (T := fun b => w2.heap.size ≤ b ∧ b < w3.heap.size) (fun b hb hl => ⟨hb, hl⟩))
      have Hlen1 := Lib.hid hlen1
      clear hPa3 hT ha HT harr hcs hv hr3 hlen1
      go_wp2_with (refine wpList_store_re rfl _ _ rfl w3.heap.size rfl rfl rfl rfl hone (Blk.new _ _ _) ?_; intro w4 hB4 ho4; have c0 := hB4.cell 0; have c1 := hB4.cell 1; have c2 := hB4.cell 2; have c3 := hB4.cell 3; have c4 := hB4.cell 4; have c5 := hB4.cell 5; have c6 := hB4.cell 6; have c7 := hB4.cell 7)
      clear c0 c1 c2 c3 c4 c5 c6 c7
      have HR4 := Lib.hid ((HR3.out.alloc (Obj.cells #[.int .i64 0, .int .u64 0, .int .u64 0, .int .u64 0, .int .u64 0, .slice none 0 0, .int .i64 0, .int .i64 0] 27)).only ho4 (by have := Hs2.out; have := Hs3.out; omega))
      have HPa4 := Lib.hid ((HPa3.out.alloc (Obj.cells #[.int .i64 0, .int .u64 0, .int .u64 0, .int .u64 0, .int .u64 0, .slice none 0 0, .int .i64 0, .int .i64 0] 27)).only ho4 (by have := Hs2.out; have := Hs3.out; omega))
      have HO4 : Hid (Only (fun x => x = g) w w4) := Lib.hid ((HO3.out.alloc (Obj.cells #[.int .i64 0, .int .u64 0, .int .u64 0, .int .u64 0, .int .u64 0, .slice none 0 0, .int .i64 0, .int .i64 0] 27)).trans ho4 (fun i hi h => by have := Hs2.out; have := Hs3.out; omega))
      have Hr4 : Hid (ReR (fun b => w2.heap.size ≤ b ∧ b < w3.heap.size) w4 x [u0, u1, u2, u3, u4, u5, u6, u7]) := Lib.hid ((Hr3.out.ext ((Below.refl _ _).alloc (Nat.le_refl _) (Obj.cells #[.int .i64 0, .int .u64 0, .int .u64 0, .int .u64 0, .int .u64 0, .slice none 0 0, .int .i64 0, .int .i64 0] 27))).only ho4 (fun b hb h => by omega))
      have Hrow4 := Lib.hid ((Hrow3.out.ext ((Below.refl _ _).alloc (Nat.le_refl _) (Obj.cells #[.int .i64 0, .int .u64 0, .int .u64 0, .int .u64 0, .int .u64 0, .slice none 0 0, .int .i64 0, .int .i64 0] 27))).only ho4 (fun b hb h => by have := HlA.out b h; have := Hs3.out; omega) (fun b hb h => by have := h.2; have := Hs3.out; omega))
      have HD4 := Lib.hid hB4
      have Hs4 : Hid (w3.heap.size < w4.heap.size) := Lib.hid hB4.lt
      clear hB4 ho4 hone HR3 HPa3 HO3 Hr3 Hrow3
      refine (times_any w4 g s q1 hs hq1 HPa4.out (fun b => w2.heap.size ≤ b ∧ b < w3.heap.size) (fun b hb => by have := hb.1; have := Hs2.out; omega) x _ Hr4.out).mono ?_
      rintro e w5 ⟨ho5, hr⟩
      have HR5 := Lib.hid (HR4.out.only ho5 (by omega))
      have HO5 : Hid (Only (fun x => x = g) w w5) := Lib.hid (HO4.out.trans ho5 (fun _ _ h => h))
      have HD5 := Lib.hid (HD4.out.only ho5 (by have := Hs2.out; have := Hs3.out; omega))
      have Hrow5 := Lib.hid (Hrow4.out.only ho5 (fun b hb h => by have := HA.out b h; omega) (fun b hb h => by have := h.1; omega))
      have Hs5 : Hid (w4.heap.size ≤ w5.heap.size) := Lib.hid ho5.size
      clear ho5 HR4 HPa4 HO4 Hr4 Hrow4 HD4
      have hT := HT1.out
      cases hb : timesQ x ((natsOf s).drop q1) with
      | bad left =>
        rw [hb] at hr hT
        obtain ⟨v, rfl, ⟨cs, rfl, hsz, hone5⟩, hl, hPa5⟩ := hr
        obtain ⟨v0, v1, v2, v3, v4, v5, v6, v7, rfl⟩ := arr_eight hsz
        have HE := Lib.hid hT
        have HPa5 := Lib.hid hPa5
        have hD5 := HD5.out
        clear hPa5 hT hb HT1
        go_wp2_with (first | (refine wpList_store_re rfl _ _ rfl w3.heap.size rfl rfl rfl rfl hone5 hD5 ?_; intro w6 hB6 ho6; have hR6 := HR5.out.only ho6 (by have := Hs2.out; have := Hs3.out; omega)) | (refine wpList_store_re rfl _ _ rfl w.heap.size rfl rfl rfl rfl zeroA_one hR6 ?_; intro w9 hB9 ho9))
        refine bodyPost_ret (results_re2 rfl _ _ w.heap.size _ _ rfl rfl hB9) rfl ?_
        have hfin := fin_store (Nat.le_refl _) hgl (HO5.out.trans ho6 (fun i hi h => by have := Hs2.out; have := Hs3.out; omega)) (HPa5.out.only ho6 (by have := Hs2.out; have := Hs3.out; omega)) ho9
        rw [HE.out]
        exact TookP.bad (left := left) hfin.1 ⟨_, rfl, rfl, zeroA_one⟩ hl rfl hfin.2
      | ok y l2 =>
        have hlen2 := len_timesQ hb
        rw [hb] at hr hT
        obtain ⟨v, q2, rfl, ⟨cs, hv, hr5⟩, hq2, rfl, hPa5⟩ := hr
        simp only [PR.bind] at hT
        rw [nats_len, nats_len] at hlen2
        have harr := reR_arr hr5
        have hv2 : v = .agg cs.toArray := hv
        obtain ⟨v0, v1, v2, v3, v4, v5, v6, v7, hcs⟩ := arr_eight harr.1
        have hone5 := harr.2
        rw [hcs] at hone5 hv2
        subst hv2
        have hcl : cs = [v0, v1, v2, v3, v4, v5, v6, v7] := by have := congrArg Array.toList hcs; simpa using this
        subst hcl
        have HT2 := Lib.hid hT
        have HPa5 := Lib.hid hPa5
        have Hr5 := Lib.hid hr5
        have Hlen2 := Lib.hid hlen2
        have hD5 := HD5.out
        have hm1 : m + 1 ≤ maxLen := by unfold maxLen; omega
        have hm2 : (m + 1) * 80 ≤ 140737488355328 := by omega
        have Hm1 := Lib.hid hm1
        have Hm2 := Lib.hid hm2
        have hones : ∀ u ∈ [v0, v1, v2, v3, v4, v5, v6, v7], u.oneCell' = true := hr5.one
        have Hones := Lib.hid hones
        clear hPa5 hT hb HT1 harr hcs hv hr5 hlen2 hm1 hm2 hones
        go_wp2_with (first | (refine wpList_store_re rfl _ _ rfl w3.heap.size rfl rfl rfl rfl hone5 hD5 ?_; intro w6 hB6 ho6; have c0 := hB6.cell 0; have c1 := hB6.cell 1; have c2 := hB6.cell 2; have c3 := hB6.cell 3; have c4 := hB6.cell 4; have c5 := hB6.cell 5; have c6 := hB6.cell 6; have c7 := hB6.cell 7; have hrow6 := (Hrow5.out.only ho6 (fun b hb h => by have := HlA.out b h; have := Hs3.out; omega) (fun b hb h => by have := h.2; have := Hs3.out; omega)).mono (T := fun b => w.heap.size < b) (fun b hb _ => hb.1); obtain ⟨xs, hxs, hxl, hxp⟩ := hrow6.ext ((Below.refl w6.heap.size w6).alloc (Nat.le_refl _) (Obj.cells #[v0, v1, v2, v3, v4, v5, v6, v7] 27))) | (refine wpList_appO _ rfl (.tmp 42) (.tmp 44) _ rfl _ _ 8 80 Tryd.underlying25 info_re rfl A m c xs rfl hxs (some ⟨w6.heap.size, 0, none⟩) 1 1 [v0, v1, v2, v3, v4, v5, v6, v7] rfl rfl (Rd.lit w6 #[v0, v1, v2, v3, v4, v5, v6, v7] 27) Hones.out (by intro h; cases h) Hm1.out Hm2.out ?_; intro A7 c7' w7 hrow7 honly7 hA7))
        have hR6 := HR5.out.only ho6 (by have := Hs2.out; have := Hs3.out; omega)
        have hPa6 := HPa5.out.only ho6 (by have := Hs2.out; have := Hs3.out; omega)
        have hO6 : Only (fun x => x = g) w w6 := HO5.out.trans ho6 (fun i hi h => by have := Hs2.out; have := Hs3.out; omega)
        have hr6 : ReR (fun b => w.heap.size < b ∧ ¬ inA A b) (w6.alloc (Obj.cells #[v0, v1, v2, v3, v4, v5, v6, v7] 27)) y [v0, v1, v2, v3, v4, v5, v6, v7] :=
          ((((Hr5.out.only ho6 (fun b hb h => by rcases hb with ⟨hb, _⟩ | hb; have := hb.2; omega; have := Hs4.out; omega)).mono (T := fun b => w.heap.size < b ∧ ¬ inA A b) (fun b hb _ => ⟨by rcases hb with ⟨hb, _⟩ | hb; have := hb.1; have := Hs2.out; omega; have := Hs2.out; have := Hs3.out; have := Hs4.out; omega, fun hin => by have := HlA.out b hin; rcases hb with ⟨hb, _⟩ | hb; have := hb.1; omega; have := Hs3.out; have := Hs4.out; omega⟩)).ext ((Below.refl _ _).alloc (Nat.le_refl _) _)))
        have hN := RowE.grow (x := y) hr6 hxs hxl hxp hrow7 honly7 hA7
        have HN := Lib.hid hN
        have hs6 := ho6.size
        have HA7 : Hid (∀ b, inA A7 b → w.heap.size < b) := Lib.hid (fun b hb => (hA7 b hb).elim (HA.out b) (fun h => by have := h.1; simp at this; have := Hs2.out; have := Hs3.out; have := Hs4.out; have := Hs5.out; omega))
        have HPa7 := Lib.hid ((hPa6.alloc (Obj.cells #[v0, v1, v2, v3, v4, v5, v6, v7] 27)).only honly7 (fun h => by have := HA.out _ h; omega))
        have HR7 := Lib.hid ((hR6.alloc (Obj.cells #[v0, v1, v2, v3, v4, v5, v6, v7] 27)).only honly7 (fun h => by have := HA.out _ h; omega))
        have HO7 : Hid (Only (fun x => x = g) w w7) := Lib.hid ((hO6.alloc (Obj.cells #[v0, v1, v2, v3, v4, v5, v6, v7] 27)).trans honly7 (fun i hi h => by have := HA.out _ h; omega))
        have HNx : Hid (rowQ f [] ((natsOf s).drop p) = rowQ d (l ++ [y]) ((natsOf s).drop q2) ∧ 4 * (s.size - q2) + 3 ≤ d ∧ d ≤ f) := Lib.hid ⟨HT2.out, by have := Hlen1.out; have := Hlen2.out; omega, by omega⟩
        have HqL : Hid (q < q2) := Lib.hid (by have := Hlen1.out; have := Hlen2.out; omega)
        clear hR6 hPa6 hO6 hr6 hN hrow7 honly7 hA7 hxs hxl hxp ho6 hB6 c0 c1 c2 c3 c4 c5 c6 c7 hrow6
        go_wp2
        go_roundw
        case rel => exact ⟨q2, A7, m + 1, c7', l ++ [y], d, rfl, hq2, by have := HqL.out; omega, HNx, HN, HA7, HPa7.out, HR7.out, HO7.out⟩
        case measure =>
          have h1 := HPa7.out.pos
          have h3 := HqL.out
          rw [h1, Hpos.out]
          omega
end Go.Proofs.YtmggajpecgnjkaaDoor

/-
  Contracts of the program's alternatives, and of all that calls it. No statement of the seat is proved here.
-/
namespace Go.Proofs.YtmggajpecgnjkaaDoor
open Go Go.RowKit
set_option maxRecDepth 100000

theorem moreQ_end {f : Nat} {acc : List Ex} {l : List Nat} (h : isNext 124 l = false) (hf : 1 ≤ f) : moreQ f acc l = .ok (altE acc) l := by
  obtain ⟨d, rfl⟩ : ∃ d, f = d + 1 := ⟨f - 1, by omega⟩
  simp only [moreQ]
  split
  · simp [isNext] at h
  · rfl
theorem moreQ_next {f : Nat} {acc : List Ex} {s : ByteArray} {q : Nat} (h : isNext 124 ((natsOf s).drop q) = true) :
    moreQ (f + 1) acc ((natsOf s).drop q) = (rowQ f [] ((natsOf s).drop (q + 1))).bind fun x l2 => moreQ f (acc ++ [x]) l2 := by
  rw [(next_true h).2]
  simp only [moreQ]

set_option maxHeartbeats 4000000 in
theorem alts_of (f : Nat) (w : World) (g : Nat) (s : ByteArray) (p : Nat) (hs : s.size ≤ 1000000) (hp : p ≤ s.size) (h : PaS w g s p) (hf : 4 * (s.size - p) + 4 ≤ f)
    (hRo : ∀ f' W q, f' < f → q ≤ s.size → 4 * (s.size - q) + 3 ≤ f' → PaS W g s q → Calls Tryd.prog 61 #[.pointer (some ⟨g, 0, none⟩)] W (TookP W g s (rowQ f' [] ((natsOf s).drop q)) (isRe W.heap.size) anyR)) :
    Calls Tryd.prog 41 #[.pointer (some ⟨g, 0, none⟩)] w (TookP w g s (altsQ f ((natsOf s).drop p)) (isRe w.heap.size) anyR) := by
  have hgl := h.lt
  have hsi : (s.size : Int) ≤ 1000000 := by omega
  have HPa := Lib.hid (h.alloc (Obj.cells #[.int .i64 0, .int .u64 0, .int .u64 0, .int .u64 0, .int .u64 0, .slice none 0 0, .int .i64 0, .int .i64 0] 27))
  have HR := Lib.hid (Blk.new w 27 #[.int .i64 0, .int .u64 0, .int .u64 0, .int .u64 0, .int .u64 0, .slice none 0 0, .int .i64 0, .int .i64 0])
  have HO1 : Hid (Only (fun x => x = g) w (w.alloc (Obj.cells #[.int .i64 0, .int .u64 0, .int .u64 0, .int .u64 0, .int .u64 0, .slice none 0 0, .int .i64 0, .int .i64 0] 27))) := Lib.hid ((Only.refl _ _).alloc _)
  have HRo := Lib.hid hRo
  obtain ⟨f0, hf0⟩ : ∃ f0, f = f0 + 1 := ⟨f - 1, by omega⟩
  have hT0 : altsQ f ((natsOf s).drop p) = (rowQ f0 [] ((natsOf s).drop p)).bind fun x l1 => moreQ f0 [x] l1 := by rw [hf0]; simp only [altsQ]
  have HT0 := Lib.hid hT0
  have hff : f0 < f := by omega
  have hff2 : 4 * (s.size - p) + 3 ≤ f0 := by omega
  clear h hRo hT0 hf0
  go_enter Tryd.func41, Tryd.ntmps41
  go_wp2
  go_loopw [4] (fun v wr => ∃ (q : Nat) (A : Option Addr) (m c : Nat) (l : List Ex) (f' : Nat), v = .slice A m c ∧ q ≤ s.size ∧ m ≤ q ∧ Hid (altsQ f ((natsOf s).drop p) = ((rowQ f' [] ((natsOf s).drop q)).bind fun x l1 => moreQ f' (l ++ [x]) l1) ∧ 4 * (s.size - q) + 3 ≤ f' ∧ f' < f) ∧ Hid (RowE (fun b => w.heap.size < b) wr A m c l) ∧ Hid (∀ b, inA A b → w.heap.size < b) ∧ PaS wr g s q ∧ Blk wr w.heap.size 27 #[.int .i64 0, .int .u64 0, .int .u64 0, .int .u64 0, .int .u64 0, .slice none 0 0, .int .i64 0, .int .i64 0] ∧ Only (fun x => x = g) w wr) (fun _ wr => s.size + 1 - posOf wr g)
  case atStart => exact ⟨p, none, 0, 0, [], f0, rfl, hp, Nat.zero_le _, Lib.hid ⟨HT0.out, hff2, hff⟩, Lib.hid (RowE.none_ _ _), Lib.hid (fun b hb => absurd hb (inA_none b)), HPa.out, HR.out, HO1.out⟩
  case round =>
    clear HPa HR HO1 HT0
    obtain ⟨q, A, m, c, l, f', rfl, hq, hmq, hT, hrow, HA, hPa, hR, hO⟩ := hrel
    have Hpos := Lib.hid hPa.pos
    have HPa := Lib.hid hPa
    have HR := Lib.hid hR
    have HO := Lib.hid hO
    have Hs2 : Hid (w.heap.size < wr.heap.size) := Lib.hid hR.lt
    have HlA : Hid (∀ b, inA A b → b < wr.heap.size) := Lib.hid (fun b hb => hrow.out.lt hb)
    have Hrow : Hid (RowE (fun b => w.heap.size < b ∧ b < wr.heap.size) wr A m c l) := Lib.hid (hrow.out.mono (fun b hb hl => ⟨hb, hl⟩))
    have HCa := Lib.hid (HRo.out f' wr q hT.out.2.2 hq hT.out.2.1 hPa)
    clear hPa hR hO hrow
    go_wp2_with fail
    refine HCa.out.mono ?_
    rintro e w3 ⟨ho3, hr⟩
    have HR3 := Lib.hid (HR.out.only ho3 (by omega))
    have HO3 : Hid (Only (fun x => x = g) w w3) := Lib.hid (HO.out.trans ho3 (fun _ _ h => h))
    have Hs3 : Hid (wr.heap.size ≤ w3.heap.size) := Lib.hid ho3.size
    have Hrow3 := Lib.hid (Hrow.out.only ho3 (fun b hb h => by have := HA.out b h; omega) (fun b hb h => by have := h.1; omega))
    clear ho3 HCa
    have hT1 := hT.out.1
    cases ha : rowQ f' [] ((natsOf s).drop q) with
    | bad left =>
      rw [ha] at hr hT1
      obtain ⟨v, rfl, ⟨cs, rfl, hsz, hone⟩, hl, hPa3⟩ := hr
      obtain ⟨u0, u1, u2, u3, u4, u5, u6, u7, rfl⟩ := arr_eight hsz
      have HE := Lib.hid hT1
      have HPa3 := Lib.hid hPa3
      clear hPa3 hT1 ha hT
      go_wp2_with (first | (refine wpList_store_re rfl _ _ rfl w3.heap.size rfl rfl rfl rfl hone (Blk.new _ _ _) ?_; intro w4 hB4 ho4; have hR4 := (HR3.out.alloc (Obj.cells #[.int .i64 0, .int .u64 0, .int .u64 0, .int .u64 0, .int .u64 0, .slice none 0 0, .int .i64 0, .int .i64 0] 27)).only ho4 (by have := Hs2.out; have := Hs3.out; omega)) | (refine wpList_store_re rfl _ _ rfl w.heap.size rfl rfl rfl rfl zeroA_one hR4 ?_; intro w9 hB9 ho9))
      refine bodyPost_ret (results_re2 rfl _ _ w.heap.size _ _ rfl rfl hB9) rfl ?_
      have hfin := fin_store (Nat.le_refl _) hgl ((HO3.out.alloc (Obj.cells #[.int .i64 0, .int .u64 0, .int .u64 0, .int .u64 0, .int .u64 0, .slice none 0 0, .int .i64 0, .int .i64 0] 27)).trans ho4 (fun i hi h => by have := Hs2.out; have := Hs3.out; omega)) ((HPa3.out.alloc (Obj.cells #[.int .i64 0, .int .u64 0, .int .u64 0, .int .u64 0, .int .u64 0, .slice none 0 0, .int .i64 0, .int .i64 0] 27)).only ho4 (by have := Hs2.out; have := Hs3.out; omega)) ho9
      rw [HE.out]
      exact TookP.bad (left := left) hfin.1 ⟨_, rfl, rfl, zeroA_one⟩ hl rfl hfin.2
    | ok y l2 =>
      have hlen2 := (len_Q f').2.1 _ _ _ _ ha
      rw [ha] at hr hT1
      obtain ⟨v, q2, rfl, ⟨cs, hv, hr3⟩, hq2, rfl, hPa3⟩ := hr
      simp only [PR.bind] at hT1
      rw [nats_len, nats_len] at hlen2
      have harr := reR_arr hr3
      have hv2 : v = .agg cs.toArray := hv
      obtain ⟨v0, v1, v2, v3, v4, v5, v6, v7, hcs⟩ := arr_eight harr.1
      have hone5 := harr.2
      rw [hcs] at hone5 hv2
      subst hv2
      have hcl : cs = [v0, v1, v2, v3, v4, v5, v6, v7] := by have := congrArg Array.toList hcs; simpa using this
      subst hcl
      have HT2 := Lib.hid hT1
      have HPa3 := Lib.hid hPa3
      have Hr3 := Lib.hid (hr3.mono (T := fun b => wr.heap.size ≤ b ∧ b < w3.heap.size) (fun b hb hl => ⟨hb, hl⟩))
      have hlq : q ≤ q2 := by omega
      have hm1 : m + 1 ≤ maxLen := by unfold maxLen; omega
      have hm2 : (m + 1) * 80 ≤ 140737488355328 := by omega
      have Hm1 := Lib.hid hm1
      have Hm2 := Lib.hid hm2
      have hones : ∀ u ∈ [v0, v1, v2, v3, v4, v5, v6, v7], u.oneCell' = true := hr3.one
      have Hones := Lib.hid hones
      clear hPa3 hT1 ha harr hcs hv hr3 hlen2 hm1 hm2 hones
      go_wp2_with (first | (refine wpList_store_re rfl _ _ rfl w3.heap.size rfl rfl rfl rfl hone5 (Blk.new _ _ _) ?_; intro w6 hB6 ho6; have c0 := hB6.cell 0; have c1 := hB6.cell 1; have c2 := hB6.cell 2; have c3 := hB6.cell 3; have c4 := hB6.cell 4; have c5 := hB6.cell 5; have c6 := hB6.cell 6; have c7 := hB6.cell 7; have hrow6 := ((Hrow3.out.ext ((Below.refl _ _).alloc (Nat.le_refl _) (Obj.cells #[.int .i64 0, .int .u64 0, .int .u64 0, .int .u64 0, .int .u64 0, .slice none 0 0, .int .i64 0, .int .i64 0] 27))).only ho6 (fun b hb h => by have := HlA.out b h; have := Hs3.out; omega) (fun b hb h => by have := h.2; have := Hs3.out; omega)).mono (T := fun b => w.heap.size < b) (fun b hb _ => hb.1); obtain ⟨xs, hxs, hxl, hxp⟩ := hrow6.ext ((Below.refl w6.heap.size w6).alloc (Nat.le_refl _) (Obj.cells #[v0, v1, v2, v3, v4, v5, v6, v7] 27))) | (refine wpList_appO _ rfl (.tmp 15) (.tmp 17) _ rfl _ _ 8 80 Tryd.underlying25 info_re rfl A m c xs rfl hxs (some ⟨w6.heap.size, 0, none⟩) 1 1 [v0, v1, v2, v3, v4, v5, v6, v7] rfl rfl (Rd.lit w6 #[v0, v1, v2, v3, v4, v5, v6, v7] 27) Hones.out (by intro h; cases h) Hm1.out Hm2.out ?_; intro A7 c7' w7 hrow7 honly7 hA7))
      have hR6 := (HR3.out.alloc (Obj.cells #[.int .i64 0, .int .u64 0, .int .u64 0, .int .u64 0, .int .u64 0, .slice none 0 0, .int .i64 0, .int .i64 0] 27)).only ho6 (by have := Hs2.out; have := Hs3.out; omega)
      have hPa6 := (HPa3.out.alloc (Obj.cells #[.int .i64 0, .int .u64 0, .int .u64 0, .int .u64 0, .int .u64 0, .slice none 0 0, .int .i64 0, .int .i64 0] 27)).only ho6 (by have := Hs2.out; have := Hs3.out; omega)
      have hO6 : Only (fun x => x = g) w w6 := (HO3.out.alloc (Obj.cells #[.int .i64 0, .int .u64 0, .int .u64 0, .int .u64 0, .int .u64 0, .slice none 0 0, .int .i64 0, .int .i64 0] 27)).trans ho6 (fun i hi h => by have := Hs2.out; have := Hs3.out; omega)
      have hr6 : ReR (fun b => w.heap.size < b ∧ ¬ inA A b) (w6.alloc (Obj.cells #[v0, v1, v2, v3, v4, v5, v6, v7] 27)) y [v0, v1, v2, v3, v4, v5, v6, v7] :=
        ((((Hr3.out.ext ((Below.refl _ _).alloc (Nat.le_refl _) (Obj.cells #[.int .i64 0, .int .u64 0, .int .u64 0, .int .u64 0, .int .u64 0, .slice none 0 0, .int .i64 0, .int .i64 0] 27))).only ho6 (fun b hb h => by have := hb.2; omega)).mono (T := fun b => w.heap.size < b ∧ ¬ inA A b) (fun b hb _ => ⟨by have := hb.1; have := Hs2.out; omega, fun hin => by have := HlA.out b hin; have := hb.1; omega⟩)).ext ((Below.refl _ _).alloc (Nat.le_refl _) _))
      have hN := RowE.grow (x := y) hr6 hxs hxl hxp hrow7 honly7 hA7
      have HN := Lib.hid hN
      have hs6 := ho6.size
      have HA7 : Hid (∀ b, inA A7 b → w.heap.size < b) := Lib.hid (fun b hb => (hA7 b hb).elim (HA.out b) (fun h => by have := h.1; simp at this hs6; have := Hs2.out; have := Hs3.out; omega))
      have HPa7 := Lib.hid ((hPa6.alloc (Obj.cells #[v0, v1, v2, v3, v4, v5, v6, v7] 27)).only honly7 (fun h => by have := HA.out _ h; omega))
      have HR7 := Lib.hid ((hR6.alloc (Obj.cells #[v0, v1, v2, v3, v4, v5, v6, v7] 27)).only honly7 (fun h => by have := HA.out _ h; omega))
      have HO7 : Hid (Only (fun x => x = g) w w7) := Lib.hid ((hO6.alloc (Obj.cells #[v0, v1, v2, v3, v4, v5, v6, v7] 27)).trans honly7 (fun i hi h => by have := HA.out _ h; omega))
      clear hR6 hPa6 hO6 hr6 hN hrow7 honly7 hA7 hxs hxl hxp ho6 hB6 c0 c1 c2 c3 c4 c5 c6 c7 hrow6
      cases hn : isNext 124 ((natsOf s).drop q2) with
      | true =>
        obtain ⟨d, hd⟩ : ∃ d, f' = d + 1 := ⟨f' - 1, by have := hT.out.2; omega⟩
        have hT3 := HT2.out
        rw [hd, moreQ_next hn] at hT3
        have hps := (next_true hn).1
        have HNx : Hid (altsQ f ((natsOf s).drop p) = ((rowQ d [] ((natsOf s).drop (q2 + 1))).bind fun x l1 => moreQ d ((l ++ [y]) ++ [x]) l1) ∧ 4 * (s.size - (q2 + 1)) + 3 ≤ d ∧ d < f) := Lib.hid ⟨hT3, by have := hT.out.2; omega, by have := hT.out.2; omega⟩
        have HTk := Lib.hid fun (W : World) (hW : PaS W g s q2) => take_yes W g s q2 124 hs hq2 hn hW
        clear hn hT3 hd hT
        go_wp2_with fail
        refine (HTk.out _ HPa7.out).mono ?_
        rintro e w8 ⟨rfl, ho8, hPa8⟩
        have HPa8 := Lib.hid hPa8
        have HR8 := Lib.hid (HR7.out.only ho8 (by omega))
        have HO8 : Hid (Only (fun x => x = g) w w8) := Lib.hid (HO7.out.trans ho8 (fun _ _ h => h))
        have HN8 := Lib.hid (HN.out.only ho8 (fun b hb h => by have := HA7.out b h; omega) (fun b hb h => by omega))
        clear ho8 hPa8
        go_wp2
        go_roundw
        case rel => exact ⟨q2 + 1, A7, m + 1, c7', l ++ [y], d, rfl, hps, by omega, HNx, HN8, HA7, HPa8.out, HR8.out, HO8.out⟩
        case measure =>
          have h1 := HPa8.out.pos
          rw [h1, Hpos.out]
          omega
      | false =>
        have HE := Lib.hid (HT2.out.trans (moreQ_end hn (by have := hT.out.2; omega)))
        have HTk := Lib.hid fun (W : World) (hW : PaS W g s q2) => take_no W g s q2 124 hs hq2 hn hW
        clear hn hT
        go_wp2_with fail
        refine (HTk.out _ HPa7.out).mono ?_
        rintro e w8 ⟨rfl, n8, rfl⟩
        go_wp2_with fail
        refine (ofkids_any 3 (by unfold isInt; omega) (fun b => w.heap.size < b) A7 (m + 1) c7' (l ++ [y]) _ HN.out.len.symm (by rw [HN.out.len]; exact HN.out.le) HN.out.cap ((HN.out.kids (T := fun b => w.heap.size < b) (fun b hb _ => hb.elim id (HA7.out b))).ext (ext_drewN (Below.refl _ _) _))).mono ?_
        rintro e w8 ⟨cs8, rfl, hr8, hb8⟩
        have harr := reR_arr hr8
        have hb08 : Below w7.heap.size w7 w8 := ext_trans (ext_drewN (Below.refl w7.heap.size w7) _) hb8
        have hR8 := HR7.out.ext hb08
        have HPa8 := Lib.hid (HPa7.out.ext hb08)
        have HO8 : Hid (Only (fun x => x = g) w w8) := Lib.hid (HO7.out.trans (Only.of_ext hb08) (fun _ _ h => h))
        have Hr8 := Lib.hid hr8
        clear hr8 hb8 hb08
        unfold reV
        go_wp2_with (refine wpList_store_re rfl _ _ rfl w.heap.size rfl rfl harr.1 rfl harr.2 hR8 ?_; intro w9 hB9 ho9)
        refine bodyPost_ret (results_re2 rfl _ _ w.heap.size _ _ harr.1 rfl hB9) rfl ?_
        have hfin := fin_store (Nat.le_refl _) hgl HO8.out HPa8.out ho9
        rw [HE.out]
        exact TookP.ok (p := q2) hfin.1 ⟨cs8, rfl, by have := (Hr8.out.only ho9 (fun b hb h => by omega)).mono (T := fun b => w.heap.size ≤ b) (fun b hb _ => by omega); rwa [kidsE_alt] at this⟩ hq2 rfl hfin.2

/-- all of them -/
theorem alts_any (s : ByteArray) (hs : s.size ≤ 1000000) (g : Nat) : ∀ f, (∀ W q, q ≤ s.size → 4 * (s.size - q) + 2 ≤ f → PaS W g s q → Calls Tryd.prog 76 #[.pointer (some ⟨g, 0, none⟩)] W (TookP W g s (atomQ f ((natsOf s).drop q)) (isRe W.heap.size) anyR)) ∧
    (∀ W q, q ≤ s.size → 4 * (s.size - q) + 3 ≤ f → PaS W g s q → Calls Tryd.prog 61 #[.pointer (some ⟨g, 0, none⟩)] W (TookP W g s (rowQ f [] ((natsOf s).drop q)) (isRe W.heap.size) anyR)) ∧
    (∀ W q, q ≤ s.size → 4 * (s.size - q) + 4 ≤ f → PaS W g s q → Calls Tryd.prog 41 #[.pointer (some ⟨g, 0, none⟩)] W (TookP W g s (altsQ f ((natsOf s).drop q)) (isRe W.heap.size) anyR)) := by
  intro f
  induction f using Nat.strongRecOn with
  | ind f ih =>
    refine ⟨fun W q hq hf hW => ?_, fun W q hq hf hW => ?_, fun W q hq hf hW => ?_⟩
    · obtain ⟨d, rfl⟩ : ∃ d, f = d + 1 := ⟨f - 1, by omega⟩
      exact atom_of d W g s q hs hq hW (fun W' _ hq1 hPW => (ih d (by omega)).2.2 W' (q + 1) hq1 (by omega) hPW)
    · exact row_of f W g s q hs hq hW hf (fun f' W' q' hf' hq' hb hPW => (ih f' hf').1 W' q' hq' hb hPW)
    · exact alts_of f W g s q hs hq hW hf (fun f' W' q' hf' hq' hb hPW => (ih f' hf').2.1 W' q' hq' hb hPW)
end Go.Proofs.YtmggajpecgnjkaaDoor

/-
  Contract of the program's Parse. No statement of the seat is proved here.
-/
namespace Go.Proofs.YtmggajpecgnjkaaDoor
open Go Go.RowKit
set_option maxRecDepth 100000

/-- three results, the first of which lies in a cell -/
theorem results_re3 {fn : Func} {t u v : Tmp} (h : fn.results = #[.cell t 27, .tmp u, .tmp v]) (tmps : Array Value) (w : World) (g : Nat) (e : TypeId) (cs : Array Value) (hc : cs.size = 8)
    (ht : tmps.getD t undef = .pointer (some ⟨g, 0, none⟩)) (hb : Blk w g e cs) : (results fn tmps).run Tryd.prog w = .ok (.tuple #[.agg cs, tmps.getD u undef, tmps.getD v undef]) w := by
  have hl := run_loadVar_row (P := Tryd.prog) w g e 27 cs (0, 0) _ hb Tryd.underlying27 rfl (size_re hc)
  rw [Array.getD_eq_getD_getElem?] at ht
  simp [results, h, ht, asAddr, hl]
/-- what Parse answers -/
def ParseAns (H : Nat) (r : Ex × Nat × Nat) (e : Ending) (w : World) : Prop :=
  ∃ cs, e = .returned (.tuple #[reV cs, .int .i64 ((r.2.1 : Nat) : Int), .int .i64 ((r.2.2 : Nat) : Int)]) ∧ ReR (fun b => H ≤ b) w r.1 cs
theorem empty_re (S : Nat → Prop) (W : World) : ReR S W emptyE [.int .i64 0, .int .u64 0, .int .u64 0, .int .u64 0, .int .u64 0, .slice none 0 0, .int .i64 0, .int .i64 0] := reR_leaf W (by unfold isInt; omega) zero_ok

set_option maxHeartbeats 8000000 in
theorem parse_any (s : ByteArray) (hs : s.size ≤ 1000000) (w : World) (ht : Tab w) :
    Calls Tryd.prog 16 #[.string s] w fun e w' => ParseAns w.heap.size (parseE (natsOf s)) e w' ∧ Below w.heap.size w w' := by
  have hln := natsOf_len s
  have hsi : (s.size : Int) ≤ 1000000 := by omega
  rcases Nat.lt_or_ge 1024 s.size with hlong | hshort
  · have hP : parseE (natsOf s) = (emptyE, 0, 3) := by unfold parseE; rw [if_pos (by omega)]
    rw [hP]
    have hli : (1024 : Int) < (s.size : Int) := by omega
    have hli2 : 1024 < s.size := hlong
    have hwz := fun W => empty_re (fun b => w.heap.size ≤ b) W
    have Hwz := Lib.hid hwz
    clear hP hwz hln hlong
    go_enter Tryd.func16, Tryd.ntmps16
    go_wp2_with (refine wpList_store_re rfl _ _ rfl w.heap.size rfl rfl rfl rfl zeroA_one (Blk.new w 27 #[.int .i64 0, .int .u64 0, .int .u64 0, .int .u64 0, .int .u64 0, .slice none 0 0, .int .i64 0, .int .i64 0]) ?_; intro w9 hB9 ho9)
    refine bodyPost_ret (results_re3 rfl _ _ w.heap.size _ _ rfl rfl hB9) rfl ?_
    exact ⟨⟨_, rfl, Hwz.out _⟩, ((Below.refl w.heap.size w).alloc (Nat.le_refl _) _).trans (ho9.below (fun i hi => by omega) (by simp))⟩
  have hsh : (s.size : Int) ≤ 1024 := by omega
  have hsh2 : s.size ≤ 1024 := hshort
  have hP : parseE (natsOf s) = match altsQ (fuelP (natsOf s)) (natsOf s) with
      | .bad n => (emptyE, (natsOf s).length - n, 2)
      | .ok x rest => if rest ≠ [] then (emptyE, (natsOf s).length - rest.length, 2) else if isE x then (x, 0, 0) else (emptyE, 0, 3) := by
    unfold parseE
    rw [if_neg (by omega), altsQ_eq]
    cases altsP (fuelP (natsOf s)) (natsOf s) <;> rfl
  rw [hln] at hP
  have hd0 : (natsOf s).drop 0 = natsOf s := List.drop_zero
  obtain ⟨w1, hw1⟩ : ∃ w1, w1 = (w.alloc (Obj.cells #[.int .i64 0, .int .u64 0, .int .u64 0, .int .u64 0, .int .u64 0, .slice none 0 0, .int .i64 0, .int .i64 0] 27)).alloc (Obj.cells #[.string s, .int .i64 0] 62) := ⟨_, rfl⟩
  have hb1 : Below w.heap.size w w1 := by rw [hw1]; exact ext2 w _ _
  have hPa : PaS w1 (w.heap.size + 1) s 0 := by
    have := Blk.new (w.alloc (Obj.cells #[.int .i64 0, .int .u64 0, .int .u64 0, .int .u64 0, .int .u64 0, .slice none 0 0, .int .i64 0, .int .i64 0] 27)) 62 #[.string s, .int .i64 0]
    rw [World.size_alloc] at this
    rw [hw1]
    exact this
  have hR1 : Blk w1 w.heap.size 27 #[.int .i64 0, .int .u64 0, .int .u64 0, .int .u64 0, .int .u64 0, .slice none 0 0, .int .i64 0, .int .i64 0] := by
    rw [hw1]
    exact (Blk.new w 27 _).alloc _
  have hal := (alts_any s hs (w.heap.size + 1) (fuelP (natsOf s))).2.2 w1 0 (Nat.zero_le _) (by unfold fuelP; omega) hPa
  rw [hd0] at hal
  obtain ⟨T, hT⟩ : ∃ T, altsQ (fuelP (natsOf s)) (natsOf s) = T := ⟨_, rfl⟩
  rw [hT] at hal hP
  have Hal := Lib.hid hal
  have HP := Lib.hid hP
  have HR1 := Lib.hid hR1
  have Hb1 := Lib.hid hb1
  have Ht := Lib.hid ht
  have Hw1 := Lib.hid hw1
  have Hz := Lib.hid (fun W => empty_re (fun b => w.heap.size ≤ b) W)
  have Hlt1 : Hid (w.heap.size + 1 < w1.heap.size) := Lib.hid hPa.lt
  clear hal hP hR1 hb1 hT hd0 hPa hln ht hw1
  go_enter Tryd.func16, Tryd.ntmps16
  go_wp2_with fail
  rw [← Hw1.out]
  refine Hal.out.mono ?_
  rintro e w3 ⟨ho3, hr⟩
  have HR3 := Lib.hid (HR1.out.only ho3 (by omega))
  have Hs3 : Hid (w1.heap.size ≤ w3.heap.size) := Lib.hid ho3.size
  have Hb3 : Hid (Below w.heap.size w w3) := Lib.hid (Hb1.out.trans (ho3.below (fun i hi => by omega) Hb1.out.size))
  clear ho3 Hal
  cases T with
  | bad left =>
    obtain ⟨v, rfl, ⟨cs, rfl, hsz, hone⟩, hl, hPa3⟩ := hr
    obtain ⟨u0, u1, u2, u3, u4, u5, u6, u7, rfl⟩ := arr_eight hsz
    have HPa3 := Lib.hid hPa3
    clear hPa3
    go_wp2_with (refine wpList_store_re rfl _ _ rfl w3.heap.size rfl rfl rfl rfl hone (Blk.new _ _ _) ?_; intro w4 hB4 ho4)
    have HR4 := Lib.hid ((HR3.out.alloc (Obj.cells #[.int .i64 0, .int .u64 0, .int .u64 0, .int .u64 0, .int .u64 0, .slice none 0 0, .int .i64 0, .int .i64 0] 27)).only ho4 (by have := Hlt1.out; have := Hs3.out; omega))
    have HPa4 := Lib.hid ((HPa3.out.alloc (Obj.cells #[.int .i64 0, .int .u64 0, .int .u64 0, .int .u64 0, .int .u64 0, .slice none 0 0, .int .i64 0, .int .i64 0] 27)).only ho4 (by have := Hlt1.out; have := Hs3.out; omega))
    have Hb4 : Hid (Below w.heap.size w w4) := Lib.hid ((Hb3.out.alloc (by have := Hb3.out.size; exact this) _).trans (ho4.below (fun i hi => by have := Hlt1.out; have := Hs3.out; omega) (by have := Hb3.out.size; simp; omega)))
    clear hB4 ho4 hone
    refine wp_region_held_drew (S := fun w' => w'.cell? ⟨w.heap.size + 1, 1, none⟩ = some (.int .i64 ((s.size - left : Nat) : Int))) (by kernel_rfl) ?_ (fun hHeld => ?_)
    · exact HPa4.out.c1
    refine wpAnyH_take (i := 0) (v := ?_) (take_list rfl) (by kernel_rfl) (by kernel_rfl) (by kernel_rfl) (fun _ _ _ h => h) (Or.inl ⟨by rfl, ?_⟩) (by assumption) ?_
    rotate_left
    · intro w hSw
      try dsimp only at hSw
      first | (go_simp; done) | (go_simp; with_reducible rfl)
    try simp only [Act.put, List.setIfInBounds_toArray, List.set_cons_zero, List.set_cons_succ]
    refine wpAnyH_take (i := 1) (v := ?_) (take_list rfl) (by kernel_rfl) (by kernel_rfl) (by kernel_rfl) (fun _ _ _ h => h) (Or.inl ⟨by rfl, ?_⟩) (by assumption) ?_
    rotate_left
    · intro w hSw
      try dsimp only at hSw
      first | (go_simp; done) | (go_simp; with_reducible rfl)
    try simp only [Act.put, List.setIfInBounds_toArray, List.set_cons_zero, List.set_cons_succ]
    refine wpAnyH_take (i := 2) (v := ?_) (take_list rfl) (by kernel_rfl) (by kernel_rfl) (by kernel_rfl) (fun _ _ _ h => h) (Or.inl ⟨by rfl, ?_⟩) (by assumption) ?_
    rotate_left
    · intro w hSw
      try dsimp only at hSw
      first | (go_simp; done) | (go_simp; with_reducible rfl)
    try simp only [Act.put, List.setIfInBounds_toArray, List.set_cons_zero, List.set_cons_succ]
    refine wpAnyH_ready (rs := [3]) (by kernel_rfl) (by simp) ?_
    refine AllReadyH.cons (take_list rfl) (fun K hK => ?_) ?_
    · skip
      refine step_store_re rfl _ _ rfl w.heap.size rfl (ds := #[.int .i64 0, .int .u64 0, .int .u64 0, .int .u64 0, .int .u64 0, .slice none 0 0, .int .i64 0, .int .i64 0]) rfl rfl rfl zeroA_one (HR4.out.drew) ?_
      intro wy hBy hoy
      have hSy : (fun w' => w'.cell? ⟨w.heap.size + 1, 1, none⟩ = some (.int .i64 ((s.size - left : Nat) : Int))) wy := (HPa4.out.drew.only hoy (by omega)).c1
      refine hK.out _ _ ?_ (fun hHeld => ?_)
      · try dsimp only
        exact hSy
      clear hK K
      refine wpAnyH_take (i := 4) (v := ?_) (take_list rfl) (by kernel_rfl) (by kernel_rfl) (by kernel_rfl) (fun _ _ _ h => h) (Or.inl ⟨by rfl, ?_⟩) (by assumption) ?_
      rotate_left
      · intro w hSw
        try dsimp only at hSw
        first | (go_simp; done) | (go_simp; with_reducible rfl)
      try simp only [Act.put, List.setIfInBounds_toArray, List.set_cons_zero, List.set_cons_succ]
      refine wpAnyH_take (i := 5) (v := ?_) (take_list rfl) (by kernel_rfl) (by kernel_rfl) (by kernel_rfl) (fun _ _ _ h => h) (Or.inl ⟨by rfl, ?_⟩) (by assumption) ?_
      rotate_left
      · intro w hSw
        try dsimp only at hSw
        first | (go_simp; done) | (go_simp; with_reducible rfl)
      try simp only [Act.put, List.setIfInBounds_toArray, List.set_cons_zero, List.set_cons_succ]
      refine wpAnyH_done (by kernel_rfl) ?_ _
      go_wp2
      refine bodyPost_ret (results_re3 rfl _ _ w.heap.size _ _ rfl rfl hBy) rfl ?_
      refine ⟨⟨_, by rw [HP.out]; rfl, by rw [HP.out]; exact Hz.out _⟩, (show Below w.heap.size w w4.drew from ext_drewN Hb4.out 1).trans (hoy.below (fun i hi => Nat.le_of_eq hi.symm) (by have := Hb4.out.size; exact this))⟩
    exact AllReadyH.nil
  | ok x l2 =>
    obtain ⟨v, q, rfl, ⟨cs, hv, hr3⟩, hq, rfl, hPa3⟩ := hr
    have hPq := HP.out
    simp only [nats_len] at hPq
    have harr := reR_arr hr3
    have hv2 : v = .agg cs.toArray := hv
    obtain ⟨u0, u1, u2, u3, u4, u5, u6, u7, hcs⟩ := arr_eight harr.1
    have hone := harr.2
    rw [hcs] at hone hv2
    subst hv2
    have hcl : cs = [u0, u1, u2, u3, u4, u5, u6, u7] := by have := congrArg Array.toList hcs; simpa using this
    subst hcl
    have HPa3 := Lib.hid hPa3
    have HPq := Lib.hid hPq
    have Hr3 := Lib.hid (hr3.mono (T := fun b => w1.heap.size ≤ b ∧ b < w3.heap.size) (fun b hb hl => ⟨hb, hl⟩))
    clear hPa3 harr hcs hv hr3 hPq HP
    rcases Nat.lt_or_ge q s.size with hlt | hge
    · have hne : (natsOf s).drop q ≠ [] := by rw [nats_drop s q hlt]; simp
      have HP : Hid (parseE (natsOf s) = (emptyE, q, 2)) := Lib.hid (by rw [HPq.out, if_pos hne, show s.size - (s.size - q) = q by omega])
      have g1 : decide ((q : Int) < (s.size : Int)) = true := by simpa using hlt
      have g2 : decide (q < s.size) = true := by simpa using hlt
      have g3 : (q : Int) < (s.size : Int) := by omega
      clear hne
      go_wp2_with (refine wpList_store_re rfl _ _ rfl w3.heap.size rfl rfl rfl rfl hone (Blk.new _ _ _) ?_; intro w4 hB4 ho4; have hPa4 := (HPa3.out.alloc (Obj.cells #[.int .i64 0, .int .u64 0, .int .u64 0, .int .u64 0, .int .u64 0, .slice none 0 0, .int .i64 0, .int .i64 0] 27)).only ho4 (by have := Hlt1.out; have := Hs3.out; omega); have x1 := hPa4.c1)
      have HPa4 := Lib.hid hPa4
      have HR4 := Lib.hid ((HR3.out.alloc (Obj.cells #[.int .i64 0, .int .u64 0, .int .u64 0, .int .u64 0, .int .u64 0, .slice none 0 0, .int .i64 0, .int .i64 0] 27)).only ho4 (by have := Hlt1.out; have := Hs3.out; omega))
      have Hb4 : Hid (Below w.heap.size w w4) := Lib.hid ((Hb3.out.alloc (by have := Hb3.out.size; exact this) _).trans (ho4.below (fun i hi => by have := Hlt1.out; have := Hs3.out; omega) (by have := Hb3.out.size; simp; omega)))
      clear hB4 ho4 hone hPa4
      refine wp_region_held_drew (S := fun w' => w'.cell? ⟨w.heap.size + 1, 1, none⟩ = some (.int .i64 ((q : Nat) : Int))) (by kernel_rfl) ?_ (fun hHeld => ?_)
      · exact HPa4.out.c1
      refine wpAnyH_take (i := 0) (v := ?_) (take_list rfl) (by kernel_rfl) (by kernel_rfl) (by kernel_rfl) (fun _ _ _ h => h) (Or.inl ⟨by rfl, ?_⟩) (by assumption) ?_
      rotate_left
      · intro w hSw
        try dsimp only at hSw
        first | (go_simp; done) | (go_simp; with_reducible rfl)
      try simp only [Act.put, List.setIfInBounds_toArray, List.set_cons_zero, List.set_cons_succ]
      refine wpAnyH_take (i := 1) (v := ?_) (take_list rfl) (by kernel_rfl) (by kernel_rfl) (by kernel_rfl) (fun _ _ _ h => h) (Or.inl ⟨by rfl, ?_⟩) (by assumption) ?_
      rotate_left
      · intro w hSw
        try dsimp only at hSw
        first | (go_simp; done) | (go_simp; with_reducible rfl)
      try simp only [Act.put, List.setIfInBounds_toArray, List.set_cons_zero, List.set_cons_succ]
      refine wpAnyH_take (i := 2) (v := ?_) (take_list rfl) (by kernel_rfl) (by kernel_rfl) (by kernel_rfl) (fun _ _ _ h => h) (Or.inl ⟨by rfl, ?_⟩) (by assumption) ?_
      rotate_left
      · intro w hSw
        try dsimp only at hSw
        first | (go_simp; done) | (go_simp; with_reducible rfl)
      try simp only [Act.put, List.setIfInBounds_toArray, List.set_cons_zero, List.set_cons_succ]
      refine wpAnyH_ready (rs := [3]) (by kernel_rfl) (by simp) ?_
      refine AllReadyH.cons (take_list rfl) (fun K hK => ?_) ?_
      · skip
        refine step_store_re rfl _ _ rfl w.heap.size rfl (ds := #[.int .i64 0, .int .u64 0, .int .u64 0, .int .u64 0, .int .u64 0, .slice none 0 0, .int .i64 0, .int .i64 0]) rfl rfl rfl zeroA_one (HR4.out.drew) ?_
        intro wy hBy hoy
        have hSy : (fun w' => w'.cell? ⟨w.heap.size + 1, 1, none⟩ = some (.int .i64 ((q : Nat) : Int))) wy := (HPa4.out.drew.only hoy (by omega)).c1
        refine hK.out _ _ ?_ (fun hHeld => ?_)
        · try dsimp only
          exact hSy
        clear hK K
        refine wpAnyH_take (i := 4) (v := ?_) (take_list rfl) (by kernel_rfl) (by kernel_rfl) (by kernel_rfl) (fun _ _ _ h => h) (Or.inl ⟨by rfl, ?_⟩) (by assumption) ?_
        rotate_left
        · intro w hSw
          try dsimp only at hSw
          first | (go_simp; done) | (go_simp; with_reducible rfl)
        try simp only [Act.put, List.setIfInBounds_toArray, List.set_cons_zero, List.set_cons_succ]
        refine wpAnyH_take (i := 5) (v := ?_) (take_list rfl) (by kernel_rfl) (by kernel_rfl) (by kernel_rfl) (fun _ _ _ h => h) (Or.inl ⟨by rfl, ?_⟩) (by assumption) ?_
        rotate_left
        · intro w hSw
          try dsimp only at hSw
          first | (go_simp; done) | (go_simp; with_reducible rfl)
        try simp only [Act.put, List.setIfInBounds_toArray, List.set_cons_zero, List.set_cons_succ]
        refine wpAnyH_done (by kernel_rfl) ?_ _
        go_wp2
        refine bodyPost_ret (results_re3 rfl _ _ w.heap.size _ _ rfl rfl hBy) rfl ?_
        refine ⟨⟨_, by rw [HP.out]; rfl, by rw [HP.out]; exact Hz.out _⟩, (show Below w.heap.size w w4.drew from ext_drewN Hb4.out 1).trans (hoy.below (fun i hi => Nat.le_of_eq hi.symm) (by have := Hb4.out.size; exact this))⟩
      exact AllReadyH.nil
    · have hqe : q = s.size := by omega
      have hnil : (natsOf s).drop q = [] := by rw [hqe]; exact nats_end s
      have HP : Hid (parseE (natsOf s) = if isE x then (x, 0, 0) else (emptyE, 0, 3)) := Lib.hid (by rw [HPq.out, if_neg (by simp [hnil])])
      have g1 : decide ((q : Int) < (s.size : Int)) = false := by simp; omega
      have g2 : decide (q < s.size) = false := by simp; omega
      have g3 : (s.size : Int) ≤ (q : Int) := by omega
      have Hqe := Lib.hid hqe
      clear hqe hnil HPq
      go_wp2_with (refine wpList_store_re rfl _ _ rfl w3.heap.size rfl rfl rfl rfl hone (Blk.new _ _ _) ?_; intro w4 hB4 ho4; have x1 := ((HPa3.out.alloc (Obj.cells #[.int .i64 0, .int .u64 0, .int .u64 0, .int .u64 0, .int .u64 0, .slice none 0 0, .int .i64 0, .int .i64 0] 27)).only ho4 (by have := Hlt1.out; have := Hs3.out; omega)).c1; have c0 := hB4.cell 0; have c1 := hB4.cell 1; have c2 := hB4.cell 2; have c3 := hB4.cell 3; have c4 := hB4.cell 4; have c5 := hB4.cell 5; have c6 := hB4.cell 6; have c7 := hB4.cell 7)
      have HR4 := Lib.hid ((HR3.out.alloc (Obj.cells #[.int .i64 0, .int .u64 0, .int .u64 0, .int .u64 0, .int .u64 0, .slice none 0 0, .int .i64 0, .int .i64 0] 27)).only ho4 (by have := Hlt1.out; have := Hs3.out; omega))
      have Hb4 : Hid (Below w.heap.size w w4) := Lib.hid ((Hb3.out.alloc (by have := Hb3.out.size; exact this) _).trans (ho4.below (fun i hi => by have := Hlt1.out; have := Hs3.out; omega) (by have := Hb3.out.size; simp; omega)))
      have Hr4 : Hid (ReR (fun b => w1.heap.size ≤ b ∧ b < w3.heap.size) w4 x [u0, u1, u2, u3, u4, u5, u6, u7]) := Lib.hid ((Hr3.out.ext ((Below.refl _ _).alloc (Nat.le_refl _) (Obj.cells #[.int .i64 0, .int .u64 0, .int .u64 0, .int .u64 0, .int .u64 0, .slice none 0 0, .int .i64 0, .int .i64 0] 27))).only ho4 (fun b hb h => by omega))
      have HD4 := Lib.hid hB4
      have HI := Lib.hid (pis_any (fun b => w1.heap.size ≤ b ∧ b < w3.heap.size) x [u0, u1, u2, u3, u4, u5, u6, u7] w4 (Ht.out.ext Hb4.out) Hr4.out)
      have Hone := Lib.hid hone
      clear hB4 ho4 hone c0 c1 c2 c3 c4 c5 c6 c7 x1
      refine HI.out.mono ?_
      rintro e w5 ⟨rfl, hb5⟩
      have hR5 := HR4.out.ext hb5
      have hD5 := HD4.out.ext hb5
      have Hb5 : Hid (Below w.heap.size w w5) := Lib.hid (Hb4.out.trans (hb5.mono Hb4.out.size))
      have Hr5 := Lib.hid (Hr4.out.ext hb5)
      have hone := Hone.out
      clear hb5 HI
      cases hi : isE x with
      | false =>
        have HP2 := HP.out
        rw [hi, if_neg (by simp)] at HP2
        have HP3 := Lib.hid HP2
        clear HP2 HP hi
        go_wp2_with (refine wpList_store_re rfl _ _ rfl w.heap.size rfl rfl rfl rfl zeroA_one hR5 ?_; intro w9 hB9 ho9)
        refine bodyPost_ret (results_re3 rfl _ _ w.heap.size _ _ rfl rfl hB9) rfl ?_
        exact ⟨⟨_, by rw [HP3.out]; rfl, by rw [HP3.out]; exact Hz.out _⟩, Hb5.out.trans (ho9.below (fun i hi => by omega) (by have := Hb5.out.size; exact this))⟩
      | true =>
        have HP2 := HP.out
        rw [hi, if_pos rfl] at HP2
        have HP3 := Lib.hid HP2
        have c0 := hD5.cell 0
        have c1 := hD5.cell 1
        have c2 := hD5.cell 2
        have c3 := hD5.cell 3
        have c4 := hD5.cell 4
        have c5 := hD5.cell 5
        have c6 := hD5.cell 6
        have c7 := hD5.cell 7
        clear HP2 HP hi
        go_wp2_with (refine wpList_store_re rfl _ _ rfl w.heap.size rfl rfl rfl rfl hone hR5 ?_; intro w9 hB9 ho9)
        refine bodyPost_ret (results_re3 rfl _ _ w.heap.size _ _ rfl rfl hB9) rfl ?_
        exact ⟨⟨[u0, u1, u2, u3, u4, u5, u6, u7], by rw [HP3.out]; rfl, by rw [HP3.out]; exact (Hr5.out.only ho9 (fun b hb h => by have := hb.1; have := Hlt1.out; omega)).mono (fun b hb _ => by have := hb.1; have := Hlt1.out; omega)⟩, Hb5.out.trans (ho9.below (fun i hi => by omega) (by have := Hb5.out.size; exact this))⟩
end Go.Proofs.YtmggajpecgnjkaaDoor
