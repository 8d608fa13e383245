/-
  Texts of this claim, joined (part 4): contracts and lemmas that the last text goes by. No statement of the seat is proved here.
-/
import Derived.Test.YtbokimeojhkgmaaDoorAll3
import Derived.Test.YtbokimeojhkgmaaDoorAll1
import Derived.Test.YtbokimeojhkgmaaDoorAll0
import Derived.ProofKit
import Derived.OpenShut
import Derived.Deep.DeepHandedRow
import Derived.Deep.Matrix
import Derived.LaidLaws
set_option linter.unusedVariables false
set_option linter.unusedSimpArgs false
/-
  Decode, the program's. No statement of the seat is proved here.
-/
namespace Go.Proofs.YtbokimeojhkgmaaDoor
open Go Go.RowKit
set_option maxRecDepth 100000

/-- what the loop still reads, with what it has -/
structure Rdg (p : List UInt8) (N m : Nat) (acc : List (List UInt8)) (rest : List UInt8) (bad : Bool) : Prop where
  all : acc ++ (takeR m rest bad).1 = (takeR N (rest2 p).1 (rest2 p).2).1
  flag : (takeR m rest bad).2.2 = (takeR N (rest2 p).1 (rest2 p).2).2.2
  len : acc.length + m ≤ N
  each : ∀ s ∈ acc, s.length ≤ p.length
  short : rest.length ≤ p.length
theorem Rdg.step {p : List UInt8} {N m : Nat} {acc : List (List UInt8)} {rest : List UInt8} (h : Rdg p N (m + 1) acc rest false) : Rdg p N m (acc ++ [(stBytes rest false).1]) (stBytes rest false).2.1 (stBytes rest false).2.2 := by
  have e := takeR_succ m rest
  have hl := stBytes_len rest false
  refine ⟨?_, ?_, ?_, fun s hs => ?_, Nat.le_trans hl.1 h.short⟩
  · rw [← h.all, e, List.append_assoc]; rfl
  · rw [← h.flag, e]
  · rw [List.length_append]; have := h.len; simp; omega
  · rcases List.mem_append.1 hs with hs | hs
    · exact h.each s hs
    · simp at hs; rw [hs]; exact Nat.le_trans hl.2 h.short
theorem Rdg.end_ {p : List UInt8} {N m : Nat} {acc : List (List UInt8)} {rest : List UInt8} {bad : Bool} (h : Rdg p N m acc rest bad) (he : m = 0 ∨ bad = true) : acc = (takeR N (rest2 p).1 (rest2 p).2).1 ∧ bad = (takeR N (rest2 p).1 (rest2 p).2).2.2 := by
  have h1 := h.all
  have h2 := h.flag
  rcases he with rfl | rfl
  · rw [takeR_zero] at h1 h2
    exact ⟨by rw [← h1]; exact (List.append_nil _).symm, h2⟩
  · rw [takeR_bad] at h1 h2
    exact ⟨by rw [← h1]; exact (List.append_nil _).symm, h2⟩
theorem NewS.max {w w' : World} {A : Option Addr} {c : Nat} {l : List (List UInt8)} (h : NewS w w' A c l) : c ≤ maxLen := by
  rcases h.1.2 with ⟨h1, _⟩ | ⟨g, cap, cur, h1, _, _, _, h5, _⟩
  · injection h1 with _ _ h1; rw [h1]; exact Nat.zero_le _
  · injection h1 with _ _ h1; rw [h1]; exact h5
theorem NewS.grow1 {w w1 w2 : World} {A : Option Addr} {c : Nat} {l m : List (List UInt8)} {o : Obj} (hb : Below w.heap.size w w1) (h : Own w2 (More (fun k => w.heap.size ≤ k ∧ k < w1.heap.size) (w1.alloc o) w2) 9 A c (l.map strV ++ m.map strV)) (ho : Only (fun k => w.heap.size ≤ k ∧ k < w1.heap.size) (w1.alloc o) w2) :
    NewS w w2 A c (l ++ m) := by
  have h1 := hb.size
  have h2 := ho.size
  rw [World.size_alloc] at h2
  unfold NewS
  rw [List.map_append]
  refine h.mono (fun _ hk _ => ?_)
  rcases hk with hk | hk
  · omega
  · rw [World.size_alloc] at hk; omega

/-- what a round of Decode's loop leaves: a text more in the row, whose slice is a field of the batch -/
theorem dec_round {W4 wr x1 x2 : World} {g gb : Nat} {T : TypeId} {f : Int} {A1 A3 : Option Addr} {c1 c3 : Nat} {acc : List (List UInt8)} {bs : List UInt8} {o : Obj}
    (hgb : gb < W4.heap.size) (ho : Only (fun k => k = g ∨ k = gb) W4 wr) (hx : Only (fun k => k = g) wr x1) (hB : Blk x2 gb T #[.int .i64 f, .slice A1 acc.length c1])
    (hown : Own x2 (More (fun k => W4.heap.size ≤ k ∧ k < wr.heap.size) (x1.alloc o) x2) 9 A3 c3 (acc.map strV ++ [strV bs])) (honly : Only (fun k => W4.heap.size ≤ k ∧ k < wr.heap.size) (x1.alloc o) x2) :
    Blk (x2.setCell ⟨gb, 1, none⟩ (.slice A3 (acc.length + 1) c3)) gb T #[.int .i64 f, .slice A3 (acc ++ [bs]).length c3] ∧ NewS W4 (x2.setCell ⟨gb, 1, none⟩ (.slice A3 (acc.length + 1) c3)) A3 c3 (acc ++ [bs]) ∧
      Only (fun k => k = g ∨ k = gb) W4 (x2.setCell ⟨gb, 1, none⟩ (.slice A3 (acc.length + 1) c3)) ∧ Only (fun k => W4.heap.size ≤ k ∨ k = gb) x1 (x2.setCell ⟨gb, 1, none⟩ (.slice A3 (acc.length + 1) c3)) := by
  have s1 := ho.size
  have s2 := hx.size
  have s3 := honly.size
  rw [World.size_alloc] at s3
  have hn : NewS W4 x2 A3 c3 (acc ++ [bs]) := by
    unfold NewS
    rw [List.map_append]
    refine hown.mono (fun k hk _ => ?_)
    rcases hk with hk | hk
    · exact ⟨hk.1, by omega⟩
    · rw [World.size_alloc] at hk; omega
  refine ⟨?_, ?_, ?_, ?_⟩
  · have := hB.put 1 (.slice A3 (acc.length + 1) c3)
    rw [List.length_append]
    simpa using this
  · unfold NewS at hn ⊢
    have h2 : Own (x2.setCell ⟨gb, 1, none⟩ (.slice A3 (acc.length + 1) c3)) (fun k => W4.heap.size ≤ k ∧ k < x2.heap.size) 9 A3 c3 ((acc ++ [bs]).map strV) := hn.setCell (fun ad e => by have := (hn.2 ad e).1; show ad.block ≠ gb; omega) _
    exact h2.mono (fun k hk _ => ⟨hk.1, by simpa [World.setCell] using hk.2⟩)
  · have h1 : Only (fun k => k = g ∨ k = gb) W4 (x1.alloc o) := (ho.trans hx (fun _ _ h => .inl h)).alloc o
    exact (h1.trans honly (fun i hi h => by omega)).setCell (p := ⟨gb, 1, none⟩) (.inl (.inr rfl)) _
  · have h1 : Only (fun k => W4.heap.size ≤ k ∨ k = gb) x1 (x1.alloc o) := (Only.refl _ _).alloc o
    exact (h1.trans honly (fun i _ h => .inl h.1)).setCell (p := ⟨gb, 1, none⟩) (.inl (.inr rfl)) _

set_option maxHeartbeats 1000000 in
theorem decode_any (p : List UInt8) (A : Option Addr) (ca : Nat) (w : World) (ht : Tab w) (hA : Rd w A (p.map bv)) (hc : p.length ≤ ca) (hp : p.length ≤ 1000000) :
    Calls Tryd.prog 13 #[.slice A p.length ca] w fun e w' => ∃ B' c', e = .returned (.tuple #[btV (decB p).1 B' c', .int .i64 (decB p).2]) ∧ BtIn w' (decB p).1 B' c' ∧ Below w.heap.size w w' := by
  have hres : decB p = tak p (got p (min (count? p) 65)) := by
    obtain ⟨h1, h2⟩ := decB_got p
    by_cases h : AreB p (got p (min (count? p) 65))
    · rw [h1 h, tak_yes h]
    · rw [h2 h, tak_no h]
  have Hres := Lib.hid hres
  have Ht := Lib.hid ht
  have HA := Lib.hid hA
  obtain ⟨w1, hw1⟩ : ∃ w1, w1 = w.alloc (.cells #[.int .i64 0, .slice none 0 0] 24) := ⟨_, rfl⟩
  have Hb1 : Hid (Below w.heap.size w w1) := Lib.hid (by rw [hw1]; exact (Below.refl _ _).alloc (Nat.le_refl _) _)
  have HX1 : Hid (Blk w1 w.heap.size 24 #[.int .i64 0, .slice none 0 0]) := Lib.hid (by rw [hw1]; exact Blk.new _ _ _)
  have Hw1 := Lib.hid hw1
  clear hw1 hres ht hA
  unfold btV
  generalize decB p = R at *
  obtain ⟨⟨Rf, Rl⟩, Re⟩ := R
  simp only
  go_enter Tryd.func13, Tryd.ntmps13
  go_wp2_with fail
  rw [← Hw1.out]
  refine (newreader A p.length ca p w1 rfl hc (HA.out.ext Hb1.out) (by omega)).mono ?_
  rintro e w2 ⟨g, rfl, hr2, hb2⟩
  have Hb2 := Lib.hid (ext_trans Hb1.out hb2)
  have HX2 := Lib.hid (HX1.out.ext hb2)
  have Hz : Hid (w.heap.size < w1.heap.size) := Lib.hid HX1.out.lt
  clear hb2
  go_wp2_with fail
  refine (rnum_st _ g p false w2 hr2 (by omega)).mono ?_
  rintro e w3 ⟨rfl, hr3, ho3⟩
  rw [show (stNum p false).1 = first? p from rfl]
  have hr3' : Rdr w3 (fun k => w1.heap.size ≤ k ∧ k < w2.heap.size) g (rest1 p).1 (rest1 p).2 := hr3
  have Hr3 := Lib.hid hr3'
  have Ho3 := Lib.hid ho3
  have Hgl : Hid (w1.heap.size ≤ g ∧ g < w2.heap.size) := Lib.hid hr2.1
  clear hr2 hr3 hr3' ho3
  obtain ⟨W4, hW4⟩ : ∃ W4, W4 = w3.alloc (.cells #[.int .i64 (first? p : Int), .slice none 0 0] 24) := ⟨_, rfl⟩
  have hb4 : Below w3.heap.size w3 W4 := by rw [hW4]; exact (Below.refl _ _).alloc (Nat.le_refl _) _
  have HB4 : Hid (Blk W4 w3.heap.size 24 #[.int .i64 (first? p : Int), .slice none 0 0]) := Lib.hid (by rw [hW4]; exact Blk.new _ _ _)
  have HZ4 : Hid (W4.heap.size = w3.heap.size + 1) := Lib.hid (by rw [hW4, World.size_alloc])
  have HR4 := Lib.hid (Hr3.out.ext hb4)
  have H24 : Hid (Only (fun k => k = g) w2 W4) := Lib.hid (by rw [hW4]; exact Ho3.out.alloc _)
  have HW4 := Lib.hid hW4
  have h3l := rest1_len p
  clear hb4 hW4
  go_wp2_with fail
  rw [← HW4.out]
  refine (rnum_st _ g (rest1 p).1 (rest1 p).2 W4 HR4.out (by omega)).mono ?_
  rintro e w5 ⟨rfl, hr5, ho5⟩
  rw [show (stNum (rest1 p).1 (rest1 p).2).1 = count? p from rfl]
  have hr5' : Rdr w5 (fun k => w1.heap.size ≤ k ∧ k < w2.heap.size) g (rest2 p).1 (rest2 p).2 := hr5
  have Hr5 := Lib.hid hr5'
  have Ho5 := Lib.hid ho5
  have hcl := count_le p
  obtain ⟨N, hN⟩ : ∃ N, min (count? p) 65 = N := ⟨_, rfl⟩
  obtain ⟨n, hn⟩ : ∃ n, count? p = n := ⟨_, rfl⟩
  have hres := Hres.out
  rw [hN] at hres
  have Hres2 := Lib.hid hres
  rw [hn] at hN hcl ⊢
  have hcase : (n ≤ 65 ∧ N = n) ∨ (65 < n ∧ N = 65) := by omega
  have hN65 : N ≤ 65 := by omega
  have HN65 := Lib.hid hN65
  have h5l := rest2_len p
  have HD : Hid (∀ W, Only (fun k => k = g ∨ k = w3.heap.size) W4 W → Below w.heap.size w W) := Lib.hid (fun W ho => by
    have h1 := H24.out
    have hz1 := Hz.out
    have hg1 := Hgl.out
    have h2 := h1.size
    have h3 := Ho3.out.size
    exact Hb2.out.trans ((h1.below (fun i hi => by omega) (by have := Hb2.out.size; omega)).trans (ho.below (fun i hi => by omega) (by have := Hb2.out.size; omega))))
  clear hr5 hr5' ho5 h3l hres hn hN Hres
  rcases hcase with ⟨hq, rfl⟩ | ⟨hq, rfl⟩
  · have hqi : (N : Int) ≤ 65 := by omega
    go_wp2_with fail
    go_loopw [6] (fun i wr => ∃ (m : Nat) (acc : List (List UInt8)) (rest : List UInt8) (bad : Bool) (A1 : Option Addr) (c1 : Nat), i = .int .i64 (m : Int) ∧ Hid (Rdg p N m acc rest bad) ∧ Rdr wr (fun k => w1.heap.size ≤ k ∧ k < w2.heap.size) g rest bad ∧ Blk wr w3.heap.size 24 #[.int .i64 (first? p : Int), .slice A1 acc.length c1] ∧ NewS W4 wr A1 c1 acc ∧ Only (fun k => k = g ∨ k = w3.heap.size) W4 wr) (fun i _ => (intOf i).toNat)
    case atStart => exact ⟨N, [], (rest2 p).1, (rest2 p).2, none, 0, rfl, Lib.hid ⟨rfl, rfl, by simp, by simp, h5l⟩, Hr5.out, HB4.out.only Ho5.out (by have := Hgl.out; have := Ho3.out.size; omega), NewS.none_ _ _, Ho5.out.mono (fun _ _ h => .inl h)⟩
    case round =>
      obtain ⟨m, acc, rest, bad, A1, c1, rfl, Hrd, hr, hB, hS, ho⟩ := hrel
      have Hr := Lib.hid hr
      have HB := Lib.hid hB
      have HS := Lib.hid hS
      have Ho := Lib.hid ho
      have h1 := hB.cell 1
      have h0 := hB.cell 0
      simp only [List.getElem?_toArray, List.getElem?_cons_zero, List.getElem?_cons_succ] at h0 h1
      clear hr hB hS ho
      have HEX : Hid ((m = 0 ∨ bad = true) → Calls Tryd.prog 36 #[.slice A p.length ca, .agg #[.int .i64 (first? p : Int), .slice A1 acc.length c1], .func (.func 10) #[] #[]] wr fun e w' => ∃ B' c', e = .returned (.tuple #[.agg #[.int .i64 Rf, .slice B' Rl.length c'], .int .i64 Re]) ∧ BtIn w' ⟨Rf, Rl⟩ B' c' ∧ (Rl = [] ∨ B' = A1) ∧ Below wr.heap.size wr w') := Lib.hid (fun he => by
        have h5 := (Hrd.out.end_ he).1
        have hg : got p N = ⟨(first? p : Int), acc⟩ := by rw [h5]; rfl
        have hb := HD.out wr Ho.out
        have hin : BtIn wr ⟨(first? p : Int), acc⟩ A1 c1 := ⟨⟨by have := first_le p; show -9223372036854775808 ≤ (first? p : Int); omega, by have := first_le p; show (first? p : Int) ≤ 9223372036854775807; omega⟩, by have := HS.out.cap; simpa using this, HS.out.max, HS.out.rd, fun s hs => by have := Hrd.out.each s hs; unfold maxLen; omega⟩
        have := taken_any p A ca ⟨(first? p : Int), acc⟩ A1 c1 wr (Ht.out.ext hb) (HA.out.ext hb) hp hin
        rw [show tak p ⟨(first? p : Int), acc⟩ = (⟨Rf, Rl⟩, Re) by rw [← hg]; exact Hres2.out.symm] at this
        unfold btV at this
        exact this)
      have HXr : Hid (Blk wr w.heap.size 24 #[.int .i64 0, .slice none 0 0]) := Lib.hid ((HX2.out.only H24.out (by have := Hgl.out; have := Hz.out; omega)).only Ho.out (by have := Hgl.out; have := Hz.out; have := Ho3.out.size; have := Hgl.out; omega))
      have Hbr := Lib.hid (HD.out wr Ho.out)
      by_cases hm : m = 0
      · subst hm
        have HC := Lib.hid (HEX.out (.inl rfl))
        clear HEX
        go_wp2_with fail
        refine HC.out.mono ?_
        rintro e w7 ⟨B7, c7, rfl, hin7, hap7, hb7⟩
        have hX := HXr.out.ext hb7
        have k0 := hX.cell 0
        have k1 := hX.cell 1
        have f0 := hX.free 0
        have f1 := hX.free 1
        have hY := hX.put 0 (.int .i64 Rf)
        have m0 := hY.cell 0
        have m1 := (hY.put 1 (.slice B7 Rl.length c7)).cell 1
        simp only [List.getElem?_toArray, List.setIfInBounds_toArray, List.set_cons_zero, List.set_cons_succ, List.getElem?_cons_zero, List.getElem?_cons_succ] at k0 k1 m0 m1
        have Hin7 := Lib.hid hin7
        have hxs : Below w7.heap.size w7 w7 := Below.refl _ _
        have Hbf : Hid (Below w.heap.size w ((w7.setCell ⟨w.heap.size, 0, none⟩ (.int .i64 Rf)).setCell ⟨w.heap.size, 1, none⟩ (.slice B7 Rl.length c7))) := Lib.hid (below_set (below_set (ext_trans Hbr.out hb7) (Nat.le_refl _) _) (Nat.le_refl _) _)
        have Hcf : Hid (BtIn ((w7.setCell ⟨w.heap.size, 0, none⟩ (.int .i64 Rf)).setCell ⟨w.heap.size, 1, none⟩ (.slice B7 Rl.length c7)) ⟨Rf, Rl⟩ B7 c7) := Lib.hid ⟨hin7.int, hin7.le, hin7.cap, by
          rcases hap7 with h | h
          · subst h; exact Rd.nil _ _
          · subst h
            have hne : ∀ ad, B7 = some ad → ad.block ≠ w.heap.size := fun ad e => by
              have := (HS.out.2 ad e).1
              have := HZ4.out
              have := Ho3.out.size
              have := Hgl.out
              have := Hz.out
              omega
            exact Rd.setCell (Rd.setCell hin7.rd hne _) hne _, hin7.each⟩
        clear hX hY hin7 hb7 hxs hap7
        go_wp2
        refine bodyPost_ret (v := .tuple #[.agg #[.int .i64 Rf, .slice B7 Rl.length c7], .int .i64 Re]) (by simp [results, Tryd.results13, go_sem, m0, m1]) rfl ?_
        exact ⟨B7, c7, rfl, Hcf.out, Hbf.out⟩
      have hmi : (0 : Int) < (m : Int) := by omega
      have hmd : decide ((0 : Int) < (m : Int)) = true := decide_eq_true hmi
      have hmn : decide (0 < m) = true := decide_eq_true (by omega)
      cases bad with
      | true =>
        have HC := Lib.hid (HEX.out (.inr rfl))
        clear HEX hm
        go_wp2_with fail
        refine (rgood _ g rest true wr Hr.out).mono ?_
        rintro e w' ⟨rfl, rfl⟩
        go_wp2_with fail
        refine HC.out.mono ?_
        rintro e w7 ⟨B7, c7, rfl, hin7, hap7, hb7⟩
        have hX := HXr.out.ext hb7
        have k0 := hX.cell 0
        have k1 := hX.cell 1
        have f0 := hX.free 0
        have f1 := hX.free 1
        have hY := hX.put 0 (.int .i64 Rf)
        have m0 := hY.cell 0
        have m1 := (hY.put 1 (.slice B7 Rl.length c7)).cell 1
        simp only [List.getElem?_toArray, List.setIfInBounds_toArray, List.set_cons_zero, List.set_cons_succ, List.getElem?_cons_zero, List.getElem?_cons_succ] at k0 k1 m0 m1
        have Hin7 := Lib.hid hin7
        have hxs : Below w7.heap.size w7 w7 := Below.refl _ _
        have Hbf : Hid (Below w.heap.size w ((w7.setCell ⟨w.heap.size, 0, none⟩ (.int .i64 Rf)).setCell ⟨w.heap.size, 1, none⟩ (.slice B7 Rl.length c7))) := Lib.hid (below_set (below_set (ext_trans Hbr.out hb7) (Nat.le_refl _) _) (Nat.le_refl _) _)
        have Hcf : Hid (BtIn ((w7.setCell ⟨w.heap.size, 0, none⟩ (.int .i64 Rf)).setCell ⟨w.heap.size, 1, none⟩ (.slice B7 Rl.length c7)) ⟨Rf, Rl⟩ B7 c7) := Lib.hid ⟨hin7.int, hin7.le, hin7.cap, by
          rcases hap7 with h | h
          · subst h; exact Rd.nil _ _
          · subst h
            have hne : ∀ ad, B7 = some ad → ad.block ≠ w.heap.size := fun ad e => by
              have := (HS.out.2 ad e).1
              have := HZ4.out
              have := Ho3.out.size
              have := Hgl.out
              have := Hz.out
              omega
            exact Rd.setCell (Rd.setCell hin7.rd hne _) hne _, hin7.each⟩
        clear hX hY hin7 hb7 hxs hap7
        go_wp2
        refine bodyPost_ret (v := .tuple #[.agg #[.int .i64 Rf, .slice B7 Rl.length c7], .int .i64 Re]) (by simp [results, Tryd.results13, go_sem, m0, m1]) rfl ?_
        exact ⟨B7, c7, rfl, Hcf.out, Hbf.out⟩
      | false =>
        clear HEX
        obtain ⟨k, hk⟩ : ∃ k, m = k + 1 := ⟨m - 1, by omega⟩
        have hk1 : IntKind.i64.wrap ((m : Int) - 1) = (k : Int) := by rw [show (m : Int) - 1 = (k : Int) by omega]; exact IntWalk.i64_in _ (by have := Hrd.out.len; have := HN65.out; omega)
        have HRs := Lib.hid (Rdg.step (by rw [← hk]; exact Hrd.out))
        have hal : acc.length + 1 ≤ 65 := by have := Hrd.out.len; have := HN65.out; omega
        have hk2 : acc.length + 1 ≤ maxLen := by unfold maxLen; omega
        have hk3 : (acc.length + 1) * 16 ≤ 140737488355328 := by omega
        have hrl : rest.length ≤ 1099511627776 := by have := Hrd.out.short; omega
        have HBY := Lib.hid (fun W (h : Rdr W (fun k => w1.heap.size ≤ k ∧ k < w2.heap.size) g rest false) => rbytes_st _ g rest false W h hrl)
        obtain ⟨⟨bs, rest', bad'⟩, hsb⟩ : ∃ q, stBytes rest false = q := ⟨_, rfl⟩
        rw [hsb] at HRs HBY
        simp only at HRs HBY
        have HK : Hid (∀ W, Only (fun k => k = g) wr W → Blk W w3.heap.size 24 #[.int .i64 (first? p : Int), .slice A1 acc.length c1]) := Lib.hid (fun W ho => HB.out.only ho (by have := Hgl.out; have := Ho3.out.size; omega))
        have HKS : Hid (∀ W, Only (fun k => k = g) wr W → W.cell? ⟨w3.heap.size, 1, none⟩ = some (.slice A1 acc.length c1)) := Lib.hid (fun W ho => by
          have := (HK.out W ho).cell 1
          simpa using this)
        have Hk := Lib.hid hk
        clear hk hsb hal hm
        go_wp2_with fail
        refine (rgood _ g rest false wr Hr.out).mono ?_
        rintro e w' ⟨rfl, rfl⟩
        go_wp2_with fail
        refine wp_region_held_drew (S := fun _ => True) (by kernel_rfl) ?_ (fun hHeld => ?_)
        · all_goals trivial
        refine wpAnyH_take (i := 0) (v := ?_) (take_list rfl) (by kernel_rfl) (by kernel_rfl) (by kernel_rfl) (fun _ _ _ h => h) (Or.inl ⟨by rfl, ?_⟩) (by assumption) ?_
        rotate_left
        · intro w hSw
          try dsimp only at hSw
          first | (go_simp; done) | (go_simp; with_reducible rfl)
        try simp only [Act.put, List.setIfInBounds_toArray, List.set_cons_zero, List.set_cons_succ]
        refine wpAnyH_take (i := 2) (v := ?_) (take_list rfl) (by kernel_rfl) (by kernel_rfl) (by kernel_rfl) (fun _ _ _ h => h) (Or.inl ⟨by rfl, ?_⟩) (by assumption) ?_
        rotate_left
        · intro w hSw
          try dsimp only at hSw
          first | (go_simp; done) | (go_simp; with_reducible rfl)
        try simp only [Act.put, List.setIfInBounds_toArray, List.set_cons_zero, List.set_cons_succ]
        refine wpAnyH_ready (rs := [1, 3]) (by kernel_rfl) (by simp) ?_
        refine AllReadyH.cons (take_list rfl) (fun K hK => ?_) ?_
        · skip
          have ql := HKS.out wr.drew ((Only.refl _ _).drew)
          go_simp
          clear ql
          refine hK.out _ _ ?_ (fun hHeld => ?_)
          · try dsimp only
            all_goals trivial
          clear hK K
          refine wpAnyH_ready (rs := [3]) (by kernel_rfl) (by simp) ?_
          refine AllReadyH.cons (take_list rfl) (fun K hK => ?_) ?_
          · skip
            go_simp
            refine (HBY.out wr.drew Hr.out).mono ?_
            rintro e x1 ⟨A2, c2, rfl, hn2, hr2, ho2⟩
            dsimp only
            have HO : Hid (Only (fun k => k = g) wr x1) := Lib.hid (((Only.refl _ _).drew).trans ho2 (fun _ _ h => h))
            have hcv := conv_bytes x1 A2 bs.length c2 bs rfl hn2.rd
            have Hr2 := Lib.hid hr2
            clear hr2 ho2 hn2
            refine hK.out _ _ ?_ (fun hHeld => ?_)
            · try dsimp only
              all_goals trivial
            clear hK K
            refine wpAnyH_ready (rs := [4]) (by kernel_rfl) (by simp) ?_
            refine AllReadyH.cons (take_list rfl) (fun K hK => ?_) ?_
            · skip
              refine step_convW rfl _ _ _ rfl _ _ rfl hcv ?_
              clear hcv
              refine hK.out _ _ ?_ (fun hHeld => ?_)
              · try dsimp only
                all_goals trivial
              clear hK K
              refine wpAnyH_ready (rs := [5]) (by kernel_rfl) (by simp) ?_
              refine AllReadyH.cons (take_list rfl) (fun K hK => ?_) ?_
              · skip
                go_simp
                refine hK.out _ _ ?_ (fun hHeld => ?_)
                · try dsimp only
                  all_goals trivial
                clear hK K
                refine wpAnyH_ready (rs := [6]) (by kernel_rfl) (by simp) ?_
                refine AllReadyH.cons (take_list rfl) (fun K hK => ?_) ?_
                · skip
                  refine step_appT rfl (.tmp 24) (.tmp 28) _ rfl _ _ 16 Tryd.underlying22 info_str rfl A1 acc.length c1 (acc.map strV) rfl (by rw [List.length_map]) ((HS.out.only HO.out (fun k hk h => by have := hk.1; have := HZ4.out; have := Ho3.out.size; have := Hgl.out; omega)).alloc _) (some ⟨x1.heap.size, 0, none⟩) 1 1 [strV bs] rfl rfl (Rd.lit x1 #[strV bs] _) (by intro u hu; simp at hu; rw [hu]; rfl) hk2 hk3 ?_
                  intro A3 c3 x2 hown3 honly3
                  have hB3 := ((HK.out x1 HO.out).alloc (.cells #[strV bs] 9)).only honly3 (by have := HZ4.out; omega)
                  have q1 := hB3.cell 1
                  have g1 := hB3.free 1
                  simp only [List.getElem?_toArray, List.getElem?_cons_zero, List.getElem?_cons_succ] at q1
                  have HB3 := Lib.hid hB3
                  have Hown3 := Lib.hid hown3
                  have Honly3 := Lib.hid honly3
                  clear hB3 hown3 honly3
                  refine hK.out _ _ ?_ (fun hHeld => ?_)
                  · try dsimp only
                    all_goals trivial
                  clear hK K
                  refine wpAnyH_take (i := 7) (v := ?_) (take_list rfl) (by kernel_rfl) (by kernel_rfl) (by kernel_rfl) (fun _ _ _ h => h) (Or.inl ⟨by rfl, ?_⟩) (by assumption) ?_
                  rotate_left
                  · intro w hSw
                    try dsimp only at hSw
                    first | (go_simp; done) | (go_simp; with_reducible rfl)
                  try simp only [Act.put, List.setIfInBounds_toArray, List.set_cons_zero, List.set_cons_succ]
                  refine wpAnyH_ready (rs := [8]) (by kernel_rfl) (by simp) ?_
                  refine AllReadyH.cons (take_list rfl) (fun K hK => ?_) ?_
                  · skip
                    go_simp
                    refine hK.out _ _ ?_ (fun hHeld => ?_)
                    · try dsimp only
                      all_goals trivial
                    clear hK K
                    refine wpAnyH_done (by kernel_rfl) ?_ _
                    go_wp2_with fail
                    go_roundw
                    case rel =>
                      obtain ⟨b1, b2, b3, b4⟩ := dec_round (g := g) (bs := bs) (by have := HZ4.out; omega) Ho.out HO.out HB3.out Hown3.out Honly3.out
                      exact ⟨k, acc ++ [bs], rest', bad', A3, c3, by go_num, HRs, Hr2.out.only b4 (fun k hk h => by have := hk.2; have := HZ4.out; have := Ho3.out.size; omega), b1, b2, b3⟩
                    case measure => simp [intOf]; have := Hk.out; omega
                  exact AllReadyH.nil
                exact AllReadyH.nil
              exact AllReadyH.nil
            exact AllReadyH.nil
          exact AllReadyH.nil
        refine AllReadyH.cons (take_list rfl) (fun K hK => ?_) ?_
        · skip
          go_simp
          refine (HBY.out wr.drew Hr.out).mono ?_
          rintro e x1 ⟨A2, c2, rfl, hn2, hr2, ho2⟩
          dsimp only
          have HO : Hid (Only (fun k => k = g) wr x1) := Lib.hid (((Only.refl _ _).drew).trans ho2 (fun _ _ h => h))
          have hcv := conv_bytes x1 A2 bs.length c2 bs rfl hn2.rd
          have Hr2 := Lib.hid hr2
          clear hr2 ho2 hn2
          refine hK.out _ _ ?_ (fun hHeld => ?_)
          · try dsimp only
            all_goals trivial
          clear hK K
          refine wpAnyH_ready (rs := [1, 4]) (by kernel_rfl) (by simp) ?_
          refine AllReadyH.cons (take_list rfl) (fun K hK => ?_) ?_
          · skip
            have ql := HKS.out x1 HO.out
            go_simp
            clear ql
            refine hK.out _ _ ?_ (fun hHeld => ?_)
            · try dsimp only
              all_goals trivial
            clear hK K
            refine wpAnyH_ready (rs := [4]) (by kernel_rfl) (by simp) ?_
            refine AllReadyH.cons (take_list rfl) (fun K hK => ?_) ?_
            · skip
              refine step_convW rfl _ _ _ rfl _ _ rfl hcv ?_
              clear hcv
              refine hK.out _ _ ?_ (fun hHeld => ?_)
              · try dsimp only
                all_goals trivial
              clear hK K
              refine wpAnyH_ready (rs := [5]) (by kernel_rfl) (by simp) ?_
              refine AllReadyH.cons (take_list rfl) (fun K hK => ?_) ?_
              · skip
                go_simp
                refine hK.out _ _ ?_ (fun hHeld => ?_)
                · try dsimp only
                  all_goals trivial
                clear hK K
                refine wpAnyH_ready (rs := [6]) (by kernel_rfl) (by simp) ?_
                refine AllReadyH.cons (take_list rfl) (fun K hK => ?_) ?_
                · skip
                  refine step_appT rfl (.tmp 24) (.tmp 28) _ rfl _ _ 16 Tryd.underlying22 info_str rfl A1 acc.length c1 (acc.map strV) rfl (by rw [List.length_map]) ((HS.out.only HO.out (fun k hk h => by have := hk.1; have := HZ4.out; have := Ho3.out.size; have := Hgl.out; omega)).alloc _) (some ⟨x1.heap.size, 0, none⟩) 1 1 [strV bs] rfl rfl (Rd.lit x1 #[strV bs] _) (by intro u hu; simp at hu; rw [hu]; rfl) hk2 hk3 ?_
                  intro A3 c3 x2 hown3 honly3
                  have hB3 := ((HK.out x1 HO.out).alloc (.cells #[strV bs] 9)).only honly3 (by have := HZ4.out; omega)
                  have q1 := hB3.cell 1
                  have g1 := hB3.free 1
                  simp only [List.getElem?_toArray, List.getElem?_cons_zero, List.getElem?_cons_succ] at q1
                  have HB3 := Lib.hid hB3
                  have Hown3 := Lib.hid hown3
                  have Honly3 := Lib.hid honly3
                  clear hB3 hown3 honly3
                  refine hK.out _ _ ?_ (fun hHeld => ?_)
                  · try dsimp only
                    all_goals trivial
                  clear hK K
                  refine wpAnyH_take (i := 7) (v := ?_) (take_list rfl) (by kernel_rfl) (by kernel_rfl) (by kernel_rfl) (fun _ _ _ h => h) (Or.inl ⟨by rfl, ?_⟩) (by assumption) ?_
                  rotate_left
                  · intro w hSw
                    try dsimp only at hSw
                    first | (go_simp; done) | (go_simp; with_reducible rfl)
                  try simp only [Act.put, List.setIfInBounds_toArray, List.set_cons_zero, List.set_cons_succ]
                  refine wpAnyH_ready (rs := [8]) (by kernel_rfl) (by simp) ?_
                  refine AllReadyH.cons (take_list rfl) (fun K hK => ?_) ?_
                  · skip
                    go_simp
                    refine hK.out _ _ ?_ (fun hHeld => ?_)
                    · try dsimp only
                      all_goals trivial
                    clear hK K
                    refine wpAnyH_done (by kernel_rfl) ?_ _
                    go_wp2_with fail
                    go_roundw
                    case rel =>
                      obtain ⟨b1, b2, b3, b4⟩ := dec_round (g := g) (bs := bs) (by have := HZ4.out; omega) Ho.out HO.out HB3.out Hown3.out Honly3.out
                      exact ⟨k, acc ++ [bs], rest', bad', A3, c3, by go_num, HRs, Hr2.out.only b4 (fun k hk h => by have := hk.2; have := HZ4.out; have := Ho3.out.size; omega), b1, b2, b3⟩
                    case measure => simp [intOf]; have := Hk.out; omega
                  exact AllReadyH.nil
                exact AllReadyH.nil
              exact AllReadyH.nil
            exact AllReadyH.nil
          refine AllReadyH.cons (take_list rfl) (fun K hK => ?_) ?_
          · skip
            refine step_convW rfl _ _ _ rfl _ _ rfl hcv ?_
            clear hcv
            refine hK.out _ _ ?_ (fun hHeld => ?_)
            · try dsimp only
              all_goals trivial
            clear hK K
            refine wpAnyH_ready (rs := [1, 5]) (by kernel_rfl) (by simp) ?_
            refine AllReadyH.cons (take_list rfl) (fun K hK => ?_) ?_
            · skip
              have ql := HKS.out x1 HO.out
              go_simp
              clear ql
              refine hK.out _ _ ?_ (fun hHeld => ?_)
              · try dsimp only
                all_goals trivial
              clear hK K
              refine wpAnyH_ready (rs := [5]) (by kernel_rfl) (by simp) ?_
              refine AllReadyH.cons (take_list rfl) (fun K hK => ?_) ?_
              · skip
                go_simp
                refine hK.out _ _ ?_ (fun hHeld => ?_)
                · try dsimp only
                  all_goals trivial
                clear hK K
                refine wpAnyH_ready (rs := [6]) (by kernel_rfl) (by simp) ?_
                refine AllReadyH.cons (take_list rfl) (fun K hK => ?_) ?_
                · skip
                  refine step_appT rfl (.tmp 24) (.tmp 28) _ rfl _ _ 16 Tryd.underlying22 info_str rfl A1 acc.length c1 (acc.map strV) rfl (by rw [List.length_map]) ((HS.out.only HO.out (fun k hk h => by have := hk.1; have := HZ4.out; have := Ho3.out.size; have := Hgl.out; omega)).alloc _) (some ⟨x1.heap.size, 0, none⟩) 1 1 [strV bs] rfl rfl (Rd.lit x1 #[strV bs] _) (by intro u hu; simp at hu; rw [hu]; rfl) hk2 hk3 ?_
                  intro A3 c3 x2 hown3 honly3
                  have hB3 := ((HK.out x1 HO.out).alloc (.cells #[strV bs] 9)).only honly3 (by have := HZ4.out; omega)
                  have q1 := hB3.cell 1
                  have g1 := hB3.free 1
                  simp only [List.getElem?_toArray, List.getElem?_cons_zero, List.getElem?_cons_succ] at q1
                  have HB3 := Lib.hid hB3
                  have Hown3 := Lib.hid hown3
                  have Honly3 := Lib.hid honly3
                  clear hB3 hown3 honly3
                  refine hK.out _ _ ?_ (fun hHeld => ?_)
                  · try dsimp only
                    all_goals trivial
                  clear hK K
                  refine wpAnyH_take (i := 7) (v := ?_) (take_list rfl) (by kernel_rfl) (by kernel_rfl) (by kernel_rfl) (fun _ _ _ h => h) (Or.inl ⟨by rfl, ?_⟩) (by assumption) ?_
                  rotate_left
                  · intro w hSw
                    try dsimp only at hSw
                    first | (go_simp; done) | (go_simp; with_reducible rfl)
                  try simp only [Act.put, List.setIfInBounds_toArray, List.set_cons_zero, List.set_cons_succ]
                  refine wpAnyH_ready (rs := [8]) (by kernel_rfl) (by simp) ?_
                  refine AllReadyH.cons (take_list rfl) (fun K hK => ?_) ?_
                  · skip
                    go_simp
                    refine hK.out _ _ ?_ (fun hHeld => ?_)
                    · try dsimp only
                      all_goals trivial
                    clear hK K
                    refine wpAnyH_done (by kernel_rfl) ?_ _
                    go_wp2_with fail
                    go_roundw
                    case rel =>
                      obtain ⟨b1, b2, b3, b4⟩ := dec_round (g := g) (bs := bs) (by have := HZ4.out; omega) Ho.out HO.out HB3.out Hown3.out Honly3.out
                      exact ⟨k, acc ++ [bs], rest', bad', A3, c3, by go_num, HRs, Hr2.out.only b4 (fun k hk h => by have := hk.2; have := HZ4.out; have := Ho3.out.size; omega), b1, b2, b3⟩
                    case measure => simp [intOf]; have := Hk.out; omega
                  exact AllReadyH.nil
                exact AllReadyH.nil
              exact AllReadyH.nil
            refine AllReadyH.cons (take_list rfl) (fun K hK => ?_) ?_
            · skip
              go_simp
              refine hK.out _ _ ?_ (fun hHeld => ?_)
              · try dsimp only
                all_goals trivial
              clear hK K
              refine wpAnyH_ready (rs := [1]) (by kernel_rfl) (by simp) ?_
              refine AllReadyH.cons (take_list rfl) (fun K hK => ?_) ?_
              · skip
                have ql := HKS.out _ (HO.out.alloc (.cells #[.string ⟨bs.toArray⟩] 9))
                go_simp
                clear ql
                refine hK.out _ _ ?_ (fun hHeld => ?_)
                · try dsimp only
                  all_goals trivial
                clear hK K
                refine wpAnyH_ready (rs := [6]) (by kernel_rfl) (by simp) ?_
                refine AllReadyH.cons (take_list rfl) (fun K hK => ?_) ?_
                · skip
                  refine step_appT rfl (.tmp 24) (.tmp 28) _ rfl _ _ 16 Tryd.underlying22 info_str rfl A1 acc.length c1 (acc.map strV) rfl (by rw [List.length_map]) ((HS.out.only HO.out (fun k hk h => by have := hk.1; have := HZ4.out; have := Ho3.out.size; have := Hgl.out; omega)).alloc _) (some ⟨x1.heap.size, 0, none⟩) 1 1 [strV bs] rfl rfl (Rd.lit x1 #[strV bs] _) (by intro u hu; simp at hu; rw [hu]; rfl) hk2 hk3 ?_
                  intro A3 c3 x2 hown3 honly3
                  have hB3 := ((HK.out x1 HO.out).alloc (.cells #[strV bs] 9)).only honly3 (by have := HZ4.out; omega)
                  have q1 := hB3.cell 1
                  have g1 := hB3.free 1
                  simp only [List.getElem?_toArray, List.getElem?_cons_zero, List.getElem?_cons_succ] at q1
                  have HB3 := Lib.hid hB3
                  have Hown3 := Lib.hid hown3
                  have Honly3 := Lib.hid honly3
                  clear hB3 hown3 honly3
                  refine hK.out _ _ ?_ (fun hHeld => ?_)
                  · try dsimp only
                    all_goals trivial
                  clear hK K
                  refine wpAnyH_take (i := 7) (v := ?_) (take_list rfl) (by kernel_rfl) (by kernel_rfl) (by kernel_rfl) (fun _ _ _ h => h) (Or.inl ⟨by rfl, ?_⟩) (by assumption) ?_
                  rotate_left
                  · intro w hSw
                    try dsimp only at hSw
                    first | (go_simp; done) | (go_simp; with_reducible rfl)
                  try simp only [Act.put, List.setIfInBounds_toArray, List.set_cons_zero, List.set_cons_succ]
                  refine wpAnyH_ready (rs := [8]) (by kernel_rfl) (by simp) ?_
                  refine AllReadyH.cons (take_list rfl) (fun K hK => ?_) ?_
                  · skip
                    go_simp
                    refine hK.out _ _ ?_ (fun hHeld => ?_)
                    · try dsimp only
                      all_goals trivial
                    clear hK K
                    refine wpAnyH_done (by kernel_rfl) ?_ _
                    go_wp2_with fail
                    go_roundw
                    case rel =>
                      obtain ⟨b1, b2, b3, b4⟩ := dec_round (g := g) (bs := bs) (by have := HZ4.out; omega) Ho.out HO.out HB3.out Hown3.out Honly3.out
                      exact ⟨k, acc ++ [bs], rest', bad', A3, c3, by go_num, HRs, Hr2.out.only b4 (fun k hk h => by have := hk.2; have := HZ4.out; have := Ho3.out.size; omega), b1, b2, b3⟩
                    case measure => simp [intOf]; have := Hk.out; omega
                  exact AllReadyH.nil
                exact AllReadyH.nil
              exact AllReadyH.nil
            exact AllReadyH.nil
          exact AllReadyH.nil
        exact AllReadyH.nil
  · have hqi : 65 < (n : Int) := by omega
    go_wp2_with fail
    go_loopw [6] (fun i wr => ∃ (m : Nat) (acc : List (List UInt8)) (rest : List UInt8) (bad : Bool) (A1 : Option Addr) (c1 : Nat), i = .int .i64 (m : Int) ∧ Hid (Rdg p 65 m acc rest bad) ∧ Rdr wr (fun k => w1.heap.size ≤ k ∧ k < w2.heap.size) g rest bad ∧ Blk wr w3.heap.size 24 #[.int .i64 (first? p : Int), .slice A1 acc.length c1] ∧ NewS W4 wr A1 c1 acc ∧ Only (fun k => k = g ∨ k = w3.heap.size) W4 wr) (fun i _ => (intOf i).toNat)
    case atStart => exact ⟨65, [], (rest2 p).1, (rest2 p).2, none, 0, rfl, Lib.hid ⟨rfl, rfl, by simp, by simp, h5l⟩, Hr5.out, HB4.out.only Ho5.out (by have := Hgl.out; have := Ho3.out.size; omega), NewS.none_ _ _, Ho5.out.mono (fun _ _ h => .inl h)⟩
    case round =>
      obtain ⟨m, acc, rest, bad, A1, c1, rfl, Hrd, hr, hB, hS, ho⟩ := hrel
      have Hr := Lib.hid hr
      have HB := Lib.hid hB
      have HS := Lib.hid hS
      have Ho := Lib.hid ho
      have h1 := hB.cell 1
      have h0 := hB.cell 0
      simp only [List.getElem?_toArray, List.getElem?_cons_zero, List.getElem?_cons_succ] at h0 h1
      clear hr hB hS ho
      have HEX : Hid ((m = 0 ∨ bad = true) → Calls Tryd.prog 36 #[.slice A p.length ca, .agg #[.int .i64 (first? p : Int), .slice A1 acc.length c1], .func (.func 10) #[] #[]] wr fun e w' => ∃ B' c', e = .returned (.tuple #[.agg #[.int .i64 Rf, .slice B' Rl.length c'], .int .i64 Re]) ∧ BtIn w' ⟨Rf, Rl⟩ B' c' ∧ (Rl = [] ∨ B' = A1) ∧ Below wr.heap.size wr w') := Lib.hid (fun he => by
        have h5 := (Hrd.out.end_ he).1
        have hg : got p 65 = ⟨(first? p : Int), acc⟩ := by rw [h5]; rfl
        have hb := HD.out wr Ho.out
        have hin : BtIn wr ⟨(first? p : Int), acc⟩ A1 c1 := ⟨⟨by have := first_le p; show -9223372036854775808 ≤ (first? p : Int); omega, by have := first_le p; show (first? p : Int) ≤ 9223372036854775807; omega⟩, by have := HS.out.cap; simpa using this, HS.out.max, HS.out.rd, fun s hs => by have := Hrd.out.each s hs; unfold maxLen; omega⟩
        have := taken_any p A ca ⟨(first? p : Int), acc⟩ A1 c1 wr (Ht.out.ext hb) (HA.out.ext hb) hp hin
        rw [show tak p ⟨(first? p : Int), acc⟩ = (⟨Rf, Rl⟩, Re) by rw [← hg]; exact Hres2.out.symm] at this
        unfold btV at this
        exact this)
      have HXr : Hid (Blk wr w.heap.size 24 #[.int .i64 0, .slice none 0 0]) := Lib.hid ((HX2.out.only H24.out (by have := Hgl.out; have := Hz.out; omega)).only Ho.out (by have := Hgl.out; have := Hz.out; have := Ho3.out.size; have := Hgl.out; omega))
      have Hbr := Lib.hid (HD.out wr Ho.out)
      by_cases hm : m = 0
      · subst hm
        have HC := Lib.hid (HEX.out (.inl rfl))
        clear HEX
        go_wp2_with fail
        refine HC.out.mono ?_
        rintro e w7 ⟨B7, c7, rfl, hin7, hap7, hb7⟩
        have hX := HXr.out.ext hb7
        have k0 := hX.cell 0
        have k1 := hX.cell 1
        have f0 := hX.free 0
        have f1 := hX.free 1
        have hY := hX.put 0 (.int .i64 Rf)
        have m0 := hY.cell 0
        have m1 := (hY.put 1 (.slice B7 Rl.length c7)).cell 1
        simp only [List.getElem?_toArray, List.setIfInBounds_toArray, List.set_cons_zero, List.set_cons_succ, List.getElem?_cons_zero, List.getElem?_cons_succ] at k0 k1 m0 m1
        have Hin7 := Lib.hid hin7
        have hxs : Below w7.heap.size w7 w7 := Below.refl _ _
        have Hbf : Hid (Below w.heap.size w ((w7.setCell ⟨w.heap.size, 0, none⟩ (.int .i64 Rf)).setCell ⟨w.heap.size, 1, none⟩ (.slice B7 Rl.length c7))) := Lib.hid (below_set (below_set (ext_trans Hbr.out hb7) (Nat.le_refl _) _) (Nat.le_refl _) _)
        have Hcf : Hid (BtIn ((w7.setCell ⟨w.heap.size, 0, none⟩ (.int .i64 Rf)).setCell ⟨w.heap.size, 1, none⟩ (.slice B7 Rl.length c7)) ⟨Rf, Rl⟩ B7 c7) := Lib.hid ⟨hin7.int, hin7.le, hin7.cap, by
          rcases hap7 with h | h
          · subst h; exact Rd.nil _ _
          · subst h
            have hne : ∀ ad, B7 = some ad → ad.block ≠ w.heap.size := fun ad e => by
              have := (HS.out.2 ad e).1
              have := HZ4.out
              have := Ho3.out.size
              have := Hgl.out
              have := Hz.out
              omega
            exact Rd.setCell (Rd.setCell hin7.rd hne _) hne _, hin7.each⟩
        clear hX hY hin7 hb7 hxs hap7
        go_wp2
        refine bodyPost_ret (v := .tuple #[.agg #[.int .i64 Rf, .slice B7 Rl.length c7], .int .i64 Re]) (by simp [results, Tryd.results13, go_sem, m0, m1]) rfl ?_
        exact ⟨B7, c7, rfl, Hcf.out, Hbf.out⟩
      have hmi : (0 : Int) < (m : Int) := by omega
      have hmd : decide ((0 : Int) < (m : Int)) = true := decide_eq_true hmi
      have hmn : decide (0 < m) = true := decide_eq_true (by omega)
      cases bad with
      | true =>
        have HC := Lib.hid (HEX.out (.inr rfl))
        clear HEX hm
        go_wp2_with fail
        refine (rgood _ g rest true wr Hr.out).mono ?_
        rintro e w' ⟨rfl, rfl⟩
        go_wp2_with fail
        refine HC.out.mono ?_
        rintro e w7 ⟨B7, c7, rfl, hin7, hap7, hb7⟩
        have hX := HXr.out.ext hb7
        have k0 := hX.cell 0
        have k1 := hX.cell 1
        have f0 := hX.free 0
        have f1 := hX.free 1
        have hY := hX.put 0 (.int .i64 Rf)
        have m0 := hY.cell 0
        have m1 := (hY.put 1 (.slice B7 Rl.length c7)).cell 1
        simp only [List.getElem?_toArray, List.setIfInBounds_toArray, List.set_cons_zero, List.set_cons_succ, List.getElem?_cons_zero, List.getElem?_cons_succ] at k0 k1 m0 m1
        have Hin7 := Lib.hid hin7
        have hxs : Below w7.heap.size w7 w7 := Below.refl _ _
        have Hbf : Hid (Below w.heap.size w ((w7.setCell ⟨w.heap.size, 0, none⟩ (.int .i64 Rf)).setCell ⟨w.heap.size, 1, none⟩ (.slice B7 Rl.length c7))) := Lib.hid (below_set (below_set (ext_trans Hbr.out hb7) (Nat.le_refl _) _) (Nat.le_refl _) _)
        have Hcf : Hid (BtIn ((w7.setCell ⟨w.heap.size, 0, none⟩ (.int .i64 Rf)).setCell ⟨w.heap.size, 1, none⟩ (.slice B7 Rl.length c7)) ⟨Rf, Rl⟩ B7 c7) := Lib.hid ⟨hin7.int, hin7.le, hin7.cap, by
          rcases hap7 with h | h
          · subst h; exact Rd.nil _ _
          · subst h
            have hne : ∀ ad, B7 = some ad → ad.block ≠ w.heap.size := fun ad e => by
              have := (HS.out.2 ad e).1
              have := HZ4.out
              have := Ho3.out.size
              have := Hgl.out
              have := Hz.out
              omega
            exact Rd.setCell (Rd.setCell hin7.rd hne _) hne _, hin7.each⟩
        clear hX hY hin7 hb7 hxs hap7
        go_wp2
        refine bodyPost_ret (v := .tuple #[.agg #[.int .i64 Rf, .slice B7 Rl.length c7], .int .i64 Re]) (by simp [results, Tryd.results13, go_sem, m0, m1]) rfl ?_
        exact ⟨B7, c7, rfl, Hcf.out, Hbf.out⟩
      | false =>
        clear HEX
        obtain ⟨k, hk⟩ : ∃ k, m = k + 1 := ⟨m - 1, by omega⟩
        have hk1 : IntKind.i64.wrap ((m : Int) - 1) = (k : Int) := by rw [show (m : Int) - 1 = (k : Int) by omega]; exact IntWalk.i64_in _ (by have := Hrd.out.len; have := HN65.out; omega)
        have HRs := Lib.hid (Rdg.step (by rw [← hk]; exact Hrd.out))
        have hal : acc.length + 1 ≤ 65 := by have := Hrd.out.len; have := HN65.out; omega
        have hk2 : acc.length + 1 ≤ maxLen := by unfold maxLen; omega
        have hk3 : (acc.length + 1) * 16 ≤ 140737488355328 := by omega
        have hrl : rest.length ≤ 1099511627776 := by have := Hrd.out.short; omega
        have HBY := Lib.hid (fun W (h : Rdr W (fun k => w1.heap.size ≤ k ∧ k < w2.heap.size) g rest false) => rbytes_st _ g rest false W h hrl)
        obtain ⟨⟨bs, rest', bad'⟩, hsb⟩ : ∃ q, stBytes rest false = q := ⟨_, rfl⟩
        rw [hsb] at HRs HBY
        simp only at HRs HBY
        have HK : Hid (∀ W, Only (fun k => k = g) wr W → Blk W w3.heap.size 24 #[.int .i64 (first? p : Int), .slice A1 acc.length c1]) := Lib.hid (fun W ho => HB.out.only ho (by have := Hgl.out; have := Ho3.out.size; omega))
        have HKS : Hid (∀ W, Only (fun k => k = g) wr W → W.cell? ⟨w3.heap.size, 1, none⟩ = some (.slice A1 acc.length c1)) := Lib.hid (fun W ho => by
          have := (HK.out W ho).cell 1
          simpa using this)
        have Hk := Lib.hid hk
        clear hk hsb hal hm
        go_wp2_with fail
        refine (rgood _ g rest false wr Hr.out).mono ?_
        rintro e w' ⟨rfl, rfl⟩
        go_wp2_with fail
        refine wp_region_held_drew (S := fun _ => True) (by kernel_rfl) ?_ (fun hHeld => ?_)
        · all_goals trivial
        refine wpAnyH_take (i := 0) (v := ?_) (take_list rfl) (by kernel_rfl) (by kernel_rfl) (by kernel_rfl) (fun _ _ _ h => h) (Or.inl ⟨by rfl, ?_⟩) (by assumption) ?_
        rotate_left
        · intro w hSw
          try dsimp only at hSw
          first | (go_simp; done) | (go_simp; with_reducible rfl)
        try simp only [Act.put, List.setIfInBounds_toArray, List.set_cons_zero, List.set_cons_succ]
        refine wpAnyH_take (i := 2) (v := ?_) (take_list rfl) (by kernel_rfl) (by kernel_rfl) (by kernel_rfl) (fun _ _ _ h => h) (Or.inl ⟨by rfl, ?_⟩) (by assumption) ?_
        rotate_left
        · intro w hSw
          try dsimp only at hSw
          first | (go_simp; done) | (go_simp; with_reducible rfl)
        try simp only [Act.put, List.setIfInBounds_toArray, List.set_cons_zero, List.set_cons_succ]
        refine wpAnyH_ready (rs := [1, 3]) (by kernel_rfl) (by simp) ?_
        refine AllReadyH.cons (take_list rfl) (fun K hK => ?_) ?_
        · skip
          have ql := HKS.out wr.drew ((Only.refl _ _).drew)
          go_simp
          clear ql
          refine hK.out _ _ ?_ (fun hHeld => ?_)
          · try dsimp only
            all_goals trivial
          clear hK K
          refine wpAnyH_ready (rs := [3]) (by kernel_rfl) (by simp) ?_
          refine AllReadyH.cons (take_list rfl) (fun K hK => ?_) ?_
          · skip
            go_simp
            refine (HBY.out wr.drew Hr.out).mono ?_
            rintro e x1 ⟨A2, c2, rfl, hn2, hr2, ho2⟩
            dsimp only
            have HO : Hid (Only (fun k => k = g) wr x1) := Lib.hid (((Only.refl _ _).drew).trans ho2 (fun _ _ h => h))
            have hcv := conv_bytes x1 A2 bs.length c2 bs rfl hn2.rd
            have Hr2 := Lib.hid hr2
            clear hr2 ho2 hn2
            refine hK.out _ _ ?_ (fun hHeld => ?_)
            · try dsimp only
              all_goals trivial
            clear hK K
            refine wpAnyH_ready (rs := [4]) (by kernel_rfl) (by simp) ?_
            refine AllReadyH.cons (take_list rfl) (fun K hK => ?_) ?_
            · skip
              refine step_convW rfl _ _ _ rfl _ _ rfl hcv ?_
              clear hcv
              refine hK.out _ _ ?_ (fun hHeld => ?_)
              · try dsimp only
                all_goals trivial
              clear hK K
              refine wpAnyH_ready (rs := [5]) (by kernel_rfl) (by simp) ?_
              refine AllReadyH.cons (take_list rfl) (fun K hK => ?_) ?_
              · skip
                go_simp
                refine hK.out _ _ ?_ (fun hHeld => ?_)
                · try dsimp only
                  all_goals trivial
                clear hK K
                refine wpAnyH_ready (rs := [6]) (by kernel_rfl) (by simp) ?_
                refine AllReadyH.cons (take_list rfl) (fun K hK => ?_) ?_
                · skip
                  refine step_appT rfl (.tmp 24) (.tmp 28) _ rfl _ _ 16 Tryd.underlying22 info_str rfl A1 acc.length c1 (acc.map strV) rfl (by rw [List.length_map]) ((HS.out.only HO.out (fun k hk h => by have := hk.1; have := HZ4.out; have := Ho3.out.size; have := Hgl.out; omega)).alloc _) (some ⟨x1.heap.size, 0, none⟩) 1 1 [strV bs] rfl rfl (Rd.lit x1 #[strV bs] _) (by intro u hu; simp at hu; rw [hu]; rfl) hk2 hk3 ?_
                  intro A3 c3 x2 hown3 honly3
                  have hB3 := ((HK.out x1 HO.out).alloc (.cells #[strV bs] 9)).only honly3 (by have := HZ4.out; omega)
                  have q1 := hB3.cell 1
                  have g1 := hB3.free 1
                  simp only [List.getElem?_toArray, List.getElem?_cons_zero, List.getElem?_cons_succ] at q1
                  have HB3 := Lib.hid hB3
                  have Hown3 := Lib.hid hown3
                  have Honly3 := Lib.hid honly3
                  clear hB3 hown3 honly3
                  refine hK.out _ _ ?_ (fun hHeld => ?_)
                  · try dsimp only
                    all_goals trivial
                  clear hK K
                  refine wpAnyH_take (i := 7) (v := ?_) (take_list rfl) (by kernel_rfl) (by kernel_rfl) (by kernel_rfl) (fun _ _ _ h => h) (Or.inl ⟨by rfl, ?_⟩) (by assumption) ?_
                  rotate_left
                  · intro w hSw
                    try dsimp only at hSw
                    first | (go_simp; done) | (go_simp; with_reducible rfl)
                  try simp only [Act.put, List.setIfInBounds_toArray, List.set_cons_zero, List.set_cons_succ]
                  refine wpAnyH_ready (rs := [8]) (by kernel_rfl) (by simp) ?_
                  refine AllReadyH.cons (take_list rfl) (fun K hK => ?_) ?_
                  · skip
                    go_simp
                    refine hK.out _ _ ?_ (fun hHeld => ?_)
                    · try dsimp only
                      all_goals trivial
                    clear hK K
                    refine wpAnyH_done (by kernel_rfl) ?_ _
                    go_wp2_with fail
                    go_roundw
                    case rel =>
                      obtain ⟨b1, b2, b3, b4⟩ := dec_round (g := g) (bs := bs) (by have := HZ4.out; omega) Ho.out HO.out HB3.out Hown3.out Honly3.out
                      exact ⟨k, acc ++ [bs], rest', bad', A3, c3, by go_num, HRs, Hr2.out.only b4 (fun k hk h => by have := hk.2; have := HZ4.out; have := Ho3.out.size; omega), b1, b2, b3⟩
                    case measure => simp [intOf]; have := Hk.out; omega
                  exact AllReadyH.nil
                exact AllReadyH.nil
              exact AllReadyH.nil
            exact AllReadyH.nil
          exact AllReadyH.nil
        refine AllReadyH.cons (take_list rfl) (fun K hK => ?_) ?_
        · skip
          go_simp
          refine (HBY.out wr.drew Hr.out).mono ?_
          rintro e x1 ⟨A2, c2, rfl, hn2, hr2, ho2⟩
          dsimp only
          have HO : Hid (Only (fun k => k = g) wr x1) := Lib.hid (((Only.refl _ _).drew).trans ho2 (fun _ _ h => h))
          have hcv := conv_bytes x1 A2 bs.length c2 bs rfl hn2.rd
          have Hr2 := Lib.hid hr2
          clear hr2 ho2 hn2
          refine hK.out _ _ ?_ (fun hHeld => ?_)
          · try dsimp only
            all_goals trivial
          clear hK K
          refine wpAnyH_ready (rs := [1, 4]) (by kernel_rfl) (by simp) ?_
          refine AllReadyH.cons (take_list rfl) (fun K hK => ?_) ?_
          · skip
            have ql := HKS.out x1 HO.out
            go_simp
            clear ql
            refine hK.out _ _ ?_ (fun hHeld => ?_)
            · try dsimp only
              all_goals trivial
            clear hK K
            refine wpAnyH_ready (rs := [4]) (by kernel_rfl) (by simp) ?_
            refine AllReadyH.cons (take_list rfl) (fun K hK => ?_) ?_
            · skip
              refine step_convW rfl _ _ _ rfl _ _ rfl hcv ?_
              clear hcv
              refine hK.out _ _ ?_ (fun hHeld => ?_)
              · try dsimp only
                all_goals trivial
              clear hK K
              refine wpAnyH_ready (rs := [5]) (by kernel_rfl) (by simp) ?_
              refine AllReadyH.cons (take_list rfl) (fun K hK => ?_) ?_
              · skip
                go_simp
                refine hK.out _ _ ?_ (fun hHeld => ?_)
                · try dsimp only
                  all_goals trivial
                clear hK K
                refine wpAnyH_ready (rs := [6]) (by kernel_rfl) (by simp) ?_
                refine AllReadyH.cons (take_list rfl) (fun K hK => ?_) ?_
                · skip
                  refine step_appT rfl (.tmp 24) (.tmp 28) _ rfl _ _ 16 Tryd.underlying22 info_str rfl A1 acc.length c1 (acc.map strV) rfl (by rw [List.length_map]) ((HS.out.only HO.out (fun k hk h => by have := hk.1; have := HZ4.out; have := Ho3.out.size; have := Hgl.out; omega)).alloc _) (some ⟨x1.heap.size, 0, none⟩) 1 1 [strV bs] rfl rfl (Rd.lit x1 #[strV bs] _) (by intro u hu; simp at hu; rw [hu]; rfl) hk2 hk3 ?_
                  intro A3 c3 x2 hown3 honly3
                  have hB3 := ((HK.out x1 HO.out).alloc (.cells #[strV bs] 9)).only honly3 (by have := HZ4.out; omega)
                  have q1 := hB3.cell 1
                  have g1 := hB3.free 1
                  simp only [List.getElem?_toArray, List.getElem?_cons_zero, List.getElem?_cons_succ] at q1
                  have HB3 := Lib.hid hB3
                  have Hown3 := Lib.hid hown3
                  have Honly3 := Lib.hid honly3
                  clear hB3 hown3 honly3
                  refine hK.out _ _ ?_ (fun hHeld => ?_)
                  · try dsimp only
                    all_goals trivial
                  clear hK K
                  refine wpAnyH_take (i := 7) (v := ?_) (take_list rfl) (by kernel_rfl) (by kernel_rfl) (by kernel_rfl) (fun _ _ _ h => h) (Or.inl ⟨by rfl, ?_⟩) (by assumption) ?_
                  rotate_left
                  · intro w hSw
                    try dsimp only at hSw
                    first | (go_simp; done) | (go_simp; with_reducible rfl)
                  try simp only [Act.put, List.setIfInBounds_toArray, List.set_cons_zero, List.set_cons_succ]
                  refine wpAnyH_ready (rs := [8]) (by kernel_rfl) (by simp) ?_
                  refine AllReadyH.cons (take_list rfl) (fun K hK => ?_) ?_
                  · skip
                    go_simp
                    refine hK.out _ _ ?_ (fun hHeld => ?_)
                    · try dsimp only
                      all_goals trivial
                    clear hK K
                    refine wpAnyH_done (by kernel_rfl) ?_ _
                    go_wp2_with fail
                    go_roundw
                    case rel =>
                      obtain ⟨b1, b2, b3, b4⟩ := dec_round (g := g) (bs := bs) (by have := HZ4.out; omega) Ho.out HO.out HB3.out Hown3.out Honly3.out
                      exact ⟨k, acc ++ [bs], rest', bad', A3, c3, by go_num, HRs, Hr2.out.only b4 (fun k hk h => by have := hk.2; have := HZ4.out; have := Ho3.out.size; omega), b1, b2, b3⟩
                    case measure => simp [intOf]; have := Hk.out; omega
                  exact AllReadyH.nil
                exact AllReadyH.nil
              exact AllReadyH.nil
            exact AllReadyH.nil
          refine AllReadyH.cons (take_list rfl) (fun K hK => ?_) ?_
          · skip
            refine step_convW rfl _ _ _ rfl _ _ rfl hcv ?_
            clear hcv
            refine hK.out _ _ ?_ (fun hHeld => ?_)
            · try dsimp only
              all_goals trivial
            clear hK K
            refine wpAnyH_ready (rs := [1, 5]) (by kernel_rfl) (by simp) ?_
            refine AllReadyH.cons (take_list rfl) (fun K hK => ?_) ?_
            · skip
              have ql := HKS.out x1 HO.out
              go_simp
              clear ql
              refine hK.out _ _ ?_ (fun hHeld => ?_)
              · try dsimp only
                all_goals trivial
              clear hK K
              refine wpAnyH_ready (rs := [5]) (by kernel_rfl) (by simp) ?_
              refine AllReadyH.cons (take_list rfl) (fun K hK => ?_) ?_
              · skip
                go_simp
                refine hK.out _ _ ?_ (fun hHeld => ?_)
                · try dsimp only
                  all_goals trivial
                clear hK K
                refine wpAnyH_ready (rs := [6]) (by kernel_rfl) (by simp) ?_
                refine AllReadyH.cons (take_list rfl) (fun K hK => ?_) ?_
                · skip
                  refine step_appT rfl (.tmp 24) (.tmp 28) _ rfl _ _ 16 Tryd.underlying22 info_str rfl A1 acc.length c1 (acc.map strV) rfl (by rw [List.length_map]) ((HS.out.only HO.out (fun k hk h => by have := hk.1; have := HZ4.out; have := Ho3.out.size; have := Hgl.out; omega)).alloc _) (some ⟨x1.heap.size, 0, none⟩) 1 1 [strV bs] rfl rfl (Rd.lit x1 #[strV bs] _) (by intro u hu; simp at hu; rw [hu]; rfl) hk2 hk3 ?_
                  intro A3 c3 x2 hown3 honly3
                  have hB3 := ((HK.out x1 HO.out).alloc (.cells #[strV bs] 9)).only honly3 (by have := HZ4.out; omega)
                  have q1 := hB3.cell 1
                  have g1 := hB3.free 1
                  simp only [List.getElem?_toArray, List.getElem?_cons_zero, List.getElem?_cons_succ] at q1
                  have HB3 := Lib.hid hB3
                  have Hown3 := Lib.hid hown3
                  have Honly3 := Lib.hid honly3
                  clear hB3 hown3 honly3
                  refine hK.out _ _ ?_ (fun hHeld => ?_)
                  · try dsimp only
                    all_goals trivial
                  clear hK K
                  refine wpAnyH_take (i := 7) (v := ?_) (take_list rfl) (by kernel_rfl) (by kernel_rfl) (by kernel_rfl) (fun _ _ _ h => h) (Or.inl ⟨by rfl, ?_⟩) (by assumption) ?_
                  rotate_left
                  · intro w hSw
                    try dsimp only at hSw
                    first | (go_simp; done) | (go_simp; with_reducible rfl)
                  try simp only [Act.put, List.setIfInBounds_toArray, List.set_cons_zero, List.set_cons_succ]
                  refine wpAnyH_ready (rs := [8]) (by kernel_rfl) (by simp) ?_
                  refine AllReadyH.cons (take_list rfl) (fun K hK => ?_) ?_
                  · skip
                    go_simp
                    refine hK.out _ _ ?_ (fun hHeld => ?_)
                    · try dsimp only
                      all_goals trivial
                    clear hK K
                    refine wpAnyH_done (by kernel_rfl) ?_ _
                    go_wp2_with fail
                    go_roundw
                    case rel =>
                      obtain ⟨b1, b2, b3, b4⟩ := dec_round (g := g) (bs := bs) (by have := HZ4.out; omega) Ho.out HO.out HB3.out Hown3.out Honly3.out
                      exact ⟨k, acc ++ [bs], rest', bad', A3, c3, by go_num, HRs, Hr2.out.only b4 (fun k hk h => by have := hk.2; have := HZ4.out; have := Ho3.out.size; omega), b1, b2, b3⟩
                    case measure => simp [intOf]; have := Hk.out; omega
                  exact AllReadyH.nil
                exact AllReadyH.nil
              exact AllReadyH.nil
            refine AllReadyH.cons (take_list rfl) (fun K hK => ?_) ?_
            · skip
              go_simp
              refine hK.out _ _ ?_ (fun hHeld => ?_)
              · try dsimp only
                all_goals trivial
              clear hK K
              refine wpAnyH_ready (rs := [1]) (by kernel_rfl) (by simp) ?_
              refine AllReadyH.cons (take_list rfl) (fun K hK => ?_) ?_
              · skip
                have ql := HKS.out _ (HO.out.alloc (.cells #[.string ⟨bs.toArray⟩] 9))
                go_simp
                clear ql
                refine hK.out _ _ ?_ (fun hHeld => ?_)
                · try dsimp only
                  all_goals trivial
                clear hK K
                refine wpAnyH_ready (rs := [6]) (by kernel_rfl) (by simp) ?_
                refine AllReadyH.cons (take_list rfl) (fun K hK => ?_) ?_
                · skip
                  refine step_appT rfl (.tmp 24) (.tmp 28) _ rfl _ _ 16 Tryd.underlying22 info_str rfl A1 acc.length c1 (acc.map strV) rfl (by rw [List.length_map]) ((HS.out.only HO.out (fun k hk h => by have := hk.1; have := HZ4.out; have := Ho3.out.size; have := Hgl.out; omega)).alloc _) (some ⟨x1.heap.size, 0, none⟩) 1 1 [strV bs] rfl rfl (Rd.lit x1 #[strV bs] _) (by intro u hu; simp at hu; rw [hu]; rfl) hk2 hk3 ?_
                  intro A3 c3 x2 hown3 honly3
                  have hB3 := ((HK.out x1 HO.out).alloc (.cells #[strV bs] 9)).only honly3 (by have := HZ4.out; omega)
                  have q1 := hB3.cell 1
                  have g1 := hB3.free 1
                  simp only [List.getElem?_toArray, List.getElem?_cons_zero, List.getElem?_cons_succ] at q1
                  have HB3 := Lib.hid hB3
                  have Hown3 := Lib.hid hown3
                  have Honly3 := Lib.hid honly3
                  clear hB3 hown3 honly3
                  refine hK.out _ _ ?_ (fun hHeld => ?_)
                  · try dsimp only
                    all_goals trivial
                  clear hK K
                  refine wpAnyH_take (i := 7) (v := ?_) (take_list rfl) (by kernel_rfl) (by kernel_rfl) (by kernel_rfl) (fun _ _ _ h => h) (Or.inl ⟨by rfl, ?_⟩) (by assumption) ?_
                  rotate_left
                  · intro w hSw
                    try dsimp only at hSw
                    first | (go_simp; done) | (go_simp; with_reducible rfl)
                  try simp only [Act.put, List.setIfInBounds_toArray, List.set_cons_zero, List.set_cons_succ]
                  refine wpAnyH_ready (rs := [8]) (by kernel_rfl) (by simp) ?_
                  refine AllReadyH.cons (take_list rfl) (fun K hK => ?_) ?_
                  · skip
                    go_simp
                    refine hK.out _ _ ?_ (fun hHeld => ?_)
                    · try dsimp only
                      all_goals trivial
                    clear hK K
                    refine wpAnyH_done (by kernel_rfl) ?_ _
                    go_wp2_with fail
                    go_roundw
                    case rel =>
                      obtain ⟨b1, b2, b3, b4⟩ := dec_round (g := g) (bs := bs) (by have := HZ4.out; omega) Ho.out HO.out HB3.out Hown3.out Honly3.out
                      exact ⟨k, acc ++ [bs], rest', bad', A3, c3, by go_num, HRs, Hr2.out.only b4 (fun k hk h => by have := hk.2; have := HZ4.out; have := Ho3.out.size; omega), b1, b2, b3⟩
                    case measure => simp [intOf]; have := Hk.out; omega
                  exact AllReadyH.nil
                exact AllReadyH.nil
              exact AllReadyH.nil
            exact AllReadyH.nil
          exact AllReadyH.nil
        exact AllReadyH.nil
end Go.Proofs.YtbokimeojhkgmaaDoor

/-
  Decode, the reference's. No statement of the seat is proved here.
-/
namespace Go.Proofs.YtbokimeojhkgmaaDoor
open Go Go.RowKit
set_option maxRecDepth 100000

theorem rest_shrinks {p : List UInt8} {acc : List (List UInt8)} {rest : List UInt8} {s : List UInt8} (h : acc.length + rest.length ≤ p.length) :
    ((stBytes rest false).2.2 = false → (acc ++ [s]).length + (stBytes rest false).2.1.length ≤ p.length) ∧ (acc ++ [s]).length ≤ p.length + 1 := by
  rw [List.length_append]
  refine ⟨fun hb => ?_, by simp; omega⟩
  have := stBytes_good hb
  simp
  omega
set_option maxHeartbeats 1000000 in
theorem rdecode_any (p : List UInt8) (A : Option Addr) (ca : Nat) (w : World) (hA : Rd w A (p.map bv)) (hc : p.length ≤ ca) (hp : p.length ≤ 1000000) :
    Calls Tryd.prog 14 #[.slice A p.length ca] w fun e w' => ∃ B' c', e = .returned (.tuple #[btV (decB p).1 B' c', .int .i64 (decB p).2]) ∧ BtIn w' (decB p).1 B' c' ∧ Below w.heap.size w w' := by
  have Hall := Lib.hid (decB_all p)
  have HA := Lib.hid hA
  obtain ⟨w1, hw1⟩ : ∃ w1, w1 = w.alloc (.cells #[.int .i64 0, .slice none 0 0] 32) := ⟨_, rfl⟩
  have hb1 : Below w.heap.size w w1 := by rw [hw1]; exact (Below.refl _ _).alloc (Nat.le_refl _) _
  have hX1 : Blk w1 w.heap.size 32 #[.int .i64 0, .slice none 0 0] := by rw [hw1]; exact Blk.new _ _ _
  have hs1 : w1.heap.size = w.heap.size + 1 := by rw [hw1, World.size_alloc]
  obtain ⟨w2, hw2⟩ : ∃ w2, w2 = w1.alloc (.cells #[.slice A p.length ca, .bool false] 72) := ⟨_, rfl⟩
  have Hb2 : Hid (Below w.heap.size w w2) := Lib.hid (by rw [hw2]; exact ext_alloc hb1 _)
  have HX2 : Hid (Blk w2 w.heap.size 32 #[.int .i64 0, .slice none 0 0]) := Lib.hid (by rw [hw2]; exact hX1.alloc _)
  have hs2 : w2.heap.size = w.heap.size + 2 := by rw [hw2, World.size_alloc, hs1]
  have HR2 : Hid (RRd w2 (fun k => k < w.heap.size ∨ k = w.heap.size + 1) (w.heap.size + 1) p false) := Lib.hid (by
    refine ⟨.inr rfl, (fun h => by cases h), A, ca, ?_, hA.ext Hb2.out, fun ad e hne => ?_, hc⟩
    · rw [hw2, ← hs1]; exact Blk.new _ _ _
    · obtain ⟨ad', e', hcell⟩ := hA.at_ (k := 0) (by have := List.length_pos_iff.2 hne; simpa using this)
      rw [e] at e'; injection e' with e'; subst e'
      have hl := World.block_lt_of_cell? w _ hcell
      rw [block_add] at hl
      exact ⟨.inl hl, by omega⟩)
  have Hw1 := Lib.hid hw1
  have Hw2 := Lib.hid hw2
  have Hs2 := Lib.hid hs2
  obtain ⟨g, hg⟩ : ∃ g, w.heap.size + 1 = g := ⟨_, rfl⟩
  have Hg := Lib.hid hg
  rw [hg] at HR2
  unfold btV
  clear hw1 hw2 hs1 hs2 hb1 hX1 hA hg
  generalize decB p = R at *
  obtain ⟨⟨Rf, Rl⟩, Re⟩ := R
  simp only
  go_enter Tryd.func14, Tryd.ntmps14
  go_wp2_with fail
  rw [Hg.out, ← Hw1.out, ← Hw2.out]
  refine (refnum_st _ g p false w2 HR2.out (by omega)).mono ?_
  rintro e w3 ⟨rfl, hr3, ho3⟩
  rw [show (stNum p false).1 = first? p from rfl]
  have hr3' : RRd w3 (fun k => k < w.heap.size ∨ k = g) g (rest1 p).1 (rest1 p).2 := hr3
  have Hr3 := Lib.hid hr3'
  have Ho3 := Lib.hid ho3
  clear hr3 hr3' ho3
  obtain ⟨W4, hW4⟩ : ∃ W4, W4 = w3.alloc (.cells #[.int .i64 (first? p : Int), .slice none 0 0] 32) := ⟨_, rfl⟩
  have hb4 : Below w3.heap.size w3 W4 := by rw [hW4]; exact (Below.refl _ _).alloc (Nat.le_refl _) _
  have HB4 : Hid (Blk W4 w3.heap.size 32 #[.int .i64 (first? p : Int), .slice none 0 0]) := Lib.hid (by rw [hW4]; exact Blk.new _ _ _)
  have HZ4 : Hid (W4.heap.size = w3.heap.size + 1) := Lib.hid (by rw [hW4, World.size_alloc])
  have HR4 := Lib.hid (Hr3.out.ext hb4)
  have H24 : Hid (Only (fun k => k = g) w2 W4) := Lib.hid (by rw [hW4]; exact Ho3.out.alloc _)
  have HW4 := Lib.hid hW4
  have h3l := rest1_len p
  clear hb4 hW4
  go_wp2_with fail
  rw [← HW4.out]
  refine (refnum_st _ g (rest1 p).1 (rest1 p).2 W4 HR4.out (by omega)).mono ?_
  rintro e w5 ⟨rfl, hr5, ho5⟩
  rw [show (stNum (rest1 p).1 (rest1 p).2).1 = count? p from rfl]
  have hr5' : RRd w5 (fun k => k < w.heap.size ∨ k = g) g (rest2 p).1 (rest2 p).2 := hr5
  have Hr5 := Lib.hid hr5'
  have Ho5 := Lib.hid ho5
  have hcl := count_le p
  obtain ⟨N, hN⟩ : ∃ N, count? p = N := ⟨_, rfl⟩
  rw [hN] at Hall hcl ⊢
  have h5l := rest2_len p
  have Hlt : Hid (w.heap.size < g ∧ g < w3.heap.size) := Lib.hid (by have := Hg.out; have := Hs2.out; have := Ho3.out.size; omega)
  have HD : Hid (∀ W, Only (fun k => k = g ∨ k = w3.heap.size) W4 W → Below w.heap.size w W) := Lib.hid (fun W ho => by
    have h1 := H24.out
    have hg1 := Hlt.out
    exact Hb2.out.trans ((h1.below (fun i hi => by omega) (by have := Hb2.out.size; omega)).trans (ho.below (fun i hi => by omega) (by have := Hb2.out.size; have := h1.size; omega))))
  have hNi : (N : Int) ≤ 4611686018427387904 := by omega
  clear hr5 hr5' ho5 h3l hN
  go_wp2_with fail
  go_loopw [7] (fun i wr => ∃ (j m : Nat) (acc : List (List UInt8)) (rest : List UInt8) (bad : Bool) (A1 : Option Addr) (c1 : Nat), i = .int .i64 (j : Int) ∧ Hid (j + m = N) ∧ Hid (Rdg p N m acc rest bad) ∧ Hid ((bad = false → acc.length + rest.length ≤ p.length) ∧ acc.length ≤ p.length + 1) ∧ RRd wr (fun k => k < w.heap.size ∨ k = g) g rest bad ∧ Blk wr w3.heap.size 32 #[.int .i64 (first? p : Int), .slice A1 acc.length c1] ∧ NewS W4 wr A1 c1 acc ∧ Only (fun k => k = g ∨ k = w3.heap.size) W4 wr) (fun i _ => N - (intOf i).toNat)
  case atStart => exact ⟨0, N, [], (rest2 p).1, (rest2 p).2, none, 0, rfl, Lib.hid (by omega), Lib.hid ⟨rfl, rfl, by simp, by simp, h5l⟩, Lib.hid ⟨fun _ => by simpa using h5l, by simp⟩, Hr5.out, HB4.out.only Ho5.out (by have := Hlt.out; omega), NewS.none_ _ _, Ho5.out.mono (fun _ _ h => .inl h)⟩
  case round =>
    obtain ⟨j, m, acc, rest, bad, A1, c1, rfl, Hjm, Hrd, Hal, hr, hB, hS, ho⟩ := hrel
    have Hr := Lib.hid hr
    have HB := Lib.hid hB
    have HS := Lib.hid hS
    have Ho := Lib.hid ho
    have h1 := hB.cell 1
    have h0 := hB.cell 0
    have hbad : wr.cell? ⟨g, 1, none⟩ = some (.bool bad) := by obtain ⟨_, _, _, _, hb, _⟩ := hr; exact hb.cell 1
    simp only [List.getElem?_toArray, List.getElem?_cons_zero, List.getElem?_cons_succ] at h0 h1
    clear hr hB hS ho
    have HXr : Hid (Blk wr w.heap.size 32 #[.int .i64 0, .slice none 0 0]) := Lib.hid ((HX2.out.only H24.out (by have := Hlt.out; omega)).only Ho.out (by have := Hlt.out; omega))
    have Hbr := Lib.hid (HD.out wr Ho.out)
    have Hin : Hid (BtIn wr ⟨(first? p : Int), acc⟩ A1 c1) := Lib.hid ⟨⟨by have := first_le p; show -9223372036854775808 ≤ (first? p : Int); omega, by have := first_le p; show (first? p : Int) ≤ 9223372036854775807; omega⟩, by have := HS.out.cap; simpa using this, HS.out.max, HS.out.rd, fun s hs => by have := Hrd.out.each s hs; unfold maxLen; omega⟩
    have HEN := Lib.hid (rencode_any ⟨(first? p : Int), acc⟩ A1 c1 wr Hin.out)
    unfold btV at HEN
    have HCS : Hid ((m = 0 ∨ bad = true) → ∀ q er, encR ⟨(first? p : Int), acc⟩ = (q, er) → (bad = true ∧ ((⟨Rf, Rl⟩ : Bt), Re) = (⟨0, []⟩, 2)) ∨ (bad = false ∧ er = 1 ∧ ((⟨Rf, Rl⟩ : Bt), Re) = (⟨0, []⟩, 2)) ∨ (bad = false ∧ er = 0 ∧ q ≠ p ∧ ((⟨Rf, Rl⟩ : Bt), Re) = (⟨0, []⟩, 2)) ∨ (bad = false ∧ er = 0 ∧ q = p ∧ ((⟨Rf, Rl⟩ : Bt), Re) = (⟨(first? p : Int), acc⟩, 0))) := Lib.hid (fun he q er hq => by
      obtain ⟨h5, h6⟩ := Hrd.out.end_ he
      have hg : got p N = ⟨(first? p : Int), acc⟩ := by rw [h5]; rfl
      have hall := Hall.out
      rw [hg, ← h6] at hall
      cases bad with
      | true => exact .inl ⟨rfl, hall.2 (.inr rfl)⟩
      | false =>
        refine .inr ?_
        unfold encR at hq
        cases hi : isB ⟨(first? p : Int), acc⟩ with
        | false =>
          rw [hi] at hq
          simp at hq
          exact .inl ⟨rfl, hq.2.symm, hall.2 (.inl (fun h => by rw [h.1] at hi; cases hi))⟩
        | true =>
          rw [hi] at hq
          simp at hq
          by_cases he : q = p
          · exact .inr (.inr ⟨rfl, hq.2.symm, he, (hall.1 ⟨hi, hq.1.trans he⟩).1⟩)
          · exact .inr (.inl ⟨rfl, hq.2.symm, he, hall.2 (.inl (fun h => he (hq.1.symm.trans h.2)))⟩))
    by_cases hm : m = 0
    · subst hm
      have hji : ¬ (j : Int) < (N : Int) := by have := Hjm.out; omega
      have hjd : decide ((j : Int) < (N : Int)) = false := decide_eq_false hji
      have hjn : decide (j < N) = false := decide_eq_false (by omega)
      have HC := Lib.hid (HCS.out (.inl rfl))
      clear HCS hji
      obtain ⟨⟨q, er⟩, hqr⟩ : ∃ q, encR ⟨(first? p : Int), acc⟩ = q := ⟨_, rfl⟩
      have hcs := HC.out q er hqr
      rw [hqr] at HEN
      simp only at HEN
      clear hqr HC
      go_wp2_with fail
      refine HEN.out.mono ?_
      rintro e w7 ⟨A7, c7, rfl, hn7, hb7⟩
      have hbad7 : w7.cell? ⟨g, 1, none⟩ = some (.bool bad) := (World.cell?_of_block (a := ⟨g, 1, none⟩) (hb7.block _ Hr.out.lt)).trans hbad
      rcases hcs with ⟨hb, hR⟩ | ⟨hb, rfl, hR⟩ | ⟨hb, rfl, hne, hR⟩ | ⟨hb, rfl, he, hR⟩
      · rw [hb] at hbad7
        have hX := HXr.out.ext hb7
        have k0 := hX.cell 0
        have k1 := hX.cell 1
        have f0 := hX.free 0
        have f1 := hX.free 1
        have hY := hX.put 0 (.int .i64 0)
        have m0 := hY.cell 0
        have m1 := (hY.put 1 (.slice none 0 0)).cell 1
        simp only [List.getElem?_toArray, List.setIfInBounds_toArray, List.set_cons_zero, List.set_cons_succ, List.getElem?_cons_zero, List.getElem?_cons_succ] at k0 k1 m0 m1
        have Hbf : Hid (Below w.heap.size w ((w7.setCell ⟨w.heap.size, 0, none⟩ (.int .i64 0)).setCell ⟨w.heap.size, 1, none⟩ (.slice none 0 0))) := Lib.hid (below_set (below_set (ext_trans Hbr.out hb7) (Nat.le_refl _) _) (Nat.le_refl _) _)
        injection hR with hR1 hR2
        injection hR1 with hR1 hR3
        subst hR1 hR2 hR3
        clear hX hY hn7 hb7
        go_wp2
        refine bodyPost_ret (v := .tuple #[.agg #[.int .i64 0, .slice none 0 0], .int .i64 2]) (by simp [results, Tryd.results14, go_sem, m0, m1]) rfl ?_
        exact ⟨none, 0, rfl, BtIn.none_ _, Hbf.out⟩
      · rw [hb] at hbad7
        have hX := HXr.out.ext hb7
        have k0 := hX.cell 0
        have k1 := hX.cell 1
        have f0 := hX.free 0
        have f1 := hX.free 1
        have hY := hX.put 0 (.int .i64 0)
        have m0 := hY.cell 0
        have m1 := (hY.put 1 (.slice none 0 0)).cell 1
        simp only [List.getElem?_toArray, List.setIfInBounds_toArray, List.set_cons_zero, List.set_cons_succ, List.getElem?_cons_zero, List.getElem?_cons_succ] at k0 k1 m0 m1
        have Hbf : Hid (Below w.heap.size w ((w7.setCell ⟨w.heap.size, 0, none⟩ (.int .i64 0)).setCell ⟨w.heap.size, 1, none⟩ (.slice none 0 0))) := Lib.hid (below_set (below_set (ext_trans Hbr.out hb7) (Nat.le_refl _) _) (Nat.le_refl _) _)
        injection hR with hR1 hR2
        injection hR1 with hR1 hR3
        subst hR1 hR2 hR3
        clear hX hY hn7 hb7
        go_wp2
        refine bodyPost_ret (v := .tuple #[.agg #[.int .i64 0, .slice none 0 0], .int .i64 2]) (by simp [results, Tryd.results14, go_sem, m0, m1]) rfl ?_
        exact ⟨none, 0, rfl, BtIn.none_ _, Hbf.out⟩
      · rw [hb] at hbad7
        have hcv1 := conv_bytes w7 A7 q.length c7 q rfl hn7.rd
        have hcv2 := conv_bytes w7 A p.length ca p rfl (HA.out.ext (ext_trans Hbr.out hb7))
        have hne2 : ((⟨q.toArray⟩ : ByteArray).toList == (⟨p.toArray⟩ : ByteArray).toList) = false := ne_str hne
        obtain ⟨Z, hZ⟩ : ∃ Z : ByteArray, (⟨q.toArray⟩ : ByteArray) = Z := ⟨_, rfl⟩
        obtain ⟨Y, hY'⟩ : ∃ Z : ByteArray, (⟨p.toArray⟩ : ByteArray) = Z := ⟨_, rfl⟩
        rw [hZ] at hcv1 hne2
        rw [hY'] at hcv2 hne2
        clear hZ hY' hne
        have hX := HXr.out.ext hb7
        have k0 := hX.cell 0
        have k1 := hX.cell 1
        have f0 := hX.free 0
        have f1 := hX.free 1
        have hY := hX.put 0 (.int .i64 0)
        have m0 := hY.cell 0
        have m1 := (hY.put 1 (.slice none 0 0)).cell 1
        simp only [List.getElem?_toArray, List.setIfInBounds_toArray, List.set_cons_zero, List.set_cons_succ, List.getElem?_cons_zero, List.getElem?_cons_succ] at k0 k1 m0 m1
        have Hbf : Hid (Below w.heap.size w ((w7.setCell ⟨w.heap.size, 0, none⟩ (.int .i64 0)).setCell ⟨w.heap.size, 1, none⟩ (.slice none 0 0))) := Lib.hid (below_set (below_set (ext_trans Hbr.out hb7) (Nat.le_refl _) _) (Nat.le_refl _) _)
        injection hR with hR1 hR2
        injection hR1 with hR1 hR3
        subst hR1 hR2 hR3
        clear hX hY hn7 hb7
        go_wp2
        refine bodyPost_ret (v := .tuple #[.agg #[.int .i64 0, .slice none 0 0], .int .i64 2]) (by simp [results, Tryd.results14, go_sem, m0, m1]) rfl ?_
        exact ⟨none, 0, rfl, BtIn.none_ _, Hbf.out⟩
      · rw [hb] at hbad7
        subst he
        have hcv1 := conv_bytes w7 A7 q.length c7 q rfl hn7.rd
        have hcv2 := conv_bytes w7 A q.length ca q rfl (HA.out.ext (ext_trans Hbr.out hb7))
        obtain ⟨Z, hZ⟩ : ∃ Z : ByteArray, (⟨q.toArray⟩ : ByteArray) = Z := ⟨_, rfl⟩
        rw [hZ] at hcv1 hcv2
        clear hZ
        have hX := HXr.out.ext hb7
        have k0 := hX.cell 0
        have k1 := hX.cell 1
        have f0 := hX.free 0
        have f1 := hX.free 1
        have hY := hX.put 0 (.int .i64 (first? q : Int))
        have m0 := hY.cell 0
        have m1 := (hY.put 1 (.slice A1 acc.length c1)).cell 1
        simp only [List.getElem?_toArray, List.setIfInBounds_toArray, List.set_cons_zero, List.set_cons_succ, List.getElem?_cons_zero, List.getElem?_cons_succ] at k0 k1 m0 m1
        have hB7 := HB.out.ext hb7
        have h0 := hB7.cell 0
        have h1 := hB7.cell 1
        simp only [List.getElem?_toArray, List.getElem?_cons_zero, List.getElem?_cons_succ] at h0 h1
        have Hbf : Hid (Below w.heap.size w ((w7.setCell ⟨w.heap.size, 0, none⟩ (.int .i64 (first? q : Int))).setCell ⟨w.heap.size, 1, none⟩ (.slice A1 acc.length c1))) := Lib.hid (below_set (below_set (ext_trans Hbr.out hb7) (Nat.le_refl _) _) (Nat.le_refl _) _)
        have Hcf : Hid (BtIn ((w7.setCell ⟨w.heap.size, 0, none⟩ (.int .i64 (first? q : Int))).setCell ⟨w.heap.size, 1, none⟩ (.slice A1 acc.length c1)) ⟨(first? q : Int), acc⟩ A1 c1) := Lib.hid (by
          have hi := Hin.out.ext hb7
          have hne : ∀ ad, A1 = some ad → ad.block ≠ w.heap.size := fun ad e => by
            have := (HS.out.2 ad e).1
            have := HZ4.out
            have := Hlt.out
            omega
          exact ⟨hi.int, hi.le, hi.cap, Rd.setCell (Rd.setCell hi.rd hne _) hne _, hi.each⟩)
        injection hR with hR1 hR2
        injection hR1 with hR1 hR3
        subst hR1 hR2
        have hR4 := hR3.symm
        subst hR4
        clear hX hY hn7 hb7 hB7
        go_wp2
        refine bodyPost_ret (v := .tuple #[.agg #[.int .i64 (first? q : Int), .slice A1 acc.length c1], .int .i64 0]) (by simp [results, Tryd.results14, go_sem, m0, m1]) rfl ?_
        exact ⟨A1, c1, rfl, Hcf.out, Hbf.out⟩
    have hji : (j : Int) < (N : Int) := by have := Hjm.out; omega
    have hjd : decide ((j : Int) < (N : Int)) = true := decide_eq_true hji
    have hjn : decide (j < N) = true := decide_eq_true (by omega)
    cases bad with
    | true =>
      have HC := Lib.hid (HCS.out (.inr rfl))
      clear HCS hm
      obtain ⟨⟨q, er⟩, hqr⟩ : ∃ q, encR ⟨(first? p : Int), acc⟩ = q := ⟨_, rfl⟩
      have hcs := HC.out q er hqr
      rw [hqr] at HEN
      simp only at HEN
      clear hqr HC
      have hR : ((⟨Rf, Rl⟩ : Bt), Re) = (⟨0, []⟩, 2) := by
        rcases hcs with ⟨_, h⟩ | ⟨h, _⟩ | ⟨h, _⟩ | ⟨h, _⟩
        · exact h
        · cases h
        · cases h
        · cases h
      clear hcs
      go_wp2_with fail
      refine HEN.out.mono ?_
      rintro e w7 ⟨A7, c7, rfl, hn7, hb7⟩
      have hbad7 : w7.cell? ⟨g, 1, none⟩ = some (.bool true) := (World.cell?_of_block (a := ⟨g, 1, none⟩) (hb7.block _ Hr.out.lt)).trans hbad
      have hX := HXr.out.ext hb7
      have k0 := hX.cell 0
      have k1 := hX.cell 1
      have f0 := hX.free 0
      have f1 := hX.free 1
      have hY := hX.put 0 (.int .i64 0)
      have m0 := hY.cell 0
      have m1 := (hY.put 1 (.slice none 0 0)).cell 1
      simp only [List.getElem?_toArray, List.setIfInBounds_toArray, List.set_cons_zero, List.set_cons_succ, List.getElem?_cons_zero, List.getElem?_cons_succ] at k0 k1 m0 m1
      have Hbf : Hid (Below w.heap.size w ((w7.setCell ⟨w.heap.size, 0, none⟩ (.int .i64 0)).setCell ⟨w.heap.size, 1, none⟩ (.slice none 0 0))) := Lib.hid (below_set (below_set (ext_trans Hbr.out hb7) (Nat.le_refl _) _) (Nat.le_refl _) _)
      injection hR with hR1 hR2
      injection hR1 with hR1 hR3
      subst hR1 hR2 hR3
      clear hX hY hn7 hb7
      go_wp2
      refine bodyPost_ret (v := .tuple #[.agg #[.int .i64 0, .slice none 0 0], .int .i64 2]) (by simp [results, Tryd.results14, go_sem, m0, m1]) rfl ?_
      exact ⟨none, 0, rfl, BtIn.none_ _, Hbf.out⟩
    | false =>
      clear HCS
      obtain ⟨k, hk⟩ : ∃ k, m = k + 1 := ⟨m - 1, by omega⟩
      have hk1 : IntKind.i64.wrap ((j : Int) + 1) = (j : Int) + 1 := IntWalk.i64_in _ (by have := Hjm.out; omega)
      have HRs := Lib.hid (Rdg.step (by rw [← hk]; exact Hrd.out))
      have hal : acc.length + 1 ≤ 1000002 := by have := Hal.out.2; omega
      have hk2 : acc.length + 1 ≤ maxLen := by unfold maxLen; omega
      have hk3 : (acc.length + 1) * 16 ≤ 140737488355328 := by omega
      have hrl : rest.length ≤ 1099511627776 := by have := Hrd.out.short; omega
      have HBY := Lib.hid (fun W (h : RRd W (fun k => k < w.heap.size ∨ k = g) g rest false) => refbytes_st _ g rest false W h hrl)
      obtain ⟨⟨bs, rest', bad'⟩, hsb⟩ : ∃ q, stBytes rest false = q := ⟨_, rfl⟩
      have HSh := Lib.hid (rest_shrinks (s := bs) (Hal.out.1 rfl))
      rw [hsb] at HRs HBY HSh
      simp only at HRs HBY HSh
      have HK : Hid (∀ W, Only (fun k => k = g) wr W → Blk W w3.heap.size 32 #[.int .i64 (first? p : Int), .slice A1 acc.length c1]) := Lib.hid (fun W ho => HB.out.only ho (by have := Hlt.out; omega))
      have HKS : Hid (∀ W, Only (fun k => k = g) wr W → W.cell? ⟨w3.heap.size, 1, none⟩ = some (.slice A1 acc.length c1)) := Lib.hid (fun W ho => by
        have := (HK.out W ho).cell 1
        simpa using this)
      have Hk := Lib.hid hk
      clear hk hsb hal hm
      go_wp2_with fail
      refine wp_region_held_drew (S := fun _ => True) (by kernel_rfl) ?_ (fun hHeld => ?_)
      · all_goals trivial
      refine wpAnyH_take (i := 0) (v := ?_) (take_list rfl) (by kernel_rfl) (by kernel_rfl) (by kernel_rfl) (fun _ _ _ h => h) (Or.inl ⟨by rfl, ?_⟩) (by assumption) ?_
      rotate_left
      · intro w hSw
        try dsimp only at hSw
        first | (go_simp; done) | (go_simp; with_reducible rfl)
      try simp only [Act.put, List.setIfInBounds_toArray, List.set_cons_zero, List.set_cons_succ]
      refine wpAnyH_take (i := 2) (v := ?_) (take_list rfl) (by kernel_rfl) (by kernel_rfl) (by kernel_rfl) (fun _ _ _ h => h) (Or.inl ⟨by rfl, ?_⟩) (by assumption) ?_
      rotate_left
      · intro w hSw
        try dsimp only at hSw
        first | (go_simp; done) | (go_simp; with_reducible rfl)
      try simp only [Act.put, List.setIfInBounds_toArray, List.set_cons_zero, List.set_cons_succ]
      refine wpAnyH_ready (rs := [1, 3]) (by kernel_rfl) (by simp) ?_
      refine AllReadyH.cons (take_list rfl) (fun K hK => ?_) ?_
      · skip
        have ql := HKS.out wr.drew ((Only.refl _ _).drew)
        go_simp
        clear ql
        refine hK.out _ _ ?_ (fun hHeld => ?_)
        · try dsimp only
          all_goals trivial
        clear hK K
        refine wpAnyH_ready (rs := [3]) (by kernel_rfl) (by simp) ?_
        refine AllReadyH.cons (take_list rfl) (fun K hK => ?_) ?_
        · skip
          go_simp
          refine (HBY.out wr.drew Hr.out).mono ?_
          rintro e x1 ⟨A2, c2, rfl, hn2, hr2, ho2⟩
          dsimp only
          have HO : Hid (Only (fun k => k = g) wr x1) := Lib.hid (((Only.refl _ _).drew).trans ho2 (fun _ _ h => h))
          have hcv := conv_bytes x1 A2 bs.length c2 bs rfl hn2.rd
          have Hr2 := Lib.hid hr2
          clear hr2 ho2 hn2
          refine hK.out _ _ ?_ (fun hHeld => ?_)
          · try dsimp only
            all_goals trivial
          clear hK K
          refine wpAnyH_ready (rs := [4]) (by kernel_rfl) (by simp) ?_
          refine AllReadyH.cons (take_list rfl) (fun K hK => ?_) ?_
          · skip
            refine step_convW rfl _ _ _ rfl _ _ rfl hcv ?_
            clear hcv
            refine hK.out _ _ ?_ (fun hHeld => ?_)
            · try dsimp only
              all_goals trivial
            clear hK K
            refine wpAnyH_ready (rs := [5]) (by kernel_rfl) (by simp) ?_
            refine AllReadyH.cons (take_list rfl) (fun K hK => ?_) ?_
            · skip
              go_simp
              refine hK.out _ _ ?_ (fun hHeld => ?_)
              · try dsimp only
                all_goals trivial
              clear hK K
              refine wpAnyH_ready (rs := [6]) (by kernel_rfl) (by simp) ?_
              refine AllReadyH.cons (take_list rfl) (fun K hK => ?_) ?_
              · skip
                refine step_appT rfl (.tmp 31) (.tmp 35) _ rfl _ _ 16 Tryd.underlying22 info_str rfl A1 acc.length c1 (acc.map strV) rfl (by rw [List.length_map]) ((HS.out.only HO.out (fun k hk h => by have := hk.1; have := HZ4.out; have := Hlt.out; omega)).alloc _) (some ⟨x1.heap.size, 0, none⟩) 1 1 [strV bs] rfl rfl (Rd.lit x1 #[strV bs] _) (by intro u hu; simp at hu; rw [hu]; rfl) hk2 hk3 ?_
                intro A3 c3 x2 hown3 honly3
                have hB3 := ((HK.out x1 HO.out).alloc (.cells #[strV bs] 9)).only honly3 (by have := HZ4.out; omega)
                have q1 := hB3.cell 1
                have g1 := hB3.free 1
                simp only [List.getElem?_toArray, List.getElem?_cons_zero, List.getElem?_cons_succ] at q1
                have HB3 := Lib.hid hB3
                have Hown3 := Lib.hid hown3
                have Honly3 := Lib.hid honly3
                clear hB3 hown3 honly3
                refine hK.out _ _ ?_ (fun hHeld => ?_)
                · try dsimp only
                  all_goals trivial
                clear hK K
                refine wpAnyH_take (i := 7) (v := ?_) (take_list rfl) (by kernel_rfl) (by kernel_rfl) (by kernel_rfl) (fun _ _ _ h => h) (Or.inl ⟨by rfl, ?_⟩) (by assumption) ?_
                rotate_left
                · intro w hSw
                  try dsimp only at hSw
                  first | (go_simp; done) | (go_simp; with_reducible rfl)
                try simp only [Act.put, List.setIfInBounds_toArray, List.set_cons_zero, List.set_cons_succ]
                refine wpAnyH_ready (rs := [8]) (by kernel_rfl) (by simp) ?_
                refine AllReadyH.cons (take_list rfl) (fun K hK => ?_) ?_
                · skip
                  go_simp
                  refine hK.out _ _ ?_ (fun hHeld => ?_)
                  · try dsimp only
                    all_goals trivial
                  clear hK K
                  refine wpAnyH_done (by kernel_rfl) ?_ _
                  go_wp2_with fail
                  go_roundw
                  case rel =>
                    obtain ⟨b1, b2, b3, b4⟩ := dec_round (g := g) (bs := bs) (by have := HZ4.out; omega) Ho.out HO.out HB3.out Hown3.out Honly3.out
                    exact ⟨j + 1, k, acc ++ [bs], rest', bad', A3, c3, by go_num, Lib.hid (by have := Hjm.out; have := Hk.out; omega), HRs, HSh, Hr2.out.only b4 (fun k hk h => by have := HZ4.out; have := Hlt.out; omega), b1, b2, b3⟩
                  case measure => simp [intOf]; have := Hjm.out; have := Hk.out; omega
                exact AllReadyH.nil
              exact AllReadyH.nil
            exact AllReadyH.nil
          exact AllReadyH.nil
        exact AllReadyH.nil
      refine AllReadyH.cons (take_list rfl) (fun K hK => ?_) ?_
      · skip
        go_simp
        refine (HBY.out wr.drew Hr.out).mono ?_
        rintro e x1 ⟨A2, c2, rfl, hn2, hr2, ho2⟩
        dsimp only
        have HO : Hid (Only (fun k => k = g) wr x1) := Lib.hid (((Only.refl _ _).drew).trans ho2 (fun _ _ h => h))
        have hcv := conv_bytes x1 A2 bs.length c2 bs rfl hn2.rd
        have Hr2 := Lib.hid hr2
        clear hr2 ho2 hn2
        refine hK.out _ _ ?_ (fun hHeld => ?_)
        · try dsimp only
          all_goals trivial
        clear hK K
        refine wpAnyH_ready (rs := [1, 4]) (by kernel_rfl) (by simp) ?_
        refine AllReadyH.cons (take_list rfl) (fun K hK => ?_) ?_
        · skip
          have ql := HKS.out x1 HO.out
          go_simp
          clear ql
          refine hK.out _ _ ?_ (fun hHeld => ?_)
          · try dsimp only
            all_goals trivial
          clear hK K
          refine wpAnyH_ready (rs := [4]) (by kernel_rfl) (by simp) ?_
          refine AllReadyH.cons (take_list rfl) (fun K hK => ?_) ?_
          · skip
            refine step_convW rfl _ _ _ rfl _ _ rfl hcv ?_
            clear hcv
            refine hK.out _ _ ?_ (fun hHeld => ?_)
            · try dsimp only
              all_goals trivial
            clear hK K
            refine wpAnyH_ready (rs := [5]) (by kernel_rfl) (by simp) ?_
            refine AllReadyH.cons (take_list rfl) (fun K hK => ?_) ?_
            · skip
              go_simp
              refine hK.out _ _ ?_ (fun hHeld => ?_)
              · try dsimp only
                all_goals trivial
              clear hK K
              refine wpAnyH_ready (rs := [6]) (by kernel_rfl) (by simp) ?_
              refine AllReadyH.cons (take_list rfl) (fun K hK => ?_) ?_
              · skip
                refine step_appT rfl (.tmp 31) (.tmp 35) _ rfl _ _ 16 Tryd.underlying22 info_str rfl A1 acc.length c1 (acc.map strV) rfl (by rw [List.length_map]) ((HS.out.only HO.out (fun k hk h => by have := hk.1; have := HZ4.out; have := Hlt.out; omega)).alloc _) (some ⟨x1.heap.size, 0, none⟩) 1 1 [strV bs] rfl rfl (Rd.lit x1 #[strV bs] _) (by intro u hu; simp at hu; rw [hu]; rfl) hk2 hk3 ?_
                intro A3 c3 x2 hown3 honly3
                have hB3 := ((HK.out x1 HO.out).alloc (.cells #[strV bs] 9)).only honly3 (by have := HZ4.out; omega)
                have q1 := hB3.cell 1
                have g1 := hB3.free 1
                simp only [List.getElem?_toArray, List.getElem?_cons_zero, List.getElem?_cons_succ] at q1
                have HB3 := Lib.hid hB3
                have Hown3 := Lib.hid hown3
                have Honly3 := Lib.hid honly3
                clear hB3 hown3 honly3
                refine hK.out _ _ ?_ (fun hHeld => ?_)
                · try dsimp only
                  all_goals trivial
                clear hK K
                refine wpAnyH_take (i := 7) (v := ?_) (take_list rfl) (by kernel_rfl) (by kernel_rfl) (by kernel_rfl) (fun _ _ _ h => h) (Or.inl ⟨by rfl, ?_⟩) (by assumption) ?_
                rotate_left
                · intro w hSw
                  try dsimp only at hSw
                  first | (go_simp; done) | (go_simp; with_reducible rfl)
                try simp only [Act.put, List.setIfInBounds_toArray, List.set_cons_zero, List.set_cons_succ]
                refine wpAnyH_ready (rs := [8]) (by kernel_rfl) (by simp) ?_
                refine AllReadyH.cons (take_list rfl) (fun K hK => ?_) ?_
                · skip
                  go_simp
                  refine hK.out _ _ ?_ (fun hHeld => ?_)
                  · try dsimp only
                    all_goals trivial
                  clear hK K
                  refine wpAnyH_done (by kernel_rfl) ?_ _
                  go_wp2_with fail
                  go_roundw
                  case rel =>
                    obtain ⟨b1, b2, b3, b4⟩ := dec_round (g := g) (bs := bs) (by have := HZ4.out; omega) Ho.out HO.out HB3.out Hown3.out Honly3.out
                    exact ⟨j + 1, k, acc ++ [bs], rest', bad', A3, c3, by go_num, Lib.hid (by have := Hjm.out; have := Hk.out; omega), HRs, HSh, Hr2.out.only b4 (fun k hk h => by have := HZ4.out; have := Hlt.out; omega), b1, b2, b3⟩
                  case measure => simp [intOf]; have := Hjm.out; have := Hk.out; omega
                exact AllReadyH.nil
              exact AllReadyH.nil
            exact AllReadyH.nil
          exact AllReadyH.nil
        refine AllReadyH.cons (take_list rfl) (fun K hK => ?_) ?_
        · skip
          refine step_convW rfl _ _ _ rfl _ _ rfl hcv ?_
          clear hcv
          refine hK.out _ _ ?_ (fun hHeld => ?_)
          · try dsimp only
            all_goals trivial
          clear hK K
          refine wpAnyH_ready (rs := [1, 5]) (by kernel_rfl) (by simp) ?_
          refine AllReadyH.cons (take_list rfl) (fun K hK => ?_) ?_
          · skip
            have ql := HKS.out x1 HO.out
            go_simp
            clear ql
            refine hK.out _ _ ?_ (fun hHeld => ?_)
            · try dsimp only
              all_goals trivial
            clear hK K
            refine wpAnyH_ready (rs := [5]) (by kernel_rfl) (by simp) ?_
            refine AllReadyH.cons (take_list rfl) (fun K hK => ?_) ?_
            · skip
              go_simp
              refine hK.out _ _ ?_ (fun hHeld => ?_)
              · try dsimp only
                all_goals trivial
              clear hK K
              refine wpAnyH_ready (rs := [6]) (by kernel_rfl) (by simp) ?_
              refine AllReadyH.cons (take_list rfl) (fun K hK => ?_) ?_
              · skip
                refine step_appT rfl (.tmp 31) (.tmp 35) _ rfl _ _ 16 Tryd.underlying22 info_str rfl A1 acc.length c1 (acc.map strV) rfl (by rw [List.length_map]) ((HS.out.only HO.out (fun k hk h => by have := hk.1; have := HZ4.out; have := Hlt.out; omega)).alloc _) (some ⟨x1.heap.size, 0, none⟩) 1 1 [strV bs] rfl rfl (Rd.lit x1 #[strV bs] _) (by intro u hu; simp at hu; rw [hu]; rfl) hk2 hk3 ?_
                intro A3 c3 x2 hown3 honly3
                have hB3 := ((HK.out x1 HO.out).alloc (.cells #[strV bs] 9)).only honly3 (by have := HZ4.out; omega)
                have q1 := hB3.cell 1
                have g1 := hB3.free 1
                simp only [List.getElem?_toArray, List.getElem?_cons_zero, List.getElem?_cons_succ] at q1
                have HB3 := Lib.hid hB3
                have Hown3 := Lib.hid hown3
                have Honly3 := Lib.hid honly3
                clear hB3 hown3 honly3
                refine hK.out _ _ ?_ (fun hHeld => ?_)
                · try dsimp only
                  all_goals trivial
                clear hK K
                refine wpAnyH_take (i := 7) (v := ?_) (take_list rfl) (by kernel_rfl) (by kernel_rfl) (by kernel_rfl) (fun _ _ _ h => h) (Or.inl ⟨by rfl, ?_⟩) (by assumption) ?_
                rotate_left
                · intro w hSw
                  try dsimp only at hSw
                  first | (go_simp; done) | (go_simp; with_reducible rfl)
                try simp only [Act.put, List.setIfInBounds_toArray, List.set_cons_zero, List.set_cons_succ]
                refine wpAnyH_ready (rs := [8]) (by kernel_rfl) (by simp) ?_
                refine AllReadyH.cons (take_list rfl) (fun K hK => ?_) ?_
                · skip
                  go_simp
                  refine hK.out _ _ ?_ (fun hHeld => ?_)
                  · try dsimp only
                    all_goals trivial
                  clear hK K
                  refine wpAnyH_done (by kernel_rfl) ?_ _
                  go_wp2_with fail
                  go_roundw
                  case rel =>
                    obtain ⟨b1, b2, b3, b4⟩ := dec_round (g := g) (bs := bs) (by have := HZ4.out; omega) Ho.out HO.out HB3.out Hown3.out Honly3.out
                    exact ⟨j + 1, k, acc ++ [bs], rest', bad', A3, c3, by go_num, Lib.hid (by have := Hjm.out; have := Hk.out; omega), HRs, HSh, Hr2.out.only b4 (fun k hk h => by have := HZ4.out; have := Hlt.out; omega), b1, b2, b3⟩
                  case measure => simp [intOf]; have := Hjm.out; have := Hk.out; omega
                exact AllReadyH.nil
              exact AllReadyH.nil
            exact AllReadyH.nil
          refine AllReadyH.cons (take_list rfl) (fun K hK => ?_) ?_
          · skip
            go_simp
            refine hK.out _ _ ?_ (fun hHeld => ?_)
            · try dsimp only
              all_goals trivial
            clear hK K
            refine wpAnyH_ready (rs := [1]) (by kernel_rfl) (by simp) ?_
            refine AllReadyH.cons (take_list rfl) (fun K hK => ?_) ?_
            · skip
              have ql := HKS.out _ (HO.out.alloc (.cells #[.string ⟨bs.toArray⟩] 9))
              go_simp
              clear ql
              refine hK.out _ _ ?_ (fun hHeld => ?_)
              · try dsimp only
                all_goals trivial
              clear hK K
              refine wpAnyH_ready (rs := [6]) (by kernel_rfl) (by simp) ?_
              refine AllReadyH.cons (take_list rfl) (fun K hK => ?_) ?_
              · skip
                refine step_appT rfl (.tmp 31) (.tmp 35) _ rfl _ _ 16 Tryd.underlying22 info_str rfl A1 acc.length c1 (acc.map strV) rfl (by rw [List.length_map]) ((HS.out.only HO.out (fun k hk h => by have := hk.1; have := HZ4.out; have := Hlt.out; omega)).alloc _) (some ⟨x1.heap.size, 0, none⟩) 1 1 [strV bs] rfl rfl (Rd.lit x1 #[strV bs] _) (by intro u hu; simp at hu; rw [hu]; rfl) hk2 hk3 ?_
                intro A3 c3 x2 hown3 honly3
                have hB3 := ((HK.out x1 HO.out).alloc (.cells #[strV bs] 9)).only honly3 (by have := HZ4.out; omega)
                have q1 := hB3.cell 1
                have g1 := hB3.free 1
                simp only [List.getElem?_toArray, List.getElem?_cons_zero, List.getElem?_cons_succ] at q1
                have HB3 := Lib.hid hB3
                have Hown3 := Lib.hid hown3
                have Honly3 := Lib.hid honly3
                clear hB3 hown3 honly3
                refine hK.out _ _ ?_ (fun hHeld => ?_)
                · try dsimp only
                  all_goals trivial
                clear hK K
                refine wpAnyH_take (i := 7) (v := ?_) (take_list rfl) (by kernel_rfl) (by kernel_rfl) (by kernel_rfl) (fun _ _ _ h => h) (Or.inl ⟨by rfl, ?_⟩) (by assumption) ?_
                rotate_left
                · intro w hSw
                  try dsimp only at hSw
                  first | (go_simp; done) | (go_simp; with_reducible rfl)
                try simp only [Act.put, List.setIfInBounds_toArray, List.set_cons_zero, List.set_cons_succ]
                refine wpAnyH_ready (rs := [8]) (by kernel_rfl) (by simp) ?_
                refine AllReadyH.cons (take_list rfl) (fun K hK => ?_) ?_
                · skip
                  go_simp
                  refine hK.out _ _ ?_ (fun hHeld => ?_)
                  · try dsimp only
                    all_goals trivial
                  clear hK K
                  refine wpAnyH_done (by kernel_rfl) ?_ _
                  go_wp2_with fail
                  go_roundw
                  case rel =>
                    obtain ⟨b1, b2, b3, b4⟩ := dec_round (g := g) (bs := bs) (by have := HZ4.out; omega) Ho.out HO.out HB3.out Hown3.out Honly3.out
                    exact ⟨j + 1, k, acc ++ [bs], rest', bad', A3, c3, by go_num, Lib.hid (by have := Hjm.out; have := Hk.out; omega), HRs, HSh, Hr2.out.only b4 (fun k hk h => by have := HZ4.out; have := Hlt.out; omega), b1, b2, b3⟩
                  case measure => simp [intOf]; have := Hjm.out; have := Hk.out; omega
                exact AllReadyH.nil
              exact AllReadyH.nil
            exact AllReadyH.nil
          exact AllReadyH.nil
        exact AllReadyH.nil
      exact AllReadyH.nil
end Go.Proofs.YtbokimeojhkgmaaDoor

/-
  same; WalDecodes' and WalBack's walks. No statement of the seat is proved in the part ahead of its closing.
-/
namespace Go.Proofs.YtbokimeojhkgmaaDoor
open Go Go.RowKit
set_option maxRecDepth 100000

set_option maxHeartbeats 2000000 in
theorem same_eq (b : Bt) (A B : Option Addr) (c d : Nat) (w : World) (ha : BtIn w b A c) (hb : BtIn w b B d) (hl : b.lines.length ≤ 1000000) :
    Calls Tryd.prog 15 #[btV b A c, btV b B d] w fun e w' => e = .returned (.bool true) ∧ Below w.heap.size w w' := by
  have hx : Below w.heap.size w ((w.alloc (.cells #[.int .i64 b.first, .slice A b.lines.length c] 24)).alloc (.cells #[.int .i64 b.first, .slice B b.lines.length d] 32)) := ext_alloc ((Below.refl _ _).alloc (Nat.le_refl _) _) _
  have HT := Lib.hid (texts_any A c b.lines (ha.rd.ext hx) B d b.lines (hb.rd.ext hx) hl hl)
  have Hx := Lib.hid hx
  rw [show decide (b.lines = b.lines) = true from decide_eq_true rfl] at HT
  unfold btV
  generalize b.first = f at *
  generalize b.lines.length = n at *
  clear hx ha hb
  go_enter Tryd.func15, Tryd.ntmps15
  go_wp2_with fail
  refine HT.out.mono ?_
  rintro e w1 ⟨rfl, h1⟩
  have Hb := Lib.hid (ext_trans Hx.out h1)
  clear h1
  go_wp2
  go_ret
  exact ⟨rfl, Hb.out⟩

theorem decB_len (p : List UInt8) : (decB p).1.lines.length ≤ 64 := by
  by_cases h : ∃ b, AreB p b
  · obtain ⟨b, hb⟩ := h
    rw [decB_yes hb]
    exact ((isB_iff b).1 hb.1).1.2.2.2
  · rw [decB_no (fun b hb => h ⟨b, hb⟩)]
    exact Nat.zero_le _

namespace WalDecodes
set_option maxHeartbeats 4000000 in
theorem decodes_any (p : List UInt8) (A : Option Addr) (ca : Nat) (w : World) (ht : Tab w) (hA : Rd w A (p.map bv)) (hc : p.length ≤ ca) (hm : p.length ≤ maxLen) :
    Calls Tryd.prog 4 #[.slice A p.length ca] w fun e w' => e = .returned (.bool true) ∧ Below w.heap.size w w' := by
  unfold maxLen at hm
  have hli : (p.length : Int) ≤ 9223372036854775807 := by omega
  by_cases hp : 2000 < p.length
  · have hpi : 2000 < (p.length : Int) := by omega
    clear hm hp
    go_enter Tryd.func4, Tryd.ntmps4
    go_wp2
    go_ret
    exact ⟨rfl, Below.refl _ _⟩
  have hpi : (p.length : Int) ≤ 2000 := by omega
  have hp2 : p.length ≤ 2000 := by omega
  have hk1 : 0 + p.length ≤ maxLen := by unfold maxLen; omega
  have hk2 : (0 + p.length) * 1 ≤ 140737488355328 := by omega
  have Hl := Lib.hid (decB_len p)
  have HD := Lib.hid (fun A1 c1 W (hb : Below w.heap.size w W) hr hc => decode_any p A1 c1 W (ht.ext hb) hr hc (by omega))
  have HE := Lib.hid (fun W (hb : Below w.heap.size w W) => rdecode_any p A ca W (hA.ext hb) hc (by omega))
  have HA := Lib.hid hA
  generalize decB p = R at *
  obtain ⟨r, er⟩ := R
  simp only at HD HE Hl
  unfold btV at HD HE
  clear hm hp hA ht
  go_enter Tryd.func4, Tryd.ntmps4
  go_wp2_with (at_builtin
               refine wpList_app _ rfl (.tmp 11) (.tmp 12) _ rfl _ _ 1 Tryd.underlying26 info_u8 rfl (some ⟨w.heap.size, 0, none⟩) 0 0 [] rfl rfl (Own.lit w (fun k => w.heap.size ≤ k) #[] _ (by simp) (Nat.le_refl _)) A p.length ca (p.map bv) rfl (by rw [List.length_map]) (HA.out.alloc _) (bvs_one _) hk1 hk2 ?_
               intro A1 c1 w1 hown1 honly1
               have Hown1 := Lib.hid hown1
               have Hb1 : Hid (Below w.heap.size w w1) := Lib.hid (((Below.refl _ _).alloc (Nat.le_refl _) _).trans (honly1.below (fun i hi => hi) (by simp)))
               clear hown1 honly1)
  refine (HD.out A1 c1 w1 Hb1.out (by have := Hown1.out.rd; simpa using this) (by have := Hown1.out.cap; simpa using this)).mono ?_
  rintro e w2 ⟨B2, c2, rfl, hin2, hb2⟩
  have hX2 := Blk.new w2 24 #[.int .i64 r.first, .slice B2 r.lines.length c2]
  have Hb2 : Hid (Below w.heap.size w (w2.alloc (.cells #[.int .i64 r.first, .slice B2 r.lines.length c2] 24))) := Lib.hid (ext_alloc (ext_trans Hb1.out hb2) _)
  have HI2 := Lib.hid (hin2.ext (w' := w2.alloc (.cells #[.int .i64 r.first, .slice B2 r.lines.length c2] 24)) ((Below.refl _ _).alloc (Nat.le_refl _) _))
  have HX2 := Lib.hid hX2
  clear hX2 hin2 hb2
  go_wp2_with fail
  refine (HE.out _ Hb2.out).mono ?_
  rintro e w3 ⟨B3, c3, rfl, hin3, hb3⟩
  obtain ⟨w4, hw4⟩ : ∃ w4, w4 = w3.alloc (.cells #[.int .i64 r.first, .slice B3 r.lines.length c3] 32) := ⟨_, rfl⟩
  have h34 : Below w3.heap.size w3 w4 := by rw [hw4]; exact (Below.refl _ _).alloc (Nat.le_refl _) _
  have hX4 : Blk w4 w2.heap.size 24 #[.int .i64 r.first, .slice B2 r.lines.length c2] := (HX2.out.ext hb3).ext h34
  have hY4 : Blk w4 w3.heap.size 32 #[.int .i64 r.first, .slice B3 r.lines.length c3] := by rw [hw4]; exact Blk.new _ _ _
  have Hb4 : Hid (Below w.heap.size w w4) := Lib.hid (ext_trans (ext_trans Hb2.out hb3) h34)
  have HS := Lib.hid (same_eq r B2 B3 c2 c3 w4 ((HI2.out.ext hb3).ext h34) (hin3.ext h34) (by have := Hl.out; omega))
  unfold btV at HS
  have a0 := hX4.cell 0
  have a1 := hX4.cell 1
  have b0 := hY4.cell 0
  have b1 := hY4.cell 1
  simp only [List.getElem?_toArray, List.getElem?_cons_zero, List.getElem?_cons_succ] at a0 a1 b0 b1
  rw [hw4] at a0 a1 b0 b1
  have Hw4 := Lib.hid hw4
  clear hw4 h34 hX4 hY4 hin3 hb3
  go_wp2_with fail
  rw [← Hw4.out]
  refine HS.out.mono ?_
  rintro e w5 ⟨rfl, hb5⟩
  have Hb5 := Lib.hid (ext_trans Hb4.out hb5)
  clear hb5 a0 a1 b0 b1
  go_wp2_with fail
  refine (known20_any _).mono ?_
  rintro e w6 ⟨rfl, hb⟩
  have Hb6 := Lib.hid (ext_trans Hb5.out hb)
  clear hb
  go_wp2
  go_ret
  exact ⟨rfl, Hb6.out⟩
end WalDecodes
end Go.Proofs.YtbokimeojhkgmaaDoor

/-
  What the arguments of the laws read as, in this seat's words for memory (numbers, bytes); how a law's contract closes its statement. No statement of the seat is proved here.
-/
namespace Go.Proofs.YtbokimeojhkgmaaDoor
open Go Go.ChangeShapes Go.WideShapes Go.ChangeAt Go.RowKit

theorem cells_u8 : Tryd.prog.cellsOf 5 = 1 := by kernel_rfl
theorem cells_int : Tryd.prog.cellsOf 3 = 1 := by kernel_rfl

section
variable {H : Type} {enc : TypeId × Value → H} {W : World} {base : Nat}
theorem bv_of {z : Int} (h : (Lit.int .u8 z).wf = true) : Value.int .u8 z = bv z.toNat.toUInt8 := by
  have h1 : IntKind.u8.min = 0 := rfl
  have h2 : IntKind.u8.max = 255 := rfl
  simp only [Lit.wf, Bool.and_eq_true, decide_eq_true_eq] at h
  unfold bv
  rw [show (z.toNat.toUInt8.toNat : Int) = z by simp [Nat.toUInt8, UInt8.toNat_ofNat']; omega]

/-- the bytes that numbers are -/
def toBytes (zs : List Int) : List UInt8 := zs.map fun z => z.toNat.toUInt8

theorem rd_bytes {a : Addr} {len : Nat} {zs : List Int} (hl : len ≤ zs.length) (hc : ∀ i, i < zs.length → W.cell? (a.add i) = some (.int .u8 (zs.getD i 0))) (hw : ∀ n ∈ zs, (Lit.int .u8 n).wf = true) :
    Rd W (some a) ((toBytes (zs.take len)).map bv) := by
  intro j u hu
  have hj : j < len := by
    have := (List.getElem?_eq_some_iff.1 hu).1
    simp [toBytes] at this; omega
  refine ⟨a, rfl, ?_⟩
  rw [hc j (by omega), ← hu]
  have hz : zs.getD j 0 = zs[j]'(by omega) := by simp [List.getD, show j < zs.length by omega]
  rw [hz, bv_of (hw _ (List.getElem_mem _))]
  simp [toBytes, hj, show j < zs.length by omega]

set_option maxRecDepth 100000 in
theorem arg_bytes {v : Value} {d : DataW H} {p : List MemPlace} (hv : Value.okWide Tryd.prog W .any base 26 v) (h : DataW.Trod enc Tryd.prog W 0 (fun _ => true) true 26 v d p) :
    ∃ (A : Option Addr) (n c : Nat) (xs : List UInt8), v = .slice A n c ∧ n = xs.length ∧ xs.length ≤ c ∧ c ≤ maxLen ∧ Rd W A (xs.map bv) := by
  obtain ⟨a0, len, cap, rfl⟩ := okWide_slice Tryd.underlying26 hv
  obtain ⟨fuel, hf⟩ := h
  rcases open_ints Tryd.underlying26 Tryd.underlying5 cells_u8 hf with ⟨hcs, hx⟩ | ⟨a, len', cap', zs, hcs, _, hl, hm, hz, hx, hcell, hwz⟩
  · simp [Value.cells] at hcs
    obtain ⟨rfl, rfl, rfl⟩ := hcs
    exact ⟨none, 0, 0, [], rfl, rfl, Nat.le_refl _, Nat.zero_le _, Rd.nil _ _⟩
  · simp [Value.cells] at hcs
    obtain ⟨rfl, rfl, rfl⟩ := hcs
    simp only [if_true] at hz
    exact ⟨some a, len, cap, toBytes (zs.take len), rfl, by simp [toBytes]; omega, by simp [toBytes]; omega, hm, rd_bytes (by omega) hcell hwz⟩

end

end Go.Proofs.YtbokimeojhkgmaaDoor

/-
  WalBack's walk. No statement of the seat is proved in the part ahead of its closing.
-/
namespace Go.Proofs.YtbokimeojhkgmaaDoor
open Go Go.RowKit
set_option maxRecDepth 100000

theorem encB_len {b : Bt} (h : isB b = true) : (encB b).length ≤ 20000 := by
  obtain ⟨⟨_, _, _, h4⟩, h5⟩ := (isB_iff b).1 h
  have h1 := rowsTo_len b.lines h5 b.lines.length
  have h2 := numsTo_len [b.first, (b.lines.length : Int)] 2
  rw [show numsTo [b.first, (b.lines.length : Int)] 2 = numsB [b.first, (b.lines.length : Int)] from numsTo_all _] at h2
  rw [rowsTo_all] at h1
  unfold encB bodyB
  rw [sealB_length, List.length_append]
  omega
namespace WalBack
set_option maxHeartbeats 4000000 in
theorem back_any (b : Bt) (B : Option Addr) (c : Nat) (w : World) (ht : Tab w) (h : isInt b.first ∧ b.lines.length ≤ c ∧ c ≤ maxLen ∧ (B = none → c = 0) ∧ Rd w B (b.lines.map strV)) (hz : ∀ n ∈ lensB b, n ≤ 140737488355328) :
    Calls Tryd.prog 5 #[btV b B c] w fun e w' => e = .returned (.bool true) ∧ Below w.heap.size w w' := by
  obtain ⟨w1, hw1⟩ : ∃ w1, w1 = w.alloc (.cells #[.int .i64 b.first, .slice B b.lines.length c] 24) := ⟨_, rfl⟩
  have hb1 : Below w.heap.size w w1 := by rw [hw1]; exact (Below.refl _ _).alloc (Nat.le_refl _) _
  have hB1 : Blk w1 w.heap.size 24 #[.int .i64 b.first, .slice B b.lines.length c] := by rw [hw1]; exact Blk.new _ _ _
  obtain ⟨w2, hw2⟩ : ∃ w2, w2 = w1.alloc (.cells #[.int .i64 b.first, .slice B b.lines.length c] 24) := ⟨_, rfl⟩
  have hb2 : Below w.heap.size w w2 := by rw [hw2]; exact ext_alloc hb1 _
  have hB2 : Blk w2 w.heap.size 24 #[.int .i64 b.first, .slice B b.lines.length c] := by rw [hw2]; exact hB1.alloc _
  have hN2 : Blk w2 w1.heap.size 24 #[.int .i64 b.first, .slice B b.lines.length c] := by rw [hw2]; exact Blk.new _ _ _
  have h2 : isInt b.first ∧ b.lines.length ≤ c ∧ c ≤ maxLen ∧ (B = none → c = 0) ∧ Rd w2 B (b.lines.map strV) := ⟨h.1, h.2.1, h.2.2.1, h.2.2.2.1, h.2.2.2.2.ext hb2⟩
  have HL := Lib.hid (long1b_any h2 hz hN2)
  have hs1 : w1.heap.size = w.heap.size + 1 := by rw [hw1, World.size_alloc]
  rw [hs1] at HL
  have HI := Lib.hid (BtIn.of h hz)
  have HB2 := Lib.hid hB2
  have Hb2 := Lib.hid hb2
  have Hw1 := Lib.hid hw1
  have Hw2 := Lib.hid hw2
  have Ht := Lib.hid ht
  have HS := Lib.hid (is20_any b B c w2 (HI.out.ext hb2))
  have h0 := hB1.cell 0
  have h1 := hB1.cell 1
  have k0 := hB2.cell 0
  have k1 := hB2.cell 1
  simp only [List.getElem?_toArray, List.getElem?_cons_zero, List.getElem?_cons_succ] at h0 h1 k0 k1
  rw [hw1] at h0 h1
  unfold btV at HS ⊢
  generalize decide (9000 < cntL b.lines) = v at *
  clear h h2 hz hb1 hb2 hB1 hB2 hN2 hw1 hw2 ht hs1
  go_enter Tryd.func5, Tryd.ntmps5
  go_wp2_with fail
  rw [← Hw1.out, ← Hw2.out]
  refine HL.out.mono ?_
  rintro e w' ⟨rfl, rfl⟩
  clear h0 h1 HL
  cases v with
  | true =>
    go_wp2
    go_ret
    exact ⟨rfl, Hb2.out⟩
  | false =>
    go_wp2_with fail
    refine HS.out.mono ?_
    rintro e w3 ⟨rfl, hb3⟩
    have HB3 := Lib.hid (HB2.out.ext hb3)
    have Hb3 := Lib.hid (ext_trans Hb2.out hb3)
    clear hb3 k0 k1 HS
    cases hi : isB b with
    | false =>
      clear hi
      go_wp2
      go_ret
      exact ⟨rfl, Hb3.out⟩
    | true =>
      have HL := Lib.hid (encB_len hi)
      have HE := Lib.hid (encode_any b B c w3 (Ht.out.ext Hb3.out) (HI.out.ext Hb3.out))
      rw [show encR b = (encB b, 0) by unfold encR; rw [hi]; rfl] at HE
      have hd : decB (encB b) = (b, 0) := decB_yes ⟨hi, rfl⟩
      have Hd := Lib.hid hd
      have H64 : Hid (b.lines.length ≤ 64) := Lib.hid ((isB_iff b).1 hi).1.2.2.2
      simp only at HE
      unfold btV at HE
      clear hi hd
      have h0 := HB3.out.cell 0
      have h1 := HB3.out.cell 1
      simp only [List.getElem?_toArray, List.getElem?_cons_zero, List.getElem?_cons_succ] at h0 h1
      generalize encB b = p at *
      go_wp2_with fail
      refine HE.out.mono ?_
      rintro e w4 ⟨A4, c4, rfl, hn4, hb4⟩
      have HD := Lib.hid (decode_any p A4 c4 w4 (Ht.out.ext (ext_trans Hb3.out hb4)) hn4.rd (by have := hn4.cap; simpa using this) (by have := HL.out; omega))
      rw [Hd.out] at HD
      simp only at HD
      unfold btV at HD
      have HB4 := Lib.hid (HB3.out.ext hb4)
      have Hb4 := Lib.hid (ext_trans Hb3.out hb4)
      clear h0 h1 hn4 hb4 HE
      go_wp2_with fail
      refine HD.out.mono ?_
      rintro e w5 ⟨B5, c5, rfl, hin5, hb5⟩
      obtain ⟨w6, hw6⟩ : ∃ w6, w6 = w5.alloc (.cells #[.int .i64 b.first, .slice B5 b.lines.length c5] 24) := ⟨_, rfl⟩
      have h56 : Below w5.heap.size w5 w6 := by rw [hw6]; exact (Below.refl _ _).alloc (Nat.le_refl _) _
      have hX6 : Blk w6 w.heap.size 24 #[.int .i64 b.first, .slice B b.lines.length c] := (HB4.out.ext hb5).ext h56
      have hY6 : Blk w6 w5.heap.size 24 #[.int .i64 b.first, .slice B5 b.lines.length c5] := by rw [hw6]; exact Blk.new _ _ _
      have Hb6 : Hid (Below w.heap.size w w6) := Lib.hid (ext_trans (ext_trans Hb4.out hb5) h56)
      have HQ := Lib.hid (same_eq b B5 B c5 c w6 (hin5.ext h56) (HI.out.ext Hb6.out) (by have := H64.out; omega))
      unfold btV at HQ
      have a0 := hX6.cell 0
      have a1 := hX6.cell 1
      have b0 := hY6.cell 0
      have b1 := hY6.cell 1
      simp only [List.getElem?_toArray, List.getElem?_cons_zero, List.getElem?_cons_succ] at a0 a1 b0 b1
      rw [hw6] at a0 a1 b0 b1
      have Hw6 := Lib.hid hw6
      clear hw6 h56 hX6 hY6 hin5 hb5
      go_wp2_with fail
      rw [← Hw6.out]
      refine HQ.out.mono ?_
      rintro e w7 ⟨rfl, hb7⟩
      have Hb7 := Lib.hid (ext_trans Hb6.out hb7)
      clear hb7 a0 a1 b0 b1
      go_wp2_with fail
      refine (known20_any _).mono ?_
      rintro e w8 ⟨rfl, hb⟩
      have Hb8 := Lib.hid (ext_trans Hb7.out hb)
      clear hb
      go_wp2
      go_ret
      exact ⟨rfl, Hb8.out⟩
end WalBack
end Go.Proofs.YtbokimeojhkgmaaDoor
